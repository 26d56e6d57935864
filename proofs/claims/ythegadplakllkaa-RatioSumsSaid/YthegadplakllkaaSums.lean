/-
  The law RatioSums answers true: its walk out of the contracts.
-/
import Derived.Test.YthegadplakllkaaWalksG
import Derived.Test.YthegadplakllkaaAwake
import Derived.Test.YthegadplakllkaaMathD
import Derived.OwnWalk
import Derived.Deep.AppendLies
import Derived.Deep.RegionWith
namespace Go.Proofs.Ythegadplakllkaa
open Go.ChangeShapes Go.WideShapes Go.ChangeAt Go.RowKit

/-- A list of fractions, as the cells of a slice. -/
def pcells (l : List (Int × Int)) : List Value := l.flatMap fun f => [.int .u64 f.1, .int .u64 f.2]
theorem pcells_len (l : List (Int × Int)) : (pcells l).length = l.length * 2 := by
  induction l with
  | nil => rfl
  | cons a l ih => simp only [pcells, List.flatMap_cons, List.length_append, List.length_cons, List.length_nil] at *; omega
theorem pcells_snoc (l : List (Int × Int)) (k : Nat) (h : k < l.length) {p q : Int} (hpq : l.getD k (0, 0) = (p, q)) : pcells (l.take (k + 1)) = pcells (l.take k) ++ [.int .u64 p, .int .u64 q] := by
  have e : l[k] = (p, q) := by rw [← hpq, List.getD_eq_getElem?_getD, List.getElem?_eq_getElem h]; rfl
  simp only [pcells, List.take_succ_eq_append_getElem h, List.flatMap_append, List.flatMap_cons, List.flatMap_nil, List.append_nil, e]
theorem pcells_at : ∀ (l : List (Int × Int)) (i : Nat), i < l.length → (pcells l)[i * 2]? = some (.int .u64 (l.getD i (0, 0)).1) ∧ (pcells l)[i * 2 + 1]? = some (.int .u64 (l.getD i (0, 0)).2)
  | [], i, h => by simp at h
  | a :: l, 0, _ => by simp [pcells]
  | a :: l, i + 1, h => by
    have := pcells_at l i (by simp at h; omega)
    have e1 : (i + 1) * 2 = i * 2 + 2 := by omega
    rw [e1]
    simpa [pcells] using this
/-- What the call owns reads as the list. -/
theorem Fracs.own {w : World} {base : Nat} {A : Option Addr} {n c : Nat} {e : TypeId} {l : List (Int × Int)} (h : w.ownsRow base e 2 (.slice A n c) n (pcells l)) : Fracs w.heap.size w A l := fun hn => by
  have hl := h.1
  rw [pcells_len] at hl
  rcases h.2 with ⟨hv, h0⟩ | ⟨g, cap, cur, hv, _, hg, _⟩
  · omega
  · simp only [Value.slice.injEq, true_and] at hv
    obtain ⟨rfl, rfl⟩ := hv
    have hlt := (h.lt g rfl).2
    refine ⟨g, 0, rfl, hlt, fun i hi => ?_⟩
    have := pcells_at l i hi
    refine ⟨?_, ?_⟩
    · rw [Nat.zero_add, h.cellAt _ (by omega)]; exact this.1
    · rw [Nat.zero_add, h.cellAt _ (by omega)]; exact this.2
theorem getD_back (l : List (Int × Int)) (k m : Nat) (h : m + k + 1 = l.length) : l.reverse.getD k (0, 0) = l.getD m (0, 0) := by
  rw [List.getD_eq_getElem?_getD, List.getD_eq_getElem?_getD, List.getElem?_reverse (by omega)]
  congr 2
  omega
theorem InWords.back {l : List (Int × Int)} (h : InWords l) : InWords l.reverse := fun i => by
  by_cases hi : i < l.length
  · rw [getD_back l i (l.length - 1 - i) (by omega)]
    exact h _
  · have e : l.reverse.getD i (0, 0) = (0, 0) := by
      rw [List.getD_eq_getElem?_getD, List.getElem?_eq_none (by simp; omega)]
      rfl
    rw [e]
    decide
theorem two_new (w : World) (p q : Int) (t : TypeId) : ∀ j u, ([.int .u64 p, .int .u64 q] : List Value)[j]? = some u → (w.alloc (.cells #[.int .u64 p, .int .u64 q] t)).cell? ((⟨w.heap.size, 0, none⟩ : Addr).add j) = some u
  | 0, u, h => by simp at h; subst h; rw [show (⟨w.heap.size, 0, none⟩ : Addr).add 0 = ⟨w.heap.size, 0, none⟩ from rfl, World.cell?_alloc_at _ _ _ _ rfl]; rfl
  | 1, u, h => by simp at h; subst h; rw [show (⟨w.heap.size, 0, none⟩ : Addr).add 1 = ⟨w.heap.size, 1, none⟩ from rfl, World.cell?_alloc_at _ _ _ _ rfl]; rfl
  | j + 2, u, h => by simp at h
theorem info_frac : (Try.prog.info? 25).map (fun i => (i.zero, i.size, i.bytes)) = some (some (.agg #[.int .u64 0, .int .u64 0]), 2, 16) := by kernel_rfl

set_option maxHeartbeats 2000000 in
theorem sums_any (A : Option Addr) (n c : Nat) (l : List (Int × Int)) (w : World) (hln : l.length = n) (hL : Fracs w.heap.size w A l) (hI : Hid (InWords l)) :
    Calls Try.prog 5 #[.slice A n c] w fun e w' => e = .returned (.bool true) ∧ Below w.heap.size w w' := by
  have HL := Lib.hid hL
  have Hl := Lib.hid hln
  clear hL hln
  obtain ⟨i0, hi, hz0, hz1, hz2⟩ := info_parts info_frac
  by_cases hbig : n ≤ 40
  · have hd1 : decide ((40 : Int) < (n : Int)) = false := by simp; omega
    go_enter Try.func5, Try.ntmps5
    go_wp2_with fail
    go_loopw [4, 5, 6, 7] (fun f x y i wr => ∃ (k : Nat) (X Y : Option Addr) (cx cy : Nat) (p q e : Int), k ≤ n ∧ i = .int .i64 k ∧ x = .slice X k cx ∧ y = .slice Y k cy ∧ f = .int .i64 e ∧ k ≤ cx ∧ k ≤ cy ∧ 0 ≤ p ∧ p < 18446744073709551616 ∧ 0 ≤ q ∧ q < 18446744073709551616 ∧ Hid (Rt.sumTo l k = (p, q, e)) ∧ Hid (e = 0 ∨ e = 1 ∨ e = 24) ∧
      Hid (wr.ownsRow (w.heap.size + 1) 25 2 (.slice X k cx) k (pcells (l.take k))) ∧ Hid (wr.ownsRow (w.heap.size + 1) 25 2 (.slice Y k cy) k (pcells (l.reverse.take k))) ∧ Hid ((Value.slice Y k cy).ownBlock = none ∨ (Value.slice Y k cy).ownBlock ≠ (Value.slice X k cx).ownBlock) ∧
      Below w.heap.size w wr ∧ w.heap.size < wr.heap.size ∧ wr.cell? ⟨w.heap.size, 0, none⟩ = some (.int .u64 p) ∧ wr.cell? ⟨w.heap.size, 1, none⟩ = some (.int .u64 q) ∧ wr.frozen? ⟨w.heap.size, 0, none⟩ = false ∧ wr.frozen? ⟨w.heap.size, 1, none⟩ = false) (fun _ _ _ i _ => (n - intOf i).toNat)
    case atStart => exact ⟨0, none, none, 0, 0, 0, 1, 0, by omega, rfl, rfl, rfl, rfl, by omega, by omega, by omega, by omega, by omega, by omega, (rfl : Rt.sumTo l 0 = (0, 1, 0)), Or.inl rfl, World.ownsRow_nil _ _ _ _, World.ownsRow_nil _ _ _ _, Or.inl rfl, (Below.refl _ _).alloc (Nat.le_refl _) _, by simp, by simp [go_sem], by simp [go_sem], by simp [go_sem], by simp [go_sem]⟩
    case round =>
      obtain ⟨k, X, Y, cx, cy, p, q, e, hk, rfl, rfl, rfl, rfl, hkx, hky, hp1, hp2, hq1, hq2, hs, hE, hX, hY, hXY, hb, hz, hc1, hc2, hf1, hf2⟩ := hrel
      by_cases hlt : k < n
      · obtain ⟨m, hm⟩ : ∃ m, m + k + 1 = n := ⟨n - 1 - k, by omega⟩
        obtain ⟨ab, ao, hA, hB, hcell⟩ := HL.out (by rw [Hl.out]; omega)
        subst hA
        obtain ⟨hx1, hx2⟩ := hcell k (by rw [Hl.out]; exact hlt)
        obtain ⟨hy1, hy2⟩ := hcell m (by rw [Hl.out]; omega)
        clear hcell
        have hback := getD_back l k m (by rw [Hl.out]; exact hm)
        obtain ⟨i1, i2, i3, i4⟩ := hI.out k
        obtain ⟨px, py, hpx⟩ : ∃ x y, l.getD k (0, 0) = (x, y) := ⟨_, _, rfl⟩
        obtain ⟨mx, my, hmx⟩ : ∃ x y, l.getD m (0, 0) = (x, y) := ⟨_, _, rfl⟩
        have hsx := Lib.hid (pcells_snoc l k (by rw [Hl.out]; exact hlt) hpx)
        have hsy := Lib.hid (pcells_snoc l.reverse k (by rw [List.length_reverse, Hl.out]; exact hlt) (hback.trans hmx))
        have Hpx := Lib.hid hpx
        rw [hpx] at hx1 hx2 i1 i2 i3 i4
        rw [hmx] at hy1 hy2
        clear hpx hmx hback
        have HS : Hid (∀ w' : World, Below (w.heap.size + 1) wr w' → Below (w.heap.size + 1) wr w' ∧ w'.cell? ⟨ab, ao + k * 2, none⟩ = some (.int .u64 px) ∧ w'.cell? ⟨ab, ao + k * 2 + 1, none⟩ = some (.int .u64 py) ∧ w'.cell? ⟨ab, ao + m * 2, none⟩ = some (.int .u64 mx) ∧ w'.cell? ⟨ab, ao + m * 2 + 1, none⟩ = some (.int .u64 my)) := by
          intro w' h
          obtain ⟨e1, -⟩ := old_cells h
          obtain ⟨e2, -⟩ := old_cells hb
          refine ⟨h, ?_, ?_, ?_, ?_⟩ <;> (rw [e1 _ _ (by omega), e2 _ _ hB]; assumption)
        have HB : Hid (w.heap.size + 1 ≤ wr.heap.size) := (hz : w.heap.size + 1 ≤ wr.heap.size)
        have hk0 : (0 : Int) ≤ k := by omega
        have hkn : (k : Int) < n := by omega
        have hm0 : (0 : Int) ≤ m := by omega
        have hmn : (m : Int) < n := by omega
        have hw1 : IntKind.i64.wrap ((n : Int) - 1) = (n : Int) - 1 := IntWalk.i64_in _ (by omega)
        have hw2 : IntKind.i64.wrap ((n : Int) - 1 - (k : Int)) = (m : Int) := by
          rw [IntWalk.i64_in _ (by omega)]
          omega
        have Hmk := Lib.hid hm
        clear hm
        go_wp2_with fail
        go_region_held3 (fun w' => Below (w.heap.size + 1) wr w' ∧ w'.cell? ⟨ab, ao + k * 2, none⟩ = some (.int .u64 px) ∧ w'.cell? ⟨ab, ao + k * 2 + 1, none⟩ = some (.int .u64 py) ∧ w'.cell? ⟨ab, ao + m * 2, none⟩ = some (.int .u64 mx) ∧ w'.cell? ⟨ab, ao + m * 2 + 1, none⟩ = some (.int .u64 my))
          (first | with_reducible exact HS.out _ G7.out | with_reducible exact HS.out _ (below_new HB.out G6.out _) | with_reducible exact HS.out _ G6.out | with_reducible exact HS.out _ G5.out | with_reducible exact HS.out _ (below_new HB.out G4.out _) | with_reducible exact HS.out _ G4.out | with_reducible exact HS.out _ (Below.refl _ _).drew)
          (first
            | (go_at_call 8; with_reducible refine (to_any px py _).mono ?_; rintro e4 w4 ⟨rfl, hb4⟩; have G4 := Lib.hid (below_call HB.out (Below.refl _ _).drew hb4); have X4 := Lib.hid (own_call (own_drew hX.out) hb4); have Y4 := Lib.hid (own_call (own_drew hY.out) hb4); clear hb4)
            | (go_at_call 8; with_reducible refine (to_any mx my _).mono ?_; rintro e6 w6 ⟨rfl, hb6⟩; have G6 := Lib.hid (below_call HB.out G5.out hb6); have X6 := Lib.hid (own_call X5.out hb6); have Y6 := Lib.hid (own_call Y5.out hb6); have Z6 := Lib.hid hb6.size; clear hb6)
            | (refine step_append_lies _ rfl (.tmp 23) (.tmp 29) 44 rfl (w.heap.size + 1) 25 i0 (.agg #[.int .u64 0, .int .u64 0]) 2 16 Try.underlying44 hi hz0 hz1 hz2 rfl (by decide) (.slice X k cx) k (pcells (l.take k)) rfl (X4.out.alloc _) ⟨w4.heap.size, 0, none⟩ 1 1 [.int .u64 px, .int .u64 py] rfl rfl (two_new w4 px py _) (by simp [Value.oneCell']) (by decide) (by unfold maxLen; omega) (by omega) (by have := size_kept HB.out G4.out; simp; omega) (w4.heap.size + 1) (by simp) ?_; intro gx capx w5 X5' hgrow5 hat5 hlt5; have G5 := Lib.hid ((below_new HB.out G4.out _).grown hgrow5 (by have := size_kept HB.out G4.out; simp; omega) (own_base X4.out)); have Y5 := Lib.hid ((Y4.out.alloc _).kept hgrow5 hXY.out); have T5 := Lib.hid (still_two hXY.out hat5 (fun y hy => (Y4.out.lt y hy).2)); have X5 := Lib.hid X5'; have L5 := Lib.hid hlt5; clear X5' hgrow5 hat5 hlt5)
            | (refine step_append_lies _ rfl (.tmp 31) (.tmp 41) 44 rfl (w.heap.size + 1) 25 i0 (.agg #[.int .u64 0, .int .u64 0]) 2 16 Try.underlying44 hi hz0 hz1 hz2 rfl (by decide) (.slice Y k cy) k (pcells (l.reverse.take k)) rfl (Y6.out.alloc _) ⟨w6.heap.size, 0, none⟩ 1 1 [.int .u64 mx, .int .u64 my] rfl rfl (two_new w6 mx my _) (by simp [Value.oneCell']) (by decide) (by unfold maxLen; omega) (by omega) (by have := size_kept HB.out G6.out; simp; omega) (w6.heap.size + 1) (by simp) ?_; intro gy capy w7 Y7' hgrow7 hat7 hlt7; have G7 := Lib.hid ((below_new HB.out G6.out _).grown hgrow7 (by have := size_kept HB.out G6.out; simp; omega) (own_base Y6.out)); have X7 := Lib.hid ((X6.out.alloc _).kept hgrow7 (Or.inr (Ne.symm T5.out))); have Y7 := Lib.hid Y7'; have A7 := Lib.hid hat7; clear Y7' hgrow7 hat7 hlt7))
        have hb7 : Below w.heap.size w w7 := hb.trans (G7.out.mono (Nat.le_succ _))
        obtain ⟨-, t1, t2, t3, t4⟩ := HS.out _ G7.out
        obtain ⟨e7, f7⟩ := old_cells G7.out
        have c1 : w7.cell? ⟨w.heap.size, 0, none⟩ = some (.int .u64 p) := (e7 _ _ (Nat.lt_succ_self _)).trans hc1
        have c2 : w7.cell? ⟨w.heap.size, 1, none⟩ = some (.int .u64 q) := (e7 _ _ (Nat.lt_succ_self _)).trans hc2
        have f1 : w7.frozen? ⟨w.heap.size, 0, none⟩ = false := (f7 _ _ (Nat.lt_succ_self _)).trans hf1
        have f2 : w7.frozen? ⟨w.heap.size, 1, none⟩ = false := (f7 _ _ (Nat.lt_succ_self _)).trans hf2
        have z7 : w.heap.size < w7.heap.size := Nat.lt_of_lt_of_le hz G7.out.size
        have T7 : Hid (gy ≠ gx) := by
          intro h
          rcases A7.out with h2 | h2
          · exact T5.out (h2.trans (congrArg some h))
          · have := L5.out
            have := Z6.out
            omega
        have HXr : Hid (w7.ownsRow (w.heap.size + 1) 25 2 (.slice (some ⟨gx, 0, none⟩) (k + 1) capx) (k + 1) (pcells (l.take (k + 1)))) := by
          rw [Hid, hsx.out]
          exact X7.out
        have HYr : Hid (w7.ownsRow (w.heap.size + 1) 25 2 (.slice (some ⟨gy, 0, none⟩) (k + 1) capy) (k + 1) (pcells (l.reverse.take (k + 1)))) := by
          rw [Hid, hsy.out]
          exact Y7.out
        have HXYr : Hid ((Value.slice (some ⟨gy, 0, none⟩) (k + 1) capy).ownBlock = none ∨ (Value.slice (some ⟨gy, 0, none⟩) (k + 1) capy).ownBlock ≠ (Value.slice (some ⟨gx, 0, none⟩) (k + 1) capx).ownBlock) := Or.inr (by
          intro h
          simp only [Value.ownBlock, Option.some.injEq] at h
          exact T7.out h)
        clear e7 f7 hc1 hc2 hf1 hf2 hz hx1 hx2 hy1 hy2 t3 t4
        rcases hE.out with he | he
        · subst he
          go_wp2_with fail
          go_region_with ((go_at_call 17; refine (radd_any p q px py _ hp1 hp2 hq1 hq2 i1 i2 i3 i4).mono ?_; rintro e8 w8 ⟨rfl, hb8⟩; obtain ⟨a8, b8⟩ := old_cells hb8; have k1 := (a8 w.heap.size 0 z7).trans c1; have k2 := (a8 w.heap.size 1 z7).trans c2; have k3 := (b8 w.heap.size 0 z7).trans f1; have k4 := (b8 w.heap.size 1 z7).trans f2))
          all_goals
            have hbd := Rt.add_bd p q px py hp1 hq1 i1 i3
            have hst := Rt.sumTo_step hs.out (px, py) Hpx.out
            have Hbd := Lib.hid hbd
            have Hst := Lib.hid hst
            clear hbd hst
            go_wp2
            go_roundw
            case rel =>
              refine ⟨k + 1, some ⟨gx, 0, none⟩, some ⟨gy, 0, none⟩, capx, capy, _, _, _, by omega, by go_num, rfl, rfl, rfl, own_cap HXr.out, own_cap HYr.out, Hbd.out.1.1, Hbd.out.1.2, Hbd.out.2.1, Hbd.out.2.2, Hst.out, Rt.add_kinds p q px py, ?_, ?_, HXYr.out, ?_, ?_, ?_, ?_, ?_, ?_⟩
              · exact ownsRow_setCell_below (ownsRow_setCell_below (own_call (own_drew HXr.out) hb8) (Nat.lt_succ_self _) _) (Nat.lt_succ_self _) _
              · exact ownsRow_setCell_below (ownsRow_setCell_below (own_call (own_drew HYr.out) hb8) (Nat.lt_succ_self _) _) (Nat.lt_succ_self _) _
              · exact ((hb7.drew.trans (hb8.mono (Nat.le_of_lt z7))).setCell (Nat.le_refl _) _).setCell (Nat.le_refl _) _
              · have := Nat.lt_of_lt_of_le z7 hb8.size
                simpa [World.setCell] using this
              · simp [go_sem, k1]
              · simp [go_sem, k2]
              · simp [k3]
              · simp [k4]
            case measure => simp [intOf]; omega
        · have he0 : ¬ e = 0 := by omega
          have hef : (e == 0) = false := by simp [he0]
          have hst := Lib.hid (Rt.sumTo_far hs.out he0 (k + 1) (Nat.le_succ k))
          clear he he0
          go_wp2
          go_roundw
          case rel => exact ⟨k + 1, some ⟨gx, 0, none⟩, some ⟨gy, 0, none⟩, capx, capy, p, q, e, by omega, by go_num, rfl, rfl, rfl, own_cap HXr.out, own_cap HYr.out, hp1, hp2, hq1, hq2, hst.out, hE.out, HXr.out, HYr.out, HXYr.out, hb7, z7, c1, c2, f1, f2⟩
          case measure => simp [intOf]; omega
      · obtain rfl : n = k := by omega
        have FX : Hid (Fracs wr.heap.size wr X l) := Fracs.own (by have := hX.out; rwa [List.take_of_length_le (by rw [Hl.out]; exact Nat.le_refl _)] at this)
        have FY : Hid (Fracs wr.heap.size wr Y l.reverse) := Fracs.own (by have := hY.out; rwa [List.take_of_length_le (by rw [List.length_reverse, Hl.out]; exact Nat.le_refl _)] at this)
        have C1 : Hid (∀ w : World, Fracs w.heap.size w X l → _) := fun w h => sum_any X n cx l w Hl.out (by omega) h hI
        have C2 : Hid (∀ w : World, Fracs w.heap.size w Y l.reverse → _) := fun w h => sum_any Y n cy l.reverse w (by rw [List.length_reverse]; exact Hl.out) (by omega) h hI.out.back
        have s0 : Rt.sumTo l l.length = (p, q, e) := by rw [Hl.out]; exact hs.out
        have s1 : Rt.sumN l = p := by rw [Rt.sumN, s0]
        have s2 : Rt.sumD l = q := by rw [Rt.sumD, s0]
        have s3 : Rt.sumE l = e := by rw [Rt.sumE, s0]
        have hbk : e = 0 → Rt.sumE l.reverse = 0 → Rt.sumN l.reverse = p ∧ Rt.sumD l.reverse = q := fun h1 h2 => by
          rw [← s1, ← s2]
          exact Rt.sum_back l (fun i => (hI.out i).1) (fun i => (hI.out.back i).1) (s3.trans h1) h2
        rw [s1, s2, s3] at C1
        generalize Rt.sumN l.reverse = P at C2 hbk
        generalize Rt.sumD l.reverse = Q at C2 hbk
        generalize Rt.sumE l.reverse = E at C2 hbk
        have Hbk := Lib.hid hbk
        clear hbk s0 s1 s2 s3 hX hY hXY hs
        go_wp2_with fail
        refine (C1.out _ FX.out).mono ?_
        rintro e1 w1 ⟨rfl, hb1⟩
        have hw1 : Below w.heap.size w w1 := hb.trans (hb1.mono (Nat.le_of_lt hz))
        obtain ⟨a1, b1⟩ := old_cells hb1
        have z1 : w.heap.size < w1.heap.size := Nat.lt_of_lt_of_le hz hb1.size
        have r1 := (a1 w.heap.size 0 hz).trans hc1
        have r2 := (a1 w.heap.size 1 hz).trans hc2
        have hal : Below wr.heap.size wr (w1.alloc (.cells #[.int .u64 p, .int .u64 q] 25)) := hb1.alloc hb1.size _
        have FY2 : Hid (Fracs (w1.alloc (.cells #[.int .u64 p, .int .u64 q] 25)).heap.size (w1.alloc (.cells #[.int .u64 p, .int .u64 q] 25)) Y l.reverse) := (FY.out.below hal).mono hal.size
        clear a1 b1 hc1 hc2 hf1 hf2 hb1 hal
        go_wp2_with fail
        refine (C2.out _ FY2.out).mono ?_
        rintro e2 w2 ⟨rfl, hb2⟩
        have z2 : w1.heap.size < w2.heap.size := by have := hb2.size; simp at this; omega
        have z3 : w1.heap.size ≤ w2.heap.size := by omega
        have z4 : w.heap.size < w2.heap.size := by omega
        have z5 : w.heap.size ≤ w2.heap.size := by omega
        have hw2 : Below w.heap.size w w2 := (hw1.alloc (by omega) _).trans (hb2.mono (by simp; omega))
        obtain ⟨a2, b2⟩ := old_cells hb2
        have q1 : w2.cell? ⟨w.heap.size, 0, none⟩ = some (.int .u64 p) := by
          rw [a2 _ _ (by simp; omega)]
          simp [go_sem, z1, r1]
        have q2 : w2.cell? ⟨w.heap.size, 1, none⟩ = some (.int .u64 q) := by
          rw [a2 _ _ (by simp; omega)]
          simp [go_sem, z1, r2]
        have q3 : w2.cell? ⟨w1.heap.size, 0, none⟩ = some (.int .u64 p) := by
          rw [a2 _ _ (by simp)]
          simp [go_sem]
        have q4 : w2.cell? ⟨w1.heap.size, 1, none⟩ = some (.int .u64 q) := by
          rw [a2 _ _ (by simp)]
          simp [go_sem]
        clear a2 b2 r1 r2 hb2
        have hfin : Hid (∀ m : Later (w2.heap.size + 1) (w2.alloc (.cells #[.int .u64 P, .int .u64 Q] 25)), Below w.heap.size w m.world) := fun m => (hw2.alloc (by omega) _).trans (m.below.mono (by omega))
        by_cases he : e = 0
        · have he1 : (e != 0) = false := by simp [he]
          by_cases hE0 : E = 0
          · have hE1 : (E != 0) = false := by simp [hE0]
            obtain ⟨rfl, rfl⟩ := Hbk.out he hE0
            clear he hE0
            go_wp2_with fail
            refine wp_region_later (w2.heap.size + 1) (w2.alloc (.cells #[.int .u64 P, .int .u64 Q] 25)) (by kernel_rfl) (by kernel_rfl) (Below.refl _ _) ?_
            repeat (go_big_quiet_step (first
              | ((with_reducible refine Calls.later ?_ (to_any _ _ _)); simp)
              | ((with_reducible refine Calls.later ?_ (awake_any _)); simp)))
            refine wpQuiet_nil ?_
            rintro _ ⟨n1, rfl⟩
            go_wp2
            go_ret
            exact ⟨rfl, hfin.out n1⟩
          · have hE1 : (E != 0) = true := by simp [hE0]
            clear he hE0
            go_wp2_with fail
            refine wp_region_later (w2.heap.size + 1) (w2.alloc (.cells #[.int .u64 P, .int .u64 Q] 25)) (by kernel_rfl) (by kernel_rfl) (Below.refl _ _) ?_
            repeat (go_big_quiet_step (first
              | ((with_reducible refine Calls.later ?_ (to_any _ _ _)); simp)
              | ((with_reducible refine Calls.later ?_ (awake_any _)); simp)))
            refine wpQuiet_nil ?_
            rintro _ ⟨n1, rfl⟩
            go_wp2
            go_ret
            exact ⟨rfl, hfin.out n1⟩
        · have he1 : (e != 0) = true := by simp [he]
          clear he
          go_wp2_with fail
          refine wp_region_later (w2.heap.size + 1) (w2.alloc (.cells #[.int .u64 P, .int .u64 Q] 25)) (by kernel_rfl) (by kernel_rfl) (Below.refl _ _) ?_
          repeat (go_big_quiet_step (first
            | ((with_reducible refine Calls.later ?_ (to_any _ _ _)); simp)
            | ((with_reducible refine Calls.later ?_ (awake_any _)); simp)))
          refine wpQuiet_nil ?_
          rintro _ ⟨n1, rfl⟩
          go_wp2
          go_ret
          exact ⟨rfl, hfin.out n1⟩
  · have hd1 : decide ((40 : Int) < (n : Int)) = true := by simp; omega
    go_enter Try.func5, Try.ntmps5
    go_wp2_with fail
    refine (awake_any _).mono ?_
    rintro e w5 ⟨rfl, hb5⟩
    go_wp2
    go_ret
    exact ⟨rfl, hb5⟩
end Go.Proofs.Ythegadplakllkaa
