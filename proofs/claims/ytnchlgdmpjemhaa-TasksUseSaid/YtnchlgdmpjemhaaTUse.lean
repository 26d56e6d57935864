/-
  The law TasksUse answers true: its walk out of the contracts.
-/
import Derived.Test.YtnchlgdmpjemhaaTWalksH
import Derived.Test.YtnchlgdmpjemhaaTWalksI
import Derived.Test.YtnchlgdmpjemhaaTWalksL
import Derived.Test.YtnchlgdmpjemhaaTAwake
namespace Go.Proofs.Ytnchlgdmpjemhaa
open Go.ChangeShapes Go.WideShapes Go.ChangeAt Go.RowKit
attribute [local go_sem ↓] Go.wp_at_zero Go.wp_at_succ

theorem hyper_any (A : Option Addr) (n c : Nat) (l : List (Int × Int × Int)) (most : Int) (w : World) (hln : l.length = n) (hL : Tks w.heap.size w A l) :
    Calls Try.prog 8 #[.slice A n c, .int .i64 most] w fun e w' => e = .returned (.tuple #[.int .i64 (Tk.hypN l most), .bool (Tk.hypOk l most)]) ∧ Below w.heap.size w w' := by
  by_cases h : 1 ≤ most ∧ most ≤ 1099511627776 ∧ Tk.all l = true
  · have e : Tk.hypN l most = Tk.hypTo l most n := by rw [Tk.hypN_yes h.1 h.2.1 h.2.2, hln]
    rw [Tk.hypOk, e]
    exact hyper_yes A n c l most w hln hL h.1 h.2.1 h.2.2
  · obtain ⟨e1, e2⟩ := Tk.hypN_no h
    rw [e1, e2]
    exact hyper_no A n c l most w hln hL h

/-- append of numbers onto a row of the call's own, at a step of a region that draws its order; where the row lies. -/
theorem step_ints_at (w : World) {ops : Array Oper} {o : Oper} {a : Act} {K : Act → World → Prop} {Q : Exit → Act → World → Prop} {E : Prop} (hgd : o.guard = none) (s x : Operand)
    (ho : o.op = .call { callee := .builtin .append, args := #[s, x], argTypes := #[36, 36] })
    (base : Nat) (v : Value) (n : Nat) (L : List Int) (hs : a.eval s = v) (hown : w.ownsRow base 3 1 v n (ncells L))
    (ao : Option Addr) (m c : Nat) (M : List Int) (hx : a.eval x = .slice ao m c) (B : Nat) (hr : Reads B w ao m c M) (N : Nat) (hN : n + m = N) (hm : N ≤ 1000000000) (hbase : base ≤ w.heap.size)
    (h : ∀ A cap w', w'.ownsRow base 3 1 (.slice A N cap) N (ncells (L ++ M)) → w.grownBy w' v.ownBlock → ((Value.slice A N cap).ownBlock = v.ownBlock ∨ (Value.slice A N cap).ownBlock = some w.heap.size) → K (a.put o.dst (.slice A N cap)) w') :
    if Region.wanted o (yielded ops a.tmps) = true then Oper.wp Try.prog o a w K Q else E := by
  subst hN
  obtain ⟨i0, hi, hz0, hz1, hz2⟩ := info_parts info_int
  refine step_append_all w hgd s x 36 ho base 3 i0 (.int .i64 0) 1 8 Try.underlying36 hi hz0 hz1 hz2 rfl (by decide) v n (ncells L) hs hown ao m c (ncells M) hx hr.2.1 (by simp [ncells, hr.1]) ?_ ?_ (by unfold maxLen; omega) (by omega) hbase w.heap.size rfl ?_
  · intro ad e j u hu
    have hj : j < M.length := by
      have := (List.getElem?_eq_some_iff.1 hu).1
      simpa [ncells] using this
    rw [(hr.2.2 ad e).2 j (by rw [← hr.1]; exact hj), ← hu, ncells, List.getElem?_map, List.getElem?_eq_getElem hj, List.getD_eq_getElem?_getD, List.getElem?_eq_getElem hj]
    rfl
  · intro u hu
    simp only [ncells, List.mem_map] at hu
    obtain ⟨y, -, rfl⟩ := hu
    rfl
  · intro A cap w' h1 h2 h3
    refine h A cap w' ?_ h2 h3
    rw [ncells, List.map_append]
    exact h1

theorem two_apart {v v' y : Value} {H : Nat} (h : y.ownBlock = none ∨ y.ownBlock ≠ v.ownBlock) (hat : v'.ownBlock = v.ownBlock ∨ v'.ownBlock = some H) (hy : ∀ k, y.ownBlock = some k → k < H) : y.ownBlock = none ∨ y.ownBlock ≠ v'.ownBlock := by
  rcases hat with h2 | h2
  · rw [h2]
    exact h
  · rw [h2]
    by_cases hn : y.ownBlock = none
    · exact Or.inl hn
    · exact Or.inr fun e => absurd (hy H e) (Nat.lt_irrefl H)
theorem two_turn {v y : Value} (h : y.ownBlock = none ∨ y.ownBlock ≠ v.ownBlock) : v.ownBlock = none ∨ v.ownBlock ≠ y.ownBlock := by
  rcases h with h | h
  · by_cases hv : v.ownBlock = none
    · exact Or.inl hv
    · exact Or.inr fun e => hv (e.trans h)
  · exact Or.inr (Ne.symm h)

/-- One field of all tasks. -/
def ncells_ (l : List (Int × Int × Int)) (f : Int × Int × Int → Int) : List Int := l.map f
theorem ncells_snoc_ {l : List (Int × Int × Int)} {k : Nat} (hk : k < l.length) {c p d : Int} (ht : l.getD k (0, 0, 0) = (c, p, d)) (f : Int × Int × Int → Int) : ncells_ (l.take (k + 1)) f = ncells_ (l.take k) f ++ [f (c, p, d)] := by
  have e : l[k] = (c, p, d) := by
    rw [← ht, List.getD_eq_getElem?_getD, List.getElem?_eq_getElem hk]
    rfl
  rw [ncells_, List.take_succ_eq_append_getElem hk, List.map_append, e]
  rfl
theorem field_at {l : List (Int × Int × Int)} {f : Int × Int × Int → Int} {i : Nat} (hi : i < l.length) : (ncells_ l f).getD i 0 = f (l.getD i (0, 0, 0)) := by
  rw [ncells_, List.getD_eq_getElem?_getD, List.getElem?_map, List.getElem?_eq_getElem hi, List.getD_eq_getElem?_getD, List.getElem?_eq_getElem hi]
  rfl

set_option maxRecDepth 100000 in
set_option maxHeartbeats 8000000 in
theorem uses_any (A : Option Addr) (n c : Nat) (l : List (Int × Int × Int)) (t0 t1 t2 most : Int) (w : World) (hln : l.length = n) (hL : Tks w.heap.size w A l) :
    Calls Try.prog 3 #[.slice A n c, .agg #[.int .i64 t0, .int .i64 t1, .int .i64 t2], .int .i64 most] w fun e w' => e = .returned (.bool true) ∧ Below w.heap.size w w' := by
  have HL := Lib.hid hL
  have Hl := Lib.hid hln
  clear hL hln
  have hbox : Hid (Below w.heap.size w (w.alloc (.cells #[.int .i64 t0, .int .i64 t1, .int .i64 t2] 24))) := ((Below.refl _ _).alloc (Nat.le_refl _) _ : Below w.heap.size w _)
  by_cases hbig : n ≤ 20
  · have hd1 : decide ((20 : Int) < (n : Int)) = false := by simp; omega
    have CU : Hid (∀ w : World, Tks w.heap.size w A l → _) := fun w h => tuse_any A n c l w Hl.out h
    have CH : Hid (∀ w : World, Tks w.heap.size w A l → _) := fun w h => hyper_any A n c l most w Hl.out h
    have CA : Hid (∀ w : World, Tks w.heap.size w A l → _) := fun w h => trall_any A n c l w Hl.out (by omega) h
    have CT : Hid (∀ w : World, Tks w.heap.size w A l → _) := fun w h => tall_any A n c l w Hl.out h
    have CByP : Hid (∀ (X : Option Addr) (cx : Nat) (w : World), NumsI w.heap.size w X (ncells_ l (·.2.1)) → Calls Try.prog 15 #[.slice X n cx] w fun e w' => NumsBack (ints (Tk.byTo (fun i => (l.getD i (0, 0, 0)).2.1) n)) w e w') := fun X cx w h => by
      have h1 := rby_any X n cx (ncells_ l (·.2.1)) w (by simp [ncells_, Hl.out]) (by omega) h
      rwa [Tk.byTo_same (g := fun i => (l.getD i (0, 0, 0)).2.1) fun i hi => field_at (by rw [Hl.out]; exact hi)] at h1
    have CByD : Hid (∀ (X : Option Addr) (cx : Nat) (w : World), NumsI w.heap.size w X (ncells_ l (·.2.2)) → Calls Try.prog 15 #[.slice X n cx] w fun e w' => NumsBack (ints (Tk.byTo (fun i => (l.getD i (0, 0, 0)).2.2) n)) w e w') := fun X cx w h => by
      have h1 := rby_any X n cx (ncells_ l (·.2.2)) w (by simp [ncells_, Hl.out]) (by omega) h
      rwa [Tk.byTo_same (g := fun i => (l.getD i (0, 0, 0)).2.2) fun i hi => field_at (by rw [Hl.out]; exact hi)] at h1
    obtain ⟨U, hU⟩ : ∃ x, useN l = x := ⟨_, rfl⟩
    obtain ⟨V, hV⟩ : ∃ x, useD l = x := ⟨_, rfl⟩
    obtain ⟨E, hE⟩ : ∃ x, useE l = x := ⟨_, rfl⟩
    obtain ⟨hn, hhn⟩ : ∃ x, Tk.hypN l most = x := ⟨_, rfl⟩
    obtain ⟨ho, hho⟩ : ∃ x, Tk.hypOk l most = x := ⟨_, rfl⟩
    rw [hU, hV, hE] at CU
    rw [hhn, hho] at CH
    have HU := Lib.hid hU
    have HV := Lib.hid hV
    have HE := Lib.hid hE
    have Hn := Lib.hid hhn
    have Ho := Lib.hid hho
    clear hU hV hE hhn hho
    have HT0 := Lib.hid (HL.out.later hbox.out)
    obtain ⟨b1, hb1⟩ : ∃ b, Tk.right t0 t1 t2 = b := ⟨_, rfl⟩
    have CR1 : Hid (∀ w : World, _) := fun w => tright_any t0 t1 t2 w
    have CR2 : Hid (∀ w : World, _) := fun w => trright_any t0 t1 t2 w
    rw [hb1] at CR1 CR2
    clear hb1
    have hbb : (b1 != b1) = false := by cases b1 <;> rfl
    obtain ⟨b2, hb2⟩ : ∃ b, Tk.all l = b := ⟨_, rfl⟩
    rw [hb2] at CA CT
    have Hall := Lib.hid hb2
    clear hb2
    have hbb2 : (b2 != b2) = false := by cases b2 <;> rfl
    go_enter Try.func3, Try.ntmps3
    go_wp2_with fail
    refine (CU.out _ HT0.out).mono ?_
    rintro e w1 ⟨rfl, hw1⟩
    have HT1 := Lib.hid ((HT0.out.later hw1).later ((Below.refl _ _).alloc (Nat.le_refl _) (.cells #[.int .u64 U, .int .u64 V] 28)))
    have B1 := Lib.hid (hw1.mono (B' := w.heap.size + 1) (by simp))
    clear hw1
    go_wp2_with fail
    refine (CH.out _ HT1.out).mono ?_
    rintro e w2 ⟨rfl, hw2⟩
    have HT2 := Lib.hid (HT1.out.later hw2)
    have HU2 := Lib.hid (hw2.mono (B' := w1.heap.size + 1) (by simp))
    have z1 : w.heap.size + 1 ≤ w1.heap.size := by have := B1.out.size; simpa using this
    have B2 := Lib.hid ((B1.out.alloc z1 (.cells #[.int .u64 U, .int .u64 V] 28)).trans (HU2.out.mono (Nat.le_succ_of_le z1)))
    clear z1
    clear hw2
    have k0 : w2.cell? ⟨w.heap.size, 0, none⟩ = some (.int .i64 t0) := by rw [(old_cells B2.out).1 _ _ (Nat.lt_succ_self _)]; simp [go_sem]
    have k1 : w2.cell? ⟨w.heap.size, 1, none⟩ = some (.int .i64 t1) := by rw [(old_cells B2.out).1 _ _ (Nat.lt_succ_self _)]; simp [go_sem]
    have k2 : w2.cell? ⟨w.heap.size, 2, none⟩ = some (.int .i64 t2) := by rw [(old_cells B2.out).1 _ _ (Nat.lt_succ_self _)]; simp [go_sem]
    have u0 : w2.cell? ⟨w1.heap.size, 0, none⟩ = some (.int .u64 U) := by rw [(old_cells HU2.out).1 _ _ (Nat.lt_succ_self _)]; simp [go_sem]
    have u1 : w2.cell? ⟨w1.heap.size, 1, none⟩ = some (.int .u64 V) := by rw [(old_cells HU2.out).1 _ _ (Nat.lt_succ_self _)]; simp [go_sem]
    have kz : w.heap.size < w2.heap.size := by have := B2.out.size; simp at this; omega
    have uz : w1.heap.size < w2.heap.size := by have := HU2.out.size; simp at this; omega
    have HTm : Hid (∀ m : Later w2.heap.size w2, Tks m.world.heap.size m.world A l) := fun m => HT2.out.later m.below
    have Ku := Lib.hid (And.intro u0 u1)
    have Ku2 := Lib.hid uz
    clear u0 u1
    go_wp2_with fail
    refine wp_region_later w2.heap.size w2 (by kernel_rfl) (by kernel_rfl) (Below.refl _ _) ?_
    repeat (go_big_quiet_step (first
      | ((with_reducible refine Calls.later ?_ (CR1.out _)); exact Nat.le_refl _)
      | ((with_reducible refine Calls.later ?_ (CR2.out _)); exact Nat.le_refl _)
      | ((with_reducible refine Calls.later ?_ (CT.out _ (HTm.out _))); exact Nat.le_refl _)
      | ((with_reducible refine Calls.later ?_ (CA.out _ (HTm.out _))); exact Nat.le_refl _)))
    refine wpQuiet_nil ?_
    rintro w3 ⟨⟨_, hw3⟩, rfl⟩
    have HT3 := Lib.hid (HT2.out.later hw3)
    have u0 : Hid (w3.cell? ⟨w1.heap.size, 0, none⟩ = some (.int .u64 U)) := ((old_cells hw3).1 _ _ uz).trans Ku.out.1
    have u1 : Hid (w3.cell? ⟨w1.heap.size, 1, none⟩ = some (.int .u64 V)) := ((old_cells hw3).1 _ _ uz).trans Ku.out.2
    have uz3 := Lib.hid (Nat.lt_of_lt_of_le uz hw3.size)
    have Hfin : Hid (∀ w' : World, Below w3.heap.size w3 w' → Below w.heap.size w w') := fun w' h => hbox.out.trans ((B2.out.trans ((hw3.trans (h.mono hw3.size)).mono (by omega))).mono (Nat.le_succ _))
    generalize w1.heap.size = ub at *
    clear hw3 k0 k1 k2 kz uz HTm Ku Ku2 HU2 B1 B2 HT0 HT1 HT2
    go_wp2_with fail
    go_loopw [11, 12, 13] (fun x y i wr => ∃ (k : Nat) (X Y : Option Addr) (cx cy : Nat), k ≤ n ∧ i = .int .i64 k ∧ x = .slice X k cx ∧ y = .slice Y k cy ∧ k ≤ cx ∧ k ≤ cy ∧ Hid (wr.ownsRow w3.heap.size 3 1 (.slice X k cx) k (ncells (ncells_ (l.take k) (·.2.1)))) ∧ Hid (wr.ownsRow w3.heap.size 3 1 (.slice Y k cy) k (ncells (ncells_ (l.take k) (·.2.2)))) ∧ Hid ((Value.slice Y k cy).ownBlock = none ∨ (Value.slice Y k cy).ownBlock ≠ (Value.slice X k cx).ownBlock) ∧ Hid (Below w3.heap.size w3 wr)) (fun _ _ i _ => (n - intOf i).toNat)
    case atStart => exact ⟨0, none, none, 0, 0, by omega, rfl, rfl, rfl, by omega, by omega, World.ownsRow_nil _ _ _ _, World.ownsRow_nil _ _ _ _, Or.inl rfl, (Below.refl _ _ : Below w3.heap.size w3 w3)⟩
    case round =>
      obtain ⟨k, X, Y, cx, cy, hk, rfl, rfl, rfl, hkx, hky, hX, hY, hXY, Hb⟩ := hrel
      by_cases hlt : k < n
      · obtain ⟨ab, ao, rfl, hB, hcell⟩ := HT3.out (by rw [Hl.out]; omega)
        obtain ⟨a1, a2, a3⟩ := hcell k (by rw [Hl.out]; exact hlt)
        clear hcell a1
        have hk0 : (0 : Int) ≤ k := by omega
        have hkn : (k : Int) < n := by omega
        obtain ⟨co, per, dl, hxyz⟩ : ∃ x y z, l.getD k (0, 0, 0) = (x, y, z) := ⟨_, _, _, rfl⟩
        have hsp := Lib.hid (ncells_snoc_ (show k < l.length by rw [Hl.out]; exact hlt) hxyz (·.2.1))
        have hsd := Lib.hid (ncells_snoc_ (show k < l.length by rw [Hl.out]; exact hlt) hxyz (·.2.2))
        rw [hxyz] at a2 a3
        clear hxyz
        have HS : Hid (∀ w' : World, Below w3.heap.size w3 w' → w'.cell? ⟨ab, ao + k * 3 + 1, none⟩ = some (.int .i64 per) ∧ w'.cell? ⟨ab, ao + k * 3 + 2, none⟩ = some (.int .i64 dl)) := by
          intro w' h
          obtain ⟨e1, -⟩ := old_cells h
          exact ⟨(e1 _ _ hB).trans a2, (e1 _ _ hB).trans a3⟩
        clear a2 a3
        go_wp2_with fail
        go_region_held3 (fun w' => w'.cell? ⟨ab, ao + k * 3 + 1, none⟩ = some (.int .i64 per) ∧ w'.cell? ⟨ab, ao + k * 3 + 2, none⟩ = some (.int .i64 dl))
          ((refine HS.out _ ?_; repeat' (first | with_reducible exact G7.out | with_reducible exact G5.out | with_reducible exact Hb.out | with_reducible refine Below.drew ?_ | with_reducible refine below_new (Nat.le_refl _) ?_ _)))
          (first
              | (refine step_ints_at ((wr.alloc (.cells #[.int .i64 per] 3)).alloc (.cells #[.int .i64 dl] 3)).drew (by rfl) (.tmp 51) (.tmp 57) (by rfl) w3.heap.size (.slice X k cx) k (ncells_ (l.take k) (·.2.1)) (by rfl) (own_drew ((hX.out.alloc _).alloc _)) _ 1 1 [per] (by rfl) _ (((reads_one (w := wr) per 3).below ((Below.refl _ _).alloc (by simp) _)).below (Below.refl _ _).drew) (k + 1) rfl (by omega) (size_kept (Nat.le_refl _) ((below_new (Nat.le_refl _) (below_new (Nat.le_refl _) Hb.out _) _).drew)) ?_; intro A5 c5 w5 X5 g5 hat5; have G5 := Lib.hid (((below_new (Nat.le_refl _) (below_new (Nat.le_refl _) Hb.out _) _).drew).grown g5 (size_kept (Nat.le_refl _) ((below_new (Nat.le_refl _) (below_new (Nat.le_refl _) Hb.out _) _).drew)) (own_base hX.out)); have Y5 := Lib.hid ((own_drew ((hY.out.alloc _).alloc _)).kept g5 hXY.out); have T5 := Lib.hid (two_apart hXY.out hat5 (fun y hy => Nat.lt_of_lt_of_le (hY.out.lt y hy).2 (by simp; try omega))); have Z5 := Lib.hid X5; have L5 := Lib.hid (X5.lt); have K5 := Lib.hid (reads_far ((reads_one2 (w := wr) (o := (.cells #[.int .i64 per] 3)) dl 3).below (Below.refl _ _).drew) g5 (by simp) (fun h => by have := (hX.out.lt _ h.symm).2; omega)); clear X5 g5 hat5)
              | (refine step_ints_at ((wr.alloc (.cells #[.int .i64 dl] 3)).alloc (.cells #[.int .i64 per] 3)).drew (by rfl) (.tmp 51) (.tmp 57) (by rfl) w3.heap.size (.slice X k cx) k (ncells_ (l.take k) (·.2.1)) (by rfl) (own_drew ((hX.out.alloc _).alloc _)) _ 1 1 [per] (by rfl) _ ((reads_one2 (w := wr) per 3).below (Below.refl _ _).drew) (k + 1) rfl (by omega) (size_kept (Nat.le_refl _) ((below_new (Nat.le_refl _) (below_new (Nat.le_refl _) Hb.out _) _).drew)) ?_; intro A5 c5 w5 X5 g5 hat5; have G5 := Lib.hid (((below_new (Nat.le_refl _) (below_new (Nat.le_refl _) Hb.out _) _).drew).grown g5 (size_kept (Nat.le_refl _) ((below_new (Nat.le_refl _) (below_new (Nat.le_refl _) Hb.out _) _).drew)) (own_base hX.out)); have Y5 := Lib.hid ((own_drew ((hY.out.alloc _).alloc _)).kept g5 hXY.out); have T5 := Lib.hid (two_apart hXY.out hat5 (fun y hy => Nat.lt_of_lt_of_le (hY.out.lt y hy).2 (by simp; try omega))); have Z5 := Lib.hid X5; have L5 := Lib.hid (X5.lt); have K5 := Lib.hid (reads_far (((reads_one (w := wr) dl 3).below ((Below.refl _ _).alloc (by simp) (.cells #[.int .i64 per] 3))).below (Below.refl _ _).drew) g5 (by simp; omega) (fun h => by have := (hX.out.lt _ h.symm).2; omega)); clear X5 g5 hat5)
              | (refine step_ints_at (wr.alloc (.cells #[.int .i64 per] 3)).drew (by rfl) (.tmp 51) (.tmp 57) (by rfl) w3.heap.size (.slice X k cx) k (ncells_ (l.take k) (·.2.1)) (by rfl) (own_drew (hX.out.alloc _)) _ 1 1 [per] (by rfl) _ ((reads_one (w := wr) per 3).below (Below.refl _ _).drew) (k + 1) rfl (by omega) (size_kept (Nat.le_refl _) ((below_new (Nat.le_refl _) Hb.out _).drew)) ?_; intro A5 c5 w5 X5 g5 hat5; have G5 := Lib.hid (((below_new (Nat.le_refl _) Hb.out _).drew).grown g5 (size_kept (Nat.le_refl _) ((below_new (Nat.le_refl _) Hb.out _).drew)) (own_base hX.out)); have Y5 := Lib.hid ((own_drew (hY.out.alloc _)).kept g5 hXY.out); have T5 := Lib.hid (two_apart hXY.out hat5 (fun y hy => Nat.lt_of_lt_of_le (hY.out.lt y hy).2 (by simp; try omega))); have Z5 := Lib.hid X5; have L5 := Lib.hid (X5.lt); clear X5 g5 hat5)
              | (refine step_ints_at w5 (by rfl) (.tmp 59) (.tmp 65) (by rfl) w3.heap.size (.slice Y k cy) k (ncells_ (l.take k) (·.2.2)) (by rfl) Y5.out _ 1 1 [dl] (by rfl) _ K5.out (k + 1) rfl (by omega) (size_kept (Nat.le_refl _) G5.out) ?_; intro A7 c7 w7 Y7 g7 hat7; have G7 := Lib.hid (G5.out.grown g7 (size_kept (Nat.le_refl _) G5.out) (own_base Y5.out)); have X7 := Lib.hid (Z5.out.kept g7 (two_turn T5.out)); have T7 := Lib.hid (two_turn (two_apart (two_turn T5.out) hat7 (fun y hy => Nat.lt_of_lt_of_le (L5.out y hy).2 (by simp; try omega)))); have Z7 := Lib.hid Y7; clear Y7 g7 hat7)
              | (refine step_ints_at (w5.alloc (.cells #[.int .i64 dl] 3)) (by rfl) (.tmp 59) (.tmp 65) (by rfl) w3.heap.size (.slice Y k cy) k (ncells_ (l.take k) (·.2.2)) (by rfl) (Y5.out.alloc _) _ 1 1 [dl] (by rfl) _ (reads_one dl 3) (k + 1) rfl (by omega) (size_kept (Nat.le_refl _) (below_new (Nat.le_refl _) G5.out _)) ?_; intro A7 c7 w7 Y7 g7 hat7; have G7 := Lib.hid ((below_new (Nat.le_refl _) G5.out _).grown g7 (size_kept (Nat.le_refl _) (below_new (Nat.le_refl _) G5.out _)) (own_base Y5.out)); have X7 := Lib.hid ((Z5.out.alloc _).kept g7 (two_turn T5.out)); have T7 := Lib.hid (two_turn (two_apart (two_turn T5.out) hat7 (fun y hy => Nat.lt_of_lt_of_le (L5.out y hy).2 (by simp; try omega)))); have Z7 := Lib.hid Y7; clear Y7 g7 hat7))
        all_goals
          have Xr : Hid (w7.ownsRow w3.heap.size 3 1 (.slice A5 (k + 1) c5) (k + 1) (ncells (ncells_ (l.take (k + 1)) (·.2.1)))) := by
            rw [Hid, hsp.out]
            exact X7.out
          have Yr : Hid (w7.ownsRow w3.heap.size 3 1 (.slice A7 (k + 1) c7) (k + 1) (ncells (ncells_ (l.take (k + 1)) (·.2.2)))) := by
            rw [Hid, hsd.out]
            exact Z7.out
          have cap1 := own_cap Xr.out
          have cap2 := own_cap Yr.out
          go_wp2
          go_roundw
          case rel => exact ⟨k + 1, A5, A7, c5, c7, by omega, by go_num, rfl, rfl, cap1, cap2, Xr.out, Yr.out, T7.out, G7.out⟩
          case measure => simp [intOf]; omega
      · obtain rfl : n = k := by omega
        have B0 := Hb
        have T0 := Lib.hid (HT3.out.later Hb.out)
        have P0 : Hid (NumsI wr.heap.size wr X (ncells_ l (·.2.1))) := NumsI.own (by have := hX.out; rwa [List.take_of_length_le (by rw [Hl.out]; exact Nat.le_refl _)] at this)
        have D0 : Hid (NumsI wr.heap.size wr Y (ncells_ l (·.2.2))) := NumsI.own (by have := hY.out; rwa [List.take_of_length_le (by rw [Hl.out]; exact Nat.le_refl _)] at this)
        clear hX hY hXY Hb
        go_wp2_with fail
        refine (byperiod_any A n c l _ Hl.out (by omega) T0.out).mono ?_
        rintro e w4 ⟨Q, cQ, rfl, -, hQ, hb4⟩
        have B4 := Lib.hid (below_call (Nat.le_refl _) B0.out hb4)
        have Q4 := Lib.hid hQ
        have T4 := Lib.hid (T0.out.later hb4)
        have P4 := Lib.hid (P0.out.later hb4)
        have D4 := Lib.hid (D0.out.later hb4)
        clear hb4 hQ
        go_wp2_with fail
        refine (CByP.out X cx _ P4.out).mono ?_
        rintro e w5 ⟨R, cR, rfl, -, hR, hb5⟩
        have B5 := Lib.hid (below_call (Nat.le_refl _) B4.out hb5)
        have R5 := Lib.hid hR
        have T5 := Lib.hid (T4.out.later hb5)
        have D5 := Lib.hid (D4.out.later hb5)
        have Q5 := Lib.hid (Q4.out.later hb5)
        clear hb5 hR
        go_wp2_with fail
        refine (same_yes Q R _ cQ cR _ _ rfl (by simp [ints, Tk.byTo_len]; omega) Q5.out R5.out).mono ?_
        rintro e w6 ⟨rfl, hb6⟩
        have B6 := Lib.hid (below_call (Nat.le_refl _) B5.out hb6)
        have T6 := Lib.hid (T5.out.later hb6)
        have D6 := Lib.hid (D5.out.later hb6)
        clear hb6
        go_wp2_with fail
        refine (bydeadline_any A n c l _ Hl.out (by omega) T6.out).mono ?_
        rintro e w7 ⟨S, cS, rfl, -, hS, hb7⟩
        have B7 := Lib.hid (below_call (Nat.le_refl _) B6.out hb7)
        have S7 := Lib.hid hS
        have T7 := Lib.hid (T6.out.later hb7)
        have D7 := Lib.hid (D6.out.later hb7)
        clear hb7 hS
        go_wp2_with fail
        refine (CByD.out Y cy _ D7.out).mono ?_
        rintro e w8 ⟨J, cJ, rfl, -, hJ, hb8⟩
        have B8 := Lib.hid (below_call (Nat.le_refl _) B7.out hb8)
        have J8 := Lib.hid hJ
        have T8 := Lib.hid (T7.out.later hb8)
        have S8 := Lib.hid (S7.out.later hb8)
        clear hb8 hJ
        go_wp2_with fail
        refine (same_yes S J _ cS cJ _ _ rfl (by simp [ints, Tk.byTo_len]; omega) S8.out J8.out).mono ?_
        rintro e w9 ⟨rfl, hb9⟩
        have B9 := Lib.hid (below_call (Nat.le_refl _) B8.out hb9)
        have T9 := Lib.hid (T8.out.later hb9)
        clear hb9
        go_wp2_with fail
        refine (CA.out _ T9.out).mono ?_
        rintro e w10 ⟨rfl, hb10⟩
        have B10 := Lib.hid (below_call (Nat.le_refl _) B9.out hb10)
        have T10 := Lib.hid (T9.out.later hb10)
        clear hb10
        have hz10 := Nat.lt_of_lt_of_le uz3.out B10.out.size
        have hq0 := ((old_cells B10.out).1 _ _ uz3.out).trans u0.out
        have hq1 := ((old_cells B10.out).1 _ _ uz3.out).trans u1.out
        cases b2 with
        | false =>
          have hno : ¬ (1 ≤ most ∧ most ≤ 1099511627776 ∧ Tk.all l = true) := fun h => by
            have h1 := Hall.out
            rw [h.2.2] at h1
            cases h1
          obtain ⟨e1, e2⟩ := Tk.hypN_no hno
          obtain ⟨e3, e4, e5⟩ := use_no Hall.out
          obtain rfl : U = 0 := HU.out.symm.trans e3
          obtain rfl : V = 0 := HV.out.symm.trans e4
          obtain rfl : E = 1 := HE.out.symm.trans e5
          obtain rfl : hn = 0 := Hn.out.symm.trans e1
          obtain rfl : ho = false := Ho.out.symm.trans e2
          clear hno e1 e2 e3 e4 e5
          go_wp2_with fail
          refine (tawake_any _).mono ?_
          rintro e wz ⟨rfl, hbz⟩
          go_wp2
          go_ret
          exact ⟨rfl, Hfin.out _ (below_call (Nat.le_refl _) B10.out hbz)⟩
        | true =>
          have CUr := ruse_any A n c l _ Hl.out T10.out Hall
          rw [HU.out, HV.out, HE.out] at CUr
          go_wp2_with fail
          refine CUr.mono ?_
          clear CUr
          rintro e w11 ⟨rfl, hb11⟩
          have B11 := Lib.hid (below_call (Nat.le_refl _) B10.out hb11)
          have T11 := Lib.hid ((T10.out.later hb11).later ((Below.refl _ _).alloc (Nat.le_refl _) (.cells #[.int .u64 U, .int .u64 V] 40)))
          have hr0 := ((old_cells B11.out).1 _ _ uz3.out).trans u0.out
          have hr1 := ((old_cells B11.out).1 _ _ uz3.out).trans u1.out
          have hz11 := Nat.lt_of_lt_of_le uz3.out B11.out.size
          have BX := Lib.hid (B11.out.alloc B11.out.size (.cells #[.int .u64 U, .int .u64 V] 40))
          clear hb11 hq0 hq1 hz10
          have hUU : (U != U) = false := by simp
          have hVV : (V != V) = false := by simp
          have hEE : (E != E) = false := by simp
          by_cases hm1 : most < 1
          · obtain ⟨e1, e2⟩ := Tk.hypN_no (l := l) (most := most) (by omega)
            obtain rfl : hn = 0 := Hn.out.symm.trans e1
            obtain rfl : ho = false := Ho.out.symm.trans e2
            clear e1 e2
            go_wp2_with fail
            refine (tawake_any _).mono ?_
            rintro e wz ⟨rfl, hbz⟩
            go_wp2
            go_ret
            exact ⟨rfl, Hfin.out _ (below_call (Nat.le_refl _) BX.out hbz)⟩
          · by_cases hm2 : 1099511627776 < most
            · obtain ⟨e1, e2⟩ := Tk.hypN_no (l := l) (most := most) (by omega)
              obtain rfl : hn = 0 := Hn.out.symm.trans e1
              obtain rfl : ho = false := Ho.out.symm.trans e2
              clear e1 e2
              go_wp2_with fail
              refine (tawake_any _).mono ?_
              rintro e wz ⟨rfl, hbz⟩
              go_wp2
              go_ret
              exact ⟨rfl, Hfin.out _ (below_call (Nat.le_refl _) BX.out hbz)⟩
            · have e1 : Tk.hypTo l most n = hn := by rw [← Hn.out, Tk.hypN_yes (by omega) (by omega) Hall.out, Hl.out]
              have e2 : decide (hn ≠ 0) = ho := by rw [← Ho.out, Tk.hypOk, Hn.out]
              have CHr := rhyper_any A n c l most _ Hl.out T11.out (by omega) (by omega) Hall
              rw [e1, e2] at CHr
              have hnn : (hn == hn) = true := by simp
              have hoo : (ho == ho) = true := by simp
              clear e1 e2
              go_wp2_with fail
              refine CHr.mono ?_
              clear CHr
              rintro e w12 ⟨rfl, rfl⟩
              go_wp2_with fail
              refine (tawake_any _).mono ?_
              rintro e wz ⟨rfl, hbz⟩
              go_wp2
              go_ret
              exact ⟨rfl, Hfin.out _ (below_call (Nat.le_refl _) BX.out hbz)⟩
  · have hd1 : decide ((20 : Int) < (n : Int)) = true := by simp; omega
    go_enter Try.func3, Try.ntmps3
    go_wp2_with fail
    refine (tawake_any _).mono ?_
    rintro e w5 ⟨rfl, hb5⟩
    go_wp2
    go_ret
    exact ⟨rfl, hbox.out.trans (hb5.mono (by simp))⟩
end Go.Proofs.Ytnchlgdmpjemhaa
