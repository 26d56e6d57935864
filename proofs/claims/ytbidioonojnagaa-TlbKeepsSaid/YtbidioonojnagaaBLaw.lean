/-
  The law TlbKeeps, walked (typed by tools/gen_bkeeps.py).
-/
import Derived.Test.YtbidioonojnagaaBKeep
import Derived.Test.YtbidioonojnagaaBOpen
namespace Go.Proofs.Ytbidioonojnagaa
open Go.ChangeShapes Go.WideShapes Go.ChangeAt Go.RowKit

theorem Inv.up {y : En} {n : Nat} {L : List En} (H : Inv y n L) : Inv y (n + 1) L := by
  obtain ⟨h1, h2, A, B, h3, h4⟩ := H
  exact ⟨h1, h2, A, B, h3, by omega⟩
/-- Within the law: the box of the translation (block b), the buffer (block h). -/
structure Pl (w : World) (b h : Nat) (x : En) (L : List En) (hi mi : Int) (wr : World) : Prop where
  mem : TbIs wr h L hi mi
  box : wr.heap[b]? = some (.cells (ecells x).toArray 23 (0, 0))
  below : Below w.heap.size w wr
  base : w.heap.size ≤ h
  off : b ≠ h
section
variable {w wr w2 : World} {b h : Nat} {x : En} {L L' : List En} {hi mi hi' mi' : Int}
theorem Pl.later (P : Pl w b h x L hi mi wr) (hb : Below wr.heap.size wr w2) : Pl w b h x L hi mi w2 :=
  ⟨P.mem.below hb, (hb.block _ (lt_of_blk P.box)).trans P.box, P.below.trans (hb.mono P.below.size), P.base, P.off⟩
theorem Pl.turn (P : Pl w b h x L hi mi wr) (h1 : TbIs w2 h L' hi' mi') (h2 : Only (· = h) wr w2) : Pl w b h x L' hi' mi' w2 :=
  ⟨h1, (h2.block _ (lt_of_blk P.box) P.off).trans P.box, P.below.trans (h2.below P.below.size fun k hk => by subst hk; exact P.base), P.base, P.off⟩
theorem Pl.bx (P : Pl w b h x L hi mi wr) : wr.cell? ⟨b, 0, none⟩ = some (.int .i64 x.en) ∧ wr.cell? ⟨b, 1, none⟩ = some (.int .i64 x.pg) ∧ wr.cell? ⟨b, 2, none⟩ = some (.int .i64 x.fr) ∧ wr.cell? ⟨b, 3, none⟩ = some (.bool x.wr) :=
  ⟨blk_cell P.box rfl, blk_cell P.box rfl, blk_cell P.box rfl, blk_cell P.box rfl⟩
theorem pl_load (P : Pl w b h x L hi mi wr) (y : En) : Calls Try.prog 6 #[.pointer (some ⟨h, 0, none⟩), .agg (ecells y).toArray] wr fun e w2 => e = .returned (.tuple #[.agg (ecells (loadG L y)).toArray, .bool (loadB L y), .int .i64 (loadE y)]) ∧ Pl w b h x (loadL L y) hi mi w2 :=
  (load_any P.mem y).mono fun _ _ ⟨he, h1, h2⟩ => ⟨he, P.turn h1 h2⟩
theorem pl_look (P : Pl w b h x L hi mi wr) (e p : Int) (wt : Bool) : Calls Try.prog 8 #[.pointer (some ⟨h, 0, none⟩), .int .i64 e, .int .i64 p, .bool wt] wr fun e' w2 => e' = .returned (.tuple #[.int .i64 (lookN L e p wt), .int .i64 (lookE L e p wt)]) ∧ ∃ h' m', Pl w b h x (lookL L e p wt) h' m' w2 :=
  (look_any P.mem e p wt).mono fun _ _ ⟨he, h1, h2⟩ => ⟨he, _, _, P.turn h1 h2⟩
end
set_option maxRecDepth 1000000 in
set_option maxHeartbeats 4000000 in
theorem keeps_wrong {w : World} {Al : Option Addr} {nl cl : Nat} (x : En) (hr : x.right = false) : Calls Try.prog 3 #[.agg (ecells x).toArray, .slice Al nl cl] w fun e w' => e = .returned (.bool true) ∧ Below w.heap.size w w' := by
  obtain ⟨en, pg, fr, wt⟩ := x
  obtain ⟨b, hb⟩ : ∃ b, w.heap.size = b := ⟨_, rfl⟩
  obtain ⟨W, hW⟩ : ∃ W, w.alloc (.cells #[.int .i64 en, .int .i64 pg, .int .i64 fr, .bool wt] 23 (0, 0)) = W := ⟨_, rfl⟩
  have HbW : Hid (Below w.heap.size w W) := Lib.hid (by
    rw [← hW]
    exact (Below.refl _ _).alloc (Nat.le_refl _) _)
  have HB : Hid (W.heap[b]? = some (.cells #[.int .i64 en, .int .i64 pg, .int .i64 fr, .bool wt] 23 (0, 0))) := Lib.hid (by
    rw [← hW, ← hb]
    exact heap_alloc_new _ _)
  have HW := Lib.hid hW
  have Hb := Lib.hid hb
  simp only [ecells] at *
  clear hW hb
  go_enter Try.func3, Try.ntmps3
  go_wp2_with fail
  rw [show w.alloc (.cells #[.int .i64 en, .int .i64 pg, .int .i64 fr, .bool wt] 23 (0, 0)) = W from HW.out, Hb.out]
  refine (awake_any _).mono ?_
  rintro e w1 ⟨rfl, hb1⟩
  have HB1 := Lib.hid hb1
  have HX1 : Hid (w1.heap[b]? = some (.cells #[.int .i64 en, .int .i64 pg, .int .i64 fr, .bool wt] 23 (0, 0))) := Lib.hid ((hb1.block _ (lt_of_blk HB.out)).trans HB.out)
  have HO1 := Lib.hid (HbW.out.trans (hb1.mono HbW.out.size))
  clear hb1
  have c0 := blk_cell (j := 0) HX1.out rfl
  have c1 := blk_cell (j := 1) HX1.out rfl
  have c2 := blk_cell (j := 2) HX1.out rfl
  have c3 := blk_cell (j := 3) HX1.out rfl
  have HR := Lib.hid (rright_any ⟨en, pg, fr, wt⟩ w1)
  rw [hr] at HR
  simp only [ecells] at HR
  go_wp2_with fail
  refine HR.out.mono ?_
  rintro e w2 ⟨rfl, hb2⟩
  have HX2 : Hid (w2.heap[b]? = some (.cells #[.int .i64 en, .int .i64 pg, .int .i64 fr, .bool wt] 23 (0, 0))) := Lib.hid ((hb2.block _ (lt_of_blk HX1.out)).trans HX1.out)
  have HO2 := Lib.hid (HO1.out.trans (hb2.mono HO1.out.size))
  clear hb2 c0 c1 c2 c3 HR
  go_wp2_with fail
  refine (awake_any _).mono ?_
  rintro e w3 ⟨rfl, hb3⟩
  have HE := Lib.hid (HO2.out.trans (hb3.mono HO2.out.size))
  clear hb3
  go_wp2
  go_ret
  exact ⟨rfl, HE.out⟩
set_option maxRecDepth 1000000 in
set_option maxHeartbeats 4000000 in
theorem keeps_long {w : World} {Al : Option Addr} {nl cl : Nat} (x : En) (hr : x.right = true) (hn : 15 < nl) : Calls Try.prog 3 #[.agg (ecells x).toArray, .slice Al nl cl] w fun e w' => e = .returned (.bool true) ∧ Below w.heap.size w w' := by
  have n1 : (15 : Int) < nl := by omega
  clear hn
  obtain ⟨en, pg, fr, wt⟩ := x
  obtain ⟨b, hb⟩ : ∃ b, w.heap.size = b := ⟨_, rfl⟩
  obtain ⟨W, hW⟩ : ∃ W, w.alloc (.cells #[.int .i64 en, .int .i64 pg, .int .i64 fr, .bool wt] 23 (0, 0)) = W := ⟨_, rfl⟩
  have HbW : Hid (Below w.heap.size w W) := Lib.hid (by
    rw [← hW]
    exact (Below.refl _ _).alloc (Nat.le_refl _) _)
  have HB : Hid (W.heap[b]? = some (.cells #[.int .i64 en, .int .i64 pg, .int .i64 fr, .bool wt] 23 (0, 0))) := Lib.hid (by
    rw [← hW, ← hb]
    exact heap_alloc_new _ _)
  have HW := Lib.hid hW
  have Hb := Lib.hid hb
  simp only [ecells] at *
  clear hW hb
  go_enter Try.func3, Try.ntmps3
  go_wp2_with fail
  rw [show w.alloc (.cells #[.int .i64 en, .int .i64 pg, .int .i64 fr, .bool wt] 23 (0, 0)) = W from HW.out, Hb.out]
  refine (awake_any _).mono ?_
  rintro e w1 ⟨rfl, hb1⟩
  have HB1 := Lib.hid hb1
  have HX1 : Hid (w1.heap[b]? = some (.cells #[.int .i64 en, .int .i64 pg, .int .i64 fr, .bool wt] 23 (0, 0))) := Lib.hid ((hb1.block _ (lt_of_blk HB.out)).trans HB.out)
  have HO1 := Lib.hid (HbW.out.trans (hb1.mono HbW.out.size))
  clear hb1
  have c0 := blk_cell (j := 0) HX1.out rfl
  have c1 := blk_cell (j := 1) HX1.out rfl
  have c2 := blk_cell (j := 2) HX1.out rfl
  have c3 := blk_cell (j := 3) HX1.out rfl
  have HR := Lib.hid (rright_any ⟨en, pg, fr, wt⟩ w1)
  rw [hr] at HR
  simp only [ecells] at HR
  go_wp2_with fail
  refine HR.out.mono ?_
  rintro e w2 ⟨rfl, hb2⟩
  have HX2 : Hid (w2.heap[b]? = some (.cells #[.int .i64 en, .int .i64 pg, .int .i64 fr, .bool wt] 23 (0, 0))) := Lib.hid ((hb2.block _ (lt_of_blk HX1.out)).trans HX1.out)
  have HO2 := Lib.hid (HO1.out.trans (hb2.mono HO1.out.size))
  clear hb2 c0 c1 c2 c3 HR
  go_wp2_with fail
  refine (awake_any _).mono ?_
  rintro e w3 ⟨rfl, hb3⟩
  have HE := Lib.hid (HO2.out.trans (hb3.mono HO2.out.size))
  clear hb3
  go_wp2
  go_ret
  exact ⟨rfl, HE.out⟩
set_option maxRecDepth 1000000 in
set_option maxHeartbeats 4000000 in
theorem keeps_main {w : World} {Al : Option Addr} {nl cl : Nat} {l : List En} (x : En) (hl : l.length = nl) (hA : Ens w.heap.size w Al l) (hr : x.right = true) (hn : nl ≤ 15) : Calls Try.prog 3 #[.agg (ecells x).toArray, .slice Al nl cl] w fun e w' => e = .returned (.bool true) ∧ Below w.heap.size w w' := by
  have n0 : (0 : Int) ≤ nl := by omega
  have n1 : ¬ (15 : Int) < nl := by omega
  have HA := Lib.hid hA
  have Hl := Lib.hid hl
  have Hr := Lib.hid hr
  have Hn := Lib.hid hn
  clear hA hl hn
  obtain ⟨en, pg, fr, wt⟩ := x
  obtain ⟨b, hb⟩ : ∃ b, w.heap.size = b := ⟨_, rfl⟩
  obtain ⟨W, hW⟩ : ∃ W, w.alloc (.cells #[.int .i64 en, .int .i64 pg, .int .i64 fr, .bool wt] 23 (0, 0)) = W := ⟨_, rfl⟩
  have HbW : Hid (Below w.heap.size w W) := Lib.hid (by
    rw [← hW]
    exact (Below.refl _ _).alloc (Nat.le_refl _) _)
  have HB : Hid (W.heap[b]? = some (.cells #[.int .i64 en, .int .i64 pg, .int .i64 fr, .bool wt] 23 (0, 0))) := Lib.hid (by
    rw [← hW, ← hb]
    exact heap_alloc_new _ _)
  have HW := Lib.hid hW
  have Hb := Lib.hid hb
  simp only [ecells] at *
  clear hW hb
  go_enter Try.func3, Try.ntmps3
  go_wp2_with fail
  rw [show w.alloc (.cells #[.int .i64 en, .int .i64 pg, .int .i64 fr, .bool wt] 23 (0, 0)) = W from HW.out, Hb.out]
  refine (awake_any _).mono ?_
  rintro e w1 ⟨rfl, hb1⟩
  have HB1 := Lib.hid hb1
  have HX1 : Hid (w1.heap[b]? = some (.cells #[.int .i64 en, .int .i64 pg, .int .i64 fr, .bool wt] 23 (0, 0))) := Lib.hid ((hb1.block _ (lt_of_blk HB.out)).trans HB.out)
  have HO1 := Lib.hid (HbW.out.trans (hb1.mono HbW.out.size))
  clear hb1
  have c0 := blk_cell (j := 0) HX1.out rfl
  have c1 := blk_cell (j := 1) HX1.out rfl
  have c2 := blk_cell (j := 2) HX1.out rfl
  have c3 := blk_cell (j := 3) HX1.out rfl
  have HR := Lib.hid (rright_any ⟨en, pg, fr, wt⟩ w1)
  rw [hr] at HR
  simp only [ecells] at HR
  go_wp2_with fail
  refine HR.out.mono ?_
  rintro e w2 ⟨rfl, hb2⟩
  have HX2 : Hid (w2.heap[b]? = some (.cells #[.int .i64 en, .int .i64 pg, .int .i64 fr, .bool wt] 23 (0, 0))) := Lib.hid ((hb2.block _ (lt_of_blk HX1.out)).trans HX1.out)
  have HO2 := Lib.hid (HO1.out.trans (hb2.mono HO1.out.size))
  clear hb2 hr c0 c1 c2 c3 HR
  have hZ := zero_tlb
  obtain ⟨h, hh⟩ : ∃ h, w2.heap.size = h := ⟨_, rfl⟩
  obtain ⟨W3, hW3⟩ : ∃ W3, w2.alloc (.cells ncells 31 (0, 0)) = W3 := ⟨_, rfl⟩
  have HP3 : Hid (Pl w b h ⟨en, pg, fr, wt⟩ [] 0 0 W3) := Lib.hid (by
    have hb3 : Below w2.heap.size w2 W3 := by
      rw [← hW3]
      exact (Below.refl _ _).alloc (Nat.le_refl _) _
    have h1 := new_is w2
    rw [hW3, hh] at h1
    have h2 := lt_of_blk HX2.out
    exact ⟨h1, (hb3.block _ h2).trans HX2.out, HO2.out.trans (hb3.mono HO2.out.size), by rw [← hh]; exact HO2.out.size, by omega⟩)
  have HW3 := Lib.hid hW3
  have Hh := Lib.hid hh
  generalize ncells = Z at *
  clear hW3 hh
  have c0 := blk_cell (j := 0) HX2.out rfl
  have c1 := blk_cell (j := 1) HX2.out rfl
  have c2 := blk_cell (j := 2) HX2.out rfl
  have c3 := blk_cell (j := 3) HX2.out rfl
  have c4 := lt_of_blk HX2.out
  have c5 := Nat.le_of_lt c4
  have HT := Lib.hid (to_any ⟨en, pg, fr, wt⟩ W3)
  simp only [ecells] at HT
  go_wp2_with fail
  rw [show w2.alloc (.cells Z 31 (0, 0)) = W3 from HW3.out, Hh.out]
  refine HT.out.mono ?_
  rintro e w4 ⟨rfl, hb4⟩
  have HP4 := Lib.hid (HP3.out.later hb4)
  clear hb4 c0 c1 c2 c3 c4 c5 hZ HT
  have HL : Hid (Calls Try.prog 6 #[.pointer (some ⟨h, 0, none⟩), .agg #[.int .i64 en, .int .i64 pg, .int .i64 fr, .bool wt]] w4 fun e w' => (∃ v, e = .returned v) ∧ Pl w b h ⟨en, pg, fr, wt⟩ (loadL [] ⟨en, pg, fr, wt⟩) 0 0 w') := Lib.hid ((pl_load HP4.out ⟨en, pg, fr, wt⟩).mono fun _ _ ⟨he, h2⟩ => ⟨⟨_, he⟩, h2⟩)
  go_wp2_with fail
  refine HL.out.mono ?_
  rintro e w5 ⟨⟨v5, rfl⟩, p5⟩
  have HP5 := Lib.hid p5
  have HI := Lib.hid (inv_start Hr.out)
  clear p5 HL
  go_wp2_with fail
  generalize loadL [] ⟨en, pg, fr, wt⟩ = L0 at *
  go_loopw [6] (fun u6 wr => ∃ (i : Nat) (L : List En) (hi mi : Int), i ≤ nl ∧ u6 = .int .i64 (i : Nat) ∧ Pl w b h ⟨en, pg, fr, wt⟩ L hi mi wr ∧ Inv ⟨en, pg, fr, wt⟩ i L) (fun u6 _ => nl - (intOf u6).toNat)
  case atStart => exact ⟨0, _, _, _, by omega, rfl, HP5.out, HI.out⟩
  case round =>
    clear HP3 HP4 HP5 HI HX2 HO2 HX1 HO1 HB HbW HB1
    obtain ⟨i, L, hi, mi, hin, rfl, hP, hI⟩ := hrel
    have HP := Lib.hid hP
    have HI := Lib.hid hI
    have i0 : (0 : Int) ≤ i := by omega
    obtain ⟨c0, c1, c2, c3⟩ := hP.bx
    dsimp only at c0 c1 c2 c3
    clear hP hI
    by_cases hlt : i < nl
    · have i1 : (i : Int) < nl := by omega
      obtain ⟨ab, ao, rfl, hab, hcell⟩ := HA.out (by rw [Hl.out]; omega)
      obtain ⟨⟨ye, yp, yf, yw⟩, hy⟩ : ∃ y, l[i]? = some y := ⟨_, List.getElem?_eq_getElem (by rw [Hl.out]; exact hlt)⟩
      have hq := hcell i _ hy
      dsimp only at hq
      have Hq : Hid (∀ W, Below wr.heap.size wr W → W.cell? ⟨ab, ao + i * 4, none⟩ = some (.int .i64 ye) ∧ W.cell? ⟨ab, ao + i * 4 + 1, none⟩ = some (.int .i64 yp) ∧ W.cell? ⟨ab, ao + i * 4 + 2, none⟩ = some (.int .i64 yf) ∧ W.cell? ⟨ab, ao + i * 4 + 3, none⟩ = some (.bool yw)) := Lib.hid fun W hb => by
        have hcs : ∀ j, W.cell? ⟨ab, j, none⟩ = w.cell? ⟨ab, j, none⟩ := fun j => (HP.out.below.trans (hb.mono HP.out.below.size)).cell (p := ⟨ab, j, none⟩) hab
        rw [hcs, hcs, hcs, hcs]
        exact hq
      have Hq2 : Hid (∀ W L' h' m', Pl w b h ⟨en, pg, fr, wt⟩ L' h' m' W → W.cell? ⟨ab, ao + i * 4, none⟩ = some (.int .i64 ye) ∧ W.cell? ⟨ab, ao + i * 4 + 1, none⟩ = some (.int .i64 yp)) := Lib.hid fun W L' h' m' P => by
        have hcs : ∀ j, W.cell? ⟨ab, j, none⟩ = w.cell? ⟨ab, j, none⟩ := fun j => P.below.cell (p := ⟨ab, j, none⟩) hab
        rw [hcs, hcs]
        exact ⟨hq.1, hq.2.1⟩
      obtain ⟨q0, q1, q2, q3⟩ := Hq.out wr (Below.refl _ _)
      clear hq hcell hy
      by_cases hsame : ye = en ∧ yp = pg
      · as_aux_lemma =>
          obtain ⟨s1, s2⟩ := hsame
          have d1 : (ye != en) = false := by simp [s1]
          have d2 : (yp != pg) = false := by simp [s2]
          have HI2 := Lib.hid HI.out.up
          clear s1 s2
          go_wp2
          go_quiet (fail)
          go_wp2
          go_roundw
          case rel => exact ⟨i + 1, L, hi, mi, by omega, by go_num, HP.out.later (below_drawn (Below.refl _ _)), HI2.out⟩
          case measure => simp [intOf]; omega
      · have hof : En.of_ ⟨en, pg, fr, wt⟩ ye yp = false := of_not.2 (by
          show ¬ (en = ye ∧ pg = yp)
          intro h2
          exact hsame ⟨h2.1.symm, h2.2.symm⟩)
        have HI2 := Lib.hid (inv_load_look (x := ⟨ye, yp, yf, yw⟩) HI.out (by have := Hn.out; omega) hof)
        dsimp only at HI2
        have HT : Hid (∀ W, Below wr.heap.size wr W → Calls Try.prog 7 #[.agg #[.int .i64 ye, .int .i64 yp, .int .i64 yf, .bool yw]] W fun e w' => e = .returned (.agg #[.int .i64 ye, .int .i64 yp, .int .i64 yf, .bool yw]) ∧ Pl w b h ⟨en, pg, fr, wt⟩ L hi mi w') := Lib.hid fun W hb => (to_any ⟨ye, yp, yf, yw⟩ W).mono fun _ _ ⟨he, h2⟩ => ⟨he, (HP.out.later hb).later h2⟩
        have HL : Hid (∀ W, Pl w b h ⟨en, pg, fr, wt⟩ L hi mi W → Calls Try.prog 6 #[.pointer (some ⟨h, 0, none⟩), .agg #[.int .i64 ye, .int .i64 yp, .int .i64 yf, .bool yw]] W fun e w' => (∃ v, e = .returned v) ∧ Pl w b h ⟨en, pg, fr, wt⟩ (loadL L ⟨ye, yp, yf, yw⟩) hi mi w') := Lib.hid fun W P => (pl_load P ⟨ye, yp, yf, yw⟩).mono fun _ _ ⟨he, h2⟩ => ⟨⟨_, he⟩, h2⟩
        generalize loadL L ⟨ye, yp, yf, yw⟩ = L1 at *
        have HK : Hid (∀ W, Pl w b h ⟨en, pg, fr, wt⟩ L1 hi mi W → Calls Try.prog 8 #[.pointer (some ⟨h, 0, none⟩), .int .i64 ye, .int .i64 yp, .bool false] W fun e w' => (∃ v, e = .returned v) ∧ ∃ h' m', Pl w b h ⟨en, pg, fr, wt⟩ (lookL L1 ye yp false) h' m' w') := Lib.hid fun W P => (pl_look P ye yp false).mono fun _ _ ⟨he, h2⟩ => ⟨⟨_, he⟩, h2⟩
        generalize lookL L1 ye yp false = L2 at *
        have bd : ∀ W q, Below wr.heap.size wr W → Below wr.heap.size wr (W.drewN q) := fun W q h => below_drawn h
        by_cases he : ye = en
        · as_aux_lemma =>
            have s2 : ¬ yp = pg := fun h2 => hsame ⟨he, h2⟩
            have d1 : (ye != en) = false := by simp [he]
            have d2 : (yp != pg) = true := by simp [s2]
            clear he s2 hsame hof
            go_wp2
            go_quiet (fail)
            go_wp2_with fail
            refine (HT.out _ (bd _ _ (Below.refl _ _))).mono ?_
            rintro e w6 ⟨rfl, p6⟩
            have HP6 := Lib.hid p6
            clear p6 q0 q1 q2 q3
            go_wp2_with fail
            refine (HL.out _ HP6.out).mono ?_
            rintro e w7 ⟨⟨v7, rfl⟩, p7⟩
            have HP7 := Lib.hid p7
            obtain ⟨q0, q1⟩ := Hq2.out _ _ _ _ p7
            clear p7
            go_wp2
            go_still_tail 11, (by kernel_rfl)
            change wpList _ _ _ _ _ w7.drew
            have HP8 := Lib.hid (HP7.out.later (Below.refl _ _).drew)
            go_wp2_with fail
            refine (HK.out _ HP8.out).mono ?_
            rintro e w9 ⟨⟨v9, rfl⟩, h', m', p9⟩
            have HP9 := Lib.hid p9
            clear p9
            go_wp2
            go_roundw
            case rel => exact ⟨i + 1, L2, h', m', by omega, by go_num, HP9.out, HI2.out⟩
            case measure => simp [intOf]; omega
        · as_aux_lemma =>
            have d1 : (ye != en) = true := by simp [he]
            clear hsame hof he
            go_wp2
            go_quiet (fail)
            go_wp2_with fail
            refine (HT.out _ (bd _ _ (Below.refl _ _))).mono ?_
            rintro e w6 ⟨rfl, p6⟩
            have HP6 := Lib.hid p6
            clear p6 q0 q1 q2 q3
            go_wp2_with fail
            refine (HL.out _ HP6.out).mono ?_
            rintro e w7 ⟨⟨v7, rfl⟩, p7⟩
            have HP7 := Lib.hid p7
            obtain ⟨q0, q1⟩ := Hq2.out _ _ _ _ p7
            clear p7
            go_wp2
            go_still_tail 11, (by kernel_rfl)
            change wpList _ _ _ _ _ w7.drew
            have HP8 := Lib.hid (HP7.out.later (Below.refl _ _).drew)
            go_wp2_with fail
            refine (HK.out _ HP8.out).mono ?_
            rintro e w9 ⟨⟨v9, rfl⟩, h', m', p9⟩
            have HP9 := Lib.hid p9
            clear p9
            go_wp2
            go_roundw
            case rel => exact ⟨i + 1, L2, h', m', by omega, by go_num, HP9.out, HI2.out⟩
            case measure => simp [intOf]; omega
    · obtain rfl : i = nl := by omega
      have HK := Lib.hid (pl_look HP.out en pg wt)
      have hf := inv_found HI.out
      dsimp only at hf
      rw [hf.1, hf.2] at HK
      clear hf
      go_wp2_with fail
      refine HK.out.mono ?_
      rintro e w6 ⟨rfl, h', m', p6⟩
      have HP6 := Lib.hid p6
      clear p6 c0 c1 c2 c3
      obtain ⟨c0, c1, c2, c3⟩ := HP6.out.bx
      dsimp only at c0 c1 c2 c3
      go_wp2_with fail
      refine (awake_any _).mono ?_
      rintro e w7 ⟨rfl, hb7⟩
      have HE := Lib.hid (HP6.out.below.trans (hb7.mono HP6.out.below.size))
      clear hb7
      go_wp2
      go_ret
      exact ⟨rfl, HE.out⟩
theorem keeps_any {w : World} {Al : Option Addr} {nl cl : Nat} {l : List En} (x : En) (hl : l.length = nl) (hA : Ens w.heap.size w Al l) : Calls Try.prog 3 #[.agg (ecells x).toArray, .slice Al nl cl] w fun e w' => e = .returned (.bool true) ∧ Below w.heap.size w w' := by
  cases hr : x.right with
  | false => exact keeps_wrong x hr
  | true =>
    by_cases hn : 15 < nl
    · exact keeps_long x hr hn
    · exact keeps_main x hl hA hr (by omega)
end Go.Proofs.Ytbidioonojnagaa
