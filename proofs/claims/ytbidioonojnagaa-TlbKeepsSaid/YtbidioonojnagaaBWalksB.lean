/-
  Contracts: the shelf's IndexFunc with find's test, there, find.
-/
import Derived.Test.YtbidioonojnagaaBWalksA
import Derived.BigQuiet
namespace Go.Proofs.Ytbidioonojnagaa
open Go.ChangeShapes Go.WideShapes Go.ChangeAt Go.RowKit

section
variable {w : World} {h : Nat} {L : List En} {hi mi : Int}
set_option maxHeartbeats 1000000 in
theorem index_any {A B n : Nat} (H : TbIs w h L hi mi) (hn : L.length = n) (e p : Int) (hA : w.cell? ⟨A, 0, none⟩ = some (.int .i64 e)) (hB : w.cell? ⟨B, 0, none⟩ = some (.int .i64 p)) (lA : A < w.heap.size) (lB : B < w.heap.size) :
    Calls Try.prog 14 #[.slice (some ⟨h, 0, none⟩) n 16, .func (.func 16) #[] #[.pointer (some ⟨A, 0, none⟩), .pointer (some ⟨B, 0, none⟩)]] w fun e' w' => e' = .returned (.int .i64 (findN L e p)) ∧ Below w.heap.size w w' := by
  have hl := H.low
  rw [hn] at hl
  have HH := Lib.hid H
  have Hn := Lib.hid hn
  have HF : Hid (∀ (W : World) (x : En), Below w.heap.size w W → Calls Try.prog 16 #[.agg (ecells x).toArray, .pointer (some ⟨A, 0, none⟩), .pointer (some ⟨B, 0, none⟩)] W fun e' w' => e' = .returned (.bool (x.of_ e p)) ∧ Below W.heap.size W w') := Lib.hid fun W x hb => of_any x e p W ((hb.cell (p := ⟨A, 0, none⟩) lA).trans hA) ((hb.cell (p := ⟨B, 0, none⟩) lB).trans hB) (Nat.lt_of_lt_of_le lA hb.size) (Nat.lt_of_lt_of_le lB hb.size)
  have h0 : (0 : Int) ≤ n := by omega
  have h1 : (n : Int) ≤ 16 := by omega
  clear H hn hA hB lA lB
  go_enter Try.func14, Try.ntmps14
  go_wp2
  go_loopw [5, 8] (fun _ u8 wr => ∃ i : Nat, i ≤ n ∧ i ≤ fs L e p ∧ u8 = .int .i64 (i : Nat) ∧ Below w.heap.size w wr) (fun _ u8 _ => n - (intOf u8).toNat)
  case atStart => exact ⟨0, Nat.zero_le _, Nat.zero_le _, rfl, Below.refl _ _⟩
  case round =>
    obtain ⟨i, hin, hif, rfl, hb⟩ := hrel
    have HB := Lib.hid hb
    by_cases hlt : i < n
    · obtain ⟨x, hx⟩ : ∃ x, L[i]? = some x := ⟨_, List.getElem?_eq_getElem (by rw [Hn.out]; exact hlt)⟩
      obtain ⟨c0, c1, c2, c3⟩ := (HH.out.below hb).at_ hx
      have i0 : (0 : Int) ≤ i := by omega
      have i1 : (i : Int) < n := by omega
      have HC := Lib.hid (HF.out wr x hb)
      cases ho : x.of_ e p with
      | true =>
        have hni : fs L e p = i := by
          refine Nat.le_antisymm ?_ hif
          refine Nat.le_of_not_lt fun h3 => ?_
          obtain ⟨y, hy, hyt⟩ := fs_lt L e p i h3
          rw [hx] at hy
          cases hy
          rw [ho] at hyt
          cases hyt
        have HN : Hid ((i : Int) = findN L e p) := Lib.hid (by rw [findN, hni, if_pos (by rw [Hn.out]; exact hlt)])
        rw [ho] at HC
        simp only [ecells] at HC
        generalize x.en = xe at *
        generalize x.pg = xp at *
        generalize x.fr = xf at *
        generalize x.wr = xw at *
        clear hx hif hni hb ho
        go_wp2_with (go_at_call 16; refine HC.out.mono ?_; rintro e' w2 ⟨rfl, hb2⟩)
        go_ret
        exact ⟨int_back HN.out, HB.out.trans (hb2.mono HB.out.size)⟩
      | false =>
        have hne : i ≠ fs L e p := fun e2 => by
          obtain ⟨y, hy, hyt⟩ := fs_at L e p (by rw [Hn.out, ← e2]; exact hlt)
          rw [← e2, hx] at hy
          cases hy
          rw [ho] at hyt
          cases hyt
        have Hi : Hid (i + 1 ≤ fs L e p) := Lib.hid (by omega)
        rw [ho] at HC
        simp only [ecells] at HC
        generalize x.en = xe at *
        generalize x.pg = xp at *
        generalize x.fr = xf at *
        generalize x.wr = xw at *
        clear hx hif hne hb ho
        go_wp2_with (go_at_call 16; refine HC.out.mono ?_; rintro e' w2 ⟨rfl, hb2⟩)
        go_roundw
        case rel => exact ⟨i + 1, by omega, Hi.out, by go_num, HB.out.trans (hb2.mono HB.out.size)⟩
        case measure => simp [intOf]; omega
    · obtain rfl : i = n := by omega
      have HN : Hid ((-1 : Int) = findN L e p) := Lib.hid (by rw [findN, if_neg (by rw [Hn.out]; omega)])
      clear hif hb
      go_wp2
      go_ret
      exact ⟨int_back HN.out, HB.out⟩
set_option maxHeartbeats 1000000 in
theorem there_any {n : Nat} (H : TbIs w h L hi mi) (hn : L.length = n) : Calls Try.prog 15 #[.pointer (some ⟨h, 0, none⟩)] w fun e w' => e = .returned (.slice (some ⟨h, 0, none⟩) n 16) ∧ Below w.heap.size w w' := by
  have hc := H.all.1
  have hl := H.low
  rw [hn] at hc hl
  have h0 : (0 : Int) ≤ n := by omega
  have h1 : (n : Int) ≤ 16 := by omega
  clear H hn
  go_enter Try.func15, Try.ntmps15
  go_wp2
  go_quiet (fail)
  go_wp2
  go_ret
  exact ⟨rfl, below_drawn (Below.refl _ _)⟩
theorem find_any (H : TbIs w h L hi mi) (e p : Int) : Calls Try.prog 10 #[.pointer (some ⟨h, 0, none⟩), .int .i64 e, .int .i64 p] w fun e' w' => e' = .returned (.int .i64 (findN L e p)) ∧ Below w.heap.size w w' := by
  obtain ⟨W, hW⟩ : ∃ W, (w.alloc (.cells #[.int .i64 e] 3 (0, 0))).alloc (.cells #[.int .i64 p] 3 (0, 0)) = W := ⟨_, rfl⟩
  have HbW : Hid (Below w.heap.size w W) := Lib.hid (by
    rw [← hW]
    exact ((Below.refl _ _).alloc (Nat.le_refl _) _).alloc (by simp) _)
  have HT := Lib.hid (there_any (H.below HbW.out) rfl)
  obtain ⟨r, hr⟩ : ∃ r, findN L e p = r := ⟨_, rfl⟩
  obtain ⟨n, hn⟩ : ∃ n, L.length = n := ⟨_, rfl⟩
  have HI : Hid (∀ w2, Below W.heap.size W w2 → Calls Try.prog 14 #[.slice (some ⟨h, 0, none⟩) n 16, .func (.func 16) #[] #[.pointer (some ⟨w.heap.size, 0, none⟩), .pointer (some ⟨w.heap.size + 1, 0, none⟩)]] w2 fun e' w' => e' = .returned (.int .i64 r) ∧ Below w2.heap.size w2 w') := Lib.hid fun w2 hb2 => by
    have s1 : W.heap.size = w.heap.size + 2 := by rw [← hW]; simp
    have hbw := HbW.out.trans (hb2.mono HbW.out.size)
    rw [← hr]
    have hs := hb2.size
    refine index_any (H.below hbw) hn e p ?_ ?_ (by omega) (by omega)
    · rw [hb2.cell (p := ⟨w.heap.size, 0, none⟩) (by show w.heap.size < _; omega), ← hW]
      simp
    · rw [hb2.cell (p := ⟨w.heap.size + 1, 0, none⟩) (by show w.heap.size + 1 < _; omega), ← hW]
      simp
  rw [hr]
  rw [hn] at HT
  have HW := Lib.hid hW
  clear H hr hn hW
  go_enter Try.func10, Try.ntmps10
  go_wp2_with fail
  rw [show (w.alloc (.cells #[.int .i64 e] 3 (0, 0))).alloc (.cells #[.int .i64 p] 3 (0, 0)) = W from HW.out]
  refine HT.out.mono ?_
  rintro e' w2 ⟨rfl, hb2⟩
  have HB2 := Lib.hid hb2
  clear hb2
  go_wp2_with fail
  refine (HI.out w2 HB2.out).mono ?_
  rintro e' w3 ⟨rfl, hb3⟩
  have HE : Hid (Below w.heap.size w w3) := Lib.hid ((HbW.out.trans (HB2.out.mono HbW.out.size)).trans (hb3.mono (Nat.le_trans HbW.out.size HB2.out.size)))
  go_wp2
  go_ret
  exact ⟨rfl, HE.out⟩
end
end Go.Proofs.Ytbidioonojnagaa
