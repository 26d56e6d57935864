/-
  The contract of Sum.
-/
import Derived.Test.YtbeckgdocnofhaaWalksF
import Derived.Test.YtbeckgdocnofhaaMathC
namespace Go.Proofs.Ytbeckgdocnofhaa
open Go.ChangeShapes Go.WideShapes Go.ChangeAt Go.RowKit

/-- A slice of fractions at A, below block B, reads as the list l. -/
def Fracs (B : Nat) (w : World) (A : Option Addr) (l : List (Int × Int)) : Prop :=
  0 < l.length → ∃ b o, A = some ⟨b, o, none⟩ ∧ b < B ∧ ∀ i, i < l.length → w.cell? ⟨b, o + i * 2, none⟩ = some (.int .u64 (l.getD i (0, 0)).1) ∧ w.cell? ⟨b, o + i * 2 + 1, none⟩ = some (.int .u64 (l.getD i (0, 0)).2)
/-- All of a list's fractions are of words. -/
def InWords (l : List (Int × Int)) : Prop := ∀ i, 0 ≤ (l.getD i (0, 0)).1 ∧ (l.getD i (0, 0)).1 < 18446744073709551616 ∧ 0 ≤ (l.getD i (0, 0)).2 ∧ (l.getD i (0, 0)).2 < 18446744073709551616

theorem Fracs.below {B : Nat} {w w' : World} {A : Option Addr} {l : List (Int × Int)} (h : Fracs B w A l) (hb : Below B w w') : Fracs B w' A l := fun hn => by
  obtain ⟨b, o, e, hB, hc⟩ := h hn
  exact ⟨b, o, e, hB, fun i hi => ⟨(hb.cell (p := ⟨b, _, none⟩) hB).trans (hc i hi).1, (hb.cell (p := ⟨b, _, none⟩) hB).trans (hc i hi).2⟩⟩
theorem Fracs.mono {B B' : Nat} {w : World} {A : Option Addr} {l : List (Int × Int)} (h : Fracs B w A l) (hB : B ≤ B') : Fracs B' w A l := fun hn => by
  obtain ⟨b, o, e, hb, hc⟩ := h hn
  exact ⟨b, o, e, by omega, hc⟩

set_option maxHeartbeats 1000000 in
theorem sum_any (A : Option Addr) (n c : Nat) (l : List (Int × Int)) (w : World) (hln : l.length = n) (hl : n ≤ 9223372036854775807) (hL : Fracs w.heap.size w A l) (hI : Hid (InWords l)) :
    Calls Try.prog 26 #[.slice A n c] w fun e w' => e = .returned (.tuple #[.agg #[.int .u64 (Rt.sumN l), .int .u64 (Rt.sumD l)], .int .i64 (Rt.sumE l)]) ∧ Below w.heap.size w w' := by
  have HL := Lib.hid hL
  have Hl := Lib.hid hln
  clear hL hln
  have h0 : Below w.heap.size w ((w.alloc (.cells #[.int .u64 0, .int .u64 0] 30)).alloc (.cells #[.int .u64 0, .int .u64 1] 30)) := by go_grown
  go_enter Try.func26, Try.ntmps26
  go_wp2_with fail
  go_loopw [11] (fun i wr => ∃ (k : Nat) (p q : Int), k ≤ n ∧ i = .int .i64 k ∧ 0 ≤ p ∧ p < 18446744073709551616 ∧ 0 ≤ q ∧ q < 18446744073709551616 ∧ Hid (Rt.sumTo l k = (p, q, 0)) ∧ Below (w.heap.size + 1) (w.alloc (.cells #[.int .u64 0, .int .u64 0] 30)) wr ∧ w.heap.size + 1 < wr.heap.size ∧ wr.cell? ⟨w.heap.size + 1, 0, none⟩ = some (.int .u64 p) ∧ wr.cell? ⟨w.heap.size + 1, 1, none⟩ = some (.int .u64 q) ∧ wr.frozen? ⟨w.heap.size + 1, 0, none⟩ = false ∧ wr.frozen? ⟨w.heap.size + 1, 1, none⟩ = false) (fun i _ => (n - intOf i).toNat)
  case atStart => exact ⟨0, 0, 1, by omega, rfl, by omega, by omega, by omega, by omega, (rfl : Rt.sumTo l 0 = (0, 1, 0)), (Below.refl _ _).alloc (by simp) _, by simp, by simp [go_sem], by simp [go_sem], by simp [go_sem], by simp [go_sem]⟩
  case round =>
    obtain ⟨k, p, q, hk, rfl, hp1, hp2, hq1, hq2, hs, hb, hz, hc1, hc2, hf1, hf2⟩ := hrel
    by_cases hlt : k < n
    · obtain ⟨ab, ao, hA, hB, hcell⟩ := HL.out (by rw [Hl.out]; omega)
      subst hA
      obtain ⟨hx1, hx2⟩ := hcell k (by rw [Hl.out]; exact hlt)
      clear hcell
      obtain ⟨hcc, hff⟩ := old_cells hb
      have hab1 : ab < w.heap.size + 1 := by omega
      have hab2 : ab ≤ w.heap.size := by omega
      have hab3 : ab < wr.heap.size := by omega
      have hab4 : ab ≤ wr.heap.size := by omega
      have hz2 : w.heap.size < wr.heap.size := by omega
      have hk0 : (0 : Int) ≤ k := by omega
      have hkn : (k : Int) < n := by omega
      obtain ⟨i1, i2, i3, i4⟩ := hI.out k
      have hst := Lib.hid (Rt.sumTo_step hs.out (l.getD k (0, 0)) rfl)
      obtain ⟨x, y, hxy⟩ : ∃ x y, l.getD k (0, 0) = (x, y) := ⟨_, _, rfl⟩
      rw [hxy] at hx1 hx2 i1 i2 i3 i4 hst
      clear hxy
      go_wp2_with fail
      refine (add_any p q x y _ hp1 hp2 hq1 hq2 i1 i2 i3 i4).mono ?_
      rintro e w2 ⟨rfl, hb2⟩
      obtain ⟨e2, f2⟩ := old_cells hb2
      have hz3 : wr.heap.size < w2.heap.size := by have := hb2.size; simp at this; omega
      have hz4 : w.heap.size + 1 < w2.heap.size := by omega
      have hz5 : w.heap.size < w2.heap.size := by omega
      have hz6 : w.heap.size ≤ wr.heap.size := by omega
      have hz7 : w.heap.size + 1 ≤ wr.heap.size := by omega
      have hz8 : w.heap.size + 1 < wr.heap.size + 1 := by omega
      have h1 : Below (w.heap.size + 1) (w.alloc (.cells #[.int .u64 0, .int .u64 0] 30)) w2 := (hb.alloc (by omega) (.cells #[.int .u64 x, .int .u64 y] 30)).trans (hb2.mono (by simp; omega))
      have h3 : Below w.heap.size w w2 := ((Below.refl _ _).alloc (Nat.le_refl _) _).trans (h1.mono (by simp))
      have g1 : w2.cell? ⟨w.heap.size, 0, none⟩ = some (.int .u64 0) := by
        rw [(old_cells h1).1 _ _ (by omega)]
        simp [go_sem]
      have g2 : w2.cell? ⟨w.heap.size, 1, none⟩ = some (.int .u64 0) := by
        rw [(old_cells h1).1 _ _ (by omega)]
        simp [go_sem]
      have hbd := Lib.hid (Rt.add_bd p q x y hp1 hq1 i1 i3)
      rcases Rt.add_kinds p q x y with he | he | he
      · have He := Lib.hid he
        rw [he]
        clear he
        go_wp2
        go_roundw
        case rel => exact ⟨k + 1, _, _, by omega, by go_num, hbd.out.1.1, hbd.out.1.2, hbd.out.2.1, hbd.out.2.2, (by rw [hst.out, He.out] : Rt.sumTo l (k + 1) = (Rt.addN p q x y, Rt.addD p q x y, 0)), (h1.setCell (Nat.le_refl _) _).setCell (Nat.le_refl _) _, by simp [World.setCell]; omega, by simp [go_sem, e2, hz8, hc1, hz], by simp [go_sem, e2, hz8, hc2, hz], by simp [go_sem, f2, hz8, hf1, hz], by simp [go_sem, f2, hz8, hf2, hz]⟩
        case measure => simp [intOf]; omega
      · have He := Lib.hid he
        rw [he]
        clear he
        go_wp2
        refine bodyPost_ret (v := .tuple #[.agg #[.int .u64 0, .int .u64 0], .int .i64 1]) (by simp [results, Try.results26, go_sem, g1, g2]) rfl ⟨?_, ?_⟩
        · have h1 := hst.out
          rw [He.out] at h1
          rcases Rt.add_cases p q x y with h2 | ⟨-, h2, h3⟩
          · rw [He.out] at h2
            exact absurd h2 (by decide)
          rw [h2, h3] at h1
          have h4 := Rt.sumTo_far h1 (by decide) l.length (by rw [Hl.out]; omega)
          exact three_back (by rw [Rt.sumN, h4]) (by rw [Rt.sumD, h4]) (by rw [Rt.sumE, h4])
        · exact h3.trans (by go_grown)
      · have He := Lib.hid he
        rw [he]
        clear he
        go_wp2
        refine bodyPost_ret (v := .tuple #[.agg #[.int .u64 0, .int .u64 0], .int .i64 24]) (by simp [results, Try.results26, go_sem, g1, g2]) rfl ⟨?_, ?_⟩
        · have h1 := hst.out
          rw [He.out] at h1
          rcases Rt.add_cases p q x y with h2 | ⟨-, h2, h3⟩
          · rw [He.out] at h2
            exact absurd h2 (by decide)
          rw [h2, h3] at h1
          have h4 := Rt.sumTo_far h1 (by decide) l.length (by rw [Hl.out]; omega)
          exact three_back (by rw [Rt.sumN, h4]) (by rw [Rt.sumD, h4]) (by rw [Rt.sumE, h4])
        · exact h3.trans (by go_grown)
    · have hkn : Hid (k = n) := (by omega : k = n)
      obtain ⟨hcc, hff⟩ := old_cells hb
      have hz2 : w.heap.size < wr.heap.size := by omega
      have h3 : Below w.heap.size w wr := ((Below.refl _ _).alloc (Nat.le_refl _) _).trans (hb.mono (by simp))
      go_wp2
      refine bodyPost_ret (v := .tuple #[.agg #[.int .u64 p, .int .u64 q], .int .i64 0]) (by simp [results, Try.results26, go_sem, hcc]) rfl ⟨?_, ?_⟩
      · have h4 := hs.out
        rw [hkn.out, ← Hl.out] at h4
        exact three_back (by rw [Rt.sumN, h4]) (by rw [Rt.sumD, h4]) (by rw [Rt.sumE, h4])
      · exact h3.trans (by go_grown)
end Go.Proofs.Ytbeckgdocnofhaa
