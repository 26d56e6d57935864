/-
  Contracts of the document's answers: what a reservation gives at least, and takes at most, period by period; a reservation made the program's; the chapter's example.
-/
import Derived.Test.YtbeckgdocnofhaaSWalksA
namespace Go.Proofs.Ytbeckgdocnofhaa
open Go.ChangeShapes Go.WideShapes Go.ChangeAt Go.RowKit

set_option maxHeartbeats 800000 in
theorem rleast_any (b p t : Int) (w : World) (hb : 0 ≤ b) (hb2 : b ≤ 1048576) (hp : 1 ≤ p) (hp2 : p ≤ 1048576) (ht : t ≤ 1048576) (ht0 : -1048576 ≤ t) :
    Calls Try.prog 16 #[.agg #[.int .i64 b, .int .i64 p], .int .i64 t] w fun e w' => e = .returned (.int .i64 (Sp.give b p t)) ∧ Below w.heap.size w w' := by
  go_enter Try.func16, Try.ntmps16
  go_wp2_with fail
  go_loop [5, 6] (fun n a => ∃ (k : Nat) (N A : Int), n = .int .i64 N ∧ a = .int .i64 A ∧ 0 ≤ N ∧ N ≤ 4398046511104 ∧ 0 ≤ A ∧ A ≤ 2097152 ∧ Hid (Sp.AtL b p t k N A)) (fun _ a => (1048577 - intOf a).toNat)
  case atStart => exact ⟨0, 0, 2 * p, rfl, rfl, by omega, by omega, by omega, by omega, Sp.AtL.start b p t⟩
  case round =>
    obtain ⟨k, N, A, rfl, rfl, hN, hN2, hA, hA2, hat⟩ := hrel
    by_cases hlt : A ≤ t
    · have hst := Lib.hid (hat.out.step hlt)
      have hbd := Lib.hid (hst.out.bd hb hb2 hp hp2 ht)
      go_wp2
      go_round
      case rel => exact ⟨k + 1, N + b, A + p, rfl, rfl, hbd.out.1.1, hbd.out.1.2, hbd.out.2.1, hbd.out.2.2, hst.out⟩
      case measure => simp [intOf]; omega
    · have hdn := Lib.hid (hat.out.done hp (by omega))
      go_wp2
      go_ret
      exact ⟨int_back hdn.out, by go_grown⟩

set_option maxHeartbeats 800000 in
theorem rmost_any (b p t : Int) (w : World) (hb : 0 ≤ b) (hb2 : b ≤ 1048576) (hp : 1 ≤ p) (hp2 : p ≤ 1048576) (ht : t ≤ 1048576) (ht0 : 0 ≤ t) :
    Calls Try.prog 17 #[.agg #[.int .i64 b, .int .i64 p], .int .i64 t] w fun e w' => e = .returned (.int .i64 (Sp.take b p t)) ∧ Below w.heap.size w w' := by
  go_enter Try.func17, Try.ntmps17
  go_wp2_with fail
  go_loop [5, 6] (fun n a => ∃ (k : Nat) (N A : Int), n = .int .i64 N ∧ a = .int .i64 A ∧ 0 ≤ N ∧ N ≤ 4398046511104 ∧ 0 ≤ A ∧ A ≤ 2097152 ∧ Hid (Sp.AtM b p t k N A)) (fun _ a => (1048577 - intOf a).toNat)
  case atStart => exact ⟨0, b, 0, rfl, rfl, by omega, by omega, by omega, by omega, Sp.AtM.start b p t⟩
  case round =>
    obtain ⟨k, N, A, rfl, rfl, hN, hN2, hA, hA2, hat⟩ := hrel
    by_cases hlt : A < t
    · have hst := Lib.hid (hat.out.step hlt)
      have hbd := Lib.hid (hst.out.bd hb hb2 hp hp2 ht)
      go_wp2
      go_round
      case rel => exact ⟨k + 1, N + b, A + p, rfl, rfl, hbd.out.1.1, hbd.out.1.2, hbd.out.2.1, hbd.out.2.2, hst.out⟩
      case measure => simp [intOf]; omega
    · have hdn := Lib.hid (hat.out.done hp ht0 (by omega))
      go_wp2
      go_ret
      exact ⟨int_back hdn.out, by go_grown⟩

set_option maxHeartbeats 400000 in
theorem sto_any (a b : Int) (w : World) :
    Calls Try.prog 8 #[.agg #[.int .i64 a, .int .i64 b]] w fun e w' => e = .returned (.agg #[.int .i64 a, .int .i64 b]) ∧ Below w.heap.size w w' := by
  go_enter Try.func8, Try.ntmps8
  go_wp2
  exact bodyPost_ret (v := .agg #[.int .i64 a, .int .i64 b]) (by simp [results, Try.results8, go_sem]) rfl ⟨rfl, by go_grown⟩

set_option maxHeartbeats 800000 in
theorem sawake_any (w : World) :
    Calls Try.prog 14 #[] w fun e w' => e = .returned (.bool true) ∧ Below w.heap.size w w' := by
  have CL : Hid (∀ w : World, _) := fun w => least_any 2 5 14 w
  have CM : Hid (∀ w : World, _) := fun w => most_any 2 5 14 w
  rw [show Sp.least 2 5 14 = 2 by decide] at CL
  rw [show Sp.most 2 5 14 = 8 by decide] at CM
  go_enter Try.func14, Try.ntmps14
  go_wp2_with fail
  refine (CL.out _).mono ?_
  rintro e w1 ⟨rfl, hb1⟩
  replace hb1 := Below.mono hb1 (B' := w.heap.size + 1) (by simp)
  have hW := Lib.hid (((Below.refl _ _).alloc (Nat.le_refl _) _).trans (hb1.mono (by simp)))
  obtain ⟨hc, hf⟩ := old_cells hb1
  have hz1 : w.heap.size < w1.heap.size := by have := hb1.size; simp at this; omega
  clear hb1
  go_wp2_with fail
  refine (CM.out _).mono ?_
  rintro e w2 ⟨rfl, hb2⟩
  have hz := Lib.hid hz1
  clear hc hf hz1
  go_wp2
  go_ret
  exact ⟨rfl, hW.out.trans (hb2.mono (by have := hz.out; omega))⟩
end Go.Proofs.Ytbeckgdocnofhaa
