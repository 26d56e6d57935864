/-
  Contracts of what the statements' own text has: a fraction made the program's; the chapter's example.
-/
import Derived.Test.YthegadplakllkaaWalksH
namespace Go.Proofs.Ythegadplakllkaa
open Go.ChangeShapes Go.WideShapes Go.ChangeAt Go.RowKit

set_option maxHeartbeats 400000 in
theorem to_any (a b : Int) (w : World) :
    Calls Try.prog 8 #[.agg #[.int .u64 a, .int .u64 b]] w fun e w' => e = .returned (.agg #[.int .u64 a, .int .u64 b]) ∧ Below w.heap.size w w' := by
  go_enter Try.func8, Try.ntmps8
  go_wp2
  exact bodyPost_ret (v := .agg #[.int .u64 a, .int .u64 b]) (by simp [results, Try.results8, go_sem]) rfl ⟨rfl, by go_grown⟩

set_option maxHeartbeats 400000 in
theorem awake_any (w : World) :
    Calls Try.prog 15 #[] w fun e w' => e = .returned (.bool true) ∧ Below w.heap.size w w' := by
  have hI : Hid (InWords [(1, 2), (1, 3), (1, 6)]) := (fun i => by
    match i with
    | 0 => decide
    | 1 => decide
    | 2 => decide
    | i + 3 => simp [List.getD] : InWords [(1, 2), (1, 3), (1, 6)])
  have hN : Hid (Rt.sumN [(1, 2), (1, 3), (1, 6)] = 1) := (by decide +kernel : Rt.sumN [(1, 2), (1, 3), (1, 6)] = 1)
  have hD : Hid (Rt.sumD [(1, 2), (1, 3), (1, 6)] = 1) := (by decide +kernel : Rt.sumD [(1, 2), (1, 3), (1, 6)] = 1)
  have hE : Hid (Rt.sumE [(1, 2), (1, 3), (1, 6)] = 0) := (by decide +kernel : Rt.sumE [(1, 2), (1, 3), (1, 6)] = 0)
  go_enter Try.func15, Try.ntmps15
  go_wp2_with fail
  refine (sum_any _ _ _ [(1, 2), (1, 3), (1, 6)] _ rfl (by decide) ?_ hI).mono ?_
  · intro _
    refine ⟨_, _, rfl, by simp, fun i hi => ?_⟩
    match i, hi with
    | 0, _ => exact ⟨by simp [go_sem], by simp [go_sem]⟩
    | 1, _ => exact ⟨by simp [go_sem], by simp [go_sem]⟩
    | 2, _ => exact ⟨by simp [go_sem], by simp [go_sem]⟩
  rw [hN.out, hD.out, hE.out]
  rintro e w1 ⟨rfl, hb⟩
  go_wp2
  go_ret
  exact ⟨rfl, (((Below.refl _ _).alloc (Nat.le_refl _) _).trans (hb.mono (by simp))).alloc (by have := hb.size; simp at this; omega) _⟩
end Go.Proofs.Ythegadplakllkaa
