/-
  Contracts of the document's answers: what a reservation gives at least, and takes at most, period by period; a reservation made the program's; the chapter's example.
-/
import Derived.Test.YtlpmcmgalodfeaaSWalksA
namespace Go.Proofs.Ytlpmcmgalodfeaa
open Go.ChangeShapes Go.WideShapes Go.ChangeAt Go.RowKit

set_option maxHeartbeats 800000 in
theorem rleast_any (b p t : Int) (w : World) (hb : 0 ≤ b) (hb2 : b ≤ 1048576) (hp : 1 ≤ p) (hp2 : p ≤ 1048576) (ht : t ≤ 1048576) (ht0 : -1048576 ≤ t) :
    Calls Try.prog 19 #[.agg #[.int .i64 b, .int .i64 p], .int .i64 t] w fun e w' => e = .returned (.int .i64 (Sp.give b p t)) ∧ Below w.heap.size w w' := by
  go_enter Try.func19, Try.ntmps19
  go_wp2_with fail
  go_loop [5, 6] (fun n a => ∃ (k : Nat) (N A : Int), n = .int .i64 N ∧ a = .int .i64 A ∧ 0 ≤ N ∧ N ≤ 4398046511104 ∧ 0 ≤ A ∧ A ≤ 2097152 ∧ Hid (Sp.AtL b p t k N A)) (fun _ a => (1048577 - intOf a).toNat)
  case atStart => exact ⟨0, 0, 2 * p, rfl, rfl, by omega, by omega, by omega, by omega, Sp.AtL.start b p t⟩
  case round =>
    obtain ⟨k, N, A, rfl, rfl, hN, hN2, hA, hA2, hat⟩ := hrel
    by_cases hlt : A ≤ t
    · have hst := Lib.hid (hat.out.step hlt)
      have hbd := Lib.hid (hst.out.bd hb hb2 hp hp2 ht)
      go_wp2
      go_round
      case rel => exact ⟨k + 1, N + b, A + p, rfl, rfl, hbd.out.1.1, hbd.out.1.2, hbd.out.2.1, hbd.out.2.2, hst.out⟩
      case measure => simp [intOf]; omega
    · have hdn := Lib.hid (hat.out.done hp (by omega))
      go_wp2
      go_ret
      exact ⟨int_back hdn.out, by go_grown⟩



end Go.Proofs.Ytlpmcmgalodfeaa
