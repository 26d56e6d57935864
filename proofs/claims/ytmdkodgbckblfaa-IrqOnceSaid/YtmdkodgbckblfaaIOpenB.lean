/-
  A byte, as it comes in to a law.
-/
import Derived.Test.YtmdkodgbckblfaaIOpen
namespace Go.Proofs.Ytmdkodgbckblfaa

theorem u8_nat {n : Int} (h : (Lit.int .u8 n).wf = true) : ∃ m : Nat, n = (m : Int) ∧ m < 256 := by
  simp [Lit.wf, IntKind.min, IntKind.max, IntKind.signed, IntKind.bits] at h
  exact ⟨n.toNat, by omega, by omega⟩
end Go.Proofs.Ytmdkodgbckblfaa
