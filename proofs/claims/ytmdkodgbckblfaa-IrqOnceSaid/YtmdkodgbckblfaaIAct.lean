/-
  A list of acts, as it comes in; what Next may answer.
-/
import Derived.Test.YtmdkodgbckblfaaIAt
import Derived.Test.YtmdkodgbckblfaaOpens
import Derived.Test.YtmdkodgbckblfaaLater
namespace Go.Proofs.Ytmdkodgbckblfaa
open Go.ChangeShapes Go.WideShapes Go.ChangeAt Go.RowKit

/-- An act: which, Line, Held. -/
abbrev Ac := Int × Int × Bool
/-- A list of acts, as it comes in. -/
def Acs (B : Nat) (w : World) (A : Option Addr) (l : List Ac) : Prop := 0 < l.length → ∃ b o, A = some ⟨b, o, none⟩ ∧ b < B ∧ ∀ i x, l[i]? = some x → w.cell? ⟨b, o + i * 3, none⟩ = some (.int .i64 x.1) ∧ w.cell? ⟨b, o + i * 3 + 1, none⟩ = some (.int .i64 x.2.1) ∧ w.cell? ⟨b, o + i * 3 + 2, none⟩ = some (.bool x.2.2)
theorem next_ways (L : List Ln) : (∃ N : Nat, N < L.length ∧ nextN L = (N : Int) ∧ nextB L = true ∧ nextR L = (N : Int)) ∨ (nextN L = 0 ∧ nextB L = false ∧ nextR L = -1) := by
  by_cases h : nx L < L.length
  · exact Or.inl ⟨nx L, h, if_pos h, by simp [nextB, h], if_pos h⟩
  · exact Or.inr ⟨if_neg h, by simp [nextB, h], if_neg h⟩
end Go.Proofs.Ytmdkodgbckblfaa
