/-
  A world that came later: below block B it is as W was. One walk of a region that draws its order, whose calls make memory of their own: every order ends in a world that came later, with the same values.
-/
import Derived.WalkKit
import Derived.ProofKit
import Derived.Lib.Hide
import Derived.Deep.QuietTactic
import Derived.BigQuiet
namespace Go.Proofs.Ytcofehmgnpmecaa
open Go.RowKit

/-- The worlds that came later than W, as far as blocks below B go. -/
structure Later (B : Nat) (W : World) where
  world : World
  below : Below B W world

instance Later.some (B : Nat) (W : World) : Nonempty (Later B W) := ⟨⟨W, Below.refl _ _⟩⟩

@[simp, go_sem] theorem Later.cell (B : Nat) (W : World) (n : Later B W) (b o : Nat) (h : b < B) : n.world.cell? ⟨b, o, none⟩ = W.cell? ⟨b, o, none⟩ := n.below.cell (p := ⟨b, o, none⟩) h
@[simp, go_sem] theorem Later.frozen (B : Nat) (W : World) (n : Later B W) (b o : Nat) (h : b < B) : n.world.frozen? ⟨b, o, none⟩ = W.frozen? ⟨b, o, none⟩ := n.below.frozen (p := ⟨b, o, none⟩) h

section
variable {P : Program} {l : List Oper} {id : Nat} {Q : Exit → Act → World → Prop} {a : Act} {w : World}

/-- One walk of the lexical order serves every order, in the class of the worlds that came later than W. -/
theorem wp_region_later (B : Nat) (W : World) (hm : P.follows .mixedOrders = true) (hB : Region.lexB .any l.toArray = true) (hC : Below B W w)
    (h : wpQuiet P l.toArray (fun w' => ∃ n : Later B W, w' = n.world) (fun a' => ∀ w', (∃ n : Later B W, w' = n.world) → Q .normal a' w') l a) : (Code.region id l.toArray true).wp P Q a w :=
  wp_region_quiet (C := fun w' => ∃ n : Later B W, w' = n.world) hm hB ⟨⟨_, hC.drew⟩, rfl⟩ (by simpa using h)

/-- A callee's contract, met in a world that came later. -/
theorem Calls.later {f : FuncId} {args : Array Value} {B : Nat} {W : World} {n : Later B W} {v : Value} (hB : B ≤ W.heap.size)
    (h : Calls P f args n.world fun e w' => e = .returned v ∧ Below n.world.heap.size n.world w') : Calls P f args n.world fun e w'' => e = .returned v ∧ ∃ m : Later B W, w'' = m.world :=
  h.mono fun _ w' ⟨he, hb⟩ => ⟨he, ⟨w', n.below.trans (hb.mono (Nat.le_trans hB n.below.size))⟩, rfl⟩
/-- .. of a callee that leaves the world alone. -/
theorem Calls.later_same {f : FuncId} {args : Array Value} {B : Nat} {W : World} {n : Later B W} {v : Value}
    (h : Calls P f args n.world fun e w' => e = .returned v ∧ n.world = w') : Calls P f args n.world fun e w'' => e = .returned v ∧ ∃ m : Later B W, w'' = m.world :=
  h.mono fun _ _ ⟨he, hb⟩ => ⟨he, n, hb.symm⟩
end

/-- Old memory, read and looked at, in a world that came later. -/
theorem old_cells {B : Nat} {W later : World} (hb : Below B W later) :
    (∀ k i, k < B → later.cell? ⟨k, i, none⟩ = W.cell? ⟨k, i, none⟩) ∧ (∀ k i, k < B → later.frozen? ⟨k, i, none⟩ = W.frozen? ⟨k, i, none⟩) := by
  constructor
  · intro k i hk
    exact hb.cell (p := ⟨k, i, none⟩) hk
  · intro k i hk
    exact hb.frozen (p := ⟨k, i, none⟩) hk

/-- What is handed back, told another way. -/
theorem bool_back {x y : Bool} (h : x = y) : Ending.returned (.bool x) = .returned (.bool y) := congrArg (fun b => Ending.returned (.bool b)) h
theorem int_back {k : IntKind} {x y : Int} (h : x = y) : Ending.returned (.int k x) = .returned (.int k y) := congrArg (fun n => Ending.returned (.int k n)) h
end Go.Proofs.Ytcofehmgnpmecaa
