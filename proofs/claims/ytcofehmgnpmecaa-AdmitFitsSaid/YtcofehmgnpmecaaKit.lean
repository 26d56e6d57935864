/-
  What many walks lean on: results told another way; worlds behind calls, draws, stores; rows of the call's own.
-/
import Derived.Test.YtcofehmgnpmecaaLater
import Derived.OwnWalk
import Derived.Deep.Draws
namespace Go.Proofs.Ytcofehmgnpmecaa
open Go.RowKit

theorem two_back {j k : IntKind} {a b c d : Int} (h : a = b) (h2 : c = d) : Ending.returned (.tuple #[.int j a, .int k c]) = .returned (.tuple #[.int j b, .int k d]) := by rw [h, h2]
theorem two_back_b {j : IntKind} {a b : Int} {c d : Bool} (h : a = b) (h2 : c = d) : Ending.returned (.tuple #[.int j a, .bool c]) = .returned (.tuple #[.int j b, .bool d]) := by rw [h, h2]

/-- A store behind draws, drawn outward. -/
@[simp, go_sem] theorem drawn_store (w : World) (n : Nat) (a : Addr) (v : Value) : (w.drewN n).setCell a v = (w.setCell a v).drewN n := rfl

theorem below_drawn {B : Nat} {a w : World} {n : Nat} (h : Below B a w) : Below B a (w.drewN n) := ⟨h.os, h.tape, h.output, h.size, h.block⟩

theorem size_kept {B : Nat} {W w : World} (hB : B ≤ W.heap.size) (h : Below B W w) : B ≤ w.heap.size := Nat.le_trans hB h.size
theorem below_call {B : Nat} {W w w' : World} (hB : B ≤ W.heap.size) (h : Below B W w) (hb : Below w.heap.size w w') : Below B W w' := h.trans (hb.mono (size_kept hB h))
theorem below_new {B : Nat} {W w : World} (hB : B ≤ W.heap.size) (h : Below B W w) (o : Obj) : Below B W (w.alloc o) := h.alloc (size_kept hB h) o

theorem below_put {B o : Nat} {W k w : World} (hB : B ≤ W.heap.size) (hk : Below B W k) (u : Value) (h : Below B W w) : Below B W (w.setCell ⟨k.heap.size, o, none⟩ u) := h.setCell (size_kept hB hk) u
theorem below_put1 {B o : Nat} {W k w : World} (hB : B ≤ W.heap.size) (hk : Below B W k) (u : Value) (h : Below B W w) : Below B W (w.setCell ⟨k.heap.size + 1, o, none⟩ u) := h.setCell (Nat.le_succ_of_le (size_kept hB hk)) u
theorem two_more (n : Nat) : n < n + 1 + 1 := by omega
theorem below_far {w w' : World} (h : Below w.heap.size w w') : ∀ k, k < w.heap.size → k < w'.heap.size := fun _ hk => Nat.lt_of_lt_of_le hk h.size
theorem below_far_le {w w' : World} (h : Below w.heap.size w w') : ∀ k, k < w.heap.size → k ≤ w'.heap.size := fun _ hk => Nat.le_of_lt (Nat.lt_of_lt_of_le hk h.size)

theorem own_shape {w : World} {base n size : Nat} {e : TypeId} {v : Value} {xs : List Value} (h : w.ownsRow base e size v n xs) : ∃ A c, v = .slice A n c ∧ n ≤ c ∧ c ≤ 9223372036854775807 := by
  rcases h.2 with ⟨rfl, rfl⟩ | ⟨g, cap, cur, rfl, _, _, hc, hm, _⟩
  · exact ⟨none, 0, rfl, Nat.le_refl _, by omega⟩
  · exact ⟨_, cap, rfl, hc, by unfold maxLen at hm; exact hm⟩
theorem own_base {w : World} {base n size : Nat} {e : TypeId} {v : Value} {xs : List Value} (h : w.ownsRow base e size v n xs) : ∀ k, v.ownBlock = some k → base ≤ k := fun k hk => (h.lt k hk).1
theorem below_grows {a w : World} (h : Below a.heap.size a w) (row : Option Nat) : a.grownBy w row where
  os := h.os
  tape := h.tape
  output := h.output
  size := h.size
  block k hk _ := h.block k hk
theorem own_call {w w' : World} {base n size : Nat} {e : TypeId} {v : Value} {xs : List Value} (h : w.ownsRow base e size v n xs) (hb : Below w.heap.size w w') : w'.ownsRow base e size v n xs :=
  h.kept (below_grows hb none) (by cases hv : v.ownBlock <;> simp)
theorem own_drew {w : World} {base n size : Nat} {e : TypeId} {v : Value} {xs : List Value} (h : w.ownsRow base e size v n xs) : w.drew.ownsRow base e size v n xs := own_call h (Below.refl _ _).drew
theorem own_cap {w : World} {base n c size : Nat} {e : TypeId} {A : Option Addr} {xs : List Value} (h : w.ownsRow base e size (.slice A n c) n xs) : n ≤ c := by
  obtain ⟨A', c', hv, h1, -⟩ := own_shape h
  simp only [Value.slice.injEq, true_and] at hv
  rw [hv.2]
  exact h1
/-- A row that grew, and one that it was not: they are still two. -/
theorem still_two {Xv Yv : Value} {g H : Nat} (hXY : Yv.ownBlock = none ∨ Yv.ownBlock ≠ Xv.ownBlock) (hat : Xv.ownBlock = some g ∨ g = H + 1) (hY : ∀ y, Yv.ownBlock = some y → y < H) : Yv.ownBlock ≠ some g := by
  intro hy
  rcases hat with h | h
  · rcases hXY with h2 | h2
    · rw [h2] at hy
      cases hy
    · exact h2 (hy.trans h.symm)
  · have := hY g hy
    omega
end Go.Proofs.Ytcofehmgnpmecaa
