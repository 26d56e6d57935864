/-
  What was given back, as it lies in memory: a row of pairs that the call owns; a book's block.
-/
import Derived.Test.YtcofehmgnpmecaaAMath
import Derived.Test.YtcofehmgnpmecaaKit
import Derived.Test.YtcofehmgnpmecaaWOnly
import Derived.Deep.MidRow
namespace Go.Proofs.Ytcofehmgnpmecaa
open Go.RowKit Ap

def gone (x : Gv) : List Value := [.int .i64 x.till, .int .u64 x.sh]
def gcells (l : List Gv) : List Value := l.flatMap gone
theorem gcells_len (l : List Gv) : (gcells l).length = l.length * 2 := by
  induction l with
  | nil => rfl
  | cons a l ih => simp only [gcells, gone, List.flatMap_cons, List.length_append, List.length_cons, List.length_nil] at *; omega
theorem gcells_two (l m : List Gv) : gcells (l ++ m) = gcells l ++ gcells m := by simp [gcells]
theorem gcells_one (l : List Gv) : ∀ u ∈ gcells l, u.oneCell' = true := fun u hu => by
  simp only [gcells, gone, List.mem_flatMap, List.mem_cons, List.not_mem_nil, or_false] at hu
  obtain ⟨t, -, rfl | rfl⟩ := hu <;> rfl
theorem gcells_at : ∀ (l : List Gv) (i : Nat), i < l.length → (gcells l)[i * 2]? = some (.int .i64 (at_ l i).till) ∧ (gcells l)[i * 2 + 1]? = some (.int .u64 (at_ l i).sh)
  | [], i, h => by simp at h
  | a :: l, 0, _ => by simp [gcells, gone, at_]
  | a :: l, i + 1, h => by
    have := gcells_at l i (by simp at h; omega)
    have e1 : (i + 1) * 2 = i * 2 + 2 := by omega
    rw [e1]
    simpa [gcells, gone, at_] using this
theorem gcells_set : ∀ (l : List Gv) (i : Nat) (x : Gv), ((gcells l).set (i * 2) (.int .i64 x.till)).set (i * 2 + 1) (.int .u64 x.sh) = gcells (l.set i x)
  | [], i, x => by simp [gcells]
  | a :: l, 0, x => by simp [gcells, gone]
  | a :: l, i + 1, x => by
    have := gcells_set l i x
    have e1 : (i + 1) * 2 = i * 2 + 2 := by omega
    rw [e1]
    simpa [gcells, gone] using this
theorem gcells_take (l : List Gv) : ∀ n, (gcells l).take (n * 2) = gcells (l.take n) := by
  induction l with
  | nil => simp [gcells]
  | cons a l ih =>
    intro n
    cases n with
    | zero => simp [gcells]
    | succ n =>
      have := ih n
      have e1 : (n + 1) * 2 = n * 2 + 2 := by omega
      rw [e1]
      simpa [gcells, gone] using this

theorem lt_of_blk {w : World} {b : Nat} {o : Obj} (h : w.heap[b]? = some o) : b < w.heap.size := (Array.getElem?_eq_some_iff.1 h).1
/-- A block whose cells are these. -/
theorem bx_cell {w : World} {b j : Nat} {cs : Array Value} {t : TypeId} {u : Value} (h : w.heap[b]? = some (.cells cs t (0, 0))) (hu : cs[j]? = some u) : w.cell? ⟨b, j, none⟩ = some u ∧ w.frozen? ⟨b, j, none⟩ = false := by
  constructor
  · simp only [World.cell?, h]
    exact hu
  · simp [World.frozen?, h]
def bObj (mv v c2 c3 : Value) : Obj := .cells #[mv, v, c2, c3] 30 (0, 0)

/-- The pairs of what was given back, in block g. -/
structure QIs (w : World) (B g n c : Nat) (xs : List Gv) : Prop where
  row : w.ownsRow B 65 2 (.slice (some ⟨g, 0, none⟩) n c) n (gcells xs)
  len : xs.length = n
section
variable {w w' : World} {B g n c i j : Nat} {xs : List Gv}
theorem QIs.lt (h : QIs w B g n c xs) : B ≤ g ∧ g < w.heap.size := h.row.lt g rfl
theorem QIs.kept (h : QIs w B g n c xs) (hb : w'.heap[g]? = w.heap[g]?) : QIs w' B g n c xs := by
  refine ⟨?_, h.len⟩
  obtain ⟨h1, h2⟩ := h.row
  refine ⟨h1, ?_⟩
  rcases h2 with h2 | ⟨g', cap, cur, hv, hg, hh, r⟩
  · exact Or.inl h2
  · simp only [Value.slice.injEq, Option.some.injEq, Addr.mk.injEq, and_true, true_and] at hv
    obtain ⟨rfl, rfl⟩ := hv
    exact Or.inr ⟨g, c, cur, rfl, hg, hb.trans hh, r⟩
theorem QIs.below (h : QIs w B g n c xs) (hb : Below w.heap.size w w') : QIs w' B g n c xs := h.kept (hb.block g h.lt.2)
theorem QIs.drew (h : QIs w B g n c xs) : QIs w.drew B g n c xs := h.kept rfl
theorem QIs.cap (h : QIs w B g n c xs) : n ≤ c ∧ c ≤ 9223372036854775807 := by
  obtain ⟨A, c', hv, h1, h2⟩ := own_shape h.row
  simp only [Value.slice.injEq, true_and] at hv
  rw [hv.2]
  exact ⟨h1, h2⟩
theorem QIs.cell (h : QIs w B g n c xs) (hi : i < n) : w.cell? ⟨g, i * 2, none⟩ = some (.int .i64 (at_ xs i).till) ∧ w.cell? ⟨g, i * 2 + 1, none⟩ = some (.int .u64 (at_ xs i).sh) := by
  have h1 := gcells_at xs i (by rw [h.len]; exact hi)
  exact ⟨(h.row.cellAt _ (by omega)).trans h1.1, (h.row.cellAt _ (by omega)).trans h1.2⟩
theorem QIs.free (h : QIs w B g n c xs) (j : Nat) : w.frozen? ⟨g, j, none⟩ = false := h.row.frozenAt j
theorem QIs.range (h : QIs w B g n c xs) (hi : i < n) : w.rangeAt g (i * 2) (gone (at_ xs i)) := fun k v hk => by
  obtain ⟨h1, h2⟩ := h.cell hi
  match k with
  | 0 =>
    simp only [gone, List.getElem?_cons_zero, Option.some.injEq] at hk
    rw [← hk]
    exact h1
  | 1 =>
    simp only [gone, List.getElem?_cons_succ, List.getElem?_cons_zero, Option.some.injEq] at hk
    rw [← hk]
    exact h2
  | k + 2 => simp [gone] at hk
theorem QIs.there (h : QIs w B g n c xs) (hi : i < n) : w.there g (i * 2) 2 := fun k hk => by
  obtain ⟨h1, h2⟩ := h.cell hi
  match k, hk with
  | 0, _ => exact ⟨by rw [Nat.add_zero, h1]; rfl, h.free _⟩
  | 1, _ => exact ⟨by rw [h2]; rfl, h.free _⟩
theorem QIs.put (h : QIs w B g n c xs) (i : Nat) (x : Gv) : QIs (w.setCells g (i * 2) (gone x)) B g n c (xs.set i x) := by
  have h1 := ((h.row.stored (i * 2) (.int .i64 x.till)).1.stored (i * 2 + 1) (.int .u64 x.sh)).1
  rw [gcells_set] at h1
  exact ⟨h1, by rw [List.length_set]; exact h.len⟩
theorem only_puts {S : Nat → Prop} {w : World} {g : Nat} (hg : S g ∨ w.heap.size ≤ g) : ∀ (cs : List Value) (o : Nat) (w' : World), Only S w w' → Only S w (w'.setCells g o cs)
  | [], _, _, h => h
  | v :: r, o, w', h => only_puts hg r (o + 1) (w'.setCell ⟨g, o, none⟩ v) (h.put (p := ⟨g, o, none⟩) hg v)
/-- The world behind an exchange. -/
def swapped (w : World) (g i j : Nat) (x y : Gv) : World := (w.setCells g (i * 2) (gone y)).setCells g (j * 2) (gone x)
theorem QIs.swap (h : QIs w B g n c xs) : QIs (swapped w g i j (at_ xs i) (at_ xs j)) B g n c (swp xs i j) := (h.put i _).put j _
theorem only_swapped (w : World) (g i j : Nat) (x y : Gv) : Only (· = g) w (swapped w g i j x y) := only_puts (S := (· = g)) (Or.inl rfl) _ _ _ (only_puts (S := (· = g)) (Or.inl rfl) _ _ _ (Only.refl _ _))
end
end Go.Proofs.Ytcofehmgnpmecaa
