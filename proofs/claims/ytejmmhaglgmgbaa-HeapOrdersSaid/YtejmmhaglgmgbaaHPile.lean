/-
  A pile of things in memory: a row of pointers, each to a thing that knows its place; what a change of it leaves alone.
-/
import Derived.Test.YtejmmhaglgmgbaaHMath
import Derived.Test.YtejmmhaglgmgbaaKit
import Derived.OneCell
import Derived.WalkKit
namespace Go.Proofs.Ytejmmhaglgmgbaa
open Go.RowKit Hp

/-- w' is as w was, but for new blocks and those of S. -/
structure Only (S : Nat → Prop) (w w' : World) : Prop where
  os : w'.os = w.os
  tape : w'.tape = w.tape
  output : w'.output = w.output
  size : w.heap.size ≤ w'.heap.size
  block : ∀ k, k < w.heap.size → ¬ S k → w'.heap[k]? = w.heap[k]?
theorem Only.refl (S : Nat → Prop) (w : World) : Only S w w := ⟨rfl, rfl, rfl, Nat.le_refl _, fun _ _ _ => rfl⟩
theorem Only.trans {S T : Nat → Prop} {a b c : World} (h : Only S a b) (k : Only T b c) (hT : ∀ i, T i → S i ∨ a.heap.size ≤ i) : Only S a c :=
  ⟨k.os.trans h.os, k.tape.trans h.tape, k.output.trans h.output, Nat.le_trans h.size k.size, fun i hi hs => (k.block i (Nat.lt_of_lt_of_le hi h.size) (fun ht => (hT i ht).elim hs (fun h2 => absurd hi (Nat.not_lt.2 h2)))).trans (h.block i hi hs)⟩
theorem Only.of_below {S : Nat → Prop} {w w' : World} (h : Below w.heap.size w w') : Only S w w' := ⟨h.os, h.tape, h.output, h.size, fun k hk _ => h.block k hk⟩
theorem Only.mono {S T : Nat → Prop} {w w' : World} (h : Only S w w') (hT : ∀ i, S i → T i) : Only T w w' := ⟨h.os, h.tape, h.output, h.size, fun k hk ht => h.block k hk (fun hs => ht (hT k hs))⟩
theorem Only.below {S : Nat → Prop} {B : Nat} {w w' : World} (h : Only S w w') (hB : B ≤ w.heap.size) (hS : ∀ k, S k → B ≤ k) : Below B w w' := ⟨h.os, h.tape, h.output, h.size, fun k hk => h.block k (Nat.lt_of_lt_of_le hk hB) (fun hs => absurd hk (Nat.not_lt.2 (hS k hs)))⟩
theorem Only.put {S : Nat → Prop} {w w' : World} (h : Only S w w') {p : Addr} (hp : S p.block ∨ w.heap.size ≤ p.block) (u : Value) : Only S w (w'.setCell p u) :=
  ⟨h.os, h.tape, h.output, Nat.le_trans h.size (by simp [World.setCell]), fun k hk hs => by
    rw [Below.heap_setCell _ _ _ _ (fun e => by subst e; exact hp.elim hs (fun h2 => absurd hk (Nat.not_lt.2 h2)))]
    exact h.block k hk hs⟩
theorem Only.drew {S : Nat → Prop} {w w' : World} (h : Only S w w') : Only S w w'.drew := ⟨h.os, h.tape, h.output, h.size, h.block⟩
theorem Only.new {S : Nat → Prop} {w w' : World} (h : Only S w w') (o : Obj) : Only S w (w'.alloc o) :=
  ⟨h.os, h.tape, h.output, Nat.le_trans h.size (by simp), fun k hk hs => (Below.heap_alloc _ _ _ (Nat.lt_of_lt_of_le hk h.size)).trans (h.block k hk hs)⟩
theorem Only.grown {S : Nat → Prop} {w a w' : World} {row : Option Nat} (h : Only S w a) (hg : a.grownBy w' row) (hr : ∀ k, row = some k → S k ∨ w.heap.size ≤ k) : Only S w w' :=
  ⟨hg.os.trans h.os, hg.tape.trans h.tape, hg.output.trans h.output, Nat.le_trans h.size hg.size, fun k hk hs => (hg.block k (Nat.lt_of_lt_of_le hk h.size) (fun e => (hr k e.symm).elim hs (fun h2 => absurd hk (Nat.not_lt.2 h2)))).trans (h.block k hk hs)⟩
theorem Only.cell {S : Nat → Prop} {w w' : World} (h : Only S w w') {k : Nat} (hk : k < w.heap.size) (hs : ¬ S k) (i : Nat) : w'.cell? ⟨k, i, none⟩ = w.cell? ⟨k, i, none⟩ := World.cell?_of_block (a := ⟨k, i, none⟩) (h.block k hk hs)
theorem Only.frozen {S : Nat → Prop} {w w' : World} (h : Only S w w') {k : Nat} (hk : k < w.heap.size) (hs : ¬ S k) (i : Nat) : w'.frozen? ⟨k, i, none⟩ = w.frozen? ⟨k, i, none⟩ := World.frozen?_of_block (a := ⟨k, i, none⟩) (h.block k hk hs)

def ptrTo (x : Th) : Value := .pointer (some ⟨x.b, 0, none⟩)
/-- A thing's cells, at place i. -/
def thCells (x : Th) (i : Nat) : Array Value := #[.int .i64 x.key, .int .i64 x.what, .int .i64 x.handle, .int .i64 x.turn, .int .i64 (i : Nat)]
def thObj (x : Th) (i : Nat) : Obj := .cells (thCells x i) 45 (0, 0)

/-- The things' row and the things, as they stand. -/
structure PileIs (w : World) (B : Nat) (v : Value) (xs : List Th) : Prop where
  row : w.ownsRow B 43 1 v xs.length (xs.map ptrTo)
  thing : ∀ (i : Nat) (x : Th), xs[i]? = some x → w.heap[x.b]? = some (thObj x i)
  base : ∀ x : Th, x ∈ xs → B ≤ x.b
  apart : ∀ (i j : Nat) (x y : Th), xs[i]? = some x → xs[j]? = some y → x.b = y.b → i = j
  off : ∀ x : Th, x ∈ xs → v.ownBlock ≠ some x.b

/-- The blocks that a pile is in. -/
def Own (v : Value) (xs : List Th) (k : Nat) : Prop := v.ownBlock = some k ∨ ∃ x, x ∈ xs ∧ x.b = k
theorem own_perm {v : Value} {xs ys : List Th} (h : ys.Perm xs) (k : Nat) : Own v ys k ↔ Own v xs k := by
  unfold Own
  constructor
  · rintro (h1 | ⟨x, hx, e⟩)
    · exact Or.inl h1
    · exact Or.inr ⟨x, h.mem_iff.1 hx, e⟩
  · rintro (h1 | ⟨x, hx, e⟩)
    · exact Or.inl h1
    · exact Or.inr ⟨x, h.mem_iff.2 hx, e⟩

section
variable {w : World} {B : Nat} {v : Value} {xs : List Th}

theorem PileIs.block (h : PileIs w B v xs) {x : Th} (hx : x ∈ xs) : ∃ i, xs[i]? = some x ∧ w.heap[x.b]? = some (thObj x i) := by
  obtain ⟨i, hi, e⟩ := List.getElem_of_mem hx
  have h1 : xs[i]? = some x := by rw [List.getElem?_eq_getElem hi, e]
  exact ⟨i, h1, h.thing i x h1⟩
theorem PileIs.lt (h : PileIs w B v xs) {x : Th} (hx : x ∈ xs) : x.b < w.heap.size := by
  obtain ⟨i, _, h1⟩ := h.block hx
  exact lt_of_block h1
theorem PileIs.own_lt (h : PileIs w B v xs) {k : Nat} (hk : Own v xs k) : B ≤ k ∧ k < w.heap.size := by
  rcases hk with hk | ⟨x, hx, rfl⟩
  · exact h.row.lt k hk
  · exact ⟨h.base x hx, h.lt hx⟩
theorem PileIs.kept (h : PileIs w B v xs) {w' : World} (hb : ∀ k, Own v xs k → w'.heap[k]? = w.heap[k]?) : PileIs w' B v xs := by
  refine ⟨?_, fun i x hx => (hb _ (Or.inr ⟨x, List.mem_of_getElem? hx, rfl⟩)).trans (h.thing i x hx), h.base, h.apart, h.off⟩
  obtain ⟨h1, h2⟩ := h.row
  refine ⟨h1, ?_⟩
  rcases h2 with h2 | ⟨g, cap, cur, hv, hg, hh, r⟩
  · exact Or.inl h2
  · exact Or.inr ⟨g, cap, cur, hv, hg, (hb g (Or.inl (by rw [hv]; rfl))).trans hh, r⟩
theorem PileIs.only (h : PileIs w B v xs) {w' : World} {S : Nat → Prop} (ho : Only S w w') (hS : ∀ k, Own v xs k → ¬ S k) : PileIs w' B v xs := h.kept fun k hk => ho.block k (h.own_lt hk).2 (hS k hk)
theorem PileIs.below (h : PileIs w B v xs) {w' : World} (hb : Below w.heap.size w w') : PileIs w' B v xs := h.kept fun k hk => hb.block k (h.own_lt hk).2
theorem PileIs.drew (h : PileIs w B v xs) : PileIs w.drew B v xs := h.kept fun _ _ => rfl

/-- Where the things are. -/
theorem PileIs.shape (h : PileIs w B v xs) (hn : 0 < xs.length) : ∃ g c, v = .slice (some ⟨g, 0, none⟩) xs.length c ∧ xs.length ≤ c ∧ c ≤ 9223372036854775807 ∧ g < w.heap.size := by
  rcases h.row.2 with ⟨_, h2⟩ | ⟨g, cap, cur, hv, _, hh, hc, hm, _⟩
  · omega
  · exact ⟨g, cap, hv, hc, by unfold maxLen at hm; exact hm, lt_of_block hh⟩
theorem PileIs.rowCell (h : PileIs w B v xs) {g n c : Nat} (hv : v = .slice (some ⟨g, 0, none⟩) n c) {i : Nat} (hi : i < xs.length) : w.cell? ⟨g, i, none⟩ = some (.pointer (some ⟨(at_ xs i).b, 0, none⟩)) := by
  have h1 := h.row.cells (g := g) (by rw [hv]; rfl) i (ptrTo (at_ xs i)) (by rw [List.getElem?_map, at_some hi]; rfl)
  rwa [show (⟨g, 0, none⟩ : Addr).add i = ⟨g, i, none⟩ by unfold Addr.add; split <;> simp_all] at h1
theorem PileIs.rowFree (h : PileIs w B v xs) {g n c : Nat} (hv : v = .slice (some ⟨g, 0, none⟩) n c) (i : Nat) : w.frozen? ⟨g, i, none⟩ = false := by
  rcases h.row.2 with ⟨h1, _⟩ | ⟨g', cap, cur, h1, _, hh, _⟩
  · rw [hv] at h1
    simp at h1
  · rw [hv] at h1
    simp only [Value.slice.injEq, Option.some.injEq, Addr.mk.injEq, and_true] at h1
    obtain ⟨rfl, _⟩ := h1
    simp [World.frozen?, hh]
theorem PileIs.thingAt (h : PileIs w B v xs) {i : Nat} (hi : i < xs.length) : w.heap[(at_ xs i).b]? = some (thObj (at_ xs i) i) := h.thing i _ (at_some hi)
theorem th_cell {b i j : Nat} {x : Th} {u : Value} (h : w.heap[b]? = some (thObj x i)) (hu : (thCells x i)[j]? = some u) : w.cell? ⟨b, j, none⟩ = some u := by
  simp only [World.cell?, h, thObj]
  exact hu
theorem th_free {b i j : Nat} {x : Th} (h : w.heap[b]? = some (thObj x i)) : w.frozen? ⟨b, j, none⟩ = false := by simp [World.frozen?, h, thObj]
theorem PileIs.apart_b (h : PileIs w B v xs) {i j : Nat} (hi : i < xs.length) (hj : j < xs.length) (hij : i ≠ j) : (at_ xs i).b ≠ (at_ xs j).b := fun e => hij (h.apart i j _ _ (at_some hi) (at_some hj) e)
theorem PileIs.off_at (h : PileIs w B v xs) {g n c : Nat} (hv : v = .slice (some ⟨g, 0, none⟩) n c) {i : Nat} (hi : i < xs.length) : g ≠ (at_ xs i).b := fun e => h.off _ (at_mem hi) (by rw [hv, ← e]; rfl)
end

/-- The world behind an exchange of places i, j, where things a, b stood. -/
def swapped (w : World) (g i j a b : Nat) : World :=
  (((w.setCell ⟨g, i, none⟩ (.pointer (some ⟨b, 0, none⟩))).setCell ⟨g, j, none⟩ (.pointer (some ⟨a, 0, none⟩))).setCell ⟨b, 4, none⟩ (.int .i64 (i : Nat))).setCell ⟨a, 4, none⟩ (.int .i64 (j : Nat))
theorem th_moved {w : World} {b i j : Nat} {x : Th} (h : w.heap[b]? = some (thObj x i)) : (w.setCell ⟨b, 4, none⟩ (.int .i64 (j : Nat))).heap[b]? = some (thObj x j) := by
  rw [heap_setCell_same w b 4 (thCells x i) _ _ h]
  rfl
theorem PileIs.swap {w : World} {B g c n i j : Nat} {xs : List Th} (h : PileIs w B (.slice (some ⟨g, 0, none⟩) n c) xs) (hi : i < xs.length) (hj : j < xs.length) (hij : i ≠ j) :
    PileIs (swapped w g i j (at_ xs i).b (at_ xs j).b) B (.slice (some ⟨g, 0, none⟩) n c) (swp xs i j) ∧ Only (Own (.slice (some ⟨g, 0, none⟩) n c) xs) w (swapped w g i j (at_ xs i).b (at_ xs j).b) := by
  have hga := h.off_at rfl hi
  have hgb := h.off_at rfl hj
  have hab := h.apart_b hi hj hij
  have hn : xs.length = n := by
    rcases h.row.2 with ⟨h1, _⟩ | ⟨g', cap, cur, h1, _⟩
    · simp at h1
    · simp only [Value.slice.injEq] at h1
      exact h1.2.1.symm
  have hat : ∀ k x, (swp xs i j)[k]? = some x → k < xs.length ∧ x = (if k = j then at_ xs i else if k = i then at_ xs j else at_ xs k) := fun k x hx => by
    have hk : k < xs.length := by
      have := (List.getElem?_eq_some_iff.1 hx).1
      rwa [swp_len] at this
    exact ⟨hk, by rw [← swp_at hi hj k, at_of hx]⟩
  have hperm := swp_perm hi hj
  refine ⟨⟨?_, ?_, fun x hx => h.base x (hperm.mem_iff.1 hx), ?_, fun x hx => h.off x (hperm.mem_iff.1 hx)⟩, ?_⟩
  · have h1 := h.row
    rw [hn] at h1
    have h2 := ((h1.stored i (ptrTo (at_ xs j))).1.stored j (ptrTo (at_ xs i))).1
    rw [← List.map_set, ← List.map_set] at h2
    rw [swp_len, hn]
    exact ownsRow_setCell_other (ownsRow_setCell_other h2 (a := ⟨(at_ xs j).b, 4, none⟩) (fun e => hgb (by simpa [Value.ownBlock] using e)) _) (a := ⟨(at_ xs i).b, 4, none⟩) (fun e => hga (by simpa [Value.ownBlock] using e)) _
  · intro k x hx
    obtain ⟨hk, rfl⟩ := hat k x hx
    by_cases h1 : k = j
    · subst h1
      rw [if_pos rfl]
      refine th_moved (i := i) ?_
      rw [Below.heap_setCell _ _ _ _ hab, Below.heap_setCell _ _ _ _ (Ne.symm hga), Below.heap_setCell _ _ _ _ (Ne.symm hga)]
      exact h.thingAt hi
    · rw [if_neg h1]
      by_cases h2 : k = i
      · subst h2
        rw [if_pos rfl, swapped, Below.heap_setCell _ _ _ _ (Ne.symm hab)]
        refine th_moved (i := j) ?_
        rw [Below.heap_setCell _ _ _ _ (Ne.symm hgb), Below.heap_setCell _ _ _ _ (Ne.symm hgb)]
        exact h.thingAt hj
      · rw [if_neg h2]
        have hgk := h.off_at rfl hk
        rw [swapped, Below.heap_setCell _ _ _ _ (h.apart_b hk hi h2), Below.heap_setCell _ _ _ _ (h.apart_b hk hj h1), Below.heap_setCell _ _ _ _ (Ne.symm hgk), Below.heap_setCell _ _ _ _ (Ne.symm hgk)]
        exact h.thingAt hk
  · intro k l x y hx hy e
    obtain ⟨hk, rfl⟩ := hat k x hx
    obtain ⟨hl, rfl⟩ := hat l y hy
    have hfk : ∀ k, k < xs.length → (if k = j then at_ xs i else if k = i then at_ xs j else at_ xs k) = at_ xs (if k = j then i else if k = i then j else k) := fun k _ => by
      by_cases a1 : k = j
      · rw [if_pos a1, if_pos a1]
      · rw [if_neg a1, if_neg a1]
        by_cases a2 : k = i
        · rw [if_pos a2, if_pos a2]
        · rw [if_neg a2, if_neg a2]
    have hfl : ∀ k, k < xs.length → (if k = j then i else if k = i then j else k) < xs.length := fun k hk => by
      by_cases a1 : k = j
      · rw [if_pos a1]
        exact hi
      · rw [if_neg a1]
        by_cases a2 : k = i
        · rw [if_pos a2]
          exact hj
        · rw [if_neg a2]
          exact hk
    rw [hfk k hk, hfk l hl] at e
    have h1 := h.apart _ _ _ _ (at_some (hfl k hk)) (at_some (hfl l hl)) e
    clear e hfk hfl hab hga hgb hx hy
    (repeat' split at h1) <;> omega
  · exact ((((Only.refl _ w).put (p := ⟨g, i, none⟩) (Or.inl (Or.inl rfl)) _).put (p := ⟨g, j, none⟩) (Or.inl (Or.inl rfl)) _).put (p := ⟨(at_ xs j).b, 4, none⟩) (Or.inl (Or.inr ⟨_, at_mem hj, rfl⟩)) _).put (p := ⟨(at_ xs i).b, 4, none⟩) (Or.inl (Or.inr ⟨_, at_mem hi, rfl⟩)) _
end Go.Proofs.Ytejmmhaglgmgbaa
