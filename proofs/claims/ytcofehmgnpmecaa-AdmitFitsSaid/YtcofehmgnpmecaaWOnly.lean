/-
  What a change of memory leaves alone; rows of triples of numbers: what the call owns, what merely reads.
-/
import Derived.Test.YtcofehmgnpmecaaRows
import Derived.Test.YtcofehmgnpmecaaAppend
import Derived.OneCell
import Derived.WalkKit
namespace Go.Proofs.Ytcofehmgnpmecaa
open Go.RowKit

/-- w' is as w was, but for new blocks and those of S. -/
structure Only (S : Nat → Prop) (w w' : World) : Prop where
  os : w'.os = w.os
  tape : w'.tape = w.tape
  output : w'.output = w.output
  size : w.heap.size ≤ w'.heap.size
  block : ∀ k, k < w.heap.size → ¬ S k → w'.heap[k]? = w.heap[k]?
theorem Only.refl (S : Nat → Prop) (w : World) : Only S w w := ⟨rfl, rfl, rfl, Nat.le_refl _, fun _ _ _ => rfl⟩
theorem Only.trans {S T : Nat → Prop} {a b c : World} (h : Only S a b) (k : Only T b c) (hT : ∀ i, T i → S i ∨ a.heap.size ≤ i) : Only S a c :=
  ⟨k.os.trans h.os, k.tape.trans h.tape, k.output.trans h.output, Nat.le_trans h.size k.size, fun i hi hs => (k.block i (Nat.lt_of_lt_of_le hi h.size) (fun ht => (hT i ht).elim hs (fun h2 => absurd hi (Nat.not_lt.2 h2)))).trans (h.block i hi hs)⟩
theorem Only.of_below {S : Nat → Prop} {w w' : World} (h : Below w.heap.size w w') : Only S w w' := ⟨h.os, h.tape, h.output, h.size, fun k hk _ => h.block k hk⟩
theorem Only.mono {S T : Nat → Prop} {w w' : World} (h : Only S w w') (hT : ∀ i, S i → T i) : Only T w w' := ⟨h.os, h.tape, h.output, h.size, fun k hk ht => h.block k hk (fun hs => ht (hT k hs))⟩
theorem Only.below {S : Nat → Prop} {B : Nat} {w w' : World} (h : Only S w w') (hB : B ≤ w.heap.size) (hS : ∀ k, S k → B ≤ k) : Below B w w' := ⟨h.os, h.tape, h.output, h.size, fun k hk => h.block k (Nat.lt_of_lt_of_le hk hB) (fun hs => absurd hk (Nat.not_lt.2 (hS k hs)))⟩
theorem Only.put {S : Nat → Prop} {w w' : World} (h : Only S w w') {p : Addr} (hp : S p.block ∨ w.heap.size ≤ p.block) (u : Value) : Only S w (w'.setCell p u) :=
  ⟨h.os, h.tape, h.output, Nat.le_trans h.size (by simp [World.setCell]), fun k hk hs => by
    rw [Below.heap_setCell _ _ _ _ (fun e => by subst e; exact hp.elim hs (fun h2 => absurd hk (Nat.not_lt.2 h2)))]
    exact h.block k hk hs⟩
theorem Only.drew {S : Nat → Prop} {w w' : World} (h : Only S w w') : Only S w w'.drew := ⟨h.os, h.tape, h.output, h.size, h.block⟩
theorem Only.new {S : Nat → Prop} {w w' : World} (h : Only S w w') (o : Obj) : Only S w (w'.alloc o) :=
  ⟨h.os, h.tape, h.output, Nat.le_trans h.size (by simp), fun k hk hs => (Below.heap_alloc _ _ _ (Nat.lt_of_lt_of_le hk h.size)).trans (h.block k hk hs)⟩
theorem Only.grown {S : Nat → Prop} {w a w' : World} {row : Option Nat} (h : Only S w a) (hg : a.grownBy w' row) (hr : ∀ k, row = some k → S k ∨ w.heap.size ≤ k) : Only S w w' :=
  ⟨hg.os.trans h.os, hg.tape.trans h.tape, hg.output.trans h.output, Nat.le_trans h.size hg.size, fun k hk hs => (hg.block k (Nat.lt_of_lt_of_le hk h.size) (fun e => (hr k e.symm).elim hs (fun h2 => absurd hk (Nat.not_lt.2 h2)))).trans (h.block k hk hs)⟩
theorem Only.cell {S : Nat → Prop} {w w' : World} (h : Only S w w') {k : Nat} (hk : k < w.heap.size) (hs : ¬ S k) (i : Nat) : w'.cell? ⟨k, i, none⟩ = w.cell? ⟨k, i, none⟩ := World.cell?_of_block (a := ⟨k, i, none⟩) (h.block k hk hs)
theorem Only.frozen {S : Nat → Prop} {w w' : World} (h : Only S w w') {k : Nat} (hk : k < w.heap.size) (hs : ¬ S k) (i : Nat) : w'.frozen? ⟨k, i, none⟩ = w.frozen? ⟨k, i, none⟩ := World.frozen?_of_block (a := ⟨k, i, none⟩) (h.block k hk hs)

theorem Only.grow {S : Nat → Prop} {w w' : World} {row : Option Nat} (hg : w.grownBy w' row) (hr : ∀ k, row = some k → S k) : Only S w w' := (Only.refl S w).grown hg (fun k hk => Or.inl (hr k hk))

/-- What is due: when, its handle, what for. -/
abbrev Du := Int × Int × Int
/-- A list of them, as cells. -/
def dcells (l : List Du) : List Value := l.flatMap fun t => [.int .i64 t.1, .int .i64 t.2.1, .int .i64 t.2.2]
theorem dcells_len (l : List Du) : (dcells l).length = l.length * 3 := by
  induction l with
  | nil => rfl
  | cons a l ih => simp only [dcells, List.flatMap_cons, List.length_append, List.length_cons, List.length_nil] at *; omega
theorem dcells_two (l m : List Du) : dcells (l ++ m) = dcells l ++ dcells m := by simp [dcells]
theorem dcells_one (l : List Du) : ∀ u ∈ dcells l, u.oneCell' = true := fun u hu => by
  simp only [dcells, List.mem_flatMap, List.mem_cons, List.not_mem_nil, or_false] at hu
  obtain ⟨t, -, rfl | rfl | rfl⟩ := hu <;> rfl
theorem dcells_at : ∀ (l : List Du) (i : Nat), i < l.length → (dcells l)[i * 3]? = some (.int .i64 (l.getD i (0, 0, 0)).1) ∧ (dcells l)[i * 3 + 1]? = some (.int .i64 (l.getD i (0, 0, 0)).2.1) ∧ (dcells l)[i * 3 + 2]? = some (.int .i64 (l.getD i (0, 0, 0)).2.2)
  | [], i, h => by simp at h
  | a :: l, 0, _ => by simp [dcells]
  | a :: l, i + 1, h => by
    have := dcells_at l i (by simp at h; omega)
    have e1 : (i + 1) * 3 = i * 3 + 3 := by omega
    rw [e1]
    simpa [dcells] using this
theorem add_at (g o j : Nat) : (⟨g, o, none⟩ : Addr).add j = ⟨g, o + j, none⟩ := by
  unfold Addr.add
  split <;> simp_all

/-- A slice at A reads as the list; its blocks are among those of S. -/
structure Dus (S : Nat → Prop) (w : World) (A : Option Addr) (l : List Du) : Prop where
  at_ : 0 < l.length → ∃ b o, A = some ⟨b, o, none⟩ ∧ S b ∧ ∀ i, i < l.length → w.cell? ⟨b, o + i * 3, none⟩ = some (.int .i64 (l.getD i (0, 0, 0)).1) ∧ w.cell? ⟨b, o + i * 3 + 1, none⟩ = some (.int .i64 (l.getD i (0, 0, 0)).2.1) ∧ w.cell? ⟨b, o + i * 3 + 2, none⟩ = some (.int .i64 (l.getD i (0, 0, 0)).2.2)
theorem Dus.kept {S : Nat → Prop} {w w' : World} {A : Option Addr} {l : List Du} (h : Dus S w A l) (hb : ∀ k, S k → w'.heap[k]? = w.heap[k]?) : Dus S w' A l := ⟨fun hn => by
  obtain ⟨b, o, e, hB, hc⟩ := h.at_ hn
  have hk := hb b hB
  exact ⟨b, o, e, hB, fun i hi => ⟨(World.cell?_of_block (a := ⟨b, _, none⟩) hk).trans (hc i hi).1, (World.cell?_of_block (a := ⟨b, _, none⟩) hk).trans (hc i hi).2.1, (World.cell?_of_block (a := ⟨b, _, none⟩) hk).trans (hc i hi).2.2⟩⟩⟩
theorem Dus.mono {S T : Nat → Prop} {w : World} {A : Option Addr} {l : List Du} (h : Dus S w A l) (hT : ∀ k, S k → T k) : Dus T w A l := ⟨fun hn => by
  obtain ⟨b, o, e, hB, hc⟩ := h.at_ hn
  exact ⟨b, o, e, hT b hB, hc⟩⟩
theorem Dus.own {w : World} {base : Nat} {A : Option Addr} {n c : Nat} {e : TypeId} {l : List Du} (h : w.ownsRow base e 3 (.slice A n c) n (dcells l)) : Dus (fun k => (Value.slice A n c).ownBlock = some k) w A l := ⟨fun hn => by
  have hl := h.1
  rw [dcells_len] at hl
  rcases h.2 with ⟨hv, h0⟩ | ⟨g, cap, cur, hv, _, hg, _⟩
  · omega
  · simp only [Value.slice.injEq, true_and] at hv
    obtain ⟨rfl, rfl⟩ := hv
    refine ⟨g, 0, rfl, rfl, fun i hi => ?_⟩
    have := dcells_at l i hi
    refine ⟨?_, ?_, ?_⟩
    · rw [Nat.zero_add, h.cellAt _ (by omega)]; exact this.1
    · rw [Nat.zero_add, h.cellAt _ (by omega)]; exact this.2.1
    · rw [Nat.zero_add, h.cellAt _ (by omega)]; exact this.2.2⟩
/-- Its cells, to be appended. -/
theorem Dus.news {S : Nat → Prop} {w : World} {A : Option Addr} {l : List Du} (h : Dus S w A l) : ∀ ad, A = some ad → ∀ j u, (dcells l)[j]? = some u → w.cell? (ad.add j) = some u := fun ad e j u hu => by
  have hj : j < l.length * 3 := by
    rw [← dcells_len]
    exact (List.getElem?_eq_some_iff.1 hu).1
  obtain ⟨b, o, e2, -, hc⟩ := h.at_ (by omega)
  rw [e2] at e
  cases e
  rw [add_at]
  obtain ⟨i, r, hr, rfl⟩ : ∃ i r, r < 3 ∧ j = i * 3 + r := ⟨j / 3, j % 3, by omega, by omega⟩
  have hi : i < l.length := by omega
  have h1 := hc i hi
  have h2 := dcells_at l i hi
  match r, hr with
  | 0, _ => rw [Nat.add_zero, h2.1] at hu; rw [← hu, ← h1.1]; rfl
  | 1, _ => rw [h2.2.1] at hu; rw [← hu, ← h1.2.1]; rfl
  | 2, _ => rw [h2.2.2] at hu; rw [← hu, ← h1.2.2]; rfl
/-- A part of it. -/
theorem Dus.part {S : Nat → Prop} {w : World} {b o : Nat} {l : List Du} (h : Dus S w (some ⟨b, o, none⟩) l) (k : Nat) : Dus S w (some ⟨b, o + k * 3, none⟩) (l.drop k) := ⟨fun hn => by
  rw [List.length_drop] at hn
  obtain ⟨b', o', e, hB, hc⟩ := h.at_ (by omega)
  cases e
  refine ⟨b, o + k * 3, rfl, hB, fun i hi => ?_⟩
  rw [List.length_drop] at hi
  have h1 := hc (k + i) (by omega)
  have e1 : (l.drop k).getD i (0, 0, 0) = l.getD (k + i) (0, 0, 0) := by simp [List.getD_eq_getElem?_getD]
  have e2 : o + k * 3 + i * 3 = o + (k + i) * 3 := by omega
  rw [e1, e2]
  exact h1⟩
theorem Dus.head {S : Nat → Prop} {w : World} {A : Option Addr} {l : List Du} (h : Dus S w A l) (k : Nat) : Dus S w A (l.take k) := ⟨fun hn => by
  rw [List.length_take] at hn
  obtain ⟨b, o, e, hB, hc⟩ := h.at_ (by omega)
  refine ⟨b, o, e, hB, fun i hi => ?_⟩
  rw [List.length_take] at hi
  have e1 : (l.take k).getD i (0, 0, 0) = l.getD i (0, 0, 0) := by
    rw [List.getD_eq_getElem?_getD, List.getD_eq_getElem?_getD, List.getElem?_take_of_lt (by omega)]
  rw [e1]
  exact hc i (by omega)⟩
theorem Dus.nil {S : Nat → Prop} {w : World} {A : Option Addr} : Dus S w A [] := ⟨fun hn => by simp at hn⟩
end Go.Proofs.Ytcofehmgnpmecaa
