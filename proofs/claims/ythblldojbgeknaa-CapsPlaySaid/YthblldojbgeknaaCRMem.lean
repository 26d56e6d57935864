/-
  The document's capabilities as a list; its rows, as they lie in memory.
-/
import Derived.Test.YthblldojbgeknaaCMem
import Derived.Test.YthblldojbgeknaaCBits
import Derived.Test.YthblldojbgeknaaKit
namespace Go.Proofs.Ythblldojbgeknaa
open Go.ChangeShapes Go.WideShapes Go.ChangeAt Go.RowKit

/-- One: its number, the numbers of all that it comes of (and the slice where these lie), where it stands, to what, with which rights. -/
structure Rn where
  id : Nat
  of : List Nat
  ov : Value
  en : Nat
  sl : Nat
  k : Int
  o : Int
  r : Nat
def Rn.nd (x : Rn) : Nd := ⟨x.id, x.of.getLast?.getD 0, x.en, x.sl, x.k, x.o, x.r⟩
def rcell (x : Rn) : List Value := [.int .i64 (x.id : Nat), x.ov, .int .i64 (x.en : Nat), .int .i64 (x.sl : Nat), .int .i64 x.k, .int .i64 x.o, .int .i64 (x.r : Nat)]
def rrow (M : List Rn) : List Value := M.flatMap rcell
theorem rrow_len (M : List Rn) : (rrow M).length = M.length * 7 := by
  induction M with
  | nil => rfl
  | cons a l ih => simp only [rrow, List.flatMap_cons, List.length_append, List.length_cons, rcell, List.length_nil] at *; omega
theorem rrow_two (M L : List Rn) : rrow (M ++ L) = rrow M ++ rrow L := by simp [rrow]
theorem rrow_sole (x : Rn) : rrow [x] = rcell x := by simp [rrow]
theorem rrow_at : ∀ (M : List Rn) (i j : Nat) (x : Rn), M[i]? = some x → j < 7 → (rrow M)[i * 7 + j]? = (rcell x)[j]?
  | [], i, j, x, h, _ => by simp at h
  | a :: l, 0, j, x, h, hj => by
    obtain rfl : a = x := by simpa using h
    show (rcell a ++ rrow l)[0 * 7 + j]? = _
    rw [Nat.zero_mul, Nat.zero_add, List.getElem?_append_left hj]
  | a :: l, i + 1, j, x, h, hj => by
    show (rcell a ++ rrow l)[(i + 1) * 7 + j]? = _
    have hl : (rcell a).length = 7 := rfl
    rw [List.getElem?_append_right (by omega), hl]
    have e1 : (i + 1) * 7 + j - 7 = i * 7 + j := by omega
    rw [e1]
    exact rrow_at l i j x (by simpa using h) hj

/-! Where one is found. -/
def fs : List Rn → Int → Int → Nat
  | [], _, _ => 0
  | x :: l, e, s => if x.nd.on e s = true then 0 else fs l e s + 1
def atI (M : List Rn) (e s : Int) : Int := if fs M e s < M.length then (fs M e s : Nat) else -1
theorem fs_le : ∀ (M : List Rn) (e s : Int), fs M e s ≤ M.length
  | [], _, _ => Nat.le_refl _
  | x :: l, e, s => by
    rw [fs]
    split
    · exact Nat.zero_le _
    · have := fs_le l e s
      rw [List.length_cons]
      omega
theorem fs_before : ∀ (M : List Rn) (e s : Int) (j : Nat), j < fs M e s → ∃ y, M[j]? = some y ∧ y.nd.on e s = false
  | [], e, s, j, h => by simp [fs] at h
  | x :: l, e, s, j, h => by
    rw [fs] at h
    split at h
    · omega
    · rename_i hx
      cases j with
      | zero => exact ⟨x, rfl, by simpa using hx⟩
      | succ j =>
        obtain ⟨y, h1, h2⟩ := fs_before l e s j (by omega)
        exact ⟨y, by simpa using h1, h2⟩
theorem fs_hit : ∀ (M : List Rn) (e s : Int), fs M e s < M.length → ∃ y, M[fs M e s]? = some y ∧ y.nd.on e s = true
  | [], e, s, h => by simp at h
  | x :: l, e, s, h => by
    rw [fs] at h ⊢
    split
    · rename_i hx
      exact ⟨x, rfl, hx⟩
    · rename_i hx
      rw [if_neg hx] at h
      obtain ⟨y, h1, h2⟩ := fs_hit l e s (by simpa using h)
      exact ⟨y, by simpa using h1, h2⟩
theorem fs_fd : ∀ (M : List Rn) (e s : Int), fd (M.map Rn.nd) e s = (M[fs M e s]?).map Rn.nd
  | [], e, s => rfl
  | x :: l, e, s => by
    unfold fd
    rw [List.map_cons, List.find?_cons, fs]
    cases hx : x.nd.on e s with
    | true => rfl
    | false =>
      rw [if_neg (by simp)]
      have := fs_fd l e s
      unfold fd at this
      rw [this]
      rfl
theorem at_none {M : List Rn} {e s : Int} (h : fd (M.map Rn.nd) e s = none) : atI M e s = -1 := by
  unfold atI
  by_cases hl : fs M e s < M.length
  · rw [fs_fd, List.getElem?_eq_getElem hl] at h
    cases h
  · rw [if_neg hl]
theorem at_some {M : List Rn} {e s : Int} {y : Nd} (h : fd (M.map Rn.nd) e s = some y) : ∃ (i : Nat) (x : Rn), atI M e s = (i : Nat) ∧ M[i]? = some x ∧ x.nd = y := by
  rw [fs_fd] at h
  obtain ⟨x, h1, h2⟩ := Option.map_eq_some_iff.1 h
  have hl := (List.getElem?_eq_some_iff.1 h1).1
  exact ⟨fs M e s, x, by rw [atI, if_pos hl], h1, h2⟩

/-! Rows. -/
/-- A slice reads as these numbers; its block is one of S. -/
def OfIs (S : Nat → Prop) (w : World) (v : Value) (l : List Nat) : Prop := ∃ A n c, v = .slice A n c ∧ n = l.length ∧ n ≤ c ∧ (A = none → n = 0 ∧ c = 0) ∧ (0 < n → ∃ b, A = some ⟨b, 0, none⟩ ∧ S b ∧ ∀ i u, l[i]? = some u → w.cell? ⟨b, i, none⟩ = some (.int .i64 (u : Nat)))
/-- A slice reads as a list of capabilities; all blocks are of S. -/
structure DocIs (S : Nat → Prop) (w : World) (A : Option Addr) (n c : Nat) (M : List Rn) : Prop where
  len : n = M.length
  cap : n ≤ c
  nil : A = none → n = 0 ∧ c = 0
  row : 0 < n → ∃ g, A = some ⟨g, 0, none⟩ ∧ S g ∧ ∀ j u, (rrow M)[j]? = some u → w.cell? ⟨g, j, none⟩ = some u
  ofs : ∀ x ∈ M, OfIs S w x.ov x.of
section
variable {S T : Nat → Prop} {w w' : World} {A : Option Addr} {n c : Nat} {M : List Rn}
theorem OfIs.kept {v : Value} {l : List Nat} (h : OfIs S w v l) (hb : ∀ k, S k → w'.heap[k]? = w.heap[k]?) (hT : ∀ k, S k → T k) : OfIs T w' v l := by
  obtain ⟨A, n, c, h1, h2, h3, h5, h4⟩ := h
  refine ⟨A, n, c, h1, h2, h3, h5, fun hn => ?_⟩
  obtain ⟨b, e, hs, hc⟩ := h4 hn
  exact ⟨b, e, hT b hs, fun i u hu => (World.cell?_of_block (a := ⟨b, i, none⟩) (hb b hs)).trans (hc i u hu)⟩
theorem DocIs.kept (h : DocIs S w A n c M) (hb : ∀ k, S k → w'.heap[k]? = w.heap[k]?) (hT : ∀ k, S k → T k) : DocIs T w' A n c M := by
  refine ⟨h.len, h.cap, h.nil, fun hn => ?_, fun x hx => (h.ofs x hx).kept hb hT⟩
  obtain ⟨g, e, hs, hc⟩ := h.row hn
  exact ⟨g, e, hT g hs, fun j u hu => (World.cell?_of_block (a := ⟨g, j, none⟩) (hb g hs)).trans (hc j u hu)⟩
theorem DocIs.at_ (h : DocIs S w A n c M) {i : Nat} {x : Rn} (hx : M[i]? = some x) : ∃ g, A = some ⟨g, 0, none⟩ ∧ S g ∧ w.cell? ⟨g, i * 7, none⟩ = some (.int .i64 (x.id : Nat)) ∧ w.cell? ⟨g, i * 7 + 1, none⟩ = some x.ov ∧ w.cell? ⟨g, i * 7 + 2, none⟩ = some (.int .i64 (x.en : Nat)) ∧ w.cell? ⟨g, i * 7 + 3, none⟩ = some (.int .i64 (x.sl : Nat)) ∧ w.cell? ⟨g, i * 7 + 4, none⟩ = some (.int .i64 x.k) ∧ w.cell? ⟨g, i * 7 + 5, none⟩ = some (.int .i64 x.o) ∧ w.cell? ⟨g, i * 7 + 6, none⟩ = some (.int .i64 (x.r : Nat)) := by
  have hi := (List.getElem?_eq_some_iff.1 hx).1
  obtain ⟨g, e, hg, hc⟩ := h.row (by rw [h.len]; omega)
  exact ⟨g, e, hg, hc _ _ (rrow_at M i 0 x hx (by omega)), hc _ _ (rrow_at M i 1 x hx (by omega)), hc _ _ (rrow_at M i 2 x hx (by omega)), hc _ _ (rrow_at M i 3 x hx (by omega)), hc _ _ (rrow_at M i 4 x hx (by omega)), hc _ _ (rrow_at M i 5 x hx (by omega)), hc _ _ (rrow_at M i 6 x hx (by omega))⟩
theorem rrow_one (h : ∀ x ∈ M, OfIs S w x.ov x.of) : ∀ u ∈ rrow M, u.oneCell' = true := fun u hu => by
  simp only [rrow, rcell, List.mem_flatMap, List.mem_cons, List.not_mem_nil, or_false] at hu
  obtain ⟨x, hx, h1⟩ := hu
  obtain ⟨A, n, c, h2, -⟩ := h x hx
  rw [h2] at h1
  rcases h1 with rfl | rfl | rfl | rfl | rfl | rfl | rfl <;> rfl
/-- Its cells, to be appended. -/
theorem DocIs.news (h : DocIs S w A n c M) : ∀ ad, A = some ad → ∀ j u, (rrow M)[j]? = some u → w.cell? (ad.add j) = some u := fun ad e j u hu => by
  have hj := (List.getElem?_eq_some_iff.1 hu).1
  rw [rrow_len] at hj
  obtain ⟨g, e2, -, hc⟩ := h.row (by rw [h.len]; omega)
  rw [e2] at e
  cases e
  rw [add_at, Nat.zero_add]
  exact hc j u hu
/-- A row of the call's own. -/
theorem DocIs.own {base : Nat} {e : TypeId} (h : w.ownsRow base e 7 (.slice A n c) n (rrow M)) (hS : ∀ k, base ≤ k → k < w.heap.size → S k) (ho : ∀ x ∈ M, OfIs S w x.ov x.of) : DocIs S w A n c M := by
  have hl := h.1
  rw [rrow_len] at hl
  have hc := own_cap h
  rcases h.2 with ⟨hv, h0⟩ | ⟨g, cap, cur, hv, _, hg, _⟩
  · simp only [Value.slice.injEq] at hv
    obtain ⟨rfl, rfl, rfl⟩ := hv
    exact ⟨by omega, hc, fun _ => ⟨rfl, rfl⟩, fun hn => by omega, ho⟩
  · simp only [Value.slice.injEq, true_and] at hv
    obtain ⟨rfl, rfl⟩ := hv
    have hlt := h.lt g rfl
    refine ⟨by omega, hc, (fun e => by cases e), fun hn => ⟨g, rfl, hS g hlt.1 hlt.2, fun j u hu => ?_⟩, ho⟩
    have hj := (List.getElem?_eq_some_iff.1 hu).1
    rw [rrow_len] at hj
    rw [h.cellAt _ (by omega), hu]
theorem OfIs.own {base : Nat} {e : TypeId} {l : List Nat} (h : w.ownsRow base e 1 (.slice A n c) n (l.map fun u => .int .i64 ((u : Nat) : Int))) (hS : ∀ k, base ≤ k → k < w.heap.size → S k) : OfIs S w (.slice A n c) l := by
  have hl := h.1
  rw [List.length_map] at hl
  have hc := own_cap h
  refine ⟨A, n, c, rfl, by omega, hc, fun e => ?_, fun hn => ?_⟩
  · rcases h.2 with ⟨hv, h0⟩ | ⟨g, cap, cur, hv, _⟩
    · simp only [Value.slice.injEq] at hv
      exact ⟨hv.2.1, hv.2.2⟩
    · simp only [Value.slice.injEq] at hv
      rw [hv.1] at e
      cases e
  · rcases h.2 with ⟨hv, h0⟩ | ⟨g, cap, cur, hv, _, hg, _⟩
    · omega
    · simp only [Value.slice.injEq, true_and] at hv
      obtain ⟨rfl, rfl⟩ := hv
      have hlt := h.lt g rfl
      refine ⟨g, rfl, hS g hlt.1 hlt.2, fun i u hu => ?_⟩
      have hj := (List.getElem?_eq_some_iff.1 hu).1
      rw [h.cellAt _ (by omega), List.getElem?_map, hu]
      rfl
end
theorem OfIs.nil (S : Nat → Prop) (w : World) : OfIs S w (.slice none 0 0) [] := ⟨none, 0, 0, rfl, rfl, Nat.le_refl _, fun _ => ⟨rfl, rfl⟩, fun h => by omega⟩
theorem DocIs.empty (S : Nat → Prop) (w : World) : DocIs S w none 0 0 [] := ⟨rfl, Nat.le_refl _, fun _ => ⟨rfl, rfl⟩, fun h => by omega, fun x hx => by simp at hx⟩
/-- Of S, or new. -/
def Fresh (S : Nat → Prop) (w w' : World) (k : Nat) : Prop := S k ∨ (w.heap.size ≤ k ∧ k < w'.heap.size)
theorem info_node : (Try.prog.info? 51).map (fun i => (i.zero, i.size, i.bytes)) = some (some (.agg #[.int .i64 0, .slice none 0 0, .int .i64 0, .int .i64 0, .int .i64 0, .int .i64 0, .int .i64 0]), 7, 72) := by kernel_rfl
end Go.Proofs.Ythblldojbgeknaa
