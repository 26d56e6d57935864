/-
  A forest's block, rows of slots, as they lie in memory; what stores leave of them.
-/
import Derived.Test.YthblldojbgeknaaCMath
import Derived.Test.YthblldojbgeknaaWOnly
import Derived.Test.YthblldojbgeknaaLaw
import Derived.Deep.MidRow
namespace Go.Proofs.Ythblldojbgeknaa
open Go.ChangeShapes Go.WideShapes Go.ChangeAt Go.RowKit

theorem lt_of_blk {w : World} {b : Nat} {o : Obj} (h : w.heap[b]? = some o) : b < w.heap.size := (Array.getElem?_eq_some_iff.1 h).1

/-! Many cells stored at once. -/
theorem setCells_frame (b : Nat) : ∀ (vs : List Value) (o : Nat) (w : World), (w.setCells b o vs).os = w.os ∧ (w.setCells b o vs).tape = w.tape ∧ (w.setCells b o vs).output = w.output ∧ (w.setCells b o vs).heap.size = w.heap.size ∧ ∀ k, k ≠ b → (w.setCells b o vs).heap[k]? = w.heap[k]?
  | [], _, _ => ⟨rfl, rfl, rfl, rfl, fun _ _ => rfl⟩
  | v :: r, o, w => by
    obtain ⟨h1, h2, h3, h4, h5⟩ := setCells_frame b r (o + 1) (w.setCell ⟨b, o, none⟩ v)
    rw [World.setCells]
    refine ⟨h1, h2, h3, h4.trans (by simp [World.setCell]), fun k hk => (h5 k hk).trans (Below.heap_setCell _ _ _ _ hk)⟩
theorem setCells_same (b : Nat) (T : TypeId) : ∀ (vs : List Value) (o : Nat) (w : World) (C : Array Value), w.heap[b]? = some (.cells C T (0, 0)) →
    ∃ C', (w.setCells b o vs).heap[b]? = some (.cells C' T (0, 0)) ∧ C'.size = C.size ∧ (∀ j, j < o ∨ o + vs.length ≤ j → C'[j]? = C[j]?) ∧ ∀ j, j < vs.length → o + j < C.size → C'[o + j]? = vs[j]?
  | [], o, w, C, h => ⟨C, h, rfl, fun _ _ => rfl, fun j hj => by simp at hj⟩
  | v :: r, o, w, C, h => by
    obtain ⟨C', h1, h2, h3, h4⟩ := setCells_same b T r (o + 1) (w.setCell ⟨b, o, none⟩ v) (C.setIfInBounds o v) (heap_setCell_same w b o C T v h)
    rw [World.setCells]
    rw [Array.size_setIfInBounds] at h2 h4
    refine ⟨C', h1, h2, fun j hj => ?_, fun j hj hb => ?_⟩
    · rw [List.length_cons] at hj
      rw [h3 j (by omega), Array.getElem?_setIfInBounds, if_neg (by omega)]
    · cases j with
      | zero =>
        rw [Nat.add_zero, h3 o (by omega), Array.getElem?_setIfInBounds, if_pos rfl, if_pos (by omega)]
        rfl
      | succ j =>
        rw [List.length_cons] at hj
        have := h4 j (by omega) (by omega)
        have e : o + 1 + j = o + (j + 1) := by omega
        rw [e] at this
        rw [this]
        rfl
theorem Only.puts {S : Nat → Prop} {w w' : World} (h : Only S w w') {b : Nat} (hb : S b ∨ w.heap.size ≤ b) (o : Nat) (vs : List Value) : Only S w (w'.setCells b o vs) := by
  obtain ⟨h1, h2, h3, h4, h5⟩ := setCells_frame b vs o w'
  exact ⟨h1.trans h.os, h2.trans h.tape, h3.trans h.output, by rw [h4]; exact h.size, fun k hk hs => (h5 k (fun e => by subst e; exact hb.elim hs (fun h6 => by omega))).trans (h.block k hk hs)⟩

/-! The forest. -/
def hcells (h : Option Nd) : List Value := [.int .i64 (hk h), .int .i64 (ho h), .int .i64 (hr h), .int .i64 (hi h), .int .i64 (hu h)]
def fObj (C : Array Value) : Obj := .cells C 32 (0, 0)
/-- Block b is a forest of these. -/
structure FoIs (w : World) (b : Nat) (F : Fo) : Prop where
  block : ∃ C, w.heap[b]? = some (fObj C) ∧ C.size = 641 ∧ (∀ e s : Nat, e < 8 → s < 16 → ∀ j, j < 5 → C[e * 80 + s * 5 + j]? = (hcells (fd F.l e s))[j]?) ∧ C[640]? = some (.int .i64 (F.p : Nat))
  wf : Wf F
section
variable {w w' : World} {b : Nat} {F : Fo}
theorem f_cell {C : Array Value} {j : Nat} {u : Value} (hC : w.heap[b]? = some (fObj C)) (hu : C[j]? = some u) : w.cell? ⟨b, j, none⟩ = some u := by
  simp only [World.cell?, hC, fObj]
  exact hu
theorem FoIs.lt (H : FoIs w b F) : b < w.heap.size := by
  obtain ⟨C, hC, _⟩ := H.block
  exact lt_of_blk hC
theorem FoIs.kept (H : FoIs w b F) (hb : w'.heap[b]? = w.heap[b]?) : FoIs w' b F := by
  obtain ⟨C, hC, r⟩ := H.block
  exact ⟨⟨C, hb.trans hC, r⟩, H.wf⟩
theorem FoIs.below (H : FoIs w b F) (hb : Below w.heap.size w w') : FoIs w' b F := H.kept (hb.block b H.lt)
theorem FoIs.turns (H : FoIs w b F) : w.cell? ⟨b, 640, none⟩ = some (.int .i64 (F.p : Nat)) := by
  obtain ⟨C, hC, _, _, h1⟩ := H.block
  exact f_cell hC h1
theorem FoIs.at_ (H : FoIs w b F) {e s : Nat} (he : e < 8) (hs : s < 16) : w.cell? ⟨b, e * 80 + s * 5, none⟩ = some (.int .i64 (hk (fd F.l e s))) ∧ w.cell? ⟨b, e * 80 + s * 5 + 1, none⟩ = some (.int .i64 (ho (fd F.l e s))) ∧ w.cell? ⟨b, e * 80 + s * 5 + 2, none⟩ = some (.int .i64 (hr (fd F.l e s))) ∧ w.cell? ⟨b, e * 80 + s * 5 + 3, none⟩ = some (.int .i64 (hi (fd F.l e s))) ∧ w.cell? ⟨b, e * 80 + s * 5 + 4, none⟩ = some (.int .i64 (hu (fd F.l e s))) := by
  obtain ⟨C, hC, _, h1, _⟩ := H.block
  have h2 := h1 e s he hs
  exact ⟨f_cell hC (h2 0 (by omega)), f_cell hC (h2 1 (by omega)), f_cell hC (h2 2 (by omega)), f_cell hC (h2 3 (by omega)), f_cell hC (h2 4 (by omega))⟩
theorem FoIs.free (H : FoIs w b F) (j : Nat) : w.frozen? ⟨b, j, none⟩ = false := by
  obtain ⟨C, hC, _⟩ := H.block
  simp [World.frozen?, hC, fObj]
theorem FoIs.there (H : FoIs w b F) {e s : Nat} (he : e < 8) (hs : s < 16) : w.there b (e * 80 + s * 5) 5 := fun j hj => by
  refine ⟨?_, H.free _⟩
  obtain ⟨C, hC, _, h1, _⟩ := H.block
  have h2 := h1 e s he hs j hj
  have h3 : (hcells (fd F.l e s))[j]? = some ((hcells (fd F.l e s))[j]'hj) := List.getElem?_eq_getElem _
  rw [f_cell hC (h2.trans h3)]
  rfl
/-- One more was put: the number of them. -/
theorem FoIs.putTurns (H : FoIs w b F) : FoIs (w.setCell ⟨b, 640, none⟩ (.int .i64 ((F.p + 1 : Nat) : Nat))) b ⟨F.l, F.p + 1⟩ := by
  obtain ⟨C, hC, h0, h1, h2⟩ := H.block
  refine ⟨⟨C.setIfInBounds 640 (.int .i64 ((F.p + 1 : Nat) : Nat)), heap_setCell_same w b _ C _ _ hC, by simpa using h0, fun e s he hs j hj => ?_, ?_⟩, ⟨fun x hx => ?_, H.wf.rise, H.wf.apart⟩⟩
  · rw [Array.getElem?_setIfInBounds, if_neg (by omega)]
    exact h1 e s he hs j hj
  · rw [Array.getElem?_setIfInBounds, if_pos rfl, if_pos (by omega)]
  · have := H.wf.rng x hx
    dsimp only
    omega
/-- A slot is another one. -/
theorem FoIs.putAt (H : FoIs w b F) {e s : Nat} (he : e < 8) (hs : s < 16) {L : List Nd} (hw : Wf ⟨L, F.p⟩) (hL : ∀ i j : Nat, (i = e ∧ j = s) ∨ fd L i j = fd F.l i j) : FoIs (w.setCells b (e * 80 + s * 5) (hcells (fd L e s))) b ⟨L, F.p⟩ := by
  obtain ⟨C, hC, h0, h1, h2⟩ := H.block
  obtain ⟨C', c1, c2, c3, c4⟩ := setCells_same b _ (hcells (fd L e s)) (e * 80 + s * 5) w C hC
  have hl : (hcells (fd L e s)).length = 5 := rfl
  rw [hl] at c3 c4
  refine ⟨⟨C', c1, c2.trans h0, fun i k hi hk j hj => ?_, by rw [c3 _ (by omega)]; exact h2⟩, hw⟩
  by_cases hik : i = e ∧ k = s
  · obtain ⟨rfl, rfl⟩ := hik
    exact c4 j hj (by omega)
  · rcases hL i k with h3 | h3
    · exact absurd h3 hik
    · dsimp only
      rw [h3, c3 _ (by omega)]
      exact h1 i k hi hk j hj
end

/-! Rows of slots. -/
def encS (s : Sl) : List Value := [.int .i64 s.1, .int .i64 s.2.1, .int .i64 s.2.2.1, .int .i64 s.2.2.2.1, .int .i64 s.2.2.2.2]
def slc (l : List Sl) : List Value := l.flatMap encS
def scells (L : List Nd) : List Value := slc (L.map Nd.s)
theorem slc_len (l : List Sl) : (slc l).length = l.length * 5 := by
  induction l with
  | nil => rfl
  | cons a l ih => simp only [slc, List.flatMap_cons, List.length_append, List.length_cons, encS, List.length_nil] at *; omega
theorem scells_len (L : List Nd) : (scells L).length = L.length * 5 := by rw [scells, slc_len, List.length_map]
theorem slc_two (l m : List Sl) : slc (l ++ m) = slc l ++ slc m := by simp [slc]
theorem scells_two (l m : List Nd) : scells (l ++ m) = scells l ++ scells m := by simp [scells, slc]
theorem slc_one (l : List Sl) : ∀ u ∈ slc l, u.oneCell' = true := fun u hu => by
  simp only [slc, encS, List.mem_flatMap, List.mem_cons, List.not_mem_nil, or_false] at hu
  obtain ⟨t, -, rfl | rfl | rfl | rfl | rfl⟩ := hu <;> rfl
theorem slc_at : ∀ (l : List Sl) (i j : Nat) (x : Sl), l[i]? = some x → j < 5 → (slc l)[i * 5 + j]? = (encS x)[j]?
  | [], i, j, x, h, _ => by simp at h
  | a :: l, 0, j, x, h, hj => by
    obtain rfl : a = x := by simpa using h
    show (encS a ++ slc l)[0 * 5 + j]? = _
    rw [Nat.zero_mul, Nat.zero_add, List.getElem?_append_left hj]
  | a :: l, i + 1, j, x, h, hj => by
    show (encS a ++ slc l)[(i + 1) * 5 + j]? = _
    have hl : (encS a).length = 5 := rfl
    rw [List.getElem?_append_right (by omega), hl]
    have e1 : (i + 1) * 5 + j - 5 = i * 5 + j := by omega
    rw [e1]
    exact slc_at l i j x (by simpa using h) hj
/-- A slice at A reads as the list of slots; its block is one of S. -/
def Sls (S : Nat → Prop) (w : World) (A : Option Addr) (l : List Sl) : Prop :=
  0 < l.length → ∃ g, A = some ⟨g, 0, none⟩ ∧ S g ∧ ∀ j u, (slc l)[j]? = some u → w.cell? ⟨g, j, none⟩ = some u
theorem Sls.kept {S : Nat → Prop} {w w' : World} {A : Option Addr} {l : List Sl} (h : Sls S w A l) (hb : ∀ k, S k → w'.heap[k]? = w.heap[k]?) : Sls S w' A l := fun hn => by
  obtain ⟨g, e, hg, hc⟩ := h hn
  exact ⟨g, e, hg, fun j u hu => (World.cell?_of_block (a := ⟨g, _, none⟩) (hb g hg)).trans (hc j u hu)⟩
theorem Sls.mono {S T : Nat → Prop} {w : World} {A : Option Addr} {l : List Sl} (h : Sls S w A l) (hT : ∀ k, S k → T k) : Sls T w A l := fun hn => by
  obtain ⟨g, e, hg, hc⟩ := h hn
  exact ⟨g, e, hT g hg, hc⟩
theorem Sls.own {w : World} {base n c : Nat} {A : Option Addr} {e : TypeId} {l : List Sl} (h : w.ownsRow base e 5 (.slice A n c) n (slc l)) : Sls (fun k => base ≤ k ∧ k < w.heap.size) w A l := fun hn => by
  have hl := h.1
  rw [slc_len] at hl
  rcases h.2 with ⟨hv, h0⟩ | ⟨g, cap, cur, hv, _, hg, _⟩
  · omega
  · simp only [Value.slice.injEq, true_and] at hv
    obtain ⟨rfl, rfl⟩ := hv
    refine ⟨g, rfl, h.lt g rfl, fun j u hu => ?_⟩
    have hj := (List.getElem?_eq_some_iff.1 hu).1
    rw [slc_len] at hj
    rw [h.cellAt _ (by omega), hu]
theorem Sls.at_ {S : Nat → Prop} {w : World} {A : Option Addr} {l : List Sl} (h : Sls S w A l) {i : Nat} {x : Sl} (hx : l[i]? = some x) : ∃ g, A = some ⟨g, 0, none⟩ ∧ S g ∧ w.cell? ⟨g, i * 5, none⟩ = some (.int .i64 x.1) ∧ w.cell? ⟨g, i * 5 + 1, none⟩ = some (.int .i64 x.2.1) ∧ w.cell? ⟨g, i * 5 + 2, none⟩ = some (.int .i64 x.2.2.1) ∧ w.cell? ⟨g, i * 5 + 3, none⟩ = some (.int .i64 x.2.2.2.1) ∧ w.cell? ⟨g, i * 5 + 4, none⟩ = some (.int .i64 x.2.2.2.2) := by
  have hi := (List.getElem?_eq_some_iff.1 hx).1
  obtain ⟨g, e, hg, hc⟩ := h (by omega)
  exact ⟨g, e, hg, hc _ _ (slc_at l i 0 x hx (by omega)), hc _ _ (slc_at l i 1 x hx (by omega)), hc _ _ (slc_at l i 2 x hx (by omega)), hc _ _ (slc_at l i 3 x hx (by omega)), hc _ _ (slc_at l i 4 x hx (by omega))⟩
/-- Its cells, to be appended. -/
theorem Sls.news {S : Nat → Prop} {w : World} {A : Option Addr} {l : List Sl} (h : Sls S w A l) : ∀ ad, A = some ad → ∀ j u, (slc l)[j]? = some u → w.cell? (ad.add j) = some u := fun ad e j u hu => by
  have hj := (List.getElem?_eq_some_iff.1 hu).1
  rw [slc_len] at hj
  obtain ⟨g, e2, -, hc⟩ := h (by omega)
  rw [e2] at e
  cases e
  rw [add_at, Nat.zero_add]
  exact hc j u hu
end Go.Proofs.Ythblldojbgeknaa
