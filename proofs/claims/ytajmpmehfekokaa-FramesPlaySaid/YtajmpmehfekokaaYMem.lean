/-
  A memory's block and the document's rows of frames, as they lie in memory; what stores leave of them.
-/
import Derived.Test.YtajmpmehfekokaaYMath
import Derived.Test.YtajmpmehfekokaaWOnly
import Derived.Test.YtajmpmehfekokaaLaw
namespace Go.Proofs.Ytajmpmehfekokaa
open Go.ChangeShapes Go.WideShapes Go.ChangeAt Go.RowKit

theorem lt_of_blk {w : World} {b : Nat} {o : Obj} (h : w.heap[b]? = some o) : b < w.heap.size := (Array.getElem?_eq_some_iff.1 h).1

/-! Many cells stored at once. -/
theorem setCells_frame (b : Nat) : ∀ (vs : List Value) (o : Nat) (w : World), (w.setCells b o vs).os = w.os ∧ (w.setCells b o vs).tape = w.tape ∧ (w.setCells b o vs).output = w.output ∧ (w.setCells b o vs).heap.size = w.heap.size ∧ ∀ k, k ≠ b → (w.setCells b o vs).heap[k]? = w.heap[k]?
  | [], _, _ => ⟨rfl, rfl, rfl, rfl, fun _ _ => rfl⟩
  | v :: r, o, w => by
    obtain ⟨h1, h2, h3, h4, h5⟩ := setCells_frame b r (o + 1) (w.setCell ⟨b, o, none⟩ v)
    rw [World.setCells]
    refine ⟨h1, h2, h3, h4.trans (by simp [World.setCell]), fun k hk => (h5 k hk).trans (Below.heap_setCell _ _ _ _ hk)⟩
theorem setCells_same (b : Nat) (T : TypeId) : ∀ (vs : List Value) (o : Nat) (w : World) (C : Array Value), w.heap[b]? = some (.cells C T (0, 0)) →
    ∃ C', (w.setCells b o vs).heap[b]? = some (.cells C' T (0, 0)) ∧ C'.size = C.size ∧ (∀ j, j < o ∨ o + vs.length ≤ j → C'[j]? = C[j]?) ∧ ∀ j, j < vs.length → o + j < C.size → C'[o + j]? = vs[j]?
  | [], o, w, C, h => ⟨C, h, rfl, fun _ _ => rfl, fun j hj => by simp at hj⟩
  | v :: r, o, w, C, h => by
    obtain ⟨C', h1, h2, h3, h4⟩ := setCells_same b T r (o + 1) (w.setCell ⟨b, o, none⟩ v) (C.setIfInBounds o v) (heap_setCell_same w b o C T v h)
    rw [World.setCells]
    rw [Array.size_setIfInBounds] at h2 h4
    refine ⟨C', h1, h2, fun j hj => ?_, fun j hj hb => ?_⟩
    · rw [List.length_cons] at hj
      rw [h3 j (by omega), Array.getElem?_setIfInBounds, if_neg (by omega)]
    · cases j with
      | zero =>
        rw [Nat.add_zero, h3 o (by omega), Array.getElem?_setIfInBounds, if_pos rfl, if_pos (by omega)]
        rfl
      | succ j =>
        rw [List.length_cons] at hj
        have := h4 j (by omega) (by omega)
        have e : o + 1 + j = o + (j + 1) := by omega
        rw [e] at this
        rw [this]
        rfl
theorem Only.puts {S : Nat → Prop} {w w' : World} (h : Only S w w') {b : Nat} (hb : S b ∨ w.heap.size ≤ b) (o : Nat) (vs : List Value) : Only S w (w'.setCells b o vs) := by
  obtain ⟨h1, h2, h3, h4, h5⟩ := setCells_frame b vs o w'
  exact ⟨h1.trans h.os, h2.trans h.tape, h3.trans h.output, by rw [h4]; exact h.size, fun k hk hs => (h5 k (fun e => by subst e; exact hb.elim hs (fun h6 => by omega))).trans (h.block k hk hs)⟩

/-! The memory. -/
def fObj (C : Array Value) : Obj := .cells C 53 (0, 0)
/-- Block h is a memory of these frames. -/
structure FrIs (w : World) (h : Nat) (L : List Fr) : Prop where
  block : ∃ C, w.heap[h]? = some (fObj C) ∧ C.size = 545 ∧ (∀ i x, L[i]? = some x → C[512 + i]? = some (.bool x.tk) ∧ ∀ j, j < 16 → C[i * 16 + j]? = some (.int .u8 ((x.by_ j).toNat : Int))) ∧ C[544]? = some (.int .i64 (L.length : Nat))
  low : 1 ≤ L.length ∧ L.length ≤ 32
section
variable {w w' : World} {h : Nat} {L : List Fr}
theorem f_cell {C : Array Value} {j : Nat} {u : Value} (hC : w.heap[h]? = some (fObj C)) (hu : C[j]? = some u) : w.cell? ⟨h, j, none⟩ = some u := by
  simp only [World.cell?, hC, fObj]
  exact hu
theorem FrIs.lt (H : FrIs w h L) : h < w.heap.size := by
  obtain ⟨C, hC, _⟩ := H.block
  exact lt_of_blk hC
theorem FrIs.kept (H : FrIs w h L) (hb : w'.heap[h]? = w.heap[h]?) : FrIs w' h L := by
  obtain ⟨C, hC, r⟩ := H.block
  exact ⟨⟨C, hb.trans hC, r⟩, H.low⟩
theorem FrIs.below (H : FrIs w h L) (hb : Below w.heap.size w w') : FrIs w' h L := H.kept (hb.block h H.lt)
theorem FrIs.all (H : FrIs w h L) : w.cell? ⟨h, 544, none⟩ = some (.int .i64 (L.length : Nat)) := by
  obtain ⟨C, hC, _, _, h1⟩ := H.block
  exact f_cell hC h1
theorem FrIs.taken (H : FrIs w h L) {i : Nat} {x : Fr} (hx : L[i]? = some x) : w.cell? ⟨h, 512 + i, none⟩ = some (.bool x.tk) := by
  obtain ⟨C, hC, _, h1, _⟩ := H.block
  exact f_cell hC (h1 i x hx).1
theorem FrIs.byte (H : FrIs w h L) {i j : Nat} {x : Fr} (hx : L[i]? = some x) (hj : j < 16) : w.cell? ⟨h, i * 16 + j, none⟩ = some (.int .u8 ((x.by_ j).toNat : Int)) := by
  obtain ⟨C, hC, _, h1, _⟩ := H.block
  exact f_cell hC ((h1 i x hx).2 j hj)
theorem FrIs.free (H : FrIs w h L) (j : Nat) : w.frozen? ⟨h, j, none⟩ = false := by
  obtain ⟨C, hC, _⟩ := H.block
  simp [World.frozen?, hC, fObj]
theorem FrIs.range (H : FrIs w h L) {i : Nat} {x : Fr} (hx : L[i]? = some x) : w.rangeAt h (i * 16) (bcells x.by_) := fun j v hv => by
  have hj : j < 16 := by
    have := (List.getElem?_eq_some_iff.1 hv).1
    rwa [bcells_len] at this
  rw [bcells_at _ hj, Option.some.injEq] at hv
  rw [H.byte hx hj, hv]
theorem FrIs.there (H : FrIs w h L) {i : Nat} {x : Fr} (hx : L[i]? = some x) : w.there h (i * 16) 16 := fun j hj => ⟨by rw [H.byte hx hj]; rfl, H.free _⟩
theorem set_at {C : Array Value} {i j : Nat} {u v : Value} (h : C[j]? = some u) : (C.setIfInBounds i v)[j]? = some (if j = i then v else u) := by
  have hj := (Array.getElem?_eq_some_iff.1 h).1
  rw [Array.getElem?_setIfInBounds]
  by_cases e : i = j
  · subst e
    rw [if_pos rfl, if_pos rfl, if_pos hj]
  · rw [if_neg e, if_neg (Ne.symm e), h]
theorem set_in {i k : Nat} {x y z : Fr} (hx : L[i]? = some x) (hz : (L.set i y)[k]? = some z) : (k = i ∧ z = y) ∨ (k ≠ i ∧ L[k]? = some z) := by
  have hi := (List.getElem?_eq_some_iff.1 hx).1
  rw [List.getElem?_set] at hz
  by_cases e : i = k
  · subst e
    rw [if_pos rfl, if_pos hi] at hz
    exact Or.inl ⟨rfl, by simpa using hz.symm⟩
  · rw [if_neg e] at hz
    exact Or.inr ⟨Ne.symm e, hz⟩
/-- A frame is taken, or given back. -/
theorem FrIs.putTaken (H : FrIs w h L) {i : Nat} {x : Fr} (hx : L[i]? = some x) (b : Bool) : FrIs (w.setCell ⟨h, 512 + i, none⟩ (.bool b)) h (L.set i ⟨b, x.by_⟩) := by
  obtain ⟨C, hC, h0, h1, h2⟩ := H.block
  have hi := (List.getElem?_eq_some_iff.1 hx).1
  have hl := H.low
  refine ⟨⟨C.setIfInBounds (512 + i) (.bool b), heap_setCell_same w h _ C _ _ hC, by simpa using h0, fun k z hz => ?_, ?_⟩, by rw [List.length_set]; exact hl⟩
  · rcases set_in hx hz with ⟨rfl, rfl⟩ | ⟨hk, hz⟩
    · obtain ⟨a1, a2⟩ := h1 k x hx
      refine ⟨by rw [set_at a1, if_pos rfl], fun j hj => ?_⟩
      rw [set_at (a2 j hj), if_neg (by omega)]
    · obtain ⟨a1, a2⟩ := h1 k z hz
      have hk2 := (List.getElem?_eq_some_iff.1 hz).1
      refine ⟨by rw [set_at a1, if_neg (by omega)], fun j hj => ?_⟩
      rw [set_at (a2 j hj), if_neg (by omega)]
  · rw [set_at h2, if_neg (by omega), List.length_set]
/-- A byte is written. -/
theorem FrIs.putByte (H : FrIs w h L) {i a : Nat} {x : Fr} (hx : L[i]? = some x) (ha : a < 16) (b : UInt8) : FrIs (w.setCell ⟨h, i * 16 + a, none⟩ (.int .u8 (b.toNat : Int))) h (L.set i ⟨x.tk, put8 x.by_ a b⟩) := by
  obtain ⟨C, hC, h0, h1, h2⟩ := H.block
  have hi := (List.getElem?_eq_some_iff.1 hx).1
  have hl := H.low
  refine ⟨⟨C.setIfInBounds (i * 16 + a) (.int .u8 (b.toNat : Int)), heap_setCell_same w h _ C _ _ hC, by simpa using h0, fun k z hz => ?_, ?_⟩, by rw [List.length_set]; exact hl⟩
  · rcases set_in hx hz with ⟨rfl, rfl⟩ | ⟨hk, hz⟩
    · obtain ⟨a1, a2⟩ := h1 k x hx
      refine ⟨by rw [set_at a1, if_neg (by omega)], fun j hj => ?_⟩
      rw [set_at (a2 j hj), put8_cells]
      by_cases e : j = a
      · rw [if_pos (by omega), if_pos e]
      · rw [if_neg (by omega), if_neg e]
    · obtain ⟨a1, a2⟩ := h1 k z hz
      have hk2 := (List.getElem?_eq_some_iff.1 hz).1
      refine ⟨by rw [set_at a1, if_neg (by omega)], fun j hj => ?_⟩
      rw [set_at (a2 j hj), if_neg (by omega)]
  · rw [set_at h2, if_neg (by omega), List.length_set]
/-- A frame's bytes are others. -/
theorem FrIs.putBytes (H : FrIs w h L) {i : Nat} {x : Fr} (hx : L[i]? = some x) (f : Nat → UInt8) : FrIs (w.setCells h (i * 16) (bcells f)) h (L.set i ⟨x.tk, f⟩) := by
  obtain ⟨C, hC, h0, h1, h2⟩ := H.block
  have hi := (List.getElem?_eq_some_iff.1 hx).1
  have hl := H.low
  obtain ⟨C', c1, c2, c3, c4⟩ := setCells_same h _ (bcells f) (i * 16) w C hC
  rw [bcells_len] at c3 c4
  refine ⟨⟨C', c1, c2.trans h0, fun k z hz => ?_, ?_⟩, by rw [List.length_set]; exact hl⟩
  · rcases set_in hx hz with ⟨rfl, rfl⟩ | ⟨hk, hz⟩
    · obtain ⟨a1, a2⟩ := h1 k x hx
      refine ⟨by rw [c3 _ (by omega)]; exact a1, fun j hj => ?_⟩
      rw [c4 j hj (by omega)]
      exact bcells_at _ hj
    · obtain ⟨a1, a2⟩ := h1 k z hz
      have hk2 := (List.getElem?_eq_some_iff.1 hz).1
      refine ⟨by rw [c3 _ (by omega)]; exact a1, fun j hj => ?_⟩
      rw [c3 _ (by omega)]
      exact a2 j hj
  · rw [c3 _ (by omega), List.length_set]
    exact h2
end

/-! The document's rows. -/
/-- Block g has these frames as a row. -/
def Rw (w : World) (g : Nat) (L : List Fr) : Prop := ∀ i x, L[i]? = some x → w.rangeAt g (i * 17) (fcells x)
section
variable {w w' : World} {g : Nat} {L : List Fr}
theorem Rw.kept (H : Rw w g L) (hb : w'.heap[g]? = w.heap[g]?) : Rw w' g L := fun i x hx j v hv => (World.cell?_of_block (a := ⟨g, _, none⟩) hb).trans (H i x hx j v hv)
theorem Rw.below (H : Rw w g L) (hg : g < w.heap.size) (hb : Below w.heap.size w w') : Rw w' g L := H.kept (hb.block g hg)
theorem Rw.taken (H : Rw w g L) {i : Nat} {x : Fr} (hx : L[i]? = some x) : w.cell? ⟨g, i * 17, none⟩ = some (.bool x.tk) := H i x hx 0 _ (fcells_tk x)
theorem Rw.byte (H : Rw w g L) {i j : Nat} {x : Fr} (hx : L[i]? = some x) (hj : j < 16) : w.cell? ⟨g, i * 17 + (j + 1), none⟩ = some (.int .u8 ((x.by_ j).toNat : Int)) := H i x hx (j + 1) _ (fcells_at x hj)
theorem Rw.own {base : Nat} {n c : Nat} {e : TypeId} (h : w.ownsRow base e 17 (.slice (some ⟨g, 0, none⟩) n c) n (rcells L)) : Rw w g L := fun i x hx j v hv => by
  have hi := (List.getElem?_eq_some_iff.1 hx).1
  have hj : j < 17 := by
    have := (List.getElem?_eq_some_iff.1 hv).1
    rwa [fcells_len] at this
  have hn := h.1
  rw [rcells_len] at hn
  rw [h.cellAt _ (by omega), rcells_at L i j x hx hj, hv]
/-- All of its cells, to be appended. -/
theorem Rw.news (H : Rw w g L) : ∀ ad, some (⟨g, 0, none⟩ : Addr) = some ad → ∀ j u, (rcells L)[j]? = some u → w.cell? (ad.add j) = some u := fun ad e j u hu => by
  cases e
  have hj := (List.getElem?_eq_some_iff.1 hu).1
  rw [rcells_len] at hj
  obtain ⟨i, r, hr, rfl⟩ : ∃ i r, r < 17 ∧ j = i * 17 + r := ⟨j / 17, j % 17, by omega, by omega⟩
  have hi : i < L.length := by omega
  have hx : L[i]? = some L[i] := List.getElem?_eq_getElem hi
  rw [rcells_at L i r _ hx hr] at hu
  rw [Addr.add_mid, Nat.zero_add]
  exact H i _ hx r u hu
end
end Go.Proofs.Ytajmpmehfekokaa
