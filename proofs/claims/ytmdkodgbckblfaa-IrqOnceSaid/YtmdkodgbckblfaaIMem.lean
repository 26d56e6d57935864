/-
  A controller's blocks and the document's rows of lines, as they lie in memory; what stores leave of them.
-/
import Derived.Test.YtmdkodgbckblfaaIMath
import Derived.Test.YtmdkodgbckblfaaWOnly
import Derived.Test.YtmdkodgbckblfaaLaw
namespace Go.Proofs.Ytmdkodgbckblfaa
open Go.ChangeShapes Go.WideShapes Go.ChangeAt Go.RowKit

theorem lt_of_blk {w : World} {b : Nat} {o : Obj} (h : w.heap[b]? = some o) : b < w.heap.size := (Array.getElem?_eq_some_iff.1 h).1
def cObj (g n : Nat) : Obj := .cells #[.slice (some ⟨g, 0, none⟩) n n] 53 (0, 0)
def lObj (L : List Ln) : Obj := .cells (rcells L).toArray 34 (0, 0)
/-- Block h is a controller, whose lines lie in block g. -/
structure IqIs (w : World) (h g : Nat) (L : List Ln) : Prop where
  ctl : w.heap[h]? = some (cObj g L.length)
  row : w.heap[g]? = some (lObj L)
  low : 1 ≤ L.length ∧ L.length ≤ 8
  off : h ≠ g
section
variable {w w' : World} {h g : Nat} {L : List Ln}
theorem IqIs.hlt (H : IqIs w h g L) : h < w.heap.size := lt_of_blk H.ctl
theorem IqIs.glt (H : IqIs w h g L) : g < w.heap.size := lt_of_blk H.row
theorem IqIs.kept (H : IqIs w h g L) (hb : w'.heap[h]? = w.heap[h]?) (hb2 : w'.heap[g]? = w.heap[g]?) : IqIs w' h g L := ⟨hb.trans H.ctl, hb2.trans H.row, H.low, H.off⟩
theorem IqIs.below (H : IqIs w h g L) (hb : Below w.heap.size w w') : IqIs w' h g L := H.kept (hb.block h H.hlt) (hb.block g H.glt)
theorem IqIs.lines (H : IqIs w h g L) : w.cell? ⟨h, 0, none⟩ = some (.slice (some ⟨g, 0, none⟩) L.length L.length) := by
  simp only [World.cell?, H.ctl, cObj]
  rfl
theorem IqIs.cell (H : IqIs w h g L) {j : Nat} {u : Value} (hu : (rcells L)[j]? = some u) : w.cell? ⟨g, j, none⟩ = some u := by
  simp only [World.cell?, H.row, lObj]
  simpa using hu
theorem IqIs.at_ (H : IqIs w h g L) {i : Nat} {x : Ln} (hx : L[i]? = some x) : w.cell? ⟨g, i * 4, none⟩ = some (.bool x.ra) ∧ w.cell? ⟨g, i * 4 + 1, none⟩ = some (.bool x.ma) ∧ w.cell? ⟨g, i * 4 + 2, none⟩ = some (.bool x.se) ∧ w.cell? ⟨g, i * 4 + 3, none⟩ = some (.int .i64 x.dr) :=
  ⟨H.cell (rcells_at L i 0 x hx (by omega)), H.cell (rcells_at L i 1 x hx (by omega)), H.cell (rcells_at L i 2 x hx (by omega)), H.cell (rcells_at L i 3 x hx (by omega))⟩
theorem IqIs.free (H : IqIs w h g L) (j : Nat) : w.frozen? ⟨g, j, none⟩ = false := by
  simp [World.frozen?, H.row, lObj]
/-- A cell of a line is another one. -/
theorem IqIs.put (H : IqIs w h g L) {i j : Nat} {x y : Ln} {v : Value} (hx : L[i]? = some x) (hj : j < 4) (hs : (lcells x).set j v = lcells y) : IqIs (w.setCell ⟨g, i * 4 + j, none⟩ v) h g (L.set i y) := by
  refine ⟨?_, ?_, by rw [List.length_set]; exact H.low, H.off⟩
  · rw [Below.heap_setCell _ _ _ _ H.off, List.length_set]
    exact H.ctl
  · have := heap_setCell_same w g (i * 4 + j) _ _ v H.row
    rw [this, lObj, ← rcells_set L i j x y v hx hj hs]
    simp
end

/-! The document's rows. -/
/-- Block g has these lines as a row. -/
def Rw (w : World) (g : Nat) (L : List Ln) : Prop := ∀ j u, (rcells L)[j]? = some u → w.cell? ⟨g, j, none⟩ = some u
section
variable {w w' : World} {g : Nat} {L : List Ln}
theorem Rw.kept (H : Rw w g L) (hb : w'.heap[g]? = w.heap[g]?) : Rw w' g L := fun j v hv => (World.cell?_of_block (a := ⟨g, _, none⟩) hb).trans (H j v hv)
theorem Rw.below (H : Rw w g L) (hg : g < w.heap.size) (hb : Below w.heap.size w w') : Rw w' g L := H.kept (hb.block g hg)
theorem Rw.at_ (H : Rw w g L) {i : Nat} {x : Ln} (hx : L[i]? = some x) : w.cell? ⟨g, i * 4, none⟩ = some (.bool x.ra) ∧ w.cell? ⟨g, i * 4 + 1, none⟩ = some (.bool x.ma) ∧ w.cell? ⟨g, i * 4 + 2, none⟩ = some (.bool x.se) ∧ w.cell? ⟨g, i * 4 + 3, none⟩ = some (.int .i64 x.dr) :=
  ⟨H _ _ (rcells_at L i 0 x hx (by omega)), H _ _ (rcells_at L i 1 x hx (by omega)), H _ _ (rcells_at L i 2 x hx (by omega)), H _ _ (rcells_at L i 3 x hx (by omega))⟩
theorem Rw.own {base : Nat} {n c : Nat} {e : TypeId} (h : w.ownsRow base e 4 (.slice (some ⟨g, 0, none⟩) n c) n (rcells L)) : Rw w g L := fun j v hv => by
  have hj := (List.getElem?_eq_some_iff.1 hv).1
  have hn := h.1
  rw [h.cellAt _ (by omega), hv]
/-- All of its cells, to be appended. -/
theorem Rw.news (H : Rw w g L) : ∀ ad, some (⟨g, 0, none⟩ : Addr) = some ad → ∀ j u, (rcells L)[j]? = some u → w.cell? (ad.add j) = some u := fun ad e j u hu => by
  cases e
  rw [Addr.add_mid, Nat.zero_add]
  exact H j u hu
end
end Go.Proofs.Ytmdkodgbckblfaa
