/-
  A list of reservations, as it comes in to a law.
-/
import Derived.Test.YtbeckgdocnofhaaSOpen
import Derived.Test.YtbeckgdocnofhaaSWalksE
import Derived.Deep.SlicePairs
namespace Go.Proofs.Ytbeckgdocnofhaa
open Go.ChangeShapes Go.WideShapes Go.ChangeAt Go.RowKit Go.Deep

theorem getD_map_range {α : Type} (f : Nat → α) (d : α) (n i : Nat) (h : i < n) : ((List.range n).map f).getD i d = f i := by
  rw [List.getD_eq_getElem?_getD, List.getElem?_map, List.getElem?_range h]; rfl

theorem open_reserves {H : Type} {enc : TypeId × Value → H} {W : World} {v : Value} {d : DataW H} {p : List MemPlace} {base : Nat}
    (hv : Value.okWide Try.prog W .any base 37 v) (h : DataW.Trod enc Try.prog W 0 (fun _ => true) true 37 v d p) :
    ∃ A n c l, v = .slice A n c ∧ l.length = n ∧ Rsv W.heap.size W A l := by
  obtain ⟨a0, len, cap, rfl⟩ := okWide_slice Try.underlying37 hv
  obtain ⟨fuel, hf⟩ := h
  rcases open_slice_pairs Try.underlying37 Try.underlying23 reserve_cells rfl rfl int_cells int_cells hf with ⟨hcs, _⟩ | ⟨a, len', cap', m, k, V0, V1, D0, D1, P0, P1, hcs, _, hl, _, hm, _, hx⟩
  · simp [Value.cells] at hcs
    obtain ⟨rfl, rfl, rfl⟩ := hcs
    exact ⟨none, 0, 0, [], rfl, rfl, fun h => by simp at h⟩
  · simp [Value.cells] at hcs
    obtain ⟨rfl, rfl, rfl⟩ := hcs
    simp at hm
    subst hm
    have hV : ∀ i, i < len → ∃ x y, V0 i = .int .i64 x ∧ V1 i = .int .i64 y := by
      intro i hi
      obtain ⟨_, _, h0, h1⟩ := hx i (by omega)
      obtain ⟨x, e0, _, -⟩ := DataW.trod_int Try.underlying3 h0
      obtain ⟨y, e1, _, -⟩ := DataW.trod_int Try.underlying3 h1
      simp at e0 e1
      exact ⟨x, y, e0, e1⟩
    refine ⟨some a, len, _, (List.range len).map fun i => (intOf (V0 i), intOf (V1 i)), rfl, by simp, fun hn => ?_⟩
    simp at hn
    obtain ⟨b, off, spot⟩ := a
    have hspot : spot = none := by simpa [Addr.add] using World.cell?_spot (hx 0 (by omega)).1
    subst hspot
    have hb := World.block_lt_of_cell? W _ (hx 0 (by omega)).1
    refine ⟨b, off, rfl, by simpa [add_plain] using hb, fun i hi => ?_⟩
    simp at hi
    obtain ⟨x, y, e0, e1⟩ := hV i hi
    obtain ⟨c0, c1, _, _⟩ := hx i (by omega)
    rw [add_plain] at c0 c1
    rw [getD_map_range _ _ _ _ hi, e0, e1]
    rw [e0] at c0
    rw [e1] at c1
    exact ⟨c0, c1⟩
end Go.Proofs.Ytbeckgdocnofhaa
