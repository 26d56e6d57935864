/-
  The law RatioSums (the sum of any fractions, or why there is none, and that it is the same in the other order) answers true for every list of pairs of words; no condition.
-/
import Derived.Test.YthegadplakllkaaSums
import Derived.Test.YthegadplakllkaaOpen
import Derived.Deep.SlicePairs
namespace Go.Proofs.Ythegadplakllkaa
open Go.ChangeShapes Go.WideShapes Go.ChangeAt Go.RowKit Go.Deep

theorem word_cells : Try.prog.cellsOf 22 = 1 := by kernel_rfl

theorem getD_map_range {α : Type} (f : Nat → α) (d : α) (n i : Nat) (h : i < n) : ((List.range n).map f).getD i d = f i := by
  rw [List.getD_eq_getElem?_getD, List.getElem?_map, List.getElem?_range h]; rfl
theorem getD_map_far {α : Type} (f : Nat → α) (d : α) (n i : Nat) (h : ¬ i < n) : ((List.range n).map f).getD i d = d := by
  rw [List.getD_eq_getElem?_getD, List.getElem?_eq_none (by simp; omega)]; rfl

/-- A list of fractions, as it comes in. -/
theorem open_fracs {H : Type} {enc : TypeId × Value → H} {W : World} {v : Value} {d : DataW H} {p : List MemPlace} {base : Nat}
    (hv : Value.okWide Try.prog W .any base 43 v) (h : DataW.Trod enc Try.prog W 0 (fun _ => true) true 43 v d p) :
    ∃ A n c l, v = .slice A n c ∧ l.length = n ∧ Fracs W.heap.size W A l ∧ InWords l := by
  obtain ⟨a0, len, cap, rfl⟩ := okWide_slice Try.underlying43 hv
  obtain ⟨fuel, hf⟩ := h
  rcases open_slice_pairs Try.underlying43 Try.underlying24 ratio_cells rfl rfl word_cells word_cells hf with ⟨hcs, _⟩ | ⟨a, len', cap', m, k, V0, V1, D0, D1, P0, P1, hcs, _, hl, _, hm, _, hx⟩
  · simp [Value.cells] at hcs
    obtain ⟨rfl, rfl, rfl⟩ := hcs
    exact ⟨none, 0, 0, [], rfl, rfl, fun h => by simp at h, fun i => by simp⟩
  · simp [Value.cells] at hcs
    obtain ⟨rfl, rfl, rfl⟩ := hcs
    simp at hm
    subst hm
    have hV : ∀ i, i < len → ∃ x y, V0 i = .int .u64 x ∧ V1 i = .int .u64 y ∧ (Lit.int .u64 x).wf = true ∧ (Lit.int .u64 y).wf = true := by
      intro i hi
      obtain ⟨_, _, h0, h1⟩ := hx i (by omega)
      obtain ⟨x, e0, _, wx⟩ := DataW.trod_int Try.underlying22 h0
      obtain ⟨y, e1, _, wy⟩ := DataW.trod_int Try.underlying22 h1
      simp at e0 e1
      exact ⟨x, y, e0, e1, wx, wy⟩
    refine ⟨some a, len, _, (List.range len).map fun i => (intOf (V0 i), intOf (V1 i)), rfl, by simp, fun hn => ?_, fun i => ?_⟩
    · simp at hn
      obtain ⟨b, off, spot⟩ := a
      have hspot : spot = none := by simpa [Addr.add] using World.cell?_spot (hx 0 (by omega)).1
      subst hspot
      have hb := World.block_lt_of_cell? W _ (hx 0 (by omega)).1
      refine ⟨b, off, rfl, by simpa [add_plain] using hb, fun i hi => ?_⟩
      simp at hi
      obtain ⟨x, y, e0, e1, _, _⟩ := hV i hi
      obtain ⟨c0, c1, _, _⟩ := hx i (by omega)
      rw [add_plain] at c0 c1
      rw [getD_map_range _ _ _ _ hi, e0, e1]
      rw [e0] at c0
      rw [e1] at c1
      exact ⟨c0, c1⟩
    · by_cases hi : i < len
      · obtain ⟨x, y, e0, e1, wx, wy⟩ := hV i hi
        rw [getD_map_range _ _ _ _ hi, e0, e1]
        exact ⟨(u64_bd wx).1, (u64_bd wx).2, (u64_bd wy).1, (u64_bd wy).2⟩
      · rw [getD_map_far _ _ _ _ hi]
        decide

set_option maxRecDepth 100000 in
theorem sums_lifted (os : Os) (started : os.Started) (H : Type) (enc : TypeId × Value → H) :
    ReturnsInHanded {} Try.checked os 5 .any (Rows.ratioSumsSpec.pre6 enc Try.prog Try.f5 [] false) (Rows.ratioSumsSpec.post enc Try.prog Try.f5 false true false false) := by
  refine law_lifted (C := Try.checked) (tb := 4) 1 law_own started (by kernel_rfl) Try.func5
    (ChangeSpec.witness6 (enc := enc) (C := Try.checked) false ⟨#[], #[.slice none 0 0], []⟩ 8 (by kernel_rfl) (by kernel_rfl) (by kernel_rfl) (by kernel_rfl))
    law_laid (by decide +kernel) (by kernel_rfl) (by kernel_rfl) rfl (by kernel_rfl) (fun ds h => ?_) ?_
  · match ds, h with
    | [_], _ => rfl
  intro W base args ds before hval0 hA0 _
  have hval : ∀ (j : Nat) t v, Try.f5.params[j]? = some t → args[j]? = some v → Value.okWide Try.prog W .any base t v := hval0
  have hA : DataW.TrodAll enc Try.prog W 0 (fun _ => true) true Try.f5.params.toList args.toList ds before := hA0
  rw [Try.params5] at hA hval
  obtain ⟨v0, d0, rfl, rfl, h0⟩ := trodAll_one hA
  obtain ⟨A, n, c, l, rfl, hl, hL, hI⟩ := open_fracs (hval 0 43 v0 rfl rfl) h0
  exact sums_any A n c l W hl hL hI

theorem sums_holds : Rows.RatioSumsSaid :=
  OpenClaim.holds_of_wide 5 Try.f5 rfl rfl rfl rfl rfl rfl rfl ⟨rfl, rfl, rfl, rfl, rfl⟩ rfl rfl rfl rfl rfl (by kernel_rfl) Try.func5 (by kernel_rfl)
    (of_decide_eq_true (by kernel_rfl)) (by unfold Func.isWrapper; first | (rw [if_pos (by decide +kernel)]; kernel_rfl) | (rw [if_neg (by decide +kernel)]; exact ⟨rfl, rfl⟩))
    (fun os started H enc _ => sums_lifted os started H enc)
end Go.Proofs.Ythegadplakllkaa
