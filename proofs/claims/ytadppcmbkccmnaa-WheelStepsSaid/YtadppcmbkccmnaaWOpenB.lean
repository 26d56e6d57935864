/-
  A list of uint16, as it comes in to a law.
-/
import Derived.Test.YtadppcmbkccmnaaOpens
import Derived.Test.YtadppcmbkccmnaaWSteps
import Derived.Deep.Slices
import Derived.Lib.SmallJoins
namespace Go.Proofs.Ytadppcmbkccmnaa
open Go.ChangeShapes Go.WideShapes Go.ChangeAt Go.RowKit Go.Deep Go.Joins Wh

theorem short_cells : Try.prog.cellsOf 45 = 1 := by kernel_rfl

set_option maxRecDepth 100000 in
/-- A list of uint16, as it comes in. -/
theorem open_shorts {H : Type} {enc : TypeId × Value → H} {W : World} {v : Value} {d : DataW H} {p : List MemPlace} {base : Nat}
    (hv : Value.okWide Try.prog W .any base 46 v) (h : DataW.Trod enc Try.prog W 0 (fun _ => true) true 46 v d p) :
    ∃ A n c l, v = .slice A n c ∧ l.length = n ∧ Shorts W.heap.size W A l := by
  obtain ⟨a0, len, cap, rfl⟩ := okWide_slice Try.underlying46 hv
  obtain ⟨fuel, hf⟩ := h
  rcases open_slice Try.underlying46 hf with ⟨hcs, -⟩ | ⟨a, len', cap', m, k, D, Pl, hcs, -, hl, -, hm, -, hx⟩
  · simp [Value.cells] at hcs
    obtain ⟨rfl, rfl, rfl⟩ := hcs
    exact ⟨none, 0, 0, [], rfl, rfl, fun hn => by simp at hn, fun i hi => by simp at hi⟩
  · simp [Value.cells] at hcs
    obtain ⟨rfl, rfl, rfl⟩ := hcs
    simp at hm
    subst hm
    have each : ∀ i, ∃ q : Int, i < len → W.cell? (a.add i) = some (.int .u16 q) ∧ (Lit.int .u16 q).wf = true := by
      intro i
      by_cases hi : i < len
      · obtain ⟨cs, hc, ht⟩ := hx i (by omega)
        rw [short_cells] at hc
        obtain ⟨-, hlen, hat⟩ := World.cells?_some hc
        match cs, hlen with
        | [v0], _ =>
          obtain ⟨x0, e0, -, wf⟩ := DataW.trod_int Try.underlying45 ht
          simp at e0
          subst e0
          have h0 := hat 0 (by omega)
          exact ⟨x0, fun _ => ⟨by simpa [Addr.add] using h0, wf⟩⟩
      · exact ⟨0, fun h => absurd h hi⟩
    have hnth : ∀ i, i < len → short ((List.range len).map fun i => (each i).choose) i = (each i).choose := fun i hi => getD_map_range _ _ _ _ hi
    refine ⟨some a, len, _, (List.range len).map fun i => (each i).choose, rfl, by simp, fun hn => ?_, fun i hi => ?_⟩
    · simp at hn
      obtain ⟨b, off, spot⟩ := a
      have h0 := (each 0).choose_spec hn
      have hspot : spot = none := by simpa [Addr.add] using World.cell?_spot h0.1
      subst hspot
      have hb := World.block_lt_of_cell? W _ h0.1
      refine ⟨b, off, rfl, by simpa [add_plain] using hb, fun i hi => ?_⟩
      simp at hi
      have hi2 := (each i).choose_spec hi
      rw [hnth i hi]
      generalize (each i).choose = q at hi2 ⊢
      simp only [add_plain] at hi2
      exact hi2.1
    · simp at hi
      have hi2 := (each i).choose_spec hi
      rw [hnth i hi]
      exact u16_bd hi2.2
end Go.Proofs.Ytadppcmbkccmnaa
