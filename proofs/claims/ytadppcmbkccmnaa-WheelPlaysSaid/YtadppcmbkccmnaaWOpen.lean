/-
  A list of acts, as it comes in to a law.
-/
import Derived.Test.YtadppcmbkccmnaaOpens
import Derived.Test.YtadppcmbkccmnaaWPlays
import Derived.Deep.Slices
import Derived.Lib.SmallJoins
namespace Go.Proofs.Ytadppcmbkccmnaa
open Go.ChangeShapes Go.WideShapes Go.ChangeAt Go.RowKit Go.Deep Go.Joins Wh

theorem act_cells : Try.prog.cellsOf 30 = 3 := by kernel_rfl


set_option maxRecDepth 100000 in
/-- A list of acts, as it comes in. -/
theorem open_acts {H : Type} {enc : TypeId × Value → H} {W : World} {v : Value} {d : DataW H} {p : List MemPlace} {base : Nat}
    (hv : Value.okWide Try.prog W .any base 22 v) (h : DataW.Trod enc Try.prog W 0 (fun _ => true) true 22 v d p) :
    ∃ A n c l, v = .slice A n c ∧ l.length = n ∧ Acts W.heap.size W A l := by
  obtain ⟨a0, len, cap, rfl⟩ := okWide_slice Try.underlying22 hv
  obtain ⟨fuel, hf⟩ := h
  rcases open_slice Try.underlying22 hf with ⟨hcs, -⟩ | ⟨a, len', cap', m, k, D, Pl, hcs, -, hl, -, hm, -, hx⟩
  · simp [Value.cells] at hcs
    obtain ⟨rfl, rfl, rfl⟩ := hcs
    exact ⟨none, 0, 0, [], rfl, rfl, Dus.nil, fun i hi => by simp at hi⟩
  · simp [Value.cells] at hcs
    obtain ⟨rfl, rfl, rfl⟩ := hcs
    simp at hm
    subst hm
    have each : ∀ i, ∃ q : Du, i < len → W.cell? (a.add (i * 3)) = some (.int .i64 q.1) ∧ W.cell? ((a.add (i * 3)).add 1) = some (.int .i64 q.2.1) ∧ W.cell? ((a.add (i * 3)).add 2) = some (.int .i64 q.2.2) ∧ (Lit.int .i64 q.2.1).wf = true := by
      intro i
      by_cases hi : i < len
      · obtain ⟨cs, hc, ht⟩ := hx i (by omega)
        rw [act_cells] at hc
        obtain ⟨-, hlen, hat⟩ := World.cells?_some hc
        obtain ⟨ys, n2, -, -, -, hyl, hfl⟩ := DataW.trod_struct Try.underlying30 ht
        match ys, hyl, cs, hlen with
        | [y0, y1, y2], _, [v0, v1, v2], _ =>
          have g0 := hfl 0 _ rfl
          have g1 := hfl 1 _ rfl
          have g2 := hfl 2 _ rfl
          simp [int_cells] at g0 g1 g2
          obtain ⟨x0, e0, -, -⟩ := DataW.trod_int Try.underlying3 g0
          obtain ⟨x1, e1, -, wf⟩ := DataW.trod_int Try.underlying3 g1
          obtain ⟨x2, e2, -, -⟩ := DataW.trod_int Try.underlying3 g2
          simp at e0 e1 e2
          subst e0 e1 e2
          have h0 := hat 0 (by omega)
          have h1 := hat 1 (by omega)
          have h2 := hat 2 (by omega)
          exact ⟨(x0, x1, x2), fun _ => ⟨by simpa [Addr.add] using h0, by simpa using h1, by simpa using h2, wf⟩⟩
      · exact ⟨(0, 0, 0), fun h => absurd h hi⟩
    have hnth : ∀ i, i < len → nth ((List.range len).map fun i => (each i).choose) i = (each i).choose := fun i hi => getD_map_range _ _ _ _ hi
    refine ⟨some a, len, _, (List.range len).map fun i => (each i).choose, rfl, by simp, ⟨fun hn => ?_⟩, fun i hi => ?_⟩
    · simp at hn
      obtain ⟨b, off, spot⟩ := a
      have h0 := (each 0).choose_spec hn
      have hspot : spot = none := by simpa [Addr.add] using World.cell?_spot h0.1
      subst hspot
      have hb := World.block_lt_of_cell? W _ h0.1
      refine ⟨b, off, rfl, by simpa [add_plain] using hb, fun i hi => ?_⟩
      simp at hi
      have hi2 := (each i).choose_spec hi
      rw [getD_map_range _ _ _ _ hi]
      generalize (each i).choose = q at hi2 ⊢
      simp only [add_plain] at hi2
      exact ⟨hi2.1, hi2.2.1, hi2.2.2.1⟩
    · simp at hi
      have hi2 := (each i).choose_spec hi
      rw [hnth i hi]
      exact i64_bd hi2.2.2.2
end Go.Proofs.Ytadppcmbkccmnaa
