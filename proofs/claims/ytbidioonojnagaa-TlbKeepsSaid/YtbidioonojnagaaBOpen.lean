/-
  A translation, and a list of them, as they come in to a law.
-/
import Derived.Test.YtbidioonojnagaaOpens
import Derived.Test.YtbidioonojnagaaBAt
import Derived.Deep.Slices
import Derived.Lib.SmallJoins
namespace Go.Proofs.Ytbidioonojnagaa
open Go.ChangeShapes Go.WideShapes Go.ChangeAt Go.RowKit Go.Deep Go.Joins

/-- A list of translations, as it comes in. -/
def Ens (B : Nat) (w : World) (A : Option Addr) (l : List En) : Prop := 0 < l.length → ∃ b o, A = some ⟨b, o, none⟩ ∧ b < B ∧ ∀ i x, l[i]? = some x → w.cell? ⟨b, o + i * 4, none⟩ = some (.int .i64 x.en) ∧ w.cell? ⟨b, o + i * 4 + 1, none⟩ = some (.int .i64 x.pg) ∧ w.cell? ⟨b, o + i * 4 + 2, none⟩ = some (.int .i64 x.fr) ∧ w.cell? ⟨b, o + i * 4 + 3, none⟩ = some (.bool x.wr)
theorem rentry_cells : Try.prog.cellsOf 23 = 4 := by kernel_rfl
theorem bool_cells : Try.prog.cellsOf 4 = 1 := by kernel_rfl

/-- A translation, as it comes in. -/
theorem open_entry {H : Type} {enc : TypeId × Value → H} {W : World} {v : Value} {d : DataW H} {p : List MemPlace} {base : Nat}
    (hv : Value.okWide Try.prog W .any base 23 v) (h : DataW.Trod enc Try.prog W 0 (fun _ => true) true 23 v d p) :
    ∃ x : En, v = .agg (ecells x).toArray := by
  obtain ⟨v0, v1, v2, v3, y0, y1, y2, y3, m, rfl, -, -, g0, g1, g2, g3⟩ := open_agg4 Try.underlying23 (by kernel_rfl) rentry_cells hv h
  obtain ⟨x0, e0, -, -⟩ := DataW.trod_int Try.underlying3 g0
  obtain ⟨x1, e1, -, -⟩ := DataW.trod_int Try.underlying3 g1
  obtain ⟨x2, e2, -, -⟩ := DataW.trod_int Try.underlying3 g2
  obtain ⟨x3, e3, -⟩ := DataW.trod_bool Try.underlying4 g3
  simp at e0 e1 e2 e3
  subst e0 e1 e2 e3
  exact ⟨⟨x0, x1, x2, x3⟩, rfl⟩

set_option maxRecDepth 100000 in
theorem open_ens {H : Type} {enc : TypeId × Value → H} {W : World} {v : Value} {d : DataW H} {p : List MemPlace} {base : Nat}
    (hv : Value.okWide Try.prog W .any base 24 v) (h : DataW.Trod enc Try.prog W 0 (fun _ => true) true 24 v d p) :
    ∃ A n c l, v = .slice A n c ∧ l.length = n ∧ Ens W.heap.size W A l := by
  obtain ⟨a0, len, cap, rfl⟩ := okWide_slice Try.underlying24 hv
  obtain ⟨fuel, hf⟩ := h
  rcases open_slice Try.underlying24 hf with ⟨hcs, -⟩ | ⟨a, len', cap', m, k, D, Pl, hcs, -, hl, -, hm, -, hx⟩
  · simp [Value.cells] at hcs
    obtain ⟨rfl, rfl, rfl⟩ := hcs
    exact ⟨none, 0, 0, [], rfl, rfl, fun hn => by simp at hn⟩
  · simp [Value.cells] at hcs
    obtain ⟨rfl, rfl, rfl⟩ := hcs
    simp at hm
    subst hm
    have each : ∀ i, ∃ q : En, i < len → W.cell? (a.add (i * 4)) = some (.int .i64 q.en) ∧ W.cell? ((a.add (i * 4)).add 1) = some (.int .i64 q.pg) ∧ W.cell? ((a.add (i * 4)).add 2) = some (.int .i64 q.fr) ∧ W.cell? ((a.add (i * 4)).add 3) = some (.bool q.wr) := by
      intro i
      by_cases hi : i < len
      · obtain ⟨cs, hc, ht⟩ := hx i (by omega)
        rw [rentry_cells] at hc
        obtain ⟨-, hlen, hat⟩ := World.cells?_some hc
        obtain ⟨ys, n2, -, -, -, hyl, hfl⟩ := DataW.trod_struct Try.underlying23 ht
        match ys, hyl, cs, hlen with
        | [y0, y1, y2, y3], _, [v0, v1, v2, v3], _ =>
          have g0 := hfl 0 _ rfl
          have g1 := hfl 1 _ rfl
          have g2 := hfl 2 _ rfl
          have g3 := hfl 3 _ rfl
          simp [int_cells, bool_cells] at g0 g1 g2 g3
          obtain ⟨x0, e0, -, -⟩ := DataW.trod_int Try.underlying3 g0
          obtain ⟨x1, e1, -, -⟩ := DataW.trod_int Try.underlying3 g1
          obtain ⟨x2, e2, -, -⟩ := DataW.trod_int Try.underlying3 g2
          obtain ⟨x3, e3, -⟩ := DataW.trod_bool Try.underlying4 g3
          simp at e0 e1 e2 e3
          subst e0 e1 e2 e3
          have h0 := hat 0 (by omega)
          have h1 := hat 1 (by omega)
          have h2 := hat 2 (by omega)
          have h3 := hat 3 (by omega)
          exact ⟨⟨x0, x1, x2, x3⟩, fun _ => ⟨by simpa [Addr.add] using h0, by simpa using h1, by simpa using h2, by simpa using h3⟩⟩
      · exact ⟨noEn, fun h => absurd h hi⟩
    refine ⟨some a, len, _, (List.range len).map fun i => (each i).choose, rfl, by simp, fun hn => ?_⟩
    simp at hn
    obtain ⟨b, off, spot⟩ := a
    have h0 := (each 0).choose_spec hn
    have hspot : spot = none := by simpa [Addr.add] using World.cell?_spot h0.1
    subst hspot
    have hb := World.block_lt_of_cell? W _ h0.1
    refine ⟨b, off, rfl, by simpa [add_plain] using hb, fun i x hx2 => ?_⟩
    have hi := (List.getElem?_eq_some_iff.1 hx2).1
    simp at hi
    rw [List.getElem?_map, List.getElem?_range hi] at hx2
    simp only [Option.map_some, Option.some.injEq] at hx2
    have hi2 := (each i).choose_spec hi
    rw [hx2] at hi2
    simp only [add_plain] at hi2
    exact hi2
end Go.Proofs.Ytbidioonojnagaa
