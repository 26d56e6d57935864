/-
  A list of acts, as it comes in to a law.
-/
import Derived.Test.YtajmpmehfekokaaOpens
import Derived.Test.YtajmpmehfekokaaYPlays
import Derived.Deep.Slices
import Derived.Lib.SmallJoins
namespace Go.Proofs.Ytajmpmehfekokaa
open Go.ChangeShapes Go.WideShapes Go.ChangeAt Go.RowKit Go.Deep Go.Joins

theorem act_cells : Try.prog.cellsOf 31 = 4 := by kernel_rfl


theorem u8_cells : Try.prog.cellsOf 5 = 1 := by kernel_rfl
theorem u8_of {n : Int} (h : (Lit.int .u8 n).wf = true) : ∃ b : UInt8, n = (b.toNat : Int) := by
  simp [Lit.wf, IntKind.min, IntKind.max, IntKind.signed, IntKind.bits] at h
  refine ⟨UInt8.ofNat n.toNat, ?_⟩
  rw [UInt8.toNat_ofNat']
  omega

set_option maxRecDepth 100000 in
/-- A list of acts, as it comes in. -/
theorem open_acts {H : Type} {enc : TypeId × Value → H} {W : World} {v : Value} {d : DataW H} {p : List MemPlace} {base : Nat}
    (hv : Value.okWide Try.prog W .any base 22 v) (h : DataW.Trod enc Try.prog W 0 (fun _ => true) true 22 v d p) :
    ∃ A n c l, v = .slice A n c ∧ l.length = n ∧ Acs W.heap.size W A l := by
  obtain ⟨a0, len, cap, rfl⟩ := okWide_slice Try.underlying22 hv
  obtain ⟨fuel, hf⟩ := h
  rcases open_slice Try.underlying22 hf with ⟨hcs, -⟩ | ⟨a, len', cap', m, k, D, Pl, hcs, -, hl, -, hm, -, hx⟩
  · simp [Value.cells] at hcs
    obtain ⟨rfl, rfl, rfl⟩ := hcs
    exact ⟨none, 0, 0, [], rfl, rfl, fun hn => by simp at hn⟩
  · simp [Value.cells] at hcs
    obtain ⟨rfl, rfl, rfl⟩ := hcs
    simp at hm
    subst hm
    have each : ∀ i, ∃ q : Ac, i < len → W.cell? (a.add (i * 4)) = some (.int .i64 q.1) ∧ W.cell? ((a.add (i * 4)).add 1) = some (.int .i64 q.2.1) ∧ W.cell? ((a.add (i * 4)).add 2) = some (.int .i64 q.2.2.1) ∧ W.cell? ((a.add (i * 4)).add 3) = some (.int .u8 (q.2.2.2.toNat : Int)) := by
      intro i
      by_cases hi : i < len
      · obtain ⟨cs, hc, ht⟩ := hx i (by omega)
        rw [act_cells] at hc
        obtain ⟨-, hlen, hat⟩ := World.cells?_some hc
        obtain ⟨ys, n2, -, -, -, hyl, hfl⟩ := DataW.trod_struct Try.underlying31 ht
        match ys, hyl, cs, hlen with
        | [y0, y1, y2, y3], _, [v0, v1, v2, v3], _ =>
          have g0 := hfl 0 _ rfl
          have g1 := hfl 1 _ rfl
          have g2 := hfl 2 _ rfl
          have g3 := hfl 3 _ rfl
          simp [int_cells, u8_cells] at g0 g1 g2 g3
          obtain ⟨x0, e0, -, -⟩ := DataW.trod_int Try.underlying3 g0
          obtain ⟨x1, e1, -, -⟩ := DataW.trod_int Try.underlying3 g1
          obtain ⟨x2, e2, -, -⟩ := DataW.trod_int Try.underlying3 g2
          obtain ⟨x3, e3, -, wf⟩ := DataW.trod_int Try.underlying5 g3
          obtain ⟨b, rfl⟩ := u8_of wf
          simp at e0 e1 e2 e3
          subst e0 e1 e2 e3
          have h0 := hat 0 (by omega)
          have h1 := hat 1 (by omega)
          have h2 := hat 2 (by omega)
          have h3 := hat 3 (by omega)
          exact ⟨(x0, x1, x2, b), fun _ => ⟨by simpa [Addr.add] using h0, by simpa using h1, by simpa using h2, by simpa using h3⟩⟩
      · exact ⟨(0, 0, 0, 0), fun h => absurd h hi⟩
    refine ⟨some a, len, _, (List.range len).map fun i => (each i).choose, rfl, by simp, fun hn => ?_⟩
    simp at hn
    obtain ⟨b, off, spot⟩ := a
    have h0 := (each 0).choose_spec hn
    have hspot : spot = none := by simpa [Addr.add] using World.cell?_spot h0.1
    subst hspot
    have hb := World.block_lt_of_cell? W _ h0.1
    refine ⟨b, off, rfl, by simpa [add_plain] using hb, fun i x hx2 => ?_⟩
    have hi := (List.getElem?_eq_some_iff.1 hx2).1
    simp at hi
    rw [List.getElem?_map, List.getElem?_range hi] at hx2
    simp only [Option.map_some, Option.some.injEq] at hx2
    have hi2 := (each i).choose_spec hi
    rw [hx2] at hi2
    simp only [add_plain] at hi2
    exact hi2
end Go.Proofs.Ytajmpmehfekokaa
