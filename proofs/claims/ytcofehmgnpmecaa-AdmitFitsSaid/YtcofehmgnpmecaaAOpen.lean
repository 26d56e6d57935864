/-
  A list of acts, as it comes in to a law.
-/
import Derived.Test.YtcofehmgnpmecaaOpens
import Derived.Deep.Slices
import Derived.Lib.SmallJoins
namespace Go.Proofs.Ytcofehmgnpmecaa
open Go.ChangeShapes Go.WideShapes Go.ChangeAt Go.RowKit Go.Deep Go.Joins

/-- An act: which, Who, a reservation, N. -/
structure Ac where
  kd : Int
  q : Int
  x : Int
  y : Int
  n : Int
def acells (a : Ac) : List Value := [.int .i64 a.kd, .int .i64 a.q, .int .i64 a.x, .int .i64 a.y, .int .i64 a.n]
/-- A list of acts, as it comes in. -/
def Acs (B : Nat) (w : World) (A : Option Addr) (l : List Ac) : Prop := 0 < l.length → ∃ b o, A = some ⟨b, o, none⟩ ∧ b < B ∧ ∀ i a, l[i]? = some a → ((-9223372036854775808 ≤ a.q ∧ a.q < 9223372036854775808) ∧ -9223372036854775808 ≤ a.n ∧ a.n < 9223372036854775808) ∧ ∀ j u, (acells a)[j]? = some u → w.cell? ⟨b, o + i * 5 + j, none⟩ = some u
theorem act_cells : Try.prog.cellsOf 37 = 5 := by kernel_rfl
theorem res_cells : Try.prog.cellsOf 35 = 2 := by kernel_rfl

set_option maxRecDepth 100000 in
set_option maxHeartbeats 1000000 in
/-- A list of acts, as it comes in. -/
theorem open_acts {H : Type} {enc : TypeId × Value → H} {W : World} {v : Value} {d : DataW H} {p : List MemPlace} {base : Nat}
    (hv : Value.okWide Try.prog W .any base 22 v) (h : DataW.Trod enc Try.prog W 0 (fun _ => true) true 22 v d p) :
    ∃ A n c l, v = .slice A n c ∧ l.length = n ∧ Acs W.heap.size W A l := by
  obtain ⟨a0, len, cap, rfl⟩ := okWide_slice Try.underlying22 hv
  obtain ⟨fuel, hf⟩ := h
  rcases open_slice Try.underlying22 hf with ⟨hcs, -⟩ | ⟨a, len', cap', m, k, D, Pl, hcs, -, hl, -, hm, -, hx⟩
  · simp [Value.cells] at hcs
    obtain ⟨rfl, rfl, rfl⟩ := hcs
    exact ⟨none, 0, 0, [], rfl, rfl, fun hn => by simp at hn⟩
  · simp [Value.cells] at hcs
    obtain ⟨rfl, rfl, rfl⟩ := hcs
    simp at hm
    subst hm
    have each : ∀ i, ∃ q : Ac, i < len → ((-9223372036854775808 ≤ q.q ∧ q.q < 9223372036854775808) ∧ -9223372036854775808 ≤ q.n ∧ q.n < 9223372036854775808) ∧ ∀ j u, (acells q)[j]? = some u → W.cell? ((a.add (i * 5)).add j) = some u := by
      intro i
      by_cases hi : i < len
      · obtain ⟨cs, hc, ht⟩ := hx i (by omega)
        rw [act_cells] at hc
        obtain ⟨-, hlen, hat⟩ := World.cells?_some hc
        obtain ⟨ys, n2, -, -, -, hyl, hfl⟩ := DataW.trod_struct Try.underlying37 ht
        match ys, hyl, cs, hlen with
        | [y0, y1, y2, y3], _, [v0, v1, v2, v3, v4], _ =>
          have g0 := hfl 0 _ rfl
          have g1 := hfl 1 _ rfl
          have g2 := hfl 2 _ rfl
          have g3 := hfl 3 _ rfl
          simp [int_cells, res_cells] at g0 g1 g2 g3
          obtain ⟨zs, n3, -, -, -, hzl, hfz⟩ := DataW.trod_struct Try.underlying35 g2
          match zs, hzl with
          | [z0, z1], _ =>
            have k0 := hfz 0 _ rfl
            have k1 := hfz 1 _ rfl
            simp [int_cells] at k0 k1
            obtain ⟨x0, e0, -, -⟩ := DataW.trod_int Try.underlying3 g0
            obtain ⟨x1, e1, -, hw1⟩ := DataW.trod_int Try.underlying3 g1
            obtain ⟨x2, e2, -, -⟩ := DataW.trod_int Try.underlying3 k0
            obtain ⟨x3, e3, -, -⟩ := DataW.trod_int Try.underlying3 k1
            obtain ⟨x4, e4, -, hw4⟩ := DataW.trod_int Try.underlying3 g3
            simp at e0 e1 e2 e3 e4
            subst e0 e1 e2 e3 e4
            refine ⟨⟨x0, x1, x2, x3, x4⟩, fun _ => ⟨⟨i64_bd hw1, i64_bd hw4⟩, fun j u hu => ?_⟩⟩
            have hj := (List.getElem?_eq_some_iff.1 hu).1
            have hj5 : j < 5 := hj
            exact (hat j (by simpa using hj5)).trans hu
      · exact ⟨⟨0, 0, 0, 0, 0⟩, fun h => absurd h hi⟩
    refine ⟨some a, len, _, (List.range len).map fun i => (each i).choose, rfl, by simp, fun hn => ?_⟩
    simp at hn
    obtain ⟨b, off, spot⟩ := a
    have h0 := ((each 0).choose_spec hn).2 0 _ rfl
    have hspot : spot = none := by simpa [Addr.add] using World.cell?_spot h0
    subst hspot
    have hb := World.block_lt_of_cell? W _ h0
    refine ⟨b, off, rfl, by simpa [add_plain] using hb, fun i x hx2 => ?_⟩
    have hi := (List.getElem?_eq_some_iff.1 hx2).1
    simp at hi
    rw [List.getElem?_map, List.getElem?_range hi] at hx2
    simp only [Option.map_some, Option.some.injEq] at hx2
    have hi2 := (each i).choose_spec hi
    rw [hx2] at hi2
    simp only [add_plain] at hi2
    exact hi2
end Go.Proofs.Ytcofehmgnpmecaa
