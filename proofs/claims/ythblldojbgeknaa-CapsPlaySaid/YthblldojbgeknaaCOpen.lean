/-
  A list of acts, and bytes, as they come in to a law.
-/
import Derived.Test.YthblldojbgeknaaOpens
import Derived.Deep.Slices
import Derived.Lib.SmallJoins
namespace Go.Proofs.Ythblldojbgeknaa
open Go.ChangeShapes Go.WideShapes Go.ChangeAt Go.RowKit Go.Deep Go.Joins

/-- An act: which, Env, Slot, Other, To, N, and a capability. -/
structure Ac where
  kd : Int
  e : Int
  s : Int
  t : Int
  u : Int
  n : Int
  k : Int
  o : Int
  r : Int
def acells (x : Ac) : List Value := [.int .i64 x.kd, .int .i64 x.e, .int .i64 x.s, .int .i64 x.t, .int .i64 x.u, .int .i64 x.n, .int .i64 x.k, .int .i64 x.o, .int .i64 x.r]
/-- A list of acts, as it comes in. -/
def Acs (B : Nat) (w : World) (A : Option Addr) (l : List Ac) : Prop := 0 < l.length → ∃ b o, A = some ⟨b, o, none⟩ ∧ b < B ∧ ∀ i x, l[i]? = some x → x.n < 9223372036854775808 ∧ ∀ j u, (acells x)[j]? = some u → w.cell? ⟨b, o + i * 9 + j, none⟩ = some u
theorem act_cells : Try.prog.cellsOf 39 = 9 := by kernel_rfl
theorem cap_cells3 : Try.prog.cellsOf 37 = 3 := by kernel_rfl
theorem i64_high {n : Int} (h : (Lit.int .i64 n).wf = true) : n < 9223372036854775808 := by
  simp [Lit.wf, IntKind.min, IntKind.max, IntKind.signed, IntKind.bits] at h
  omega
theorem u8_nat {n : Int} (h : (Lit.int .u8 n).wf = true) : ∃ m : Nat, n = (m : Int) ∧ m < 256 := by
  simp [Lit.wf, IntKind.min, IntKind.max, IntKind.signed, IntKind.bits] at h
  exact ⟨n.toNat, by omega, by omega⟩

set_option maxRecDepth 100000 in
set_option maxHeartbeats 1000000 in
/-- A list of acts, as it comes in. -/
theorem open_acts {H : Type} {enc : TypeId × Value → H} {W : World} {v : Value} {d : DataW H} {p : List MemPlace} {base : Nat}
    (hv : Value.okWide Try.prog W .any base 22 v) (h : DataW.Trod enc Try.prog W 0 (fun _ => true) true 22 v d p) :
    ∃ A n c l, v = .slice A n c ∧ l.length = n ∧ Acs W.heap.size W A l := by
  obtain ⟨a0, len, cap, rfl⟩ := okWide_slice Try.underlying22 hv
  obtain ⟨fuel, hf⟩ := h
  rcases open_slice Try.underlying22 hf with ⟨hcs, -⟩ | ⟨a, len', cap', m, k, D, Pl, hcs, -, hl, -, hm, -, hx⟩
  · simp [Value.cells] at hcs
    obtain ⟨rfl, rfl, rfl⟩ := hcs
    exact ⟨none, 0, 0, [], rfl, rfl, fun hn => by simp at hn⟩
  · simp [Value.cells] at hcs
    obtain ⟨rfl, rfl, rfl⟩ := hcs
    simp at hm
    subst hm
    have each : ∀ i, ∃ q : Ac, i < len → q.n < 9223372036854775808 ∧ ∀ j u, (acells q)[j]? = some u → W.cell? ((a.add (i * 9)).add j) = some u := by
      intro i
      by_cases hi : i < len
      · obtain ⟨cs, hc, ht⟩ := hx i (by omega)
        rw [act_cells] at hc
        obtain ⟨-, hlen, hat⟩ := World.cells?_some hc
        obtain ⟨ys, n2, -, -, -, hyl, hfl⟩ := DataW.trod_struct Try.underlying39 ht
        match ys, hyl, cs, hlen with
        | [y0, y1, y2, y3, y4, y5, y6], _, [v0, v1, v2, v3, v4, v5, v6, v7, v8], _ =>
          have g0 := hfl 0 _ rfl
          have g1 := hfl 1 _ rfl
          have g2 := hfl 2 _ rfl
          have g3 := hfl 3 _ rfl
          have g4 := hfl 4 _ rfl
          have g5 := hfl 5 _ rfl
          have g6 := hfl 6 _ rfl
          simp [int_cells, cap_cells3] at g0 g1 g2 g3 g4 g5 g6
          obtain ⟨zs, n3, -, -, -, hzl, hfz⟩ := DataW.trod_struct Try.underlying37 g6
          match zs, hzl with
          | [z0, z1, z2], _ =>
            have k0 := hfz 0 _ rfl
            have k1 := hfz 1 _ rfl
            have k2 := hfz 2 _ rfl
            simp [int_cells] at k0 k1 k2
            obtain ⟨x0, e0, -, -⟩ := DataW.trod_int Try.underlying3 g0
            obtain ⟨x1, e1, -, -⟩ := DataW.trod_int Try.underlying3 g1
            obtain ⟨x2, e2, -, -⟩ := DataW.trod_int Try.underlying3 g2
            obtain ⟨x3, e3, -, -⟩ := DataW.trod_int Try.underlying3 g3
            obtain ⟨x4, e4, -, -⟩ := DataW.trod_int Try.underlying3 g4
            obtain ⟨x5, e5, -, hw5⟩ := DataW.trod_int Try.underlying3 g5
            obtain ⟨x6, e6, -, -⟩ := DataW.trod_int Try.underlying3 k0
            obtain ⟨x7, e7, -, -⟩ := DataW.trod_int Try.underlying3 k1
            obtain ⟨x8, e8, -, -⟩ := DataW.trod_int Try.underlying3 k2
            simp at e0 e1 e2 e3 e4 e5 e6 e7 e8
            subst e0 e1 e2 e3 e4 e5 e6 e7 e8
            refine ⟨⟨x0, x1, x2, x3, x4, x5, x6, x7, x8⟩, fun _ => ⟨i64_high hw5, fun j u hu => ?_⟩⟩
            have hj := (List.getElem?_eq_some_iff.1 hu).1
            have hj9 : j < 9 := hj
            exact (hat j (by simpa using hj9)).trans hu
      · exact ⟨⟨0, 0, 0, 0, 0, 0, 0, 0, 0⟩, fun h => absurd h hi⟩
    refine ⟨some a, len, _, (List.range len).map fun i => (each i).choose, rfl, by simp, fun hn => ?_⟩
    simp at hn
    obtain ⟨b, off, spot⟩ := a
    have h0 := ((each 0).choose_spec hn).2 0 _ rfl
    have hspot : spot = none := by simpa [Addr.add] using World.cell?_spot h0
    subst hspot
    have hb := World.block_lt_of_cell? W _ h0
    refine ⟨b, off, rfl, by simpa [add_plain] using hb, fun i x hx2 => ?_⟩
    have hi := (List.getElem?_eq_some_iff.1 hx2).1
    simp at hi
    rw [List.getElem?_map, List.getElem?_range hi] at hx2
    simp only [Option.map_some, Option.some.injEq] at hx2
    have hi2 := (each i).choose_spec hi
    rw [hx2] at hi2
    simp only [add_plain] at hi2
    exact hi2
end Go.Proofs.Ythblldojbgeknaa
