/-
  A fraction as it comes in to a law.
-/
import Derived.Test.YthegadplakllkaaLaw
import Derived.Lib.SmallJoins
namespace Go.Proofs.Ythegadplakllkaa
open Go.ChangeShapes Go.WideShapes Go.ChangeAt Go.RowKit Go.Joins

theorem ratio_cells : Try.prog.cellsOf 24 = 2 := by kernel_rfl

/-- A fraction, as it comes in. -/
theorem open_frac {H : Type} {enc : TypeId × Value → H} {W : World} {v : Value} {d : DataW H} {p : List MemPlace} {base : Nat}
    (hv : Value.okWide Try.prog W .any base 24 v) (h : DataW.Trod enc Try.prog W 0 (fun _ => true) true 24 v d p) :
    ∃ a b, v = .agg #[.int .u64 a, .int .u64 b] ∧ 0 ≤ a ∧ a < 18446744073709551616 ∧ 0 ≤ b ∧ b < 18446744073709551616 := by
  obtain ⟨c0, c1, y0, y1, m, rfl, -, -, hy0, hy1⟩ := open_agg2 Try.underlying24 (by kernel_rfl) ratio_cells hv h
  obtain ⟨a, e0, rfl, wa⟩ := DataW.trod_int Try.underlying22 hy0
  obtain ⟨b, e1, rfl, wb⟩ := DataW.trod_int Try.underlying22 hy1
  simp at e0 e1
  subst e0 e1
  exact ⟨a, b, rfl, (u64_bd wa).1, (u64_bd wa).2, (u64_bd wb).1, (u64_bd wb).2⟩
end Go.Proofs.Ythegadplakllkaa
