/-
  The contract of the document's Compare: which of two numbers of four digits is less.
-/
import Derived.Test.YthegadplakllkaaWalksB
namespace Go.Proofs.Ythegadplakllkaa
open Go.ChangeShapes Go.WideShapes Go.ChangeAt Go.RowKit

set_option maxHeartbeats 1000000 in
theorem wcmp_any (n m : Int) (w : World) (hn : 0 ≤ n) (hn2 : n < 340282366920938463463374607431768211456) (hm : 0 ≤ m) (hm2 : m < 340282366920938463463374607431768211456) :
    Calls Try.prog 12 #[.agg #[.int .u64 (Rt.d0 n), .int .u64 (Rt.d1 n), .int .u64 (Rt.d2 n), .int .u64 (Rt.d3 n)], .agg #[.int .u64 (Rt.d0 m), .int .u64 (Rt.d1 m), .int .u64 (Rt.d2 m), .int .u64 (Rt.d3 m)]] w fun e w' => e = .returned (.int .i64 (Rt.sgn n m)) ∧ Below w.heap.size w w' := by
  have HN := Lib.hid (Rt.d_bd n hn hn2)
  have HM := Lib.hid (Rt.d_bd m hm hm2)
  have HNS := Lib.hid (Rt.d_sum n)
  have HMS := Lib.hid (Rt.d_sum m)
  generalize Rt.d0 n = n0 at *
  generalize Rt.d1 n = n1 at *
  generalize Rt.d2 n = n2 at *
  generalize Rt.d3 n = n3 at *
  generalize Rt.d0 m = m0 at *
  generalize Rt.d1 m = m1 at *
  generalize Rt.d2 m = m2 at *
  generalize Rt.d3 m = m3 at *
  go_enter Try.func12, Try.ntmps12
  go_wp2
  refine wp_loop_rounds 5 ?_
  rw [rounds_succ]
  go_wp2
  go_quiet (fail)
  by_cases h3 : n3 < m3
  · go_wp2
    go_ret
    exact ⟨int_back (Rt.sgn_lt (by have := HN.out; have := HM.out; have := HNS.out; have := HMS.out; omega)).symm, (by (repeat (refine below_drawn ?_)); go_grown)⟩
  go_wp2
  go_quiet (fail)
  by_cases g3 : m3 < n3
  · go_wp2
    go_ret
    exact ⟨int_back (Rt.sgn_gt (by have := HN.out; have := HM.out; have := HNS.out; have := HMS.out; omega)).symm, (by (repeat (refine below_drawn ?_)); go_grown)⟩
  go_wp2
  rw [rounds_succ]
  go_wp2
  go_quiet (fail)
  by_cases h2 : n2 < m2
  · go_wp2
    go_ret
    exact ⟨int_back (Rt.sgn_lt (by have := HN.out; have := HM.out; have := HNS.out; have := HMS.out; omega)).symm, (by (repeat (refine below_drawn ?_)); go_grown)⟩
  go_wp2
  go_quiet (fail)
  by_cases g2 : m2 < n2
  · go_wp2
    go_ret
    exact ⟨int_back (Rt.sgn_gt (by have := HN.out; have := HM.out; have := HNS.out; have := HMS.out; omega)).symm, (by (repeat (refine below_drawn ?_)); go_grown)⟩
  go_wp2
  rw [rounds_succ]
  go_wp2
  go_quiet (fail)
  by_cases h1 : n1 < m1
  · go_wp2
    go_ret
    exact ⟨int_back (Rt.sgn_lt (by have := HN.out; have := HM.out; have := HNS.out; have := HMS.out; omega)).symm, (by (repeat (refine below_drawn ?_)); go_grown)⟩
  go_wp2
  go_quiet (fail)
  by_cases g1 : m1 < n1
  · go_wp2
    go_ret
    exact ⟨int_back (Rt.sgn_gt (by have := HN.out; have := HM.out; have := HNS.out; have := HMS.out; omega)).symm, (by (repeat (refine below_drawn ?_)); go_grown)⟩
  go_wp2
  rw [rounds_succ]
  go_wp2
  go_quiet (fail)
  by_cases h0 : n0 < m0
  · go_wp2
    go_ret
    exact ⟨int_back (Rt.sgn_lt (by have := HN.out; have := HM.out; have := HNS.out; have := HMS.out; omega)).symm, (by (repeat (refine below_drawn ?_)); go_grown)⟩
  go_wp2
  go_quiet (fail)
  by_cases g0 : m0 < n0
  · go_wp2
    go_ret
    exact ⟨int_back (Rt.sgn_gt (by have := HN.out; have := HM.out; have := HNS.out; have := HMS.out; omega)).symm, (by (repeat (refine below_drawn ?_)); go_grown)⟩
  go_wp2
  rw [rounds_succ]
  go_wp2
  go_ret
  exact ⟨int_back (Rt.sgn_eq (by have := HN.out; have := HM.out; have := HNS.out; have := HMS.out; omega)).symm, (by (repeat (refine below_drawn ?_)); go_grown)⟩
end Go.Proofs.Ythegadplakllkaa
