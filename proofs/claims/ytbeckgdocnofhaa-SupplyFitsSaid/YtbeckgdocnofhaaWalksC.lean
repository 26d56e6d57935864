/-
  Contracts of the document's numbers of four digits, more: a sum, one that is a word.
-/
import Derived.Test.YtbeckgdocnofhaaWalksB
namespace Go.Proofs.Ytbeckgdocnofhaa
open Go.ChangeShapes Go.WideShapes Go.ChangeAt Go.RowKit

set_option maxHeartbeats 1000000 in
theorem word_any (n : Int) (w : World) (hn : 0 ≤ n) (hn2 : n < 340282366920938463463374607431768211456) :
    Calls Try.prog 36 #[.agg #[.int .u64 (Rt.d0 n), .int .u64 (Rt.d1 n), .int .u64 (Rt.d2 n), .int .u64 (Rt.d3 n)]] w fun e w' => e = .returned (.tuple #[.int .u64 (n % 18446744073709551616), .bool (decide (n < 18446744073709551616))]) ∧ Below w.heap.size w w' := by
  have HN := Lib.hid (Rt.d_bd n hn hn2)
  have HNS := Lib.hid (Rt.d_sum n)
  obtain ⟨⟨a1, a2⟩, ⟨b1, b2⟩, ⟨c1, c2⟩, d1, d2⟩ := HN.out
  generalize Rt.d0 n = n0 at *
  generalize Rt.d1 n = n1 at *
  generalize Rt.d2 n = n2 at *
  generalize Rt.d3 n = n3 at *
  by_cases h2 : n2 = 0
  · subst h2
    go_enter Try.func36, Try.ntmps36
    go_wp2
    go_quiet (fail)
    go_wp2
    go_ret2
    exact ⟨two_back_b (by have := HNS.out; omega) (by have := HNS.out; rw [Bool.eq_iff_iff]; simp; omega), (by (repeat (refine below_drawn ?_)); go_grown)⟩
  · go_enter Try.func36, Try.ntmps36
    go_wp2
    go_quiet (fail)
    go_wp2
    go_ret2
    exact ⟨two_back_b (by have := HNS.out; simp only [IntKind.wrap_u64]; omega) (by have := HNS.out; rw [Bool.eq_iff_iff]; simp; omega), (by (repeat (refine below_drawn ?_)); go_grown)⟩

set_option maxHeartbeats 1000000 in
theorem plus_any (n m : Int) (w : World) (hn : 0 ≤ n) (hn2 : n < 340282366920938463463374607431768211456) (hm : 0 ≤ m) (hm2 : m < 340282366920938463463374607431768211456) :
    Calls Try.prog 37 #[.agg #[.int .u64 (Rt.d0 n), .int .u64 (Rt.d1 n), .int .u64 (Rt.d2 n), .int .u64 (Rt.d3 n)], .agg #[.int .u64 (Rt.d0 m), .int .u64 (Rt.d1 m), .int .u64 (Rt.d2 m), .int .u64 (Rt.d3 m)]] w fun e w' => e = .returned (.agg #[.int .u64 (Rt.d0 ((n + m) % 340282366920938463463374607431768211456)), .int .u64 (Rt.d1 ((n + m) % 340282366920938463463374607431768211456)), .int .u64 (Rt.d2 ((n + m) % 340282366920938463463374607431768211456)), .int .u64 (Rt.d3 ((n + m) % 340282366920938463463374607431768211456))]) ∧ Below w.heap.size w w' := by
  have HNS := Lib.hid (Rt.d_sum n)
  have HMS := Lib.hid (Rt.d_sum m)
  obtain ⟨⟨na1, na2⟩, ⟨nb1, nb2⟩, ⟨nc1, nc2⟩, nd1, nd2⟩ := Rt.d_bd n hn hn2
  obtain ⟨⟨ma1, ma2⟩, ⟨mb1, mb2⟩, ⟨mc1, mc2⟩, md1, md2⟩ := Rt.d_bd m hm hm2
  generalize Rt.d0 n = n0 at *
  generalize Rt.d1 n = n1 at *
  generalize Rt.d2 n = n2 at *
  generalize Rt.d3 n = n3 at *
  generalize Rt.d0 m = m0 at *
  generalize Rt.d1 m = m1 at *
  generalize Rt.d2 m = m2 at *
  generalize Rt.d3 m = m3 at *
  go_enter Try.func37, Try.ntmps37
  go_wp2
  refine wp_loop_rounds 5 ?_
  rw [rounds_succ]
  go_wp2
  go_quiet (fail)
  go_wp2
  rw [rounds_succ]
  obtain ⟨o0, ho0⟩ : ∃ o, o = (n0 + m0) % 4294967296 := ⟨_, rfl⟩
  obtain ⟨c0, hc0⟩ : ∃ o, o = (n0 + m0) / 4294967296 := ⟨_, rfl⟩
  rw [← ho0, ← hc0]
  have c0a : 0 ≤ c0 := by omega
  have c0b : c0 ≤ 1 := by omega
  have Ho0 := Lib.hid ho0
  have Hc0 := Lib.hid hc0
  clear ho0 hc0
  go_wp2
  go_quiet (fail)
  go_wp2
  rw [rounds_succ]
  obtain ⟨o1, ho1⟩ : ∃ o, o = (n1 + m1 + c0) % 4294967296 := ⟨_, rfl⟩
  obtain ⟨c1, hc1⟩ : ∃ o, o = (n1 + m1 + c0) / 4294967296 := ⟨_, rfl⟩
  rw [← ho1, ← hc1]
  have c1a : 0 ≤ c1 := by omega
  have c1b : c1 ≤ 1 := by omega
  have Ho1 := Lib.hid ho1
  have Hc1 := Lib.hid hc1
  clear ho1 hc1
  go_wp2
  go_quiet (fail)
  go_wp2
  rw [rounds_succ]
  obtain ⟨o2, ho2⟩ : ∃ o, o = (n2 + m2 + c1) % 4294967296 := ⟨_, rfl⟩
  obtain ⟨c2, hc2⟩ : ∃ o, o = (n2 + m2 + c1) / 4294967296 := ⟨_, rfl⟩
  rw [← ho2, ← hc2]
  have c2a : 0 ≤ c2 := by omega
  have c2b : c2 ≤ 1 := by omega
  have Ho2 := Lib.hid ho2
  have Hc2 := Lib.hid hc2
  clear ho2 hc2
  go_wp2
  go_quiet (fail)
  go_wp2
  rw [rounds_succ]
  obtain ⟨o3, ho3⟩ : ∃ o, o = (n3 + m3 + c2) % 4294967296 := ⟨_, rfl⟩
  rw [← ho3]
  have Ho3 := Lib.hid ho3
  clear ho3
  go_wp2
  obtain ⟨e0, e1, e2, e3⟩ := Rt.plus_digits HNS.out HMS.out Ho0.out Hc0.out Ho1.out Hc1.out Ho2.out Hc2.out Ho3.out
  rw [e0, e1, e2, e3]
  refine bodyPost_ret (v := .agg #[.int .u64 (Rt.d0 ((n + m) % 340282366920938463463374607431768211456)), .int .u64 (Rt.d1 ((n + m) % 340282366920938463463374607431768211456)), .int .u64 (Rt.d2 ((n + m) % 340282366920938463463374607431768211456)), .int .u64 (Rt.d3 ((n + m) % 340282366920938463463374607431768211456))]) ?_ rfl ⟨rfl, ?_⟩
  · simp [results, Try.results37, go_sem]
  · repeat (refine below_drawn ?_)
    go_grown
end Go.Proofs.Ytbeckgdocnofhaa
