/-
  Contracts of the document's numbers of four digits.
-/
import Derived.Test.YtbeckgdocnofhaaWalksA
import Derived.LoopN
import Derived.BigQuiet
import Derived.Handy
namespace Go.Proofs.Ytbeckgdocnofhaa
open Go.ChangeShapes Go.WideShapes Go.ChangeAt Go.RowKit

set_option maxHeartbeats 400000 in
theorem digits_any (n : Int) (w : World) (hn : 0 ≤ n) (hn2 : n < 18446744073709551616) :
    Calls Try.prog 42 #[.int .u64 n] w fun e w' => e = .returned (.agg #[.int .u64 (n % 4294967296), .int .u64 (n / 4294967296), .int .u64 0, .int .u64 0]) ∧ Below w.heap.size w w' := by
  go_enter Try.func42, Try.ntmps42
  go_wp2
  simp [bodyPost, results, Try.results42, go_sem]
  exact (Below.refl _ _).alloc (Nat.le_refl _) _

set_option maxHeartbeats 8000000 in
theorem times_any (x y : Int) (w : World) (hx : 0 ≤ x) (hx2 : x < 18446744073709551616) (hy : 0 ≤ y) (hy2 : y < 18446744073709551616) :
    Calls Try.prog 35 #[.int .u64 x, .int .u64 y] w fun e w' => e = .returned (.agg #[.int .u64 (Rt.d0 (x * y)), .int .u64 (Rt.d1 (x * y)), .int .u64 (Rt.d2 (x * y)), .int .u64 (Rt.d3 (x * y))]) ∧ Below w.heap.size w w' := by
  go_enter Try.func35, Try.ntmps35
  go_wp2_with fail
  refine (digits_any x _ hx hx2).mono ?_
  rintro e w1 ⟨rfl, hb⟩
  replace hb := Below.mono hb (B' := w.heap.size + 1) (by simp)
  obtain ⟨hc, hf⟩ := old_cells hb
  have hz := hb.size
  simp at hz
  go_wp2_with fail
  refine (digits_any y _ hy hy2).mono ?_
  rintro e w2 ⟨rfl, hb2⟩
  replace hb2 := hb.trans (hb2.mono (B' := w.heap.size + 1) hz)
  clear hc hf hb
  obtain ⟨hc, hf⟩ := old_cells hb2
  have hz := hb2.size
  simp at hz
  have hz1 : w.heap.size < w2.heap.size := by omega
  have hz2 : w.heap.size ≤ w2.heap.size := by omega
  have hz3 : w.heap.size ≤ w2.heap.size + 1 := by omega
  have hz4 : w.heap.size < w2.heap.size + 1 := by omega
  have hz5 : w.heap.size < w2.heap.size + 1 + 1 := by omega
  obtain ⟨x0, hx0⟩ : ∃ x0, x0 = x % 4294967296 := ⟨_, rfl⟩
  obtain ⟨x1, hx1⟩ : ∃ x1, x1 = x / 4294967296 := ⟨_, rfl⟩
  obtain ⟨y0, hy0⟩ : ∃ y0, y0 = y % 4294967296 := ⟨_, rfl⟩
  obtain ⟨y1, hy1⟩ : ∃ y1, y1 = y / 4294967296 := ⟨_, rfl⟩
  rw [← hx0, ← hx1, ← hy0, ← hy1]
  have x0a : 0 ≤ x0 := by omega
  have x0b : x0 ≤ 4294967295 := by omega
  have x1a : 0 ≤ x1 := by omega
  have x1b : x1 ≤ 4294967295 := by omega
  have y0a : 0 ≤ y0 := by omega
  have y0b : y0 ≤ 4294967295 := by omega
  have y1a : 0 ≤ y1 := by omega
  have y1b : y1 ≤ 4294967295 := by omega
  have Hx0 := Lib.hid hx0
  have Hx1 := Lib.hid hx1
  have Hy0 := Lib.hid hy0
  have Hy1 := Lib.hid hy1
  clear hx0 hx1 hy0 hy1
  obtain ⟨a1, a2⟩ := prod_bound x0 y0 x0a x0b y0a y0b
  obtain ⟨b1, b2⟩ := prod_bound x0 y1 x0a x0b y1a y1b
  obtain ⟨c1, c2⟩ := prod_bound x1 y0 x1a x1b y0a y0b
  obtain ⟨d1, d2⟩ := prod_bound x1 y1 x1a x1b y1a y1b
  go_wp2
  refine wp_loop_rounds 3 ?_
  rw [rounds_succ]
  go_wp2
  refine wp_loop_rounds 3 ?_
  rw [rounds_succ]
  go_wp2
  go_quiet (fail)
  go_wp2
  rw [rounds_succ]
  go_wp2
  go_quiet (fail)
  go_wp2
  rw [rounds_succ]
  go_wp2
  rw [rounds_succ]
  obtain ⟨o0, ho0⟩ : ∃ o, o = x0 * y0 % 4294967296 := ⟨_, rfl⟩
  obtain ⟨o1, ho1⟩ : ∃ o, o = (x0 * y1 + x0 * y0 / 4294967296) % 4294967296 := ⟨_, rfl⟩
  obtain ⟨o2, ho2⟩ : ∃ o, o = (x0 * y1 + x0 * y0 / 4294967296) / 4294967296 := ⟨_, rfl⟩
  rw [← ho0, ← ho1, ← ho2]
  have o0a : 0 ≤ o0 := by omega
  have o0b : o0 ≤ 4294967295 := by omega
  have o1a : 0 ≤ o1 := by omega
  have o1b : o1 ≤ 4294967295 := by omega
  have o2a : 0 ≤ o2 := by omega
  have o2b : o2 ≤ 4294967295 := by omega
  have Ho0 := Lib.hid ho0
  have Ho1 := Lib.hid ho1
  have Ho2 := Lib.hid ho2
  clear ho0 ho1 ho2
  go_wp2
  refine wp_loop_rounds 3 ?_
  rw [rounds_succ]
  go_wp2
  go_quiet (fail)
  go_wp2
  rw [rounds_succ]
  obtain ⟨o3, ho3⟩ : ∃ o, o = (x1 * y0 + o1) % 4294967296 := ⟨_, rfl⟩
  obtain ⟨o4, ho4⟩ : ∃ o, o = (x1 * y0 + o1) / 4294967296 := ⟨_, rfl⟩
  rw [← ho3, ← ho4]
  have o3a : 0 ≤ o3 := by omega
  have o3b : o3 ≤ 4294967295 := by omega
  have o4a : 0 ≤ o4 := by omega
  have o4b : o4 ≤ 4294967295 := by omega
  have Ho3 := Lib.hid ho3
  have Ho4 := Lib.hid ho4
  clear ho3 ho4
  go_wp2
  go_quiet (fail)
  go_wp2
  rw [rounds_succ]
  go_wp2
  rw [rounds_succ]
  go_wp2
  obtain ⟨e0, e1, e2, e3⟩ := Rt.times_digits Hx0.out Hx1.out Hy0.out Hy1.out Ho0.out Ho1.out Ho2.out Ho3.out Ho4.out
  rw [e0, e1, e2, e3]
  refine bodyPost_ret (v := .agg #[.int .u64 (Rt.d0 (x * y)), .int .u64 (Rt.d1 (x * y)), .int .u64 (Rt.d2 (x * y)), .int .u64 (Rt.d3 (x * y))]) ?_ rfl ⟨rfl, ?_⟩
  · simp [results, Try.results35, go_sem, hz1, hz4, hz5, hc]
  · refine Below.trans (b := w2) (((Below.refl _ _).alloc (Nat.le_refl _) _).trans (hb2.mono (by simp))) ?_
    exact (by (repeat (refine below_drawn ?_)); go_grown)
end Go.Proofs.Ytbeckgdocnofhaa
