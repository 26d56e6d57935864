/-
  Contracts of what makes fractions and tells which are made so, in the code and in the document's answers.
-/
import Derived.Test.YtbeckgdocnofhaaWalksA
import Derived.Handy
import Derived.Deep.RegionWith
import Derived.RegionTactic
namespace Go.Proofs.Ytbeckgdocnofhaa
open Go.ChangeShapes Go.WideShapes Go.ChangeAt Go.RowKit

set_option maxHeartbeats 400000 in
theorem right_any (a b : Int) (w : World) (ha : 0 ≤ a) (ha2 : a < 18446744073709551616) (hb : 0 ≤ b) (hb2 : b < 18446744073709551616) :
    Calls Try.prog 38 #[.agg #[.int .u64 a, .int .u64 b]] w fun e w' => e = .returned (.bool (Rt.ok a b)) ∧ Below w.heap.size w w' := by
  by_cases h : 0 < b
  · go_enter Try.func38, Try.ntmps38
    go_wp2_with fail
    refine (divisor_any a b _ ha ha2 hb hb2).mono ?_
    rintro e w1 ⟨rfl, hbl⟩
    go_wp2
    go_ret
    exact ⟨bool_back (by rw [Bool.eq_iff_iff]; simp [Rt.ok, h]), ((Below.refl _ _).alloc (Nat.le_refl _) _).trans (hbl.mono (by simp))⟩
  · go_enter Try.func38, Try.ntmps38
    go_wp2
    go_ret
    exact ⟨bool_back (by simp [Rt.ok]; omega), by go_grown⟩

set_option maxHeartbeats 400000 in
theorem rright_any (a b : Int) (w : World) (ha : 0 ≤ a) (ha2 : a < 18446744073709551616) (hb : 0 ≤ b) (hb2 : b < 18446744073709551616) :
    Calls Try.prog 34 #[.int .u64 a, .int .u64 b] w fun e w' => e = .returned (.bool (Rt.ok a b)) ∧ w = w' := by
  by_cases h : 0 < b
  · go_enter Try.func34, Try.ntmps34
    go_wp2_with (go_at_call 25; refine (common_any a b _ ha ha2 hb hb2).mono ?_; rintro e w' ⟨rfl, rfl⟩)
    go_ret
    exact ⟨bool_back (by rw [Bool.eq_iff_iff]; simp [Rt.ok, h]), rfl⟩
  · go_enter Try.func34, Try.ntmps34
    go_wp2
    go_ret
    exact ⟨bool_back (by simp [Rt.ok]; omega), rfl⟩

set_option maxHeartbeats 400000 in
theorem of_none (a : Int) (w : World) :
    Calls Try.prog 22 #[.int .u64 a, .int .u64 0] w fun e w' => e = .returned (.tuple #[.agg #[.int .u64 0, .int .u64 0], .int .i64 1]) ∧ Below w.heap.size w w' := by
  go_enter Try.func22, Try.ntmps22
  go_wp2
  exact bodyPost_ret (v := .tuple #[.agg #[.int .u64 0, .int .u64 0], .int .i64 1]) (by simp [results, Try.results22, go_sem]) rfl ⟨rfl, by go_grown⟩

set_option maxHeartbeats 400000 in
theorem of_some (a b : Int) (w : World) (ha : 0 ≤ a) (ha2 : a < 18446744073709551616) (hb : 0 < b) (hb2 : b < 18446744073709551616) :
    Calls Try.prog 22 #[.int .u64 a, .int .u64 b] w fun e w' => e = .returned (.tuple #[.agg #[.int .u64 (a / Rt.gcd a b), .int .u64 (b / Rt.gcd a b)], .int .i64 0]) ∧ Below w.heap.size w w' := by
  have hb0 : b ≠ 0 := by omega
  have hg := Rt.gcd_pos a b hb
  have hg0 : Rt.gcd a b ≠ 0 := by omega
  obtain ⟨p1, p2⟩ := Rt.part_bd a _ ha ha2 hg
  obtain ⟨q1, q2⟩ := Rt.part_bd b _ (by omega) hb2 hg
  have C := fun w => divisor_any a b w ha ha2 (by omega) hb2
  generalize Rt.gcd a b = g at *
  go_enter Try.func22, Try.ntmps22
  go_wp2_with fail
  refine (C _).mono ?_
  clear C
  rintro e w1 ⟨rfl, hbl⟩
  replace hbl := Below.mono hbl (B' := w.heap.size + 1) (by simp)
  obtain ⟨hc, hf⟩ := old_cells hbl
  have hz := hbl.size
  simp at hz
  have hz1 : w.heap.size < w1.heap.size := by omega
  go_wp2
  go_region
  go_wp2
  refine bodyPost_ret (v := .tuple #[.agg #[.int .u64 (a / g), .int .u64 (b / g)], .int .i64 0]) (by simp [results, Try.results22, go_sem, hc]) rfl ⟨rfl, ?_⟩
  exact ((((Below.refl _ _).alloc (Nat.le_refl _) _).trans (hbl.mono (by simp))).setCell (Nat.le_refl _) _).setCell (Nat.le_refl _) _ |>.drew

set_option maxHeartbeats 400000 in
theorem make_any (a b : Int) (w : World) (ha : 0 ≤ a) (ha2 : a < 18446744073709551616) (hb : 0 < b) (hb2 : b < 18446744073709551616) :
    Calls Try.prog 15 #[.int .u64 a, .int .u64 b] w fun e w' => e = .returned (.agg #[.int .u64 (a / Rt.gcd a b), .int .u64 (b / Rt.gcd a b)]) ∧ Below w.heap.size w w' := by
  have hg := Rt.gcd_pos a b hb
  have hg0 : Rt.gcd a b ≠ 0 := by omega
  obtain ⟨p1, p2⟩ := Rt.part_bd a _ ha ha2 hg
  obtain ⟨q1, q2⟩ := Rt.part_bd b _ (by omega) hb2 hg
  have C := fun w => common_any a b w ha ha2 (by omega) hb2
  generalize Rt.gcd a b = g at *
  go_enter Try.func15, Try.ntmps15
  go_wp2_with fail
  refine (C _).mono ?_
  clear C
  rintro e w1 ⟨rfl, rfl⟩
  go_wp2
  go_region
  go_wp2
  exact bodyPost_ret (v := .agg #[.int .u64 (a / g), .int .u64 (b / g)]) (by simp [results, Try.results15, go_sem]) rfl ⟨rfl, by go_grown⟩

set_option maxHeartbeats 400000 in
theorem product_any (a b : Int) (w : World) (ha : 0 ≤ a) (ha2 : a < 18446744073709551616) (hb : 0 ≤ b) (hb2 : b < 18446744073709551616) :
    Calls Try.prog 39 #[.int .u64 a, .int .u64 b] w fun e w' => e = .returned (.tuple #[.int .u64 (a * b % 18446744073709551616), .bool (decide (a * b < 18446744073709551616))]) ∧ w = w' := by
  have h0 := Int.mul_nonneg ha hb
  go_enter Try.func39, Try.ntmps39
  go_wp2_with (go_at_call 31; refine (mul64_any a b _ ha ha2 hb hb2).mono ?_; rintro e w' ⟨rfl, rfl⟩)
  go_ret2
  exact ⟨two_back_b rfl (by rw [Bool.eq_iff_iff]; simp; omega), rfl⟩
end Go.Proofs.Ytbeckgdocnofhaa
