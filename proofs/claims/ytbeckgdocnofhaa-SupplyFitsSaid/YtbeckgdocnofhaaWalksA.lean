/-
  Contracts of the small functions: the greatest common divisor, in the code and in the document's answers; Mul64, Add64.
-/
import Derived.Test.YtbeckgdocnofhaaRows
import Derived.Test.YtbeckgdocnofhaaMath
import Derived.Test.YtbeckgdocnofhaaKit
import Derived.Laws.BitsAll
import Derived.Laws.MathBits
import Derived.Laws.Externs
namespace Go.Proofs.Ytbeckgdocnofhaa
open Go.ChangeShapes Go.WideShapes Go.ChangeAt Go.RowKit

set_option maxHeartbeats 400000 in
theorem divisor_any (a b : Int) (w : World) (ha : 0 ≤ a) (ha2 : a < 18446744073709551616) (hb : 0 ≤ b) (hb2 : b < 18446744073709551616) :
    Calls Try.prog 29 #[.int .u64 a, .int .u64 b] w fun e w' => e = .returned (.int .u64 (Rt.gcd a b)) ∧ Below w.heap.size w w' := by
  go_enter Try.func29, Try.ntmps29
  go_wp2
  go_loopw [0, 1] (fun t u wr => ∃ x y : Int, 0 ≤ x ∧ x < 18446744073709551616 ∧ 0 ≤ y ∧ y < 18446744073709551616 ∧ t = .int .u64 x ∧ u = .int .u64 y ∧ Hid (Rt.gcd x y = Rt.gcd a b) ∧ Below w.heap.size w wr) (fun _ u _ => (intOf u).toNat)
  case atStart => exact ⟨a, b, ha, ha2, hb, hb2, rfl, rfl, (rfl : Rt.gcd a b = Rt.gcd a b), Below.refl _ _⟩
  case round =>
    obtain ⟨x, y, h1, h2, h3, h4, rfl, rfl, h5, hbl⟩ := hrel
    by_cases hy : 0 < y
    · have h6 := Int.emod_lt_of_pos x hy
      have h7 := Int.emod_nonneg x (Int.ne_of_gt hy)
      have hy0 : y ≠ 0 := Int.ne_of_gt hy
      go_wp2
      refine wp_region_later w.heap.size wr (by kernel_rfl) (by kernel_rfl) (Below.refl _ _) ?_
      repeat (go_big_quiet_step (fail))
      refine wpQuiet_nil ?_
      rintro _ ⟨n1, rfl⟩
      go_wp2
      go_roundw
      case rel => exact ⟨y, x % y, by omega, by omega, by omega, by omega, rfl, by go_num, (by rw [Rt.gcd_step x y h1 hy, h5.out] : Rt.gcd y (x % y) = Rt.gcd a b), hbl.trans n1.below⟩
      case measure => simp [intOf]; omega
    · obtain rfl : y = 0 := by omega
      go_wp2
      go_ret
      exact ⟨int_back (by rw [← h5.out, Rt.gcd_zero x h1]), hbl⟩

set_option maxHeartbeats 400000 in
theorem common_any (a b : Int) (w : World) (ha : 0 ≤ a) (ha2 : a < 18446744073709551616) (hb : 0 ≤ b) (hb2 : b < 18446744073709551616) :
    Calls Try.prog 25 #[.int .u64 a, .int .u64 b] w fun e w' => e = .returned (.int .u64 (Rt.gcd a b)) ∧ w = w' := by
  go_enter Try.func25, Try.ntmps25
  go_wp2
  go_loop [0, 1, 5] (fun t u i => ∃ (x y : Int) (k : Nat), 0 ≤ x ∧ x < 18446744073709551616 ∧ 0 ≤ y ∧ y < 18446744073709551616 ∧ k ≤ 200 ∧ t = .int .u64 x ∧ u = .int .u64 y ∧ i = .int .i64 k ∧ Hid (Rt.gcd x y = Rt.gcd a b) ∧ Hid (Rt.Far k x y)) (fun _ _ i => (200 - intOf i).toNat)
  case atStart => exact ⟨a, b, 0, ha, ha2, hb, hb2, by omega, rfl, rfl, rfl, (rfl : Rt.gcd a b = Rt.gcd a b), (Or.inl rfl : Rt.Far 0 a b)⟩
  case round =>
    obtain ⟨x, y, k, h1, h2, h3, h4, hk, rfl, rfl, rfl, h5, h8⟩ := hrel
    by_cases hy : 0 < y
    · have h6 := Int.emod_lt_of_pos x hy
      have h7 := Int.emod_nonneg x (Int.ne_of_gt hy)
      have hy0 : y ≠ 0 := Int.ne_of_gt hy
      have hkl : (k : Int) < 200 := by
        have : k ≠ 200 := fun h => by have := Rt.far_end x y h3 h1 (h ▸ h8.out); omega
        omega
      have hk0 : (0 : Int) ≤ k := by omega
      go_wp2
      go_round
      case rel => exact ⟨y, x % y, k + 1, by omega, by omega, by omega, by omega, by omega, rfl, by go_num, by go_num, (by rw [Rt.gcd_step x y h1 hy, h5.out] : Rt.gcd y (x % y) = Rt.gcd a b), (Rt.far_step k x y hy h4 h8.out : Rt.Far (k + 1) y (x % y))⟩
      case measure => simp [intOf]; omega
    · obtain rfl : y = 0 := by omega
      by_cases hkl : (k : Int) < 200
      · go_wp2
        go_ret
        exact ⟨int_back (by rw [← h5.out, Rt.gcd_zero x h1]), rfl⟩
      · go_wp2
        go_ret
        exact ⟨int_back (by rw [← h5.out, Rt.gcd_zero x h1]), rfl⟩

theorem low_mod (z : Int) : bits .and .u64 (z % 18446744073709551616) 4294967295 = z % 18446744073709551616 % 4294967296 := and_low32 _ (by omega) (by omega)

set_option maxHeartbeats 1000000 in
theorem mul64_any (x y : Int) (w : World) (hx : 0 ≤ x) (hx2 : x < 18446744073709551616) (hy : 0 ≤ y) (hy2 : y < 18446744073709551616) :
    Calls Try.prog 31 #[.int .u64 x, .int .u64 y] w fun e w' => e = .returned (.tuple #[.int .u64 (x * y / 18446744073709551616), .int .u64 (x * y % 18446744073709551616)]) ∧ w = w' := by
  go_enter Try.func31, Try.ntmps31
  go_wp2
  go_ret2
  exact ⟨two_back (by simp only [IntKind.wrap_u64, and_low32 x hx hx2, and_low32 y hy hy2, low_mod]; exact mul64_arith x y hx hx2 hy hy2) (IntKind.wrap_u64 _), rfl⟩

theorem add64_now (x y : Int) (hx : 0 ≤ x) (hy : 0 ≤ y) (w : World) : (callFunc 40 #[.int .u64 x, .int .u64 y, .int .u64 0]).run Try.prog w =
    .ok (.value (.tuple #[.int .u64 ((x + y) % 18446744073709551616), .int .u64 ((x + y) / 18446744073709551616)])) w := by
  rw [run_callFunc_extern Try.func40 (by kernel_rfl) (by kernel_rfl) (by kernel_rfl) (e := add64Entry) (by kernel_rfl), run_add64 x y 0 hx hy (by omega) (by omega)]
  simp only [Result.andThen, Int.add_zero]
end Go.Proofs.Ytbeckgdocnofhaa
