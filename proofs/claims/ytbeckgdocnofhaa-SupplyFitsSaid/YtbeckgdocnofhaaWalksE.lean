/-
  Contracts of Compare and Add of package ratio.
-/
import Derived.Test.YtbeckgdocnofhaaWalksD
import Derived.LoopN
import Derived.Test.YtbeckgdocnofhaaMathB
namespace Go.Proofs.Ytbeckgdocnofhaa
open Go.ChangeShapes Go.WideShapes Go.ChangeAt Go.RowKit

set_option maxHeartbeats 400000 in
theorem isNaN_any (x : Int) (w : World) :
    Calls Try.prog 41 #[.int .u64 x] w fun e w' => e = .returned (.bool false) ∧ w = w' := by
  go_enter Try.func41, Try.ntmps41
  go_wp2
  go_ret
  exact ⟨bool_back (by simp), rfl⟩

set_option maxHeartbeats 400000 in
theorem cmp_any (x y : Int) (w : World) :
    Calls Try.prog 33 #[.int .u64 x, .int .u64 y] w fun e w' => e = .returned (.int .i64 (Rt.sgn x y)) ∧ w = w' := by
  by_cases h1 : x < y
  · go_enter Try.func33, Try.ntmps33
    go_wp2_with (go_at_call 41; refine (isNaN_any _ _).mono ?_; rintro e w' ⟨rfl, rfl⟩)
    go_ret
    exact ⟨int_back (Rt.sgn_lt h1).symm, rfl⟩
  · by_cases h2 : y < x
    · go_enter Try.func33, Try.ntmps33
      go_wp2_with (go_at_call 41; refine (isNaN_any _ _).mono ?_; rintro e w' ⟨rfl, rfl⟩)
      go_ret
      exact ⟨int_back (Rt.sgn_gt h2).symm, rfl⟩
    · have h3 : Hid (x = y) := (by omega : x = y)
      go_enter Try.func33, Try.ntmps33
      go_wp2_with (go_at_call 41; refine (isNaN_any _ _).mono ?_; rintro e w' ⟨rfl, rfl⟩)
      go_ret
      exact ⟨int_back (Rt.sgn_eq h3.out).symm, rfl⟩

set_option maxHeartbeats 400000 in
theorem or_any (b : Nat) (x y : Int) (w : World) (hx : w.cell? ⟨b, 0, none⟩ = some (.int .i64 x)) (hy : w.cell? ⟨b, 1, none⟩ = some (.int .i64 y)) :
    Calls Try.prog 32 #[.slice (some ⟨b, 0, none⟩) 2 2] w fun e w' => e = .returned (.int .i64 (Rt.orr x y)) ∧ w = w' := by
  by_cases h : x = 0
  · subst h
    by_cases h2 : y = 0
    · subst h2
      go_enter Try.func32, Try.ntmps32
      go_wp2
      refine wp_loop_rounds 3 ?_
      rw [rounds_succ]
      go_wp2
      rw [rounds_succ]
      go_wp2
      rw [rounds_succ]
      go_wp2
      go_ret
      exact ⟨int_back (by simp [Rt.orr]), rfl⟩
    · go_enter Try.func32, Try.ntmps32
      go_wp2
      refine wp_loop_rounds 3 ?_
      rw [rounds_succ]
      go_wp2
      rw [rounds_succ]
      go_wp2
      go_ret
      exact ⟨int_back (by simp [Rt.orr]), rfl⟩
  · go_enter Try.func32, Try.ntmps32
    go_wp2
    refine wp_loop_rounds 3 ?_
    rw [rounds_succ]
    go_wp2
    go_ret
    exact ⟨int_back (by simp [Rt.orr, h]), rfl⟩

set_option maxHeartbeats 1000000 in
theorem compare_any (a b c d : Int) (w : World) (ha : 0 ≤ a) (ha2 : a < 18446744073709551616) (hb : 0 ≤ b) (hb2 : b < 18446744073709551616) (hc : 0 ≤ c) (hc2 : c < 18446744073709551616) (hd : 0 ≤ d) (hd2 : d < 18446744073709551616) :
    Calls Try.prog 27 #[.agg #[.int .u64 a, .int .u64 b], .agg #[.int .u64 c, .int .u64 d]] w fun e w' => e = .returned (.int .i64 (Rt.cmpR a b c d)) ∧ Below w.heap.size w w' := by
  by_cases h1 : b = 0
  · have e : Hid (Rt.cmpR a b c d = 0) := (Rt.cmpR_none (Or.inl h1) : Rt.cmpR a b c d = 0)
    subst h1
    go_enter Try.func27, Try.ntmps27
    go_wp2
    go_ret
    exact ⟨int_back e.out.symm, by go_grown⟩
  by_cases h2 : d = 0
  · have e : Hid (Rt.cmpR a b c d = 0) := (Rt.cmpR_none (Or.inr h2) : Rt.cmpR a b c d = 0)
    subst h2
    go_enter Try.func27, Try.ntmps27
    go_wp2
    go_ret
    exact ⟨int_back e.out.symm, by go_grown⟩
  have C1 := fun w => mul64_any a d w ha ha2 hd hd2
  have C2 := fun w => mul64_any c b w hc hc2 hb hb2
  have e : Hid (Rt.cmpR a b c d = Rt.sgn (a * d) (c * b)) := (Rt.cmpR_some h1 h2 : Rt.cmpR a b c d = Rt.sgn (a * d) (c * b))
  generalize Rt.cmpR a b c d = R at *
  generalize a * d = n at *
  generalize c * b = m at *
  have hb1 : (b == 0) = false := by simp [h1]
  have hd1 : (d == 0) = false := by simp [h2]
  have HC1 : Hid (∀ w : World, _) := C1
  have HC2 : Hid (∀ w : World, _) := C2
  clear C1 C2
  go_enter Try.func27, Try.ntmps27
  go_wp2_with fail
  refine (HC1.out _).mono ?_
  rintro e w' ⟨rfl, rfl⟩
  go_wp2_with fail
  refine (HC2.out _).mono ?_
  rintro e w' ⟨rfl, rfl⟩
  go_wp2_with fail
  refine (cmp_any _ _ _).mono ?_
  rintro e w' ⟨rfl, rfl⟩
  go_wp2_with fail
  refine (cmp_any _ _ _).mono ?_
  rintro e w' ⟨rfl, rfl⟩
  go_wp2_with fail
  refine (or_any _ (Rt.sgn (n / 18446744073709551616) (m / 18446744073709551616)) (Rt.sgn (n % 18446744073709551616) (m % 18446744073709551616)) _ (by simp [go_sem]) (by simp [go_sem])).mono ?_
  rintro e w' ⟨rfl, rfl⟩
  go_wp2
  go_ret
  exact ⟨int_back (by rw [e.out]; exact Rt.sgn_parts n m), by go_grown⟩
end Go.Proofs.Ytbeckgdocnofhaa
