/-
  Contracts of the small functions of package field and of the document's answers to it: which fields a word has, bits, powers, the greatest number, what stands in a field.
-/
import Derived.Test.YtlnpnflmcgkfoaaRows
import Derived.Test.YtlnpnflmcgkfoaaMath
import Derived.Test.YtlnpnflmcgkfoaaLater
import Derived.Laws.BitsAll
namespace Go.Proofs.Ytlnpnflmcgkfoaa
open Go.ChangeShapes Go.WideShapes Go.ChangeAt Go.RowKit

set_option maxHeartbeats 400000 in
theorem bit_any (x i : Int) (w : World) (hx : 0 ≤ x) (hx2 : x < 18446744073709551616) (hi1 : -9223372036854775808 ≤ i) (hi : i < 9223372036854775808) :
    Calls Try.prog 13 #[.int .u64 x, .int .i64 i] w fun e w' => e = .returned (.bool (Fd.bit x i)) ∧ w = w' := by
  go_enter Try.func13, Try.ntmps13
  go_wp2
  go_loop [0, 1] (fun t u => ∃ y j : Int, 0 ≤ y ∧ y ≤ x ∧ j ≤ i ∧ -9223372036854775808 ≤ j ∧ t = .int .u64 y ∧ u = .int .i64 j ∧ Fd.bit y j = Fd.bit x i) (fun _ u => (intOf u).toNat)
  case atStart => exact ⟨x, i, hx, by omega, by omega, hi1, rfl, rfl, rfl⟩
  case round =>
    obtain ⟨y, j, h1, h2, h3, h4, rfl, rfl, h5⟩ := hrel
    have H5 := Lib.hid h5
    clear h5
    by_cases hj : 0 < j
    · go_wp2
      go_round
      case rel => exact ⟨y / 2, j - 1, by omega, by omega, by omega, by omega, rfl, rfl, by rw [Fd.bit_step _ _ hj, H5.out]⟩
      case measure => simp [intOf]; omega
    · go_wp2
      go_ret
      exact ⟨bool_back (by rw [← H5.out, Fd.bit_zero _ _ (by omega)]), rfl⟩

set_option maxHeartbeats 400000 in
theorem worth_any (i : Int) (w : World) (hi1 : -9223372036854775808 ≤ i) (hi : i < 9223372036854775808) :
    Calls Try.prog 23 #[.int .i64 i] w fun e w' => e = .returned (.int .u64 (Fd.worth i)) ∧ w = w' := by
  go_enter Try.func23, Try.ntmps23
  go_wp2
  go_loop [0, 3] (fun t u => ∃ j p : Int, j ≤ i ∧ -9223372036854775808 ≤ j ∧ 0 ≤ p ∧ p < 18446744073709551616 ∧ t = .int .i64 j ∧ u = .int .u64 p ∧ p * Fd.worth j % 18446744073709551616 = Fd.worth i) (fun t _ => (intOf t).toNat)
  case atStart => exact ⟨i, 1, by omega, hi1, by omega, by omega, rfl, rfl, by have := Fd.worth_bd i; omega⟩
  case round =>
    obtain ⟨j, p, h1, h2, h3, h4, rfl, rfl, h5⟩ := hrel
    have H5 := Lib.hid h5
    clear h5
    by_cases hj : 0 < j
    · go_wp2
      go_round
      case rel => exact ⟨j - 1, p * 2 % 18446744073709551616, by omega, by omega, by omega, by omega, rfl, by rw [IntKind.wrap_u64], by rw [Fd.worth_step _ _ hj, H5.out]⟩
      case measure => simp [intOf]; omega
    · go_wp2
      go_ret
      exact ⟨int_back (by rw [← H5.out, Fd.worth_zero _ (by omega)]; omega), rfl⟩

set_option maxHeartbeats 400000 in
theorem right_any (a s : Int) (w : World) (hs1 : -9223372036854775808 ≤ s) (hs : s < 9223372036854775808) (ha1 : -9223372036854775808 ≤ a) (ha : a < 9223372036854775808) :
    Calls Try.prog 7 #[.agg #[.int .i64 a, .int .i64 s]] w fun e w' => e = .returned (.bool (Fd.right a s)) ∧ Below w.heap.size w w' := by
  go_enter Try.func7, Try.ntmps7
  go_wp2
  all_goals (go_ret; exact ⟨bool_back (by rw [Bool.eq_iff_iff]; simp [Fd.right]; omega), (Below.refl _ _).alloc (Nat.le_refl _) _⟩)

set_option maxHeartbeats 400000 in
theorem rright_any (a s : Int) (w : World) (hs1 : -9223372036854775808 ≤ s) (hs : s < 9223372036854775808) (ha1 : -9223372036854775808 ≤ a) (ha : a < 9223372036854775808) :
    Calls Try.prog 8 #[.agg #[.int .i64 a, .int .i64 s]] w fun e w' => e = .returned (.bool (Fd.right a s)) ∧ Below w.heap.size w w' := by
  go_enter Try.func8, Try.ntmps8
  go_wp2
  all_goals (go_ret; exact ⟨bool_back (by rw [Bool.eq_iff_iff]; simp [Fd.right]; omega), (Below.refl _ _).alloc (Nat.le_refl _) _⟩)

set_option maxHeartbeats 400000 in
theorem most_any (a s : Int) (w : World) (hs1 : -9223372036854775808 ≤ s) (hs : s < 9223372036854775808) (ha1 : -9223372036854775808 ≤ a) (ha : a < 9223372036854775808) :
    Calls Try.prog 9 #[.agg #[.int .i64 a, .int .i64 s]] w fun e w' => e = .returned (.int .u64 (Fd.most a s)) ∧ Below w.heap.size w w' := by
  go_enter Try.func9, Try.ntmps9
  go_wp2_with fail
  refine (right_any _ _ _ hs1 hs ha1 ha).mono ?_
  rintro e w1 ⟨rfl, hb⟩
  obtain ⟨hc, hf⟩ := old_cells hb
  simp at hc hf
  by_cases hr : Fd.right a s = true
  · have hr' := hr
    simp [Fd.right] at hr'
    go_wp2
    go_ret
    exact ⟨int_back (Fd.most_eq a s hr), ((Below.refl _ _).alloc (Nat.le_refl _) _).trans (hb.mono (by simp))⟩
  · simp at hr
    go_wp2
    go_ret
    exact ⟨int_back (by simp [Fd.most, hr]), ((Below.refl _ _).alloc (Nat.le_refl _) _).trans (hb.mono (by simp))⟩

set_option maxHeartbeats 400000 in
theorem rmost_any (a s : Int) (w : World) (hs1 : -9223372036854775808 ≤ s) (hs : s < 9223372036854775808) (ha1 : -9223372036854775808 ≤ a) (ha : a < 9223372036854775808) :
    Calls Try.prog 10 #[.agg #[.int .i64 a, .int .i64 s]] w fun e w' => e = .returned (.int .u64 (Fd.most a s)) ∧ Below w.heap.size w w' := by
  go_enter Try.func10, Try.ntmps10
  go_wp2_with fail
  refine (rright_any _ _ _ hs1 hs ha1 ha).mono ?_
  rintro e w1 ⟨rfl, hb⟩
  obtain ⟨hc, hf⟩ := old_cells hb
  simp at hc hf
  by_cases hr : Fd.right a s = true
  · have hr' := hr
    simp [Fd.right] at hr'
    go_wp2_with (go_at_call 23; refine (worth_any _ _ (by omega) (by omega)).mono ?_; rintro e w' ⟨rfl, rfl⟩)
    go_ret
    exact ⟨int_back (Fd.rmost_eq a s hr), ((Below.refl _ _).alloc (Nat.le_refl _) _).trans (hb.mono (by simp))⟩
  · simp at hr
    go_wp2
    go_ret
    exact ⟨int_back (by simp [Fd.most, hr]), ((Below.refl _ _).alloc (Nat.le_refl _) _).trans (hb.mono (by simp))⟩

set_option maxHeartbeats 400000 in
theorem get_any (a s x : Int) (w : World) (hs1 : -9223372036854775808 ≤ s) (hs : s < 9223372036854775808) (ha1 : -9223372036854775808 ≤ a) (ha : a < 9223372036854775808) (hx1 : 0 ≤ x) (hx2 : x < 18446744073709551616) :
    Calls Try.prog 11 #[.agg #[.int .i64 a, .int .i64 s], .int .u64 x] w fun e w' => e = .returned (.int .u64 (Fd.get a s x)) ∧ Below w.heap.size w w' := by
  go_enter Try.func11, Try.ntmps11
  go_wp2_with fail
  refine (right_any _ _ _ hs1 hs ha1 ha).mono ?_
  rintro e w1 ⟨rfl, hb⟩
  obtain ⟨hc, hf⟩ := old_cells hb
  simp at hc hf
  by_cases hr : Fd.right a s = true
  · have hr' := hr
    simp [Fd.right] at hr'
    go_wp2
    refine wp_region_later (w.heap.size + 1) w1 (by kernel_rfl) (by kernel_rfl) (Below.refl _ _) ?_
    repeat (go_big_quiet_step ((refine Calls.later ?_ (most_any _ _ _ hs1 hs ha1 ha); have := hb.size; simpa using this)))
    refine wpQuiet_nil ?_
    rintro _ ⟨n2, rfl⟩
    go_wp2
    go_ret
    exact ⟨int_back (Fd.get_eq a s x hr hx1 hx2), (((Below.refl _ _).alloc (Nat.le_refl _) _).trans (hb.mono (by simp))).trans (n2.below.mono (by simp))⟩
  · simp at hr
    go_wp2
    go_ret
    exact ⟨int_back (by simp [Fd.get, hr]), ((Below.refl _ _).alloc (Nat.le_refl _) _).trans (hb.mono (by simp))⟩

set_option maxHeartbeats 400000 in
theorem rget_any (a s x : Int) (w : World) (hs1 : -9223372036854775808 ≤ s) (hs : s < 9223372036854775808) (ha1 : -9223372036854775808 ≤ a) (ha : a < 9223372036854775808) (hx1 : 0 ≤ x) (hx2 : x < 18446744073709551616) :
    Calls Try.prog 12 #[.agg #[.int .i64 a, .int .i64 s], .int .u64 x] w fun e w' => e = .returned (.int .u64 (Fd.get a s x)) ∧ Below w.heap.size w w' := by
  go_enter Try.func12, Try.ntmps12
  go_wp2
  by_cases hr : Fd.right a s = true
  · have hr' := hr
    simp [Fd.right] at hr'
    have hd := Fd.div_bd x a.toNat hx1 hx2
    go_loopw [5, 6] (fun n i wr => ∃ k : Nat, (k : Int) ≤ s ∧ i = .int .i64 k ∧ n = .int .u64 (x / 2 ^ a.toNat % 2 ^ k) ∧ Below (w.heap.size + 1) (w.alloc (.cells #[.int .i64 a, .int .i64 s] 23)) wr) (fun _ i _ => (64 - intOf i).toNat)
    case atStart => exact ⟨0, by omega, rfl, by simp [Int.emod_one], Below.refl _ _⟩
    case round =>
      obtain ⟨k, hk, rfl, rfl, hb⟩ := hrel
      obtain ⟨hc, hf⟩ := old_cells hb
      have hz := hb.size
      simp at hz
      have hk0 : (0 : Int) ≤ k := by omega
      by_cases hlt : (k : Int) < s
      · have hstep := Lib.hid (Fd.low_step (x / 2 ^ a.toNat) k hd.1)
        have hsm := Lib.hid (Fd.worth_small k (by omega))
        have hm := Lib.hid (Fd.low_bd (x / 2 ^ a.toNat) k hd.1 (by omega))
        have hbs := Lib.hid (Fd.bit_shift x a k (by omega))
        clear hd
        go_wp2_with (first
          | (go_at_call 8; refine (rright_any _ _ _ hs1 hs ha1 ha).mono ?_; rintro e w2 ⟨rfl, hb2⟩; have hb3 := hb.trans (hb2.mono hz); obtain ⟨hc2, hf2⟩ := old_cells hb3)
          | (go_at_call 13; refine (bit_any _ _ _ hx1 hx2 (by omega) (by omega)).mono ?_; rintro e w' ⟨rfl, rfl⟩)
          | (go_at_call 23; refine (worth_any _ _ (by omega) (by omega)).mono ?_; rintro e w' ⟨rfl, rfl⟩))
        · have hbit : Fd.bit x (a + ↑k) = true := by assumption
          go_roundw
          case rel => exact ⟨k + 1, by omega, by go_num, congrArg (Value.int .u64) (Fd.low_set hstep.out hbs.out hbit hsm.out hm.out), hb3⟩
          case measure => simp [intOf]; omega
        · have hbit : Fd.bit x (a + ↑k) = false := by assumption
          go_roundw
          case rel => exact ⟨k + 1, by omega, by go_num, congrArg (Value.int .u64) (Fd.low_unset hstep.out hbs.out hbit), hb3⟩
          case measure => simp [intOf]; omega
      · have hks : (k : Int) = s := by omega
        have Hks := Lib.hid hks
        clear hks
        go_wp2_with (first
          | (go_at_call 8; refine (rright_any _ _ _ hs1 hs ha1 ha).mono ?_; rintro e w2 ⟨rfl, hb2⟩; have hb3 := hb.trans (hb2.mono hz); obtain ⟨hc2, hf2⟩ := old_cells hb3))
        go_ret
        exact ⟨int_back (Fd.low_end hr Hks.out), ((Below.refl _ _).alloc (Nat.le_refl _) _).trans (hb3.mono (by simp))⟩
  · simp at hr
    go_loopw [5, 6] (fun n i wr => i = .int .i64 0 ∧ n = .int .u64 0 ∧ wr = w.alloc (.cells #[.int .i64 a, .int .i64 s] 23)) (fun _ i _ => 0)
    case atStart => exact ⟨rfl, rfl, rfl⟩
    case round =>
      obtain ⟨rfl, rfl, rfl⟩ := hrel
      go_wp2_with (first
        | (go_at_call 8; refine (rright_any _ _ _ hs1 hs ha1 ha).mono ?_; rintro e w2 ⟨rfl, hb2⟩; obtain ⟨hc2, hf2⟩ := old_cells hb2))
      go_ret
      exact ⟨int_back (by simp [Fd.get, hr]), ((Below.refl _ _).alloc (Nat.le_refl _) _).trans (hb2.mono (by simp))⟩
end Go.Proofs.Ytlnpnflmcgkfoaa
