/-
  Contracts, more: a field read with its sign, masks, numbers put in fields, the chapter's example.
-/
import Derived.Test.YtlnpnflmcgkfoaaWalksA
import Derived.Test.YtlnpnflmcgkfoaaMathC
import Derived.Handy
import Derived.Deep.RegionWith
namespace Go.Proofs.Ytlnpnflmcgkfoaa
open Go.ChangeShapes Go.WideShapes Go.ChangeAt Go.RowKit

set_option maxHeartbeats 400000 in
theorem signed_any (a s x : Int) (w : World) (hs1 : -9223372036854775808 ≤ s) (hs : s < 9223372036854775808) (ha1 : -9223372036854775808 ≤ a) (ha : a < 9223372036854775808) (hx1 : 0 ≤ x) (hx2 : x < 18446744073709551616) :
    Calls Try.prog 14 #[.agg #[.int .i64 a, .int .i64 s], .int .u64 x] w fun e w' => e = .returned (.int .i64 (Fd.signed a s x)) ∧ Below w.heap.size w w' := by
  go_enter Try.func14, Try.ntmps14
  go_wp2_with fail
  refine (right_any _ _ _ hs1 hs ha1 ha).mono ?_
  rintro e w1 ⟨rfl, hb⟩
  replace hb := Below.mono hb (B' := w.heap.size + 1) (by simp)
  obtain ⟨hc, hf⟩ := old_cells hb
  have hz := hb.size
  simp at hz
  by_cases hr : Fd.right a s = true
  · have hr' := hr
    simp [Fd.right] at hr'
    have HG := Lib.hid (Fd.get_bd a s x hx1 hx2)
    go_wp2_with fail
    refine (get_any _ _ _ _ hs1 hs ha1 ha hx1 hx2).mono ?_
    rintro e w2 ⟨rfl, hb2⟩
    go_wp2
    go_ret
    exact ⟨int_back (by rw [← IntWalk.i64_left]; exact Fd.signed_code a s x hr), (((Below.refl _ _).alloc (Nat.le_refl _) _).trans (hb.mono (by simp))).trans (hb2.mono (by omega))⟩
  · simp at hr
    go_wp2
    go_ret
    exact ⟨int_back (by simp [Fd.signed, hr]), ((Below.refl _ _).alloc (Nat.le_refl _) _).trans (hb.mono (by simp))⟩

set_option maxHeartbeats 400000 in
theorem mask_any (a s : Int) (w : World) (hs1 : -9223372036854775808 ≤ s) (hs : s < 9223372036854775808) (ha1 : -9223372036854775808 ≤ a) (ha : a < 9223372036854775808) :
    Calls Try.prog 24 #[.agg #[.int .i64 a, .int .i64 s]] w fun e w' => e = .returned (.int .u64 (Fd.mask a s)) ∧ Below w.heap.size w w' := by
  go_enter Try.func24, Try.ntmps24
  go_wp2_with fail
  refine (right_any _ _ _ hs1 hs ha1 ha).mono ?_
  rintro e w1 ⟨rfl, hb⟩
  replace hb := Below.mono hb (B' := w.heap.size + 1) (by simp)
  obtain ⟨hc, hf⟩ := old_cells hb
  have hz := hb.size
  simp at hz
  by_cases hr : Fd.right a s = true
  · have hr' := hr
    simp [Fd.right] at hr'
    go_wp2
    refine wp_region_later (w.heap.size + 1) w1 (by kernel_rfl) (by kernel_rfl) (Below.refl _ _) ?_
    repeat (go_big_quiet_step ((refine Calls.later ?_ (most_any _ _ _ hs1 hs ha1 ha); omega)))
    refine wpQuiet_nil ?_
    rintro _ ⟨n2, rfl⟩
    go_wp2
    go_ret
    exact ⟨int_back (Fd.mask_code a s hr), (((Below.refl _ _).alloc (Nat.le_refl _) _).trans (hb.mono (by simp))).trans (n2.below.mono (by omega))⟩
  · simp at hr
    go_wp2
    go_ret
    exact ⟨int_back (by simp [Fd.mask, hr]), ((Below.refl _ _).alloc (Nat.le_refl _) _).trans (hb.mono (by simp))⟩

theorem two_back {j k : IntKind} {a b c d : Int} (h : a = b) (h2 : c = d) : Ending.returned (.tuple #[.int j a, .int k c]) = .returned (.tuple #[.int j b, .int k d]) := by rw [h, h2]
theorem two_back_b {j : IntKind} {a b : Int} {c d : Bool} (h : a = b) (h2 : c = d) : Ending.returned (.tuple #[.int j a, .bool c]) = .returned (.tuple #[.int j b, .bool d]) := by rw [h, h2]
/-- An error's number: none, or ErrArg. -/
def errOf (ok : Bool) : Int := if ok then 0 else 1

set_option maxHeartbeats 400000 in
theorem put_any (a s x n : Int) (w : World) (hs1 : -9223372036854775808 ≤ s) (hs : s < 9223372036854775808) (ha1 : -9223372036854775808 ≤ a) (ha : a < 9223372036854775808) (hx1 : 0 ≤ x) (hx2 : x < 18446744073709551616) (hn1 : 0 ≤ n) :
    Calls Try.prog 16 #[.agg #[.int .i64 a, .int .i64 s], .int .u64 x, .int .u64 n] w fun e w' => e = .returned (.tuple #[.int .u64 (Fd.put a s x n), .int .i64 (errOf (Fd.fits a s n))]) ∧ Below w.heap.size w w' := by
  go_enter Try.func16, Try.ntmps16
  go_wp2_with fail
  refine (right_any _ _ _ hs1 hs ha1 ha).mono ?_
  rintro e w1 ⟨rfl, hb⟩
  replace hb := Below.mono hb (B' := w.heap.size + 1) (by simp)
  obtain ⟨hc, hf⟩ := old_cells hb
  have hz := hb.size
  simp at hz
  by_cases hr : Fd.right a s = true
  · have hr' := hr
    simp [Fd.right] at hr'
    go_wp2_with fail
    refine (most_any _ _ _ hs1 hs ha1 ha).mono ?_
    rintro e w2 ⟨rfl, hb2⟩
    have hb3 := hb.trans (hb2.mono hz)
    have hz3 := hb3.size
    simp at hz3
    obtain ⟨hc2, hf2⟩ := old_cells hb3
    by_cases hn : n ≤ Fd.most a s
    · have hft : Hid (Fd.fits a s n = true) := (by simp [Fd.fits, hr, hn] : Fd.fits a s n = true)
      go_wp2
      refine wp_region_later (w.heap.size + 1) w2 (by kernel_rfl) (by kernel_rfl) (Below.refl _ _) ?_
      repeat (go_big_quiet_step ((refine Calls.later ?_ (mask_any _ _ _ hs1 hs ha1 ha); omega)))
      refine wpQuiet_nil ?_
      rintro _ ⟨n2, rfl⟩
      go_wp2
      go_ret2
      exact ⟨two_back (Fd.put_code a s x n hft hx1 hx2 hn1) (by rw [hft.out]; rfl), (((Below.refl _ _).alloc (Nat.le_refl _) _).trans (hb3.mono (by simp))).trans (n2.below.mono (by omega))⟩
    · have hft : Hid (Fd.fits a s n = false) := (by simp [Fd.fits, hr, hn] : Fd.fits a s n = false)
      go_wp2
      go_ret2
      exact ⟨two_back (by rw [Fd.put, hft.out]; rfl) (by rw [hft.out]; rfl), ((Below.refl _ _).alloc (Nat.le_refl _) _).trans (hb3.mono (by simp))⟩
  · simp at hr
    have hft : Hid (Fd.fits a s n = false) := (by simp [Fd.fits, hr] : Fd.fits a s n = false)
    go_wp2
    go_ret2
    exact ⟨two_back (by rw [Fd.put, hft.out]; rfl) (by rw [hft.out]; rfl), ((Below.refl _ _).alloc (Nat.le_refl _) _).trans (hb.mono (by simp))⟩

set_option maxHeartbeats 400000 in
theorem awake_any (w : World) :
    Calls Try.prog 15 #[] w fun e w' => e = .returned (.bool true) ∧ Below w.heap.size w w' := by
  go_enter Try.func15, Try.ntmps15
  go_wp2_with fail
  refine (put_any 8 4 0 5 _ (by decide) (by decide) (by decide) (by decide) (by decide) (by decide) (by decide)).mono ?_
  rintro e w1 ⟨rfl, hb⟩
  rw [Fd.awake, show Fd.fits 8 4 5 = true from by decide]
  simp only [errOf, if_true]
  go_wp2
  go_ret
  exact ⟨rfl, hb⟩

set_option maxHeartbeats 400000 in
theorem to_any (a s : Int) (w : World) :
    Calls Try.prog 6 #[.agg #[.int .i64 a, .int .i64 s]] w fun e w' => e = .returned (.agg #[.int .i64 a, .int .i64 s]) ∧ Below w.heap.size w w' := by
  go_enter Try.func6, Try.ntmps6
  go_wp2
  exact bodyPost_ret (v := .agg #[.int .i64 a, .int .i64 s]) (by simp [results, Try.results6, go_sem]) rfl ⟨rfl, by go_grown⟩

set_option maxHeartbeats 400000 in
theorem rput_any (a s x n : Int) (w : World) (hs1 : -9223372036854775808 ≤ s) (hs : s < 9223372036854775808) (ha1 : -9223372036854775808 ≤ a) (ha : a < 9223372036854775808) (hx1 : 0 ≤ x) (hx2 : x < 18446744073709551616) (hn1 : 0 ≤ n) (hn2 : n < 18446744073709551616) :
    Calls Try.prog 17 #[.agg #[.int .i64 a, .int .i64 s], .int .u64 x, .int .u64 n] w fun e w' => e = .returned (.tuple #[.int .u64 (Fd.put a s x n), .bool (Fd.fits a s n)]) ∧ Below w.heap.size w w' := by
  go_enter Try.func17, Try.ntmps17
  go_wp2_with fail
  refine (rright_any _ _ _ hs1 hs ha1 ha).mono ?_
  rintro e w1 ⟨rfl, hb⟩
  replace hb := Below.mono hb (B' := w.heap.size + 1) (by simp)
  obtain ⟨hc, hf⟩ := old_cells hb
  have hz := hb.size
  simp at hz
  by_cases hr : Fd.right a s = true
  · have hr' := hr
    simp [Fd.right] at hr'
    go_wp2_with fail
    refine (rmost_any _ _ _ hs1 hs ha1 ha).mono ?_
    rintro e w2 ⟨rfl, hb2⟩
    have hb3 := hb.trans (hb2.mono hz)
    have hz3 := hb3.size
    simp at hz3
    obtain ⟨hc2, hf2⟩ := old_cells hb3
    by_cases hn : n ≤ Fd.most a s
    · have hft : Hid (Fd.fits a s n = true) := (by simp [Fd.fits, hr, hn] : Fd.fits a s n = true)
      clear hc hf hb hb2
      have hpb := Fd.put_bd a s x n hx1 hx2 hn1
      have HP := Lib.hid hpb
      clear hpb
      go_wp2_with fail
      go_loop [8, 9, 10] (fun o i _ => ∃ k : Nat, k ≤ 64 ∧ i = .int .i64 k ∧ o = .int .u64 (Fd.put a s x n % 2 ^ k)) (fun _ i _ => (64 - intOf i).toNat)
      case atStart => exact ⟨0, by omega, rfl, by simp [Int.emod_one]⟩
      case round =>
        obtain ⟨k, hk, rfl, rfl⟩ := hrel
        have hk0 : (0 : Int) ≤ k := by omega
        by_cases hlt : k < 64
        · have hstep := Lib.hid (Fd.low_step (Fd.put a s x n) k HP.out.1)
          have hsm := Lib.hid (Fd.worth_small k (by omega))
          have hm := Lib.hid (Fd.low_bd (Fd.put a s x n) k HP.out.1 (by omega))
          have hbs := Lib.hid (Fd.put_bit a s x n k hft hx1 hx2 hn1 hk0)
          by_cases hin : a ≤ k ∧ k < a + s
          · obtain ⟨hin1, hin2⟩ := hin
            go_wp2_with (first
              | (go_at_call_of 13 (Value.int .u64 x); refine (bit_any _ _ _ hx1 hx2 (by omega) (by omega)).mono ?_; rintro e w' ⟨rfl, rfl⟩)
              | (go_at_call_of 13 (Value.int .u64 n); refine (bit_any _ _ _ hn1 hn2 (by omega) (by omega)).mono ?_; rintro e w' ⟨rfl, rfl⟩)
              | (go_at_call 23; refine (worth_any _ _ (by omega) (by omega)).mono ?_; rintro e w' ⟨rfl, rfl⟩))
            · have hbit : Fd.bit n (↑k - a) = true := by assumption
              go_round
              case rel => exact ⟨k + 1, by omega, by go_num, congrArg (Value.int .u64) (Fd.one_set hstep.out (hbs.out.trans (by rw [if_pos ⟨hin1, hin2⟩, hbit])) hsm.out hm.out)⟩
              case measure => simp [intOf]; omega
            · have hbit : Fd.bit n (↑k - a) = false := by assumption
              go_round
              case rel => exact ⟨k + 1, by omega, by go_num, congrArg (Value.int .u64) (Fd.one_unset hstep.out (hbs.out.trans (by rw [if_pos ⟨hin1, hin2⟩, hbit])))⟩
              case measure => simp [intOf]; omega
          · have HIN := Lib.hid hin
            clear hin
            by_cases hin1 : a ≤ k
            · have hin2 : a + s ≤ k := by have := HIN.out; omega
              go_wp2_with (first
              | (go_at_call_of 13 (Value.int .u64 x); refine (bit_any _ _ _ hx1 hx2 (by omega) (by omega)).mono ?_; rintro e w' ⟨rfl, rfl⟩)
              | (go_at_call_of 13 (Value.int .u64 n); refine (bit_any _ _ _ hn1 hn2 (by omega) (by omega)).mono ?_; rintro e w' ⟨rfl, rfl⟩)
              | (go_at_call 23; refine (worth_any _ _ (by omega) (by omega)).mono ?_; rintro e w' ⟨rfl, rfl⟩))
              · have hbit : Fd.bit x ↑k = true := by assumption
                go_round
                case rel => exact ⟨k + 1, by omega, by go_num, congrArg (Value.int .u64) (Fd.one_set hstep.out (hbs.out.trans (by rw [if_neg HIN.out, hbit])) hsm.out hm.out)⟩
                case measure => simp [intOf]; omega
              · have hbit : Fd.bit x ↑k = false := by assumption
                go_round
                case rel => exact ⟨k + 1, by omega, by go_num, congrArg (Value.int .u64) (Fd.one_unset hstep.out (hbs.out.trans (by rw [if_neg HIN.out, hbit])))⟩
                case measure => simp [intOf]; omega
            · go_wp2_with (first
              | (go_at_call_of 13 (Value.int .u64 x); refine (bit_any _ _ _ hx1 hx2 (by omega) (by omega)).mono ?_; rintro e w' ⟨rfl, rfl⟩)
              | (go_at_call_of 13 (Value.int .u64 n); refine (bit_any _ _ _ hn1 hn2 (by omega) (by omega)).mono ?_; rintro e w' ⟨rfl, rfl⟩)
              | (go_at_call 23; refine (worth_any _ _ (by omega) (by omega)).mono ?_; rintro e w' ⟨rfl, rfl⟩))
              · have hbit : Fd.bit x ↑k = true := by assumption
                go_round
                case rel => exact ⟨k + 1, by omega, by go_num, congrArg (Value.int .u64) (Fd.one_set hstep.out (hbs.out.trans (by rw [if_neg HIN.out, hbit])) hsm.out hm.out)⟩
                case measure => simp [intOf]; omega
              · have hbit : Fd.bit x ↑k = false := by assumption
                go_round
                case rel => exact ⟨k + 1, by omega, by go_num, congrArg (Value.int .u64) (Fd.one_unset hstep.out (hbs.out.trans (by rw [if_neg HIN.out, hbit])))⟩
                case measure => simp [intOf]; omega
        · have hk64 : Hid (k = 64) := (by omega : k = 64)
          go_wp2
          go_ret2
          exact ⟨two_back_b (Fd.whole hk64.out HP.out.1 HP.out.2) (by rw [hft.out]), ((Below.refl _ _).alloc (Nat.le_refl _) _).trans (hb3.mono (by simp))⟩
    · have hft : Hid (Fd.fits a s n = false) := (by simp [Fd.fits, hr, hn] : Fd.fits a s n = false)
      go_wp2
      go_ret2
      exact ⟨two_back_b (by rw [Fd.put, hft.out]; rfl) (by rw [hft.out]), ((Below.refl _ _).alloc (Nat.le_refl _) _).trans (hb3.mono (by simp))⟩
  · simp at hr
    have hft : Hid (Fd.fits a s n = false) := (by simp [Fd.fits, hr] : Fd.fits a s n = false)
    go_wp2
    go_ret2
    exact ⟨two_back_b (by rw [Fd.put, hft.out]; rfl) (by rw [hft.out]), ((Below.refl _ _).alloc (Nat.le_refl _) _).trans (hb.mono (by simp))⟩
end Go.Proofs.Ytlnpnflmcgkfoaa
