/-
  Contracts of Apart, of the code's and of the document's.
-/
import Derived.Test.YtlnpnflmcgkfoaaWalksB
import Derived.Test.YtlnpnflmcgkfoaaMathD
namespace Go.Proofs.Ytlnpnflmcgkfoaa
open Go.ChangeShapes Go.WideShapes Go.ChangeAt Go.RowKit

set_option maxHeartbeats 400000 in
theorem apart_any (a s b t : Int) (w : World) (hs1 : -9223372036854775808 ≤ s) (hs : s < 9223372036854775808) (ha1 : -9223372036854775808 ≤ a) (ha : a < 9223372036854775808) (ht1 : -9223372036854775808 ≤ t) (ht : t < 9223372036854775808) (hb1 : -9223372036854775808 ≤ b) (hb : b < 9223372036854775808) :
    Calls Try.prog 18 #[.agg #[.int .i64 a, .int .i64 s], .agg #[.int .i64 b, .int .i64 t]] w fun e w' => e = .returned (.bool (Fd.apart a s b t)) ∧ Below w.heap.size w w' := by
  go_enter Try.func18, Try.ntmps18
  go_wp2
  refine wp_region_later (w.heap.size + 2) ((w.alloc (.cells #[.int .i64 a, .int .i64 s] 25)).alloc (.cells #[.int .i64 b, .int .i64 t] 25)) (by kernel_rfl) (by kernel_rfl) (Below.refl _ _) ?_
  repeat (go_big_quiet_step (first
    | ((with_reducible refine Calls.later ?_ (mask_any a s _ hs1 hs ha1 ha)); simp)
    | ((with_reducible refine Calls.later ?_ (mask_any b t _ ht1 ht hb1 hb)); simp)))
  refine wpQuiet_nil ?_
  rintro _ ⟨n2, rfl⟩
  go_wp2
  go_ret
  exact ⟨bool_back (Fd.apart_code a s b t), (((Below.refl _ _).alloc (Nat.le_refl _) _).alloc (by simp) _).trans (n2.below.mono (by simp))⟩

set_option maxHeartbeats 400000 in
theorem rapart_any (a s b t : Int) (w : World) (hs1 : -9223372036854775808 ≤ s) (hs : s < 9223372036854775808) (ha1 : -9223372036854775808 ≤ a) (ha : a < 9223372036854775808) (ht1 : -9223372036854775808 ≤ t) (ht : t < 9223372036854775808) (hb1 : -9223372036854775808 ≤ b) (hb : b < 9223372036854775808) :
    Calls Try.prog 19 #[.agg #[.int .i64 a, .int .i64 s], .agg #[.int .i64 b, .int .i64 t]] w fun e w' => e = .returned (.bool (Fd.apart a s b t)) ∧ Below w.heap.size w w' := by
  go_enter Try.func19, Try.ntmps19
  go_wp2_with fail
  refine (rright_any _ _ _ hs1 hs ha1 ha).mono ?_
  rintro e w1 ⟨rfl, hb0⟩
  replace hb0 := Below.mono hb0 (B' := w.heap.size + 2) (by simp)
  obtain ⟨hc, hf⟩ := old_cells hb0
  have hz := hb0.size
  simp at hz
  have hw1 : Below w.heap.size w w1 := (((Below.refl _ _).alloc (Nat.le_refl _) _).alloc (by simp) _).trans (hb0.mono (by simp))
  by_cases hr : Fd.right a s = true
  · go_wp2_with fail
    refine (rright_any _ _ _ ht1 ht hb1 hb).mono ?_
    rintro e w2 ⟨rfl, hb2⟩
    replace hb2 := hb0.trans (hb2.mono (B' := w.heap.size + 2) hz)
    obtain ⟨hc2, hf2⟩ := old_cells hb2
    have hw2 : Below w.heap.size w w2 := (((Below.refl _ _).alloc (Nat.le_refl _) _).alloc (by simp) _).trans (hb2.mono (by simp))
    clear hc hf
    by_cases hr2 : Fd.right b t = true
    · have hra := hr
      have hrb := hr2
      simp [Fd.right] at hra hrb
      by_cases hov : a < b + t ∧ b < a + s
      · have hap : Hid (Fd.apart a s b t = false) := (by simp [Fd.apart, hr, hr2, hov] : Fd.apart a s b t = false)
        obtain ⟨hov1, hov2⟩ := hov
        go_wp2_with fail
        go_loop [5] (fun i => ∃ k : Nat, ((k : Int) ≤ a ∨ (k : Int) ≤ b) ∧ i = .int .i64 k) (fun i => (64 - intOf i).toNat)
        case atStart => exact ⟨0, by omega, rfl⟩
        case round =>
          obtain ⟨k, hk, rfl⟩ := hrel
          have hk0 : (0 : Int) ≤ k := by omega
          by_cases hin : a ≤ k ∧ b ≤ k
          · obtain ⟨hin1, hin2⟩ := hin
            go_wp2
            go_ret
            exact ⟨bool_back hap.out.symm, hw2⟩
          · have hkl : (k : Int) < 64 := by omega
            by_cases hin1 : a ≤ k
            · have hin2 : (k : Int) < b := by omega
              clear hin
              go_wp2
              go_round
              case rel => exact ⟨k + 1, by omega, by go_num⟩
              case measure => simp [intOf]; omega
            · clear hin
              go_wp2
              go_round
              case rel => exact ⟨k + 1, by omega, by go_num⟩
              case measure => simp [intOf]; omega
      · have hap : Hid (Fd.apart a s b t = true) := (by simp [Fd.apart, hov] : Fd.apart a s b t = true)
        go_wp2_with fail
        go_loop [5] (fun i => ∃ k : Nat, k ≤ 64 ∧ i = .int .i64 k) (fun i => (64 - intOf i).toNat)
        case atStart => exact ⟨0, by omega, rfl⟩
        case round =>
          obtain ⟨k, hk, rfl⟩ := hrel
          have hk0 : (0 : Int) ≤ k := by omega
          by_cases hkl : k < 64
          · by_cases hin1 : a ≤ k ∧ k < a + s
            · obtain ⟨hin2, hin3⟩ := hin1
              by_cases hin4 : b ≤ k
              · have hin5 : b + t ≤ k := by omega
                go_wp2
                go_round
                case rel => exact ⟨k + 1, by omega, by go_num⟩
                case measure => simp [intOf]; omega
              · go_wp2
                go_round
                case rel => exact ⟨k + 1, by omega, by go_num⟩
                case measure => simp [intOf]; omega
            · by_cases hin2 : a ≤ k
              · have hin3 : a + s ≤ k := by omega
                clear hin1
                go_wp2
                go_round
                case rel => exact ⟨k + 1, by omega, by go_num⟩
                case measure => simp [intOf]; omega
              · clear hin1
                go_wp2
                go_round
                case rel => exact ⟨k + 1, by omega, by go_num⟩
                case measure => simp [intOf]; omega
          · go_wp2
            go_ret
            exact ⟨bool_back hap.out.symm, hw2⟩
    · simp at hr2
      go_wp2
      go_ret
      exact ⟨bool_back (by simp [Fd.apart, hr2]), hw2⟩
  · simp at hr
    go_wp2
    go_ret
    exact ⟨bool_back (by simp [Fd.apart, hr]), hw1⟩
end Go.Proofs.Ytlnpnflmcgkfoaa
