/-
  The law RatioMakes answers true: its walk out of the contracts.
-/
import Derived.Test.YthegadplakllkaaWalksE
import Derived.Test.YthegadplakllkaaWideLess
import Derived.Test.YthegadplakllkaaAwake
namespace Go.Proofs.Ythegadplakllkaa
open Go.ChangeShapes Go.WideShapes Go.ChangeAt Go.RowKit

set_option maxHeartbeats 2000000 in
theorem makes_any (m k a b c d : Int) (w : World) (hm : 0 ≤ m) (hm2 : m < 18446744073709551616) (hk : 0 ≤ k) (hk2 : k < 18446744073709551616) (ha : 0 ≤ a) (ha2 : a < 18446744073709551616) (hb : 0 ≤ b) (hb2 : b < 18446744073709551616) (hc : 0 ≤ c) (hc2 : c < 18446744073709551616) (hd : 0 ≤ d) (hd2 : d < 18446744073709551616) :
    Calls Try.prog 3 #[.int .u64 m, .int .u64 k, .agg #[.int .u64 a, .int .u64 b], .agg #[.int .u64 c, .int .u64 d]] w fun e w' => e = .returned (.bool true) ∧ Below w.heap.size w w' := by
  have h0 : Below w.heap.size w ((w.alloc (.cells #[.int .u64 a, .int .u64 b] 24)).alloc (.cells #[.int .u64 c, .int .u64 d] 24)) := by go_grown
  have HR1 : Hid (∀ w : World, _) := fun w => right_any a b w ha ha2 hb hb2
  have HR2 : Hid (∀ w : World, _) := fun w => rright_any a b w ha ha2 hb hb2
  have HT1 : Hid (∀ w : World, _) := fun w => times_any a d w ha ha2 hd hd2
  have HT2 : Hid (∀ w : World, _) := fun w => times_any c b w hc hc2 hb hb2
  have HX := Lib.hid (Rt.mul_bd a d ha ha2 hd hd2)
  have HY := Lib.hid (Rt.mul_bd c b hc hc2 hb hb2)
  obtain ⟨X, hX⟩ : ∃ X, X = a * d := ⟨_, rfl⟩
  obtain ⟨Y, hY⟩ : ∃ Y, Y = c * b := ⟨_, rfl⟩
  rw [← hX] at HT1 HX
  rw [← hY] at HT2 HY
  have HXe := Lib.hid hX
  have HYe := Lib.hid hY
  clear hX hY
  generalize Rt.ok a b = R at HR1 HR2
  by_cases hk0 : k = 0
  · subst hk0
    go_enter Try.func3, Try.ntmps3
    go_wp2_with fail
    refine (of_none m _).mono ?_
    rintro e w1 ⟨rfl, hb1⟩
    replace hb1 := Below.mono hb1 (B' := w.heap.size + 2) (by simp)
    have hW4 : Hid (Below w.heap.size w (w1.alloc (.cells #[.int .u64 0, .int .u64 0] 25))) := ((h0.trans (hb1.mono (by simp))).alloc (by have := hb1.size; simp at this; omega) _ : Below w.heap.size w (w1.alloc (.cells #[.int .u64 0, .int .u64 0] 25)))
    have hl : Hid (w.heap.size ≤ w1.heap.size + 1) := (by have := hb1.size; simp at this; omega : w.heap.size ≤ w1.heap.size + 1)
    obtain ⟨e1, f1⟩ := old_cells hb1
    have hz1 : w.heap.size < w1.heap.size := by have := hb1.size; simp at this; omega
    have hz2 : w.heap.size ≤ w1.heap.size := by omega
    have hz3 : w.heap.size + 1 < w1.heap.size := by have := hb1.size; simp at this; omega
    have hz4 : w.heap.size + 1 ≤ w1.heap.size := by omega
    clear h0 hb1
    go_wp2
    refine wp_region_later (w1.heap.size + 1) (w1.alloc (.cells #[.int .u64 0, .int .u64 0] 25)) (by kernel_rfl) (by kernel_rfl) (Below.refl _ _) ?_
    repeat (go_big_quiet_step (first
      | ((with_reducible refine Calls.later ?_ (to_any a b _)); simp)
      | ((with_reducible refine Calls.later ?_ (HR1.out _)); simp)
      | (with_reducible exact Calls.later_same (HR2.out _))))
    refine wpQuiet_nil ?_
    rintro _ ⟨n7, rfl⟩
    go_wp2
    refine wp_region_later (w1.heap.size + 1) (w1.alloc (.cells #[.int .u64 0, .int .u64 0] 25)) (by kernel_rfl) (by kernel_rfl) n7.below ?_
    repeat (go_big_quiet_step (first
      | ((with_reducible refine Calls.later ?_ (HT1.out _)); simp)
      | ((with_reducible refine Calls.later ?_ (HT2.out _)); simp)
      | ((with_reducible refine Calls.later ?_ (wcmp_any X Y _ HX.out.1 (by have := HX.out.2; omega) HY.out.1 (by have := HY.out.2; omega))); simp)))
    refine wpQuiet_nil ?_
    rintro _ ⟨n9, rfl⟩
    by_cases hb0 : b = 0
    · have hbd : (b == 0) = true := by simp [hb0]
      have HC : Hid (∀ w : World, _) := fun w => compare_any a b c d w ha ha2 hb hb2 hc hc2 hd hd2
      rw [Rt.cmpR_none (Or.inl hb0)] at HC
      clear hb0
      go_wp2
      refine wp_region_later (w1.heap.size + 1) (w1.alloc (.cells #[.int .u64 0, .int .u64 0] 25)) (by kernel_rfl) (by kernel_rfl) n9.below ?_
      repeat (go_big_quiet_step (first
        | ((with_reducible refine Calls.later ?_ (to_any a b _)); simp)
        | ((with_reducible refine Calls.later ?_ (to_any c d _)); simp)
        | ((with_reducible refine Calls.later ?_ (HC.out _)); simp)
        | ((with_reducible refine Calls.later ?_ (awake_any _)); simp)))
      refine wpQuiet_nil ?_
      rintro _ ⟨n12, rfl⟩
      go_wp2
      go_ret
      exact ⟨rfl, hW4.out.trans (n12.below.mono hl.out)⟩
    have hbd : (b == 0) = false := by simp [hb0]
    by_cases hd0 : d = 0
    · have hdd : (d == 0) = true := by simp [hd0]
      have HC : Hid (∀ w : World, _) := fun w => compare_any a b c d w ha ha2 hb hb2 hc hc2 hd hd2
      rw [Rt.cmpR_none (Or.inr hd0)] at HC
      clear hb0 hd0
      go_wp2
      refine wp_region_later (w1.heap.size + 1) (w1.alloc (.cells #[.int .u64 0, .int .u64 0] 25)) (by kernel_rfl) (by kernel_rfl) n9.below ?_
      repeat (go_big_quiet_step (first
        | ((with_reducible refine Calls.later ?_ (to_any a b _)); simp)
        | ((with_reducible refine Calls.later ?_ (to_any c d _)); simp)
        | ((with_reducible refine Calls.later ?_ (HC.out _)); simp)
        | ((with_reducible refine Calls.later ?_ (awake_any _)); simp)))
      refine wpQuiet_nil ?_
      rintro _ ⟨n12, rfl⟩
      go_wp2
      go_ret
      exact ⟨rfl, hW4.out.trans (n12.below.mono hl.out)⟩
    have hdd : (d == 0) = false := by simp [hd0]
    have HC : Hid (∀ w : World, _) := fun w => compare_any a b c d w ha ha2 hb hb2 hc hc2 hd hd2
    rw [Rt.cmpR_some hb0 hd0, ← HXe.out, ← HYe.out] at HC
    clear hb0 hd0
    go_wp2
    refine wp_region_later (w1.heap.size + 1) (w1.alloc (.cells #[.int .u64 0, .int .u64 0] 25)) (by kernel_rfl) (by kernel_rfl) n9.below ?_
    repeat (go_big_quiet_step (first
      | ((with_reducible refine Calls.later ?_ (to_any a b _)); simp)
      | ((with_reducible refine Calls.later ?_ (to_any c d _)); simp)
      | ((with_reducible refine Calls.later ?_ (HC.out _)); simp)
      | ((with_reducible refine Calls.later ?_ (awake_any _)); simp)))
    refine wpQuiet_nil ?_
    rintro _ ⟨n12, rfl⟩
    go_wp2
    go_ret
    exact ⟨rfl, hW4.out.trans (n12.below.mono hl.out)⟩
  · have hkp : 0 < k := by omega
    have hkf : (k == 0) = false := by simp [hk0]
    have hg := Rt.gcd_pos m k hkp
    obtain ⟨p1, p2⟩ := Rt.part_bd m _ hm hm2 hg
    obtain ⟨q1, q2⟩ := Rt.part_bd k _ hk hk2 hg
    have HO : Hid (∀ w : World, _) := fun w => of_some m k w hm hm2 hkp hk2
    have HM : Hid (∀ w : World, _) := fun w => make_any m k w hm hm2 hkp hk2
    have HK : Hid (∀ w : World, _) := fun w => right_any (m / Rt.gcd m k) (k / Rt.gcd m k) w p1 p2 q1 q2
    rw [Rt.ok_made m k hm hkp] at HK
    generalize m / Rt.gcd m k = N at *
    generalize k / Rt.gcd m k = D at *
    clear hg hk0
    go_enter Try.func3, Try.ntmps3
    go_wp2_with fail
    refine (HO.out _).mono ?_
    rintro e w1 ⟨rfl, hb1⟩
    replace hb1 := Below.mono hb1 (B' := w.heap.size + 2) (by simp)
    have hW4 : Hid (Below w.heap.size w (w1.alloc (.cells #[.int .u64 N, .int .u64 D] 25))) := ((h0.trans (hb1.mono (by simp))).alloc (by have := hb1.size; simp at this; omega) _ : Below w.heap.size w (w1.alloc (.cells #[.int .u64 N, .int .u64 D] 25)))
    have hl : Hid (w.heap.size ≤ w1.heap.size + 1) := (by have := hb1.size; simp at this; omega : w.heap.size ≤ w1.heap.size + 1)
    obtain ⟨e1, f1⟩ := old_cells hb1
    have hz1 : w.heap.size < w1.heap.size := by have := hb1.size; simp at this; omega
    have hz2 : w.heap.size ≤ w1.heap.size := by omega
    have hz3 : w.heap.size + 1 < w1.heap.size := by have := hb1.size; simp at this; omega
    have hz4 : w.heap.size + 1 ≤ w1.heap.size := by omega
    clear h0 hb1
    go_wp2
    refine wp_region_later (w1.heap.size + 1) (w1.alloc (.cells #[.int .u64 N, .int .u64 D] 25)) (by kernel_rfl) (by kernel_rfl) (Below.refl _ _) ?_
    repeat (go_big_quiet_step (first
      | ((with_reducible refine Calls.later ?_ (HM.out _)); simp)
      | ((with_reducible refine Calls.later ?_ (to_any N D _)); simp)
      | ((with_reducible refine Calls.later ?_ (HK.out _)); simp)))
    refine wpQuiet_nil ?_
    rintro _ ⟨n5, rfl⟩
    go_wp2
    refine wp_region_later (w1.heap.size + 1) (w1.alloc (.cells #[.int .u64 N, .int .u64 D] 25)) (by kernel_rfl) (by kernel_rfl) n5.below ?_
    repeat (go_big_quiet_step (first
      | ((with_reducible refine Calls.later ?_ (to_any a b _)); simp)
      | ((with_reducible refine Calls.later ?_ (HR1.out _)); simp)
      | (with_reducible exact Calls.later_same (HR2.out _))))
    refine wpQuiet_nil ?_
    rintro _ ⟨n7, rfl⟩
    go_wp2
    refine wp_region_later (w1.heap.size + 1) (w1.alloc (.cells #[.int .u64 N, .int .u64 D] 25)) (by kernel_rfl) (by kernel_rfl) n7.below ?_
    repeat (go_big_quiet_step (first
      | ((with_reducible refine Calls.later ?_ (HT1.out _)); simp)
      | ((with_reducible refine Calls.later ?_ (HT2.out _)); simp)
      | ((with_reducible refine Calls.later ?_ (wcmp_any X Y _ HX.out.1 (by have := HX.out.2; omega) HY.out.1 (by have := HY.out.2; omega))); simp)))
    refine wpQuiet_nil ?_
    rintro _ ⟨n9, rfl⟩
    by_cases hb0 : b = 0
    · have hbd : (b == 0) = true := by simp [hb0]
      have HC : Hid (∀ w : World, _) := fun w => compare_any a b c d w ha ha2 hb hb2 hc hc2 hd hd2
      rw [Rt.cmpR_none (Or.inl hb0)] at HC
      clear hb0
      go_wp2
      refine wp_region_later (w1.heap.size + 1) (w1.alloc (.cells #[.int .u64 N, .int .u64 D] 25)) (by kernel_rfl) (by kernel_rfl) n9.below ?_
      repeat (go_big_quiet_step (first
        | ((with_reducible refine Calls.later ?_ (to_any a b _)); simp)
        | ((with_reducible refine Calls.later ?_ (to_any c d _)); simp)
        | ((with_reducible refine Calls.later ?_ (HC.out _)); simp)
        | ((with_reducible refine Calls.later ?_ (awake_any _)); simp)))
      refine wpQuiet_nil ?_
      rintro _ ⟨n12, rfl⟩
      go_wp2
      go_ret
      exact ⟨rfl, hW4.out.trans (n12.below.mono hl.out)⟩
    have hbd : (b == 0) = false := by simp [hb0]
    by_cases hd0 : d = 0
    · have hdd : (d == 0) = true := by simp [hd0]
      have HC : Hid (∀ w : World, _) := fun w => compare_any a b c d w ha ha2 hb hb2 hc hc2 hd hd2
      rw [Rt.cmpR_none (Or.inr hd0)] at HC
      clear hb0 hd0
      go_wp2
      refine wp_region_later (w1.heap.size + 1) (w1.alloc (.cells #[.int .u64 N, .int .u64 D] 25)) (by kernel_rfl) (by kernel_rfl) n9.below ?_
      repeat (go_big_quiet_step (first
        | ((with_reducible refine Calls.later ?_ (to_any a b _)); simp)
        | ((with_reducible refine Calls.later ?_ (to_any c d _)); simp)
        | ((with_reducible refine Calls.later ?_ (HC.out _)); simp)
        | ((with_reducible refine Calls.later ?_ (awake_any _)); simp)))
      refine wpQuiet_nil ?_
      rintro _ ⟨n12, rfl⟩
      go_wp2
      go_ret
      exact ⟨rfl, hW4.out.trans (n12.below.mono hl.out)⟩
    have hdd : (d == 0) = false := by simp [hd0]
    have HC : Hid (∀ w : World, _) := fun w => compare_any a b c d w ha ha2 hb hb2 hc hc2 hd hd2
    rw [Rt.cmpR_some hb0 hd0, ← HXe.out, ← HYe.out] at HC
    clear hb0 hd0
    go_wp2
    refine wp_region_later (w1.heap.size + 1) (w1.alloc (.cells #[.int .u64 N, .int .u64 D] 25)) (by kernel_rfl) (by kernel_rfl) n9.below ?_
    repeat (go_big_quiet_step (first
      | ((with_reducible refine Calls.later ?_ (to_any a b _)); simp)
      | ((with_reducible refine Calls.later ?_ (to_any c d _)); simp)
      | ((with_reducible refine Calls.later ?_ (HC.out _)); simp)
      | ((with_reducible refine Calls.later ?_ (awake_any _)); simp)))
    refine wpQuiet_nil ?_
    rintro _ ⟨n12, rfl⟩
    go_wp2
    go_ret
    exact ⟨rfl, hW4.out.trans (n12.below.mono hl.out)⟩
end Go.Proofs.Ythegadplakllkaa
