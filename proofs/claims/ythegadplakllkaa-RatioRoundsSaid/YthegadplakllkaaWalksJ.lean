/-
  Contracts of Fixed, Floor, Ceil of package ratio.
-/
import Derived.Test.YthegadplakllkaaWalksI
import Derived.Test.YthegadplakllkaaWalksD
import Derived.Test.YthegadplakllkaaMathB
import Derived.Test.YthegadplakllkaaMathF
namespace Go.Proofs.Ythegadplakllkaa
open Go.ChangeShapes Go.WideShapes Go.ChangeAt Go.RowKit

set_option maxHeartbeats 1000000 in
theorem fixed_bad (a b p : Int) (w : World) (h : b = 0 ∨ p < 0 ∨ 63 < p) (hb : 0 ≤ b) :
    Calls Try.prog 19 #[.agg #[.int .u64 a, .int .u64 b], .int .i64 p] w fun e w' => e = .returned (.tuple #[.int .u64 0, .int .i64 1]) ∧ Below w.heap.size w w' := by
  by_cases h1 : b = 0
  · subst h1
    clear h
    go_enter Try.func19, Try.ntmps19
    go_wp2
    go_ret2
    exact ⟨rfl, by go_grown⟩
  · have hbf : (b == 0) = false := by simp [h1]
    by_cases h2 : p < 0
    · clear h
      go_enter Try.func19, Try.ntmps19
      go_wp2
      go_ret2
      exact ⟨rfl, by go_grown⟩
    · have h3 : 63 < p := by omega
      clear h
      go_enter Try.func19, Try.ntmps19
      go_wp2
      go_ret2
      exact ⟨rfl, by go_grown⟩

set_option maxHeartbeats 1000000 in
theorem fixed_some (a b : Int) (k : Nat) (w : World) (ha : 0 ≤ a) (ha2 : a < 18446744073709551616) (hb : 0 < b) (hb2 : b < 18446744073709551616) (hk : k ≤ 63) :
    Calls Try.prog 19 #[.agg #[.int .u64 a, .int .u64 b], .int .i64 k] w fun e w' => e = .returned (.tuple #[.int .u64 (Rt.fixN a b k), .int .i64 (Rt.fixE a b k)]) ∧ Below w.heap.size w w' := by
  have hbf : (b == 0) = false := by
    simp
    omega
  have hk0 : (0 : Int) ≤ k := by omega
  have hk1 : (k : Int) ≤ 63 := by omega
  obtain ⟨hP1, hP2⟩ := Rt.pow_bd k hk
  obtain ⟨hX1, hX2⟩ := Rt.mul_bd a (2 ^ k) ha ha2 (Int.le_of_lt hP1) (by omega)
  have hX3 : a * 2 ^ k ≤ 18446744073709551615 * 9223372036854775808 := Int.mul_le_mul (by omega) hP2 (Int.le_of_lt hP1) (by omega)
  have C := fun w => mul64_any a (2 ^ k) w ha ha2 (Int.le_of_lt hP1) (by omega)
  have hup : Hid (Rt.up a b k = (a * 2 ^ k + b - 1) / b) := (rfl : Rt.up a b k = (a * 2 ^ k + b - 1) / b)
  obtain ⟨X, hX⟩ : ∃ X, X = a * 2 ^ k := ⟨_, rfl⟩
  rw [← hX] at hX1 hX2 hX3 C hup
  obtain ⟨H, hH⟩ : ∃ H, H = (X + b - 1) / 18446744073709551616 := ⟨_, rfl⟩
  obtain ⟨L, hL⟩ : ∃ L, L = (X + b - 1) % 18446744073709551616 := ⟨_, rfl⟩
  have HT : Hid (H * 18446744073709551616 + L = X + b - 1) := (by omega : H * 18446744073709551616 + L = X + b - 1)
  have hH1 : 0 ≤ H := by omega
  have hH2 : H < 18446744073709551616 := by omega
  have hL1 : 0 ≤ L := by omega
  have hL2 : L < 18446744073709551616 := by omega
  have w1 : IntKind.u64.wrap (2 ^ k) = 2 ^ k := by rw [IntKind.wrap_u64]; omega
  have w2 : (X % 18446744073709551616 + (b - 1)) % 18446744073709551616 = L := by omega
  have w3 : IntKind.u64.wrap (X / 18446744073709551616 + (X % 18446744073709551616 + (b - 1)) / 18446744073709551616) = H := by rw [IntKind.wrap_u64]; omega
  have w4 : X / 18446744073709551616 + (X % 18446744073709551616 + (b - 1)) / 18446744073709551616 = H := by omega
  have am1 : 0 ≤ X % 18446744073709551616 := by omega
  have am2 : 0 ≤ b - 1 := by omega
  have HC := Lib.hid C
  clear C hX hH hL
  go_enter Try.func19, Try.ntmps19
  go_wp2
  refine wp_region_later (w.heap.size + 1) (w.alloc (.cells #[.int .u64 a, .int .u64 b] 25)) (by kernel_rfl) (by kernel_rfl) (Below.refl _ _) ?_
  repeat (go_big_quiet_step ((with_reducible exact Calls.later_same (HC.out _))))
  refine wpQuiet_nil ?_
  rintro _ ⟨n1, rfl⟩
  have hn := n1.below
  have hbel : Below w.heap.size w n1.world := ((Below.refl _ _).alloc (Nat.le_refl _) _).trans (hn.mono (Nat.le_succ _))
  have hz : w.heap.size < n1.world.heap.size := by
    have := hn.size
    simp at this
    omega
  by_cases hov : b ≤ H
  · have hfx : Hid (Rt.fixE a b k = 24 ∧ Rt.fixN a b k = 0) := Rt.fix_over hb hk (by
      rw [hup.out, ← HT.out]
      exact Int.le_ediv_of_mul_le hb (by omega))
    go_wp2_with (simp only [add64_now _ _ am1 am2])
    go_ret2
    exact ⟨two_back hfx.out.2.symm hfx.out.1.symm, hbel⟩
  · have hfx : Hid (Rt.fixE a b k = 0 ∧ Rt.fixN a b k = Rt.up a b k) := Rt.fix_good hb hk (by
      rw [hup.out, ← HT.out]
      exact Int.ediv_lt_of_lt_mul hb (by omega))
    have HD := Lib.hid (fun w => div64_any H L b w hH1 (by omega) hL1 hL2 hb2)
    go_wp2_with (simp only [add64_now _ _ am1 am2])
    refine (HD.out _).mono ?_
    rintro e w2 ⟨r, rfl, hb3⟩
    go_wp2
    go_ret2
    exact ⟨two_back (by rw [hfx.out.2, hup.out, ← HT.out]) hfx.out.1.symm, hbel.trans (hb3.mono (Nat.le_of_lt hz))⟩

set_option maxHeartbeats 400000 in
theorem floor_any (a b : Int) (w : World) (ha : 0 ≤ a) (ha2 : a < 18446744073709551616) (hb : 0 < b) (hb2 : b < 18446744073709551616) :
    Calls Try.prog 20 #[.agg #[.int .u64 a, .int .u64 b]] w fun e w' => e = .returned (.int .u64 (a / b)) ∧ Below w.heap.size w w' := by
  have hbf : (b == 0) = false := by
    simp
    omega
  obtain ⟨p1, p2⟩ := Rt.part_bd a b ha ha2 hb
  go_enter Try.func20, Try.ntmps20
  go_wp2
  go_ret
  exact ⟨rfl, by go_grown⟩

set_option maxHeartbeats 400000 in
theorem floor_none (a : Int) (w : World) :
    Calls Try.prog 20 #[.agg #[.int .u64 a, .int .u64 0]] w fun e w' => e = .returned (.int .u64 0) ∧ Below w.heap.size w w' := by
  go_enter Try.func20, Try.ntmps20
  go_wp2
  go_ret
  exact ⟨rfl, by go_grown⟩

set_option maxHeartbeats 400000 in
theorem ceil_none (a : Int) (w : World) :
    Calls Try.prog 21 #[.agg #[.int .u64 a, .int .u64 0]] w fun e w' => e = .returned (.int .u64 0) ∧ Below w.heap.size w w' := by
  go_enter Try.func21, Try.ntmps21
  go_wp2_with fail
  refine (fixed_bad a 0 0 _ (Or.inl rfl) (by decide)).mono ?_
  rintro e w1 ⟨rfl, hb1⟩
  go_wp2
  go_ret
  exact ⟨rfl, ((Below.refl _ _).alloc (Nat.le_refl _) _).trans (hb1.mono (by simp))⟩

set_option maxHeartbeats 400000 in
theorem ceil_any (a b : Int) (w : World) (ha : 0 ≤ a) (ha2 : a < 18446744073709551616) (hb : 0 < b) (hb2 : b < 18446744073709551616) :
    Calls Try.prog 21 #[.agg #[.int .u64 a, .int .u64 b]] w fun e w' => e = .returned (.int .u64 (Rt.fixN a b 0)) ∧ Below w.heap.size w w' := by
  go_enter Try.func21, Try.ntmps21
  go_wp2_with fail
  refine (fixed_some a b 0 _ ha ha2 hb hb2 (by decide)).mono ?_
  rintro e w1 ⟨rfl, hb1⟩
  go_wp2
  go_ret
  exact ⟨rfl, ((Below.refl _ _).alloc (Nat.le_refl _) _).trans (hb1.mono (by simp))⟩
end Go.Proofs.Ythegadplakllkaa
