/-
  The contract of the document's Holds.
-/
import Derived.Test.YthegadplakllkaaWalksJ
import Derived.Test.YthegadplakllkaaWideLess
namespace Go.Proofs.Ythegadplakllkaa
open Go.ChangeShapes Go.WideShapes Go.ChangeAt Go.RowKit

set_option maxHeartbeats 1000000 in
theorem holds_any (a b n : Int) (k : Nat) (w : World) (ha : 0 ≤ a) (ha2 : a < 18446744073709551616) (hb : 0 < b) (hb2 : b < 18446744073709551616) (hn : 0 ≤ n) (hn2 : n < 18446744073709551616) (hk : k ≤ 63)
    (h1 : a * 2 ^ k ≤ n * b) (h2 : (n - 1) * b < a * 2 ^ k) :
    Calls Try.prog 22 #[.agg #[.int .u64 a, .int .u64 b], .int .i64 k, .int .u64 n] w fun e w' => e = .returned (.bool true) ∧ Below w.heap.size w w' := by
  have hk0 : (0 : Int) ≤ k := by omega
  have hk1 : (k : Int) ≤ 63 := by omega
  obtain ⟨hP1, hP2⟩ := Rt.pow_bd k hk
  have HX := Lib.hid (Rt.mul_bd a (2 ^ k) ha ha2 (Int.le_of_lt hP1) (by omega))
  have HY := Lib.hid (Rt.mul_bd n b hn hn2 (Int.le_of_lt hb) hb2)
  have T1 := Lib.hid (fun w => times_any a (2 ^ k) w ha ha2 (Int.le_of_lt hP1) (by omega))
  have T2 := Lib.hid (fun w => times_any n b w hn hn2 (Int.le_of_lt hb) hb2)
  obtain ⟨X, hX⟩ : ∃ X, X = a * 2 ^ k := ⟨_, rfl⟩
  obtain ⟨Y, hY⟩ : ∃ Y, Y = n * b := ⟨_, rfl⟩
  rw [← hX] at HX T1 h1 h2
  rw [← hY] at HY T2 h1
  have hs1 : Hid (Rt.sgn Y X = 0 ∨ Rt.sgn Y X = 1) := by
    by_cases h : X < Y
    · exact Or.inr (Rt.sgn_gt h)
    · exact Or.inl (Rt.sgn_eq (by omega))
  have hs0 : decide (Rt.sgn Y X < 0) = false := by
    rcases hs1.out with h | h <;> (rw [h]; decide)
  have H2 := Lib.hid h2
  obtain ⟨P, hP⟩ : ∃ P : Int, P = 2 ^ k := ⟨_, rfl⟩
  rw [← hP] at T1
  have HP := Lib.hid hP
  clear hX hY h1 h2 hP hP1 hP2
  go_enter Try.func22, Try.ntmps22
  go_wp2
  go_loop [7, 8] (fun t i => ∃ (j : Nat) (Q : Int), j ≤ k ∧ i = .int .i64 j ∧ t = .int .u64 Q ∧ Hid (Q = 2 ^ j)) (fun _ i => (k - intOf i).toNat)
  case atStart => exact ⟨0, 1, by omega, rfl, rfl, (rfl : (1 : Int) = 2 ^ 0)⟩
  case round =>
    obtain ⟨j, Q, hj, rfl, rfl, hQ⟩ := hrel
    by_cases hlt : j < k
    · have hQ2 : Hid (Q * 2 = 2 ^ (j + 1)) := (by rw [hQ.out, Int.pow_succ] : Q * 2 = 2 ^ (j + 1))
      have hj0 : (0 : Int) ≤ j := by omega
      have hjk : (j : Int) < k := by omega
      obtain ⟨z1, z2⟩ : 0 ≤ Q ∧ Q ≤ 9223372036854775808 := by
        have := Rt.pow_bd j (by omega)
        rw [← hQ.out] at this
        omega
      have z3 : Q * 2 < 18446744073709551616 := by
        have := Rt.pow_bd (j + 1) (by omega)
        rw [← hQ2.out] at this
        omega
      go_wp2
      go_round
      case rel => exact ⟨j + 1, Q * 2, by omega, by go_num, rfl, hQ2.out⟩
      case measure => simp [intOf]; omega
    · obtain rfl : j = k := by omega
      obtain rfl : P = Q := HP.out.trans hQ.out.symm
      go_wp2_with fail
      refine (T1.out _).mono ?_
      rintro e w1 ⟨rfl, hb1⟩
      replace hb1 := Below.mono hb1 (B' := w.heap.size + 1) (by simp)
      have h0 : Below w.heap.size w w1 := ((Below.refl _ _).alloc (Nat.le_refl _) _).trans (hb1.mono (Nat.le_succ _))
      obtain ⟨e1, -⟩ := old_cells hb1
      have q1 : w1.cell? ⟨w.heap.size, 0, none⟩ = some (.int .u64 a) := by
        rw [e1 _ _ (Nat.lt_succ_self _)]
        simp [go_sem]
      have q2 : w1.cell? ⟨w.heap.size, 1, none⟩ = some (.int .u64 b) := by
        rw [e1 _ _ (Nat.lt_succ_self _)]
        simp [go_sem]
      have z1 : w.heap.size < w1.heap.size := by
        have := hb1.size
        simp at this
        omega
      have z2 : w.heap.size ≤ w1.heap.size := by omega
      clear e1 hb1
      have hW : Hid (Below w.heap.size w (w1.alloc (.cells #[.int .u64 (Rt.d0 X), .int .u64 (Rt.d1 X), .int .u64 (Rt.d2 X), .int .u64 (Rt.d3 X)] 35))) := (h0.alloc z2 _ : Below w.heap.size w (w1.alloc (.cells #[.int .u64 (Rt.d0 X), .int .u64 (Rt.d1 X), .int .u64 (Rt.d2 X), .int .u64 (Rt.d3 X)] 35)))
      go_wp2_with fail
      refine wp_region_later (w1.heap.size + 1) (w1.alloc (.cells #[.int .u64 (Rt.d0 X), .int .u64 (Rt.d1 X), .int .u64 (Rt.d2 X), .int .u64 (Rt.d3 X)] 35)) (by kernel_rfl) (by kernel_rfl) (Below.refl _ _) ?_
      repeat (go_big_quiet_step (first
        | ((with_reducible refine Calls.later ?_ (T2.out _)); simp)
        | ((with_reducible refine Calls.later ?_ (wcmp_any Y X _ HY.out.1 (by have := HY.out.2; omega) HX.out.1 (by have := HX.out.2; omega))); simp)))
      refine wpQuiet_nil ?_
      rintro _ ⟨n1, rfl⟩
      have hfin : Hid (∀ m : Later (w1.heap.size + 1) (w1.alloc (.cells #[.int .u64 (Rt.d0 X), .int .u64 (Rt.d1 X), .int .u64 (Rt.d2 X), .int .u64 (Rt.d3 X)] 35)), Below w.heap.size w m.world) := fun m => hW.out.trans (m.below.mono (by omega))
      by_cases hn0 : n = 0
      · have hnb : (n == 0) = true := by simp [hn0]
        clear hn0
        go_wp2_with fail
        refine wp_region_later (w1.heap.size + 1) (w1.alloc (.cells #[.int .u64 (Rt.d0 X), .int .u64 (Rt.d1 X), .int .u64 (Rt.d2 X), .int .u64 (Rt.d3 X)] 35)) (by kernel_rfl) (by kernel_rfl) n1.below ?_
        repeat (go_big_quiet_step (fail))
        refine wpQuiet_nil ?_
        rintro _ ⟨n2, rfl⟩
        go_wp2
        go_ret
        exact ⟨rfl, hfin.out n2⟩
      · have hnb : (n == 0) = false := by simp [hn0]
        have hn1 : 0 ≤ n - 1 := by omega
        have hn3 : n - 1 < 18446744073709551616 := by omega
        have hn4 : IntKind.u64.wrap (n - 1) = n - 1 := by rw [IntKind.wrap_u64]; omega
        have HZ := Lib.hid (Rt.mul_bd (n - 1) b hn1 hn3 (Int.le_of_lt hb) hb2)
        have T3 := Lib.hid (fun w => times_any (n - 1) b w hn1 hn3 (Int.le_of_lt hb) hb2)
        obtain ⟨Z, hZ⟩ : ∃ Z, Z = (n - 1) * b := ⟨_, rfl⟩
        rw [← hZ] at HZ T3 H2
        have hs2 : decide (Rt.sgn Z X < 0) = true := by
          rw [Rt.sgn_lt H2.out]
          decide
        clear hZ hn0
        go_wp2_with fail
        refine wp_region_later (w1.heap.size + 1) (w1.alloc (.cells #[.int .u64 (Rt.d0 X), .int .u64 (Rt.d1 X), .int .u64 (Rt.d2 X), .int .u64 (Rt.d3 X)] 35)) (by kernel_rfl) (by kernel_rfl) n1.below ?_
        repeat (go_big_quiet_step (first
          | ((with_reducible refine Calls.later ?_ (T3.out _)); simp)
          | ((with_reducible refine Calls.later ?_ (wcmp_any Z X _ HZ.out.1 (by have := HZ.out.2; omega) HX.out.1 (by have := HX.out.2; omega))); simp)))
        refine wpQuiet_nil ?_
        rintro _ ⟨n2, rfl⟩
        go_wp2
        go_ret
        exact ⟨rfl, hfin.out n2⟩
end Go.Proofs.Ythegadplakllkaa
