/-
  Contracts of Len64, LeadingZeros64.
-/
import Derived.Test.YthegadplakllkaaWalksA
import Derived.Test.YthegadplakllkaaMathE
namespace Go.Proofs.Ythegadplakllkaa
open Go.ChangeShapes Go.WideShapes Go.ChangeAt Go.RowKit

theorem len_leaf (x y : Int) (s : Nat) (hy : y.toNat = x.toNat / 2 ^ s) (h1 : 1 ≤ y) (h2 : y < 256) (hs : s ≤ 56) : wrap64 ((s : Int) + wrap64 (bitLen y.toNat : Int)) = (bitLen x.toNat : Int) := by
  have h3 := bitLen_le8 y.toNat (by omega)
  have h4 : x.toNat / 2 ^ s ≠ 0 := by
    rw [← hy]
    omega
  have h5 := bitLen_shift x.toNat s h4
  rw [← hy] at h5
  rw [IntWalk.wrap64_in (bitLen y.toNat : Int) ⟨by omega, by omega⟩, IntWalk.wrap64_in _ ⟨by omega, by omega⟩]
  omega

set_option maxRecDepth 1000000 in
set_option maxHeartbeats 1000000 in
theorem len64_any (x : Int) (w : World) (hx : 0 ≤ x) (hx2 : x < 18446744073709551616) :
    Calls Try.prog 36 #[.int .u64 x] w fun e w' => e = .returned (.int .i64 (bitLen x.toNat)) ∧ w = w' := by
  go_enter Try.func36, Try.ntmps36
  go_wp2
  all_goals (go_ret; refine ⟨int_back ?_, rfl⟩; rw [len8tab_get])
  · exact len_leaf x _ 56 (by omega) (by omega) (by omega) (by omega)
  · exact len_leaf x _ 48 (by omega) (by omega) (by omega) (by omega)
  · exact len_leaf x _ 40 (by omega) (by omega) (by omega) (by omega)
  · exact len_leaf x _ 32 (by omega) (by omega) (by omega) (by omega)
  · exact len_leaf x _ 24 (by omega) (by omega) (by omega) (by omega)
  · exact len_leaf x _ 16 (by omega) (by omega) (by omega) (by omega)
  · exact len_leaf x _ 8 (by omega) (by omega) (by omega) (by omega)
  · have h3 := bitLen_le8 x.toNat (by omega)
    rw [IntWalk.wrap64_in (bitLen x.toNat : Int) ⟨by omega, by omega⟩, IntWalk.wrap64_in _ ⟨by omega, by omega⟩]

set_option maxHeartbeats 400000 in
theorem zeros_any (x : Int) (S : Nat) (w : World) (hx : 0 ≤ x) (hx2 : x < 18446744073709551616) (hS : S + bitLen x.toNat = 64) :
    Calls Try.prog 35 #[.int .u64 x] w fun e w' => e = .returned (.int .i64 S) ∧ w = w' := by
  have hb : (bitLen x.toNat : Int) ≤ 64 := by omega
  have hs : Hid ((64 : Int) - (bitLen x.toNat : Int) = (S : Int)) := (by omega : (64 : Int) - (bitLen x.toNat : Int) = (S : Int))
  have C := fun w => len64_any x w hx hx2
  clear hS
  generalize bitLen x.toNat = L at *
  go_enter Try.func35, Try.ntmps35
  go_wp2_with fail
  refine (C _).mono ?_
  clear C
  rintro e w' ⟨rfl, rfl⟩
  go_wp2
  go_ret
  exact ⟨int_back hs.out, rfl⟩

/-- What a division leaves: the quotient, and something. -/
def DivPost (w : World) (q : Int) (e : Ending) (w' : World) : Prop := ∃ r : Int, e = .returned (.tuple #[.int .u64 q, .int .u64 r]) ∧ Below w.heap.size w w'

set_option maxHeartbeats 4000000 in
theorem div64_any (hi lo y : Int) (w : World) (h0 : 0 ≤ hi) (hlt : hi < y) (hl0 : 0 ≤ lo) (hl : lo < 18446744073709551616) (hy2 : y < 18446744073709551616) :
    Calls Try.prog 33 #[.int .u64 hi, .int .u64 lo, .int .u64 y] w (DivPost w ((hi * 18446744073709551616 + lo) / y)) := by
  have hyp : 0 < y := by omega
  have hy0 : (y == 0) = false := by
    simp
    omega
  by_cases hz : hi = 0
  · subst hz
    have hyn : y ≠ 0 := by omega
    have hq : Hid (lo / y = (0 * 18446744073709551616 + lo) / y) := (by rw [Int.zero_mul, Int.zero_add] : lo / y = (0 * 18446744073709551616 + lo) / y)
    obtain ⟨p1, p2⟩ := Rt.word_part lo y hl0 hl hyp
    go_enter Try.func33, Try.ntmps33
    go_wp2
    go_quiet (fail)
    go_wp2
    go_ret2
    exact ⟨_, two_back hq.out rfl, below_drawn (Below.refl _ _)⟩
  · have hz0 : (hi == 0) = false := by simp [hz]
    obtain ⟨S, hS⟩ : ∃ S : Nat, S + bitLen y.toNat = 64 := Rt.norm_some y hyp hy2
    have hS2 : S ≤ 63 := Rt.norm_le y S hyp hS
    obtain ⟨n1, n2⟩ := Rt.norm_bd y S hyp hS
    obtain ⟨⟨g1, g2⟩, g3, g4, g5, g6, g7⟩ := Rt.shifted hi lo y S hS2 h0 hlt hl0 hl n2
    have C := Lib.hid (fun w => zeros_any y S w (by omega) hy2 hS)
    have hP0 : (0 : Int) < 2 ^ S := Int.pow_pos (by decide)
    have HP0 := Lib.hid hP0
    obtain ⟨Y, hY⟩ : ∃ Y, Y = y * 2 ^ S := ⟨_, rfl⟩
    obtain ⟨R, hR⟩ : ∃ R, R = hi * 2 ^ S + lo / 2 ^ (64 - S) := ⟨_, rfl⟩
    obtain ⟨L, hL⟩ : ∃ L, L = lo * 2 ^ S % 18446744073709551616 := ⟨_, rfl⟩
    rw [← hY] at n1 n2 g7
    rw [← hR] at g4 g5 g6 g7
    rw [← hL] at g5
    have l1 : 0 ≤ L := by omega
    have l2 : L < 18446744073709551616 := by omega
    have w1 : IntKind.u64.wrap (y * 2 ^ S) = Y := by rw [IntKind.wrap_u64, ← hY]; omega
    have w2 : IntKind.u64.wrap (hi * 2 ^ S) = hi * 2 ^ S := by rw [IntKind.wrap_u64]; omega
    have w3 : IntKind.u64.wrap (lo * 2 ^ S) = L := by rw [IntKind.wrap_u64, ← hL]
    obtain ⟨a, ha⟩ : ∃ a, a = Y / 4294967296 := ⟨_, rfl⟩
    obtain ⟨b, hb⟩ : ∃ b, b = Y % 4294967296 := ⟨_, rfl⟩
    obtain ⟨d1, hd1⟩ : ∃ d, d = L / 4294967296 := ⟨_, rfl⟩
    obtain ⟨d0, hd0⟩ : ∃ d, d = L % 4294967296 := ⟨_, rfl⟩
    obtain ⟨Q1, hQ1⟩ : ∃ Q, Q = (R * 4294967296 + d1) / Y := ⟨_, rfl⟩
    have D1 : Hid (Rt.Digit R d1 Y a b Q1) := (⟨g6, g7, by omega, by omega, n1, n2, ha, hb, hQ1⟩ : Rt.Digit R d1 Y a b Q1)
    obtain ⟨R1, hR1⟩ : ∃ R1, R1 = R * 4294967296 + d1 - Q1 * Y := ⟨_, rfl⟩
    obtain ⟨t1, t2⟩ := D1.out.rest
    rw [← hR1] at t1 t2
    obtain ⟨Q0, hQ0⟩ : ∃ Q, Q = (R1 * 4294967296 + d0) / Y := ⟨_, rfl⟩
    have D0 : Hid (Rt.Digit R1 d0 Y a b Q0) := (⟨t1, t2, by omega, by omega, n1, n2, ha, hb, hQ0⟩ : Rt.Digit R1 d0 Y a b Q0)
    have HFIN : Hid (Q1 * 4294967296 + Q0 = (hi * 18446744073709551616 + lo) / y) := (Rt.two_digits hP0 hY hyp g5 (by rw [← hd1, ← hd0, ← hR1]; exact hQ0) : Q1 * 4294967296 + Q0 = (hi * 18446744073709551616 + lo) / y)
    have w4 : Y / 4294967296 = a := ha.symm
    have w5 : bits .and .u64 Y 4294967295 = b := by rw [and_low32 Y (by omega) n2, hb]
    have w6 : L / 4294967296 = d1 := hd1.symm
    have w7 : bits .and .u64 L 4294967295 = d0 := by rw [and_low32 L l1 l2, hd0]
    have w8 : IntKind.u64.wrap (IntKind.u64.wrap (IntKind.u64.wrap (R * 4294967296) + d1) - IntKind.u64.wrap (Q1 * Y)) = R1 := by
      simp only [IntKind.wrap_u64]
      omega
    obtain ⟨a1, a2, b1, b2, -⟩ := D1.out.ab
    obtain ⟨-, -, v1, v2⟩ := D1.out.qy
    obtain ⟨-, -, v3, v4⟩ := D0.out.qy
    have e1 : 0 ≤ d1 := by omega
    have e2 : d1 ≤ 4294967295 := by omega
    have e3 : 0 ≤ d0 := by omega
    have e4 : d0 ≤ 4294967295 := by omega
    have hS3 : (S : Int) ≤ 63 := by omega
    have hS0 : (0 : Int) ≤ S := by omega
    generalize (hi * 18446744073709551616 + lo) / y = q at *
    clear hS hY hR hL ha hb hd1 hd0 hQ1 hR1 hQ0 g5 hP0 hz
    go_enter Try.func33, Try.ntmps33
    go_wp2_with fail
    refine (C.out _).mono ?_
    rintro e w' ⟨rfl, rfl⟩
    obtain ⟨s1, s2, s3, s4, s5, s6⟩ := D1.out.start
    go_wp2
    go_loop [15, 16] (fun t u => ∃ qh rh : Int, 0 ≤ qh ∧ qh < 18446744073709551616 ∧ 0 ≤ rh ∧ rh ≤ 4294967295 ∧ t = .int .u64 qh ∧ u = .int .u64 rh ∧ Hid (R = qh * a + rh) ∧ Hid (Q1 ≤ qh)) (fun t _ => (intOf t).toNat)
    case atStart => exact ⟨R / a, R - R / a * a, s1, s2, by omega, s5, rfl, rfl, (by omega : R = R / a * a + (R - R / a * a)), s6⟩
    case round =>
      obtain ⟨qh, rh, k1, k2, k3, k4, rfl, rfl, hR, hQ⟩ := hrel
      clear s1 s2 s3 s4 s5 s6
      by_cases hbig : 4294967296 ≤ qh
      · have hgt : Q1 < qh := by have := D1.out.qy.2.2.2; omega
        have hq0 := D1.out.qy.2.2.1
        have k5 : 1 ≤ qh := by omega
        have hb2 := Lib.hid (Rt.step_back _ _ _ _ hR.out)
        by_cases hbr : 4294967296 ≤ rh + a
        · have heq : qh - 1 = Q1 := D1.out.done hb2.out (by omega) hbr
          have s := D0.out.start
          obtain ⟨s1, s2, s3, s4, s5, s6⟩ := s
          go_wp2
          go_loop [16, 18] (fun u t => ∃ qh rh : Int, 0 ≤ qh ∧ qh < 18446744073709551616 ∧ 0 ≤ rh ∧ rh ≤ 4294967295 ∧ t = .int .u64 qh ∧ u = .int .u64 rh ∧ Hid (R1 = qh * a + rh) ∧ Hid (Q0 ≤ qh)) (fun _ t => (intOf t).toNat)
          case atStart => exact ⟨R1 / a, R1 - R1 / a * a, s1, s2, by omega, s5, rfl, rfl, (by omega : R1 = R1 / a * a + (R1 - R1 / a * a)), s6⟩
          case round =>
            obtain ⟨qh, rh, k1, k2, k3, k4, rfl, rfl, hR, hQ⟩ := hrel
            clear s1 s2 s3 s4 s5 s6
            by_cases hbig : 4294967296 ≤ qh
            · have hgt : Q0 < qh := by have := D0.out.qy.2.2.2; omega
              have hq0 := D0.out.qy.2.2.1
              have k5 : 1 ≤ qh := by omega
              have hb2 := Lib.hid (Rt.step_back _ _ _ _ hR.out)
              by_cases hbr : 4294967296 ≤ rh + a
              · have heq : qh - 1 = Q0 := D0.out.done hb2.out (by omega) hbr
                go_wp2
                go_ret2
                exact ⟨_, two_back HFIN.out rfl, Below.refl _ _⟩
              · go_wp2
                go_round
                case rel => exact ⟨qh - 1, rh + a, by omega, by omega, by omega, by omega, rfl, rfl, hb2.out, (by omega : _ ≤ qh - 1)⟩
                case measure => simp [intOf]; omega
            · have m0 : 0 ≤ qh * b := Int.mul_nonneg k1 b1
              have m1 : qh * b ≤ 4294967295 * 4294967295 := Int.mul_le_mul (by omega) b2 b1 (by omega)
              obtain ⟨m, hm⟩ : ∃ m, m = qh * b := ⟨_, rfl⟩
              rw [← hm] at m0 m1
              have Hm := Lib.hid hm
              have hm2 : qh * b = m := hm.symm
              clear hm
              by_cases hc : 4294967296 * rh + d0 < m
              · have hgt : Q0 < qh := (D0.out.high hR.out).2 (by rw [← Hm.out]; omega)
                have hq0 := D0.out.qy.2.2.1
                have k5 : 1 ≤ qh := by omega
                have hb2 := Lib.hid (Rt.step_back _ _ _ _ hR.out)
                by_cases hbr : 4294967296 ≤ rh + a
                · have heq : qh - 1 = Q0 := D0.out.done hb2.out (by omega) hbr
                  go_wp2
                  go_ret2
                  exact ⟨_, two_back HFIN.out rfl, Below.refl _ _⟩
                · go_wp2
                  go_round
                  case rel => exact ⟨qh - 1, rh + a, by omega, by omega, by omega, by omega, rfl, rfl, hb2.out, (by omega : _ ≤ qh - 1)⟩
                  case measure => simp [intOf]; omega
              · obtain rfl : Q0 = qh := (D0.out.right hR.out hQ.out (by rw [← Hm.out]; omega)).symm
                go_wp2
                go_ret2
                exact ⟨_, two_back HFIN.out rfl, Below.refl _ _⟩
        · go_wp2
          go_round
          case rel => exact ⟨qh - 1, rh + a, by omega, by omega, by omega, by omega, rfl, rfl, hb2.out, (by omega : _ ≤ qh - 1)⟩
          case measure => simp [intOf]; omega
      · have m0 : 0 ≤ qh * b := Int.mul_nonneg k1 b1
        have m1 : qh * b ≤ 4294967295 * 4294967295 := Int.mul_le_mul (by omega) b2 b1 (by omega)
        obtain ⟨m, hm⟩ : ∃ m, m = qh * b := ⟨_, rfl⟩
        rw [← hm] at m0 m1
        have Hm := Lib.hid hm
        have hm2 : qh * b = m := hm.symm
        clear hm
        by_cases hc : 4294967296 * rh + d1 < m
        · have hgt : Q1 < qh := (D1.out.high hR.out).2 (by rw [← Hm.out]; omega)
          have hq0 := D1.out.qy.2.2.1
          have k5 : 1 ≤ qh := by omega
          have hb2 := Lib.hid (Rt.step_back _ _ _ _ hR.out)
          by_cases hbr : 4294967296 ≤ rh + a
          · have heq : qh - 1 = Q1 := D1.out.done hb2.out (by omega) hbr
            have s := D0.out.start
            obtain ⟨s1, s2, s3, s4, s5, s6⟩ := s
            go_wp2
            go_loop [16, 18] (fun u t => ∃ qh rh : Int, 0 ≤ qh ∧ qh < 18446744073709551616 ∧ 0 ≤ rh ∧ rh ≤ 4294967295 ∧ t = .int .u64 qh ∧ u = .int .u64 rh ∧ Hid (R1 = qh * a + rh) ∧ Hid (Q0 ≤ qh)) (fun _ t => (intOf t).toNat)
            case atStart => exact ⟨R1 / a, R1 - R1 / a * a, s1, s2, by omega, s5, rfl, rfl, (by omega : R1 = R1 / a * a + (R1 - R1 / a * a)), s6⟩
            case round =>
              obtain ⟨qh, rh, k1, k2, k3, k4, rfl, rfl, hR, hQ⟩ := hrel
              clear s1 s2 s3 s4 s5 s6
              by_cases hbig : 4294967296 ≤ qh
              · have hgt : Q0 < qh := by have := D0.out.qy.2.2.2; omega
                have hq0 := D0.out.qy.2.2.1
                have k5 : 1 ≤ qh := by omega
                have hb2 := Lib.hid (Rt.step_back _ _ _ _ hR.out)
                by_cases hbr : 4294967296 ≤ rh + a
                · have heq : qh - 1 = Q0 := D0.out.done hb2.out (by omega) hbr
                  go_wp2
                  go_ret2
                  exact ⟨_, two_back HFIN.out rfl, Below.refl _ _⟩
                · go_wp2
                  go_round
                  case rel => exact ⟨qh - 1, rh + a, by omega, by omega, by omega, by omega, rfl, rfl, hb2.out, (by omega : _ ≤ qh - 1)⟩
                  case measure => simp [intOf]; omega
              · have m0 : 0 ≤ qh * b := Int.mul_nonneg k1 b1
                have m1 : qh * b ≤ 4294967295 * 4294967295 := Int.mul_le_mul (by omega) b2 b1 (by omega)
                obtain ⟨m, hm⟩ : ∃ m, m = qh * b := ⟨_, rfl⟩
                rw [← hm] at m0 m1
                have Hm := Lib.hid hm
                have hm2 : qh * b = m := hm.symm
                clear hm
                by_cases hc : 4294967296 * rh + d0 < m
                · have hgt : Q0 < qh := (D0.out.high hR.out).2 (by rw [← Hm.out]; omega)
                  have hq0 := D0.out.qy.2.2.1
                  have k5 : 1 ≤ qh := by omega
                  have hb2 := Lib.hid (Rt.step_back _ _ _ _ hR.out)
                  by_cases hbr : 4294967296 ≤ rh + a
                  · have heq : qh - 1 = Q0 := D0.out.done hb2.out (by omega) hbr
                    go_wp2
                    go_ret2
                    exact ⟨_, two_back HFIN.out rfl, Below.refl _ _⟩
                  · go_wp2
                    go_round
                    case rel => exact ⟨qh - 1, rh + a, by omega, by omega, by omega, by omega, rfl, rfl, hb2.out, (by omega : _ ≤ qh - 1)⟩
                    case measure => simp [intOf]; omega
                · obtain rfl : Q0 = qh := (D0.out.right hR.out hQ.out (by rw [← Hm.out]; omega)).symm
                  go_wp2
                  go_ret2
                  exact ⟨_, two_back HFIN.out rfl, Below.refl _ _⟩
          · go_wp2
            go_round
            case rel => exact ⟨qh - 1, rh + a, by omega, by omega, by omega, by omega, rfl, rfl, hb2.out, (by omega : _ ≤ qh - 1)⟩
            case measure => simp [intOf]; omega
        · obtain rfl : Q1 = qh := (D1.out.right hR.out hQ.out (by rw [← Hm.out]; omega)).symm
          have s := D0.out.start
          obtain ⟨s1, s2, s3, s4, s5, s6⟩ := s
          go_wp2
          go_loop [16, 18] (fun u t => ∃ qh rh : Int, 0 ≤ qh ∧ qh < 18446744073709551616 ∧ 0 ≤ rh ∧ rh ≤ 4294967295 ∧ t = .int .u64 qh ∧ u = .int .u64 rh ∧ Hid (R1 = qh * a + rh) ∧ Hid (Q0 ≤ qh)) (fun _ t => (intOf t).toNat)
          case atStart => exact ⟨R1 / a, R1 - R1 / a * a, s1, s2, by omega, s5, rfl, rfl, (by omega : R1 = R1 / a * a + (R1 - R1 / a * a)), s6⟩
          case round =>
            obtain ⟨qh, rh, k1, k2, k3, k4, rfl, rfl, hR, hQ⟩ := hrel
            clear s1 s2 s3 s4 s5 s6
            by_cases hbig : 4294967296 ≤ qh
            · have hgt : Q0 < qh := by have := D0.out.qy.2.2.2; omega
              have hq0 := D0.out.qy.2.2.1
              have k5 : 1 ≤ qh := by omega
              have hb2 := Lib.hid (Rt.step_back _ _ _ _ hR.out)
              by_cases hbr : 4294967296 ≤ rh + a
              · have heq : qh - 1 = Q0 := D0.out.done hb2.out (by omega) hbr
                go_wp2
                go_ret2
                exact ⟨_, two_back HFIN.out rfl, Below.refl _ _⟩
              · go_wp2
                go_round
                case rel => exact ⟨qh - 1, rh + a, by omega, by omega, by omega, by omega, rfl, rfl, hb2.out, (by omega : _ ≤ qh - 1)⟩
                case measure => simp [intOf]; omega
            · have m0 : 0 ≤ qh * b := Int.mul_nonneg k1 b1
              have m1 : qh * b ≤ 4294967295 * 4294967295 := Int.mul_le_mul (by omega) b2 b1 (by omega)
              obtain ⟨m, hm⟩ : ∃ m, m = qh * b := ⟨_, rfl⟩
              rw [← hm] at m0 m1
              have Hm := Lib.hid hm
              have hm2 : qh * b = m := hm.symm
              clear hm
              by_cases hc : 4294967296 * rh + d0 < m
              · have hgt : Q0 < qh := (D0.out.high hR.out).2 (by rw [← Hm.out]; omega)
                have hq0 := D0.out.qy.2.2.1
                have k5 : 1 ≤ qh := by omega
                have hb2 := Lib.hid (Rt.step_back _ _ _ _ hR.out)
                by_cases hbr : 4294967296 ≤ rh + a
                · have heq : qh - 1 = Q0 := D0.out.done hb2.out (by omega) hbr
                  go_wp2
                  go_ret2
                  exact ⟨_, two_back HFIN.out rfl, Below.refl _ _⟩
                · go_wp2
                  go_round
                  case rel => exact ⟨qh - 1, rh + a, by omega, by omega, by omega, by omega, rfl, rfl, hb2.out, (by omega : _ ≤ qh - 1)⟩
                  case measure => simp [intOf]; omega
              · obtain rfl : Q0 = qh := (D0.out.right hR.out hQ.out (by rw [← Hm.out]; omega)).symm
                go_wp2
                go_ret2
                exact ⟨_, two_back HFIN.out rfl, Below.refl _ _⟩
end Go.Proofs.Ythegadplakllkaa
