/-
  Plain arithmetic under math/bits.Div64: the long division by a number of two digits, its guess at a digit and how the guess is lowered.
-/
import Derived.Laws.BitsAll
import Derived.Laws.MathBits
namespace Go.Proofs.Ythegadplakllkaa.Rt

/-- Shifted so that its highest bit is set. -/
theorem norm_bd (y : Int) (S : Nat) (hy : 0 < y) (hS : S + bitLen y.toNat = 64) : 9223372036854775808 ≤ y * 2 ^ S ∧ y * 2 ^ S < 18446744073709551616 := by
  obtain ⟨n, rfl⟩ := Int.eq_ofNat_of_zero_le (Int.le_of_lt hy)
  rw [Int.toNat_natCast] at hS
  obtain ⟨h1, h2⟩ := bitLen_spec n
  have h3 := h2 (by omega)
  have hp : 0 < 2 ^ S := Nat.two_pow_pos S
  have h4 : n * 2 ^ S < 2 ^ bitLen n * 2 ^ S := Nat.mul_lt_mul_of_pos_right h1 hp
  have h5 : 2 ^ (bitLen n - 1) * 2 ^ S ≤ n * 2 ^ S := Nat.mul_le_mul_right _ h3
  have h6 : bitLen n ≠ 0 := by
    intro h
    rw [h] at h1
    simp at h1
    omega
  rw [← Nat.pow_add] at h4 h5
  rw [show bitLen n + S = 64 by omega] at h4
  rw [show bitLen n - 1 + S = 63 by omega] at h5
  have e : ((n : Int) * 2 ^ S) = ((n * 2 ^ S : Nat) : Int) := by simp
  rw [e]
  rw [show (2 : Nat) ^ 63 = 9223372036854775808 from rfl] at h5
  rw [show (2 : Nat) ^ 64 = 18446744073709551616 from rfl] at h4
  exact ⟨Int.ofNat_le.2 h5, Int.ofNat_lt.2 h4⟩

theorem norm_some (y : Int) (hy : 0 < y) (hy2 : y < 18446744073709551616) : ∃ S : Nat, S + bitLen y.toNat = 64 := by
  obtain ⟨-, h2⟩ := bitLen_spec y.toNat
  have h3 := h2 (by omega)
  have h4 : bitLen y.toNat ≤ 64 := by
    apply Nat.le_of_not_lt
    intro h
    have h5 : 2 ^ 64 ≤ 2 ^ (bitLen y.toNat - 1) := Nat.pow_le_pow_right (by decide) (by omega)
    omega
  exact ⟨64 - bitLen y.toNat, by omega⟩
theorem norm_le (y : Int) (S : Nat) (hy : 0 < y) (hS : S + bitLen y.toNat = 64) : S ≤ 63 := by
  obtain ⟨h1, -⟩ := bitLen_spec y.toNat
  have h6 : bitLen y.toNat ≠ 0 := by
    intro h
    rw [h] at h1
    simp at h1
    omega
  omega
theorem word_part (x y : Int) (hx : 0 ≤ x) (hx2 : x < 18446744073709551616) (hy : 0 < y) : 0 ≤ x / y ∧ x / y < 18446744073709551616 :=
  ⟨Int.ediv_nonneg hx (Int.le_of_lt hy), Int.lt_of_le_of_lt (Int.ediv_le_self y hx) hx2⟩

theorem pow_split (S : Nat) (hS : S ≤ 63) : (2 : Int) ^ (64 - S) * 2 ^ S = 18446744073709551616 := by
  rw [← Int.pow_add, show 64 - S + S = 64 by omega]
  rfl

/-- What the shifts make of a number of two words. -/
theorem shifted (hi lo y : Int) (S : Nat) (hS : S ≤ 63) (h0 : 0 ≤ hi) (hlt : hi < y) (hl0 : 0 ≤ lo) (hl : lo < 18446744073709551616) (hY : y * 2 ^ S < 18446744073709551616) :
    (0 ≤ hi * 2 ^ S ∧ hi * 2 ^ S < 18446744073709551616) ∧ 0 ≤ lo * 2 ^ S ∧ bits .or .u64 (hi * 2 ^ S) (lo / 2 ^ (64 - S)) = hi * 2 ^ S + lo / 2 ^ (64 - S) ∧
    (hi * 18446744073709551616 + lo) * 2 ^ S = (hi * 2 ^ S + lo / 2 ^ (64 - S)) * 18446744073709551616 + lo * 2 ^ S % 18446744073709551616 ∧ 0 ≤ hi * 2 ^ S + lo / 2 ^ (64 - S) ∧ hi * 2 ^ S + lo / 2 ^ (64 - S) < y * 2 ^ S := by
  have hp : (0 : Int) < 2 ^ S := Int.pow_pos (by decide)
  have hp2 : (0 : Int) < 2 ^ (64 - S) := Int.pow_pos (by decide)
  have hsp := pow_split S hS
  have e1 : lo * 2 ^ S / 18446744073709551616 = lo / 2 ^ (64 - S) := by rw [← hsp]; exact Int.mul_ediv_mul_of_pos_left _ _ hp
  have k1 : 0 ≤ lo / 2 ^ (64 - S) := Int.ediv_nonneg hl0 (Int.le_of_lt hp2)
  have k2 : lo / 2 ^ (64 - S) < 2 ^ S := by
    apply Int.ediv_lt_of_lt_mul hp2
    rw [Int.mul_comm, hsp]
    exact hl
  have k3 : hi * 2 ^ S + 2 ^ S ≤ y * 2 ^ S := by
    have := Int.mul_le_mul_of_nonneg_right (show hi + 1 ≤ y by omega) (Int.le_of_lt hp)
    rw [Int.add_mul, Int.one_mul] at this
    exact this
  have k4 : 0 ≤ hi * 2 ^ S := Int.mul_nonneg h0 (Int.le_of_lt hp)
  have k5 : 0 ≤ lo * 2 ^ S := Int.mul_nonneg hl0 (Int.le_of_lt hp)
  refine ⟨⟨k4, by omega⟩, k5, ?_, ?_, by omega, by omega⟩
  · rw [u64_or _ _ k4 (by omega) k1 (by omega)]
    obtain ⟨h, rfl⟩ := Int.eq_ofNat_of_zero_le h0
    obtain ⟨l, hl'⟩ := Int.eq_ofNat_of_zero_le k1
    rw [hl'] at k2 ⊢
    have e2 : ((h : Int) * 2 ^ S).toNat = 2 ^ S * h := by
      rw [show ((h : Int) * 2 ^ S) = ((2 ^ S * h : Nat) : Int) by simp [Int.mul_comm]]
      exact Int.toNat_natCast _
    have k6 : l < 2 ^ S := by exact_mod_cast k2
    rw [e2, Int.toNat_natCast, ← Nat.two_pow_add_eq_or_of_lt k6]
    simp [Int.mul_comm]
  · have e3 := Int.emod_add_mul_ediv (lo * 2 ^ S) 18446744073709551616
    rw [e1] at e3
    rw [Int.add_mul, Int.mul_right_comm hi, Int.add_mul]
    omega

/-- One digit of the long division: R by Y, the next digit d. -/
structure Digit (R d Y a b Q : Int) : Prop where
  r0 : 0 ≤ R
  rY : R < Y
  d0 : 0 ≤ d
  d1 : d ≤ 4294967295
  y0 : 9223372036854775808 ≤ Y
  y1 : Y < 18446744073709551616
  ya : a = Y / 4294967296
  yb : b = Y % 4294967296
  q : Q = (R * 4294967296 + d) / Y

theorem Digit.ab {R d Y a b Q : Int} (h : Digit R d Y a b Q) : 2147483648 ≤ a ∧ a ≤ 4294967295 ∧ 0 ≤ b ∧ b ≤ 4294967295 ∧ Y = a * 4294967296 + b := by
  obtain ⟨-, -, -, -, h1, h2, rfl, rfl, -⟩ := h
  omega
theorem Digit.qy {R d Y a b Q : Int} (h : Digit R d Y a b Q) : Q * Y ≤ R * 4294967296 + d ∧ R * 4294967296 + d < Q * Y + Y ∧ 0 ≤ Q ∧ Q ≤ 4294967295 := by
  have hy : 0 < Y := by have := h.y0; omega
  have h1 := Int.emod_add_mul_ediv (R * 4294967296 + d) Y
  have h2 := Int.emod_nonneg (R * 4294967296 + d) (Int.ne_of_gt hy)
  have h3 := Int.emod_lt_of_pos (R * 4294967296 + d) hy
  rw [← h.q, Int.mul_comm Y Q] at h1
  have h4 : 0 ≤ Q := by
    rw [h.q]
    have := h.r0
    have := h.d0
    exact Int.ediv_nonneg (by omega) (Int.le_of_lt hy)
  refine ⟨by omega, by omega, h4, ?_⟩
  have h5 : Q < 4294967296 := by
    rw [h.q]
    apply Int.ediv_lt_of_lt_mul hy
    have := h.rY
    have := h.d1
    omega
  omega

/-- The first guess. -/
theorem Digit.start {R d Y a b Q : Int} (h : Digit R d Y a b Q) : 0 ≤ R / a ∧ R / a < 18446744073709551616 ∧ 0 ≤ R / a * a ∧ R / a * a ≤ R ∧ R - R / a * a ≤ 4294967295 ∧ Q ≤ R / a := by
  obtain ⟨a1, a2, b1, b2, hY⟩ := h.ab
  obtain ⟨q1, q2, q3, q4⟩ := h.qy
  have ha : 0 < a := by omega
  have hR := h.r0
  have e := Int.emod_add_mul_ediv R a
  rw [Int.mul_comm] at e
  have m0 := Int.emod_nonneg R (Int.ne_of_gt ha)
  have m1 := Int.emod_lt_of_pos R ha
  have n0 := Int.ediv_nonneg hR (Int.le_of_lt ha)
  have n1 := Int.ediv_le_self a hR
  have hRY := h.rY
  have hy1 := h.y1
  refine ⟨n0, by omega, Int.mul_nonneg n0 (Int.le_of_lt ha), by omega, by omega, ?_⟩
  apply Int.le_ediv_of_mul_le ha
  -- Q a ≤ R
  have f1 : Q * Y = Q * a * 4294967296 + Q * b := by rw [hY, Int.mul_add, Int.mul_assoc]
  have f2 : 0 ≤ Q * b := Int.mul_nonneg q3 b1
  have := h.d1
  omega

/-- Is the guess too high? -/
theorem Digit.high {R d Y a b Q qh rh : Int} (h : Digit R d Y a b Q) (e : R = qh * a + rh) : Q < qh ↔ rh * 4294967296 + d < qh * b := by
  obtain ⟨a1, a2, b1, b2, hY⟩ := h.ab
  obtain ⟨q1, q2, q3, q4⟩ := h.qy
  have hy : 0 < Y := by omega
  have f1 : qh * Y = qh * a * 4294967296 + qh * b := by rw [hY, Int.mul_add, Int.mul_assoc]
  constructor
  · intro hlt
    have : (Q + 1) * Y ≤ qh * Y := Int.mul_le_mul_of_nonneg_right (by omega) (Int.le_of_lt hy)
    rw [Int.add_mul, Int.one_mul] at this
    omega
  · intro hlt
    have : Q * Y < qh * Y := by omega
    exact Int.lt_of_mul_lt_mul_right this (Int.le_of_lt hy)

/-- When what is left over passes a digit the guess is right. -/
theorem Digit.done {R d Y a b Q qh rh : Int} (h : Digit R d Y a b Q) (e : R = qh * a + rh) (hq : Q ≤ qh) (hr : 4294967296 ≤ rh) : qh = Q := by
  obtain ⟨a1, a2, b1, b2, hY⟩ := h.ab
  obtain ⟨q1, q2, q3, q4⟩ := h.qy
  have hRY := h.rY
  have hd := h.d0
  have h1 : qh * a < 4294967296 * a := by omega
  have h2 : qh < 4294967296 := Int.lt_of_mul_lt_mul_right h1 (by omega)
  have h3 : qh * b ≤ 4294967295 * b := Int.mul_le_mul_of_nonneg_right (by omega) b1
  have h4 : ¬ Q < qh := by
    rw [h.high e]
    omega
  omega
theorem Digit.right {R d Y a b Q qh rh : Int} (h : Digit R d Y a b Q) (e : R = qh * a + rh) (hq : Q ≤ qh) (hr : qh * b ≤ rh * 4294967296 + d) : qh = Q := by
  have h4 : ¬ Q < qh := by
    rw [h.high e]
    omega
  omega
/-- What is left behind the digit. -/
theorem Digit.rest {R d Y a b Q : Int} (h : Digit R d Y a b Q) : 0 ≤ R * 4294967296 + d - Q * Y ∧ R * 4294967296 + d - Q * Y < Y := by
  obtain ⟨q1, q2, q3, q4⟩ := h.qy
  omega
theorem step_back (R qh a rh : Int) (e : R = qh * a + rh) : R = (qh - 1) * a + (rh + a) := by
  rw [Int.sub_mul]
  omega

/-- Both digits together: the quotient. -/
theorem two_digits {hi lo y R L Y Q1 Q0 P : Int} (hP : 0 < P) (hY : Y = y * P) (hy : 0 < y) (hU : (hi * 18446744073709551616 + lo) * P = R * 18446744073709551616 + L)
    (h0 : Q0 = ((R * 4294967296 + L / 4294967296 - Q1 * Y) * 4294967296 + L % 4294967296) / Y) :
    Q1 * 4294967296 + Q0 = (hi * 18446744073709551616 + lo) / y := by
  have hYp : 0 < Y := by
    rw [hY]
    exact Int.mul_pos hy hP
  have e1 : (hi * 18446744073709551616 + lo) / y = (hi * 18446744073709551616 + lo) * P / Y := by
    rw [hY]
    exact (Int.mul_ediv_mul_of_pos_left _ _ hP).symm
  rw [e1, hU]
  have e2 : R * 18446744073709551616 + L = (R * 4294967296 + L / 4294967296 - Q1 * Y) * 4294967296 + L % 4294967296 + Q1 * 4294967296 * Y := by
    rw [Int.sub_mul, Int.mul_right_comm Q1 Y]
    omega
  rw [e2, Int.add_mul_ediv_right _ _ (Int.ne_of_gt hYp), ← h0, Int.add_comm]
end Go.Proofs.Ythegadplakllkaa.Rt
