/-
  Plain arithmetic of words, the last part: what is put is what the bits say, it is got, and it leaves other fields alone.
-/
import Derived.Test.YtlnpnflmcgkfoaaMathB
namespace Go.Proofs.Ytlnpnflmcgkfoaa.Fd

theorem bit_nat (m : Nat) (i : Int) (_h : 0 ≤ i) : bit m i = m.testBit i.toNat := by
  rw [Nat.testBit_eq_decide_div_mod_eq, bit]
  have : ((m : Int) / 2 ^ i.toNat % 2) = ((m / 2 ^ i.toNat % 2 : Nat) : Int) := by simp
  rw [this, Bool.eq_iff_iff]
  simp only [beq_iff_eq, decide_eq_true_eq]
  omega
theorem mask_bits (a s i : Nat) : ((2 ^ s - 1) * 2 ^ a).testBit i = decide (a ≤ i ∧ i < a + s) := by
  rw [Nat.testBit_mul_two_pow, Nat.testBit_two_pow_sub_one, Bool.eq_iff_iff]
  simp
  omega
theorem mask_lt (a s : Nat) (h : a + s ≤ 64) : (2 ^ s - 1) * 2 ^ a < 2 ^ 64 := by
  have h1 : (2 : Nat) ^ s * 2 ^ a ≤ 2 ^ 64 := by rw [← Nat.pow_add]; exact Nat.pow_le_pow_right (by decide) (by omega)
  have h2 : 0 < (2 : Nat) ^ a := Nat.pow_pos (by decide)
  have h3 : 0 < (2 : Nat) ^ s := Nat.pow_pos (by decide)
  have h4 : ((2 : Nat) ^ s - 1) * 2 ^ a < 2 ^ s * 2 ^ a := Nat.mul_lt_mul_of_pos_right (by omega) h2
  omega
theorem put_bits (a s x n i : Nat) (h : a + s ≤ 64) (hx : x < 2 ^ 64) (hn : n < 2 ^ s) :
    (putN a s x n).testBit i = if a ≤ i ∧ i < a + s then n.testBit (i - a) else x.testBit i := by
  have hm := mask_lt a s h
  have e : 18446744073709551615 - (2 ^ s - 1) * 2 ^ a = 2 ^ 64 - ((2 ^ s - 1) * 2 ^ a + 1) := by omega
  rw [putN, e, Nat.testBit_or, Nat.testBit_and, Nat.testBit_two_pow_sub_succ hm, mask_bits, Nat.testBit_mul_two_pow]
  by_cases h1 : a ≤ i ∧ i < a + s
  · simp [h1]
  · rw [if_neg h1]
    have h2 : (decide (a ≤ i) && n.testBit (i - a)) = false := by
      by_cases h3 : a ≤ i
      · have h4 : n < 2 ^ (i - a) := Nat.lt_of_lt_of_le hn (Nat.pow_le_pow_right (by decide) (by omega))
        simp [Nat.testBit_lt_two_pow h4]
      · simp [h3]
    have h5 : decide (a ≤ i ∧ i < a + s) = false := by simpa using h1
    rw [h2, h5]
    by_cases h6 : i < 64
    · simp [h6]
    · have h7 : x < 2 ^ i := Nat.lt_of_lt_of_le hx (Nat.pow_le_pow_right (by decide) (by omega))
      simp [Nat.testBit_lt_two_pow h7]
theorem putN_lt (a s x n : Nat) (h : a + s ≤ 64) (_hx : x < 2 ^ 64) (hn : n < 2 ^ s) : putN a s x n < 2 ^ 64 := by
  unfold putN
  refine Nat.or_lt_two_pow (Nat.and_lt_two_pow _ (by omega)) ?_
  have h2 : 0 < (2 : Nat) ^ a := Nat.pow_pos (by decide)
  have h1 : (2 : Nat) ^ s * 2 ^ a ≤ 2 ^ 64 := by rw [← Nat.pow_add]; exact Nat.pow_le_pow_right (by decide) (by omega)
  have h4 : n * 2 ^ a < 2 ^ s * 2 ^ a := Nat.mul_lt_mul_of_pos_right hn h2
  omega

theorem fits_nat {a s n : Int} (h : fits a s n = true) (h0 : 0 ≤ n) : right a s = true ∧ a.toNat + s.toNat ≤ 64 ∧ n.toNat < 2 ^ s.toNat ∧ n ≤ 2 ^ s.toNat - 1 := by
  simp only [fits, Bool.and_eq_true, decide_eq_true_eq] at h
  obtain ⟨hr, hn⟩ := h
  have h' := hr
  simp [right] at h'
  rw [most, if_pos hr] at hn
  refine ⟨hr, by omega, ?_, hn⟩
  have : ((2 : Int) ^ s.toNat) = ((2 ^ s.toNat : Nat) : Int) := by simp
  omega
theorem put_bd (a s x n : Int) (h0 : 0 ≤ x) (h1 : x < 18446744073709551616) (h2 : 0 ≤ n) : 0 ≤ put a s x n ∧ put a s x n < 18446744073709551616 := by
  unfold put
  split
  · rename_i h
    obtain ⟨_, e1, e2, _⟩ := fits_nat h h2
    have := putN_lt a.toNat s.toNat x.toNat n.toNat e1 (by omega) e2
    omega
  · omega
/-- The code's way: by masks. -/
theorem put_code (a s x n : Int) (h : fits a s n = true) (h0 : 0 ≤ x) (h1 : x < 18446744073709551616) (h2 : 0 ≤ n) :
    bits .or .u64 (bits .andNot .u64 x (mask a s)) (IntKind.u64.wrap (n * 2 ^ a.toNat)) = put a s x n := by
  obtain ⟨hr, e1, e2, _⟩ := fits_nat h h2
  have hm := mask_lt a.toNat s.toNat e1
  have em : mask a s = (((2 ^ s.toNat - 1) * 2 ^ a.toNat : Nat) : Int) := by
    rw [mask, if_pos hr]
    have h3 : 0 < (2 : Nat) ^ s.toNat := Nat.pow_pos (by decide)
    rw [Int.natCast_mul, Int.natCast_sub (by omega)]
    simp
  have hn : n * 2 ^ a.toNat = ((n.toNat * 2 ^ a.toNat : Nat) : Int) := by
    rw [Int.natCast_mul, Int.toNat_of_nonneg h2]; simp
  have h5 : 0 < (2 : Nat) ^ a.toNat := Nat.pow_pos (by decide)
  have h6 : (2 : Nat) ^ s.toNat * 2 ^ a.toNat ≤ 2 ^ 64 := by rw [← Nat.pow_add]; exact Nat.pow_le_pow_right (by decide) (by omega)
  have h7 : n.toNat * 2 ^ a.toNat < 2 ^ s.toNat * 2 ^ a.toNat := Nat.mul_lt_mul_of_pos_right e2 h5
  rw [em, hn, IntKind.wrap_u64, Int.emod_eq_of_lt (by omega) (by omega), put, if_pos h]
  rw [u64_andNot _ _ h0 h1 (by omega) (by omega), Int.toNat_natCast]
  have h8 : x.toNat &&& (18446744073709551615 - (2 ^ s.toNat - 1) * 2 ^ a.toNat) < 2 ^ 64 := Nat.and_lt_two_pow _ (by omega)
  rw [u64_or _ _ (by omega) (by omega) (by omega) (by omega), Int.toNat_natCast, Int.toNat_natCast, putN]
/-- The document's way: bit by bit. -/
theorem put_bit (a s x n i : Int) (h : fits a s n = true) (h0 : 0 ≤ x) (h1 : x < 18446744073709551616) (h2 : 0 ≤ n) (hi : 0 ≤ i) :
    bit (put a s x n) i = if a ≤ i ∧ i < a + s then bit n (i - a) else bit x i := by
  obtain ⟨hr, e1, e2, _⟩ := fits_nat h h2
  simp [right] at hr
  rw [put, if_pos h, bit_nat _ _ hi, put_bits _ _ _ _ _ e1 (by omega) e2]
  obtain ⟨m, rfl⟩ := Int.eq_ofNat_of_zero_le h2
  obtain ⟨y, rfl⟩ := Int.eq_ofNat_of_zero_le h0
  by_cases hc : a ≤ i ∧ i < a + s
  · rw [if_pos hc, if_pos (by omega), bit_nat _ _ (by omega), Int.toNat_natCast]
    congr 1; omega
  · rw [if_neg hc, if_neg (by omega), bit_nat _ _ hi, Int.toNat_natCast]
theorem nat_get (a s : Int) (x : Nat) (h : right a s = true) : get a s x = ((x / 2 ^ a.toNat % 2 ^ s.toNat : Nat) : Int) := by
  rw [get, if_pos h]; simp
/-- What is put is got. -/
theorem get_put (a s x n : Int) (h : fits a s n = true) (h0 : 0 ≤ x) (h1 : x < 18446744073709551616) (h2 : 0 ≤ n) : get a s (put a s x n) = n := by
  obtain ⟨hr, e1, e2, _⟩ := fits_nat h h2
  rw [put, if_pos h, nat_get _ _ _ hr]
  have : putN a.toNat s.toNat x.toNat n.toNat / 2 ^ a.toNat % 2 ^ s.toNat = n.toNat := by
    refine Nat.eq_of_testBit_eq fun i => ?_
    rw [Nat.testBit_mod_two_pow, Nat.testBit_div_two_pow, put_bits _ _ _ _ _ e1 (by omega) e2]
    by_cases hi : i < s.toNat
    · rw [if_pos (by omega)]; simp [hi]
    · have h7 : n.toNat < 2 ^ i := Nat.lt_of_lt_of_le e2 (Nat.pow_le_pow_right (by decide) (by omega))
      simp [hi, Nat.testBit_lt_two_pow h7]
  rw [this]; omega
/-- Whether two fields have no bit in common. -/
def apart (a s b t : Int) : Bool := !(right a s && right b t && decide (a < b + t ∧ b < a + s))
/-- A number that is put leaves what stands in fields apart from it. -/
theorem get_apart (a s b t x n : Int) (h : fits a s n = true) (hp : apart b t a s = true) (h0 : 0 ≤ x) (h1 : x < 18446744073709551616) (h2 : 0 ≤ n) :
    get b t (put a s x n) = get b t x := by
  obtain ⟨hr, e1, e2, _⟩ := fits_nat h h2
  by_cases hr2 : right b t = true
  · simp only [apart, hr, hr2, Bool.and_self, Bool.true_and, Bool.not_eq_true', decide_eq_false_iff_not] at hp
    simp [right] at hr hr2
    have hr3 : right b t = true := by simp [right]; omega
    obtain ⟨y, rfl⟩ := Int.eq_ofNat_of_zero_le h0
    rw [put, if_pos h, nat_get _ _ _ hr3, nat_get _ _ _ hr3]
    congr 1
    refine Nat.eq_of_testBit_eq fun i => ?_
    rw [Nat.testBit_mod_two_pow, Nat.testBit_div_two_pow, Nat.testBit_mod_two_pow, Nat.testBit_div_two_pow, put_bits _ _ _ _ _ e1 (by omega) e2]
    by_cases hi : i < t.toNat
    · rw [if_neg (by omega), Int.toNat_natCast]
    · simp [hi]
  · rw [get, if_neg hr2, get, if_neg hr2]
theorem mask_code (a s : Int) (h : right a s = true) : IntKind.u64.wrap (most a s * 2 ^ a.toNat) = mask a s := by
  have h' := h
  simp [right] at h'
  have hm := mask_lt a.toNat s.toNat (by omega)
  have e : (2 ^ s.toNat - 1 : Int) * 2 ^ a.toNat = (((2 ^ s.toNat - 1) * 2 ^ a.toNat : Nat) : Int) := by
    have h3 : 0 < (2 : Nat) ^ s.toNat := Nat.pow_pos (by decide)
    rw [Int.natCast_mul, Int.natCast_sub (by omega)]
    simp
  rw [most, if_pos h, mask, if_pos h, e, IntKind.wrap_u64]
  exact Int.emod_eq_of_lt (by omega) (by omega)
theorem mask_bd (a s : Int) : 0 ≤ mask a s ∧ mask a s < 18446744073709551616 := by
  by_cases h : right a s = true
  · rw [← mask_code a s h, IntKind.wrap_u64]; omega
  · rw [mask, if_neg h]; omega
theorem awake : put 8 4 0 5 = 1280 := by decide
end Go.Proofs.Ytlnpnflmcgkfoaa.Fd
