/-
  Plain arithmetic of package ratio: the greatest common divisor of two words, how many rounds it takes, the parts of a product, what is made of two numbers.
-/
namespace Go.Proofs.Ytbeckgdocnofhaa.Rt

/-- The greatest common divisor, of integers that are not below nought. -/
def gcd (a b : Int) : Int := ((Nat.gcd a.toNat b.toNat : Nat) : Int)

theorem gcd_step (a b : Int) (ha : 0 ≤ a) (hb : 0 < b) : gcd b (a % b) = gcd a b := by
  obtain ⟨m, rfl⟩ := Int.eq_ofNat_of_zero_le ha
  obtain ⟨n, rfl⟩ := Int.eq_ofNat_of_zero_le (Int.le_of_lt hb)
  have e : ((m : Int) % (n : Int)).toNat = m % n := by
    rw [← Int.natCast_emod]; exact Int.toNat_natCast _
  unfold gcd
  rw [e, Int.toNat_natCast, Int.toNat_natCast, Nat.gcd_comm m n, Nat.gcd_rec n m, Nat.gcd_comm]
theorem gcd_zero (a : Int) (ha : 0 ≤ a) : gcd a 0 = a := by
  unfold gcd
  simp
  omega
theorem gcd_nonneg (a b : Int) : 0 ≤ gcd a b := by unfold gcd; omega
theorem gcd_pos (a b : Int) (hb : 0 < b) : 0 < gcd a b := by
  unfold gcd
  have := Nat.gcd_pos_of_pos_right a.toNat (n := b.toNat) (by omega)
  omega
theorem gcd_le (a b : Int) (hb : 0 < b) : gcd a b ≤ b := by
  unfold gcd
  have := Nat.gcd_le_right a.toNat (n := b.toNat) (by omega)
  omega
theorem gcd_le_left (a b : Int) (hb : 0 < a) : gcd a b ≤ a := by
  unfold gcd
  have := Nat.gcd_le_left b.toNat (m := a.toNat) (by omega)
  omega
theorem gcd_bd (a b : Int) (ha : 0 ≤ a) (ha2 : a < 18446744073709551616) (hb : 0 ≤ b) (hb2 : b < 18446744073709551616) : 0 ≤ gcd a b ∧ gcd a b < 18446744073709551616 := by
  refine ⟨gcd_nonneg a b, ?_⟩
  by_cases h : 0 < b
  · exact Int.lt_of_le_of_lt (gcd_le a b h) hb2
  · have : b = 0 := by omega
    subst this
    rw [gcd_zero a ha]; exact ha2
theorem gcd_dvd (a b : Int) (ha : 0 ≤ a) (hb : 0 ≤ b) : gcd a b ∣ a ∧ gcd a b ∣ b := by
  unfold gcd
  constructor
  · exact Int.ofNat_dvd_left.2 (by have := Nat.gcd_dvd_left a.toNat b.toNat; rwa [show a.natAbs = a.toNat by omega])
  · exact Int.ofNat_dvd_left.2 (by have := Nat.gcd_dvd_right a.toNat b.toNat; rwa [show b.natAbs = b.toNat by omega])

/-- A number by a divisor of it is a word, if the number is. -/
theorem part_bd (a g : Int) (ha : 0 ≤ a) (ha2 : a < 18446744073709551616) (hg : 0 < g) : 0 ≤ a / g ∧ a / g < 18446744073709551616 := by
  refine ⟨Int.ediv_nonneg ha (Int.le_of_lt hg), ?_⟩
  exact Int.lt_of_le_of_lt (Int.ediv_le_self g ha) ha2

/-- How far Euclid's rounds have come: at round k, of two words. -/
def Far (k : Nat) (x y : Int) : Prop := k = 0 ∨ (y < x ∧ x * y * 2 ^ (k - 1) < 340282366920938463463374607431768211456)

theorem half_mod (x y : Int) (hy : 0 < y) (hx : y < x) : 2 * (x % y) < x := by
  have h1 := Int.emod_lt_of_pos x hy
  have h2 := Int.emod_add_mul_ediv x y
  have h3 : 1 ≤ x / y := Int.le_ediv_of_mul_le hy (by omega)
  have h4 : y * 1 ≤ y * (x / y) := Int.mul_le_mul_of_nonneg_left h3 (Int.le_of_lt hy)
  omega

theorem far_step (k : Nat) (x y : Int) (hy : 0 < y) (hy2 : y < 18446744073709551616) (h : Far k x y) : Far (k + 1) y (x % y) := by
  right
  have h1 := Int.emod_lt_of_pos x hy
  have h0 := Int.emod_nonneg x (Int.ne_of_gt hy)
  refine ⟨h1, ?_⟩
  rw [Nat.add_sub_cancel]
  rcases h with rfl | ⟨hlt, hp⟩
  · rw [Int.pow_zero, Int.mul_one]
    calc y * (x % y) ≤ y * y := Int.mul_le_mul_of_nonneg_left (by omega) (by omega)
      _ ≤ y * 18446744073709551615 := Int.mul_le_mul_of_nonneg_left (by omega) (by omega)
      _ < _ := by omega
  · cases k with
    | zero =>
      rw [Int.pow_zero, Int.mul_one]
      calc y * (x % y) ≤ y * y := Int.mul_le_mul_of_nonneg_left (by omega) (by omega)
        _ ≤ y * 18446744073709551615 := Int.mul_le_mul_of_nonneg_left (by omega) (by omega)
        _ < _ := by omega
    | succ j =>
      rw [Nat.add_sub_cancel] at hp
      have h2 := half_mod x y hy hlt
      have h3 : y * (2 * (x % y)) ≤ y * x := Int.mul_le_mul_of_nonneg_left (by omega) (by omega)
      have hpow : (0 : Int) ≤ 2 ^ j := Int.pow_nonneg (by omega)
      have h4 := Int.mul_le_mul_of_nonneg_right h3 hpow
      have h5 : y * (x % y) * 2 ^ (j + 1) = y * (2 * (x % y)) * 2 ^ j := by
        rw [Int.pow_succ]; simp only [Int.mul_comm, Int.mul_assoc]
      rw [h5]
      rw [Int.mul_comm x y] at hp
      omega

theorem far_end (x y : Int) (hy : 0 ≤ y) (hx : 0 ≤ x) (h : Far 200 x y) : y = 0 := by
  rcases h with h | ⟨hlt, hp⟩
  · omega
  · by_cases h0 : y = 0
    · exact h0
    · exfalso
      have h1 : 1 ≤ x * y := Int.le_trans (by omega : (1 : Int) ≤ 1 * 1) (Int.mul_le_mul (by omega) (by omega) (by omega) hx)
      have h2 : 1 * (2 : Int) ^ (200 - 1) ≤ x * y * 2 ^ (200 - 1) := Int.mul_le_mul_of_nonneg_right h1 (by decide)
      have h3 : (340282366920938463463374607431768211456 : Int) ≤ 1 * 2 ^ (200 - 1) := by decide
      omega

/-- Is a fraction as it is made? -/
def ok (num den : Int) : Bool := decide (0 < den) && decide (gcd num den = 1)

theorem ok_made (num den : Int) (hn : 0 ≤ num) (hd : 0 < den) : ok (num / gcd num den) (den / gcd num den) = true := by
  have hg := gcd_pos num den hd
  have hle := gcd_le num den hd
  have h1 : 0 < den / gcd num den := Int.ediv_pos_of_pos_of_dvd hd (Int.le_of_lt hg) (gcd_dvd num den hn (by omega)).2
  simp only [ok, h1, decide_true, Bool.true_and, decide_eq_true_eq]
  obtain ⟨m, rfl⟩ := Int.eq_ofNat_of_zero_le hn
  obtain ⟨n, rfl⟩ := Int.eq_ofNat_of_zero_le (Int.le_of_lt hd)
  unfold gcd at hg ⊢
  simp only [Int.toNat_natCast] at hg ⊢
  rw [← Int.natCast_ediv, ← Int.natCast_ediv, Int.toNat_natCast, Int.toNat_natCast]
  have := Nat.coprime_div_gcd_div_gcd (m := m) (n := n) (by omega)
  rw [Nat.coprime_iff_gcd_eq_one] at this
  rw [this]; rfl

/-- A number's four digits of 32 bits, the least first. -/
def d0 (n : Int) : Int := n % 4294967296
def d1 (n : Int) : Int := n / 4294967296 % 4294967296
def d2 (n : Int) : Int := n / 18446744073709551616 % 4294967296
def d3 (n : Int) : Int := n / 79228162514264337593543950336

theorem d_bd (n : Int) (hn : 0 ≤ n) (hn2 : n < 340282366920938463463374607431768211456) : (0 ≤ d0 n ∧ d0 n ≤ 4294967295) ∧ (0 ≤ d1 n ∧ d1 n ≤ 4294967295) ∧ (0 ≤ d2 n ∧ d2 n ≤ 4294967295) ∧ 0 ≤ d3 n ∧ d3 n ≤ 4294967295 := by
  unfold d0 d1 d2 d3
  omega
theorem d_sum (n : Int) : n = d0 n + d1 n * 4294967296 + d2 n * 18446744073709551616 + d3 n * 79228162514264337593543950336 := by
  unfold d0 d1 d2 d3
  omega

/-- Which of two numbers is less. -/
def sgn (n m : Int) : Int := if n < m then -1 else if m < n then 1 else 0
theorem sgn_lt {n m : Int} (h : n < m) : sgn n m = -1 := by simp [sgn, h]
theorem sgn_gt {n m : Int} (h : m < n) : sgn n m = 1 := by
  have : ¬ n < m := by omega
  simp [sgn, h, this]
theorem sgn_eq {n m : Int} (h : n = m) : sgn n m = 0 := by
  subst h
  simp [sgn]

theorem halves_mul (x1 x0 y1 y0 : Int) : (x1 * 4294967296 + x0) * (y1 * 4294967296 + y0) = x1 * y1 * 18446744073709551616 + (x1 * y0 + x0 * y1) * 4294967296 + x0 * y0 := by
  rw [Int.add_mul, Int.mul_add, Int.mul_add, Int.add_mul]
  have e1 : x1 * 4294967296 * (y1 * 4294967296) = x1 * y1 * 18446744073709551616 := by
    rw [Int.mul_assoc, Int.mul_left_comm 4294967296 y1, ← Int.mul_assoc]; rfl
  have e2 : x1 * 4294967296 * y0 = x1 * y0 * 4294967296 := by rw [Int.mul_assoc, Int.mul_comm 4294967296 y0, ← Int.mul_assoc]
  have e3 : x0 * (y1 * 4294967296) = x0 * y1 * 4294967296 := by rw [Int.mul_assoc]
  rw [e1, e2, e3]
  omega

/-- What the school's method makes of two words' halves: their product's digits. -/
theorem times_digits {x y x0 x1 y0 y1 o0 o1 o2 o3 o4 : Int} (hx0 : x0 = x % 4294967296) (hx1 : x1 = x / 4294967296) (hy0 : y0 = y % 4294967296) (hy1 : y1 = y / 4294967296)
    (ho0 : o0 = x0 * y0 % 4294967296) (ho1 : o1 = (x0 * y1 + x0 * y0 / 4294967296) % 4294967296) (ho2 : o2 = (x0 * y1 + x0 * y0 / 4294967296) / 4294967296)
    (ho3 : o3 = (x1 * y0 + o1) % 4294967296) (ho4 : o4 = (x1 * y0 + o1) / 4294967296) :
    o0 = d0 (x * y) ∧ o3 = d1 (x * y) ∧ (x1 * y1 + o2 + o4) % 4294967296 = d2 (x * y) ∧ (x1 * y1 + o2 + o4) / 4294967296 = d3 (x * y) := by
  have ex : x = x1 * 4294967296 + x0 := by omega
  have ey : y = y1 * 4294967296 + y0 := by omega
  rw [ex, ey, halves_mul]
  clear ex ey hx0 hx1 hy0 hy1
  unfold d0 d1 d2 d3
  subst ho0 ho1 ho2 ho3 ho4
  generalize x0 * y0 = a
  generalize x0 * y1 = b
  generalize x1 * y0 = c
  generalize x1 * y1 = d
  omega

/-- What adding digit by digit makes: the sum's digits, but for what is above the highest. -/
theorem plus_digits {n m n0 n1 n2 n3 m0 m1 m2 m3 o0 o1 o2 o3 c0 c1 c2 : Int} (hn : n = n0 + n1 * 4294967296 + n2 * 18446744073709551616 + n3 * 79228162514264337593543950336)
    (hm : m = m0 + m1 * 4294967296 + m2 * 18446744073709551616 + m3 * 79228162514264337593543950336)
    (h0 : o0 = (n0 + m0) % 4294967296) (k0 : c0 = (n0 + m0) / 4294967296) (h1 : o1 = (n1 + m1 + c0) % 4294967296) (k1 : c1 = (n1 + m1 + c0) / 4294967296)
    (h2 : o2 = (n2 + m2 + c1) % 4294967296) (k2 : c2 = (n2 + m2 + c1) / 4294967296) (h3 : o3 = (n3 + m3 + c2) % 4294967296) :
    o0 = d0 ((n + m) % 340282366920938463463374607431768211456) ∧ o1 = d1 ((n + m) % 340282366920938463463374607431768211456) ∧ o2 = d2 ((n + m) % 340282366920938463463374607431768211456) ∧ o3 = d3 ((n + m) % 340282366920938463463374607431768211456) := by
  have e : n + m = o0 + o1 * 4294967296 + o2 * 18446744073709551616 + (n3 + m3 + c2) * 79228162514264337593543950336 := by omega
  have f0 : 0 ≤ o0 ∧ o0 ≤ 4294967295 := by omega
  have f1 : 0 ≤ o1 ∧ o1 ≤ 4294967295 := by omega
  have f2 : 0 ≤ o2 ∧ o2 ≤ 4294967295 := by omega
  have f3 : 0 ≤ o3 ∧ o3 ≤ 4294967295 := by omega
  have e2 : (n + m) % 340282366920938463463374607431768211456 = o0 + o1 * 4294967296 + o2 * 18446744073709551616 + o3 * 79228162514264337593543950336 := by
    rw [e]
    generalize n3 + m3 + c2 = t at *
    omega
  rw [e2]
  clear hn hm e e2 h0 h1 h2 h3 k0 k1 k2
  unfold d0 d1 d2 d3
  omega
end Go.Proofs.Ytbeckgdocnofhaa.Rt
