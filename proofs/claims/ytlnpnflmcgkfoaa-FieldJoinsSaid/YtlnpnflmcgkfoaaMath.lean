/-
  Plain arithmetic of words: bits, powers of two, fields. It names nothing of the program.
-/
import Derived.Laws.BitsAll
import Derived.Laws.BitsLemmas
namespace Go.Proofs.Ytlnpnflmcgkfoaa.Fd

/-- Bit i of x; bit 0 where i is below nought. -/
def bit (x i : Int) : Bool := x / 2 ^ i.toNat % 2 == 1
/-- 2 to i, around 2^64; 1 where i is below nought. -/
def worth (i : Int) : Int := 2 ^ i.toNat % 18446744073709551616
/-- Which fields a word has. -/
def right (a s : Int) : Bool := decide (1 ≤ s ∧ s ≤ 64 ∧ 0 ≤ a ∧ a + s ≤ 64)
/-- The greatest number of a field. -/
def most (a s : Int) : Int := if right a s then 2 ^ s.toNat - 1 else 0
/-- What stands in a field. -/
def get (a s x : Int) : Int := if right a s then x / 2 ^ a.toNat % 2 ^ s.toNat else 0

theorem bit_zero (x i : Int) (h : i ≤ 0) : bit x i = (x % 2 == 1) := by
  have : i.toNat = 0 := by omega
  simp [bit, this]
theorem bit_step (x i : Int) (h : 0 < i) : bit (x / 2) (i - 1) = bit x i := by
  obtain ⟨n, rfl⟩ : ∃ n : Nat, i = n + 1 := ⟨(i - 1).toNat, by omega⟩
  have e1 : ((n : Int) + 1 - 1).toNat = n := by omega
  have e2 : ((n : Int) + 1).toNat = n + 1 := by omega
  unfold bit
  rw [e1, e2, Int.ediv_ediv_of_nonneg (by decide), Int.pow_succ, Int.mul_comm]
theorem worth_zero (i : Int) (h : i ≤ 0) : worth i = 1 := by
  have : i.toNat = 0 := by omega
  simp [worth, this]
theorem worth_bd (i : Int) : 0 ≤ worth i ∧ worth i < 18446744073709551616 := by
  unfold worth; omega
theorem worth_step (p j : Int) (h : 0 < j) : p * 2 % 18446744073709551616 * worth (j - 1) % 18446744073709551616 = p * worth j % 18446744073709551616 := by
  obtain ⟨n, rfl⟩ : ∃ n : Nat, j = n + 1 := ⟨(j - 1).toNat, by omega⟩
  have e1 : ((n : Int) + 1 - 1).toNat = n := by omega
  have e2 : ((n : Int) + 1).toNat = n + 1 := by omega
  unfold worth
  rw [e1, e2, ← Int.mul_emod, Int.mul_emod p, Int.emod_emod, ← Int.mul_emod, Int.pow_succ, Int.mul_assoc, Int.mul_comm 2]
theorem most_fin : ∀ n : Fin 65, (18446744073709551615 : Int) / 2 ^ (64 - n.val) = 2 ^ n.val - 1 := by decide
theorem most_eq (a s : Int) (h : right a s = true) : 18446744073709551615 / 2 ^ (64 - s).toNat = most a s := by
  have h' := h
  simp [right] at h'
  have := most_fin ⟨s.toNat, by omega⟩
  simp only at this
  rw [most, if_pos h, ← this]
  congr 2
  omega
theorem rmost_fin : ∀ n : Fin 65, ((2 : Int) ^ n.val % 18446744073709551616 - 1) % 18446744073709551616 = 2 ^ n.val - 1 := by decide
theorem rmost_eq (a s : Int) (h : right a s = true) : IntKind.u64.wrap (worth s - 1) = most a s := by
  have h' := h
  simp [right] at h'
  have := rmost_fin ⟨s.toNat, by omega⟩
  simp only at this
  rw [most, if_pos h, ← this, IntKind.wrap_u64, worth]
theorem pow_bd : ∀ n : Fin 65, (2 : Int) ^ n.val ≤ 18446744073709551616 := by decide
theorem most_bd (a s : Int) : 0 ≤ most a s ∧ most a s < 18446744073709551616 := by
  unfold most
  split
  · rename_i h
    simp [right] at h
    have := pow_bd ⟨s.toNat, by omega⟩
    have h0 : (0 : Int) < 2 ^ s.toNat := Int.pow_pos (by decide)
    simp only at this
    omega
  · omega
theorem div_bd (x : Int) (n : Nat) (h0 : 0 ≤ x) (h1 : x < 18446744073709551616) : 0 ≤ x / 2 ^ n ∧ x / 2 ^ n < 18446744073709551616 := by
  have hp : (0 : Int) < 2 ^ n := Int.pow_pos (by decide)
  refine ⟨Int.ediv_nonneg h0 (by omega), ?_⟩
  exact Int.lt_of_le_of_lt (Int.ediv_le_self _ h0) h1
theorem and_mask (y : Int) (n : Nat) (hn : n ≤ 64) (h0 : 0 ≤ y) (h1 : y < 18446744073709551616) : bits .and .u64 y (2 ^ n - 1) = y % 2 ^ n := by
  have hp := pow_bd ⟨n, by omega⟩
  simp only at hp
  have h2 : (0 : Int) < 2 ^ n := Int.pow_pos (by decide)
  rw [u64_and _ _ h0 h1 (by omega) (by omega)]
  obtain ⟨m, rfl⟩ := Int.eq_ofNat_of_zero_le h0
  have e : ((2 : Int) ^ n - 1).toNat = 2 ^ n - 1 := by
    have : ((2 : Int) ^ n) = ((2 ^ n : Nat) : Int) := by simp
    omega
  rw [e, Int.toNat_natCast, Nat.and_two_pow_sub_one_eq_mod]
  simp
theorem get_eq (a s x : Int) (h : right a s = true) (h0 : 0 ≤ x) (h1 : x < 18446744073709551616) : bits .and .u64 (x / 2 ^ a.toNat) (most a s) = get a s x := by
  have h' := h
  simp [right] at h'
  have hb := div_bd x a.toNat h0 h1
  rw [most, if_pos h, get, if_pos h, and_mask _ _ (by omega) hb.1 hb.2]
theorem emod_le' (x m : Int) (h0 : 0 ≤ x) (hm : 0 < m) : x % m ≤ x := by
  have := Int.emod_add_mul_ediv x m
  have : 0 ≤ m * (x / m) := Int.mul_nonneg (by omega) (Int.ediv_nonneg h0 (by omega))
  omega
theorem get_bd (a s x : Int) (h0 : 0 ≤ x) (h1 : x < 18446744073709551616) : 0 ≤ get a s x ∧ get a s x < 18446744073709551616 := by
  unfold get
  split
  · have hb := div_bd x a.toNat h0 h1
    have hp : (0 : Int) < 2 ^ s.toNat := Int.pow_pos (by decide)
    refine ⟨Int.emod_nonneg _ (by omega), ?_⟩
    exact Int.lt_of_le_of_lt (emod_le' _ _ hb.1 hp) hb.2
  · omega
/-- The lowest bits, one more. -/
theorem low_step (y : Int) (k : Nat) (h0 : 0 ≤ y) : y % 2 ^ (k + 1) = y % 2 ^ k + (if bit y k then 2 ^ k else 0) := by
  have h2 : (0 : Int) < 2 ^ k := Int.pow_pos (by decide)
  have e : y % 2 ^ (k + 1) = y % 2 ^ k + 2 ^ k * (y / 2 ^ k % 2) := by
    obtain ⟨m, rfl⟩ := Int.eq_ofNat_of_zero_le h0
    have := Nat.mod_mul (a := 2 ^ k) (b := 2) (x := m)
    rw [Int.pow_succ]
    exact_mod_cast this
  rw [e]
  unfold bit
  rw [Int.toNat_natCast]
  have : y / 2 ^ k % 2 = 0 ∨ y / 2 ^ k % 2 = 1 := by omega
  rcases this with h | h <;> simp [h]
theorem bit_shift (x a : Int) (k : Nat) (ha : 0 ≤ a) : bit (x / 2 ^ a.toNat) k = bit x (a + k) := by
  unfold bit
  have e : (a + (k : Int)).toNat = a.toNat + k := by omega
  rw [e, Int.toNat_natCast, Int.ediv_ediv_of_nonneg (Int.pow_nonneg (by decide)), Int.pow_add]
theorem worth_small (k : Nat) (h : k < 64) : worth k = 2 ^ k := by
  have := pow_bd ⟨k + 1, by omega⟩
  simp only [Int.pow_succ] at this
  have h2 : (0 : Int) < 2 ^ k := Int.pow_pos (by decide)
  rw [worth, Int.toNat_natCast, Int.emod_eq_of_lt (by omega) (by omega)]
theorem low_bd (y : Int) (k : Nat) (h0 : 0 ≤ y) (hk : k < 64) : 0 ≤ y % 2 ^ k ∧ y % 2 ^ k + 2 ^ k < 18446744073709551616 ∧ y % 2 ^ k ≤ y := by
  have := pow_bd ⟨k + 1, by omega⟩
  simp only [Int.pow_succ] at this
  have h2 : (0 : Int) < 2 ^ k := Int.pow_pos (by decide)
  have := Int.emod_lt_of_pos y h2
  have := Int.emod_nonneg y (show (2 : Int) ^ k ≠ 0 by omega)
  exact ⟨by omega, by omega, emod_le' _ _ h0 h2⟩
theorem low_set {x a : Int} {k : Nat} (h1 : x / 2 ^ a.toNat % 2 ^ (k + 1) = x / 2 ^ a.toNat % 2 ^ k + (if bit (x / 2 ^ a.toNat) k then 2 ^ k else 0)) (h2 : bit (x / 2 ^ a.toNat) k = bit x (a + k)) (h3 : bit x (a + k) = true) (h4 : worth k = 2 ^ k)
    (h5 : 0 ≤ x / 2 ^ a.toNat % 2 ^ k ∧ x / 2 ^ a.toNat % 2 ^ k + 2 ^ k < 18446744073709551616 ∧ x / 2 ^ a.toNat % 2 ^ k ≤ x / 2 ^ a.toNat) :
    IntKind.u64.wrap (x / 2 ^ a.toNat % 2 ^ k + worth k) = x / 2 ^ a.toNat % 2 ^ (k + 1) := by
  have hp : (0 : Int) < 2 ^ k := Int.pow_pos (by decide)
  rw [h1, h2, h3, h4, if_pos rfl, IntKind.wrap_u64, Int.emod_eq_of_lt (by omega) h5.2.1]
theorem low_unset {x a : Int} {k : Nat} (h1 : x / 2 ^ a.toNat % 2 ^ (k + 1) = x / 2 ^ a.toNat % 2 ^ k + (if bit (x / 2 ^ a.toNat) k then 2 ^ k else 0)) (h2 : bit (x / 2 ^ a.toNat) k = bit x (a + k)) (h3 : bit x (a + k) = false) :
    x / 2 ^ a.toNat % 2 ^ k = x / 2 ^ a.toNat % 2 ^ (k + 1) := by
  rw [h1, h2, h3]; simp
theorem low_end {x a s : Int} {k : Nat} (hr : right a s = true) (hk : (k : Int) = s) : x / 2 ^ a.toNat % 2 ^ k = get a s x := by
  rw [get, if_pos hr, ← hk, Int.toNat_natCast]
theorem one_set {p : Int} {k : Nat} (h1 : p % 2 ^ (k + 1) = p % 2 ^ k + (if bit p k then 2 ^ k else 0)) (h3 : bit p k = true) (h4 : worth k = 2 ^ k)
    (h5 : 0 ≤ p % 2 ^ k ∧ p % 2 ^ k + 2 ^ k < 18446744073709551616 ∧ p % 2 ^ k ≤ p) :
    IntKind.u64.wrap (p % 2 ^ k + worth k) = p % 2 ^ (k + 1) := by
  have hp : (0 : Int) < 2 ^ k := Int.pow_pos (by decide)
  rw [h1, h3, h4, if_pos rfl, IntKind.wrap_u64, Int.emod_eq_of_lt (by omega) h5.2.1]
theorem one_unset {p : Int} {k : Nat} (h1 : p % 2 ^ (k + 1) = p % 2 ^ k + (if bit p k then 2 ^ k else 0)) (h3 : bit p k = false) : p % 2 ^ k = p % 2 ^ (k + 1) := by
  rw [h1, h3]; simp
theorem whole {p : Int} {k : Nat} (h : k = 64) (h0 : 0 ≤ p) (h1 : p < 18446744073709551616) : p % 2 ^ k = p := by
  subst h; exact Int.emod_eq_of_lt h0 h1
end Go.Proofs.Ytlnpnflmcgkfoaa.Fd
