/-
  Plain arithmetic of words, more: a field read with its sign; a number put in a field, bit by bit and by masks.
-/
import Derived.Test.YtlnpnflmcgkfoaaMath
namespace Go.Proofs.Ytlnpnflmcgkfoaa.Fd

/-- What stands in a field, its highest bit worth less than nothing. -/
def signed (a s x : Int) : Int := if right a s then (if get a s x < 2 ^ (s.toNat - 1) then get a s x else get a s x - 2 ^ s.toNat) else 0
/-- The bits of a field in a word. -/
def mask (a s : Int) : Int := if right a s then (2 ^ s.toNat - 1) * 2 ^ a.toNat else 0
/-- Whether a number fits in a field. -/
def fits (a s n : Int) : Bool := right a s && decide (n ≤ most a s)
/-- A word with a number in a field. -/
def putN (a s x n : Nat) : Nat := (x &&& (18446744073709551615 - (2 ^ s - 1) * 2 ^ a)) ||| (n * 2 ^ a)
def put (a s x n : Int) : Int := if fits a s n then (putN a.toNat s.toNat x.toNat n.toNat : Nat) else 0

theorem pow_split (a b : Nat) (h : a + b = 64) : (2 : Int) ^ a * 2 ^ b = 18446744073709551616 := by
  rw [← Int.pow_add, h]; decide
theorem pow_half (s : Nat) (h : 1 ≤ s) : (2 : Int) ^ s = 2 * 2 ^ (s - 1) := by
  obtain ⟨n, rfl⟩ : ∃ n, s = n + 1 := ⟨s - 1, by omega⟩
  rw [Int.pow_succ]; simp; omega
theorem get_lt (a s x : Int) (h : right a s = true) : 0 ≤ get a s x ∧ get a s x < 2 ^ s.toNat := by
  have hp : (0 : Int) < 2 ^ s.toNat := Int.pow_pos (by decide)
  rw [get, if_pos h]
  exact ⟨Int.emod_nonneg _ (by omega), Int.emod_lt_of_pos _ hp⟩
theorem signed_code (a s x : Int) (h : right a s = true) : IntKind.i64.wrap (IntKind.u64.wrap (get a s x * 2 ^ (64 - s).toNat)) / 2 ^ (64 - s).toNat = signed a s x := by
  have h' := h
  simp [right] at h'
  have hg := get_lt a s x h
  rw [signed, if_pos h]
  have e := pow_split s.toNat (64 - s).toNat (by omega)
  have e2 := pow_half s.toNat (by omega)
  generalize (64 - s).toNat = d at *
  generalize get a s x = g at *
  generalize (2 : Int) ^ (s.toNat - 1) = p at *
  generalize (2 : Int) ^ s.toNat = q at *
  have hd : (0 : Int) < 2 ^ d := Int.pow_pos (by decide)
  generalize (2 : Int) ^ d = r at *
  subst e2
  have e3 : p * r = 9223372036854775808 := by
    have : 2 * p * r = 2 * (p * r) := Int.mul_assoc 2 p r
    omega
  have h0 : 0 ≤ g * r := Int.mul_nonneg hg.1 (by omega)
  have h1 : g * r < 2 * p * r := Int.mul_lt_mul_of_pos_right hg.2 hd
  rw [IntKind.wrap_u64, Int.emod_eq_of_lt h0 (by omega), IntKind.wrap_i64]
  by_cases hl : g < p
  · have h2 : g * r < p * r := Int.mul_lt_mul_of_pos_right hl hd
    rw [if_pos hl, Int.emod_eq_of_lt (by omega) (by omega), Int.add_sub_cancel, Int.mul_ediv_cancel _ (by omega)]
  · have h2 : p * r ≤ g * r := Int.mul_le_mul_of_nonneg_right (by omega) (by omega)
    have e4 : (g * r + 9223372036854775808) % 18446744073709551616 - 9223372036854775808 = (g - 2 * p) * r := by
      rw [Int.sub_mul]; omega
    rw [if_neg hl, e4, Int.mul_ediv_cancel _ (by omega)]
theorem top_bit (a s x : Int) (h : right a s = true) (h0 : 0 ≤ x) (h1 : x < 18446744073709551616) : bit x (a + s - 1) = decide (2 ^ (s.toNat - 1) ≤ get a s x) := by
  have h' := h
  simp [right] at h'
  have hd := div_bd x a.toNat h0 h1
  obtain ⟨n, hn⟩ : ∃ n, s.toNat = n + 1 := ⟨s.toNat - 1, by omega⟩
  have e : bit x (a + s - 1) = bit (x / 2 ^ a.toNat) n := by
    rw [bit_shift x a n (by omega)]; congr 1; omega
  have hp : (0 : Int) < 2 ^ n := Int.pow_pos (by decide)
  have hl := Int.emod_lt_of_pos (x / 2 ^ a.toNat) hp
  have hl0 := Int.emod_nonneg (x / 2 ^ a.toNat) (show (2 : Int) ^ n ≠ 0 by omega)
  rw [get, if_pos h, hn, low_step _ _ hd.1, e]
  simp only [Nat.add_sub_cancel]
  cases bit (x / 2 ^ a.toNat) n with
  | true => simp; omega
  | false => simp; omega
theorem signed_law (a s x : Int) (h : right a s = true) (h0 : 0 ≤ x) (h1 : x < 18446744073709551616) (hs : s < 64) (hb : bit x (a + s - 1) = true) :
    IntKind.i64.wrap (IntKind.i64.wrap (get a s x) - IntKind.i64.wrap (2 ^ s.toNat)) = signed a s x := by
  have h' := h
  simp [right] at h'
  rw [top_bit a s x h h0 h1] at hb
  simp at hb
  have hg := get_lt a s x h
  have hp := pow_bd ⟨s.toNat + 1, by omega⟩
  simp only [Int.pow_succ] at hp
  rw [signed, if_pos h, if_neg (by omega)]
  have e2 := pow_half s.toNat (by omega)
  generalize get a s x = g at *
  generalize (2 : Int) ^ (s.toNat - 1) = p at *
  generalize (2 : Int) ^ s.toNat = q at *
  simp only [IntKind.wrap_i64]
  omega
theorem signed_law' (a s x : Int) (h0 : 0 ≤ x) (h1 : x < 18446744073709551616) (hb : right a s = true → s < 64 → bit x (a + s - 1) = false) :
    IntKind.i64.wrap (get a s x) = signed a s x := by
  by_cases h : right a s = true
  · have h' := h
    simp [right] at h'
    have hg := get_lt a s x h
    have hgb := get_bd a s x h0 h1
    rw [signed, if_pos h]
    have e2 := pow_half s.toNat (by omega)
    by_cases hs : s < 64
    · have hb' := hb h hs
      rw [top_bit a s x h h0 h1] at hb'
      simp at hb'
      have hp := pow_bd ⟨s.toNat + 1, by omega⟩
      simp only [Int.pow_succ] at hp
      rw [if_pos hb']
      generalize get a s x = g at *
      simp only [IntKind.wrap_i64]
      omega
    · have : s.toNat = 64 := by omega
      rw [this]
      simp only [IntKind.wrap_i64]
      generalize get a s x = g at *
      split <;> rename_i hx <;> simp at hx ⊢ <;> omega
  · rw [signed, if_neg h, get, if_neg h]; decide
end Go.Proofs.Ytlnpnflmcgkfoaa.Fd
