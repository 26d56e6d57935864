/-
  Plain arithmetic of package ratio: a fraction times a power of two, up.
-/
import Derived.Test.YthegadplakllkaaMath
namespace Go.Proofs.Ythegadplakllkaa.Rt

/-- A fraction times 2 to the power k, up. -/
def up (a b : Int) (k : Nat) : Int := (a * 2 ^ k + b - 1) / b
/-- What kind of error there is, 0: none. -/
def fixE (a b p : Int) : Int := if b = 0 ∨ p < 0 ∨ 63 < p then 1 else if up a b p.toNat < 18446744073709551616 then 0 else 24
def fixN (a b p : Int) : Int := if fixE a b p = 0 then up a b p.toNat else 0

theorem fix_bad {a b p : Int} (h : b = 0 ∨ p < 0 ∨ 63 < p) : fixE a b p = 1 ∧ fixN a b p = 0 := by
  have e : fixE a b p = 1 := by rw [fixE, if_pos h]
  exact ⟨e, by rw [fixN, e]; rfl⟩
theorem fix_good {a b : Int} {k : Nat} (hb : 0 < b) (hk : k ≤ 63) (h : up a b k < 18446744073709551616) : fixE a b k = 0 ∧ fixN a b k = up a b k := by
  have e : fixE a b k = 0 := by rw [fixE, if_neg (by omega), Int.toNat_natCast, if_pos h]
  exact ⟨e, by rw [fixN, e, if_pos rfl, Int.toNat_natCast]⟩
theorem fix_over {a b : Int} {k : Nat} (hb : 0 < b) (hk : k ≤ 63) (h : 18446744073709551616 ≤ up a b k) : fixE a b k = 24 ∧ fixN a b k = 0 := by
  have e : fixE a b k = 24 := by rw [fixE, if_neg (by omega), Int.toNat_natCast, if_neg (by omega)]
  exact ⟨e, by rw [fixN, e]; rfl⟩

theorem pow_bd (k : Nat) (hk : k ≤ 63) : 0 < (2 : Int) ^ k ∧ (2 : Int) ^ k ≤ 9223372036854775808 := by
  refine ⟨Int.pow_pos (by decide), ?_⟩
  have h : (2 : Nat) ^ k ≤ 2 ^ 63 := Nat.pow_le_pow_right (by decide) hk
  rw [show (2 : Nat) ^ 63 = 9223372036854775808 from rfl] at h
  rw [show (2 : Int) ^ k = ((2 ^ k : Nat) : Int) by simp]
  exact Int.ofNat_le.2 h

/-- Rounded up: so it is not less, and one less is. -/
theorem up_is (a b : Int) (k : Nat) (hb : 0 < b) : a * 2 ^ k ≤ up a b k * b ∧ (up a b k - 1) * b < a * 2 ^ k := by
  have h1 := Int.emod_add_mul_ediv (a * 2 ^ k + b - 1) b
  have h2 := Int.emod_nonneg (a * 2 ^ k + b - 1) (Int.ne_of_gt hb)
  have h3 := Int.emod_lt_of_pos (a * 2 ^ k + b - 1) hb
  rw [Int.mul_comm b] at h1
  unfold up
  rw [Int.sub_mul, Int.one_mul]
  omega
theorem up_nonneg (a b : Int) (k : Nat) (ha : 0 ≤ a) (hb : 0 < b) : 0 ≤ up a b k := by
  have := Int.mul_nonneg ha (Int.le_of_lt (Int.pow_pos (n := 2) (m := k) (by decide)))
  exact Int.ediv_nonneg (by omega) (Int.le_of_lt hb)
/-- Too great: the greatest word is less. -/
theorem up_over (a b : Int) (k : Nat) (hb : 0 < b) (h : 18446744073709551616 ≤ up a b k) : 18446744073709551615 * b < a * 2 ^ k := by
  have h1 := (up_is a b k hb).2
  have h2 : 18446744073709551615 * b ≤ (up a b k - 1) * b := Int.mul_le_mul_of_nonneg_right (by omega) (Int.le_of_lt hb)
  omega
/-- No power: the wholes, and one more for what is left. -/
theorem up_zero (a b : Int) (hb : 0 < b) : up a b 0 = if a / b * b < a then a / b + 1 else a / b := by
  have h1 := up_is a b 0 hb
  rw [Int.pow_zero, Int.mul_one] at h1
  have h2 := Int.emod_add_mul_ediv a b
  have h3 := Int.emod_nonneg a (Int.ne_of_gt hb)
  have h4 := Int.emod_lt_of_pos a hb
  rw [Int.mul_comm b] at h2
  rw [Int.sub_mul, Int.one_mul] at h1
  have key : ∀ u v : Int, u * b < v * b + b → u ≤ v := fun u v h => by
    have : u * b < (v + 1) * b := by rw [Int.add_mul, Int.one_mul]; exact h
    have := Int.lt_of_mul_lt_mul_right this (Int.le_of_lt hb)
    omega
  split
  · apply Int.le_antisymm
    · apply key
      rw [Int.add_mul, Int.one_mul]
      omega
    · apply key
      rw [Int.add_mul, Int.one_mul]
      omega
  · apply Int.le_antisymm
    · apply key
      omega
    · apply key
      omega
/-- What Ceil comes to: one more, where something is left over. -/
theorem ceil_up (a b F G : Int) (ha : 0 ≤ a) (ha2 : a < 18446744073709551616) (hb : 0 < b) (hF : F = a / b) (hG : G = F * b) :
    (G < a → fixN a b 0 = F + 1) ∧ (¬ G < a → fixN a b 0 = F) ∧ (G < a → F + 1 < 18446744073709551616) := by
  have h0 := up_zero a b hb
  rw [← hF, ← hG] at h0
  have h1 : 0 ≤ F := by
    rw [hF]
    exact Int.ediv_nonneg ha (Int.le_of_lt hb)
  have h2 : F ≤ G := by
    rw [hG]
    have := Int.mul_le_mul_of_nonneg_left (show 1 ≤ b by omega) h1
    omega
  have h3 : G ≤ a := by
    rw [hG, hF]
    exact Int.ediv_mul_le a (Int.ne_of_gt hb)
  have h4 : up a b 0 < 18446744073709551616 := by
    rw [h0]
    split <;> omega
  have h5 := (fix_good hb (by decide : 0 ≤ 63) h4).2
  refine ⟨fun h => ?_, fun h => ?_, fun h => by omega⟩
  · rw [if_pos h] at h0
    rw [← h0]
    exact h5
  · rw [if_neg h] at h0
    rw [← h0]
    exact h5
end Go.Proofs.Ythegadplakllkaa.Rt
