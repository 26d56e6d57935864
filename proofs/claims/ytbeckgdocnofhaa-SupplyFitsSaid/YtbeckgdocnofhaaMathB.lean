/-
  Plain arithmetic of package ratio, more: what a sum of two fractions is, or why there is none; a list's sum.
-/
import Derived.Test.YtbeckgdocnofhaaMath
namespace Go.Proofs.Ytbeckgdocnofhaa.Rt

/-- One of two fractions isn't as it is made. -/
def bad (a b c d : Int) : Bool := !(ok a b && ok c d)
/-- A number on the way to the sum is above a word. -/
def over (a b c d : Int) : Bool :=
  !(decide (a * (d / gcd b d) < 18446744073709551616) && decide (c * (b / gcd b d) < 18446744073709551616) && decide (a * (d / gcd b d) + c * (b / gcd b d) < 18446744073709551616) && decide (b / gcd b d * d < 18446744073709551616))
/-- What kind of error there is, 0: none. -/
def addE (a b c d : Int) : Int := if bad a b c d then 1 else if over a b c d then 24 else 0
def addN (a b c d : Int) : Int := if addE a b c d = 0 then (a * (d / gcd b d) + c * (b / gcd b d)) / gcd (a * (d / gcd b d) + c * (b / gcd b d)) (b / gcd b d * d) else 0
def addD (a b c d : Int) : Int := if addE a b c d = 0 then b / gcd b d * d / gcd (a * (d / gcd b d) + c * (b / gcd b d)) (b / gcd b d * d) else 0

theorem add_bad {a b c d : Int} (h : bad a b c d = true) : addE a b c d = 1 ∧ addN a b c d = 0 ∧ addD a b c d = 0 := by
  have e : addE a b c d = 1 := by simp [addE, h]
  refine ⟨e, ?_, ?_⟩ <;> simp [addN, addD, e]
theorem add_over {a b c d : Int} (h : bad a b c d = false) (h2 : over a b c d = true) : addE a b c d = 24 ∧ addN a b c d = 0 ∧ addD a b c d = 0 := by
  have e : addE a b c d = 24 := by simp [addE, h, h2]
  refine ⟨e, ?_, ?_⟩ <;> simp [addN, addD, e]
theorem add_good {a b c d : Int} (h : bad a b c d = false) (h2 : over a b c d = false) : addE a b c d = 0 ∧
    addN a b c d = (a * (d / gcd b d) + c * (b / gcd b d)) / gcd (a * (d / gcd b d) + c * (b / gcd b d)) (b / gcd b d * d) ∧
    addD a b c d = b / gcd b d * d / gcd (a * (d / gcd b d) + c * (b / gcd b d)) (b / gcd b d * d) := by
  have e : addE a b c d = 0 := by simp [addE, h, h2]
  refine ⟨e, ?_, ?_⟩ <;> simp only [addN, addD, e, if_true]

theorem ok_pos {a b : Int} (h : ok a b = true) : 0 < b := by
  simp [ok] at h
  exact h.1

theorem by_gcd_pos (b d : Int) (hb : 0 < b) (hd : 0 < d) : 0 < b / gcd b d ∧ 0 < d / gcd b d := by
  have hg := gcd_pos b d hd
  have := gcd_dvd b d (by omega) (by omega)
  exact ⟨Int.ediv_pos_of_pos_of_dvd hb (by omega) this.1, Int.ediv_pos_of_pos_of_dvd hd (by omega) this.2⟩

/-- Two words' product. -/
theorem mul_bd (x y : Int) (hx : 0 ≤ x) (hx2 : x < 18446744073709551616) (hy : 0 ≤ y) (hy2 : y < 18446744073709551616) : 0 ≤ x * y ∧ x * y ≤ 340282366920938463426481119284349108225 := by
  refine ⟨Int.mul_nonneg hx hy, ?_⟩
  have := Int.mul_le_mul (show x ≤ 18446744073709551615 by omega) (show y ≤ 18446744073709551615 by omega) hy (by omega)
  omega

/-- The first of two numbers that isn't 0. -/
def orr (x y : Int) : Int := if x = 0 then y else x
/-- Of numbers of two words: which is less is told by the high words, where those are alike by the low ones. -/
theorem sgn_parts (n m : Int) : orr (sgn (n / 18446744073709551616) (m / 18446744073709551616)) (sgn (n % 18446744073709551616) (m % 18446744073709551616)) = sgn n m := by
  unfold orr sgn
  split <;> split at * <;> split at * <;> (try split) <;> (try split) <;> (try split) <;> (try split) <;> omega
/-- Which of two fractions is less. -/
def cmpR (a b c d : Int) : Int := if b = 0 ∨ d = 0 then 0 else sgn (a * d) (c * b)
theorem cmpR_none {a b c d : Int} (h : b = 0 ∨ d = 0) : cmpR a b c d = 0 := by rw [cmpR, if_pos h]
theorem cmpR_some {a b c d : Int} (h : b ≠ 0) (h2 : d ≠ 0) : cmpR a b c d = sgn (a * d) (c * b) := by
  rw [cmpR, if_neg]
  intro h3
  rcases h3 with h3 | h3
  · exact h h3
  · exact h2 h3
theorem sgn_bd (n m : Int) : -1 ≤ sgn n m ∧ sgn n m ≤ 1 := by
  unfold sgn
  split
  · omega
  · split <;> omega
end Go.Proofs.Ytbeckgdocnofhaa.Rt
