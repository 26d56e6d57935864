/-
  Plain arithmetic of package ratio, more: a list's sum.
-/
import Derived.Test.YtbeckgdocnofhaaMathB
namespace Go.Proofs.Ytbeckgdocnofhaa.Rt

/-- One fraction more, where there was no error yet. -/
def addTo (s f : Int × Int × Int) : Int × Int × Int := if s.2.2 = 0 then (addN s.1 s.2.1 f.1 f.2.1, addD s.1 s.2.1 f.1 f.2.1, addE s.1 s.2.1 f.1 f.2.1) else s
/-- The sum of the first k fractions of a list, and what kind of error there was. -/
def sumTo (l : List (Int × Int)) : Nat → Int × Int × Int
  | 0 => (0, 1, 0)
  | k + 1 => addTo (sumTo l k) ((l.getD k (0, 0)).1, (l.getD k (0, 0)).2, 0)
def sumN (l : List (Int × Int)) : Int := (sumTo l l.length).1
def sumD (l : List (Int × Int)) : Int := (sumTo l l.length).2.1
def sumE (l : List (Int × Int)) : Int := (sumTo l l.length).2.2

theorem sumTo_step {l : List (Int × Int)} {k : Nat} {p q : Int} (h : sumTo l k = (p, q, 0)) (f : Int × Int) (hf : l.getD k (0, 0) = f) : sumTo l (k + 1) = (addN p q f.1 f.2, addD p q f.1 f.2, addE p q f.1 f.2) := by
  rw [sumTo, h, hf]
  rfl
/-- Once there is an error it stays. -/
theorem sumTo_far {l : List (Int × Int)} {k : Nat} {s : Int × Int × Int} (h : sumTo l k = s) (he : s.2.2 ≠ 0) : ∀ m, k ≤ m → sumTo l m = s := by
  intro m hm
  induction m with
  | zero =>
    have : k = 0 := by omega
    subst this
    exact h
  | succ m ih =>
    by_cases h2 : k = m + 1
    · rw [← h2]; exact h
    · rw [sumTo, ih (by omega), addTo, if_neg he]

theorem add_cases (a b c d : Int) : addE a b c d = 0 ∨ (addE a b c d ≠ 0 ∧ addN a b c d = 0 ∧ addD a b c d = 0) := by
  by_cases h : addE a b c d = 0
  · exact Or.inl h
  · exact Or.inr ⟨h, by simp [addN, h], by simp [addD, h]⟩
theorem add_kinds (a b c d : Int) : addE a b c d = 0 ∨ addE a b c d = 1 ∨ addE a b c d = 24 := by
  unfold addE
  split
  · exact Or.inr (Or.inl rfl)
  · split
    · exact Or.inr (Or.inr rfl)
    · exact Or.inl rfl
theorem add_bd (a b c d : Int) (ha : 0 ≤ a) (hb : 0 ≤ b) (hc : 0 ≤ c) (hd : 0 ≤ d) : (0 ≤ addN a b c d ∧ addN a b c d < 18446744073709551616) ∧ 0 ≤ addD a b c d ∧ addD a b c d < 18446744073709551616 := by
  by_cases h1 : bad a b c d = true
  · obtain ⟨-, e2, e3⟩ := add_bad h1
    rw [e2, e3]
    omega
  · by_cases h2 : over a b c d = true
    · obtain ⟨-, e2, e3⟩ := add_over (by simpa using h1) h2
      rw [e2, e3]
      omega
    · simp at h1 h2
      obtain ⟨-, e2, e3⟩ := add_good h1 h2
      have hov := h2
      simp [over] at hov
      simp [bad] at h1
      have hbp := ok_pos h1.1
      have hdp := ok_pos h1.2
      have hT : 0 < b / gcd b d * d := Int.mul_pos (by_gcd_pos b d hbp hdp).1 hdp
      have hg0 := Int.le_of_lt (gcd_pos b d hdp)
      have hX : 0 ≤ a * (d / gcd b d) := Int.mul_nonneg ha (Int.ediv_nonneg hd hg0)
      have hY : 0 ≤ c * (b / gcd b d) := Int.mul_nonneg hc (Int.ediv_nonneg hb hg0)
      rw [e2, e3]
      exact ⟨part_bd _ _ (by omega) hov.1.2 (gcd_pos _ _ hT), part_bd _ _ (by omega) hov.2 (gcd_pos _ _ hT)⟩
end Go.Proofs.Ytbeckgdocnofhaa.Rt
