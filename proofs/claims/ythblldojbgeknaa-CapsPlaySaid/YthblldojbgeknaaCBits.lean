/-
  Rights, bit by bit: what the program's & and | make of small numbers, and whether all of some are among others.
-/
import Derived.Test.YthblldojbgeknaaCMath
import Derived.Laws.BitsLemmas
namespace Go.Proofs.Ythblldojbgeknaa

theorem ofInt_nat (a : Nat) (ha : a < 9223372036854775808) : (BitVec.ofInt 64 (a : Int)).toNat = a := by
  rw [BitVec.ofInt_natCast, BitVec.toNat_ofNat]
  exact Nat.mod_eq_of_lt (by omega)
theorem bits_or_nat (a b : Nat) (ha : a < 9223372036854775808) (hb : b < 9223372036854775808) : bits .or .i64 (a : Nat) (b : Nat) = ((a ||| b : Nat) : Int) := by
  have h : a ||| b < 2 ^ 63 := Nat.or_lt_two_pow (by omega) (by omega)
  show IntKind.wrap .i64 ((BitVec.ofInt 64 (a : Int) ||| BitVec.ofInt 64 (b : Int)).toNat : Int) = _
  rw [BitVec.toNat_or, ofInt_nat a ha, ofInt_nat b hb]
  rw [IntKind.wrap_i64]
  omega
theorem bits_and_nat (a b : Nat) (ha : a < 9223372036854775808) (hb : b < 9223372036854775808) : bits .and .i64 (a : Nat) (b : Nat) = ((a &&& b : Nat) : Int) := by
  have h : a &&& b < 2 ^ 63 := Nat.and_lt_two_pow _ (by omega)
  show IntKind.wrap .i64 ((BitVec.ofInt 64 (a : Int) &&& BitVec.ofInt 64 (b : Int)).toNat : Int) = _
  rw [BitVec.toNat_and, ofInt_nat a ha, ofInt_nat b hb]
  rw [IntKind.wrap_i64]
  omega
theorem may_nat {r R : Nat} (hr : r < 16) (hR : R < 9223372036854775808) : mayB r R = decide (r &&& R = R) := by
  unfold mayB
  rw [bits_and_nat r R (by omega) hR]
  by_cases h : r &&& R = R
  · rw [decide_eq_true h, decide_eq_true (by rw [h])]
  · rw [decide_eq_false h, decide_eq_false (fun e => h (by omega))]
theorem and_or_iff (r R n : Nat) : r &&& (R ||| n) = R ||| n ↔ r &&& R = R ∧ r &&& n = n := by
  constructor
  · intro h
    have h2 : ∀ i, (r.testBit i && (R.testBit i || n.testBit i)) = (R.testBit i || n.testBit i) := fun i => by
      have := congrArg (fun x => x.testBit i) h
      simpa only [Nat.testBit_and, Nat.testBit_or] using this
    constructor
    · refine Nat.eq_of_testBit_eq fun i => ?_
      have := h2 i
      rw [Nat.testBit_and]
      revert this
      cases r.testBit i <;> cases R.testBit i <;> cases n.testBit i <;> simp
    · refine Nat.eq_of_testBit_eq fun i => ?_
      have := h2 i
      rw [Nat.testBit_and]
      revert this
      cases r.testBit i <;> cases R.testBit i <;> cases n.testBit i <;> simp
  · rintro ⟨h1, h2⟩
    rw [Nat.and_or_distrib_left, h1, h2]
theorem or_nat {R n : Nat} (hR : R < 9223372036854775808) (hn : n < 16) : orB R n = ((R ||| n : Nat) : Int) := bits_or_nat R n hR (by omega)
theorem may_or {r R n : Nat} (hr : r < 16) (hR : R < 9223372036854775808) (hn : n < 16) : mayB r (orB R n) = (mayB r R && mayB r n) := by
  have h63 : R ||| n < 9223372036854775808 := Nat.or_lt_two_pow (n := 63) (by omega) (by omega)
  rw [or_nat hR hn, may_nat hr h63, may_nat hr hR, may_nat hr (by omega)]
  by_cases h : r &&& (R ||| n) = R ||| n
  · obtain ⟨h1, h2⟩ := (and_or_iff r R n).1 h
    rw [decide_eq_true h, decide_eq_true h1, decide_eq_true h2]
    rfl
  · rw [decide_eq_false h]
    symm
    rw [Bool.and_eq_false_iff, decide_eq_false_iff_not, decide_eq_false_iff_not]
    by_cases h1 : r &&& R = R
    · exact Or.inr fun h2 => h ((and_or_iff r R n).2 ⟨h1, h2⟩)
    · exact Or.inl h1
theorem may_lt {r R : Nat} (hr : r < 16) (hR : R < 9223372036854775808) (h : mayB r R = true) : r &&& R = R ∧ R < 16 := by
  rw [may_nat hr hR, decide_eq_true_eq] at h
  have : r &&& R ≤ r := Nat.and_le_left
  exact ⟨h, by omega⟩
/-- Rights among others: nothing is left without these. -/
theorem andnot_none : ∀ a b : Fin 16, b.val &&& a.val = a.val → bits .andNot .i64 (a.val : Nat) (b.val : Nat) = 0 := by decide
end Go.Proofs.Ythblldojbgeknaa
