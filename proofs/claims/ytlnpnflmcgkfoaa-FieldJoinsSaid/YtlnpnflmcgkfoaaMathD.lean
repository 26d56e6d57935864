/-
  Plain arithmetic of fields in lists: which are apart, what is joined out of them.
-/
import Derived.Test.YtlnpnflmcgkfoaaMathC
namespace Go.Proofs.Ytlnpnflmcgkfoaa.Fd

theorem apart_code (a s b t : Int) : (bits .and .u64 (mask a s) (mask b t) == 0) = apart a s b t := by
  have h1 := mask_bd a s
  have h2 := mask_bd b t
  rw [u64_and _ _ h1.1 h1.2 h2.1 h2.2]
  by_cases ha : right a s = true
  · by_cases hb : right b t = true
    · have ha' := ha
      have hb' := hb
      simp [right] at ha' hb'
      have ea : (mask a s).toNat = (2 ^ s.toNat - 1) * 2 ^ a.toNat := by
        have h3 : 0 < (2 : Nat) ^ s.toNat := Nat.pow_pos (by decide)
        rw [mask, if_pos ha]
        have : ((2 : Int) ^ s.toNat - 1) * 2 ^ a.toNat = (((2 ^ s.toNat - 1) * 2 ^ a.toNat : Nat) : Int) := by
          rw [Int.natCast_mul, Int.natCast_sub (by omega)]; simp
        rw [this, Int.toNat_natCast]
      have eb : (mask b t).toNat = (2 ^ t.toNat - 1) * 2 ^ b.toNat := by
        have h3 : 0 < (2 : Nat) ^ t.toNat := Nat.pow_pos (by decide)
        rw [mask, if_pos hb]
        have : ((2 : Int) ^ t.toNat - 1) * 2 ^ b.toNat = (((2 ^ t.toNat - 1) * 2 ^ b.toNat : Nat) : Int) := by
          rw [Int.natCast_mul, Int.natCast_sub (by omega)]; simp
        rw [this, Int.toNat_natCast]
      rw [ea, eb]
      by_cases hov : a < b + t ∧ b < a + s
      · have : ((2 ^ s.toNat - 1) * 2 ^ a.toNat &&& (2 ^ t.toNat - 1) * 2 ^ b.toNat) ≠ 0 := by
          intro h0
          have := congrArg (fun m => m.testBit (max a.toNat b.toNat)) h0
          simp only [Nat.testBit_and, mask_bits, Nat.zero_testBit, Bool.and_eq_false_iff, decide_eq_false_iff_not] at this
          omega
        have e : apart a s b t = false := by simp [apart, ha, hb, hov]
        rw [e]
        simp only [beq_eq_false_iff_ne, ne_eq]
        omega
      · have : ((2 ^ s.toNat - 1) * 2 ^ a.toNat &&& (2 ^ t.toNat - 1) * 2 ^ b.toNat) = 0 := by
          refine Nat.eq_of_testBit_eq fun i => ?_
          rw [Nat.testBit_and, mask_bits, mask_bits, Nat.zero_testBit, Bool.and_eq_false_iff, decide_eq_false_iff_not, decide_eq_false_iff_not]
          omega
        have e : apart a s b t = true := by simp [apart, hov]
        rw [e, this]; rfl
    · have : (mask b t).toNat = 0 := by rw [mask, if_neg hb]; rfl
      rw [this]
      simp [apart, hb]
  · have : (mask a s).toNat = 0 := by rw [mask, if_neg ha]; rfl
    rw [this]
    simp [apart, ha]

/-- Whether a field is apart from each of others. -/
def allApart (f : Int × Int) (l : List (Int × Int)) : Bool := l.all fun o => apart f.1 f.2 o.1 o.2
/-- The word behind k fields, or none. -/
def joinTo (l : List (Int × Int)) (n : List Int) : Nat → Option Int
  | 0 => some 0
  | k + 1 => match joinTo l n k with
    | none => none
    | some w => if allApart (l.getD k (0, 0)) (l.take k) && fits (l.getD k (0, 0)).1 (l.getD k (0, 0)).2 (n.getD k 0) then some (put (l.getD k (0, 0)).1 (l.getD k (0, 0)).2 w (n.getD k 0)) else none

theorem joinTo_step {l : List (Int × Int)} {n : List Int} {k : Nat} {v p q y : Int} (h : joinTo l n k = some v) (h1 : l.getD k (0, 0) = (p, q)) (h2 : n.getD k 0 = y) :
    joinTo l n (k + 1) = if allApart (p, q) (l.take k) && fits p q y then some (put p q v y) else none := by
  rw [joinTo, h, h1, h2]
theorem joinTo_none {l : List (Int × Int)} {n : List Int} {k : Nat} (h : joinTo l n k = none) : ∀ m, k ≤ m → joinTo l n m = none := by
  intro m hm
  induction m with
  | zero => obtain rfl : k = 0 := by omega
            exact h
  | succ m ih =>
    by_cases hk : k = m + 1
    · exact hk ▸ h
    · rw [joinTo, ih (by omega)]
theorem joinTo_bd {l : List (Int × Int)} {n : List Int} (hn : ∀ x ∈ n, 0 ≤ x) : ∀ {k : Nat} {w : Int}, joinTo l n k = some w → 0 ≤ w ∧ w < 18446744073709551616
  | 0, w, h => by
    simp [joinTo] at h; omega
  | k + 1, w, h => by
    rw [joinTo] at h
    cases hj : joinTo l n k with
    | none => rw [hj] at h; simp at h
    | some v =>
      rw [hj] at h
      have hv := joinTo_bd hn hj
      have hx : 0 ≤ n.getD k 0 := by
        rw [List.getD_eq_getElem?_getD]
        cases hg : n[k]? with
        | none => simp
        | some x => exact hn x (List.mem_of_getElem? hg)
      simp only at h
      split at h
      · simp only [Option.some.injEq] at h
        subst h
        exact put_bd _ _ _ _ hv.1 hv.2 hx
      · cases h
/-- What is joined is split as it was. -/
theorem joinTo_get {l : List (Int × Int)} {n : List Int} (hn : ∀ x ∈ n, 0 ≤ x) : ∀ {k : Nat} {w : Int}, k ≤ l.length → joinTo l n k = some w → ∀ i, i < k → get (l.getD i (0, 0)).1 (l.getD i (0, 0)).2 w = n.getD i 0
  | 0, _, _, _, i, hi => by omega
  | k + 1, w, hkl, h, i, hi => by
    rw [joinTo] at h
    cases hj : joinTo l n k with
    | none => rw [hj] at h; simp at h
    | some v =>
      rw [hj] at h
      have hv := joinTo_bd hn hj
      have hx : 0 ≤ n.getD k 0 := by
        rw [List.getD_eq_getElem?_getD]
        cases hg : n[k]? with
        | none => simp
        | some x => exact hn x (List.mem_of_getElem? hg)
      simp only at h
      split at h
      · rename_i hc
        simp only [Option.some.injEq] at h
        subst h
        simp only [Bool.and_eq_true] at hc
        by_cases hik : i = k
        · subst hik
          exact get_put _ _ _ _ hc.2 hv.1 hv.2 hx
        · have hi' : i < k := by omega
          have hp : apart (l.getD k (0, 0)).1 (l.getD k (0, 0)).2 (l.getD i (0, 0)).1 (l.getD i (0, 0)).2 = true := by
            have := hc.1
            rw [allApart, List.all_eq_true] at this
            apply this
            rw [List.getD_eq_getElem?_getD, List.getElem?_eq_getElem (by omega)]
            simp only [Option.getD_some]
            rw [List.mem_take_iff_getElem]
            exact ⟨i, by omega, rfl⟩
          have hp2 : apart (l.getD i (0, 0)).1 (l.getD i (0, 0)).2 (l.getD k (0, 0)).1 (l.getD k (0, 0)).2 = true := by
            rw [← hp]
            simp only [apart]
            rw [Bool.and_comm (right _ _)]
            congr 2
            rw [decide_eq_decide]
            omega
          rw [get_apart _ _ _ _ _ _ hc.2 hp2 hv.1 hv.2 hx]
          exact joinTo_get hn (by omega) hj i hi'
      · cases h
end Go.Proofs.Ytlnpnflmcgkfoaa.Fd
