/-
  Plain arithmetic of package tasks, more: shares; the least common multiple; places in order.
-/
import Derived.Test.YtnchlgdmpjemhaaTMath
import Derived.Test.YtnchlgdmpjemhaaMathC
namespace Go.Proofs.Ytnchlgdmpjemhaa.Tk

/-- What part of a processor a task uses, in lowest terms. -/
def share (t : Int × Int × Int) : Int × Int := (t.1 / Rt.gcd t.1 t.2.1, t.2.1 / Rt.gcd t.1 t.2.1)
def shares (l : List (Int × Int × Int)) : List (Int × Int) := l.map share
theorem shares_len (l : List (Int × Int × Int)) : (shares l).length = l.length := by simp [shares]
theorem shares_at {l : List (Int × Int × Int)} {k : Nat} (hk : k < l.length) {c p d : Int} (ht : l.getD k (0, 0, 0) = (c, p, d)) : (shares l).getD k (0, 0) = (c / Rt.gcd c p, p / Rt.gcd c p) := by
  rw [List.getD_eq_getElem?_getD, List.getElem?_eq_getElem hk, Option.getD_some] at ht
  rw [List.getD_eq_getElem?_getD, shares, List.getElem?_map, List.getElem?_eq_getElem hk, ht]
  rfl
theorem shares_far {l : List (Int × Int × Int)} {k : Nat} (hk : l.length ≤ k) : (shares l).getD k (0, 0) = (0, 0) := by
  rw [List.getD_eq_getElem?_getD, List.getElem?_eq_none (by rw [shares_len]; exact hk)]
  rfl
theorem share_bd {c p : Int} (hc : 0 ≤ c) (hc2 : c < 18446744073709551616) (hp : 0 < p) (hp2 : p < 18446744073709551616) : 0 ≤ c / Rt.gcd c p ∧ c / Rt.gcd c p < 18446744073709551616 ∧ 0 ≤ p / Rt.gcd c p ∧ p / Rt.gcd c p < 18446744073709551616 := by
  have hg := Rt.gcd_pos c p hp
  have h1 := Rt.part_bd c _ hc hc2 hg
  have h2 := Rt.part_bd p _ (by omega) hp2 hg
  omega

/-- One Period more. -/
def mult (a p : Int) : Int := a * (p / Rt.gcd a p)
theorem mult_other {a p : Int} (ha : 0 ≤ a) (hp : 0 < p) : a / Rt.gcd a p * p = mult a p := by
  have hg := Rt.gcd_pos a p hp
  obtain ⟨⟨x, hx⟩, ⟨y, hy⟩⟩ := Rt.gcd_dvd a p ha (by omega)
  unfold mult
  generalize Rt.gcd a p = g at *
  subst hx hy
  rw [Int.mul_ediv_cancel_left _ (by omega), Int.mul_ediv_cancel_left _ (by omega)]
  simp only [Int.mul_comm, Int.mul_left_comm]
theorem mult_bd {a p : Int} (ha : 1 ≤ a) (ha2 : a ≤ 1099511627776) (hp : 1 ≤ p) (hp2 : p ≤ 1048576) : 1 ≤ p / Rt.gcd a p ∧ p / Rt.gcd a p ≤ 1048576 ∧ 1 ≤ mult a p ∧ mult a p ≤ 1152921504606846976 := by
  have hg := Rt.gcd_pos a p (by omega)
  have h1 : 0 < p / Rt.gcd a p := Int.ediv_pos_of_pos_of_dvd (by omega) (by omega) (Rt.gcd_dvd a p (by omega) (by omega)).2
  have h2 : p / Rt.gcd a p ≤ p := Int.ediv_le_self _ (by omega)
  unfold mult
  generalize p / Rt.gcd a p = y at *
  refine ⟨by omega, by omega, ?_, ?_⟩
  · exact Int.le_trans (by omega : (1 : Int) ≤ 1 * 1) (Int.mul_le_mul ha (by omega) (by omega) (by omega))
  · exact Int.le_trans (Int.mul_le_mul ha2 (show y ≤ 1048576 by omega) (by omega) (by omega)) (by decide)
theorem part_word {a p : Int} (ha : 0 ≤ a) (hp : 0 < p) : 0 ≤ a / Rt.gcd a p ∧ a / Rt.gcd a p ≤ a := by
  have hg := Rt.gcd_pos a p hp
  exact ⟨Int.ediv_nonneg ha (by omega), Int.ediv_le_self _ ha⟩
/-- The multiple of the first k Periods; 0: it is above most. -/
def hypTo (l : List (Int × Int × Int)) (most : Int) : Nat → Int
  | 0 => 1
  | k + 1 => if hypTo l most k = 0 then 0 else if most < mult (hypTo l most k) (l.getD k (0, 0, 0)).2.1 then 0 else mult (hypTo l most k) (l.getD k (0, 0, 0)).2.1
theorem hypTo_step {l : List (Int × Int × Int)} {most h : Int} {k : Nat} {c p d : Int} (hh : hypTo l most k = h) (h1 : 1 ≤ h) (ht : l.getD k (0, 0, 0) = (c, p, d)) : hypTo l most (k + 1) = if most < mult h p then 0 else mult h p := by
  rw [hypTo, hh, ht, if_neg (by omega)]
theorem hypTo_far {l : List (Int × Int × Int)} {most : Int} {k : Nat} (h : hypTo l most k = 0) : ∀ m, k ≤ m → hypTo l most m = 0 := by
  intro m hm
  induction m with
  | zero =>
    have : k = 0 := by omega
    subst this
    exact h
  | succ m ih =>
    by_cases h2 : k = m + 1
    · rw [← h2]; exact h
    · rw [hypTo, if_pos (ih (by omega))]
def hypN (l : List (Int × Int × Int)) (most : Int) : Int := if 1 ≤ most ∧ most ≤ 1099511627776 ∧ all l = true then hypTo l most l.length else 0
def hypOk (l : List (Int × Int × Int)) (most : Int) : Bool := decide (hypN l most ≠ 0)
theorem hypN_yes {l : List (Int × Int × Int)} {most : Int} (h1 : 1 ≤ most) (h2 : most ≤ 1099511627776) (h3 : all l = true) : hypN l most = hypTo l most l.length := by
  rw [hypN, if_pos ⟨h1, h2, h3⟩]
theorem hypN_no {l : List (Int × Int × Int)} {most : Int} (h : ¬ (1 ≤ most ∧ most ≤ 1099511627776 ∧ all l = true)) : hypN l most = 0 ∧ hypOk l most = false := by
  have : hypN l most = 0 := by rw [hypN, if_neg h]
  exact ⟨this, by simp [hypOk, this]⟩

/-- Where a place goes in among the first j, seen from behind: past those of greater numbers. -/
def slotTo (f : Nat → Int) (L : List Nat) (x : Int) : Nat → Nat
  | 0 => 0
  | j + 1 => if x < f (L.getD j 0) then slotTo f L x j else j + 1
def slot (f : Nat → Int) (L : List Nat) (i : Nat) : Nat := slotTo f L (f i) L.length
/-- The first k places in order. -/
def byTo (f : Nat → Int) : Nat → List Nat
  | 0 => []
  | k + 1 => (byTo f k).take (slot f (byTo f k) k) ++ k :: (byTo f k).drop (slot f (byTo f k) k)
theorem slotTo_le (f : Nat → Int) (L : List Nat) (x : Int) (j : Nat) : slotTo f L x j ≤ j := by
  induction j with
  | zero => exact Nat.le_refl _
  | succ j ih =>
    rw [slotTo]
    split
    · omega
    · exact Nat.le_refl _
theorem byTo_len (f : Nat → Int) (k : Nat) : (byTo f k).length = k := by
  induction k with
  | zero => rfl
  | succ k ih =>
    have := slotTo_le f (byTo f k) (f k) (byTo f k).length
    rw [byTo, slot, List.length_append, List.length_cons, List.length_take, List.length_drop]
    omega
theorem byTo_lt (f : Nat → Int) (k : Nat) : ∀ x ∈ byTo f k, x < k := by
  induction k with
  | zero => intro x hx; simp [byTo] at hx
  | succ k ih =>
    intro x hx
    rw [byTo, List.mem_append, List.mem_cons] at hx
    rcases hx with hx | rfl | hx
    · have := ih x (List.mem_of_mem_take hx)
      omega
    · omega
    · have := ih x (List.mem_of_mem_drop hx)
      omega
theorem slotTo_same {f g : Nat → Int} {L : List Nat} {x : Int} (h : ∀ y ∈ L, f y = g y) {j : Nat} (hj : j ≤ L.length) : slotTo f L x j = slotTo g L x j := by
  induction j with
  | zero => rfl
  | succ j ih =>
    have e : L.getD j 0 ∈ L := by
      rw [List.getD_eq_getElem?_getD, List.getElem?_eq_getElem (by omega)]
      exact List.getElem_mem _
    rw [slotTo, slotTo, ih (by omega), h _ e]
theorem byTo_same {f g : Nat → Int} {k : Nat} (h : ∀ i, i < k → f i = g i) : byTo f k = byTo g k := by
  induction k with
  | zero => rfl
  | succ k ih =>
    have e := ih fun i hi => h i (by omega)
    have e2 : slot f (byTo g k) k = slot g (byTo g k) k := by
      rw [slot, slot, h k (by omega)]
      exact slotTo_same (fun y hy => h y (by have := byTo_lt g k y hy; omega)) (Nat.le_refl _)
    rw [byTo, byTo, e, e2]

/-- While a place goes in: the first j of L, it, the others, and those that are still to go in. -/
def mid (L : List Nat) (i j : Nat) (R : List Nat) : List Nat := L.take j ++ i :: (L.drop j ++ R)
theorem mid_swap {L R : List Nat} {i j : Nat} (hj : j < L.length) : ((mid L i (j + 1) R).set (j + 1) (L.getD j 0)).set j i = mid L i j R := by
  have e : L = L.take j ++ L[j] :: L.drop (j + 1) := by
    rw [← List.drop_eq_getElem_cons hj, List.take_append_drop]
  have e1 : L.take (j + 1) = L.take j ++ [L[j]] := List.take_succ_eq_append_getElem hj
  have e2 : L.drop j = L[j] :: L.drop (j + 1) := List.drop_eq_getElem_cons hj
  have e3 : L.getD j 0 = L[j] := by rw [List.getD_eq_getElem?_getD, List.getElem?_eq_getElem hj]; rfl
  have hl : (L.take j).length = j := by rw [List.length_take]; omega
  unfold mid
  rw [e1, e2, e3]
  generalize L.take j = A at *
  generalize L.drop (j + 1) = B at *
  subst hl
  rw [List.append_assoc, List.set_append_right _ _ (by omega), List.set_append_right _ _ (by omega)]
  simp
theorem mid_at {L R : List Nat} {i j : Nat} (hj : j ≤ L.length) : (mid L i j R).getD j 0 = i := by
  have hl : (L.take j).length = j := by rw [List.length_take]; omega
  rw [mid, List.getD_eq_getElem?_getD, List.getElem?_append_right (by omega), hl]
  simp
theorem mid_before {L R : List Nat} {i j m : Nat} (hj : j ≤ L.length) (hm : m < j) : (mid L i j R).getD m 0 = L.getD m 0 := by
  have hl : (L.take j).length = j := by rw [List.length_take]; omega
  rw [mid, List.getD_eq_getElem?_getD, List.getElem?_append_left (by omega), List.getElem?_take, if_pos hm, List.getD_eq_getElem?_getD]
theorem mid_len {L R : List Nat} {i j : Nat} (hj : j ≤ L.length) : (mid L i j R).length = L.length + 1 + R.length := by
  simp only [mid, List.length_append, List.length_cons, List.length_take, List.length_drop]
  omega
/-- The places from i on. -/
def rest (n i : Nat) : List Nat := List.range' i (n - i)
theorem rest_cons {n i : Nat} (h : i < n) : rest n i = i :: rest n (i + 1) := by
  unfold rest
  obtain ⟨m, hm⟩ : ∃ m, n - i = m + 1 := ⟨n - i - 1, by omega⟩
  rw [hm, List.range'_succ]
  congr 2
  omega
theorem rest_end {n i : Nat} (h : n ≤ i) : rest n i = [] := by
  unfold rest
  rw [Nat.sub_eq_zero_of_le h]
  rfl
theorem rest_all (n : Nat) : rest n 0 = List.range n := by
  unfold rest
  rw [Nat.sub_zero, List.range_eq_range']
theorem mid_start {f : Nat → Int} {n i : Nat} (h : i < n) : byTo f i ++ rest n i = mid (byTo f i) i i (rest n (i + 1)) := by
  have hl := byTo_len f i
  rw [mid, List.take_of_length_le (by omega), List.drop_eq_nil_of_le (by omega), rest_cons h, List.nil_append]
theorem mid_done {f : Nat → Int} {n i j : Nat} (hj : j = slot f (byTo f i) i) : mid (byTo f i) i j (rest n (i + 1)) = byTo f (i + 1) ++ rest n (i + 1) := by
  rw [mid, byTo, ← hj, List.append_assoc, List.cons_append]
end Go.Proofs.Ytnchlgdmpjemhaa.Tk
