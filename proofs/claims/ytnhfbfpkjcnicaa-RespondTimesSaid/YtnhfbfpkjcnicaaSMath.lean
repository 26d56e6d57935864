/-
  Plain arithmetic of package supply: which reservations may be; what one gives at least, and takes at most; waits; least budgets.
-/
namespace Go.Proofs.Ytnhfbfpkjcnicaa.Sp

/-- A reservation: Budget, Period. May it be? -/
def right (b p : Int) : Bool := decide (1 ≤ b) && decide (b ≤ p) && decide (p ≤ 1048576)
/-- May one ask about so many ticks? -/
def asks (t : Int) : Bool := decide (0 ≤ t) && decide (t ≤ 1048576)
/-- Given at least. -/
def give (b p t : Int) : Int := b * max 0 (t / p - 1)
/-- Rounded up. -/
def up (n d : Int) : Int := (n + d - 1) / d
/-- Taken at most. -/
def take (b p t : Int) : Int := b * (up t p + 1)
def least (b p t : Int) : Int := if right b p = true ∧ asks t = true then give b p t else 0
def most (b p t : Int) : Int := if right b p = true ∧ asks t = true then take b p t else 0
def waitOk (b p need : Int) : Bool := right b p && decide (0 ≤ need) && decide (need ≤ give b p 1048576)
def waitN (b p need : Int) : Int := if waitOk b p need = true then if need = 0 then 0 else p * (up need b + 1) else 0
def smallOk (p need t : Int) : Bool := right p p && asks t && decide (0 ≤ need) && decide (need ≤ give p p t)
def smallN (p need t : Int) : Int := if smallOk p need t = true then if need = 0 then 1 else up need (max 0 (t / p - 1)) else 0

theorem right_iff {b p : Int} : right b p = true ↔ 1 ≤ b ∧ b ≤ p ∧ p ≤ 1048576 := by
  simp [right, and_assoc]
theorem asks_iff {t : Int} : asks t = true ↔ 0 ≤ t ∧ t ≤ 1048576 := by
  simp [asks]
theorem least_yes {b p t : Int} (h : right b p = true) (h2 : asks t = true) : least b p t = give b p t := if_pos ⟨h, h2⟩
theorem most_yes {b p t : Int} (h : right b p = true) (h2 : asks t = true) : most b p t = take b p t := if_pos ⟨h, h2⟩
theorem least_no {b p t : Int} (h : ¬ (right b p = true ∧ asks t = true)) : least b p t = 0 := if_neg h
theorem most_no {b p t : Int} (h : ¬ (right b p = true ∧ asks t = true)) : most b p t = 0 := if_neg h

theorem mul_bd {x y : Int} (hx : 0 ≤ x) (hx2 : x ≤ 2097152) (hy : 0 ≤ y) (hy2 : y ≤ 2097152) : 0 ≤ x * y ∧ x * y ≤ 4398046511104 := by
  refine ⟨Int.mul_nonneg hx hy, ?_⟩
  have := Int.mul_le_mul hx2 hy2 hy (by omega)
  omega
theorem div_bd {t p : Int} (hp : 1 ≤ p) (ht : 0 ≤ t) : 0 ≤ t / p ∧ t / p ≤ t := ⟨Int.ediv_nonneg ht (by omega), Int.ediv_le_self _ ht⟩
theorem give_bd {b p t : Int} (hb : 0 ≤ b) (hb2 : b ≤ 1048576) (hp : 1 ≤ p) (ht : t ≤ 1048576) : 0 ≤ give b p t ∧ give b p t ≤ 4398046511104 := by
  refine mul_bd hb (by omega) (by omega) ?_
  by_cases h : 0 ≤ t
  · have := div_bd hp h
    omega
  · have : t / p < 0 := Int.ediv_neg_of_neg_of_pos (by omega) (by omega)
    omega
theorem up_bd {n d : Int} (hn : 0 ≤ n) (hd : 1 ≤ d) : 0 ≤ up n d ∧ up n d ≤ n := by
  refine ⟨Int.ediv_nonneg (by omega) (by omega), ?_⟩
  rw [up]
  have h : (n + d - 1) / d < n + 1 := by
    rw [Int.ediv_lt_iff_lt_mul (by omega), Int.add_mul, Int.one_mul]
    by_cases h0 : n = 0
    · subst h0; omega
    · have h1 : n * 1 + d * 1 ≤ n * d + 1 * d := by
        have := Int.mul_le_mul_of_nonneg_left hd (show 0 ≤ n by omega)
        omega
      omega
  omega
theorem up_lo {n d : Int} (hd : 1 ≤ d) : n ≤ up n d * d := by
  have := Int.lt_ediv_add_one_mul_self (n + d - 1) (show 0 < d by omega)
  rw [Int.add_mul, Int.one_mul] at this
  rw [up]
  omega
theorem up_hi {n d : Int} (hd : 1 ≤ d) : (up n d - 1) * d < n := by
  have := Int.ediv_mul_le (n + d - 1) (show d ≠ 0 by omega)
  rw [up, Int.sub_mul, Int.one_mul]
  omega
theorem div_at {t p c : Int} (hp : 1 ≤ p) (h1 : c * p ≤ t) (h2 : t < (c + 1) * p) : t / p = c := by
  have a := (Int.le_ediv_iff_mul_le (show 0 < p by omega)).2 h1
  have b := (Int.ediv_lt_iff_lt_mul (show 0 < p by omega)).2 h2
  omega
theorem up_at {t p c : Int} (hp : 1 ≤ p) (h1 : (c - 1) * p < t) (h2 : t ≤ c * p) : up t p = c := by
  rw [up]
  rw [Int.sub_mul, Int.one_mul] at h1
  exact div_at hp (by omega) (by rw [Int.add_mul, Int.one_mul]; omega)

/-- The document's loop of Least, in its round k. -/
def AtL (b p t : Int) (k : Nat) (N A : Int) : Prop := N = k * b ∧ A = (k + 2) * p ∧ (k = 0 ∨ (k + 1) * p ≤ t)
theorem AtL.start (b p t : Int) : AtL b p t 0 0 (2 * p) := ⟨by simp, by simp, Or.inl rfl⟩
theorem AtL.step {b p t N A : Int} {k : Nat} (h : AtL b p t k N A) (ht : A ≤ t) : AtL b p t (k + 1) (N + b) (A + p) := by
  obtain ⟨rfl, rfl, -⟩ := h
  refine ⟨by rw [Int.natCast_add, Int.add_mul]; simp, by rw [Int.natCast_add, Int.add_mul, Int.add_mul, Int.add_mul]; simp; omega, Or.inr ?_⟩
  have e : ((k : Int) + 2) = ((k + 1 : Nat) : Int) + 1 := by omega
  rw [← e]
  exact ht
theorem AtL.bd {b p t N A : Int} {k : Nat} (h : AtL b p t k N A) (hb : 0 ≤ b) (hb2 : b ≤ 1048576) (hp : 1 ≤ p) (hp2 : p ≤ 1048576) (ht : t ≤ 1048576) : (0 ≤ N ∧ N ≤ 4398046511104) ∧ 0 ≤ A ∧ A ≤ 2097152 := by
  obtain ⟨rfl, rfl, h⟩ := h
  rcases h with rfl | h
  · simp; omega
  · have h1 : ((k : Int) + 1) * 1 ≤ (k + 1) * p := Int.mul_le_mul_of_nonneg_left hp (by omega)
    have e : ((k : Int) + 2) * p = (k + 1) * p + p := by rw [show (k : Int) + 2 = (k + 1) + 1 by omega, Int.add_mul (k + 1 : Int) 1 p]; omega
    refine ⟨mul_bd (by omega) (by omega) hb (by omega), ?_⟩
    omega
theorem AtL.done {b p t N A : Int} {k : Nat} (h : AtL b p t k N A) (hp : 1 ≤ p) (ht : t < A) : N = give b p t := by
  obtain ⟨rfl, rfl, h⟩ := h
  rw [give, Int.mul_comm]
  congr 1
  rcases h with rfl | h
  · have : t / p < 2 := (Int.ediv_lt_iff_lt_mul (show 0 < p by omega)).2 (by simpa using ht)
    omega
  · have := div_at (c := k + 1) hp h (by rw [show (k : Int) + 1 + 1 = k + 2 by omega]; exact ht)
    omega

/-- The document's loop of Most, in its round k. -/
def AtM (b p t : Int) (k : Nat) (N A : Int) : Prop := N = (k + 1) * b ∧ A = k * p ∧ (k = 0 ∨ (k - 1) * p < t)
theorem AtM.start (b p t : Int) : AtM b p t 0 b 0 := ⟨by simp, by simp, Or.inl rfl⟩
theorem AtM.step {b p t N A : Int} {k : Nat} (h : AtM b p t k N A) (ht : A < t) : AtM b p t (k + 1) (N + b) (A + p) := by
  obtain ⟨rfl, rfl, -⟩ := h
  refine ⟨by rw [Int.natCast_add, Int.add_mul, Int.add_mul, Int.add_mul]; simp, by rw [Int.natCast_add, Int.add_mul]; simp, Or.inr ?_⟩
  have e : (k : Int) = ((k + 1 : Nat) : Int) - 1 := by omega
  rw [← e]
  exact ht
theorem AtM.bd {b p t N A : Int} {k : Nat} (h : AtM b p t k N A) (hb : 0 ≤ b) (hb2 : b ≤ 1048576) (hp : 1 ≤ p) (hp2 : p ≤ 1048576) (ht : t ≤ 1048576) : (0 ≤ N ∧ N ≤ 4398046511104) ∧ 0 ≤ A ∧ A ≤ 2097152 := by
  obtain ⟨rfl, rfl, h⟩ := h
  rcases h with rfl | h
  · simp; omega
  · by_cases hk : k = 0
    · subst hk; simp; omega
    have h1 : ((k : Int) - 1) * 1 ≤ (k - 1) * p := Int.mul_le_mul_of_nonneg_left hp (by omega)
    have e : (k : Int) * p = (k - 1) * p + p := by rw [Int.sub_mul]; omega
    have := Int.mul_nonneg (show (0 : Int) ≤ k by omega) (show 0 ≤ p by omega)
    refine ⟨mul_bd (by omega) (by omega) hb (by omega), ?_⟩
    omega
theorem AtM.done {b p t N A : Int} {k : Nat} (h : AtM b p t k N A) (hp : 1 ≤ p) (h0 : 0 ≤ t) (ht : t ≤ A) : N = take b p t := by
  obtain ⟨rfl, rfl, h⟩ := h
  have e : up t p = k := by
    rcases h with rfl | h
    · have : t = 0 := by simp at ht; omega
      subst this
      exact up_at hp (by simp; omega) (by simp)
    · exact up_at hp h ht
  rw [take, e, Int.mul_comm]

theorem give_mono {b p t u : Int} (hb : 0 ≤ b) (hp : 1 ≤ p) (h : t ≤ u) : give b p t ≤ give b p u := by
  have := Int.ediv_le_ediv (show 0 < p by omega) h
  exact Int.mul_le_mul_of_nonneg_left (by omega) hb
theorem up_mono {t u p : Int} (hp : 1 ≤ p) (h : t ≤ u) : up t p ≤ up u p := Int.ediv_le_ediv (show 0 < p by omega) (by omega)
theorem take_mono {b p t u : Int} (hb : 0 ≤ b) (hp : 1 ≤ p) (h : t ≤ u) : take b p t ≤ take b p u :=
  Int.mul_le_mul_of_nonneg_left (by have := up_mono hp h; omega) hb
theorem give_take {b p t : Int} (hb : 0 ≤ b) (hp : 1 ≤ p) (ht : 0 ≤ t) : give b p t ≤ take b p t := by
  have h1 := Int.ediv_le_ediv (show 0 < p by omega) (show t ≤ t + p - 1 by omega)
  have h2 := (div_bd hp ht).1
  exact Int.mul_le_mul_of_nonneg_left (by rw [up]; omega) hb

theorem grows {b p n m : Int} (hn : 0 ≤ n) (hn2 : n < 65536) (hm : 0 ≤ m) (hm2 : m < 65536) : least b p n ≤ least b p (n + m) ∧ most b p n ≤ most b p (n + m) ∧ least b p n ≤ most b p n := by
  by_cases hr : right b p = true
  · have h := right_iff.1 hr
    have a1 : asks n = true := asks_iff.2 (by omega)
    have a2 : asks (n + m) = true := asks_iff.2 (by omega)
    rw [least_yes hr a1, least_yes hr a2, most_yes hr a1, most_yes hr a2]
    exact ⟨give_mono (by omega) (by omega) (by omega), take_mono (by omega) (by omega) (by omega), give_take (by omega) (by omega) hn⟩
  · rw [least_no (fun h => hr h.1), least_no (fun h => hr h.1), most_no (fun h => hr h.1), most_no (fun h => hr h.1)]
    omega

theorem wait_iff {b p need : Int} : waitOk b p need = true ↔ right b p = true ∧ 0 ≤ need ∧ need ≤ give b p 1048576 := by
  simp [waitOk, and_assoc]
theorem wait_no {b p need : Int} (h : waitOk b p need = false) : waitN b p need = 0 := by simp [waitN, h]
theorem wait_yes {b p need : Int} (h : waitOk b p need = true) : 0 ≤ waitN b p need ∧ waitN b p need ≤ 1048576 ∧ need ≤ give b p (waitN b p need) ∧ (waitN b p need ≠ 0 → give b p (waitN b p need - 1) < need) := by
  obtain ⟨hr, h0, h1⟩ := wait_iff.1 h
  obtain ⟨r1, r2, r3⟩ := right_iff.1 hr
  rw [waitN, if_pos h]
  by_cases hz : need = 0
  · rw [if_pos hz, hz]
    exact ⟨by omega, by omega, (give_bd (by omega) (by omega) (by omega) (by omega)).1, fun h => absurd rfl h⟩
  · rw [if_neg hz]
    have l1 := up_lo (n := need) (show 1 ≤ b by omega)
    have l2 := up_hi (n := need) (show 1 ≤ b by omega)
    have l3 := (up_bd (n := need) (by omega) (show 1 ≤ b by omega)).1
    generalize up need b = c at *
    have hc : 1 ≤ c := by
      by_cases hc0 : c = 0
      · subst hc0; simp at l1; omega
      · omega
    have e1 : p * (c + 1) / p = c + 1 := Int.mul_ediv_cancel_left _ (by omega)
    have e2 : (p * (c + 1) - 1) / p = c := by
      refine div_at (by omega) ?_ ?_
      · rw [Int.mul_add, Int.mul_comm c]; omega
      · rw [Int.mul_comm p]; omega
    have hn : p * (c + 1) ≤ 1048576 := by
      have k1 : c - 1 < max 0 (1048576 / p - 1) := by
        apply Int.lt_of_mul_lt_mul_right (a := b) _ (by omega)
        have : need ≤ max 0 (1048576 / p - 1) * b := by rw [Int.mul_comm]; exact h1
        omega
      have k2 : c + 1 ≤ 1048576 / p := by omega
      have := (Int.le_ediv_iff_mul_le (show 0 < p by omega)).1 k2
      rw [Int.mul_comm]
      exact this
    refine ⟨Int.mul_nonneg (by omega) (by omega), hn, ?_, fun _ => ?_⟩
    · rw [give, e1, Int.mul_comm, show max 0 (c + 1 - 1) = c by omega]
      exact l1
    · rw [give, e2, Int.mul_comm, show max 0 (c - 1) = c - 1 by omega]
      exact l2

theorem small_iff {p need t : Int} : smallOk p need t = true ↔ right p p = true ∧ asks t = true ∧ 0 ≤ need ∧ need ≤ give p p t := by
  simp [smallOk, and_assoc]
theorem small_no {p need t : Int} (h : smallOk p need t = false) : smallN p need t = 0 := by simp [smallN, h]
theorem small_yes {p need t : Int} (h : smallOk p need t = true) : 1 ≤ smallN p need t ∧ smallN p need t ≤ p ∧ need ≤ give (smallN p need t) p t ∧ (smallN p need t ≠ 1 → give (smallN p need t - 1) p t < need) := by
  obtain ⟨hr, ha, h0, h1⟩ := small_iff.1 h
  obtain ⟨r1, r2, r3⟩ := right_iff.1 hr
  obtain ⟨a1, a2⟩ := asks_iff.1 ha
  rw [smallN, if_pos h]
  by_cases hz : need = 0
  · rw [if_pos hz, hz]
    exact ⟨by omega, by omega, (give_bd (by omega) (by omega) (by omega) (by omega)).1, fun h => absurd rfl h⟩
  · rw [if_neg hz]
    unfold give at *
    have hm : 0 ≤ max 0 (t / p - 1) := by omega
    generalize max 0 (t / p - 1) = L at *
    have hL : 1 ≤ L := by
      by_cases hL0 : L = 0
      · subst hL0; simp at h1; omega
      · omega
    have l1 := up_lo (n := need) hL
    have l2 := up_hi (n := need) hL
    have l3 := (up_bd (n := need) (by omega) hL).1
    generalize up need L = c at *
    have hc : 1 ≤ c := by
      by_cases hc0 : c = 0
      · subst hc0; simp at l1; omega
      · omega
    have hp : c - 1 < p := by
      apply Int.lt_of_mul_lt_mul_right (a := L) _ (by omega)
      omega
    exact ⟨hc, by omega, l1, fun _ => l2⟩

/-- Where more than nothing is given, there are two whole periods. -/
theorem small_wide {p need t : Int} (h : need ≤ give p p t) (hn : 1 ≤ need) : 1 ≤ max 0 (t / p - 1) := by
  by_cases hL : max 0 (t / p - 1) = 0
  · rw [give, hL] at h
    simp at h
    omega
  · omega
end Go.Proofs.Ytnhfbfpkjcnicaa.Sp
