/-
  Plain arithmetic of package tasks: which tasks may be; jobs counted; what sets ask for, and where that grows.
-/
namespace Go.Proofs.Ytnhfbfpkjcnicaa.Tk

/-- A task: Cost, Period, Deadline. May it be? -/
def right (c p d : Int) : Bool := decide (1 ≤ c) && decide (c ≤ d) && decide (d ≤ p) && decide (p ≤ 1048576)
def rt (t : Int × Int × Int) : Bool := right t.1 t.2.1 t.2.2
/-- May a set be? -/
def all (l : List (Int × Int × Int)) : Bool := decide (l.length ≤ 8) && l.all rt
/-- May a set be asked about so many ticks? -/
def spans (l : List (Int × Int × Int)) (n : Int) : Bool := decide (0 ≤ n) && decide (n ≤ 1048576) && all l

theorem right_iff {c p d : Int} : right c p d = true ↔ 1 ≤ c ∧ c ≤ d ∧ d ≤ p ∧ p ≤ 1048576 := by
  simp [right, and_assoc]
theorem all_take {l : List (Int × Int × Int)} {k : Nat} (hk : k < l.length) : (l.take (k + 1)).all rt = ((l.take k).all rt && rt (l.getD k (0, 0, 0))) := by
  simp only [List.take_succ_eq_append_getElem hk, List.all_append, List.getD_eq_getElem?_getD, List.getElem?_eq_getElem hk, List.all_cons, List.all_nil, Bool.and_true, Option.getD_some]
theorem all_no {l : List (Int × Int × Int)} {k : Nat} (hk : k < l.length) (h : rt (l.getD k (0, 0, 0)) = false) : l.all rt = false := by
  have h1 := all_take (l := l) hk
  rw [h, Bool.and_false] at h1
  rw [List.all_eq_false] at h1 ⊢
  obtain ⟨x, hx, hp⟩ := h1
  exact ⟨x, List.mem_of_mem_take hx, hp⟩
theorem all_at {l : List (Int × Int × Int)} (h : all l = true) {k : Nat} (hk : k < l.length) : rt (l.getD k (0, 0, 0)) = true := by
  simp only [all, Bool.and_eq_true, List.all_eq_true] at h
  rw [List.getD_eq_getElem?_getD, List.getElem?_eq_getElem hk]
  exact h.2 _ (List.getElem_mem hk)
theorem all_len {l : List (Int × Int × Int)} (h : all l = true) : l.length ≤ 8 := by
  simp only [all, Bool.and_eq_true, decide_eq_true_eq] at h
  exact h.1
theorem all_mem {l : List (Int × Int × Int)} (h : all l = true) : ∀ t ∈ l, rt t = true := by
  simp only [all, Bool.and_eq_true, List.all_eq_true] at h
  exact h.2
theorem all_bd {l : List (Int × Int × Int)} (h : all l = true) {k : Nat} (hk : k < l.length) {c p d : Int} (ht : l.getD k (0, 0, 0) = (c, p, d)) : 1 ≤ c ∧ c ≤ d ∧ d ≤ p ∧ p ≤ 1048576 := by
  have := all_at h hk
  rw [ht] at this
  exact right_iff.1 this

/-- How many jobs must be done by n. -/
def cnt (n p d : Int) : Int := if d ≤ n then (n - d) / p + 1 else 0
/-- How many jobs come ahead of n. -/
def come (n p : Int) : Int := (n + p - 1) / p
def dem (l : List (Int × Int × Int)) (n : Int) : Int := (l.map fun t => t.1 * cnt n t.2.1 t.2.2).sum
def req (l : List (Int × Int × Int)) (n : Int) : Int := (l.map fun t => t.1 * come n t.2.1).sum
def demAns (l : List (Int × Int × Int)) (n : Int) : Int := if spans l n = true then dem l n else 0
def reqAns (l : List (Int × Int × Int)) (n : Int) : Int := if spans l n = true then req l n else 0

theorem sum_take {f : Int × Int × Int → Int} {l : List (Int × Int × Int)} {k : Nat} (hk : k < l.length) : ((l.take (k + 1)).map f).sum = ((l.take k).map f).sum + f (l.getD k (0, 0, 0)) := by
  rw [List.take_succ_eq_append_getElem hk, List.map_append, List.sum_append, List.getD_eq_getElem?_getD, List.getElem?_eq_getElem hk]
  simp
theorem dem_step {l : List (Int × Int × Int)} {k : Nat} {n c p d : Int} (hk : k < l.length) (ht : l.getD k (0, 0, 0) = (c, p, d)) : dem (l.take (k + 1)) n = dem (l.take k) n + c * cnt n p d := by
  unfold dem
  rw [sum_take hk, ht]
theorem req_step {l : List (Int × Int × Int)} {k : Nat} {n c p d : Int} (hk : k < l.length) (ht : l.getD k (0, 0, 0) = (c, p, d)) : req (l.take (k + 1)) n = req (l.take k) n + c * come n p := by
  unfold req
  rw [sum_take hk, ht]
theorem dem_two (l m : List (Int × Int × Int)) (n : Int) : dem (l ++ m) n = dem l n + dem m n := by
  unfold dem
  rw [List.map_append, List.sum_append]
theorem req_two (l m : List (Int × Int × Int)) (n : Int) : req (l ++ m) n = req l n + req m n := by
  unfold req
  rw [List.map_append, List.sum_append]

theorem cnt_bd {n p d : Int} (hn : n ≤ 1048576) (hd : 1 ≤ d) (hp : 1 ≤ p) : 0 ≤ cnt n p d ∧ cnt n p d ≤ 1048576 := by
  unfold cnt
  split
  · have h1 : 0 ≤ (n - d) / p := Int.ediv_nonneg (by omega) (by omega)
    have h2 : (n - d) / p ≤ n - d := Int.ediv_le_self _ (by omega)
    omega
  · omega
theorem come_bd {n p : Int} (h0 : 0 ≤ n) (hn : n ≤ 1048576) (hp : 1 ≤ p) : 0 ≤ come n p ∧ come n p ≤ 1048576 := by
  unfold come
  have h1 : 0 ≤ (n + p - 1) / p := Int.ediv_nonneg (by omega) (by omega)
  refine ⟨h1, ?_⟩
  have h2 : (n + p - 1) / p < n + 1 := by
    refine Int.ediv_lt_of_lt_mul (by omega) ?_
    have h3 : n * 1 ≤ n * p := Int.mul_le_mul_of_nonneg_left hp h0
    rw [Int.add_mul]
    omega
  omega
theorem mul_bd {a b : Int} (ha : 0 ≤ a) (ha2 : a ≤ 1048576) (hb : 0 ≤ b) (hb2 : b ≤ 1048576) : 0 ≤ a * b ∧ a * b ≤ 1099511627776 := by
  refine ⟨Int.mul_nonneg ha hb, ?_⟩
  exact Int.le_trans (Int.mul_le_mul ha2 hb2 hb (by omega)) (by decide)

theorem sum_bd {f : Int × Int × Int → Int} {l : List (Int × Int × Int)} (h : ∀ t ∈ l, 0 ≤ f t ∧ f t ≤ 1099511627776) : 0 ≤ (l.map f).sum ∧ (l.map f).sum ≤ l.length * 1099511627776 := by
  induction l with
  | nil => simp
  | cons a l ih =>
    have h1 := h a List.mem_cons_self
    have h2 := ih fun t ht => h t (List.mem_cons_of_mem _ ht)
    simp only [List.map_cons, List.sum_cons, List.length_cons]
    omega
theorem dem_bd {l : List (Int × Int × Int)} {n : Int} (hl : l.length ≤ 8) (h : ∀ t ∈ l, rt t = true) (hn : n ≤ 1048576) : 0 ≤ dem l n ∧ dem l n ≤ 8796093022208 := by
  have := sum_bd (f := fun t => t.1 * cnt n t.2.1 t.2.2) (l := l) fun t ht => by
    have h1 := right_iff.1 (h t ht)
    have h2 := cnt_bd (n := n) (p := t.2.1) (d := t.2.2) hn (by omega) (by omega)
    exact mul_bd (by omega) (by omega) h2.1 h2.2
  unfold dem
  omega
theorem req_bd {l : List (Int × Int × Int)} {n : Int} (hl : l.length ≤ 8) (h : ∀ t ∈ l, rt t = true) (h0 : 0 ≤ n) (hn : n ≤ 1048576) : 0 ≤ req l n ∧ req l n ≤ 8796093022208 := by
  have := sum_bd (f := fun t => t.1 * come n t.2.1) (l := l) fun t ht => by
    have h1 := right_iff.1 (h t ht)
    have h2 := come_bd (n := n) (p := t.2.1) h0 hn (by omega)
    exact mul_bd (by omega) (by omega) h2.1 h2.2
  unfold req
  omega
theorem mem_take_rt {l : List (Int × Int × Int)} (h : all l = true) (k : Nat) : ∀ t ∈ l.take k, rt t = true := fun t ht => all_mem h t (List.mem_of_mem_take ht)
theorem len_take {l : List (Int × Int × Int)} (h : all l = true) (k : Nat) : (l.take k).length ≤ 8 := by
  have := all_len h
  rw [List.length_take]
  omega

/-- Job by job. -/
theorem cnt_more {n p d : Int} {j : Nat} (hp : 1 ≤ p) (h : d + j * p ≤ n) : (j : Int) + 1 ≤ cnt n p d := by
  have h0 : 0 ≤ (j : Int) * p := Int.mul_nonneg (by omega) (by omega)
  have h1 : (j : Int) ≤ (n - d) / p := Int.le_ediv_of_mul_le (by omega) (by omega)
  unfold cnt
  rw [if_pos (by omega)]
  omega
theorem cnt_end {n p d : Int} {j : Nat} (hp : 1 ≤ p) (hj : (j : Int) ≤ cnt n p d) (h : ¬ d + j * p ≤ n) : (j : Int) = cnt n p d := by
  unfold cnt at *
  split at hj
  · have h1 : (n - d) / p < j := Int.ediv_lt_of_lt_mul (by omega) (by omega)
    rw [if_pos (by omega)]
    omega
  · rw [if_neg (by omega)]
    omega
theorem cnt_zero {n p d : Int} (h : n < d) : cnt n p d = 0 := by
  unfold cnt
  rw [if_neg (by omega)]
theorem cnt_some {n p d : Int} (h : d ≤ n) : cnt n p d = (n - d) / p + 1 := by
  unfold cnt
  rw [if_pos h]
theorem come_more {n p : Int} {j : Nat} (hp : 1 ≤ p) (h : j * p < n) : (j : Int) + 1 ≤ come n p := by
  have h1 : (j : Int) + 1 ≤ (n + p - 1) / p := by
    refine Int.le_ediv_of_mul_le (by omega) ?_
    rw [Int.add_mul]
    omega
  exact h1
theorem come_end {n p : Int} {j : Nat} (hp : 1 ≤ p) (hj : (j : Int) ≤ come n p) (h : ¬ j * p < n) : (j : Int) = come n p := by
  unfold come at *
  have h1 : (n + p - 1) / p < j + 1 := by
    refine Int.ediv_lt_of_lt_mul (by omega) ?_
    rw [Int.add_mul]
    omega
  omega

/-- Is x a multiple of a task's Period, and its Deadline? -/
def pt (p d x : Int) : Bool := decide (d ≤ x) && decide ((x - d) % p = 0)
/-- Is x such one of some task's? -/
def isPt (l : List (Int × Int × Int)) (x : Int) : Bool := l.any fun t => pt t.2.1 t.2.2 x

theorem ediv_succ {a p : Int} (hp : 1 ≤ p) : (a + 1) / p = a / p + if (a + 1) % p = 0 then 1 else 0 := by
  have h1 := Int.emod_add_mul_ediv a p
  have h2 := Int.emod_nonneg a (show p ≠ 0 by omega)
  have h3 := Int.emod_lt_of_pos a (show 0 < p by omega)
  have e : a + 1 = (a % p + 1) + p * (a / p) := by omega
  by_cases h : a % p + 1 = p
  · have e2 : a + 1 = p * (a / p + 1) := by rw [Int.mul_add]; omega
    rw [if_pos (by rw [e2]; exact Int.mul_emod_right _ _), e2, Int.mul_ediv_cancel_left _ (by omega)]
  · have e3 : (a + 1) % p = a % p + 1 := by rw [e, Int.add_mul_emod_self_left, Int.emod_eq_of_lt (by omega) (by omega)]
    rw [e3, if_neg (by omega), e, Int.add_mul_ediv_left _ _ (by omega), Int.ediv_eq_zero_of_lt (by omega) (by omega)]
    have e4 : (a % p + 1 + p * (a / p) - 1) = a := by omega
    omega
theorem cnt_succ {n p d : Int} (hp : 1 ≤ p) : cnt (n + 1) p d = cnt n p d + if pt p d (n + 1) = true then 1 else 0 := by
  unfold cnt pt
  by_cases h : d ≤ n
  · have h1 := ediv_succ (a := n - d) hp
    have e : n + 1 - d = n - d + 1 := by omega
    simp only [h, show d ≤ n + 1 by omega, if_true, decide_true, Bool.true_and, decide_eq_true_eq, e, h1]
    omega
  · by_cases h2 : d = n + 1
    · subst h2
      simp [h]
    · have h3 : ¬ d ≤ n + 1 := by omega
      simp [h, h3]
theorem dem_succ {l : List (Int × Int × Int)} {n : Int} (h : ∀ t ∈ l, rt t = true) : (dem l n ≤ dem l (n + 1)) ∧ (dem l n < dem l (n + 1) ↔ isPt l (n + 1) = true) := by
  induction l with
  | nil => simp [dem, isPt]
  | cons a l ih =>
    have h1 := right_iff.1 (h a List.mem_cons_self)
    obtain ⟨i1, i2⟩ := ih fun t ht => h t (List.mem_cons_of_mem _ ht)
    have e : ∀ m, dem (a :: l) m = a.1 * cnt m a.2.1 a.2.2 + dem l m := fun m => by simp [dem]
    have e2 : isPt (a :: l) (n + 1) = (pt a.2.1 a.2.2 (n + 1) || isPt l (n + 1)) := by simp [isPt]
    rw [e, e, e2, cnt_succ (by omega), Int.mul_add]
    by_cases hx : pt a.2.1 a.2.2 (n + 1) = true
    · simp only [hx, if_true, Int.mul_one, Bool.true_or, iff_true]
      omega
    · simp only [hx, Bool.false_eq_true, if_false, Int.mul_zero, Int.add_zero]
      simp only [Bool.not_eq_true] at hx
      rw [Bool.false_or]
      exact ⟨by omega, by rw [← i2]; omega⟩
theorem cnt_le_come {n p d : Int} (hn : 0 ≤ n) (hp : 1 ≤ p) (hd : 1 ≤ d) : cnt n p d ≤ come n p := by
  unfold cnt come
  split
  · have e : (n - d) / p + 1 = (n - d + p) / p := by
      rw [show n - d + p = n - d + p * 1 by omega, Int.add_mul_ediv_left _ _ (by omega)]
    rw [e]
    exact Int.ediv_le_ediv (by omega) (by omega)
  · exact Int.ediv_nonneg (by omega) (by omega)
theorem dem_le_req {l : List (Int × Int × Int)} {n : Int} (hn : 0 ≤ n) (h : ∀ t ∈ l, rt t = true) : dem l n ≤ req l n := by
  induction l with
  | nil => simp [dem, req]
  | cons a l ih =>
    have h1 := right_iff.1 (h a List.mem_cons_self)
    have i1 := ih fun t ht => h t (List.mem_cons_of_mem _ ht)
    have e : dem (a :: l) n = a.1 * cnt n a.2.1 a.2.2 + dem l n := by simp [dem]
    have e2 : req (a :: l) n = a.1 * come n a.2.1 + req l n := by simp [req]
    have h2 := Int.mul_le_mul_of_nonneg_left (cnt_le_come (n := n) (p := a.2.1) (d := a.2.2) hn (by omega) (by omega)) (show 0 ≤ a.1 by omega)
    omega
theorem all_two {l m : List (Int × Int × Int)} (h : all l = true) (h2 : all m = true) (hl : l.length ≤ 4) (hm : m.length ≤ 4) : all (l ++ m) = true := by
  simp only [all, Bool.and_eq_true, decide_eq_true_eq, List.all_append, List.length_append] at *
  exact ⟨by omega, h.2, h2.2⟩
end Go.Proofs.Ytnhfbfpkjcnicaa.Tk
