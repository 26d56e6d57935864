/-
  Plain arithmetic of package respond: what is asked for within so many ticks; by when it is given; the least time that stands.
-/
import Derived.Test.YtnhfbfpkjcnicaaTMath
import Derived.Test.YtnhfbfpkjcnicaaSMath
namespace Go.Proofs.Ytnhfbfpkjcnicaa.Rp

/-- What a job, what holds it up and what is ahead ask for in n ticks. -/
def need (l : List (Int × Int × Int)) (c h n : Int) : Int := c + h + Tk.req l n
/-- By when so much is given. -/
def by_ (b p x : Int) : Int := p * (Sp.up x b + 1)
def due (l : List (Int × Int × Int)) (c h b p n : Int) : Int := by_ b p (need l c h n)
/-- May one ask? -/
def asks (l : List (Int × Int × Int)) (c q d h b p u : Int) : Bool := Tk.all l && Tk.right c q d && Sp.asks h && Sp.asks u && Sp.right b p
/-- The least multiple of p, up to u, that F leaves where it is; -1: there is none. -/
def hit (F : Int → Int) (p u : Int) : Int := ((List.range ((u / p).toNat + 1)).find? fun k : Nat => F (k * p) == k * p).elim (-1) fun k : Nat => k * p
def timeI (l : List (Int × Int × Int)) (c h b p u : Int) : Int := hit (due l c h b p) p u
def timeN (l : List (Int × Int × Int)) (c q d h b p u : Int) : Int := if asks l c q d h b p u = true then if timeI l c h b p u < 0 then 0 else timeI l c h b p u else 0
def timeE (l : List (Int × Int × Int)) (c q d h b p u : Int) : Int := if asks l c q d h b p u = true then if timeI l c h b p u < 0 then 24 else 0 else 1

theorem asks_iff {l : List (Int × Int × Int)} {c q d h b p u : Int} : asks l c q d h b p u = true ↔ Tk.all l = true ∧ Tk.right c q d = true ∧ (0 ≤ h ∧ h ≤ 1048576) ∧ (0 ≤ u ∧ u ≤ 1048576) ∧ Sp.right b p = true := by
  simp [asks, Sp.asks_iff, and_assoc]

theorem hit_yes {F : Int → Int} {p u : Int} {k : Nat} (hp : 1 ≤ p) (hu : k * p ≤ u) (h : F (k * p) = k * p) (hn : ∀ j : Nat, j < k → F (j * p) ≠ j * p) : hit F p u = k * p := by
  have hk : (k : Int) ≤ u / p := (Int.le_ediv_iff_mul_le (show 0 < p by omega)).2 hu
  have e : (List.range ((u / p).toNat + 1)).find? (fun k : Nat => F (k * p) == k * p) = some k := by
    rw [List.find?_range_eq_some]
    refine ⟨by simpa using h, List.mem_range.2 (by omega), fun j hj => ?_⟩
    simpa using hn j hj
  rw [hit, e]
  rfl
theorem hit_no {F : Int → Int} {p u : Int} (hp : 1 ≤ p) (h0 : 0 ≤ u) (hn : ∀ j : Nat, j * p ≤ u → F (j * p) ≠ j * p) : hit F p u = -1 := by
  have e : (List.range ((u / p).toNat + 1)).find? (fun k : Nat => F (k * p) == k * p) = none := by
    rw [List.find?_eq_none]
    intro j hj
    have hj2 : (j : Int) ≤ u / p := by
      have := List.mem_range.1 hj
      have := Int.ediv_nonneg h0 (show 0 ≤ p by omega)
      omega
    simpa using hn j ((Int.le_ediv_iff_mul_le (show 0 < p by omega)).1 hj2)
  rw [hit, e]
  rfl
theorem hit_bd {F : Int → Int} {p u : Int} (hp : 1 ≤ p) (h0 : 0 ≤ u) : -1 ≤ hit F p u ∧ hit F p u ≤ u := by
  rw [hit]
  cases h : (List.range ((u / p).toNat + 1)).find? (fun k : Nat => F (k * p) == k * p) with
  | none => simp; omega
  | some k =>
    have hk := List.mem_range.1 (List.mem_of_find?_eq_some h)
    have h1 := Int.ediv_nonneg h0 (show 0 ≤ p by omega)
    have h2 : (k : Int) ≤ u / p := by omega
    have h3 := (Int.le_ediv_iff_mul_le (show 0 < p by omega)).1 h2
    have h4 := Int.mul_nonneg (show (0 : Int) ≤ k by omega) (show 0 ≤ p by omega)
    simp only [Option.elim]
    omega

/-- Going up from below: no answer is passed by. -/
def Up (F : Int → Int) : Prop := ∀ x y, 0 ≤ x → x ≤ y → F x ≤ F y
def At (F : Int → Int) (p u : Int) (k : Nat) : Prop := (∀ j : Nat, j < k → F (j * p) ≠ j * p) ∧ k * p ≤ F (k * p) ∧ k * p ≤ u
theorem mul_up {p : Int} {j k : Nat} (hp : 1 ≤ p) (h : j ≤ k) : (j : Int) * p ≤ k * p := Int.mul_le_mul_of_nonneg_right (by omega) (by omega)
theorem mul_lt {p : Int} {j k : Nat} (hp : 1 ≤ p) (h : j < k) : (j : Int) * p < k * p := Int.mul_lt_mul_of_pos_right (by omega) (by omega)
theorem mul_pos {p : Int} (hp : 1 ≤ p) (k : Nat) : 0 ≤ (k : Int) * p := Int.mul_nonneg (by omega) (by omega)
theorem At.start {F : Int → Int} {p u : Int} (hu : 0 ≤ u) (hF : 0 ≤ F 0) : At F p u 0 := ⟨fun j hj => by omega, by simpa using hF, by simpa using hu⟩
theorem At.next {F : Int → Int} {p u : Int} {k k' : Nat} (h : At F p u k) (hF : Up F) (hp : 1 ≤ p) (e : F (k * p) = k' * p) (hu : (k' : Int) * p ≤ u) (hne : F (k * p) ≠ k * p) : At F p u k' ∧ (k : Int) * p < k' * p := by
  obtain ⟨h1, h2, h3⟩ := h
  refine ⟨⟨fun j hj => ?_, ?_, hu⟩, by omega⟩
  · by_cases hjk : j < k
    · exact h1 j hjk
    · have a := hF _ _ (mul_pos hp k) (mul_up hp (show k ≤ j by omega))
      have b := mul_lt hp hj
      omega
  · have := hF (k * p) (k' * p) (mul_pos hp k) (by omega)
    omega
theorem At.far {F : Int → Int} {p u : Int} {k : Nat} (h : At F p u k) (hF : Up F) (hp : 1 ≤ p) (hu : u < F (k * p)) : hit F p u = -1 := by
  obtain ⟨h1, h2, h3⟩ := h
  have h0 := mul_pos hp k
  refine hit_no hp (by omega) fun j hj => ?_
  by_cases hjk : j < k
  · exact h1 j hjk
  · have a := hF _ _ h0 (mul_up hp (show k ≤ j by omega))
    omega
theorem At.hits {F : Int → Int} {p u : Int} {k : Nat} (h : At F p u k) (hp : 1 ≤ p) (e : F (k * p) = k * p) : hit F p u = k * p := hit_yes hp h.2.2 e h.1

theorem sum_le {f g : Int × Int × Int → Int} {l : List (Int × Int × Int)} (h : ∀ t ∈ l, f t ≤ g t) : (l.map f).sum ≤ (l.map g).sum := by
  induction l with
  | nil => simp
  | cons a l ih =>
    have h1 := h a (by simp)
    have h2 := ih fun t ht => h t (by simp [ht])
    simp only [List.map_cons, List.sum_cons]
    omega
theorem req_mono {l : List (Int × Int × Int)} (ha : Tk.all l = true) {n m : Int} (h : n ≤ m) : Tk.req l n ≤ Tk.req l m := by
  refine sum_le fun t ht => ?_
  obtain ⟨i1, i2, i3, i4⟩ := Tk.right_iff.1 (Tk.all_mem ha t ht)
  exact Int.mul_le_mul_of_nonneg_left (Int.ediv_le_ediv (by omega) (by omega)) (by omega)
theorem by_mono {b p x y : Int} (hb : 1 ≤ b) (hp : 1 ≤ p) (h : x ≤ y) : by_ b p x ≤ by_ b p y := Int.mul_le_mul_of_nonneg_left (by have := Sp.up_mono hb h; omega) (by omega)
theorem due_up {l : List (Int × Int × Int)} {c h b p : Int} (ha : Tk.all l = true) (hb : 1 ≤ b) (hp : 1 ≤ p) : Up (due l c h b p) := fun x y _ hxy => by_mono hb hp (by have := req_mono ha hxy; unfold need; omega)
theorem need_bd {l : List (Int × Int × Int)} {c h n : Int} (ha : Tk.all l = true) (hc : 1 ≤ c) (hc2 : c ≤ 1048576) (hh : 0 ≤ h) (hh2 : h ≤ 1048576) (hn : 0 ≤ n) (hn2 : n ≤ 1048576) : 1 ≤ need l c h n ∧ need l c h n ≤ 8796095119360 := by
  have := Tk.req_bd (Tk.all_len ha) (Tk.all_mem ha) hn hn2
  unfold need
  omega
theorem by_pos {b p x : Int} (hb : 1 ≤ b) (hp : 1 ≤ p) (hx : 0 ≤ x) : 0 ≤ by_ b p x := Int.mul_nonneg (by omega) (by have := (Sp.up_bd hx hb).1; omega)
theorem by_mult {b p x : Int} (hb : 1 ≤ b) (hx : 0 ≤ x) : by_ b p x = ((Sp.up x b + 1).toNat : Int) * p := by
  have := (Sp.up_bd hx hb).1
  rw [by_, Int.toNat_of_nonneg (by omega), Int.mul_comm]

/-- Wait tells by when, where that isn't above what may be asked about. -/
theorem wait_at {b p x : Int} (hok : Sp.waitOk b p x = true) (h1 : 1 ≤ x) : Sp.waitN b p x = by_ b p x := by
  rw [Sp.waitN, if_pos hok, if_neg (by omega), by_]
theorem wait_far {b p x : Int} (hr : Sp.right b p = true) (h1 : 1 ≤ x) (hok : Sp.waitOk b p x = false) : 1048576 < by_ b p x := by
  have hno : ¬ x ≤ Sp.give b p 1048576 := fun h => by rw [Sp.wait_iff.2 ⟨hr, by omega, h⟩] at hok; cases hok
  obtain ⟨r1, r2, r3⟩ := Sp.right_iff.1 hr
  have l1 := Sp.up_lo (n := x) r1
  rw [Sp.give] at hno
  rw [by_]
  generalize Sp.up x b = c at *
  have k1 : max 0 (1048576 / p - 1) < c := by
    apply Int.lt_of_mul_lt_mul_right (a := b) _ (by omega)
    rw [Int.mul_comm _ b]
    omega
  have k2 : 1048576 / p + 1 ≤ c + 1 := by omega
  have k3 := Int.lt_mul_ediv_self_add (x := 1048576) (show 0 < p by omega)
  have k4 := Int.mul_le_mul_of_nonneg_left k2 (show 0 ≤ p by omega)
  rw [Int.mul_add] at k4
  omega

/-- The document's wait. -/
def waitI (b p x u : Int) : Int := if by_ b p x ≤ u then by_ b p x else -1
def AtW (b p x u : Int) (k : Nat) (N A : Int) : Prop := N = k * b ∧ A = (k + 2) * p ∧ k * b < x ∧ (k = 0 ∨ (k + 1) * p ≤ u)
theorem AtW.start {b p x u : Int} (hx : 1 ≤ x) : AtW b p x u 0 0 (2 * p) := ⟨by simp, by simp, by simp; omega, Or.inl rfl⟩
theorem AtW.step {b p x u N A : Int} {k : Nat} (h : AtW b p x u k N A) (hu : A ≤ u) (hx : N + b < x) : AtW b p x u (k + 1) (N + b) (A + p) := by
  obtain ⟨rfl, rfl, -, -⟩ := h
  have e : ((k + 1 : Nat) : Int) * b = k * b + b := by rw [Int.natCast_add, Int.add_mul]; simp
  refine ⟨e.symm, by rw [Int.natCast_add, Int.add_mul, Int.add_mul, Int.add_mul]; simp; omega, by rw [e]; exact hx, Or.inr ?_⟩
  rw [show ((k + 1 : Nat) : Int) + 1 = (k : Int) + 2 by omega]
  exact hu
theorem AtW.bd {b p x u N A : Int} {k : Nat} (h : AtW b p x u k N A) (hb : 0 ≤ b) (hp : 1 ≤ p) (hp2 : p ≤ 1048576) (hu : u ≤ 1048576) : (0 ≤ N ∧ N < x) ∧ 0 ≤ A ∧ A ≤ 2097152 := by
  obtain ⟨rfl, rfl, hx, h⟩ := h
  refine ⟨⟨Int.mul_nonneg (by omega) hb, hx⟩, Int.mul_nonneg (by omega) (by omega), ?_⟩
  rcases h with rfl | h
  · simp; omega
  · have e : ((k : Int) + 2) * p = (k + 1) * p + p := by rw [show (k : Int) + 2 = (k + 1) + 1 by omega, Int.add_mul (k + 1 : Int) 1 p]; omega
    omega
theorem AtW.hits {b p x u N A : Int} {k : Nat} (h : AtW b p x u k N A) (hb : 1 ≤ b) (hu : A ≤ u) (hx : x ≤ N + b) : waitI b p x u = A := by
  obtain ⟨rfl, rfl, hx2, -⟩ := h
  have e : Sp.up x b = k + 1 := Sp.up_at hb (by rw [show (k : Int) + 1 - 1 = k by omega]; exact hx2) (by rw [Int.add_mul]; omega)
  have e2 : by_ b p x = (k + 2) * p := by rw [by_, e, Int.mul_comm, show (k : Int) + 1 + 1 = k + 2 by omega]
  rw [waitI, e2, if_pos hu]
theorem AtW.far {b p x u N A : Int} {k : Nat} (h : AtW b p x u k N A) (hb : 1 ≤ b) (hp : 1 ≤ p) (hu : u < A) : waitI b p x u = -1 := by
  obtain ⟨rfl, rfl, hx2, -⟩ := h
  have l1 := Sp.up_lo (n := x) hb
  have k1 : (k : Int) < Sp.up x b := by
    apply Int.lt_of_mul_lt_mul_right (a := b) _ (by omega)
    omega
  have k2 := Int.mul_le_mul_of_nonneg_left (show (k : Int) + 2 ≤ Sp.up x b + 1 by omega) (show 0 ≤ p by omega)
  rw [Int.mul_comm p (k + 2)] at k2
  rw [waitI, if_neg (by rw [by_]; omega)]
theorem wait_iff {b p x u n : Int} (hn : 0 ≤ n) (hu : n ≤ u) : waitI b p x u = n ↔ by_ b p x = n := by
  rw [waitI]
  split <;> omega
theorem wait_eq {b p x u n : Int} (hn : 0 ≤ n) (hu : n ≤ u) : (waitI b p x u == n) = decide (by_ b p x = n) := by
  by_cases h : by_ b p x = n
  · rw [(wait_iff hn hu).2 h]; simp [h]
  · have h2 : ¬ waitI b p x u = n := fun e => h ((wait_iff hn hu).1 e)
    simp [h, h2]
end Go.Proofs.Ytnhfbfpkjcnicaa.Rp
