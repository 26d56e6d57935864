/-
  Plain arithmetic of package tasks, more: lists of points, rising.
-/
import Derived.Test.YtlpmcmgalodfeaaTMath
namespace Go.Proofs.Ytlpmcmgalodfeaa.Tk

/-- All points below m, rising, each once. -/
def PtsTo (l : List (Int × Int × Int)) (m : Int) (L : List Int) : Prop := L.Pairwise (· < ·) ∧ ∀ x, x ∈ L ↔ isPt l x = true ∧ x < m

theorem rising_unique : ∀ {L M : List Int}, L.Pairwise (· < ·) → M.Pairwise (· < ·) → (∀ x, x ∈ L ↔ x ∈ M) → L = M
  | [], [], _, _, _ => rfl
  | [], b :: M, _, _, h => by have := (h b).2 List.mem_cons_self; simp at this
  | a :: L, [], _, _, h => by have := (h a).1 List.mem_cons_self; simp at this
  | a :: L, b :: M, hL, hM, h => by
    rw [List.pairwise_cons] at hL hM
    have h1 := (h a).1 List.mem_cons_self
    have h2 := (h b).2 List.mem_cons_self
    have e : a = b := by
      rcases List.mem_cons.1 h1 with h1 | h1
      · exact h1
      · rcases List.mem_cons.1 h2 with h2 | h2
        · exact h2.symm
        · have := hM.1 _ h1
          have := hL.1 _ h2
          omega
    subst e
    rw [rising_unique hL.2 hM.2 fun x => ?_]
    have hx := h x
    constructor
    · intro hm
      rcases List.mem_cons.1 (hx.1 (List.mem_cons_of_mem _ hm)) with h3 | h3
      · have := hL.1 _ hm
        omega
      · exact h3
    · intro hm
      rcases List.mem_cons.1 (hx.2 (List.mem_cons_of_mem _ hm)) with h3 | h3
      · have := hM.1 _ hm
        omega
      · exact h3
theorem PtsTo.unique {l : List (Int × Int × Int)} {m : Int} {L M : List Int} (h : PtsTo l m L) (h2 : PtsTo l m M) : L = M :=
  rising_unique h.1 h2.1 fun x => (h.2 x).trans (h2.2 x).symm

/-- All points up to n. -/
def pts (l : List (Int × Int × Int)) (n : Int) : List Int := ((List.range (n + 1).toNat).map fun k : Nat => (k : Int)).filter (isPt l)

theorem isPt_pos {l : List (Int × Int × Int)} (h : ∀ t ∈ l, rt t = true) {x : Int} (hx : isPt l x = true) : 1 ≤ x := by
  simp only [isPt, List.any_eq_true] at hx
  obtain ⟨t, ht, hp⟩ := hx
  have h1 := right_iff.1 (h t ht)
  simp only [pt, Bool.and_eq_true, decide_eq_true_eq] at hp
  omega
theorem pts_are {l : List (Int × Int × Int)} (h : ∀ t ∈ l, rt t = true) (n : Int) : PtsTo l (n + 1) (pts l n) := by
  constructor
  · refine List.Pairwise.filter _ ?_
    rw [List.pairwise_map]
    exact List.pairwise_lt_range.imp fun h => by omega
  · intro x
    simp only [pts, List.mem_filter, List.mem_map, List.mem_range]
    constructor
    · rintro ⟨⟨k, hk, rfl⟩, h2⟩
      exact ⟨h2, by omega⟩
    · rintro ⟨h1, h2⟩
      have := isPt_pos h h1
      exact ⟨⟨x.toNat, by omega, by omega⟩, h1⟩
theorem pts_len (l : List (Int × Int × Int)) (n : Int) : (pts l n).length ≤ (n + 1).toNat := by
  refine Nat.le_trans (List.length_filter_le _ _) ?_
  simp
theorem PtsTo.len {l : List (Int × Int × Int)} (h : ∀ t ∈ l, rt t = true) {m : Int} {L : List Int} (hL : PtsTo l m L) : L.length ≤ m.toNat := by
  have h1 := pts_are h (m - 1)
  rw [show m - 1 + 1 = m by omega] at h1
  rw [hL.unique h1]
  have := pts_len l (m - 1)
  rwa [show m - 1 + 1 = m by omega] at this
theorem pts_eq {l : List (Int × Int × Int)} (h : ∀ t ∈ l, rt t = true) {n : Int} {L : List Int} (hL : PtsTo l (n + 1) L) : L = pts l n := hL.unique (pts_are h n)
theorem pts_mem {l : List (Int × Int × Int)} (h : ∀ t ∈ l, rt t = true) {n x : Int} : x ∈ pts l n ↔ isPt l x = true ∧ x < n + 1 := (pts_are h n).2 x
theorem pts_bd {l : List (Int × Int × Int)} (h : ∀ t ∈ l, rt t = true) {n : Int} : ∀ x ∈ pts l n, 1 ≤ x ∧ x ≤ n := fun x hx => by
  have h1 := (pts_mem h).1 hx
  have := isPt_pos h h1.1
  omega

theorem PtsTo.start {l : List (Int × Int × Int)} (h : ∀ t ∈ l, rt t = true) : PtsTo l 1 [] := ⟨List.Pairwise.nil, fun x => by
  simp only [List.not_mem_nil, false_iff, not_and]
  intro h1
  have := isPt_pos h h1
  omega⟩
/-- The next point, behind those that there are. -/
theorem PtsTo.next {l : List (Int × Int × Int)} {m q : Int} {L : List Int} (h : PtsTo l m L) (hq : isPt l q = true) (hm : m ≤ q) (hn : ∀ x, m ≤ x → x < q → isPt l x = false) : PtsTo l (q + 1) (L ++ [q]) := by
  constructor
  · rw [List.pairwise_append]
    refine ⟨h.1, List.pairwise_singleton _ _, fun x hx y hy => ?_⟩
    have := (h.2 x).1 hx
    simp only [List.mem_singleton] at hy
    omega
  · intro x
    rw [List.mem_append, List.mem_singleton, h.2]
    constructor
    · rintro (⟨h1, h2⟩ | rfl)
      · exact ⟨h1, by omega⟩
      · exact ⟨hq, by omega⟩
    · rintro ⟨h1, h2⟩
      by_cases hx : x < m
      · exact Or.inl ⟨h1, hx⟩
      · right
        by_cases hxq : x < q
        · have := hn x (by omega) hxq
          rw [h1] at this
          cases this
        · omega
theorem PtsTo.over {l : List (Int × Int × Int)} {m n : Int} {L : List Int} (h : PtsTo l m L) (hm : m ≤ n) (hn : ∀ x, m ≤ x → x < n → isPt l x = false) : PtsTo l n L := ⟨h.1, fun x => by
  rw [h.2]
  constructor
  · rintro ⟨h1, h2⟩
    exact ⟨h1, by omega⟩
  · rintro ⟨h1, h2⟩
    refine ⟨h1, ?_⟩
    by_cases hx : x < m
    · exact hx
    · have := hn x (by omega) h2
      rw [h1] at this
      cases this⟩

theorem rising_len : ∀ {L : List Int} {a n : Int}, L.Pairwise (· < ·) → (∀ x ∈ L, a < x ∧ x ≤ n) → L.length ≤ (n - a).toNat
  | [], _, _, _, _ => by simp
  | b :: L, a, n, h, hb => by
    rw [List.pairwise_cons] at h
    have h1 := hb b List.mem_cons_self
    have h2 := rising_len (a := b) (n := n) h.2 fun x hx => ⟨h.1 x hx, (hb x (List.mem_cons_of_mem _ hx)).2⟩
    simp only [List.length_cons]
    omega

/-- What goes in where it belongs, what is there is not put in again: before at k stand all that are less. -/
theorem rising_in {L : List Int} (hL : L.Pairwise (· < ·)) {k : Nat} {x : Int} (h1 : ∀ y ∈ L.take k, y < x) (h2 : ∀ y ∈ L.drop k, x < y) : (L.take k ++ x :: L.drop k).Pairwise (· < ·) ∧ ∀ y, y ∈ L.take k ++ x :: L.drop k ↔ y ∈ L ∨ y = x := by
  have e : L = L.take k ++ L.drop k := (List.take_append_drop k L).symm
  rw [e, List.pairwise_append] at hL
  constructor
  · rw [List.pairwise_append, List.pairwise_cons]
    refine ⟨hL.1, ⟨h2, hL.2.1⟩, fun y hy z hz => ?_⟩
    rcases List.mem_cons.1 hz with rfl | hz
    · exact h1 y hy
    · exact hL.2.2 y hy z hz
  · intro y
    conv => rhs; rw [e]
    simp only [List.mem_append, List.mem_cons]
    constructor
    · rintro (h | rfl | h)
      · exact Or.inl (Or.inl h)
      · exact Or.inr rfl
      · exact Or.inl (Or.inr h)
    · rintro ((h | h) | rfl)
      · exact Or.inl h
      · exact Or.inr (Or.inr h)
      · exact Or.inr (Or.inl rfl)
/-- All that stand behind are greater. -/
def Above (L : List Int) (k : Nat) (x : Int) : Prop := ∀ y ∈ L.drop k, x < y
theorem above_end (L : List Int) (x : Int) : Above L L.length x := fun y hy => by simp at hy
theorem above_step {L : List Int} {k : Nat} {x : Int} (hk : k < L.length) (h : Above L (k + 1) x) (hx : x < L.getD k 0) : Above L k x := fun y hy => by
  rw [List.drop_eq_getElem_cons hk] at hy
  rcases List.mem_cons.1 hy with rfl | hy
  · rwa [List.getD_eq_getElem?_getD, List.getElem?_eq_getElem hk] at hx
  · exact h y hy
theorem rising_take {L : List Int} (hL : L.Pairwise (· < ·)) {k : Nat} (hk : k < L.length) : ∀ y ∈ L.take k, y < L.getD k 0 := fun y hy => by
  have e : L = L.take k ++ L.drop k := (List.take_append_drop k L).symm
  rw [e, List.pairwise_append] at hL
  refine hL.2.2 y hy _ ?_
  rw [List.drop_eq_getElem_cons hk, List.getD_eq_getElem?_getD, List.getElem?_eq_getElem hk]
  exact List.mem_cons_self
theorem rising_up {L : List Int} (hL : L.Pairwise (· < ·)) {k : Nat} (hk : k < L.length) {x : Int} (hx : L.getD k 0 < x) : ∀ y ∈ L.take (k + 1), y < x := fun y hy => by
  rw [List.take_succ_eq_append_getElem hk, List.mem_append, List.mem_singleton] at hy
  rcases hy with hy | rfl
  · exact Int.lt_trans (rising_take hL hk y hy) hx
  · rwa [List.getD_eq_getElem?_getD, List.getElem?_eq_getElem hk] at hx

/-- The points of the first i tasks, and those of the next one below at. -/
def Upto (l : List (Int × Int × Int)) (n : Int) (i : Nat) (at' : Int) (L : List Int) : Prop :=
  L.Pairwise (· < ·) ∧ ∀ x, x ∈ L ↔ x ≤ n ∧ (isPt (l.take i) x = true ∨ (pt (l.getD i (0, 0, 0)).2.1 (l.getD i (0, 0, 0)).2.2 x = true ∧ x < at'))

theorem isPt_take {l : List (Int × Int × Int)} {i : Nat} (hi : i < l.length) (x : Int) : isPt (l.take (i + 1)) x = (isPt (l.take i) x || pt (l.getD i (0, 0, 0)).2.1 (l.getD i (0, 0, 0)).2.2 x) := by
  simp only [isPt, List.take_succ_eq_append_getElem hi, List.any_append, List.any_cons, List.any_nil, Bool.or_false, List.getD_eq_getElem?_getD, List.getElem?_eq_getElem hi, Option.getD_some]
theorem pt_at {p d : Int} {j : Nat} (hp : 1 ≤ p) : pt p d (d + j * p) = true := by
  have h0 : 0 ≤ (j : Int) * p := Int.mul_nonneg (by omega) (by omega)
  simp only [pt, Bool.and_eq_true, decide_eq_true_eq]
  refine ⟨by omega, ?_⟩
  rw [show d + (j : Int) * p - d = (j : Int) * p by omega]
  exact Int.mul_emod_left _ _
/-- Between two points of a task there is none of it. -/
theorem pt_next {p d x : Int} {j : Nat} (hp : 1 ≤ p) (hx : pt p d x = true) : x < d + (j + 1 : Nat) * p ↔ x < d + j * p ∨ x = d + j * p := by
  simp only [pt, Bool.and_eq_true, decide_eq_true_eq] at hx
  obtain ⟨h1, h2⟩ := hx
  have h3 := Int.emod_add_mul_ediv (x - d) p
  rw [h2] at h3
  generalize (x - d) / p = q at h3
  have e : ((j + 1 : Nat) : Int) * p = j * p + p := by rw [Int.natCast_add, Int.add_mul]; omega
  rw [e]
  constructor
  · intro h
    rcases Int.lt_trichotomy q j with hq | hq | hq
    · left
      have h4 : (q + 1) * p ≤ j * p := Int.mul_le_mul_of_nonneg_right (by omega) (by omega)
      rw [Int.add_mul] at h4
      rw [Int.mul_comm p q] at h3
      omega
    · right
      rw [Int.mul_comm p q, hq] at h3
      omega
    · have h4 : (j + 1 : Int) * p ≤ q * p := Int.mul_le_mul_of_nonneg_right (by omega) (by omega)
      rw [Int.add_mul] at h4
      rw [Int.mul_comm p q] at h3
      omega
  · rintro (h | h) <;> omega
theorem Upto.first {l : List (Int × Int × Int)} {n : Int} {i : Nat} {L : List Int} {c p d : Int} (ht : l.getD i (0, 0, 0) = (c, p, d)) (h : L.Pairwise (· < ·) ∧ ∀ x, x ∈ L ↔ x ≤ n ∧ isPt (l.take i) x = true) : Upto l n i d L := ⟨h.1, fun x => by
  rw [h.2, ht]
  constructor
  · rintro ⟨h1, h2⟩
    exact ⟨h1, Or.inl h2⟩
  · rintro ⟨h1, h2 | ⟨h2, h3⟩⟩
    · exact ⟨h1, h2⟩
    · simp only [pt, Bool.and_eq_true, decide_eq_true_eq] at h2
      omega⟩
theorem Upto.last {l : List (Int × Int × Int)} {n : Int} {i : Nat} {L : List Int} {a : Int} (hi : i < l.length) (ha : n < a) (h : Upto l n i a L) : L.Pairwise (· < ·) ∧ ∀ x, x ∈ L ↔ x ≤ n ∧ isPt (l.take (i + 1)) x = true := ⟨h.1, fun x => by
  rw [h.2, isPt_take hi, Bool.or_eq_true]
  constructor
  · rintro ⟨h1, h2 | ⟨h2, h3⟩⟩
    · exact ⟨h1, Or.inl h2⟩
    · exact ⟨h1, Or.inr h2⟩
  · rintro ⟨h1, h2 | h2⟩
    · exact ⟨h1, Or.inl h2⟩
    · exact ⟨h1, Or.inr ⟨h2, by omega⟩⟩⟩
theorem Upto.len {l : List (Int × Int × Int)} (h : all l = true) {n : Int} {i : Nat} (hi : i < l.length) {a : Int} {L : List Int} (hL : Upto l n i a L) : L.length ≤ n.toNat := by
  have := rising_len (a := 0) (n := n) hL.1 fun x hx => by
    obtain ⟨h1, h2 | ⟨h2, -⟩⟩ := (hL.2 x).1 hx
    · have := isPt_pos (mem_take_rt h i) h2
      omega
    · have h3 := all_bd h hi (c := (l.getD i (0, 0, 0)).1) (p := (l.getD i (0, 0, 0)).2.1) (d := (l.getD i (0, 0, 0)).2.2) rfl
      simp only [pt, Bool.and_eq_true, decide_eq_true_eq] at h2
      omega
  simpa using this
theorem Upto.whole {l : List (Int × Int × Int)} {n : Int} {L : List Int} (h : L.Pairwise (· < ·) ∧ ∀ x, x ∈ L ↔ x ≤ n ∧ isPt (l.take l.length) x = true) : PtsTo l (n + 1) L := ⟨h.1, fun x => by
  rw [h.2, List.take_length]
  constructor
  · rintro ⟨h1, h2⟩
    exact ⟨h2, by omega⟩
  · rintro ⟨h1, h2⟩
    exact ⟨by omega, h1⟩⟩
/-- One point more, put in. -/
theorem Upto.put {l : List (Int × Int × Int)} {n : Int} {i j k : Nat} {L : List Int} {c p d : Int} (ht : l.getD i (0, 0, 0) = (c, p, d)) (hp : 1 ≤ p) (hn : d + j * p ≤ n) (h : Upto l n i (d + j * p) L)
    (h1 : ∀ y ∈ L.take k, y < d + j * p) (h2 : Above L k (d + j * p)) : Upto l n i (d + (j + 1 : Nat) * p) (L.take k ++ (d + j * p) :: L.drop k) := by
  obtain ⟨r1, r2⟩ := rising_in h.1 h1 h2
  refine ⟨r1, fun x => ?_⟩
  rw [r2, h.2, ht]
  constructor
  · rintro (⟨h3, h4 | ⟨h4, h5⟩⟩ | rfl)
    · exact ⟨h3, Or.inl h4⟩
    · exact ⟨h3, Or.inr ⟨h4, (pt_next hp h4).2 (Or.inl h5)⟩⟩
    · exact ⟨hn, Or.inr ⟨pt_at hp, (pt_next hp (pt_at hp)).2 (Or.inr rfl)⟩⟩
  · rintro ⟨h3, h4 | ⟨h4, h5⟩⟩
    · exact Or.inl ⟨h3, Or.inl h4⟩
    · rcases (pt_next hp h4).1 h5 with h6 | h6
      · exact Or.inl ⟨h3, Or.inr ⟨h4, h6⟩⟩
      · exact Or.inr h6
/-- One point more, that is there. -/
theorem Upto.there {l : List (Int × Int × Int)} {n : Int} {i j : Nat} {L : List Int} {c p d : Int} (ht : l.getD i (0, 0, 0) = (c, p, d)) (hp : 1 ≤ p) (h : Upto l n i (d + j * p) L)
    (h1 : d + j * p ∈ L) : Upto l n i (d + (j + 1 : Nat) * p) L := by
  refine ⟨h.1, fun x => ?_⟩
  rw [h.2, ht]
  constructor
  · rintro ⟨h3, h4 | ⟨h4, h5⟩⟩
    · exact ⟨h3, Or.inl h4⟩
    · exact ⟨h3, Or.inr ⟨h4, (pt_next hp h4).2 (Or.inl h5)⟩⟩
  · rintro ⟨h3, h4 | ⟨h4, h5⟩⟩
    · exact ⟨h3, Or.inl h4⟩
    · rcases (pt_next hp h4).1 h5 with h6 | h6
      · exact ⟨h3, Or.inr ⟨h4, h6⟩⟩
      · have := (h.2 x).1 (by rw [h6]; exact h1)
        rw [ht] at this
        exact ⟨h3, this.2⟩

/-- A task's first point from m on. -/
def nxt (p d m : Int) : Int := if m ≤ d then d else d + (m - d + p - 1) / p * p

theorem nxt_pt {p d m : Int} (hp : 1 ≤ p) : pt p d (nxt p d m) = true ∧ m ≤ nxt p d m ∧ ∀ x, m ≤ x → x < nxt p d m → pt p d x = false := by
  unfold nxt
  split
  · rename_i h
    refine ⟨by simp [pt], h, fun x _ h2 => ?_⟩
    simp only [pt, Bool.and_eq_false_iff, decide_eq_false_iff_not]
    left
    omega
  · rename_i h
    have h0 : 0 ≤ (m - d + p - 1) / p := Int.ediv_nonneg (by omega) (by omega)
    have e1 := Int.emod_add_mul_ediv (m - d + p - 1) p
    have e2 := Int.emod_nonneg (m - d + p - 1) (show p ≠ 0 by omega)
    have e3 := Int.emod_lt_of_pos (m - d + p - 1) (show 0 < p by omega)
    generalize hq : (m - d + p - 1) / p = q at *
    rw [Int.mul_comm p q] at e1
    refine ⟨?_, by omega, fun x h1 h2 => ?_⟩
    · obtain ⟨j, rfl⟩ := Int.eq_ofNat_of_zero_le h0
      exact pt_at hp
    · cases hx : pt p d x with
      | false => rfl
      | true =>
        exfalso
        simp only [pt, Bool.and_eq_true, decide_eq_true_eq] at hx
        have h3 := Int.emod_add_mul_ediv (x - d) p
        rw [hx.2] at h3
        generalize (x - d) / p = r at h3
        rw [Int.mul_comm p r] at h3
        have hrq : r < q := by
          rcases Int.lt_or_le r q with h4 | h4
          · exact h4
          · have := Int.mul_le_mul_of_nonneg_right h4 (show 0 ≤ p by omega)
            omega
        have h5 := Int.mul_le_mul_of_nonneg_right (show r ≤ q - 1 by omega) (show 0 ≤ p by omega)
        rw [Int.sub_mul] at h5
        omega
/-- A task's next point is the only one that is that. -/
theorem nxt_is {p d m x : Int} (hp : 1 ≤ p) (h1 : pt p d x = true) (h2 : m ≤ x) (h3 : ∀ y, m ≤ y → y < x → pt p d y = false) : x = nxt p d m := by
  obtain ⟨a, b, c⟩ := nxt_pt (p := p) (d := d) (m := m) hp
  rcases Int.lt_trichotomy x (nxt p d m) with h | h | h
  · have := c x h2 h
    rw [h1] at this
    cases this
  · exact h
  · have := h3 _ b h
    rw [a] at this
    cases this
theorem nxt_start {p d : Int} (hd : 1 ≤ d) : nxt p d 1 = d := by
  unfold nxt
  rw [if_pos hd]
/-- Past a number that the next point isn't below. -/
theorem nxt_on {p d m q : Int} (hp : 1 ≤ p) (hm : m ≤ q) (hq : q ≤ nxt p d m) : nxt p d (q + 1) = if nxt p d m = q then nxt p d m + p else nxt p d m := by
  obtain ⟨a, b, c⟩ := nxt_pt (p := p) (d := d) (m := m) hp
  symm
  split
  · rename_i h
    refine nxt_is hp ?_ (by omega) ?_
    · simp only [pt, Bool.and_eq_true, decide_eq_true_eq] at a ⊢
      refine ⟨by omega, ?_⟩
      rw [show nxt p d m + p - d = nxt p d m - d + p * 1 by omega, Int.add_mul_emod_self_left]
      exact a.2
    · intro y h1 h2
      cases hy : pt p d y with
      | false => rfl
      | true =>
        exfalso
        simp only [pt, Bool.and_eq_true, decide_eq_true_eq] at a hy
        have h3 : (y - nxt p d m) % p = 0 := by
          rw [show y - nxt p d m = (y - d) - (nxt p d m - d) by omega, Int.sub_emod, a.2, hy.2]
          simp
        rw [Int.emod_eq_of_lt (by omega) (by omega)] at h3
        omega
  · refine nxt_is hp a (by omega) fun y h1 h2 => c y (by omega) h2
theorem nxt_bd {p d m : Int} (hp : 1 ≤ p) (hdp : d ≤ p) (hm : 1 ≤ m) : 1 ≤ nxt p d m ∧ nxt p d m ≤ m + p := by
  obtain ⟨a, b, c⟩ := nxt_pt (p := p) (d := d) (m := m) hp
  refine ⟨by omega, ?_⟩
  unfold nxt
  split
  · omega
  · rename_i h
    have e1 := Int.emod_add_mul_ediv (m - d + p - 1) p
    have e2 := Int.emod_nonneg (m - d + p - 1) (show p ≠ 0 by omega)
    rw [Int.mul_comm] at e1
    omega

/-- The least of the next points of the first k tasks. -/
def leastTo (l : List (Int × Int × Int)) (m : Int) : Nat → Int
  | 0 => nxt (l.getD 0 (0, 0, 0)).2.1 (l.getD 0 (0, 0, 0)).2.2 m
  | k + 1 => min (leastTo l m k) (nxt (l.getD (k + 1) (0, 0, 0)).2.1 (l.getD (k + 1) (0, 0, 0)).2.2 m)
theorem leastTo_le (l : List (Int × Int × Int)) (m : Int) (k i : Nat) (h : i ≤ k) : leastTo l m k ≤ nxt (l.getD i (0, 0, 0)).2.1 (l.getD i (0, 0, 0)).2.2 m := by
  induction k with
  | zero =>
    have : i = 0 := by omega
    subst this
    exact Int.le_refl _
  | succ k ih =>
    rw [leastTo]
    by_cases hi : i = k + 1
    · subst hi
      exact Int.min_le_right _ _
    · exact Int.le_trans (Int.min_le_left _ _) (ih (by omega))
theorem leastTo_is (l : List (Int × Int × Int)) (m : Int) (k : Nat) : ∃ i, i ≤ k ∧ leastTo l m k = nxt (l.getD i (0, 0, 0)).2.1 (l.getD i (0, 0, 0)).2.2 m := by
  induction k with
  | zero => exact ⟨0, Nat.le_refl _, rfl⟩
  | succ k ih =>
    obtain ⟨i, hi, e⟩ := ih
    rw [leastTo]
    rcases Int.le_total (leastTo l m k) (nxt (l.getD (k + 1) (0, 0, 0)).2.1 (l.getD (k + 1) (0, 0, 0)).2.2 m) with h | h
    · exact ⟨i, by omega, by rw [Int.min_eq_left h, e]⟩
    · exact ⟨k + 1, Nat.le_refl _, Int.min_eq_right h⟩
theorem pt_isPt {l : List (Int × Int × Int)} {i : Nat} (hi : i < l.length) {x : Int} (h : pt (l.getD i (0, 0, 0)).2.1 (l.getD i (0, 0, 0)).2.2 x = true) : isPt l x = true := by
  simp only [isPt, List.any_eq_true]
  refine ⟨l.getD i (0, 0, 0), ?_, h⟩
  rw [List.getD_eq_getElem?_getD, List.getElem?_eq_getElem hi]
  exact List.getElem_mem hi
/-- The least of the next points of all tasks is the set's next point. -/
theorem least_pt {l : List (Int × Int × Int)} (h : ∀ t ∈ l, rt t = true) {k : Nat} (hk : k + 1 = l.length) (m : Int) : isPt l (leastTo l m k) = true ∧ m ≤ leastTo l m k ∧ ∀ x, m ≤ x → x < leastTo l m k → isPt l x = false := by
  have hat : ∀ i, i < l.length → 1 ≤ (l.getD i (0, 0, 0)).2.1 := fun i hi => by
    have h1 := right_iff.1 (h (l.getD i (0, 0, 0)) (by rw [List.getD_eq_getElem?_getD, List.getElem?_eq_getElem hi]; exact List.getElem_mem hi))
    omega
  obtain ⟨i, hi, e⟩ := leastTo_is l m k
  obtain ⟨a, b, c⟩ := nxt_pt (p := (l.getD i (0, 0, 0)).2.1) (d := (l.getD i (0, 0, 0)).2.2) (m := m) (hat i (by omega))
  refine ⟨by rw [e]; exact pt_isPt (by omega) a, by rw [e]; exact b, fun x h1 h2 => ?_⟩
  cases hx : isPt l x with
  | false => rfl
  | true =>
    exfalso
    simp only [isPt, List.any_eq_true] at hx
    obtain ⟨t, ht, hp⟩ := hx
    obtain ⟨j, hj, rfl⟩ := List.getElem_of_mem ht
    have h3 := leastTo_le l m k j (by omega)
    have e2 : l.getD j (0, 0, 0) = l[j] := by rw [List.getD_eq_getElem?_getD, List.getElem?_eq_getElem hj]; rfl
    have h4 := (nxt_pt (p := (l.getD j (0, 0, 0)).2.1) (d := (l.getD j (0, 0, 0)).2.2) (m := m) (hat j hj)).2.2 x h1 (by omega)
    rw [e2] at h4
    rw [hp] at h4
    cases h4
end Go.Proofs.Ytlpmcmgalodfeaa.Tk
