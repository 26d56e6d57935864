/-
  A heap, as a list of things: who is lead of whom, an exchange of two, the ways up and down. No world, no program.
-/
import Derived.Lib.Hide
namespace Go.Proofs.Ytejmmhaglgmgbaa.Hp

/-- A thing: its block, its Key, What, handle, and when it was put. -/
structure Th where
  b : Nat
  key : Int
  what : Int
  handle : Int
  turn : Int
instance : Inhabited Th := ⟨⟨0, 0, 0, 0, 0⟩⟩

def lead (x y : Th) : Bool := decide (x.key < y.key ∨ x.key = y.key ∧ x.turn < y.turn)
theorem lead_asymm {x y : Th} (h : lead x y = true) : lead y x = false := by
  simp only [lead, decide_eq_true_eq, decide_eq_false_iff_not] at *
  omega
theorem lead_not {x y z : Th} (h1 : lead y x = false) (h2 : lead z y = false) : lead z x = false := by
  simp only [lead, decide_eq_false_iff_not] at *
  omega
theorem lead_of {x y z : Th} (h1 : lead x y = true) (h2 : lead z y = false) : lead z x = false := lead_not (lead_asymm h1) h2
theorem lead_self (x : Th) : lead x x = false := by
  simp only [lead, decide_eq_false_iff_not]
  omega

def at_ (xs : List Th) (i : Nat) : Th := xs.getD i default
theorem at_some {xs : List Th} {i : Nat} (h : i < xs.length) : xs[i]? = some (at_ xs i) := by
  rw [at_, List.getD_eq_getElem?_getD, List.getElem?_eq_getElem h]
  rfl
theorem at_of {xs : List Th} {i : Nat} {x : Th} (h : xs[i]? = some x) : at_ xs i = x := by
  rw [at_, List.getD_eq_getElem?_getD, h]
  rfl
theorem at_mem {xs : List Th} {i : Nat} (h : i < xs.length) : at_ xs i ∈ xs := List.mem_of_getElem? (at_some h)

/-- Two of them exchanged. -/
def swp (xs : List Th) (i j : Nat) : List Th := (xs.set i (at_ xs j)).set j (at_ xs i)
theorem swp_len (xs : List Th) (i j : Nat) : (swp xs i j).length = xs.length := by simp [swp]
theorem swp_at {xs : List Th} {i j : Nat} (hi : i < xs.length) (hj : j < xs.length) (k : Nat) : at_ (swp xs i j) k = if k = j then at_ xs i else if k = i then at_ xs j else at_ xs k := by
  rw [at_, swp, List.getD_eq_getElem?_getD, List.getElem?_set, List.getElem?_set]
  by_cases h1 : j = k
  · subst h1
    simp [hj]
  · rw [if_neg h1, if_neg (Ne.symm h1)]
    by_cases h2 : i = k
    · subst h2
      simp [hi]
    · rw [if_neg h2, if_neg (Ne.symm h2), at_, List.getD_eq_getElem?_getD]
theorem perm_set {α : Type} : ∀ (l : List α) (i : Nat) (x y : α), l[i]? = some x → (y :: l).Perm (x :: l.set i y)
  | [], _, _, _, h => by simp at h
  | a :: r, 0, x, y, h => by
    simp at h
    subst h
    exact List.Perm.swap _ _ _
  | a :: r, i + 1, x, y, h => by
    simp at h
    have := perm_set r i x y h
    exact (List.Perm.swap _ _ _).trans ((this.cons a).trans (List.Perm.swap _ _ _))
theorem swp_perm {xs : List Th} {i j : Nat} (hi : i < xs.length) (hj : j < xs.length) : (swp xs i j).Perm xs := by
  have h1 := perm_set xs i (at_ xs i) (at_ xs j) (at_some hi)
  by_cases hij : i = j
  · subst hij
    rw [swp, List.set_set]
    exact List.Perm.cons_inv (h1.symm)
  · have h2 : (xs.set i (at_ xs j))[j]? = some (at_ xs j) := by rw [List.getElem?_set_ne hij, at_some hj]
    have h3 := perm_set (xs.set i (at_ xs j)) j (at_ xs j) (at_ xs i) h2
    exact List.Perm.cons_inv (h3.symm.trans h1.symm)

/-- No thing is lead of the one above it, of those below n. -/
def Heap (n : Nat) (xs : List Th) : Prop := ∀ c, 0 < c → c < n → lead (at_ xs c) (at_ xs ((c - 1) / 2)) = false
/-- .. but the one at j, on its way up. -/
def Up (n j : Nat) (xs : List Th) : Prop :=
  (∀ c, 0 < c → c < n → c ≠ j → lead (at_ xs c) (at_ xs ((c - 1) / 2)) = false) ∧ ∀ c, 0 < c → c < n → (c - 1) / 2 = j → 0 < j → lead (at_ xs c) (at_ xs ((j - 1) / 2)) = false
/-- .. but those below i, on its way down. -/
def Down (n i : Nat) (xs : List Th) : Prop :=
  (∀ c, 0 < c → c < n → (c - 1) / 2 ≠ i → lead (at_ xs c) (at_ xs ((c - 1) / 2)) = false) ∧ ∀ c, 0 < c → c < n → (c - 1) / 2 = i → 0 < i → lead (at_ xs c) (at_ xs ((i - 1) / 2)) = false

theorem up_step {n j : Nat} {xs : List Th} (h : Up n j xs) (hn : n ≤ xs.length) (hj : 0 < j) (hjn : j < n) (ha : lead (at_ xs j) (at_ xs ((j - 1) / 2)) = true) : Up n ((j - 1) / 2) (swp xs ((j - 1) / 2) j) := by
  have hp : (j - 1) / 2 < j := by omega
  obtain ⟨p, hpe⟩ : ∃ p, (j - 1) / 2 = p := ⟨_, rfl⟩
  rw [hpe] at ha hp
  rw [hpe]
  have hs := swp_at (xs := xs) (i := p) (j := j) (by omega) (by omega)
  refine ⟨fun c h0 hc hcp => ?_, fun c h0 hc hcp hp0 => ?_⟩
  · rw [hs c, hs ((c - 1) / 2)]
    by_cases h1 : c = j
    · subst h1
      rw [if_pos rfl, hpe, if_neg (by omega), if_pos rfl]
      exact lead_asymm ha
    · rw [if_neg h1, if_neg hcp]
      by_cases h2 : (c - 1) / 2 = j
      · rw [if_pos h2]
        have h3 := h.2 c h0 hc h2 hj
        rwa [hpe] at h3
      · rw [if_neg h2]
        have h3 := h.1 c h0 hc h1
        by_cases h4 : (c - 1) / 2 = p
        · rw [if_pos h4]
          rw [h4] at h3
          exact lead_of ha h3
        · rw [if_neg h4]
          exact h3
  · have h5 : (p - 1) / 2 < p := by omega
    have h7 : at_ (swp xs p j) ((p - 1) / 2) = at_ xs ((p - 1) / 2) := by rw [hs, if_neg (by omega), if_neg (by omega)]
    rw [hs c, h7]
    have h6 := h.1 p hp0 (by omega) (by omega)
    by_cases h1 : c = j
    · rw [if_pos h1]
      exact h6
    · rw [if_neg h1, if_neg (by omega)]
      have h3 := h.1 c h0 hc h1
      rw [hcp] at h3
      exact lead_not h6 h3
theorem up_top {n : Nat} {xs : List Th} (h : Up n 0 xs) : Heap n xs := fun c h0 hc => h.1 c h0 hc (by omega)
theorem up_end {n j : Nat} {xs : List Th} (h : Up n j xs) (ha : lead (at_ xs j) (at_ xs ((j - 1) / 2)) = false) : Heap n xs := fun c h0 hc => by
  by_cases h1 : c = j
  · rw [h1]
    exact ha
  · exact h.1 c h0 hc h1
theorem up_new {n : Nat} {xs : List Th} {x : Th} (h : Heap n xs) (hn : xs.length = n) : Up (n + 1) n (xs ++ [x]) := by
  have hat : ∀ c, c < n → at_ (xs ++ [x]) c = at_ xs c := fun c hc => by
    rw [at_, at_, List.getD_eq_getElem?_getD, List.getD_eq_getElem?_getD, List.getElem?_append_left (by omega)]
  refine ⟨fun c h0 hc hcn => ?_, fun c h0 hc hcn _ => by omega⟩
  rw [hat c (by omega), hat _ (by omega)]
  exact h c h0 (by omega)

theorem down_step {n i j : Nat} {xs : List Th} (h : Down n i xs) (hn : n ≤ xs.length) (hj : j = 2 * i + 1 ∨ j = 2 * i + 2) (hjn : j < n) (ha : lead (at_ xs j) (at_ xs i) = true)
    (hl : ∀ c, c < n → (c = 2 * i + 1 ∨ c = 2 * i + 2) → lead (at_ xs c) (at_ xs j) = false) : Down n j (swp xs i j) := by
  have hs := swp_at (xs := xs) (i := i) (j := j) (by omega) (by omega)
  refine ⟨fun c h0 hc hcj => ?_, fun c h0 hc hcj hj0 => ?_⟩
  · rw [hs c, hs ((c - 1) / 2), if_neg hcj]
    by_cases h1 : c = j
    · subst h1
      rw [if_pos rfl, if_pos (by omega)]
      exact lead_asymm ha
    · rw [if_neg h1]
      by_cases h2 : c = i
      · subst h2
        rw [if_pos rfl, if_neg (by omega)]
        exact h.2 j (by omega) hjn (by omega) h0
      · rw [if_neg h2]
        by_cases h3 : (c - 1) / 2 = i
        · rw [if_pos h3]
          exact hl c hc (by omega)
        · rw [if_neg h3]
          exact h.1 c h0 hc h3
  · rw [hs c, if_neg (by omega), if_neg (by omega), hs ((j - 1) / 2), if_neg (by omega), if_pos (by omega)]
    have h1 := h.1 c h0 hc (by omega)
    rw [hcj] at h1
    exact h1
theorem down_leaf {n i : Nat} {xs : List Th} (h : Down n i xs) (hi : n ≤ 2 * i + 1) : Heap n xs := fun c h0 hc => h.1 c h0 hc (by omega)
theorem down_end {n i j : Nat} {xs : List Th} (h : Down n i xs) (ha : lead (at_ xs j) (at_ xs i) = false) (hl : ∀ c, c < n → (c = 2 * i + 1 ∨ c = 2 * i + 2) → lead (at_ xs c) (at_ xs j) = false) : Heap n xs := fun c h0 hc => by
  by_cases h1 : (c - 1) / 2 = i
  · rw [h1]
    exact lead_not ha (hl c hc (by omega))
  · exact h.1 c h0 hc h1
theorem down_start {n : Nat} {xs : List Th} (h : Heap (n + 1) xs) (hn : xs.length = n + 1) : Down n 0 (swp xs 0 n) := by
  have hs := swp_at (xs := xs) (i := 0) (j := n) (by omega) (by omega)
  refine ⟨fun c h0 hc hcj => ?_, fun c _ _ _ h0 => by omega⟩
  rw [hs c, hs ((c - 1) / 2), if_neg (by omega), if_neg (by omega), if_neg (by omega), if_neg hcj]
  exact h c h0 (by omega)

/-- Nothing is lead of the first one. -/
theorem heap_first {n : Nat} {xs : List Th} (h : Heap n xs) : ∀ c, c < n → lead (at_ xs c) (at_ xs 0) = false := by
  intro c
  induction c using Nat.strongRecOn with
  | _ c ih =>
    intro hc
    by_cases h0 : c = 0
    · subst h0
      exact lead_self _
    · exact lead_not (ih ((c - 1) / 2) (by omega) (by omega)) (h c (by omega) hc)
theorem heap_least {xs : List Th} (h : Heap xs.length xs) {x : Th} (hx : x ∈ xs) : lead x (at_ xs 0) = false := by
  obtain ⟨i, hi, rfl⟩ := List.getElem_of_mem hx
  have := heap_first h i hi
  rwa [at_of (List.getElem?_eq_getElem hi)] at this
theorem heap_take {n : Nat} {xs : List Th} (h : Heap n xs) : Heap n (xs.take n) := fun c h0 hc => by
  have hat : ∀ k, k < n → at_ (xs.take n) k = at_ xs k := fun k hk => by rw [at_, at_, List.getD_eq_getElem?_getD, List.getD_eq_getElem?_getD, List.getElem?_take, if_pos hk]
  rw [hat c hc, hat _ (by omega)]
  exact h c h0 hc
theorem take_last {xs : List Th} {n : Nat} (hn : xs.length = n + 1) : xs = xs.take n ++ [at_ xs n] := by
  have h1 := List.take_append_drop n xs
  have h2 : xs.drop n = [at_ xs n] := by
    rw [List.drop_eq_getElem_cons (by omega), List.drop_eq_nil_of_le (by omega), at_of (List.getElem?_eq_getElem (by omega))]
  rw [h2] at h1
  exact h1.symm
end Go.Proofs.Ytejmmhaglgmgbaa.Hp
