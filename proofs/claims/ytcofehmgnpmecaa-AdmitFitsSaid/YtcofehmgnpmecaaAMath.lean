/-
  What was given back, as a heap: who is lead of whom, an exchange of two, the ways up and down (after heap's HMath); the reservations that count, as a list: what each call answers and makes. No world, no program.
-/
import Derived.Lib.Hide
namespace Go.Proofs.Ytcofehmgnpmecaa.Ap

/-- What was given back: until when it counts, its share. -/
structure Gv where
  till : Int
  sh : Int
instance : Inhabited Gv := ⟨⟨0, 0⟩⟩

def lead (x y : Gv) : Bool := decide (x.till < y.till)
theorem lead_asymm {x y : Gv} (h : lead x y = true) : lead y x = false := by
  simp only [lead, decide_eq_true_eq, decide_eq_false_iff_not] at *
  omega
theorem lead_not {x y z : Gv} (h1 : lead y x = false) (h2 : lead z y = false) : lead z x = false := by
  simp only [lead, decide_eq_false_iff_not] at *
  omega
theorem lead_of {x y z : Gv} (h1 : lead x y = true) (h2 : lead z y = false) : lead z x = false := lead_not (lead_asymm h1) h2
theorem lead_self (x : Gv) : lead x x = false := by
  simp only [lead, decide_eq_false_iff_not]
  omega

def at_ (xs : List Gv) (i : Nat) : Gv := xs.getD i default
theorem at_some {xs : List Gv} {i : Nat} (h : i < xs.length) : xs[i]? = some (at_ xs i) := by
  rw [at_, List.getD_eq_getElem?_getD, List.getElem?_eq_getElem h]
  rfl
theorem at_of {xs : List Gv} {i : Nat} {x : Gv} (h : xs[i]? = some x) : at_ xs i = x := by
  rw [at_, List.getD_eq_getElem?_getD, h]
  rfl
theorem at_mem {xs : List Gv} {i : Nat} (h : i < xs.length) : at_ xs i ∈ xs := List.mem_of_getElem? (at_some h)

/-- Two of them exchanged. -/
def swp (xs : List Gv) (i j : Nat) : List Gv := (xs.set i (at_ xs j)).set j (at_ xs i)
theorem swp_len (xs : List Gv) (i j : Nat) : (swp xs i j).length = xs.length := by simp [swp]
theorem swp_at {xs : List Gv} {i j : Nat} (hi : i < xs.length) (hj : j < xs.length) (k : Nat) : at_ (swp xs i j) k = if k = j then at_ xs i else if k = i then at_ xs j else at_ xs k := by
  rw [at_, swp, List.getD_eq_getElem?_getD, List.getElem?_set, List.getElem?_set]
  by_cases h1 : j = k
  · subst h1
    simp [hj]
  · rw [if_neg h1, if_neg (Ne.symm h1)]
    by_cases h2 : i = k
    · subst h2
      simp [hi]
    · rw [if_neg h2, if_neg (Ne.symm h2), at_, List.getD_eq_getElem?_getD]
theorem perm_set {α : Type} : ∀ (l : List α) (i : Nat) (x y : α), l[i]? = some x → (y :: l).Perm (x :: l.set i y)
  | [], _, _, _, h => by simp at h
  | a :: r, 0, x, y, h => by
    simp at h
    subst h
    exact List.Perm.swap _ _ _
  | a :: r, i + 1, x, y, h => by
    simp at h
    have := perm_set r i x y h
    exact (List.Perm.swap _ _ _).trans ((this.cons a).trans (List.Perm.swap _ _ _))
theorem swp_perm {xs : List Gv} {i j : Nat} (hi : i < xs.length) (hj : j < xs.length) : (swp xs i j).Perm xs := by
  have h1 := perm_set xs i (at_ xs i) (at_ xs j) (at_some hi)
  by_cases hij : i = j
  · subst hij
    rw [swp, List.set_set]
    exact List.Perm.cons_inv (h1.symm)
  · have h2 : (xs.set i (at_ xs j))[j]? = some (at_ xs j) := by rw [List.getElem?_set_ne hij, at_some hj]
    have h3 := perm_set (xs.set i (at_ xs j)) j (at_ xs j) (at_ xs i) h2
    exact List.Perm.cons_inv (h3.symm.trans h1.symm)

/-- No thing is lead of the one above it, of those below n. -/
def Heap (n : Nat) (xs : List Gv) : Prop := ∀ c, 0 < c → c < n → lead (at_ xs c) (at_ xs ((c - 1) / 2)) = false
/-- .. but the one at j, on its way up. -/
def Up (n j : Nat) (xs : List Gv) : Prop :=
  (∀ c, 0 < c → c < n → c ≠ j → lead (at_ xs c) (at_ xs ((c - 1) / 2)) = false) ∧ ∀ c, 0 < c → c < n → (c - 1) / 2 = j → 0 < j → lead (at_ xs c) (at_ xs ((j - 1) / 2)) = false
/-- .. but those below i, on its way down. -/
def Down (n i : Nat) (xs : List Gv) : Prop :=
  (∀ c, 0 < c → c < n → (c - 1) / 2 ≠ i → lead (at_ xs c) (at_ xs ((c - 1) / 2)) = false) ∧ ∀ c, 0 < c → c < n → (c - 1) / 2 = i → 0 < i → lead (at_ xs c) (at_ xs ((i - 1) / 2)) = false

theorem up_step {n j : Nat} {xs : List Gv} (h : Up n j xs) (hn : n ≤ xs.length) (hj : 0 < j) (hjn : j < n) (ha : lead (at_ xs j) (at_ xs ((j - 1) / 2)) = true) : Up n ((j - 1) / 2) (swp xs ((j - 1) / 2) j) := by
  have hp : (j - 1) / 2 < j := by omega
  obtain ⟨p, hpe⟩ : ∃ p, (j - 1) / 2 = p := ⟨_, rfl⟩
  rw [hpe] at ha hp
  rw [hpe]
  have hs := swp_at (xs := xs) (i := p) (j := j) (by omega) (by omega)
  refine ⟨fun c h0 hc hcp => ?_, fun c h0 hc hcp hp0 => ?_⟩
  · rw [hs c, hs ((c - 1) / 2)]
    by_cases h1 : c = j
    · subst h1
      rw [if_pos rfl, hpe, if_neg (by omega), if_pos rfl]
      exact lead_asymm ha
    · rw [if_neg h1, if_neg hcp]
      by_cases h2 : (c - 1) / 2 = j
      · rw [if_pos h2]
        have h3 := h.2 c h0 hc h2 hj
        rwa [hpe] at h3
      · rw [if_neg h2]
        have h3 := h.1 c h0 hc h1
        by_cases h4 : (c - 1) / 2 = p
        · rw [if_pos h4]
          rw [h4] at h3
          exact lead_of ha h3
        · rw [if_neg h4]
          exact h3
  · have h5 : (p - 1) / 2 < p := by omega
    have h7 : at_ (swp xs p j) ((p - 1) / 2) = at_ xs ((p - 1) / 2) := by rw [hs, if_neg (by omega), if_neg (by omega)]
    rw [hs c, h7]
    have h6 := h.1 p hp0 (by omega) (by omega)
    by_cases h1 : c = j
    · rw [if_pos h1]
      exact h6
    · rw [if_neg h1, if_neg (by omega)]
      have h3 := h.1 c h0 hc h1
      rw [hcp] at h3
      exact lead_not h6 h3
theorem up_top {n : Nat} {xs : List Gv} (h : Up n 0 xs) : Heap n xs := fun c h0 hc => h.1 c h0 hc (by omega)
theorem up_end {n j : Nat} {xs : List Gv} (h : Up n j xs) (ha : lead (at_ xs j) (at_ xs ((j - 1) / 2)) = false) : Heap n xs := fun c h0 hc => by
  by_cases h1 : c = j
  · rw [h1]
    exact ha
  · exact h.1 c h0 hc h1
theorem up_new {n : Nat} {xs : List Gv} {x : Gv} (h : Heap n xs) (hn : xs.length = n) : Up (n + 1) n (xs ++ [x]) := by
  have hat : ∀ c, c < n → at_ (xs ++ [x]) c = at_ xs c := fun c hc => by
    rw [at_, at_, List.getD_eq_getElem?_getD, List.getD_eq_getElem?_getD, List.getElem?_append_left (by omega)]
  refine ⟨fun c h0 hc hcn => ?_, fun c h0 hc hcn _ => by omega⟩
  rw [hat c (by omega), hat _ (by omega)]
  exact h c h0 (by omega)

theorem down_step {n i j : Nat} {xs : List Gv} (h : Down n i xs) (hn : n ≤ xs.length) (hj : j = 2 * i + 1 ∨ j = 2 * i + 2) (hjn : j < n) (ha : lead (at_ xs j) (at_ xs i) = true)
    (hl : ∀ c, c < n → (c = 2 * i + 1 ∨ c = 2 * i + 2) → lead (at_ xs c) (at_ xs j) = false) : Down n j (swp xs i j) := by
  have hs := swp_at (xs := xs) (i := i) (j := j) (by omega) (by omega)
  refine ⟨fun c h0 hc hcj => ?_, fun c h0 hc hcj hj0 => ?_⟩
  · rw [hs c, hs ((c - 1) / 2), if_neg hcj]
    by_cases h1 : c = j
    · subst h1
      rw [if_pos rfl, if_pos (by omega)]
      exact lead_asymm ha
    · rw [if_neg h1]
      by_cases h2 : c = i
      · subst h2
        rw [if_pos rfl, if_neg (by omega)]
        exact h.2 j (by omega) hjn (by omega) h0
      · rw [if_neg h2]
        by_cases h3 : (c - 1) / 2 = i
        · rw [if_pos h3]
          exact hl c hc (by omega)
        · rw [if_neg h3]
          exact h.1 c h0 hc h3
  · rw [hs c, if_neg (by omega), if_neg (by omega), hs ((j - 1) / 2), if_neg (by omega), if_pos (by omega)]
    have h1 := h.1 c h0 hc (by omega)
    rw [hcj] at h1
    exact h1
theorem down_leaf {n i : Nat} {xs : List Gv} (h : Down n i xs) (hi : n ≤ 2 * i + 1) : Heap n xs := fun c h0 hc => h.1 c h0 hc (by omega)
theorem down_end {n i j : Nat} {xs : List Gv} (h : Down n i xs) (ha : lead (at_ xs j) (at_ xs i) = false) (hl : ∀ c, c < n → (c = 2 * i + 1 ∨ c = 2 * i + 2) → lead (at_ xs c) (at_ xs j) = false) : Heap n xs := fun c h0 hc => by
  by_cases h1 : (c - 1) / 2 = i
  · rw [h1]
    exact lead_not ha (hl c hc (by omega))
  · exact h.1 c h0 hc h1
theorem down_start {n : Nat} {xs : List Gv} (h : Heap (n + 1) xs) (hn : xs.length = n + 1) : Down n 0 (swp xs 0 n) := by
  have hs := swp_at (xs := xs) (i := 0) (j := n) (by omega) (by omega)
  refine ⟨fun c h0 hc hcj => ?_, fun c _ _ _ h0 => by omega⟩
  rw [hs c, hs ((c - 1) / 2), if_neg (by omega), if_neg (by omega), if_neg (by omega), if_neg hcj]
  exact h c h0 (by omega)

/-- Nothing is lead of the first one. -/
theorem heap_first {n : Nat} {xs : List Gv} (h : Heap n xs) : ∀ c, c < n → lead (at_ xs c) (at_ xs 0) = false := by
  intro c
  induction c using Nat.strongRecOn with
  | _ c ih =>
    intro hc
    by_cases h0 : c = 0
    · subst h0
      exact lead_self _
    · exact lead_not (ih ((c - 1) / 2) (by omega) (by omega)) (h c (by omega) hc)
theorem heap_least {xs : List Gv} (h : Heap xs.length xs) {x : Gv} (hx : x ∈ xs) : lead x (at_ xs 0) = false := by
  obtain ⟨i, hi, rfl⟩ := List.getElem_of_mem hx
  have := heap_first h i hi
  rwa [at_of (List.getElem?_eq_getElem hi)] at this
theorem heap_take {n : Nat} {xs : List Gv} (h : Heap n xs) : Heap n (xs.take n) := fun c h0 hc => by
  have hat : ∀ k, k < n → at_ (xs.take n) k = at_ xs k := fun k hk => by rw [at_, at_, List.getD_eq_getElem?_getD, List.getD_eq_getElem?_getD, List.getElem?_take, if_pos hk]
  rw [hat c hc, hat _ (by omega)]
  exact h c h0 hc
theorem take_last {xs : List Gv} {n : Nat} (hn : xs.length = n + 1) : xs = xs.take n ++ [at_ xs n] := by
  have h1 := List.take_append_drop n xs
  have h2 : xs.drop n = [at_ xs n] := by
    rw [List.drop_eq_getElem_cons (by omega), List.drop_eq_nil_of_le (by omega), at_of (List.getElem?_eq_getElem (by omega))]
  rw [h2] at h1
  exact h1.symm
/-- An exchange of one with itself. -/
theorem swp_self {xs : List Gv} {i : Nat} (h : i < xs.length) : swp xs i i = xs := by
  have h1 : (xs.set i (at_ xs i)) = xs := by
    refine List.ext_getElem? fun k => ?_
    rw [List.getElem?_set]
    by_cases hk : i = k
    · subst hk
      rw [if_pos rfl, if_pos h, at_some h]
    · rw [if_neg hk]
  rw [swp, h1, h1]

/-! Reservations that count. -/
/-- A reservation: whose, its share, was it given back, until when it counts. -/
structure En where
  who : Int
  sh : Int
  gone : Bool
  till : Int
instance : Inhabited En := ⟨⟨0, 0, false, 0⟩⟩
def En.is (q : Int) (e : En) : Bool := decide (e.who = q) && !e.gone
def En.gv (e : En) : Gv := ⟨e.till, e.sh⟩
def eat (L : List En) (i : Nat) : En := L.getD i default
theorem eat_some {L : List En} {i : Nat} (h : i < L.length) : L[i]? = some (eat L i) := by
  rw [eat, List.getD_eq_getElem?_getD, List.getElem?_eq_getElem h]
  rfl
theorem eat_of {L : List En} {i : Nat} {x : En} (h : L[i]? = some x) : eat L i = x := by
  rw [eat, List.getD_eq_getElem?_getD, h]
  rfl
theorem take_step {L : List En} {k : Nat} (h : k < L.length) : L.take (k + 1) = L.take k ++ [eat L k] := by
  rw [List.take_succ_eq_append_getElem h, eat_of (List.getElem?_eq_getElem h)]

/-- Who has one: where it stands. -/
def findO (L : List En) (q : Int) : Option Nat := L.findIdx? (En.is q)
def findV (L : List En) (q : Int) : Int := match findO L q with
  | none => -1
  | some i => (i : Nat)
theorem findO_hit {L : List En} {q : Int} {k : Nat} (hk : k < L.length) (h0 : ∀ j, j < k → (eat L j).is q = false) (h1 : (eat L k).is q = true) : findO L q = some k := by
  rw [findO, List.findIdx?_eq_some_iff_getElem]
  refine ⟨hk, ?_, fun j hj => ?_⟩
  · rwa [eat_of (List.getElem?_eq_getElem hk)] at h1
  · have := h0 j hj
    rw [eat_of (List.getElem?_eq_getElem (by omega))] at this
    simp [this]
theorem findO_miss {L : List En} {q : Int} (h : ∀ j, j < L.length → (eat L j).is q = false) : findO L q = none := by
  rw [findO, List.findIdx?_eq_none_iff]
  intro x hx
  obtain ⟨i, hi, rfl⟩ := List.getElem_of_mem hx
  have := h i hi
  rwa [eat_of (List.getElem?_eq_getElem hi)] at this
theorem findO_at {L : List En} {q : Int} {k : Nat} (h : findO L q = some k) : k < L.length ∧ (eat L k).is q = true := by
  rw [findO, List.findIdx?_eq_some_iff_getElem] at h
  obtain ⟨hk, h1, -⟩ := h
  exact ⟨hk, by rw [eat_of (List.getElem?_eq_getElem hk)]; exact h1⟩
theorem findO_not {L : List En} {q : Int} (h : findO L q = none) : ∀ e, e ∈ L → e.is q = false := by
  rw [findO, List.findIdx?_eq_none_iff] at h
  exact h
theorem findV_some {L : List En} {q : Int} {k : Nat} (h : findO L q = some k) : findV L q = (k : Nat) := by rw [findV, h]
theorem findV_none {L : List En} {q : Int} (h : findO L q = none) : findV L q = -1 := by rw [findV, h]
theorem findV_ge (L : List En) (q : Int) : decide (0 ≤ findV L q) = (findO L q).isSome := by
  unfold findV
  cases findO L q <;> simp

/-- All shares that count, together. -/
def used (L : List En) : Int := (L.map En.sh).sum
def Low (L : List En) : Prop := ∀ e, e ∈ L → 0 ≤ e.sh
theorem used_app (L M : List En) : used (L ++ M) = used L + used M := by simp [used]
theorem used_one (e : En) : used [e] = e.sh := by simp [used]
theorem used_low {L : List En} (h : Low L) : 0 ≤ used L := by
  induction L with
  | nil => simp [used]
  | cons a l ih =>
    have h1 := ih (fun e he => h e (List.mem_cons_of_mem _ he))
    have h2 := h a (List.mem_cons_self ..)
    simp only [used, List.map_cons, List.sum_cons] at *
    omega
theorem used_take {L : List En} (h : Low L) (k : Nat) : 0 ≤ used (L.take k) ∧ used (L.take k) ≤ used L := by
  have h1 : used L = used (L.take k) + used (L.drop k) := by rw [← used_app, List.take_append_drop]
  have h2 := used_low (L := L.take k) (fun e he => h e (List.mem_of_mem_take he))
  have h3 := used_low (L := L.drop k) (fun e he => h e (List.mem_of_mem_drop he))
  omega
theorem used_step {L : List En} {k : Nat} (h : k < L.length) : used (L.take (k + 1)) = used (L.take k) + (eat L k).sh := by rw [take_step h, used_app, used_one]

/-- How many were given back. -/
def pend (L : List En) : Nat := L.countP En.gone
theorem pend_step {L : List En} {k : Nat} (h : k < L.length) : pend (L.take (k + 1)) = pend (L.take k) + (if (eat L k).gone = true then 1 else 0) := by
  rw [pend, take_step h, List.countP_append, pend, List.countP_singleton]
theorem pend_le (L : List En) : pend L ≤ L.length := List.countP_le_length

/-- Without those that count no more. -/
def stays (now : Int) (e : En) : Bool := !e.gone || decide (now < e.till)
def over (L : List En) (now : Int) : List En := L.filter (stays now)
theorem over_step {L : List En} {k : Nat} (now : Int) (h : k < L.length) : over (L.take (k + 1)) now = over (L.take k) now ++ (if stays now (eat L k) = true then [eat L k] else []) := by
  rw [over, take_step h, List.filter_append, over]
  cases hs : stays now (eat L k) <;> simp [hs]
theorem over_len (L : List En) (now : Int) : (over L now).length ≤ L.length := List.length_filter_le ..

/-- A share: 2^32 times Budget by Period, up. -/
def shr (b p : Int) : Int := (4294967296 * b + p - 1) / p
def rightB (b p : Int) : Bool := decide (1 ≤ b) && decide (b ≤ p) && decide (p ≤ 1048576)
theorem rightB_iff {b p : Int} : rightB b p = true ↔ 1 ≤ b ∧ b ≤ p ∧ p ≤ 1048576 := by simp [rightB, and_assoc]
theorem shr_bd {b p : Int} (h : rightB b p = true) : 1 ≤ shr b p ∧ shr b p ≤ 4294967296 := by
  obtain ⟨h1, h2, h3⟩ := rightB_iff.1 h
  unfold shr
  have hp : 0 < p := by omega
  constructor
  · rw [Int.le_ediv_iff_mul_le hp]
    omega
  · have : (4294967296 * b + p - 1) / p < 4294967296 + 1 := by
      rw [Int.ediv_lt_iff_lt_mul hp]
      rw [Int.add_mul, Int.one_mul]
      have : 4294967296 * b ≤ 4294967296 * p := Int.mul_le_mul_of_nonneg_left h2 (by omega)
      omega
    omega
def shr0 (b p : Int) : Int := if rightB b p = true then shr b p else 0

/-! What each call answers and makes of the list. -/
def admE (L : List En) (q b p : Int) : Int := if rightB b p = false then 1 else if (findO L q).isSome = true then 7 else if 4294967296 < used L + shr b p then 24 else 0
def admL (L : List En) (q b p : Int) : List En := if admE L q b p = 0 then L ++ [⟨q, shr b p, false, 0⟩] else L
def relE (L : List En) (q : Int) : Int := if (findO L q).isSome = true then 0 else 6
def mark (L : List En) (i : Nat) (t : Int) : List En := L.set i ⟨(eat L i).who, (eat L i).sh, true, t⟩
def relL (L : List En) (q t now : Int) : List En := match findO L q with
  | none => L
  | some i => over (mark L i t) now
def advL (L : List En) (now t : Int) : List En := if t < now then L else over L t
def advT (now t : Int) : Int := if t < now then now else t
def advN (L : List En) (now t : Int) : Int := if t < now then 0 else (L.length : Int) - (over L t).length
end Go.Proofs.Ytcofehmgnpmecaa.Ap
