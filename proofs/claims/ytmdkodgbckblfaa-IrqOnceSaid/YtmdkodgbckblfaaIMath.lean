/-
  Lines in plain words: a list of them, what each call answers and makes of it; lines as cells.
-/
import Derived.Test.YtmdkodgbckblfaaRows
import Derived.Deep.MidRow
import Derived.WalkKit
namespace Go.Proofs.Ytmdkodgbckblfaa
open Go.RowKit

/-- A line: is it raised, held back, served; how often it was raised for nothing. -/
structure Ln where
  ra : Bool
  ma : Bool
  se : Bool
  dr : Int
def dark : Ln := ⟨false, true, false, 0⟩
def bare : Ln := ⟨false, false, false, 0⟩
def Ln.rdy (x : Ln) : Bool := x.ra && !x.ma && !x.se
def hasL (L : List Ln) (i : Int) : Bool := decide (0 ≤ i) && decide (i < (L.length : Int))
def lnAt (L : List Ln) (i : Int) : Ln := if 0 ≤ i then L.getD i.toNat bare else bare
theorem hasL_hit {L : List Ln} {i : Int} (h : hasL L i = true) : ∃ k : Nat, i = k ∧ k < L.length ∧ L[k]? = some (lnAt L i) := by
  unfold hasL at h
  simp only [Bool.and_eq_true, decide_eq_true_eq] at h
  obtain ⟨h0, h1⟩ := h
  refine ⟨i.toNat, by omega, by omega, ?_⟩
  rw [lnAt, if_pos h0, List.getD_eq_getElem?_getD, List.getElem?_eq_getElem (by omega)]
  rfl
theorem hasL_in {L : List Ln} {i : Nat} (h : i < L.length) : hasL L (i : Nat) = true := by
  simp only [hasL, Bool.and_eq_true, decide_eq_true_eq]
  omega
theorem hasL_out {L : List Ln} {i : Int} (h : i < 0 ∨ (L.length : Int) ≤ i) : hasL L i = false := by
  simp only [hasL, Bool.and_eq_false_iff, decide_eq_false_iff_not]
  omega
theorem hasL_miss {L : List Ln} {i : Int} (h : hasL L i = false) : i < 0 ∨ (L.length : Int) ≤ i := by
  simp only [hasL, Bool.and_eq_false_iff, decide_eq_false_iff_not] at h
  omega
theorem lnAt_miss {L : List Ln} {i : Int} (h : hasL L i = false) : lnAt L i = bare := by
  have := hasL_miss h
  unfold lnAt
  split
  · rw [List.getD_eq_getElem?_getD, List.getElem?_eq_none (by omega)]
    rfl
  · rfl
theorem lnAt_in {L : List Ln} {i : Nat} {x : Ln} (h : L[i]? = some x) : lnAt L (i : Nat) = x := by
  rw [lnAt, if_pos (by omega), List.getD_eq_getElem?_getD, Int.toNat_natCast, h]
  rfl

/-- The first one that can be told. -/
def nx : List Ln → Nat
  | [] => 0
  | x :: l => if x.rdy = true then 0 else nx l + 1
theorem nx_le : ∀ L : List Ln, nx L ≤ L.length
  | [] => Nat.le_refl _
  | x :: l => by
    have := nx_le l
    simp only [nx, List.length_cons]
    split <;> omega
theorem nx_at : ∀ (L : List Ln), nx L < L.length → ∃ x, L[nx L]? = some x ∧ x.rdy = true
  | [], h => by simp at h
  | x :: l, h => by
    by_cases hx : x.rdy = true
    · have e : nx (x :: l) = 0 := by simp [nx, hx]
      rw [e]
      exact ⟨x, rfl, hx⟩
    · have e : nx (x :: l) = nx l + 1 := by simp [nx, hx]
      rw [e] at h ⊢
      simpa using nx_at l (by simpa using h)
theorem nx_lt : ∀ (L : List Ln) (i : Nat), i < nx L → ∃ x, L[i]? = some x ∧ x.rdy = false
  | [], i, h => by simp [nx] at h
  | x :: l, i, h => by
    by_cases hx : x.rdy = true
    · have e : nx (x :: l) = 0 := by simp [nx, hx]
      omega
    · have e : nx (x :: l) = nx l + 1 := by simp [nx, hx]
      rw [e] at h
      cases i with
      | zero => exact ⟨x, rfl, by simpa using hx⟩
      | succ i => simpa using nx_lt l i (by omega)

/-! What the calls answer, and make of the list. -/
def Ln.more (x : Ln) : Ln := ⟨x.ra, x.ma, x.se, IntKind.i64.wrap (x.dr + 1)⟩
def raiseE (L : List Ln) (i : Int) : Int := if hasL L i = true then (if (lnAt L i).ra = true then 7 else 0) else 1
def raiseL (L : List Ln) (i : Int) : List Ln := if hasL L i = true then L.set i.toNat (if (lnAt L i).ra = true then (lnAt L i).more else ⟨true, (lnAt L i).ma, (lnAt L i).se, (lnAt L i).dr⟩) else L
def maskE (L : List Ln) (i : Int) : Int := if hasL L i = true then 0 else 1
def maskL (L : List Ln) (i : Int) (b : Bool) : List Ln := if hasL L i = true then L.set i.toNat ⟨(lnAt L i).ra, b, (lnAt L i).se, (lnAt L i).dr⟩ else L
def ackE (L : List Ln) (i : Int) : Int := if hasL L i = true then (if (lnAt L i).se = true then 0 else 25) else 1
def ackL (L : List Ln) (i : Int) : List Ln := if hasL L i = true then (if (lnAt L i).se = true then L.set i.toNat ⟨(lnAt L i).ra, (lnAt L i).ma, false, (lnAt L i).dr⟩ else L) else L
def nextB (L : List Ln) : Bool := decide (nx L < L.length)
def nextN (L : List Ln) : Int := if nx L < L.length then (nx L : Int) else 0
def nextR (L : List Ln) : Int := if nx L < L.length then (nx L : Int) else -1
def told (x : Ln) : Ln := ⟨false, x.ma, true, x.dr⟩
def nextL (L : List Ln) : List Ln := if nx L < L.length then L.set (nx L) (told (lnAt L (nx L : Nat))) else L
theorem raiseL_len (L : List Ln) (i : Int) : (raiseL L i).length = L.length := by unfold raiseL; split <;> simp
theorem maskL_len (L : List Ln) (i : Int) (b : Bool) : (maskL L i b).length = L.length := by unfold maskL; split <;> simp
theorem ackL_len (L : List Ln) (i : Int) : (ackL L i).length = L.length := by
  unfold ackL
  split
  · split <;> simp
  · rfl
theorem nextL_len (L : List Ln) : (nextL L).length = L.length := by unfold nextL; split <;> simp

/-! As cells. -/
def lcells (x : Ln) : List Value := [.bool x.ra, .bool x.ma, .bool x.se, .int .i64 x.dr]
def rcells (L : List Ln) : List Value := L.flatMap lcells
theorem lcells_one (x : Ln) : ∀ u ∈ lcells x, u.oneCell' = true := fun u hu => by
  simp only [lcells, List.mem_cons, List.not_mem_nil, or_false] at hu
  rcases hu with rfl | rfl | rfl | rfl <;> rfl
theorem rcells_one (L : List Ln) : ∀ u ∈ rcells L, u.oneCell' = true := fun u hu => by
  obtain ⟨x, _, hx⟩ := List.mem_flatMap.1 hu
  exact lcells_one x u hx
theorem rcells_len : ∀ L : List Ln, (rcells L).length = L.length * 4
  | [] => rfl
  | x :: l => by
    have := rcells_len l
    simp only [rcells, List.flatMap_cons, List.length_append, List.length_cons, lcells, List.length_nil] at *
    omega
theorem rcells_two (L M : List Ln) : rcells (L ++ M) = rcells L ++ rcells M := by simp [rcells]
theorem rcells_cons (x : Ln) (l : List Ln) : rcells (x :: l) = lcells x ++ rcells l := by simp [rcells]
theorem rcells_at : ∀ (L : List Ln) (i j : Nat) (x : Ln), L[i]? = some x → j < 4 → (rcells L)[i * 4 + j]? = (lcells x)[j]?
  | [], i, j, x, h, _ => by simp at h
  | y :: l, 0, j, x, h, hj => by
    simp at h
    subst h
    rw [rcells_cons, Nat.zero_mul, Nat.zero_add, List.getElem?_append_left (by simpa [lcells] using hj)]
  | y :: l, i + 1, j, x, h, hj => by
    have := rcells_at l i j x (by simpa using h) hj
    rw [rcells_cons, List.getElem?_append_right (by simp [lcells]; omega), ← this]
    congr 1
    simp [lcells]
    omega
theorem rcells_set : ∀ (L : List Ln) (i j : Nat) (x y : Ln) (v : Value), L[i]? = some x → j < 4 → (lcells x).set j v = lcells y → (rcells L).set (i * 4 + j) v = rcells (L.set i y)
  | [], i, j, x, y, v, h, _, _ => by simp at h
  | z :: l, 0, j, x, y, v, h, hj, hs => by
    simp at h
    subst h
    rw [rcells_cons, Nat.zero_mul, Nat.zero_add, List.set_append_left _ _ (by simpa [lcells] using hj), hs, List.set_cons_zero, rcells_cons]
  | z :: l, i + 1, j, x, y, v, h, hj, hs => by
    have := rcells_set l i j x y v (by simpa using h) hj hs
    rw [rcells_cons, List.set_append_right _ _ (by simp [lcells]; omega), List.set_cons_succ, rcells_cons, ← this]
    congr 2
    simp [lcells]
    omega
end Go.Proofs.Ytmdkodgbckblfaa
