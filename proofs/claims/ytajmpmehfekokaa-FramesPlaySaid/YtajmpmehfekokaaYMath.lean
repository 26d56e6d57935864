/-
  Frames in plain words: a list of them, what each call answers and makes of it; frames as cells.
-/
import Derived.Test.YtajmpmehfekokaaRows
import Derived.Deep.MidRow
import Derived.WalkKit
namespace Go.Proofs.Ytajmpmehfekokaa
open Go.RowKit

/-- A frame: is it taken, and its bytes. -/
structure Fr where
  tk : Bool
  by_ : Nat → UInt8
def noughts : Nat → UInt8 := fun _ => 0
def put8 (f : Nat → UInt8) (i : Nat) (b : UInt8) : Nat → UInt8 := fun k => if k = i then b else f k

/-- Is a frame taken? -/
def tkAt (L : List Fr) (i : Int) : Bool := decide (0 ≤ i) && ((L[i.toNat]?).map Fr.tk).getD false
def frAt (L : List Fr) (i : Int) : Fr := L.getD i.toNat ⟨false, noughts⟩
theorem tkAt_hit {L : List Fr} {i : Int} (h : tkAt L i = true) : 0 ≤ i ∧ i < L.length ∧ L[i.toNat]? = some (frAt L i) ∧ (frAt L i).tk = true := by
  unfold tkAt at h
  simp only [Bool.and_eq_true, decide_eq_true_eq] at h
  obtain ⟨h0, h1⟩ := h
  cases e : L[i.toNat]? with
  | none => simp [e] at h1
  | some x =>
    have hlt := (List.getElem?_eq_some_iff.1 e).1
    have hx : frAt L i = x := by simp [frAt, List.getD_eq_getElem?_getD, e]
    rw [e] at h1
    rw [hx]
    exact ⟨h0, by omega, rfl, by simpa using h1⟩
theorem tkAt_in {L : List Fr} {i : Nat} {x : Fr} (h : L[i]? = some x) : tkAt L (i : Nat) = x.tk := by simp [tkAt, h]
theorem tkAt_out {L : List Fr} {i : Int} (h : i < 0 ∨ (L.length : Int) ≤ i) : tkAt L i = false := by
  rcases h with h | h
  · simp only [tkAt, Bool.and_eq_false_iff, decide_eq_false_iff_not]
    exact Or.inl (by omega)
  · have : L[i.toNat]? = none := List.getElem?_eq_none (by omega)
    simp [tkAt, this]

/-- How many are not taken. -/
def frees : List Fr → Nat
  | [] => 0
  | x :: l => (if x.tk = true then 0 else 1) + frees l
theorem frees_le : ∀ L : List Fr, frees L ≤ L.length
  | [] => Nat.le_refl _
  | x :: l => by
    have := frees_le l
    simp only [frees, List.length_cons]
    split <;> omega
theorem frees_take : ∀ (L : List Fr) (i : Nat) (x : Fr), L[i]? = some x → frees (L.take (i + 1)) = frees (L.take i) + (if x.tk = true then 0 else 1)
  | [], i, x, h => by simp at h
  | y :: l, 0, x, h => by
    simp at h
    subst h
    simp [frees]
  | y :: l, i + 1, x, h => by
    have := frees_take l i x (by simpa using h)
    simp only [List.take_succ_cons, frees]
    rw [this]
    omega

/-- The first one that isn't taken. -/
def fst_ : List Fr → Nat
  | [] => 0
  | x :: l => if x.tk = true then fst_ l + 1 else 0
theorem fst_le : ∀ L : List Fr, fst_ L ≤ L.length
  | [] => Nat.le_refl _
  | x :: l => by
    have := fst_le l
    simp only [fst_, List.length_cons]
    split <;> omega
theorem fst_at : ∀ (L : List Fr), fst_ L < L.length → ∃ x, L[fst_ L]? = some x ∧ x.tk = false
  | [], h => by simp at h
  | x :: l, h => by
    by_cases hx : x.tk = true
    · have e : fst_ (x :: l) = fst_ l + 1 := by simp [fst_, hx]
      rw [e] at h ⊢
      simpa using fst_at l (by simpa using h)
    · have e : fst_ (x :: l) = 0 := by simp [fst_, hx]
      rw [e]
      exact ⟨x, rfl, by simpa using hx⟩
theorem fst_lt : ∀ (L : List Fr) (i : Nat), i < fst_ L → ∃ x, L[i]? = some x ∧ x.tk = true
  | [], i, h => by simp [fst_] at h
  | x :: l, i, h => by
    by_cases hx : x.tk = true
    · have e : fst_ (x :: l) = fst_ l + 1 := by simp [fst_, hx]
      rw [e] at h
      cases i with
      | zero => exact ⟨x, rfl, hx⟩
      | succ i => simpa using fst_lt l i (by omega)
    · have e : fst_ (x :: l) = 0 := by simp [fst_, hx]
      omega

/-! What the calls answer, and make of the list. -/
def giveE (L : List Fr) (i : Int) : Int := if tkAt L i = true then 0 else 6
def giveL (L : List Fr) (i : Int) : List Fr := if tkAt L i = true then L.set i.toNat ⟨false, (frAt L i).by_⟩ else L
def rwE (L : List Fr) (i at_ : Int) : Int := if tkAt L i = true then (if 0 ≤ at_ ∧ at_ < 16 then 0 else 1) else 6
def readV (L : List Fr) (i at_ : Int) : Int := if rwE L i at_ = 0 then (((frAt L i).by_ at_.toNat).toNat : Int) else 0
def writeL (L : List Fr) (i at_ : Int) (b : UInt8) : List Fr := if rwE L i at_ = 0 then L.set i.toNat ⟨(frAt L i).tk, put8 (frAt L i).by_ at_.toNat b⟩ else L
def takeN (L : List Fr) : Int := if fst_ L < L.length then (fst_ L : Int) else 0
def takeE (L : List Fr) : Int := if fst_ L < L.length then 0 else 20
def takeL (L : List Fr) : List Fr := if fst_ L < L.length then L.set (fst_ L) ⟨true, noughts⟩ else L
theorem giveL_len (L : List Fr) (i : Int) : (giveL L i).length = L.length := by unfold giveL; split <;> simp
theorem writeL_len (L : List Fr) (i at_ : Int) (b : UInt8) : (writeL L i at_ b).length = L.length := by unfold writeL; split <;> simp
theorem takeL_len (L : List Fr) : (takeL L).length = L.length := by unfold takeL; split <;> simp

/-! As cells. -/
def bcells (f : Nat → UInt8) : List Value := (List.range 16).map fun j => .int .u8 ((f j).toNat : Int)
def fcells (x : Fr) : List Value := .bool x.tk :: bcells x.by_
def rcells (L : List Fr) : List Value := L.flatMap fcells
theorem bcells_len (f : Nat → UInt8) : (bcells f).length = 16 := by simp [bcells]
theorem fcells_len (x : Fr) : (fcells x).length = 17 := by simp [fcells, bcells_len]
theorem bcells_at (f : Nat → UInt8) {j : Nat} (h : j < 16) : (bcells f)[j]? = some (.int .u8 ((f j).toNat : Int)) := by
  rw [bcells, List.getElem?_map, List.getElem?_range h]
  rfl
theorem fcells_tk (x : Fr) : (fcells x)[0]? = some (.bool x.tk) := rfl
theorem fcells_at (x : Fr) {j : Nat} (h : j < 16) : (fcells x)[j + 1]? = some (.int .u8 ((x.by_ j).toNat : Int)) := by
  show (bcells x.by_)[j]? = _
  exact bcells_at _ h
theorem bcells_one (f : Nat → UInt8) : ∀ u ∈ bcells f, u.oneCell' = true := fun u hu => by
  obtain ⟨j, _, rfl⟩ := List.mem_map.1 hu
  rfl
theorem fcells_one (x : Fr) : ∀ u ∈ fcells x, u.oneCell' = true := fun u hu => by
  rcases List.mem_cons.1 hu with rfl | hu
  · rfl
  · exact bcells_one _ u hu
theorem rcells_one (L : List Fr) : ∀ u ∈ rcells L, u.oneCell' = true := fun u hu => by
  obtain ⟨x, _, hx⟩ := List.mem_flatMap.1 hu
  exact fcells_one x u hx
theorem rcells_len : ∀ L : List Fr, (rcells L).length = L.length * 17
  | [] => rfl
  | x :: l => by
    have := rcells_len l
    simp only [rcells, List.flatMap_cons, List.length_append, List.length_cons, fcells_len] at *
    omega
theorem rcells_at : ∀ (L : List Fr) (i j : Nat) (x : Fr), L[i]? = some x → j < 17 → (rcells L)[i * 17 + j]? = (fcells x)[j]?
  | [], i, j, x, h, _ => by simp at h
  | y :: l, 0, j, x, h, hj => by
    simp at h
    subst h
    rw [rcells, List.flatMap_cons, Nat.zero_mul, Nat.zero_add, List.getElem?_append_left (by rw [fcells_len]; exact hj)]
  | y :: l, i + 1, j, x, h, hj => by
    have := rcells_at l i j x (by simpa using h) hj
    rw [rcells, List.flatMap_cons, List.getElem?_append_right (by rw [fcells_len]; omega), fcells_len]
    have e : (i + 1) * 17 + j - 17 = i * 17 + j := by omega
    rw [e]
    exact this
theorem put8_cells (f : Nat → UInt8) (i : Nat) (b : UInt8) {j : Nat} : (.int .u8 ((put8 f i b j).toNat : Int) : Value) = if j = i then .int .u8 (b.toNat : Int) else .int .u8 ((f j).toNat : Int) := by
  unfold put8
  split <;> rfl
end Go.Proofs.Ytajmpmehfekokaa
