/-
  Translations in plain words: a list of them in the order of their last use, what each call answers and makes of it; translations as cells.
-/
import Derived.Test.YtbidioonojnagaaRows
import Derived.Deep.MidRow
import Derived.WalkKit
namespace Go.Proofs.Ytbidioonojnagaa
open Go.RowKit

/-- A translation: whose, which page, which frame, may it be written. -/
structure En where
  en : Int
  pg : Int
  fr : Int
  wr : Bool
def noEn : En := ⟨0, 0, 0, false⟩
def En.of_ (x : En) (e p : Int) : Bool := decide (x.en = e) && decide (x.pg = p)
def En.right (x : En) : Bool := decide (0 ≤ x.en) && decide (x.en ≤ 7) && decide (0 ≤ x.pg) && decide (x.pg ≤ 65535) && decide (0 ≤ x.fr) && decide (x.fr ≤ 31)

/-- The first one of an environment's page. -/
def fs : List En → Int → Int → Nat
  | [], _, _ => 0
  | x :: l, e, p => if x.of_ e p = true then 0 else fs l e p + 1
theorem fs_le : ∀ (L : List En) (e p : Int), fs L e p ≤ L.length
  | [], _, _ => Nat.le_refl _
  | x :: l, e, p => by
    have := fs_le l e p
    simp only [fs, List.length_cons]
    split <;> omega
theorem fs_at : ∀ (L : List En) (e p : Int), fs L e p < L.length → ∃ x, L[fs L e p]? = some x ∧ x.of_ e p = true
  | [], _, _, h => by simp at h
  | x :: l, e, p, h => by
    by_cases hx : x.of_ e p = true
    · have e1 : fs (x :: l) e p = 0 := by simp [fs, hx]
      rw [e1]
      exact ⟨x, rfl, hx⟩
    · have e1 : fs (x :: l) e p = fs l e p + 1 := by simp [fs, hx]
      rw [e1] at h ⊢
      simpa using fs_at l e p (by simpa using h)
theorem fs_lt : ∀ (L : List En) (e p : Int) (i : Nat), i < fs L e p → ∃ x, L[i]? = some x ∧ x.of_ e p = false
  | [], _, _, i, h => by simp [fs] at h
  | x :: l, e, p, i, h => by
    by_cases hx : x.of_ e p = true
    · have e1 : fs (x :: l) e p = 0 := by simp [fs, hx]
      omega
    · have e1 : fs (x :: l) e p = fs l e p + 1 := by simp [fs, hx]
      rw [e1] at h
      cases i with
      | zero => exact ⟨x, rfl, by simpa using hx⟩
      | succ i => simpa using fs_lt l e p i (by omega)
theorem fs_none : ∀ (L : List En) (e p : Int), (∀ x ∈ L, x.of_ e p = false) → fs L e p = L.length
  | [], _, _, _ => rfl
  | x :: l, e, p, h => by
    have h1 : x.of_ e p = false := h x (List.mem_cons_self)
    have := fs_none l e p fun y hy => h y (List.mem_cons_of_mem _ hy)
    simp [fs, h1, this]
theorem fs_app : ∀ (A B : List En) (e p : Int), (∀ x ∈ A, x.of_ e p = false) → fs (A ++ B) e p = A.length + fs B e p
  | [], B, e, p, _ => by simp
  | x :: l, B, e, p, h => by
    have h1 : x.of_ e p = false := h x (List.mem_cons_self)
    have := fs_app l B e p fun y hy => h y (List.mem_cons_of_mem _ hy)
    simp only [List.cons_append, fs, h1, this, List.length_cons]
    simp
    omega
theorem fs_left : ∀ (A B : List En) (e p : Int), fs A e p < A.length → fs (A ++ B) e p = fs A e p
  | [], B, e, p, h => by simp at h
  | x :: l, B, e, p, h => by
    by_cases hx : x.of_ e p = true
    · simp [fs, hx]
    · have e1 : fs (x :: l) e p = fs l e p + 1 := by simp [fs, hx]
      rw [e1] at h
      have := fs_left l B e p (by simpa using h)
      simp [fs, hx, this]
def enAt (L : List En) (k : Nat) : En := L.getD k noEn
theorem enAt_in {L : List En} {k : Nat} {x : En} (h : L[k]? = some x) : enAt L k = x := by
  rw [enAt, List.getD_eq_getElem?_getD, h]
  rfl

/-! What the calls answer, and make of the list. -/
def findN (L : List En) (e p : Int) : Int := if fs L e p < L.length then (fs L e p : Nat) else -1
def loadE (x : En) : Int := if x.right = true then 0 else 1
/-- The place that goes: that of the page, else, if it is full, the first. -/
def goes (L : List En) (x : En) : Option Nat := if x.right = true then (if fs L x.en x.pg < L.length then some (fs L x.en x.pg) else if L.length = 16 then some 0 else none) else none
def loadB (L : List En) (x : En) : Bool := (goes L x).isSome
def loadG (L : List En) (x : En) : En := match goes L x with
  | some k => enAt L k
  | none => noEn
def loadL (L : List En) (x : En) : List En := if x.right = true then (match goes L x with
  | some k => L.eraseIdx k ++ [x]
  | none => L ++ [x]) else L
def lookE (L : List En) (e p : Int) (w : Bool) : Int := if fs L e p < L.length then (if (w && !(enAt L (fs L e p)).wr) = true then 23 else 0) else 29
def lookN (L : List En) (e p : Int) (w : Bool) : Int := if lookE L e p w = 0 then (enAt L (fs L e p)).fr else 0
def lookL (L : List En) (e p : Int) (w : Bool) : List En := if lookE L e p w = 0 then L.eraseIdx (fs L e p) ++ [enAt L (fs L e p)] else L
def lookH (L : List En) (e p : Int) (w : Bool) (h : Int) : Int := if lookE L e p w = 0 then IntKind.i64.wrap (h + 1) else h
def lookM (L : List En) (e p : Int) (w : Bool) (m : Int) : Int := if lookE L e p w = 29 then IntKind.i64.wrap (m + 1) else m

/-! As cells. -/
def ecells (x : En) : List Value := [.int .i64 x.en, .int .i64 x.pg, .int .i64 x.fr, .bool x.wr]
def rcells (L : List En) : List Value := L.flatMap ecells
theorem ecells_len (x : En) : (ecells x).length = 4 := rfl
theorem ecells_one (x : En) : ∀ u ∈ ecells x, u.oneCell' = true := fun u hu => by
  simp only [ecells, List.mem_cons, List.not_mem_nil, or_false] at hu
  rcases hu with rfl | rfl | rfl | rfl <;> rfl
theorem rcells_one (L : List En) : ∀ u ∈ rcells L, u.oneCell' = true := fun u hu => by
  obtain ⟨x, _, hx⟩ := List.mem_flatMap.1 hu
  exact ecells_one x u hx
theorem rcells_len : ∀ L : List En, (rcells L).length = L.length * 4
  | [] => rfl
  | x :: l => by
    have := rcells_len l
    simp only [rcells, List.flatMap_cons, List.length_append, List.length_cons, ecells, List.length_nil] at *
    omega
theorem rcells_two (L M : List En) : rcells (L ++ M) = rcells L ++ rcells M := by simp [rcells]
theorem rcells_cons (x : En) (l : List En) : rcells (x :: l) = ecells x ++ rcells l := by simp [rcells]
theorem rcells_sole (x : En) : rcells [x] = ecells x := by simp [rcells]
theorem rcells_at : ∀ (L : List En) (i j : Nat) (x : En), L[i]? = some x → j < 4 → (rcells L)[i * 4 + j]? = (ecells x)[j]?
  | [], i, j, x, h, _ => by simp at h
  | y :: l, 0, j, x, h, hj => by
    simp at h
    subst h
    rw [rcells_cons, Nat.zero_mul, Nat.zero_add, List.getElem?_append_left (by simpa [ecells] using hj)]
  | y :: l, i + 1, j, x, h, hj => by
    have := rcells_at l i j x (by simpa using h) hj
    rw [rcells_cons, List.getElem?_append_right (by simp [ecells]; omega), ← this]
    congr 1
    simp [ecells]
    omega
end Go.Proofs.Ytbidioonojnagaa
