/-
  Plain arithmetic of package fit: sections; how long a job may be held up; what is asked for; the first bad stretch; the worst one; the least budget.
-/
import Derived.Test.YtlpmcmgalodfeaaTMathB
import Derived.Test.YtlpmcmgalodfeaaSMath
namespace Go.Proofs.Ytlpmcmgalodfeaa.Ft

/-- Is the section in place i one of its task's? -/
def okAt (l : List (Int × Int × Int)) (s : List Int) (i : Nat) : Bool := decide (0 ≤ s.getD i 0) && decide (s.getD i 0 ≤ (l.getD i (0, 0, 0)).1)
def okTo (l : List (Int × Int × Int)) (s : List Int) (k : Nat) : Bool := (List.range k).all (okAt l s)
/-- May these be the sections? -/
def within (l : List (Int × Int × Int)) (s : List Int) : Bool := decide (s.length ≤ l.length) && okTo l s s.length
def right (l : List (Int × Int × Int)) (s : List Int) (b p : Int) : Bool := Tk.all l && within l s && Sp.right b p

theorem okTo_step (l : List (Int × Int × Int)) (s : List Int) (k : Nat) : okTo l s (k + 1) = (okTo l s k && okAt l s k) := by
  simp [okTo, List.range_succ]
theorem ok_no {l : List (Int × Int × Int)} {s : List Int} {k n : Nat} (hk : k < n) (h : okAt l s k = false) : okTo l s n = false := by
  rw [okTo, List.all_eq_false]
  exact ⟨k, List.mem_range.2 hk, by rw [h]; decide⟩
theorem ok_at {l : List (Int × Int × Int)} {s : List Int} {k n : Nat} (hk : k < n) (h : okTo l s n = true) : 0 ≤ s.getD k 0 ∧ s.getD k 0 ≤ (l.getD k (0, 0, 0)).1 := by
  rw [okTo, List.all_eq_true] at h
  have := h k (List.mem_range.2 hk)
  simpa [okAt] using this
theorem within_len {l : List (Int × Int × Int)} {s : List Int} (h : within l s = true) : s.length ≤ l.length := by
  simp only [within, Bool.and_eq_true, decide_eq_true_eq] at h
  exact h.1
theorem within_at {l : List (Int × Int × Int)} {s : List Int} {k : Nat} (h : within l s = true) (hk : k < s.length) : 0 ≤ s.getD k 0 ∧ s.getD k 0 ≤ (l.getD k (0, 0, 0)).1 := by
  simp only [within, Bool.and_eq_true, decide_eq_true_eq] at h
  exact ok_at hk h.2

theorem right_iff {l : List (Int × Int × Int)} {s : List Int} {b p : Int} : right l s b p = true ↔ Tk.all l = true ∧ within l s = true ∧ Sp.right b p = true := by
  simp [right, and_assoc]

/-- How long a job may be held up by one of the first k tasks. -/
def heldTo (l : List (Int × Int × Int)) (s : List Int) (t : Int) : Nat → Int
  | 0 => 0
  | k + 1 => if t < (l.getD k (0, 0, 0)).2.2 then max (heldTo l s t k) (s.getD k 0) else heldTo l s t k
def held (l : List (Int × Int × Int)) (s : List Int) (t : Int) : Int := heldTo l s t s.length
theorem heldTo_yes {l : List (Int × Int × Int)} {s : List Int} {t c p d : Int} {k : Nat} (ht : l.getD k (0, 0, 0) = (c, p, d)) (h : t < d) : heldTo l s t (k + 1) = max (heldTo l s t k) (s.getD k 0) := by
  rw [heldTo, ht, if_pos h]
theorem heldTo_no {l : List (Int × Int × Int)} {s : List Int} {t c p d : Int} {k : Nat} (ht : l.getD k (0, 0, 0) = (c, p, d)) (h : ¬ t < d) : heldTo l s t (k + 1) = heldTo l s t k := by
  rw [heldTo, ht, if_neg h]
theorem held_bd {l : List (Int × Int × Int)} {s : List Int} (ha : Tk.all l = true) (h : within l s = true) (t : Int) : ∀ k, k ≤ s.length → 0 ≤ heldTo l s t k ∧ heldTo l s t k ≤ 1048576
  | 0, _ => by simp [heldTo]
  | k + 1, hk => by
    have i1 := held_bd ha h t k (by omega)
    have i2 := within_at h (show k < s.length by omega)
    have i3 := Tk.all_bd ha (show k < l.length by have := within_len h; omega) (c := (l.getD k (0, 0, 0)).1) (p := (l.getD k (0, 0, 0)).2.1) (d := (l.getD k (0, 0, 0)).2.2) rfl
    rw [heldTo]
    split
    · omega
    · exact i1

/-- What is asked for in a stretch. -/
def needs (l : List (Int × Int × Int)) (s : List Int) (t : Int) : Int := Tk.dem l t + held l s t
theorem needs_bd {l : List (Int × Int × Int)} {s : List Int} (ha : Tk.all l = true) (h : within l s = true) {t : Int} (ht : t ≤ 1048576) : 0 ≤ needs l s t ∧ needs l s t ≤ 8797166764032 := by
  have h1 := held_bd ha h t s.length (Nat.le_refl _)
  have h2 := Tk.dem_bd (n := t) (Tk.all_len ha) (Tk.all_mem ha) ht
  unfold needs held
  omega
def spare (l : List (Int × Int × Int)) (s : List Int) (b p t : Int) : Int := Sp.give b p t - needs l s t
/-- Does a stretch ask for too much? -/
def bad (l : List (Int × Int × Int)) (s : List Int) (b p t : Int) : Bool := decide (Sp.give b p t < needs l s t)
def first (l : List (Int × Int × Int)) (s : List Int) (b p t : Int) : Option Int := (Tk.pts l t).find? (bad l s b p)

theorem getD_mem {L : List Int} {k : Nat} (h : k < L.length) : L.getD k 0 ∈ L := by
  rw [List.getD_eq_getElem?_getD, List.getElem?_eq_getElem h]
  exact List.getElem_mem h
theorem find_at {P : Int → Bool} {L : List Int} {k : Nat} (hk : k < L.length) (h : ∀ i, i < k → P (L.getD i 0) = false) (hx : P (L.getD k 0) = true) : L.find? P = some (L.getD k 0) := by
  have e : L = L.take k ++ L.drop k := (List.take_append_drop k L).symm
  have h1 : (L.take k).find? P = none := by
    rw [List.find?_eq_none]
    intro x hx
    obtain ⟨i, hi, rfl⟩ := List.getElem_of_mem hx
    rw [List.length_take] at hi
    have := h i (by omega)
    rw [List.getD_eq_getElem?_getD, List.getElem?_eq_getElem (by omega)] at this
    simpa using this
  have h2 : L.drop k = L.getD k 0 :: L.drop (k + 1) := by
    rw [List.drop_eq_getElem_cons hk, List.getD_eq_getElem?_getD, List.getElem?_eq_getElem hk]
    rfl
  rw [e, List.find?_append, h1, ← e, h2, List.find?_cons_of_pos hx]
  rfl
theorem find_none {P : Int → Bool} {L : List Int} (h : ∀ i, i < L.length → P (L.getD i 0) = false) : L.find? P = none := by
  rw [List.find?_eq_none]
  intro x hx
  obtain ⟨i, hi, rfl⟩ := List.getElem_of_mem hx
  have := h i hi
  rw [List.getD_eq_getElem?_getD, List.getElem?_eq_getElem hi] at this
  simpa using this
theorem find_none_at {P : Int → Bool} {L : List Int} (h : L.find? P = none) : ∀ x ∈ L, P x = false := fun x hx => by
  rw [List.find?_eq_none] at h
  simpa using h x hx
theorem all_at {P : Int → Bool} {L : List Int} (h : ∀ i, i < L.length → P (L.getD i 0) = true) : L.all P = true := by
  rw [List.all_eq_true]
  intro x hx
  obtain ⟨i, hi, rfl⟩ := List.getElem_of_mem hx
  have := h i hi
  rwa [List.getD_eq_getElem?_getD, List.getElem?_eq_getElem hi] at this
theorem all_no {P : Int → Bool} {L : List Int} {k : Nat} (hk : k < L.length) (h : P (L.getD k 0) = false) : L.all P = false := by
  rw [List.all_eq_false]
  exact ⟨_, getD_mem hk, by rw [h]; decide⟩
theorem pts_at {l : List (Int × Int × Int)} (ha : Tk.all l = true) {t : Int} {k : Nat} (hk : k < (Tk.pts l t).length) : 1 ≤ (Tk.pts l t).getD k 0 ∧ (Tk.pts l t).getD k 0 ≤ t := Tk.pts_bd (Tk.all_mem ha) _ (getD_mem hk)
theorem pts_few (l : List (Int × Int × Int)) {t : Int} (ht : t ≤ 1048576) : (Tk.pts l t).length ≤ 1048577 := by
  have := Tk.pts_len l t
  omega

/-- May one ask? -/
def asks (l : List (Int × Int × Int)) (s : List Int) (b p t : Int) : Bool := Sp.asks t && right l s b p
theorem asks_iff {l : List (Int × Int × Int)} {s : List Int} {b p t : Int} : asks l s b p t = true ↔ (0 ≤ t ∧ t ≤ 1048576) ∧ Tk.all l = true ∧ within l s = true ∧ Sp.right b p = true := by
  simp [asks, right_iff, Sp.asks_iff]
def firstB (l : List (Int × Int × Int)) (s : List Int) (b p t : Int) : Bool := asks l s b p t && (first l s b p t).isSome
def firstN (l : List (Int × Int × Int)) (s : List Int) (b p t : Int) : Int := if asks l s b p t = true then (first l s b p t).getD 0 else 0
def firstE (l : List (Int × Int × Int)) (s : List Int) (b p t : Int) : Int := if asks l s b p t = true then 0 else 1
def keeps (l : List (Int × Int × Int)) (s : List Int) (b p t : Int) : Bool := asks l s b p t && (first l s b p t).isNone
/-- The document's First: -1, if there is none. -/
def firstI (l : List (Int × Int × Int)) (s : List Int) (b p t : Int) : Int := (first l s b p t).getD (-1)

/-- The place of the worst of the first k + 1. -/
def bestTo (f : Int → Int) (L : List Int) : Nat → Nat
  | 0 => 0
  | k + 1 => if f (L.getD (k + 1) 0) < f (L.getD (bestTo f L k) 0) then k + 1 else bestTo f L k
theorem bestTo_le (f : Int → Int) (L : List Int) : ∀ k, bestTo f L k ≤ k
  | 0 => Nat.le_refl _
  | k + 1 => by
    have := bestTo_le f L k
    rw [bestTo]
    split <;> omega
theorem bestTo_yes {f : Int → Int} {L : List Int} {k : Nat} {x : Int} (hx : L.getD (k + 1) 0 = x) (h : f x < f (L.getD (bestTo f L k) 0)) : bestTo f L (k + 1) = k + 1 := by
  rw [bestTo, hx, if_pos h]
theorem bestTo_no {f : Int → Int} {L : List Int} {k : Nat} {x : Int} (hx : L.getD (k + 1) 0 = x) (h : ¬ f x < f (L.getD (bestTo f L k) 0)) : bestTo f L (k + 1) = bestTo f L k := by
  rw [bestTo, hx, if_neg h]

/-- The greatest of the first k, 1 at least. -/
def mostTo (g : Int → Int) (L : List Int) : Nat → Int
  | 0 => 1
  | k + 1 => max (mostTo g L k) (g (L.getD k 0))
theorem mostTo_ge {g : Int → Int} {L : List Int} : ∀ {k : Nat}, 1 ≤ mostTo g L k ∧ ∀ i, i < k → g (L.getD i 0) ≤ mostTo g L k
  | 0 => ⟨Int.le_refl _, fun i h => by omega⟩
  | k + 1 => by
    obtain ⟨h1, h2⟩ := mostTo_ge (g := g) (L := L) (k := k)
    rw [mostTo]
    refine ⟨by omega, fun i hi => ?_⟩
    by_cases h : i = k
    · subst h
      omega
    · have := h2 i (by omega)
      omega
theorem mostTo_is {g : Int → Int} {L : List Int} : ∀ {k : Nat}, mostTo g L k = 1 ∨ ∃ i, i < k ∧ mostTo g L k = g (L.getD i 0)
  | 0 => Or.inl rfl
  | k + 1 => by
    rw [mostTo]
    by_cases h : mostTo g L k ≤ g (L.getD k 0)
    · exact Or.inr ⟨k, by omega, by omega⟩
    · rcases mostTo_is (g := g) (L := L) (k := k) with h1 | ⟨i, hi, h1⟩
      · exact Or.inl (by omega)
      · exact Or.inr ⟨i, by omega, by omega⟩

def budOk (l : List (Int × Int × Int)) (s : List Int) (p t : Int) : Bool := (Tk.pts l t).all fun x => Sp.smallOk p (needs l s x) x
def bud (l : List (Int × Int × Int)) (s : List Int) (p t : Int) : Int := mostTo (fun x => Sp.smallN p (needs l s x) x) (Tk.pts l t) (Tk.pts l t).length
def budN (l : List (Int × Int × Int)) (s : List Int) (p t : Int) : Int := if asks l s 1 p t = true ∧ budOk l s p t = true then bud l s p t else 0
def budE (l : List (Int × Int × Int)) (s : List Int) (p t : Int) : Int := if asks l s 1 p t = true then if budOk l s p t = true then 0 else 24 else 1

/-- Where there is a least budget: with it the set keeps its deadlines, with the whole period too, not with less. -/
theorem bud_yes {l : List (Int × Int × Int)} {s : List Int} {p t : Int} (hr : Sp.right 1 p = true) (hok : budOk l s p t = true) :
    1 ≤ bud l s p t ∧ bud l s p t ≤ p ∧ first l s (bud l s p t) p t = none ∧ first l s p p t = none ∧ (bud l s p t ≠ 1 → (first l s (bud l s p t - 1) p t).isSome = true) := by
  obtain ⟨r1, r2, r3⟩ := Sp.right_iff.1 hr
  rw [budOk, List.all_eq_true] at hok
  have hyes : ∀ i, i < (Tk.pts l t).length → _ := fun i hi => Sp.small_yes (hok _ (getD_mem hi))
  obtain ⟨g1, g2⟩ := mostTo_ge (g := fun x => Sp.smallN p (needs l s x) x) (L := Tk.pts l t) (k := (Tk.pts l t).length)
  have h1 : 1 ≤ bud l s p t := g1
  have g3 : ∀ i, i < (Tk.pts l t).length → Sp.smallN p (needs l s ((Tk.pts l t).getD i 0)) ((Tk.pts l t).getD i 0) ≤ bud l s p t := g2
  have h2 : bud l s p t ≤ p := by
    rcases mostTo_is (g := fun x => Sp.smallN p (needs l s x) x) (L := Tk.pts l t) (k := (Tk.pts l t).length) with h | ⟨i, hi, h⟩
    · rw [bud, h]
      omega
    · rw [bud, h]
      exact (hyes i hi).2.1
  have up : ∀ b, bud l s p t ≤ b → first l s b p t = none := fun b hb => find_none fun i hi => by
    have h3 := (hyes i hi).2.2.1
    have h4 := g3 i hi
    have h5 : Sp.give (Sp.smallN p (needs l s ((Tk.pts l t).getD i 0)) ((Tk.pts l t).getD i 0)) p ((Tk.pts l t).getD i 0) ≤ Sp.give b p ((Tk.pts l t).getD i 0) := Int.mul_le_mul_of_nonneg_right (by omega) (by omega)
    rw [bad, decide_eq_false_iff_not]
    omega
  refine ⟨h1, h2, up _ (Int.le_refl _), up _ h2, fun hne => ?_⟩
  rcases mostTo_is (g := fun x => Sp.smallN p (needs l s x) x) (L := Tk.pts l t) (k := (Tk.pts l t).length) with h | ⟨i, hi, h⟩
  · exact absurd h hne
  · have h0 : bud l s p t = Sp.smallN p (needs l s ((Tk.pts l t).getD i 0)) ((Tk.pts l t).getD i 0) := h
    rw [h0] at hne ⊢
    have h3 := (hyes i hi).2.2.2 hne
    rw [first, List.find?_isSome]
    exact ⟨_, getD_mem hi, by rw [bad, decide_eq_true_eq]; exact h3⟩
/-- Where there is none: not even the whole period is enough. -/
theorem bud_no {l : List (Int × Int × Int)} {s : List Int} {p t : Int} (ha : Tk.all l = true) (hw : within l s = true) (hr : Sp.right 1 p = true) (ht : 0 ≤ t ∧ t ≤ 1048576) (hok : budOk l s p t = false) :
    (first l s p p t).isSome = true := by
  obtain ⟨r1, r2, r3⟩ := Sp.right_iff.1 hr
  rw [budOk, List.all_eq_false] at hok
  obtain ⟨x, hx, h⟩ := hok
  rw [first, List.find?_isSome]
  refine ⟨x, hx, ?_⟩
  rw [bad, decide_eq_true_eq]
  apply Int.not_le.1
  intro h2
  have hb := Tk.pts_bd (Tk.all_mem ha) x hx
  have hn := needs_bd ha hw (t := x) (by omega)
  exact h (Sp.small_iff.2 ⟨Sp.right_iff.2 ⟨r2, Int.le_refl _, r3⟩, Sp.asks_iff.2 (by omega), hn.1, h2⟩)
end Go.Proofs.Ytlpmcmgalodfeaa.Ft
