/-
  Plain arithmetic of package supply, more: shares of a list of reservations, and whether they fit.
-/
import Derived.Test.YtbeckgdocnofhaaSWalksD
import Derived.Test.YtbeckgdocnofhaaMathD
import Derived.Test.YtbeckgdocnofhaaWalksH
namespace Go.Proofs.Ytbeckgdocnofhaa

def Sp.share (r : Int × Int) : Int × Int := (Sp.shN r.1 r.2, Sp.shD r.1 r.2)
def Sp.shares (l : List (Int × Int)) : List (Int × Int) := l.map Sp.share
def Sp.rt (r : Int × Int) : Bool := Sp.right r.1 r.2
/-- Do reservations fit? -/
def Sp.fits (l : List (Int × Int)) : Bool := l.all Sp.rt && decide (Rt.sumE (Sp.shares l) = 0) && decide (Rt.sumN (Sp.shares l) ≤ Rt.sumD (Sp.shares l))

/-- A sum is of words. -/
theorem Rt.sumTo_bd {l : List (Int × Int)} (h1 : ∀ i, 0 ≤ (l.getD i (0, 0)).1) (h2 : ∀ i, 0 ≤ (l.getD i (0, 0)).2) : ∀ k, (0 ≤ (Rt.sumTo l k).1 ∧ (Rt.sumTo l k).1 < 18446744073709551616) ∧ 0 ≤ (Rt.sumTo l k).2.1 ∧ (Rt.sumTo l k).2.1 < 18446744073709551616
  | 0 => by simp [Rt.sumTo]
  | k + 1 => by
    have ih := Rt.sumTo_bd h1 h2 k
    rw [Rt.sumTo, Rt.addTo]
    split
    · exact Rt.add_bd _ _ _ _ ih.1.1 ih.2.1 (h1 k) (h2 k)
    · exact ih
theorem Rt.sumN_bd {l : List (Int × Int)} (h1 : ∀ i, 0 ≤ (l.getD i (0, 0)).1) (h2 : ∀ i, 0 ≤ (l.getD i (0, 0)).2) : (0 ≤ Rt.sumN l ∧ Rt.sumN l < 18446744073709551616) ∧ 0 ≤ Rt.sumD l ∧ Rt.sumD l < 18446744073709551616 := Rt.sumTo_bd h1 h2 _

namespace Sp
theorem shares_len (l : List (Int × Int)) : (shares l).length = l.length := by simp [shares]
theorem shares_at {l : List (Int × Int)} {k : Nat} (hk : k < l.length) {b p : Int} (ht : l.getD k (0, 0) = (b, p)) : (shares l).getD k (0, 0) = (shN b p, shD b p) := by
  rw [List.getD_eq_getElem?_getD, List.getElem?_eq_getElem hk] at ht
  rw [List.getD_eq_getElem?_getD, shares, List.getElem?_map, List.getElem?_eq_getElem hk]
  simp at ht ⊢
  rw [ht]
  rfl
theorem shares_far {l : List (Int × Int)} {k : Nat} (hk : l.length ≤ k) : (shares l).getD k (0, 0) = (0, 0) := by
  rw [List.getD_eq_getElem?_getD, List.getElem?_eq_none (by rw [shares_len]; exact hk)]
  rfl
theorem shares_words (l : List (Int × Int)) : InWords (shares l) := fun i => by
  by_cases hi : i < l.length
  · obtain ⟨b, p, hx⟩ : ∃ b p, l.getD i (0, 0) = (b, p) := ⟨_, _, rfl⟩
    rw [shares_at hi hx]
    have := sh_bd b p
    exact ⟨this.1.1, this.1.2, this.2.1, this.2.2⟩
  · rw [shares_far (by omega)]
    decide
theorem all_take {l : List (Int × Int)} {k : Nat} (hk : k < l.length) : (l.take (k + 1)).all rt = ((l.take k).all rt && rt (l.getD k (0, 0))) := by
  simp only [List.take_succ_eq_append_getElem hk, List.all_append, List.getD_eq_getElem?_getD, List.getElem?_eq_getElem hk, List.all_cons, List.all_nil, Bool.and_true, Option.getD_some]
theorem all_no {l : List (Int × Int)} {k : Nat} (hk : k < l.length) (h : rt (l.getD k (0, 0)) = false) : l.all rt = false := by
  have h1 := all_take (l := l) hk
  rw [h, Bool.and_false] at h1
  rw [List.all_eq_false] at h1 ⊢
  obtain ⟨x, hx, hp⟩ := h1
  exact ⟨x, List.mem_of_mem_take hx, hp⟩
theorem all_at {l : List (Int × Int)} (h : l.all rt = true) {k : Nat} (hk : k < l.length) : rt (l.getD k (0, 0)) = true := by
  rw [List.all_eq_true] at h
  rw [List.getD_eq_getElem?_getD, List.getElem?_eq_getElem hk]
  exact h _ (List.getElem_mem hk)

/-- One that may not be: the sum has an error. -/
theorem sum_wrong {l : List (Int × Int)} (h : l.all rt = false) : Rt.sumE (shares l) ≠ 0 := by
  obtain ⟨x, hx, hp⟩ := List.all_eq_false.1 h
  obtain ⟨k, hk, rfl⟩ := List.getElem_of_mem hx
  intro he
  have hg : l.getD k (0, 0) = (l[k].1, l[k].2) := by rw [List.getD_eq_getElem?_getD, List.getElem?_eq_getElem hk]; rfl
  have hs := shares_at hk hg
  have hr : right l[k].1 l[k].2 = false := by simpa [rt] using hp
  rw [(sh_no hr).1, (sh_no hr).2] at hs
  by_cases h0 : (Rt.sumTo (shares l) k).2.2 = 0
  · have hst := Rt.sumTo_step (l := shares l) (k := k) (p := (Rt.sumTo (shares l) k).1) (q := (Rt.sumTo (shares l) k).2.1) (by rw [← h0]) (0, 0) hs
    have hb : Rt.bad (Rt.sumTo (shares l) k).1 (Rt.sumTo (shares l) k).2.1 0 0 = true := by simp [Rt.bad, Rt.ok]
    obtain ⟨e1, -, -⟩ := Rt.add_bad hb
    have hf := Rt.sumTo_far hst (by rw [e1]; exact (by decide : (1 : Int) ≠ 0)) (shares l).length (by rw [shares_len]; omega)
    rw [Rt.sumE, hf] at he
    rw [e1] at he
    exact absurd (show (1 : Int) = 0 from he) (by decide)
  · have hf := Rt.sumTo_far (l := shares l) (k := k) rfl h0 (shares l).length (by rw [shares_len]; omega)
    rw [Rt.sumE, hf] at he
    exact h0 he

theorem sum_den {l : List (Int × Int)} (h : Rt.sumE (shares l) = 0) : 0 < Rt.sumD (shares l) :=
  Rt.ok_pos (Rt.sum_worth (shares l) (fun i => (shares_words l i).1) _ (Nat.le_refl _) h).2.1

/-- As the program tells it. -/
theorem fits_error {l : List (Int × Int)} (h : Rt.sumE (shares l) ≠ 0) : fits l = false := by simp [fits, h]
theorem fits_sum {l : List (Int × Int)} (h : Rt.sumE (shares l) = 0) : fits l = decide (Rt.cmpR (Rt.sumN (shares l)) (Rt.sumD (shares l)) 1 1 ≤ 0) := by
  have ha : l.all rt = true := by
    cases ha : l.all rt with
    | true => rfl
    | false => exact absurd h (sum_wrong ha)
  have hd := sum_den h
  rw [fits, ha, Rt.cmpR_some (by omega) (by decide), Int.mul_one, Int.one_mul]
  simp only [h, decide_true, Bool.true_and]
  congr 1
  unfold Rt.sgn
  apply propext
  split
  · omega
  · split <;> omega
end Sp
end Go.Proofs.Ytbeckgdocnofhaa
