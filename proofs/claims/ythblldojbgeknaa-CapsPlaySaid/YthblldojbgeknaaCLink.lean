/-
  The document's list and the forest's: what holds of both; what each call makes of them.
-/
import Derived.Test.YthblldojbgeknaaCRefI
import Derived.Test.YthblldojbgeknaaCWalksH
import Derived.Test.YthblldojbgeknaaCLMath
namespace Go.Proofs.Ythblldojbgeknaa
open Go.ChangeShapes Go.WideShapes Go.ChangeAt Go.RowKit

/-- What holds of the document's list: what comes of one bears its way, and is of the same thing. -/
structure DInv (D : Dc) : Prop where
  wf : Wf D.fo
  up : ∀ x ∈ D.l, x.of = [] ∨ ∃ y ∈ D.l, x.of = y.of ++ [y.id] ∧ x.k = y.k ∧ x.o = y.o
  short : ∀ x ∈ D.l, x.of.length < x.id
  len : D.l.length ≤ D.p
theorem DInv.rng {D : Dc} (H : DInv D) {x : Rn} (hx : x ∈ D.l) : x.en < 8 ∧ x.sl < 16 ∧ x.r < 16 ∧ 0 < x.id ∧ x.id ≤ D.p ∧ x.nd.up < x.id := H.wf.rng x.nd (List.mem_map_of_mem hx)
theorem DInv.rise {D : Dc} (H : DInv D) : D.l.Pairwise fun x y => x.id < y.id := by
  have h : (D.l.map Rn.nd).Pairwise fun x y => x.id < y.id := H.wf.rise
  have h2 := List.pairwise_map.1 h
  exact h2
theorem rn_same {L : List Rn} (h : L.Pairwise fun x y => x.id < y.id) {x y : Rn} (hx : x ∈ L) (hy : y ∈ L) (e : x.id = y.id) : x = y := by
  induction L with
  | nil => simp at hx
  | cons z L ih =>
    obtain ⟨a, b⟩ := List.pairwise_cons.1 h
    rcases List.mem_cons.1 hx with h2 | h2
    · rcases List.mem_cons.1 hy with h3 | h3
      · exact h2.trans h3.symm
      · have := a y h3
        subst h2
        omega
    · rcases List.mem_cons.1 hy with h3 | h3
      · have := a x h2
        subst h3
        omega
      · exact ih b h2 h3
theorem nd_up_nil {x : Rn} (h : x.of = []) : x.nd.up = 0 := by simp [Rn.nd, h]
theorem nd_up_of {x y : Rn} (h : x.of = y.of ++ [y.id]) : x.nd.up = y.id := by simp [Rn.nd, h]
theorem dinv_start : DInv ⟨[], 0⟩ := ⟨Wf.empty, (fun x hx => by simp at hx), (fun x hx => by simp at hx), Nat.le_refl _⟩

/-! Taking away. -/
theorem takeGo_rn (q : Nd → Bool) (P : Rn → Bool) : ∀ (T : List Nat) (L : List Rn), (∀ A x B, L = A ++ x :: B → P x = (q x.nd || (T ++ (A.filter P).map (·.id)).contains x.nd.up)) → takeGo q T (L.map Rn.nd) = ((L.filter fun x => !P x).map Rn.nd, (L.filter P).map Rn.nd)
  | _, [], _ => rfl
  | T, y :: l, h => by
    have h0 := h [] y l rfl
    simp only [List.filter_nil, List.map_nil, List.append_nil] at h0
    rw [List.map_cons, takeGo, ← h0]
    by_cases hP : P y = true
    · have hT : T ++ [y.nd.id] = T ++ [y.id] := rfl
      rw [if_pos hP, hT, takeGo_rn q P (T ++ [y.id]) l (fun A x B e => by
        have := h (y :: A) x B (by rw [e]; rfl)
        rw [this, List.filter_cons_of_pos hP]
        simp)]
      rw [List.filter_cons_of_pos hP, List.filter_cons_of_neg (by simp [hP])]
      rfl
    · rw [if_neg hP, takeGo_rn q P T l (fun A x B e => by
        have := h (y :: A) x B (by rw [e]; rfl)
        rw [this, List.filter_cons_of_neg hP])]
      rw [List.filter_cons_of_neg hP, List.filter_cons_of_pos (by simp [hP])]
      rfl
theorem DInv.take {D : Dc} (H : DInv D) {q : Nd → Bool} {P : Rn → Bool} (h0 : ∀ x ∈ D.l, x.of = [] → P x = q x.nd) (h1 : ∀ x ∈ D.l, ∀ y ∈ D.l, x.of = y.of ++ [y.id] → x.k = y.k → x.o = y.o → P x = (q x.nd || P y)) : takeGo q [] D.fo.l = ((D.l.filter fun x => !P x).map Rn.nd, (D.l.filter P).map Rn.nd) := by
  refine takeGo_rn q P [] D.l fun A x B e => ?_
  have hx : x ∈ D.l := by
    rw [e]
    simp
  rw [List.nil_append]
  rcases H.up x hx with h | ⟨y, hy, h, hk, ho⟩
  · rw [h0 x hx h, nd_up_nil h]
    have : ((A.filter P).map (·.id)).contains 0 = false := by
      rw [List.contains_eq_mem, decide_eq_false_iff_not]
      intro hm
      obtain ⟨z, hz, hz0⟩ := List.mem_map.1 hm
      have := (H.rng (x := z) (by rw [e]; exact List.mem_append_left _ (List.mem_filter.1 hz).1)).2.2.2.1
      omega
    rw [this, Bool.or_false]
  · rw [h1 x hx y hy h hk ho, nd_up_of h]
    congr 1
    have hlt : y.id < x.id := by
      have := (H.rng hx).2.2.2.2.2
      rwa [nd_up_of h] at this
    have hr := H.rise
    have hyA : y ∈ A := by
      rw [e] at hy hr
      rcases List.mem_append.1 hy with h2 | h2
      · exact h2
      · rcases List.mem_cons.1 h2 with h3 | h3
        · subst h3
          omega
        · have := (List.pairwise_cons.1 (List.pairwise_append.1 hr).2.1).1 y h3
          omega
    rw [List.contains_eq_mem]
    by_cases hP : P y = true
    · rw [hP]
      symm
      rw [decide_eq_true_eq]
      exact List.mem_map.2 ⟨y, List.mem_filter.2 ⟨hyA, hP⟩, rfl⟩
    · rw [Bool.not_eq_true] at hP
      rw [hP]
      symm
      rw [decide_eq_false_iff_not]
      intro hm
      obtain ⟨z, hz, hz0⟩ := List.mem_map.1 hm
      obtain ⟨hz1, hz2⟩ := List.mem_filter.1 hz
      have : z = y := rn_same hr (by rw [e]; exact List.mem_append_left _ hz1) hy hz0
      subst this
      rw [hP] at hz2
      cases hz2
theorem DInv.left {D : Dc} (H : DInv D) {P : Rn → Bool} (h1 : ∀ x ∈ D.l, ∀ y ∈ D.l, x.of = y.of ++ [y.id] → x.k = y.k → x.o = y.o → P y = true → P x = true) : DInv ⟨D.l.filter fun x => !P x, D.p⟩ := by
  have hs : (D.l.filter fun x => !P x).Sublist D.l := List.filter_sublist
  refine ⟨Wf.sub (L := D.fo.l) H.wf (hs.map _), fun x hx => ?_, fun x hx => H.short x (hs.subset hx), Nat.le_trans hs.length_le H.len⟩
  obtain ⟨hx1, hx2⟩ := List.mem_filter.1 hx
  rcases H.up x hx1 with h | ⟨y, hy, h, hk, ho⟩
  · exact Or.inl h
  · refine Or.inr ⟨y, List.mem_filter.2 ⟨hy, ?_⟩, h, hk, ho⟩
    cases hP : P y with
    | false => rfl
    | true =>
      have := h1 x hx1 y hy h hk ho hP
      rw [this] at hx2
      cases hx2
/-- What is left of it. -/
def Dc.cut (D : Dc) (P : Rn → Bool) : Dc := ⟨D.l.filter fun x => !P x, D.p⟩
theorem DInv.cuts {D : Dc} (H : DInv D) {q : Nd → Bool} {P : Rn → Bool} (h0 : ∀ x ∈ D.l, x.of = [] → P x = q x.nd) (h1 : ∀ x ∈ D.l, ∀ y ∈ D.l, x.of = y.of ++ [y.id] → x.k = y.k → x.o = y.o → P x = (q x.nd || P y)) : (D.cut P).fo = tkF q D.fo ∧ (D.l.filter P).map Rn.nd = tkW q D.fo ∧ DInv (D.cut P) := by
  have h := H.take h0 h1
  refine ⟨?_, ?_, H.left fun x hx y hy e hk ho hP => ?_⟩
  · unfold tkF
    rw [h]
    rfl
  · unfold tkW
    rw [h]
  · rw [h1 x hx y hy e hk ho, hP, Bool.or_true]
theorem DInv.revoke {D : Dc} (H : DInv D) {z : Rn} (hz : z ∈ D.l) : (D.cut (prB z.id false)).fo = tkF (ofB z.nd) D.fo ∧ (D.l.filter (prB z.id false)).map Rn.nd = tkW (ofB z.nd) D.fo ∧ DInv (D.cut (prB z.id false)) := by
  have hz0 := (H.rng hz).2.2.2.1
  refine H.cuts (fun x hx h => ?_) (fun x hx y hy h _ _ => ?_)
  · have : ofB z.nd x.nd = false := by
      unfold ofB
      rw [nd_up_nil h]
      exact decide_eq_false (fun e => by
        have : 0 = z.id := e
        omega)
    rw [this, prB, h]
    rfl
  · have : ofB z.nd x.nd = decide (y.id = z.id) := by
      unfold ofB
      rw [nd_up_of h]
      rfl
    rw [this, prB, prB, h]
    simp only [Bool.false_and, Bool.false_or, List.contains_eq_mem, List.mem_append, List.mem_cons, List.not_mem_nil, or_false, Bool.decide_or]
    rw [Bool.or_comm]
    congr 1
    exact decide_eq_decide.2 ⟨Eq.symm, Eq.symm⟩
theorem DInv.drop {D : Dc} (H : DInv D) (z : Rn) : (D.cut (prB z.id true)).fo = tkF (isB z.nd) D.fo ∧ (D.l.filter (prB z.id true)).map Rn.nd = tkW (isB z.nd) D.fo ∧ DInv (D.cut (prB z.id true)) := by
  refine H.cuts (fun x hx h => ?_) (fun x hx y hy h _ _ => ?_)
  · rw [prB, h]
    simp only [Bool.true_and, List.contains_nil, Bool.or_false]
    rfl
  · have : isB z.nd x.nd = decide (x.id = z.id) := rfl
    rw [this, prB, prB, h]
    simp only [Bool.true_and, List.contains_eq_mem, List.mem_append, List.mem_cons, List.not_mem_nil, or_false, Bool.decide_or]
    congr 1
    rw [Bool.or_comm]
    congr 1
    exact decide_eq_decide.2 ⟨Eq.symm, Eq.symm⟩
theorem DInv.purge {D : Dc} (H : DInv D) (k o : Int) : (D.cut (toB k o)).fo = tkF (Nd.to_ k o) D.fo ∧ (D.l.filter (toB k o)).map Rn.nd = tkW (Nd.to_ k o) D.fo ∧ DInv (D.cut (toB k o)) := by
  refine H.cuts (fun x _ _ => rfl) (fun x hx y hy h hk ho => ?_)
  have : toB k o y = toB k o x := by
    unfold toB Nd.to_ Rn.nd
    rw [hk, ho]
  rw [this]
  show toB k o x = (toB k o x || toB k o x)
  rw [Bool.or_self]

/-! Putting. -/
theorem rputD_fo (D : Dc) (e s k o : Int) (r : Nat) (of : List Nat) (v : Value) : (rputD D e s k o r of v).fo = putF D.fo e s k o r (of.getLast?.getD 0) := by
  unfold rputD putF
  by_cases h : putE D.fo e s = 0
  · rw [if_pos h, if_pos h]
    simp [Dc.fo, Rn.nd]
  · rw [if_neg h, if_neg h]
theorem rputD_p (D : Dc) (e s k o : Int) (r : Nat) (of : List Nat) (v : Value) : (rputD D e s k o r of v).p ≤ D.p + 1 := by
  unfold rputD
  split
  · exact Nat.le_refl _
  · exact Nat.le_succ _
theorem DInv.put {D : Dc} (H : DInv D) (e s k o : Int) {r : Nat} (hr : r < 16) {of : List Nat} (v : Value) (ho : of = [] ∨ ∃ y ∈ D.l, of = y.of ++ [y.id] ∧ k = y.k ∧ o = y.o) : DInv (rputD D e s k o r of v) := by
  have hof : of.length ≤ D.p ∧ of.getLast?.getD 0 ≤ D.p := by
    rcases ho with rfl | ⟨y, hy, rfl, -, -⟩
    · simp
    · have h1 := H.short y hy
      have h2 := (H.rng hy).2.2.2.2.1
      simp
      omega
  have hw : Wf (rputD D e s k o r of v).fo := by
    rw [rputD_fo]
    exact H.wf.put e s k o hr hof.2
  revert hw
  unfold rputD
  by_cases h : putE D.fo e s = 0
  · rw [if_pos h]
    intro hw
    refine ⟨hw, fun x hx => ?_, fun x hx => ?_, ?_⟩
    · rcases List.mem_append.1 hx with hx | hx
      · rcases H.up x hx with h2 | ⟨y, hy, h2⟩
        · exact Or.inl h2
        · exact Or.inr ⟨y, List.mem_append_left _ hy, h2⟩
      · simp only [List.mem_cons, List.not_mem_nil, or_false] at hx
        subst hx
        rcases ho with h2 | ⟨y, hy, h2⟩
        · exact Or.inl h2
        · exact Or.inr ⟨y, List.mem_append_left _ hy, h2⟩
    · rcases List.mem_append.1 hx with hx | hx
      · exact H.short x hx
      · simp only [List.mem_cons, List.not_mem_nil, or_false] at hx
        subst hx
        dsimp only
        omega
    · have := H.len
      simp
      omega
  · rw [if_neg h]
    intro _
    exact H

/-! Rights to a thing. -/
theorem or_bits (k o : Int) : ∀ (L : List Nd) (a : Nat), a < 16 → (∀ x ∈ L, x.r < 16) → ∃ v : Nat, findGo k o a L = (v : Int) ∧ v < 16 ∧ ∀ i, v.testBit i = (a.testBit i || L.any fun x => x.to_ k o && x.r.testBit i)
  | [], a, ha, _ => ⟨a, rfl, ha, fun i => by simp⟩
  | x :: L, a, ha, h => by
    have x2 := h x (List.mem_cons_self ..)
    have h3 : ∀ y ∈ L, y.r < 16 := fun y hy => h y (List.mem_cons_of_mem _ hy)
    show ∃ v : Nat, findGo k o (if x.to_ k o = true then bits .or .i64 (a : Nat) x.r else (a : Nat)) L = (v : Int) ∧ _
    by_cases ht : x.to_ k o = true
    · rw [if_pos ht, bits_or_nat a x.r (by omega) (by omega)]
      have h4 : a ||| x.r < 16 := Nat.or_lt_two_pow (n := 4) ha x2
      obtain ⟨v, h5, h6, h7⟩ := or_bits k o L (a ||| x.r) h4 h3
      exact ⟨v, h5, h6, fun i => by rw [h7 i, Nat.testBit_or, List.any_cons, ht, Bool.true_and, Bool.or_assoc]⟩
    · rw [if_neg ht]
      obtain ⟨v, h5, h6, h7⟩ := or_bits k o L a ha h3
      rw [Bool.not_eq_true] at ht
      exact ⟨v, h5, h6, fun i => by rw [h7 i, List.any_cons, ht, Bool.false_and, Bool.false_or]⟩
theorem bit_four : ∀ r : Fin 16, ∀ b : Fin 4, decide (r.val &&& 2 ^ b.val = 2 ^ b.val) = r.val.testBit b.val := by decide
theorem sum_four : ∀ v : Fin 16, rfTo (fun b => v.val.testBit b) 4 = v.val := by decide
theorem rfTo_same {h h' : Nat → Bool} : ∀ b, (∀ i, i < b → h i = h' i) → rfTo h b = rfTo h' b
  | 0, _ => rfl
  | b + 1, e => by rw [rfTo, rfTo, rfTo_same b (fun i hi => e i (by omega)), e b (by omega)]
theorem DInv.find {D : Dc} (H : DInv D) (e k o : Int) : findV D.fo.l e k o = (rfV D.l e k o : Nat) := by
  have hr : ∀ x ∈ rowN D.fo.l e, x.r < 16 := fun x hx => (H.wf.rng x ((row_mem H.wf).1 hx).1).2.2.1
  obtain ⟨v, h1, h2, h3⟩ := or_bits k o (rowN D.fo.l e) 0 (by omega) hr
  have h4 : rfV D.l e k o = v := by
    refine Eq.trans (rfTo_same 4 fun b hb => ?_) (sum_four ⟨v, h2⟩)
    show hasR D.l e k o b = v.testBit b
    rw [h3 b, Nat.zero_testBit, Bool.false_or, hasR]
    rw [Bool.eq_iff_iff, List.any_eq_true, List.any_eq_true]
    constructor
    · rintro ⟨x, hx, hp⟩
      simp only [pB, Bool.and_eq_true, decide_eq_true_eq] at hp
      refine ⟨x.nd, (row_mem H.wf).2 ⟨List.mem_map_of_mem hx, hp.1⟩, ?_⟩
      rw [Bool.and_eq_true]
      refine ⟨hp.2.1, ?_⟩
      have h5 := hp.2.2
      rw [may_nat (H.rng hx).2.2.1 (by have := pow_four hb; omega)] at h5
      rw [bit_four ⟨x.r, (H.rng hx).2.2.1⟩ ⟨b, hb⟩] at h5
      exact h5
    · rintro ⟨y, hy, hp⟩
      obtain ⟨hy1, hy2⟩ := (row_mem H.wf).1 hy
      obtain ⟨x, hx, rfl⟩ := List.mem_map.1 hy1
      rw [Bool.and_eq_true] at hp
      refine ⟨x, hx, ?_⟩
      simp only [pB, Bool.and_eq_true, decide_eq_true_eq]
      refine ⟨hy2, hp.1, ?_⟩
      rw [may_nat (H.rng hx).2.2.1 (by have := pow_four hb; omega)]
      exact (bit_four ⟨x.r, (H.rng hx).2.2.1⟩ ⟨b, hb⟩).trans hp.2
  rw [h4]
  exact h1
end Go.Proofs.Ythblldojbgeknaa
