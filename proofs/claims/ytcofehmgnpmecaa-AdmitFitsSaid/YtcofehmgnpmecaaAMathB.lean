/-
  What the program's book says of the list: who has what, what was given back, what is used. No world, no program.
-/
import Derived.Test.YtcofehmgnpmecaaAMath
namespace Go.Proofs.Ytcofehmgnpmecaa.Ap

def updF (f : Int → Option Int) (q : Int) (v : Option Int) : Int → Option Int := fun k => if k = q then v else f k
theorem updF_at (f : Int → Option Int) (q : Int) (v : Option Int) : updF f q v q = v := if_pos rfl
theorem updF_off (f : Int → Option Int) {q k : Int} (v : Option Int) (h : k ≠ q) : updF f q v k = f k := if_neg h

def gon (L : List En) : List Gv := (L.filter En.gone).map En.gv
def gsum (G : List Gv) : Int := (G.map Gv.sh).sum
def due (now : Int) (x : Gv) : Bool := decide (x.till ≤ now)
theorem gsum_perm {G H : List Gv} (h : G.Perm H) : gsum G = gsum H := by
  induction h with
  | nil => rfl
  | cons x _ ih => simp only [gsum, List.map_cons, List.sum_cons] at *; omega
  | swap x y l => simp only [gsum, List.map_cons, List.sum_cons]; omega
  | trans _ _ h1 h2 => omega
theorem gsum_app (G H : List Gv) : gsum (G ++ H) = gsum G + gsum H := by simp [gsum]

structure Sides (L : List En) (t : Int) (f : Int → Option Int) (G : List Gv) (u : Int) : Prop where
  live : ∀ q s, f q = some s ↔ ∃ e, e ∈ L ∧ e.is q = true ∧ e.sh = s
  gn : G.Perm (gon L)
  us : u = used L
  most : u ≤ 4294967296
  low : Low L
  one : L.Pairwise fun x y => ∀ q, x.is q = true → y.is q = false
  late : ∀ e, e ∈ L → e.gone = true → t < e.till
  rng : ∀ e, e ∈ L → -9223372036854775808 ≤ e.till ∧ e.till < 9223372036854775808

theorem is_iff {e : En} {q : Int} : e.is q = true ↔ e.who = q ∧ e.gone = false := by simp [En.is]
theorem is_no {e : En} {q : Int} : e.is q = false ↔ (e.who = q → e.gone = true) := by
  cases h : e.gone <;> simp [En.is, h]

section
variable {L : List En} {t : Int} {f : Int → Option Int} {G : List Gv} {u : Int}
theorem Sides.u0 (H : Sides L t f G u) : 0 ≤ u := by
  rw [H.us]
  exact used_low H.low
theorem Sides.at_ (H : Sides L t f G u) {q : Int} {i : Nat} (h : findO L q = some i) : f q = some (eat L i).sh := by
  obtain ⟨h1, h2⟩ := findO_at h
  exact (H.live _ _).2 ⟨eat L i, List.mem_of_getElem? (eat_some h1), h2, rfl⟩
theorem Sides.noS (H : Sides L t f G u) {q : Int} (h : findO L q = none) : f q = none := by
  cases hf : f q with
  | none => rfl
  | some s =>
    obtain ⟨e, he, h1, -⟩ := (H.live _ _).1 hf
    rw [findO_not h e he] at h1
    cases h1
theorem Sides.hasS (H : Sides L t f G u) (q : Int) : (f q).isSome = (findO L q).isSome := by
  cases h : findO L q with
  | none => rw [H.noS h]; rfl
  | some i => rw [H.at_ h]; rfl
theorem Sides.sh_le (H : Sides L t f G u) {q s : Int} (h : f q = some s) : 0 ≤ s ∧ s ≤ u := by
  obtain ⟨e, he, -, rfl⟩ := (H.live _ _).1 h
  refine ⟨H.low e he, ?_⟩
  rw [H.us]
  obtain ⟨A, B, rfl⟩ := List.append_of_mem he
  have h1 := used_low (L := A) (fun x hx => H.low x (List.mem_append_left _ hx))
  have h2 := used_low (L := B) (fun x hx => H.low x (List.mem_append_right _ (List.mem_cons_of_mem _ hx)))
  have : used (A ++ e :: B) = used A + (e.sh + used B) := by simp [used]
  omega
theorem Sides.empty : Sides [] 0 (fun _ => none) [] 0 :=
  ⟨fun q s => by simp, List.Perm.refl _, rfl, by omega, fun e he => by simp at he, List.Pairwise.nil, fun e he => by simp at he, fun e he => by simp at he⟩
theorem gon_app (L M : List En) : gon (L ++ M) = gon L ++ gon M := by simp [gon]

theorem Sides.admit (H : Sides L t f G u) {q s : Int} (hq : findO L q = none) (hs : 0 ≤ s) (hm : u + s ≤ 4294967296) : Sides (L ++ [⟨q, s, false, 0⟩]) t (updF f q (some s)) G (u + s) := by
  have hno := findO_not hq
  refine ⟨fun k v => ?_, ?_, ?_, hm, ?_, ?_, ?_, ?_⟩
  · by_cases hk : k = q
    · subst hk
      rw [updF_at]
      constructor
      · intro h
        cases h
        exact ⟨_, List.mem_append_right _ (List.mem_singleton.2 rfl), by simp [En.is], rfl⟩
      · rintro ⟨e, he, h1, rfl⟩
        rcases List.mem_append.1 he with he | he
        · rw [hno e he] at h1
          cases h1
        · rw [List.mem_singleton.1 he]
    · rw [updF_off _ _ hk, H.live]
      constructor
      · rintro ⟨e, he, h1, h2⟩
        exact ⟨e, List.mem_append_left _ he, h1, h2⟩
      · rintro ⟨e, he, h1, h2⟩
        rcases List.mem_append.1 he with he | he
        · exact ⟨e, he, h1, h2⟩
        · rw [List.mem_singleton.1 he, is_iff] at h1
          exact absurd h1.1.symm hk
  · rw [gon_app]
    simpa [gon] using H.gn
  · rw [used_app, used_one, H.us]
  · intro e he
    rcases List.mem_append.1 he with he | he
    · exact H.low e he
    · rw [List.mem_singleton.1 he]
      exact hs
  · rw [List.pairwise_append]
    refine ⟨H.one, List.pairwise_singleton _ _, fun x hx y hy k h1 => ?_⟩
    rw [List.mem_singleton.1 hy]
    by_cases hk : k = q
    · subst hk
      rw [hno x hx] at h1
      cases h1
    · rw [is_no]
      intro h2
      exact absurd h2.symm hk
  · intro e he h1
    rcases List.mem_append.1 he with he | he
    · exact H.late e he h1
    · rw [List.mem_singleton.1 he] at h1
      cases h1
  · intro e he
    rcases List.mem_append.1 he with he | he
    · exact H.rng e he
    · rw [List.mem_singleton.1 he]
      exact ⟨by simp, by simp⟩

/-- The list, parted at one who has one. -/
theorem part_at {L : List En} {i : Nat} (h : i < L.length) : L = L.take i ++ eat L i :: L.drop (i + 1) := by
  conv => lhs; rw [← List.take_append_drop i L, List.drop_eq_getElem_cons h]
  rw [eat_of (List.getElem?_eq_getElem h)]
theorem mark_part {L : List En} {i : Nat} (h : i < L.length) (v : Int) : mark L i v = L.take i ++ ⟨(eat L i).who, (eat L i).sh, true, v⟩ :: L.drop (i + 1) := by
  rw [mark, List.set_eq_take_append_cons_drop, if_pos h]
theorem over_all {L : List En} {t : Int} (h : ∀ e, e ∈ L → e.gone = true → t < e.till) : over L t = L := by
  rw [over, List.filter_eq_self]
  intro e he
  unfold stays
  cases hg : e.gone with
  | false => rfl
  | true => simpa using h e he hg

theorem Sides.release (H : Sides L t f G u) {q v : Int} {i : Nat} (hq : findO L q = some i) (hv : -9223372036854775808 ≤ v ∧ v < 9223372036854775808) :
    (t < v → Sides (relL L q v t) t (updF f q none) (⟨v, (eat L i).sh⟩ :: G) u) ∧ (v ≤ t → Sides (relL L q v t) t (updF f q none) G (u - (eat L i).sh)) := by
  obtain ⟨hi, h1⟩ := findO_at hq
  have hr : relL L q v t = over (mark L i v) t := by rw [relL, hq]
  rw [hr, mark_part hi]
  have hL := part_at hi
  have hX := H
  rw [hL] at hX
  generalize L.take i = A at *
  generalize L.drop (i + 1) = C at *
  generalize eat L i = x at *
  subst hL
  rw [is_iff] at h1
  obtain ⟨rfl, hxg⟩ := h1
  have hlA : ∀ e, e ∈ A → e.gone = true → t < e.till := fun e he => H.late e (List.mem_append_left _ he)
  have hlC : ∀ e, e ∈ C → e.gone = true → t < e.till := fun e he => H.late e (List.mem_append_right _ (List.mem_cons_of_mem _ he))
  have hone := H.one
  rw [List.pairwise_append, List.pairwise_cons] at hone
  obtain ⟨oA, ⟨oxC, oC⟩, oAx⟩ := hone
  have hxi : x.is x.who = true := is_iff.2 ⟨rfl, hxg⟩
  have hnA : ∀ e, e ∈ A → e.is x.who = false := fun e he => by
    cases h2 : e.is x.who with
    | false => rfl
    | true =>
      have := oAx e he x (List.mem_cons_self ..) _ h2
      rw [hxi] at this
      cases this
  have hnC : ∀ e, e ∈ C → e.is x.who = false := fun e he => oxC e he _ hxi
  have hlow : ∀ e, e ∈ A ∨ e ∈ C → 0 ≤ e.sh := fun e he => H.low e (he.elim (List.mem_append_left _) (fun h => List.mem_append_right _ (List.mem_cons_of_mem _ h)))
  have hrng : ∀ e, e ∈ A ∨ e ∈ C → -9223372036854775808 ≤ e.till ∧ e.till < 9223372036854775808 := fun e he => H.rng e (he.elim (List.mem_append_left _) (fun h => List.mem_append_right _ (List.mem_cons_of_mem _ h)))
  have hx0 := H.low x (List.mem_append_right _ (List.mem_cons_self ..))
  have hus := H.us
  have hmo := H.most
  have hg := H.gn
  have hu : used (A ++ x :: C) = used A + (x.sh + used C) := by simp [used]
  have hgo : gon (A ++ x :: C) = gon A ++ gon C := by
    rw [gon_app]
    simp [gon, hxg]
  rw [hgo] at hg
  have hlive : ∀ k s, updF f x.who none k = some s ↔ ∃ e, (e ∈ A ∨ e ∈ C) ∧ e.is k = true ∧ e.sh = s := fun k s => by
    by_cases hk : k = x.who
    · subst hk
      rw [updF_at]
      constructor
      · intro h
        cases h
      · rintro ⟨e, he, h2, -⟩
        rw [he.elim (hnA e) (hnC e)] at h2
        cases h2
    · rw [updF_off _ _ hk, H.live]
      constructor
      · rintro ⟨e, he, h2, h3⟩
        rcases List.mem_append.1 he with he | he
        · exact ⟨e, Or.inl he, h2, h3⟩
        · rcases List.mem_cons.1 he with rfl | he
          · exact absurd (is_iff.1 h2).1.symm hk
          · exact ⟨e, Or.inr he, h2, h3⟩
      · rintro ⟨e, he, h2, h3⟩
        exact ⟨e, he.elim (List.mem_append_left _) (fun h => List.mem_append_right _ (List.mem_cons_of_mem _ h)), h2, h3⟩
  constructor
  · intro hvt
    have hov : over (A ++ ⟨x.who, x.sh, true, v⟩ :: C) t = A ++ ⟨x.who, x.sh, true, v⟩ :: C := over_all fun e he hge => by
      rcases List.mem_append.1 he with he | he
      · exact hlA e he hge
      · rcases List.mem_cons.1 he with rfl | he
        · exact hvt
        · exact hlC e he hge
    rw [hov]
    have hy : ∀ k, (⟨x.who, x.sh, true, v⟩ : En).is k = false := fun k => by simp [En.is]
    refine ⟨fun k s => ?_, ?_, ?_, hmo, ?_, ?_, ?_, ?_⟩
    · rw [hlive]
      constructor
      · rintro ⟨e, he, h2, h3⟩
        exact ⟨e, he.elim (List.mem_append_left _) (fun h => List.mem_append_right _ (List.mem_cons_of_mem _ h)), h2, h3⟩
      · rintro ⟨e, he, h2, h3⟩
        rcases List.mem_append.1 he with he | he
        · exact ⟨e, Or.inl he, h2, h3⟩
        · rcases List.mem_cons.1 he with rfl | he
          · rw [hy] at h2
            cases h2
          · exact ⟨e, Or.inr he, h2, h3⟩
    · have : gon (A ++ ⟨x.who, x.sh, true, v⟩ :: C) = gon A ++ ⟨v, x.sh⟩ :: gon C := by
        rw [gon_app]
        simp [gon, En.gv]
      rw [this]
      exact (hg.cons _).trans List.perm_middle.symm
    · rw [hus, hu]
      simp [used]
    · intro e he
      rcases List.mem_append.1 he with he | he
      · exact hlow e (Or.inl he)
      · rcases List.mem_cons.1 he with rfl | he
        · exact hx0
        · exact hlow e (Or.inr he)
    · rw [List.pairwise_append, List.pairwise_cons]
      refine ⟨oA, ⟨fun y hy2 k h2 => ?_, oC⟩, fun a ha y hy2 k h2 => ?_⟩
      · rw [hy] at h2
        cases h2
      · rcases List.mem_cons.1 hy2 with rfl | hy2
        · exact hy k
        · exact oAx a ha y (List.mem_cons_of_mem _ hy2) k h2
    · intro e he hge
      rcases List.mem_append.1 he with he | he
      · exact hlA e he hge
      · rcases List.mem_cons.1 he with rfl | he
        · exact hvt
        · exact hlC e he hge
    · intro e he
      rcases List.mem_append.1 he with he | he
      · exact hrng e (Or.inl he)
      · rcases List.mem_cons.1 he with rfl | he
        · exact hv
        · exact hrng e (Or.inr he)
  · intro hvt
    have hov : over (A ++ ⟨x.who, x.sh, true, v⟩ :: C) t = A ++ C := by
      have h1 := over_all hlA
      have h2 := over_all hlC
      unfold over at *
      rw [List.filter_append, List.filter_cons, if_neg (by simp [stays]; omega), h1, h2]
    rw [hov]
    have huA : used (A ++ C) = used A + used C := used_app _ _
    refine ⟨fun k s => ?_, ?_, ?_, by omega, ?_, ?_, ?_, ?_⟩
    · rw [hlive]
      simp only [List.mem_append]
    · rw [gon_app]
      exact hg
    · omega
    · intro e he
      exact hlow e (List.mem_append.1 he)
    · rw [List.pairwise_append]
      exact ⟨oA, oC, fun a ha y hy k h2 => oAx a ha y (List.mem_cons_of_mem _ hy) k h2⟩
    · intro e he
      exact (List.mem_append.1 he).elim (hlA e) (hlC e)
    · intro e he
      exact hrng e (List.mem_append.1 he)

theorem gon_over (L : List En) (t : Int) : gon (over L t) = (gon L).filter fun x => !due t x := by
  induction L with
  | nil => rfl
  | cons a l ih =>
    have h1 : gon (a :: l) = (if a.gone = true then [a.gv] else []) ++ gon l := by
      unfold gon
      cases h : a.gone <;> simp [h]
    have h2 : over (a :: l) t = (if stays t a = true then [a] else []) ++ over l t := by
      unfold over
      cases h : stays t a <;> simp [h]
    rw [h1, h2, gon_app, ih, List.filter_append]
    congr 1
    cases hg : a.gone with
    | false => simp [stays, hg, gon]
    | true =>
      by_cases hd : t < a.till
      · have hd2 : ¬ a.till ≤ t := by omega
        simp [stays, hg, hd, hd2, gon, due, En.gv]
      · have hd2 : a.till ≤ t := by omega
        simp [stays, hg, hd, hd2, gon, due, En.gv]
theorem used_over (L : List En) (t : Int) : used L = used (over L t) + gsum ((gon L).filter (due t)) ∧ L.length = (over L t).length + ((gon L).filter (due t)).length := by
  induction L with
  | nil => exact ⟨rfl, rfl⟩
  | cons a l ih =>
    have h1 : gon (a :: l) = (if a.gone = true then [a.gv] else []) ++ gon l := by
      unfold gon
      cases h : a.gone <;> simp [h]
    have h2 : over (a :: l) t = (if stays t a = true then [a] else []) ++ over l t := by
      unfold over
      cases h : stays t a <;> simp [h]
    have h3 : used (a :: l) = a.sh + used l := by simp [used]
    rw [h1, h2, h3, used_app, List.filter_append, gsum_app, List.length_append, List.length_append, List.length_cons]
    cases hg : a.gone with
    | false =>
      have hs : stays t a = true := by simp [stays, hg]
      simp only [hs, if_true, Bool.false_eq_true, if_false, used_one, List.filter_nil, List.length_nil, List.length_singleton]
      have : gsum [] = 0 := rfl
      omega
    | true =>
      by_cases hd : t < a.till
      · have hd2 : ¬ a.till ≤ t := by omega
        have hs : stays t a = true := by simp [stays, hd]
        have hf : List.filter (due t) [a.gv] = [] := by simp [due, En.gv, hd2]
        simp only [hs, if_true, used_one, hf, List.length_nil, List.length_singleton]
        have : gsum [] = 0 := rfl
        omega
      · have hd2 : a.till ≤ t := by omega
        have hs : stays t a = false := by simp [stays, hg, hd]
        have hf : List.filter (due t) [a.gv] = [a.gv] := by simp [due, En.gv, hd2]
        simp only [hs, if_true, Bool.false_eq_true, if_false, hf, List.length_nil, List.length_singleton]
        have : gsum [a.gv] = a.sh := by simp [gsum, En.gv]
        have : used [] = 0 := rfl
        omega
theorem Sides.advance (H : Sides L t f G u) {v : Int} {G' R : List Gv} (hp : (R ++ G').Perm G) (hR : ∀ x, x ∈ R → x.till ≤ v) (hG : ∀ x, x ∈ G' → v < x.till) :
    Sides (over L v) v f G' (u - gsum R) ∧ L.length = (over L v).length + R.length := by
  have hRd : R.filter (due v) = R := List.filter_eq_self.2 fun x hx => by simpa [due] using hR x hx
  have hGd : G'.filter (due v) = [] := List.filter_eq_nil_iff.2 fun x hx => by simpa [due] using hG x hx
  have hRn : (R.filter fun x => !due v x) = [] := List.filter_eq_nil_iff.2 fun x hx => by simpa [due] using hR x hx
  have hGn : (G'.filter fun x => !due v x) = G' := List.filter_eq_self.2 fun x hx => by simpa [due] using hG x hx
  have hperm := hp.trans H.gn
  have h1 := hperm.filter (due v)
  have h2 := hperm.filter fun x => !due v x
  rw [List.filter_append, hRd, hGd, List.append_nil] at h1
  rw [List.filter_append, hRn, hGn, List.nil_append, ← gon_over] at h2
  obtain ⟨h3, h4⟩ := used_over L v
  have h5 := gsum_perm h1
  have h6 := h1.length_eq
  have hsub : ∀ e, e ∈ over L v → e ∈ L := fun e he => (List.mem_filter.1 he).1
  have hgs : 0 ≤ gsum R := by
    rw [h5]
    have : ∀ x, x ∈ (gon L).filter (due v) → 0 ≤ x.sh := fun x hx => by
      obtain ⟨h7, -⟩ := List.mem_filter.1 hx
      obtain ⟨e, he, rfl⟩ := List.mem_map.1 h7
      exact H.low e (List.mem_filter.1 he).1
    generalize (gon L).filter (due v) = K at this
    clear h1 h3 h4 h5 h6
    induction K with
    | nil => simp [gsum]
    | cons a l ih =>
      have h8 := ih fun x hx => this x (List.mem_cons_of_mem _ hx)
      have h9 := this a (List.mem_cons_self ..)
      simp only [gsum, List.map_cons, List.sum_cons] at *
      omega
  have hus := H.us
  have hmo := H.most
  refine ⟨⟨fun q s => ?_, h2, by omega, by omega, fun e he => H.low e (hsub e he), H.one.filter _, fun e he hg => ?_, fun e he => H.rng e (hsub e he)⟩, by omega⟩
  · rw [H.live]
    constructor
    · rintro ⟨e, he, h7, h8⟩
      exact ⟨e, List.mem_filter.2 ⟨he, by rw [stays, (is_iff.1 h7).2]; rfl⟩, h7, h8⟩
    · rintro ⟨e, he, h7, h8⟩
      exact ⟨e, hsub e he, h7, h8⟩
  · have := (List.mem_filter.1 he).2
    rw [stays, hg] at this
    simpa using this
theorem gsum_low {K : List Gv} (h : ∀ x, x ∈ K → 0 ≤ x.sh) : 0 ≤ gsum K := by
  induction K with
  | nil => simp [gsum]
  | cons a l ih =>
    have h8 := ih fun x hx => h x (List.mem_cons_of_mem _ hx)
    have h9 := h a (List.mem_cons_self ..)
    simp only [gsum, List.map_cons, List.sum_cons] at *
    omega
theorem Sides.few (H : Sides L t f G u) : gsum G ≤ u ∧ ∀ x, x ∈ G → 0 ≤ x.sh := by
  constructor
  · rw [gsum_perm H.gn, H.us]
    have hl := H.low
    clear H
    induction L with
    | nil => simp [gsum, gon, used]
    | cons a l ih =>
      have h1 : gon (a :: l) = (if a.gone = true then [a.gv] else []) ++ gon l := by
        unfold gon
        cases h : a.gone <;> simp [h]
      have h2 := ih fun e he => hl e (List.mem_cons_of_mem _ he)
      have h3 := hl a (List.mem_cons_self ..)
      have h4 : used (a :: l) = a.sh + used l := by simp [used]
      rw [h1, gsum_app, h4]
      cases a.gone with
      | false =>
        have : gsum [] = 0 := rfl
        simp only [Bool.false_eq_true, if_false]
        omega
      | true =>
        have : gsum [a.gv] = a.sh := by simp [gsum, En.gv]
        simp only [if_true]
        omega
  · intro x hx
    obtain ⟨e, he, rfl⟩ := List.mem_map.1 (H.gn.mem_iff.1 hx)
    exact H.low e (List.mem_filter.1 he).1
theorem Sides.len (H : Sides L t f G u) : G.length = pend L := by
  rw [H.gn.length_eq, gon, List.length_map, pend, List.countP_eq_length_filter]
theorem Sides.perm (H : Sides L t f G u) {G' : List Gv} (h : G'.Perm G) : Sides L t f G' u := ⟨H.live, h.trans H.gn, H.us, H.most, H.low, H.one, H.late, H.rng⟩
theorem admE_zero {q x y : Int} (h : admE L q x y = 0) : rightB x y = true ∧ findO L q = none ∧ used L + shr x y ≤ 4294967296 := by
  unfold admE at h
  split at h
  · cases h
  · rename_i hr
    split at h
    · cases h
    · rename_i hf
      split at h
      · cases h
      · exact ⟨by simpa using hr, by simpa using hf, by omega⟩
theorem mark_len (L : List En) (i : Nat) (v : Int) : (mark L i v).length = L.length := by simp [mark]
theorem relL_len (L : List En) (q v t : Int) : (relL L q v t).length ≤ L.length := by
  unfold relL
  split
  · exact Nat.le_refl _
  · exact Nat.le_trans (over_len _ _) (by rw [mark_len]; exact Nat.le_refl _)
theorem advL_len (L : List En) (t v : Int) : (advL L t v).length ≤ L.length := by
  unfold advL
  split
  · exact Nat.le_refl _
  · exact over_len _ _
theorem admL_len (L : List En) (q x y : Int) : (admL L q x y).length ≤ L.length + 1 := by
  unfold admL
  split
  · simp
  · exact Nat.le_succ _
end
end Go.Proofs.Ytcofehmgnpmecaa.Ap
