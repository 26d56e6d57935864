/-
  Who has what, by the reservations themselves: together they are at most the whole. No world, no program.
-/
import Derived.Test.YtcofehmgnpmecaaAMathB
namespace Go.Proofs.Ytcofehmgnpmecaa.Ap

/-- Who has one, and which. -/
abbrev Hv := Int × Int × Int
def live (M : List En) : List (Int × Int) := (M.filter fun e => !e.gone).map fun e => (e.who, e.sh)
def Hv.sh (z : Hv) : Int × Int := (z.1, shr z.2.1 z.2.2)
def hat (Z : List Hv) (k : Nat) : Hv := Z.getD k (0, 0, 0)
theorem hat_some {Z : List Hv} {k : Nat} (h : k < Z.length) : Z[k]? = some (hat Z k) := by
  rw [hat, List.getD_eq_getElem?_getD, List.getElem?_eq_getElem h]
  rfl
def hsum (Z : List Hv) : Int := (Z.map fun z => shr z.2.1 z.2.2).sum
/-- Those who have one are these. -/
structure Kept (M : List En) (Z : List Hv) : Prop where
  perm : (Z.map Hv.sh).Perm (live M)
  right : ∀ z, z ∈ Z → rightB z.2.1 z.2.2 = true
  one : (Z.map (·.1)).Nodup

theorem live_app (L M : List En) : live (L ++ M) = live L ++ live M := by simp [live]
theorem live_cons (e : En) (M : List En) : live (e :: M) = (if e.gone = true then [] else [(e.who, e.sh)]) ++ live M := by
  unfold live
  cases h : e.gone <;> simp [h]
theorem live_over (M : List En) (t : Int) : live (over M t) = live M := by
  unfold live over
  rw [List.filter_filter]
  congr 1
  refine List.filter_congr fun e _ => ?_
  unfold stays
  cases e.gone <;> simp
theorem sums_le {M : List En} (hl : Low M) : ((live M).map (·.2)).sum ≤ used M := by
  induction M with
  | nil => simp [live, used]
  | cons a l ih =>
    have h1 := ih fun e he => hl e (List.mem_cons_of_mem _ he)
    have h2 := hl a (List.mem_cons_self ..)
    have h3 : used (a :: l) = a.sh + used l := by simp [used]
    rw [live_cons, h3]
    cases a.gone with
    | true => simpa using by omega
    | false => simpa using h1
theorem sum_perm {G H : List Int} (h : G.Perm H) : G.sum = H.sum := by
  induction h with
  | nil => rfl
  | cons x _ ih => simp only [List.sum_cons]; omega
  | swap x y l => simp only [List.sum_cons]; omega
  | trans _ _ h1 h2 => omega
section
variable {M : List En} {Z : List Hv} {t u : Int} {f : Int → Option Int} {G : List Gv}
theorem Kept.sum (K : Kept M Z) (hl : Low M) : hsum Z ≤ used M := by
  have h1 := (K.perm.map (·.2))
  have h2 := sum_perm h1
  rw [List.map_map] at h2
  have h3 : hsum Z = (Z.map ((·.2) ∘ Hv.sh)).sum := rfl
  rw [h3, h2]
  exact sums_le hl
theorem kept_nil : Kept [] [] := ⟨List.Perm.refl _, fun z hz => by simp at hz, by simp⟩
theorem Kept.mem (K : Kept M Z) (q : Int) : (∃ z, z ∈ Z ∧ z.1 = q) ↔ ∃ e, e ∈ M ∧ e.is q = true := by
  constructor
  · rintro ⟨z, hz, rfl⟩
    have h1 := K.perm.mem_iff.1 (List.mem_map.2 ⟨z, hz, rfl⟩)
    obtain ⟨e, he, h2⟩ := List.mem_map.1 h1
    obtain ⟨h3, h4⟩ := List.mem_filter.1 he
    refine ⟨e, h3, is_iff.2 ⟨?_, by simpa using h4⟩⟩
    simp only [Hv.sh, Prod.mk.injEq] at h2
    exact h2.1
  · rintro ⟨e, he, h1⟩
    obtain ⟨h2, h3⟩ := is_iff.1 h1
    have h4 : (e.who, e.sh) ∈ live M := List.mem_map.2 ⟨e, List.mem_filter.2 ⟨he, by simp [h3]⟩, rfl⟩
    obtain ⟨z, hz, h5⟩ := List.mem_map.1 (K.perm.mem_iff.2 h4)
    simp only [Hv.sh, Prod.mk.injEq] at h5
    exact ⟨z, hz, h5.1.trans h2⟩
theorem Kept.admit (K : Kept M Z) {q x y : Int} (h : admE M q x y = 0) : Kept (admL M q x y) (Z ++ [(q, x, y)]) := by
  obtain ⟨h1, h2, -⟩ := admE_zero h
  rw [admL, if_pos h]
  refine ⟨?_, fun z hz => ?_, ?_⟩
  · rw [List.map_append, live_app]
    refine K.perm.append ?_
    exact List.Perm.refl _
  · rcases List.mem_append.1 hz with hz | hz
    · exact K.right z hz
    · rw [List.mem_singleton.1 hz]
      exact h1
  · rw [List.map_append, List.nodup_append]
    refine ⟨K.one, by simp, fun a ha b hb => ?_⟩
    obtain ⟨z, hz, rfl⟩ := List.mem_map.1 ha
    simp only [List.map_cons, List.map_nil, List.mem_singleton] at hb
    intro e
    rw [hb] at e
    obtain ⟨e', he, h3⟩ := (K.mem q).1 ⟨z, hz, e⟩
    rw [findO_not h2 e' he] at h3
    cases h3
theorem Kept.same (K : Kept M Z) {q x y : Int} (h : admE M q x y ≠ 0) : Kept (admL M q x y) Z := by
  rw [admL, if_neg h]
  exact K
theorem Kept.advance (K : Kept M Z) (t v : Int) : Kept (advL M t v) Z := by
  unfold advL
  split
  · exact K
  · exact ⟨by rw [live_over]; exact K.perm, K.right, K.one⟩
/-- One was given back: whoever finds it in the list takes it out. -/
theorem Kept.release (K : Kept M Z) {q v t : Int} {i : Nat} (hf : findO M q = some i) :
    (∃ j, j < Z.length ∧ (hat Z j).1 = q) ∧ ∀ j, j < Z.length → (hat Z j).1 = q → Kept (relL M q v t) (Z.eraseIdx j) := by
  obtain ⟨hi, h1⟩ := findO_at hf
  constructor
  · obtain ⟨z, hz, h2⟩ := (K.mem q).2 ⟨eat M i, List.mem_of_getElem? (eat_some hi), h1⟩
    obtain ⟨j, hj, e⟩ := List.getElem_of_mem hz
    refine ⟨j, hj, ?_⟩
    have := hat_some hj
    rw [List.getElem?_eq_getElem hj, e] at this
    rw [← Option.some.inj this]
    exact h2
  · intro j hj hq
    obtain ⟨h2, h3⟩ := is_iff.1 h1
    have hr : relL M q v t = over (mark M i v) t := by rw [relL, hf]
    have hl1 : live M = live (M.take i) ++ (q, (eat M i).sh) :: live (M.drop (i + 1)) := by
      conv => lhs; rw [part_at hi, live_app, live_cons, h3]
      rw [h2]
      rfl
    have hl2 : live (relL M q v t) = live (M.take i) ++ live (M.drop (i + 1)) := by
      rw [hr, live_over, mark_part hi, live_app, live_cons]
      rfl
    have hZ : Z.Perm (hat Z j :: Z.eraseIdx j) := by
      have h4 := List.perm_middle (a := hat Z j) (l₁ := Z.take j) (l₂ := Z.drop (j + 1))
      rw [List.eraseIdx_eq_take_drop_succ]
      refine List.Perm.trans ?_ h4
      conv => lhs; rw [← List.take_append_drop j Z, List.drop_eq_getElem_cons hj]
      have h5 := hat_some hj
      rw [List.getElem?_eq_getElem hj] at h5
      rw [Option.some.inj h5]
    have hp := (hZ.map Hv.sh).symm.trans K.perm
    rw [List.map_cons, hl1] at hp
    have hp2 : ((hat Z j).sh :: (Z.eraseIdx j).map Hv.sh).Perm ((q, (eat M i).sh) :: (live (M.take i) ++ live (M.drop (i + 1)))) := hp.trans List.perm_middle
    have hone : (((hat Z j).sh :: (Z.eraseIdx j).map Hv.sh).map (·.1)).Nodup := by
      have h6 : (Z.map (·.1)).Perm (((hat Z j).sh :: (Z.eraseIdx j).map Hv.sh).map (·.1)) := by
        have h7 := hZ.map (·.1)
        refine h7.trans ?_
        simp only [List.map_cons, List.map_map]
        exact List.Perm.of_eq rfl
      exact h6.nodup_iff.1 K.one
    have hsame : (hat Z j).sh = (q, (eat M i).sh) := by
      have h8 := hp2.mem_iff.2 (List.mem_cons_self (a := (q, (eat M i).sh)))
      rcases List.mem_cons.1 h8 with h9 | h9
      · exact h9.symm
      · exfalso
        rw [List.map_cons, List.nodup_cons] at hone
        refine hone.1 ?_
        have h10 : q ∈ ((Z.eraseIdx j).map Hv.sh).map (fun p : Int × Int => p.1) := List.mem_map.2 ⟨_, h9, rfl⟩
        have h11 : (hat Z j).sh.1 = q := hq
        rw [h11]
        exact h10
    rw [hsame] at hp2
    refine ⟨by rw [hl2]; exact List.Perm.cons_inv hp2, fun z hz => K.right z (hZ.mem_iff.2 (List.mem_cons_of_mem _ hz)), ?_⟩
    have h12 := hZ.map (·.1)
    have h13 := h12.nodup_iff.1 K.one
    rw [List.map_cons, List.nodup_cons] at h13
    exact h13.2
/-- The shares of those who have one, summed up. -/
theorem hsum_step {k : Nat} (h : k < Z.length) : hsum (Z.take (k + 1)) = hsum (Z.take k) + shr (hat Z k).2.1 (hat Z k).2.2 := by
  rw [List.take_succ_eq_append_getElem h]
  have h5 := hat_some h
  rw [List.getElem?_eq_getElem h] at h5
  rw [Option.some.inj h5]
  simp [hsum]
theorem hsum_low (h : ∀ z, z ∈ Z → rightB z.2.1 z.2.2 = true) (k : Nat) : 0 ≤ hsum (Z.take k) ∧ hsum (Z.take k) ≤ hsum Z := by
  have low : ∀ Y : List Hv, (∀ z, z ∈ Y → rightB z.2.1 z.2.2 = true) → 0 ≤ hsum Y := fun Y hY => by
    induction Y with
    | nil => simp [hsum]
    | cons a l ih =>
      have h1 := ih fun z hz => hY z (List.mem_cons_of_mem _ hz)
      have h2 := shr_bd (hY a (List.mem_cons_self ..))
      simp only [hsum, List.map_cons, List.sum_cons] at *
      omega
  have h1 : hsum Z = hsum (Z.take k) + hsum (Z.drop k) := by
    unfold hsum
    rw [← List.sum_append, ← List.map_append, List.take_append_drop]
  have h2 := low (Z.take k) fun z hz => h z (List.mem_of_mem_take hz)
  have h3 := low (Z.drop k) fun z hz => h z (List.mem_of_mem_drop hz)
  omega
end
end Go.Proofs.Ytcofehmgnpmecaa.Ap
