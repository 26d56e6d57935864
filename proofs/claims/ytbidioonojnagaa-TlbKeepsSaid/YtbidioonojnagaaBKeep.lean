/-
  What TlbKeeps rests on, in plain lists: one translation stays, with at most so many behind it as others were loaded or found.
-/
import Derived.Test.YtbidioonojnagaaBMath
namespace Go.Proofs.Ytbidioonojnagaa

def En.two (x y : En) : Prop := ¬ (x.en = y.en ∧ x.pg = y.pg)
theorem of_iff {x : En} {e p : Int} : x.of_ e p = true ↔ x.en = e ∧ x.pg = p := by simp [En.of_]
theorem of_not {x : En} {e p : Int} : x.of_ e p = false ↔ ¬ (x.en = e ∧ x.pg = p) := by
  rw [← of_iff, Bool.not_eq_true]
/-- No page is there twice. -/
def Sole (L : List En) : Prop := L.Pairwise En.two
/-- y is there; behind it are at most n. -/
def Inv (y : En) (n : Nat) (L : List En) : Prop := Sole L ∧ L.length ≤ 16 ∧ ∃ A B, L = A ++ y :: B ∧ B.length ≤ n

theorem Sole.erase {L : List En} (h : Sole L) (k : Nat) : Sole (L.eraseIdx k) := List.Pairwise.sublist (List.eraseIdx_sublist L k) h
theorem sole_add {L : List En} {x : En} (h : Sole L) (hx : ∀ z ∈ L, z.two x) : Sole (L ++ [x]) := by
  unfold Sole
  rw [List.pairwise_append]
  refine ⟨h, List.pairwise_singleton _ _, fun a ha b hb => ?_⟩
  rw [List.mem_singleton] at hb
  subst hb
  exact hx a ha
/-- Behind the first one of a page there is none of it any more. -/
theorem erase_none {L : List En} {e p : Int} (h : Sole L) (hk : fs L e p < L.length) : ∀ z ∈ L.eraseIdx (fs L e p), z.of_ e p = false := by
  obtain ⟨x, hx, ho⟩ := fs_at L e p hk
  intro z hz
  obtain ⟨j, hj⟩ := List.mem_iff_getElem?.1 hz
  rw [of_iff] at ho
  rw [List.getElem?_eraseIdx] at hj
  have hp := List.pairwise_iff_getElem.1 h
  rw [of_not]
  rintro ⟨h1, h2⟩
  split at hj
  · rename_i hlt
    obtain ⟨q, hq, hqo⟩ := fs_lt L e p j hlt
    rw [hj, Option.some.injEq] at hq
    subst hq
    rw [of_not] at hqo
    exact hqo ⟨h1, h2⟩
  · rename_i hge
    obtain ⟨h3, h4⟩ := List.getElem?_eq_some_iff.1 hj
    obtain ⟨h5, h6⟩ := List.getElem?_eq_some_iff.1 hx
    have := hp (fs L e p) (j + 1) h5 h3 (by omega)
    rw [h6, h4] at this
    exact this ⟨ho.1.trans h1.symm, ho.2.trans h2.symm⟩
theorem none_two {L : List En} {x : En} (h : ∀ z ∈ L, z.of_ x.en x.pg = false) : ∀ z ∈ L, z.two x := fun z hz => of_not.1 (h z hz)
theorem miss_none {L : List En} {e p : Int} (h : ¬ fs L e p < L.length) : ∀ z ∈ L, z.of_ e p = false := fun z hz => by
  obtain ⟨j, hj⟩ := List.mem_iff_getElem?.1 hz
  have hlt := (List.getElem?_eq_some_iff.1 hj).1
  obtain ⟨q, hq, hqo⟩ := fs_lt L e p j (by omega)
  rw [hj, Option.some.injEq] at hq
  subst hq
  exact hqo

/-- One of another page moved behind all others, or came new, or went. -/
theorem split_erase {A B : List En} {y : En} {e p : Int} (hy : y.of_ e p = false) (hk : fs (A ++ y :: B) e p < (A ++ y :: B).length) :
    ∃ A' B', (A ++ y :: B).eraseIdx (fs (A ++ y :: B) e p) = A' ++ y :: B' ∧ ((∃ z ∈ A, z.of_ e p = true) ∧ B' = B ∨ (A' = A ∧ (∀ z ∈ A, z.of_ e p = false) ∧ B'.length + 1 = B.length)) := by
  by_cases hA : fs A e p < A.length
  · rw [fs_left A _ e p hA, List.eraseIdx_append_of_lt_length hA]
    obtain ⟨x, hx, ho⟩ := fs_at A e p hA
    exact ⟨_, B, rfl, Or.inl ⟨⟨x, List.mem_of_getElem? hx, ho⟩, rfl⟩⟩
  · have hn := miss_none hA
    rw [fs_app A _ e p hn] at hk ⊢
    have e1 : fs (y :: B) e p = fs B e p + 1 := by simp [fs, hy]
    rw [e1] at hk ⊢
    rw [List.eraseIdx_append_of_length_le (by omega)]
    have e2 : A.length + (fs B e p + 1) - A.length = fs B e p + 1 := by omega
    rw [e2, List.eraseIdx_cons_succ]
    simp only [List.length_append, List.length_cons] at hk
    refine ⟨A, _, rfl, Or.inr ⟨rfl, hn, ?_⟩⟩
    rw [List.length_eraseIdx]
    split <;> omega

theorem erase_len {L : List En} {k : Nat} (h : k < L.length) : (L.eraseIdx k).length + 1 = L.length := by
  rw [List.length_eraseIdx, if_pos h]
  omega
/-- Load of another page. -/
theorem inv_load {y x : En} {n : Nat} {L : List En} (H : Inv y n L) (hn : n ≤ 14) (hx : x.right = true) (hy : y.of_ x.en x.pg = false) :
    Sole (loadL L x) ∧ (loadL L x).length ≤ 16 ∧ ∃ A B, loadL L x = A ++ y :: B ++ [x] ∧ B.length ≤ n ∧ ∀ z ∈ A ++ y :: B, z.of_ x.en x.pg = false := by
  obtain ⟨hs, hl, A, B, rfl, hB⟩ := H
  unfold loadL goes
  rw [if_pos hx, if_pos hx]
  by_cases h1 : fs (A ++ y :: B) x.en x.pg < (A ++ y :: B).length
  · rw [if_pos h1]
    dsimp only
    have hno := erase_none hs h1
    obtain ⟨A', B', he, hc⟩ := split_erase hy h1
    have hle := erase_len h1
    refine ⟨sole_add (hs.erase _) (none_two hno), by rw [List.length_append, List.length_singleton]; omega, A', B', by rw [he], ?_, ?_⟩
    · rcases hc with ⟨_, rfl⟩ | ⟨_, _, h2⟩
      · exact hB
      · omega
    · rw [he] at hno
      exact hno
  · have hno := miss_none h1
    rw [if_neg h1]
    by_cases h2 : (A ++ y :: B).length = 16
    · rw [if_pos h2]
      dsimp only
      simp only [List.length_append, List.length_cons] at h2
      obtain ⟨a, A', rfl⟩ : ∃ a A', A = a :: A' := by
        cases A with
        | nil => simp at h2; omega
        | cons a A' => exact ⟨a, A', rfl⟩
      have h3 := hs.erase 0
      simp only [List.cons_append, List.eraseIdx_cons_zero] at h3 ⊢
      have hno2 : ∀ z ∈ A' ++ y :: B, z.of_ x.en x.pg = false := fun z hz => hno z (List.mem_cons_of_mem _ hz)
      refine ⟨sole_add h3 (none_two hno2), ?_, A', B, rfl, hB, hno2⟩
      simp only [List.length_append, List.length_cons, List.length_nil] at *
      omega
    · rw [if_neg h2]
      dsimp only
      refine ⟨sole_add hs (none_two hno), ?_, A, B, rfl, hB, hno⟩
      rw [List.length_append, List.length_singleton]
      omega
theorem inv_load_look {y x : En} {n : Nat} {L : List En} (H : Inv y n L) (hn : n ≤ 14) (hy : y.of_ x.en x.pg = false) :
    Inv y (n + 1) (lookL (loadL L x) x.en x.pg false) := by
  by_cases hx : x.right = true
  · obtain ⟨hs, hl, A, B, he, hB, hno⟩ := inv_load H hn hx hy
    have hfs : fs (loadL L x) x.en x.pg = (A ++ y :: B).length := by
      rw [he, fs_app _ _ _ _ hno]
      simp [fs, En.of_]
    have hlt : fs (loadL L x) x.en x.pg < (loadL L x).length := by
      rw [hfs, he]
      simp
    have hE : lookE (loadL L x) x.en x.pg false = 0 := by
      unfold lookE
      rw [if_pos hlt]
      simp
    have hL : lookL (loadL L x) x.en x.pg false = loadL L x := by
      unfold lookL
      rw [if_pos hE, hfs, he, List.eraseIdx_append_of_length_le (Nat.le_refl _), Nat.sub_self]
      simp [enAt]
    rw [hL]
    exact ⟨hs, hl, A, B ++ [x], by rw [he, List.append_assoc]; rfl, by rw [List.length_append, List.length_singleton]; omega⟩
  · have hL : loadL L x = L := by
      unfold loadL
      rw [if_neg hx]
    rw [hL]
    obtain ⟨hs, hl, A, B, rfl, hB⟩ := H
    unfold lookL
    by_cases h0 : lookE (A ++ y :: B) x.en x.pg false = 0
    · rw [if_pos h0]
      have hlt : fs (A ++ y :: B) x.en x.pg < (A ++ y :: B).length := by
        unfold lookE at h0
        split at h0
        · assumption
        · cases h0
      have hno := erase_none hs hlt
      have hle := erase_len hlt
      obtain ⟨A', B', he, hc⟩ := split_erase hy hlt
      obtain ⟨z, hz, hzo⟩ := fs_at _ _ _ hlt
      rw [enAt_in hz]
      rw [of_iff] at hzo
      refine ⟨sole_add (hs.erase _) (none_two (by rw [hzo.1, hzo.2]; exact hno)), by rw [List.length_append, List.length_singleton]; omega, A', B' ++ [z], by rw [he, List.append_assoc]; rfl, ?_⟩
      rw [List.length_append, List.length_singleton]
      rcases hc with ⟨_, rfl⟩ | ⟨_, _, h2⟩ <;> omega
    · rw [if_neg h0]
      exact ⟨hs, hl, A, B, rfl, by omega⟩
/-- It is found. -/
theorem inv_found {y : En} {n : Nat} {L : List En} (H : Inv y n L) : lookN L y.en y.pg y.wr = y.fr ∧ lookE L y.en y.pg y.wr = 0 := by
  obtain ⟨hs, hl, A, B, rfl, hB⟩ := H
  have hno : ∀ z ∈ A, z.of_ y.en y.pg = false := fun z hz => by
    unfold Sole at hs
    rw [List.pairwise_append] at hs
    exact of_not.2 (hs.2.2 z hz y (List.mem_cons_self))
  have hf : fs (A ++ y :: B) y.en y.pg = A.length := by
    rw [fs_app _ _ _ _ hno]
    simp [fs, En.of_]
  have hat : enAt (A ++ y :: B) A.length = y := enAt_in (by simp)
  have hE : lookE (A ++ y :: B) y.en y.pg y.wr = 0 := by
    unfold lookE
    rw [hf, if_pos (by simp), hat]
    cases y.wr <;> rfl
  refine ⟨?_, hE⟩
  unfold lookN
  rw [if_pos hE, hf, hat]
theorem inv_start {y : En} (h : y.right = true) : Inv y 0 (loadL [] y) := by
  have : loadL [] y = [y] := by
    unfold loadL goes
    rw [if_pos h, if_pos h]
    simp [fs]
  rw [this]
  exact ⟨List.pairwise_singleton _ _, by simp, [], [], rfl, by simp⟩
end Go.Proofs.Ytbidioonojnagaa
