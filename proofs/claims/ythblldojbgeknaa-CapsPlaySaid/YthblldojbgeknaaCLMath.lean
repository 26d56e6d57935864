/-
  What holds within the law CapsLess: one capability that comes of none, all others come of it and have no right that it hasn't.
-/
import Derived.Test.YthblldojbgeknaaCBits
import Derived.Test.YthblldojbgeknaaCWalksG
namespace Go.Proofs.Ythblldojbgeknaa

def rootN (o : Int) (r : Nat) : Nd := ⟨1, 0, 0, 0, 1, o, r⟩
structure LInv (F : Fo) (o : Int) (r : Nat) : Prop where
  wf : Wf F
  list : ∃ M, F.l = rootN o r :: M ∧ ∀ x ∈ M, x.k = 1 ∧ x.o = o ∧ r &&& x.r = x.r ∧ ∃ p ∈ F.l, p.id = x.up
theorem LInv.low {F : Fo} {o : Int} {r : Nat} (H : LInv F o r) : r < 16 := by
  obtain ⟨M, hM, -⟩ := H.list
  have := H.wf.rng (rootN o r) (by rw [hM]; simp)
  exact this.2.2.1
theorem LInv.all {F : Fo} {o : Int} {r : Nat} (H : LInv F o r) : ∀ x ∈ F.l, x.k = 1 ∧ x.o = o ∧ r &&& x.r = x.r ∧ x.r < 16 := by
  obtain ⟨M, hM, h⟩ := H.list
  intro x hx
  have hr := (H.wf.rng x hx).2.2.1
  rw [hM] at hx
  rcases List.mem_cons.1 hx with rfl | hx
  · exact ⟨rfl, rfl, Nat.and_self r, hr⟩
  · exact ⟨(h x hx).1, (h x hx).2.1, (h x hx).2.2.1, hr⟩
theorem linv_start {o : Int} {r : Nat} (hr : r < 16) : LInv ⟨[rootN o r], 1⟩ o r := by
  refine ⟨⟨fun x hx => ?_, by simp, by simp [Apart]⟩, ⟨[], rfl, fun x hx => by simp at hx⟩⟩
  simp only [List.mem_cons, List.not_mem_nil, or_false] at hx
  subst hx
  simp only [rootN]
  omega
theorem linv_put {F : Fo} {o : Int} {r : Nat} (H : LInv F o r) (t s : Int) {x : Nd} (hx : x ∈ F.l) {Q : Nat} (hQ : x.r &&& Q = Q) (h16 : Q < 16) : LInv (putF F t s x.k x.o Q x.id) o r := by
  have hw := H.wf.put t s x.k x.o h16 (H.wf.rng x hx).2.2.2.2.1
  refine ⟨hw, ?_⟩
  unfold putF
  by_cases he : putE F t s = 0
  · rw [if_pos he]
    obtain ⟨M, hM, h⟩ := H.list
    obtain ⟨a1, a2, a3, a4⟩ := H.all x hx
    refine ⟨M ++ [⟨F.p + 1, x.id, t.toNat, s.toNat, x.k, x.o, Q⟩], by rw [hM]; rfl, fun y hy => ?_⟩
    rcases List.mem_append.1 hy with hy | hy
    · obtain ⟨b1, b2, b3, p, hp, e⟩ := h y hy
      exact ⟨b1, b2, b3, p, List.mem_append_left _ hp, e⟩
    · simp only [List.mem_cons, List.not_mem_nil, or_false] at hy
      subst hy
      refine ⟨a1, a2, ?_, x, List.mem_append_left _ hx, rfl⟩
      show r &&& Q = Q
      rw [← hQ, ← Nat.and_assoc, a3]
  · rw [if_neg he]
    exact H.list
theorem linv_br {F : Fo} {o : Int} {r : Nat} (H : LInv F o r) (e f t s : Int) {R n : Int} (hR : R < 9223372036854775808) (hn : n = 0 ∨ n = 4) : LInv (brF F e f t s R n) o r := by
  unfold brF
  cases hx : fd F.l e f with
  | none => exact H
  | some x =>
    dsimp only
    by_cases h0 : R < 0
    · rw [if_pos h0]
      exact H
    · rw [if_neg h0]
      by_cases hm : mayB x.r (orB R n) = true
      · rw [if_pos hm]
        obtain ⟨Q, rfl⟩ : ∃ Q : Nat, R = Q := ⟨R.toNat, by omega⟩
        obtain ⟨m, rfl, hm16⟩ : ∃ m : Nat, n = m ∧ m < 16 := by
          rcases hn with rfl | rfl
          · exact ⟨0, rfl, by omega⟩
          · exact ⟨4, rfl, by omega⟩
        have hxr := (H.wf.rng x (fd_mem hx).1).2.2.1
        rw [may_or hxr (by omega) hm16, Bool.and_eq_true] at hm
        obtain ⟨h1, h2⟩ := may_lt hxr (by omega) hm.1
        exact linv_put H t s (fd_mem hx).1 h1 h2
      · rw [if_neg hm]
        exact H
theorem brF_p (F : Fo) (e f t s R n : Int) : (brF F e f t s R n).p ≤ F.p + 1 := by
  unfold brF
  split
  · omega
  · split
    · omega
    · split
      · exact putF_p _ _ _ _ _ _ _
      · omega
theorem kept_up {F : Fo} (hw : Wf F) {q : Nd → Bool} {y p : Nd} (hy : y ∈ (takeGo q [] F.l).1) (hp : p ∈ F.l) (e : p.id = y.up) : p ∈ (takeGo q [] F.l).1 := by
  obtain ⟨h1, h2, h3, h4⟩ := takeGo_kept q [] F.l y hw.rise hy
  rcases takeGo_mem q [] F.l p hp with h | h
  · exact h
  · have := (hw.rng y h1).2.2.2.2.2
    exact absurd e (h4 p h (by omega))
theorem linv_tk {F : Fo} {o : Int} {r : Nat} (H : LInv F o r) {x : Nd} (hx : x ∈ F.l) : LInv (tkF (ofB x) F) o r := by
  have hw := H.wf.tk (ofB x)
  refine ⟨hw, ?_⟩
  obtain ⟨M, hM, h⟩ := H.list
  have hid := (H.wf.rng x hx).2.2.2.1
  have e1 : (takeGo (ofB x) [] F.l).1 = rootN o r :: (takeGo (ofB x) [] M).1 := by
    rw [hM, takeGo, if_neg]
    rw [show ofB x (rootN o r) = false from decide_eq_false (by show ¬ 0 = x.id; omega)]
    simp
  refine ⟨(takeGo (ofB x) [] M).1, e1, fun y hy => ?_⟩
  have hyM : y ∈ M := (takeGo_sub (ofB x) [] M).subset hy
  obtain ⟨b1, b2, b3, p, hp, e⟩ := h y hyM
  exact ⟨b1, b2, b3, p, kept_up H.wf (q := ofB x) (by rw [e1]; exact List.mem_cons_of_mem _ hy) hp e, e⟩
theorem linv_end {F : Fo} {o : Int} {r : Nat} (H : LInv F o r) : (tkF (ofB (rootN o r)) F).l = [rootN o r] := by
  obtain ⟨M, hM, h⟩ := H.list
  have e1 : (takeGo (ofB (rootN o r)) [] F.l).1 = rootN o r :: (takeGo (ofB (rootN o r)) [] M).1 := by
    rw [hM, takeGo, if_neg]
    simp [ofB, rootN]
  have hno : ∀ n, ∀ y ∈ (takeGo (ofB (rootN o r)) [] F.l).1, y ∈ M → y.id = n → False := by
    intro n
    induction n using Nat.strongRecOn with
    | _ n ih =>
      intro y hy hyM hn
      obtain ⟨h1, h2, -, -⟩ := takeGo_kept (ofB (rootN o r)) [] F.l y H.wf.rise hy
      obtain ⟨b1, b2, b3, p, hp, e⟩ := h y hyM
      have hpk := kept_up H.wf hy hp e
      have hup := (H.wf.rng y h1).2.2.2.2.2
      rw [hM] at hp
      rcases List.mem_cons.1 hp with rfl | hp
      · simp only [ofB, decide_eq_false_iff_not] at h2
        exact h2 e.symm
      · exact ih p.id (by omega) p hpk hp rfl
  show (takeGo (ofB (rootN o r)) [] F.l).1 = _
  rw [e1]
  congr 1
  refine List.eq_nil_iff_forall_not_mem.2 fun y hy => ?_
  exact hno _ y (by rw [e1]; exact List.mem_cons_of_mem _ hy) ((takeGo_sub _ [] M).subset hy) rfl
theorem linv_root {F : Fo} {o : Int} {r : Nat} (H : LInv F o r) : fd F.l 0 0 = some (rootN o r) := by
  obtain ⟨M, hM, h⟩ := H.list
  rw [hM]
  simp [fd, Nd.on, rootN]
/-- Rights found are among those. -/
theorem findGo_sub {r : Nat} (hr : r < 16) (k o : Int) : ∀ (L : List Nd) (a : Nat), a < 16 → r &&& a = a → (∀ x ∈ L, r &&& x.r = x.r ∧ x.r < 16) → ∃ v : Nat, findGo k o a L = (v : Int) ∧ v < 16 ∧ r &&& v = v
  | [], a, ha, hs, _ => ⟨a, rfl, ha, hs⟩
  | x :: L, a, ha, hs, h => by
    obtain ⟨x1, x2⟩ := h x (List.mem_cons_self ..)
    have h3 : ∀ y ∈ L, r &&& y.r = y.r ∧ y.r < 16 := fun y hy => h y (List.mem_cons_of_mem _ hy)
    show ∃ v : Nat, findGo k o (if x.to_ k o = true then bits .or .i64 (a : Nat) x.r else (a : Nat)) L = (v : Int) ∧ _
    by_cases ht : x.to_ k o = true
    · rw [if_pos ht, bits_or_nat a x.r (by omega) (by omega)]
      have h4 : a ||| x.r < 16 := Nat.or_lt_two_pow (n := 4) ha x2
      exact findGo_sub hr k o L (a ||| x.r) h4 ((and_or_iff r a x.r).2 ⟨hs, x1⟩) h3
    · rw [if_neg ht]
      exact findGo_sub hr k o L a ha hs h3
theorem linv_find {F : Fo} {o : Int} {r : Nat} (H : LInv F o r) (e : Int) : bits .andNot .i64 (findV F.l e 1 o) (r : Nat) = 0 := by
  obtain ⟨v, hv, h16, hs⟩ := findGo_sub H.low 1 o (rowN F.l e) 0 (by omega) (Nat.and_zero r) (fun x hx => by
    have := H.all x ((row_mem H.wf).1 hx).1
    exact ⟨this.2.2.1, this.2.2.2⟩)
  have : findV F.l e 1 o = (v : Nat) := hv
  rw [this]
  exact andnot_none ⟨v, h16⟩ ⟨r, H.low⟩ hs
theorem row_sole (o : Int) (r : Nat) : rowN [rootN o r] 0 = [rootN o r] := rfl
theorem row_else (o : Int) (r : Nat) {e : Nat} (he : 1 ≤ e) : rowN [rootN o r] (e : Nat) = [] := by
  refine List.eq_nil_iff_forall_not_mem.2 fun y hy => ?_
  obtain ⟨s, -, h⟩ := List.mem_filterMap.1 hy
  obtain ⟨h1, h2, -⟩ := fd_mem h
  simp only [List.mem_cons, List.not_mem_nil, or_false] at h1
  subst h1
  simp only [rootN] at h2
  omega
theorem find_sole (o : Int) {r : Nat} (hr : r < 16) : findV [rootN o r] 0 1 o = (r : Nat) := by
  unfold findV
  rw [row_sole]
  show (if (rootN o r).to_ 1 o = true then bits .or .i64 0 r else 0) = _
  rw [if_pos (by simp [Nd.to_, rootN])]
  have := bits_or_nat 0 r (by omega) (by omega)
  simpa using this
theorem find_else (o : Int) (r : Nat) {e : Nat} (he : 1 ≤ e) : findV [rootN o r] (e : Nat) 1 o = 0 := by
  unfold findV
  rw [row_else o r he]
  rfl
end Go.Proofs.Ythblldojbgeknaa
