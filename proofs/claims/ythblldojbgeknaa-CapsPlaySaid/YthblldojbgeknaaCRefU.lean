/-
  The document's calls, said of what holds of both sides.
-/
import Derived.Test.YthblldojbgeknaaCAre
import Derived.Test.YthblldojbgeknaaCRefE
namespace Go.Proofs.Ythblldojbgeknaa
open Go.ChangeShapes Go.WideShapes Go.ChangeAt Go.RowKit

/-- A list is handed back, with an error. -/
def ActP (S : Nat → Prop) (F' : Fo) (E : Int) (w : World) (y : Ending) (w' : World) : Prop := ∃ D' A n c, DInv D' ∧ D'.fo = F' ∧ y = .returned (.tuple #[.agg #[.slice A n c, .int .i64 (D'.p : Nat)], .int .i64 E]) ∧ DocIs (Fresh S w w') w' A n c D'.l ∧ Below w.heap.size w w'
/-- What went, too. -/
def GoneP (S : Nat → Prop) (F' : Fo) (Wl : List Nd) (E : Int) (w : World) (y : Ending) (w' : World) : Prop := ∃ D' L A n c G m cg, DInv D' ∧ D'.fo = F' ∧ L.map Rn.nd = Wl ∧ y = .returned (.tuple #[.agg #[.slice A n c, .int .i64 (D'.p : Nat)], .slice G m cg, .int .i64 E]) ∧ DocIs (Fresh S w w') w' A n c D'.l ∧ DocIs (Fresh S w w') w' G m cg L ∧ Below w.heap.size w w'
/-- What went, no error. -/
def GoneQ (S : Nat → Prop) (F' : Fo) (Wl : List Nd) (w : World) (y : Ending) (w' : World) : Prop := ∃ D' L A n c G m cg, DInv D' ∧ D'.fo = F' ∧ L.map Rn.nd = Wl ∧ y = .returned (.tuple #[.agg #[.slice A n c, .int .i64 (D'.p : Nat)], .slice G m cg]) ∧ DocIs (Fresh S w w') w' A n c D'.l ∧ DocIs (Fresh S w w') w' G m cg L ∧ Below w.heap.size w w'
section
variable {S : Nat → Prop} {w : World} {A : Option Addr} {n c : Nat} {D : Dc}
theorem act_of {F' : Fo} {E : Int} {D' : Dc} {y : Ending} {w' : World} (h : DocE S D' E w y w') (hi : DInv D') (hf : D'.fo = F') : ActP S F' E w y w' := by
  obtain ⟨u, rfl, A, n, c, rfl, h1, h2⟩ := h
  exact ⟨D', A, n, c, hi, hf, rfl, h1, h2⟩
theorem may_nought {r : Nat} (hr : r < 16) : mayB r ((0 : Nat) : Int) = true := by
  rw [may_nat hr (by omega)]
  simp
theorem DInv.few (H : DInv D) (hp : D.p ≤ 900) (K : DocIs S w A n c D.l) : n ≤ 900 := by
  have := K.len
  have := H.len
  omega
theorem rpass_u (H : DInv D) (K : DocIs S w A n c D.l) (hS : ∀ k, S k → k < w.heap.size) (hp : D.p ≤ 900) (e f t s : Int) {R : Int} (hR : R < 9223372036854775808) (give : Bool) {N : Int} (hN : N = if give = true then 4 else 0) :
    Calls Try.prog 22 #[.agg #[.slice A n c, .int .i64 (D.p : Nat)], .int .i64 e, .int .i64 f, .int .i64 t, .int .i64 s, .int .i64 R, .bool give] w (ActP S (brF D.fo e f t s R N) (brE D.fo e f t s R N) w) := by
  have hn := H.few hp K
  unfold brF brE
  cases hf : fd D.fo.l e f with
  | none => exact (rpass_none K hS hn hf t s R give).mono fun y w' h => act_of h H rfl
  | some y =>
    obtain ⟨i, x, hi, hx, rfl⟩ := at_some (M := D.l) hf
    have hxm := List.mem_of_getElem? hx
    have hg := H.rng hxm
    have hof : x.of.length ≤ 900 := by
      have := H.short x hxm
      omega
    have hr16 : x.r < 16 := hg.2.2.1
    dsimp only
    by_cases h0 : R < 0
    · rw [if_pos h0, if_pos h0]
      exact (rpass_low K hS hn hi hx t s h0 give).mono fun y w' h => act_of h H rfl
    · rw [if_neg h0, if_neg h0]
      obtain ⟨Q, rfl⟩ : ∃ Q : Nat, R = Q := ⟨R.toNat, by omega⟩
      have hQ : Q < 9223372036854775808 := by omega
      have hput : ∀ v, mayB x.r Q = true → (rputD D t s x.k x.o Q (x.of ++ [x.id]) v).fo = putF D.fo t s x.nd.k x.nd.o ((Q : Int)).toNat x.nd.id ∧ DInv (rputD D t s x.k x.o Q (x.of ++ [x.id]) v) := fun v hm => by
        refine ⟨?_, H.put t s x.k x.o (may_lt hr16 hQ hm).2 v (Or.inr ⟨x, hxm, rfl, rfl, rfl⟩)⟩
        rw [rputD_fo]
        simp [Rn.nd]
      cases give with
      | false =>
        obtain rfl : N = ((0 : Nat) : Int) := by simpa using hN
        have hmm : mayB x.nd.r (orB Q ((0 : Nat) : Int)) = mayB x.r Q := by
          show mayB x.r _ = _
          rw [may_or hr16 hQ (by omega), may_nought hr16, Bool.and_true]
        rw [hmm]
        cases hm : mayB x.r Q with
        | false =>
          rw [if_neg (by simp), if_neg (by simp)]
          exact (rpass_not K hS hn hi hx t s hQ hr16 hm false).mono fun y w' h => act_of h H rfl
        | true =>
          rw [if_pos rfl, if_pos rfl]
          refine (rpass_derive K hS hn hi hx hof t s (by omega) hQ hr16 hm).mono fun y w' h => ?_
          obtain ⟨v, h⟩ := h
          exact act_of h (hput v hm).2 (hput v hm).1
      | true =>
        obtain rfl : N = ((4 : Nat) : Int) := by simpa using hN
        have hmm : mayB x.nd.r (orB Q ((4 : Nat) : Int)) = (mayB x.r Q && mayB x.r 4) := by
          show mayB x.r _ = _
          rw [may_or hr16 hQ (by omega)]
          rfl
        rw [hmm]
        cases hm : mayB x.r Q with
        | false =>
          rw [if_neg (by simp), if_neg (by simp)]
          exact (rpass_not K hS hn hi hx t s hQ hr16 hm true).mono fun y w' h => act_of h H rfl
        | true =>
          cases hm4 : mayB x.r 4 with
          | false =>
            rw [if_neg (by simp), if_neg (by simp)]
            exact (rpass_no4 K hS hn hi hx t s hQ hr16 hm hm4).mono fun y w' h => act_of h H rfl
          | true =>
            rw [if_pos (by rfl), if_pos (by rfl)]
            refine (rpass_give K hS hn hi hx hof t s (by omega) hQ hr16 hm hm4).mono fun y w' h => ?_
            obtain ⟨v, h⟩ := h
            exact act_of h (hput v hm).2 (hput v hm).1
theorem rroot_u (H : DInv D) (K : DocIs S w A n c D.l) (hS : ∀ k, S k → k < w.heap.size) (hp : D.p ≤ 900) (e s k o r : Int) :
    Calls Try.prog 28 #[.agg #[.slice A n c, .int .i64 (D.p : Nat)], .int .i64 e, .int .i64 s, .agg #[.int .i64 k, .int .i64 o, .int .i64 r]] w (ActP S (rootF D.fo e s k o r) (rootE D.fo e s k o r) w) := by
  refine (rroot_any K hS (H.few hp K) (by omega) e s k o r).mono fun y w' h => act_of h ?_ ?_
  · unfold rrootD
    by_cases hr : rightB k o r = true
    · rw [if_pos hr]
      refine H.put e s k o ?_ _ (Or.inl rfl)
      simp [rightB] at hr
      omega
    · rw [if_neg hr]
      exact H
  · unfold rrootD rootF
    by_cases hr : rightB k o r = true
    · rw [if_pos hr, if_pos hr, rputD_fo]
      rfl
    · rw [if_neg hr, if_neg hr]
theorem gone_of {F' : Fo} {Wl : List Nd} {E : Int} {q : Rn → Bool} {y : Ending} {w' : World} (h : DocS S D.l D.p q E w y w') (hf : (D.cut q).fo = F' ∧ (D.l.filter q).map Rn.nd = Wl ∧ DInv (D.cut q)) : GoneP S F' Wl E w y w' := by
  obtain ⟨u, g, rfl, A, n, c, G, m, cg, rfl, rfl, h1, h2, h3⟩ := h
  exact ⟨D.cut q, _, A, n, c, G, m, cg, hf.2.2, hf.1, hf.2.1, rfl, h1, h2, h3⟩
theorem nothing_gone (H : DInv D) : (D.cut fun _ => false).fo = D.fo ∧ (D.l.filter fun _ => false).map Rn.nd = [] ∧ DInv (D.cut fun _ => false) := by
  have h1 : (D.l.filter fun x => !(fun _ => false) x) = D.l := List.filter_eq_self.2 fun _ _ => rfl
  have h2 : D.cut (fun _ => false) = D := by
    rw [Dc.cut, h1]
  rw [h2]
  refine ⟨rfl, ?_, H⟩
  rw [show (D.l.filter fun _ => false) = [] from List.filter_eq_nil_iff.2 fun _ _ h => by cases h]
  rfl
theorem rrevoke_u (H : DInv D) (K : DocIs S w A n c D.l) (hS : ∀ k, S k → k < w.heap.size) (hp : D.p ≤ 900) (e f : Int) :
    Calls Try.prog 23 #[.agg #[.slice A n c, .int .i64 (D.p : Nat)], .int .i64 e, .int .i64 f] w (fun y w' => match fd D.fo.l e f with
      | none => GoneP S D.fo [] 23 w y w'
      | some x => if mayB x.r 8 = true then GoneP S (tkF (ofB x) D.fo) (tkW (ofB x) D.fo) 0 w y w' else GoneP S D.fo [] 23 w y w') := by
  have hn := H.few hp K
  have hof : ∀ x ∈ D.l, x.of.length ≤ 1000000 := fun x hx => by
    have h1 := H.short x hx
    have h2 := (H.rng hx).2.2.2.2.1
    omega
  cases hf : fd D.fo.l e f with
  | none => exact (rrevoke_none K hS hn hf).mono fun y w' h => gone_of h (nothing_gone H)
  | some y =>
    obtain ⟨i, x, hi, hx, rfl⟩ := at_some (M := D.l) hf
    have hxm := List.mem_of_getElem? hx
    have hr16 : x.r < 16 := (H.rng hxm).2.2.1
    dsimp only
    cases hm : mayB x.nd.r 8 with
    | false => exact (rrevoke_not K hS hn hof hi hx hr16 hm).mono fun y w' h => gone_of h (nothing_gone H)
    | true => exact (rrevoke_hit K hS hn hof hi hx hr16 hm).mono fun y w' h => gone_of h (H.revoke hxm)
theorem rdrop_u (H : DInv D) (K : DocIs S w A n c D.l) (hS : ∀ k, S k → k < w.heap.size) (hp : D.p ≤ 900) (e f : Int) :
    Calls Try.prog 25 #[.agg #[.slice A n c, .int .i64 (D.p : Nat)], .int .i64 e, .int .i64 f] w (fun y w' => match fd D.fo.l e f with
      | none => GoneP S D.fo [] 23 w y w'
      | some x => GoneP S (tkF (isB x) D.fo) (tkW (isB x) D.fo) 0 w y w') := by
  have hn := H.few hp K
  have hof : ∀ x ∈ D.l, x.of.length ≤ 1000000 := fun x hx => by
    have h1 := H.short x hx
    have h2 := (H.rng hx).2.2.2.2.1
    omega
  cases hf : fd D.fo.l e f with
  | none => exact (rdrop_none K hS hn hf).mono fun y w' h => gone_of h (nothing_gone H)
  | some y =>
    obtain ⟨i, x, hi, hx, rfl⟩ := at_some (M := D.l) hf
    dsimp only
    exact (rdrop_hit K hS hn hof hi hx).mono fun y w' h => gone_of h (H.drop x)
theorem rpurge_u (H : DInv D) (K : DocIs S w A n c D.l) (hS : ∀ k, S k → k < w.heap.size) (hp : D.p ≤ 900) (k o : Int) :
    Calls Try.prog 27 #[.agg #[.slice A n c, .int .i64 (D.p : Nat)], .int .i64 k, .int .i64 o] w (GoneQ S (tkF (Nd.to_ k o) D.fo) (tkW (Nd.to_ k o) D.fo) w) := by
  refine (rpurge_any K hS (H.few hp K) k o).mono fun y w' h => ?_
  obtain ⟨u, g, rfl, A, n, c, G, m, cg, rfl, rfl, h1, h2, h3⟩ := h
  obtain ⟨h4, h5, h6⟩ := H.purge k o
  exact ⟨D.cut (toB k o), _, A, n, c, G, m, cg, h6, h4, h5, rfl, h1, h2, h3⟩
end
end Go.Proofs.Ythblldojbgeknaa
