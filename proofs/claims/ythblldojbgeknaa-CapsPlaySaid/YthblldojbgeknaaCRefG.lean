/-
  Contracts: the document's Revoke and Drop (typed by tools/gen_crgone.py).
-/
import Derived.Test.YthblldojbgeknaaCRefF
import Derived.Deep.DeepCutAuto
namespace Go.Proofs.Ythblldojbgeknaa
open Go.ChangeShapes Go.WideShapes Go.ChangeAt Go.RowKit

/-- What is left, what went, and an error are handed back. -/
def DocS (S : Nat → Prop) (M : List Rn) (p : Nat) (q : Rn → Bool) (E : Int) (w : World) (x : Ending) (w' : World) : Prop := ∃ u g, x = .returned (.tuple #[u, g, .int .i64 E]) ∧ Split S M p q w u g w'
section
variable {S : Nat → Prop} {w : World} {A : Option Addr} {n c p : Nat} {M : List Rn}
theorem split_none {v : Value} {w' : World} (h : DocB S M p w v w') : Split S M p (fun _ => false) w v (.slice none 0 0) w' := by
  obtain ⟨A, n, c, rfl, D, hb⟩ := h
  refine ⟨A, n, c, none, 0, 0, rfl, rfl, ?_, ?_, hb⟩
  · rw [show (M.filter fun x => !(fun _ => false) x) = M from List.filter_eq_self.2 fun _ _ => rfl]
    exact D
  · rw [show (M.filter fun _ => false) = [] from List.filter_eq_nil_iff.2 fun _ _ h => by cases h]
    exact DocIs.empty _ _
/-- What a callee parted lies in a box of its own, and is told in the result's. -/
def Ended (S : Nat → Prop) (M : List Rn) (p : Nat) (q : Rn → Bool) (w : World) (bk : Nat) (A' : Option Addr) (n' c' : Nat) (G : Option Addr) (m cg : Nat) (w6 : World) : Prop := (w6.cell? ⟨bk, 0, none⟩ = some (.slice A' n' c') ∧ w6.cell? ⟨bk, 1, none⟩ = some (.int .i64 (p : Nat))) ∧ ((w6.cell? ⟨w.heap.size + 1, 0, none⟩ = some (.slice none 0 0) ∧ w6.frozen? ⟨w.heap.size + 1, 0, none⟩ = false) ∧ w6.cell? ⟨w.heap.size + 1, 1, none⟩ = some (.int .i64 0) ∧ w6.frozen? ⟨w.heap.size + 1, 1, none⟩ = false) ∧ ∃ w9, (w6.setCell ⟨w.heap.size + 1, 0, none⟩ (.slice A' n' c')).setCell ⟨w.heap.size + 1, 1, none⟩ (.int .i64 (p : Nat)) = w9 ∧ w9.cell? ⟨w.heap.size + 1, 0, none⟩ = some (.slice A' n' c') ∧ w9.cell? ⟨w.heap.size + 1, 1, none⟩ = some (.int .i64 (p : Nat)) ∧ Hid (Split S M p q w (.agg #[.slice A' n' c', .int .i64 (p : Nat)]) (.slice G m cg) w9)
theorem ended {q : Rn → Bool} {T : Nat → Prop} {w6 : World} {A0 A' G : Option Addr} {n0 c0 bk n' c' m cg : Nat} {q0 : Int} (B : Bx2 w A0 n0 c0 q0 (.slice none 0 0) (.int .i64 0) w6) (hz : w6.heap[bk]? = some (.cells #[.slice A' n' c', .int .i64 (p : Nat)] 36 (0, 0))) (D1 : DocIs T w6 A' n' c' (M.filter fun x => !q x)) (D2 : DocIs T w6 G m cg (M.filter q)) (hT : ∀ k, T k → k ≠ w.heap.size + 1 ∧ (S k ∨ (w.heap.size ≤ k ∧ k < w6.heap.size))) : Ended S M p q w bk A' n' c' G m cg w6 := by
  have hh := heap_setCell_same _ (w.heap.size + 1) 1 _ _ (.int .i64 (p : Nat)) (heap_setCell_same w6 (w.heap.size + 1) 0 _ _ (.slice A' n' c') B.b1)
  have hblk : ∀ k, T k → ((w6.setCell ⟨w.heap.size + 1, 0, none⟩ (.slice A' n' c')).setCell ⟨w.heap.size + 1, 1, none⟩ (.int .i64 (p : Nat))).heap[k]? = w6.heap[k]? := fun k hk => (Below.heap_setCell _ _ _ _ (hT k hk).1).trans (Below.heap_setCell _ _ _ _ (hT k hk).1)
  have hsz : ((w6.setCell ⟨w.heap.size + 1, 0, none⟩ (.slice A' n' c')).setCell ⟨w.heap.size + 1, 1, none⟩ (.int .i64 (p : Nat))).heap.size = w6.heap.size := by simp [World.setCell]
  have hfr : ∀ k, T k → Fresh S w ((w6.setCell ⟨w.heap.size + 1, 0, none⟩ (.slice A' n' c')).setCell ⟨w.heap.size + 1, 1, none⟩ (.int .i64 (p : Nat))) k := fun k hk => by
    rcases (hT k hk).2 with h | h
    · exact Or.inl h
    · exact Or.inr ⟨h.1, by rw [hsz]; exact h.2⟩
  exact ⟨⟨(bx_cell hz rfl).1, (bx_cell hz rfl).1⟩, ⟨bx_cell B.b1 rfl, bx_cell B.b1 rfl⟩, _, rfl, (bx_cell hh rfl).1, (bx_cell hh rfl).1, Lib.hid ⟨A', n', c', G, m, cg, rfl, rfl, D1.kept hblk hfr, D2.kept hblk hfr, (B.below.setCell (Nat.le_succ _) _).setCell (Nat.le_succ _) _⟩⟩
/-- The box made ahead of the call. -/
theorem ended_a {q : Rn → Bool} {w2 w4 : World} {A0 A' G : Option Addr} {n0 c0 n' c' m cg : Nat} {q0 : Int} (hS : ∀ k, S k → k < w.heap.size) (B : Bx2 w A0 n0 c0 q0 (.slice none 0 0) (.int .i64 0) w2) (h4 : Below (w2.alloc (.cells #[.slice none 0 0, .int .i64 0] 36 (0, 0))).drew.heap.size (w2.alloc (.cells #[.slice none 0 0, .int .i64 0] 36 (0, 0))).drew w4) (h : Split S M p q (w2.alloc (.cells #[.slice none 0 0, .int .i64 0] 36 (0, 0))).drew (.agg #[.slice A' n' c', .int .i64 (p : Nat)]) (.slice G m cg) w4) : ∃ w6, (w4.setCell ⟨w2.heap.size, 0, none⟩ (.slice A' n' c')).setCell ⟨w2.heap.size, 1, none⟩ (.int .i64 (p : Nat)) = w6 ∧ Ended S M p q w w2.heap.size A' n' c' G m cg w6 := by
  obtain ⟨A1, n1, c1, G1, m1, g1, hu, hg, D1, D2, -⟩ := h
  simp only [Value.agg.injEq, Array.mk.injEq, List.cons.injEq, Value.slice.injEq, and_true] at hu hg
  obtain ⟨rfl, rfl, rfl⟩ := hu
  obtain ⟨rfl, rfl, rfl⟩ := hg
  have h2 := B.size
  have hz4 : w4.heap[w2.heap.size]? = some (.cells #[.slice none 0 0, .int .i64 0] 36 (0, 0)) := (h4.block _ (by simp [World.drew])).trans (heap_alloc_new w2 _)
  have hz := heap_setCell_same _ w2.heap.size 1 _ _ (.int .i64 (p : Nat)) (heap_setCell_same w4 w2.heap.size 0 _ _ (.slice A' n' c') hz4)
  have h24 : Below w2.heap.size w2 w4 := below_call (Nat.le_refl _) (below_new (Nat.le_refl _) (Below.refl _ w2) (.cells #[.slice none 0 0, .int .i64 0] 36 (0, 0))).drew h4
  have hblk : ∀ k, Fresh S (w2.alloc (.cells #[.slice none 0 0, .int .i64 0] 36 (0, 0))).drew w4 k → ((w4.setCell ⟨w2.heap.size, 0, none⟩ (.slice A' n' c')).setCell ⟨w2.heap.size, 1, none⟩ (.int .i64 (p : Nat))).heap[k]? = w4.heap[k]? ∧ k ≠ w.heap.size + 1 ∧ (S k ∨ (w.heap.size ≤ k ∧ k < w4.heap.size)) := fun k hk => by
    have hne : k ≠ w2.heap.size ∧ k ≠ w.heap.size + 1 ∧ (S k ∨ (w.heap.size ≤ k ∧ k < w4.heap.size)) := by
      rcases hk with hk | ⟨hk, hk2⟩
      · have := hS k hk
        exact ⟨by omega, by omega, Or.inl hk⟩
      · have h3 : (w2.alloc (.cells #[.slice none 0 0, .int .i64 0] 36 (0, 0))).drew.heap.size = w2.heap.size + 1 := by simp [World.drew]
        exact ⟨by omega, by omega, Or.inr ⟨by omega, hk2⟩⟩
    exact ⟨(Below.heap_setCell _ _ _ _ hne.1).trans (Below.heap_setCell _ _ _ _ hne.1), hne.2⟩
  have hsz : ((w4.setCell ⟨w2.heap.size, 0, none⟩ (.slice A' n' c')).setCell ⟨w2.heap.size, 1, none⟩ (.int .i64 (p : Nat))).heap.size = w4.heap.size := by simp [World.setCell]
  refine ⟨_, rfl, ended (T := Fresh S (w2.alloc (.cells #[.slice none 0 0, .int .i64 0] 36 (0, 0))).drew w4) (B.later ((h24.setCell (Nat.le_refl _) _).setCell (Nat.le_refl _) _)) hz (D1.kept (fun k hk => (hblk k hk).1) (fun _ h => h)) (D2.kept (fun k hk => (hblk k hk).1) (fun _ h => h)) (fun k hk => ⟨(hblk k hk).2.1, by rw [hsz]; exact (hblk k hk).2.2⟩)⟩
/-- The box made behind the call. -/
theorem ended_b {q : Rn → Bool} {w2 w4 : World} {A0 A' G : Option Addr} {n0 c0 n' c' m cg : Nat} {q0 : Int} (hS : ∀ k, S k → k < w.heap.size) (B : Bx2 w A0 n0 c0 q0 (.slice none 0 0) (.int .i64 0) w2) (h4 : Below w2.drew.heap.size w2.drew w4) (h : Split S M p q w2.drew (.agg #[.slice A' n' c', .int .i64 (p : Nat)]) (.slice G m cg) w4) : ∃ w6, w4.alloc (.cells #[.slice A' n' c', .int .i64 (p : Nat)] 36 (0, 0)) = w6 ∧ Ended S M p q w w4.heap.size A' n' c' G m cg w6 := by
  obtain ⟨A1, n1, c1, G1, m1, g1, hu, hg, D1, D2, -⟩ := h
  simp only [Value.agg.injEq, Array.mk.injEq, List.cons.injEq, Value.slice.injEq, and_true] at hu hg
  obtain ⟨rfl, rfl, rfl⟩ := hu
  obtain ⟨rfl, rfl, rfl⟩ := hg
  have h2 := B.size
  have hd : w2.drew.heap.size = w2.heap.size := rfl
  have h4s := h4.size
  have h24 : Below w2.heap.size w2 w4 := below_call (Nat.le_refl _) (Below.refl _ w2).drew h4
  have hblk : ∀ k, Fresh S w2.drew w4 k → k < w4.heap.size ∧ k ≠ w.heap.size + 1 ∧ (S k ∨ (w.heap.size ≤ k ∧ k < w4.heap.size)) := fun k hk => by
    rcases hk with hk | ⟨hk, hk2⟩
    · have := hS k hk
      exact ⟨by omega, by omega, Or.inl hk⟩
    · exact ⟨by omega, by omega, Or.inr ⟨by omega, hk2⟩⟩
  refine ⟨_, rfl, ended (T := Fresh S w2.drew w4) (B.later (h24.alloc (by omega) _)) (heap_alloc_new w4 _) (D1.kept (fun k hk => Below.heap_alloc _ _ _ (hblk k hk).1) (fun _ h => h)) (D2.kept (fun k hk => Below.heap_alloc _ _ _ (hblk k hk).1) (fun _ h => h)) (fun k hk => ⟨(hblk k hk).2.1, ?_⟩)⟩
  rcases (hblk k hk).2.2 with h | h
  · exact Or.inl h
  · exact Or.inr ⟨h.1, by simp; omega⟩
set_option maxRecDepth 100000 in
set_option maxHeartbeats 4000000 in
theorem rrevoke_none (D : DocIs S w A n c M) (hS : ∀ k, S k → k < w.heap.size) (hn : n ≤ 900) {e f : Int} (hno : fd (M.map Rn.nd) e f = none) :
    Calls Try.prog 23 #[.agg #[.slice A n c, .int .i64 (p : Nat)], .int .i64 e, .int .i64 f] w (DocS S M p (fun _ => false) 23 w) := by
  obtain ⟨W, hW⟩ : ∃ W, (w.alloc (.cells #[.slice A n c, .int .i64 (p : Nat)] 36 (0, 0))).alloc (.cells #[.slice none 0 0, .int .i64 0] 36 (0, 0)) = W := ⟨_, rfl⟩
  have B : Bx2 w A n c (p : Nat) (.slice none 0 0) (.int .i64 0) W := by
    rw [← hW]
    exact two_boxes w A n c (p : Nat)
  have HA : Hid (Calls Try.prog 14 #[.agg #[.slice A n c, .int .i64 (p : Nat)], .int .i64 e, .int .i64 f] W fun x w' => x = .returned (.int .i64 (-1)) ∧ Below W.heap.size W w') := Lib.hid (by
    have h1 := rat_any (D.kept (T := S) (w' := W) (fun k hk => B.below.block k (hS k hk)) (fun _ h => h)) (fun k hk => Nat.lt_of_lt_of_le (hS k hk) B.below.size) (by omega) (p : Nat) e f
    rwa [at_none hno] at h1)
  have HX : Hid (∀ w2, Below W.heap.size W w2 → BxF w A n c (p : Nat) w2 ∧ ∃ w9, (w2.setCell ⟨w.heap.size + 1, 0, none⟩ (.slice A n c)).setCell ⟨w.heap.size + 1, 1, none⟩ (.int .i64 (p : Nat)) = w9 ∧ w9.cell? ⟨w.heap.size + 1, 0, none⟩ = some (.slice A n c) ∧ w9.cell? ⟨w.heap.size + 1, 1, none⟩ = some (.int .i64 (p : Nat)) ∧ Hid (DocB S M p w (.agg #[.slice A n c, .int .i64 (p : Nat)]) w9)) := Lib.hid fun w2 h2 => ⟨(B.later h2).facts, (B.later h2).same D hS⟩
  obtain ⟨⟨h0, h1⟩, -⟩ := B.facts
  have HW := Lib.hid hW
  clear hW D hS B hno hn
  go_enter Try.func23, Try.ntmps23
  go_wp2_with fail
  rw [show (w.alloc (.cells #[.slice A n c, .int .i64 (p : Nat)] 36 (0, 0))).alloc (.cells #[.slice none 0 0, .int .i64 0] 36 (0, 0)) = W from HW.out]
  refine HA.out.mono ?_
  rintro x w2 ⟨rfl, hb2⟩
  obtain ⟨⟨⟨h0, h1⟩, ⟨m0, m0z⟩, m1, m1z⟩, w9, e9, q0, q1, HF9⟩ := HX.out w2 hb2
  clear hb2
  go_wp2
  refine bodyPost_ret (v := .tuple #[.agg #[.slice A n c, .int .i64 (p : Nat)], .slice none 0 0, .int .i64 23]) (by simp [results, Try.results23, go_sem, q0, q1]) rfl ?_
  exact ⟨_, _, rfl, split_none HF9.out⟩
set_option maxRecDepth 100000 in
set_option maxHeartbeats 4000000 in
theorem rdrop_none (D : DocIs S w A n c M) (hS : ∀ k, S k → k < w.heap.size) (hn : n ≤ 900) {e f : Int} (hno : fd (M.map Rn.nd) e f = none) :
    Calls Try.prog 25 #[.agg #[.slice A n c, .int .i64 (p : Nat)], .int .i64 e, .int .i64 f] w (DocS S M p (fun _ => false) 23 w) := by
  obtain ⟨W, hW⟩ : ∃ W, (w.alloc (.cells #[.slice A n c, .int .i64 (p : Nat)] 36 (0, 0))).alloc (.cells #[.slice none 0 0, .int .i64 0] 36 (0, 0)) = W := ⟨_, rfl⟩
  have B : Bx2 w A n c (p : Nat) (.slice none 0 0) (.int .i64 0) W := by
    rw [← hW]
    exact two_boxes w A n c (p : Nat)
  have HA : Hid (Calls Try.prog 14 #[.agg #[.slice A n c, .int .i64 (p : Nat)], .int .i64 e, .int .i64 f] W fun x w' => x = .returned (.int .i64 (-1)) ∧ Below W.heap.size W w') := Lib.hid (by
    have h1 := rat_any (D.kept (T := S) (w' := W) (fun k hk => B.below.block k (hS k hk)) (fun _ h => h)) (fun k hk => Nat.lt_of_lt_of_le (hS k hk) B.below.size) (by omega) (p : Nat) e f
    rwa [at_none hno] at h1)
  have HX : Hid (∀ w2, Below W.heap.size W w2 → BxF w A n c (p : Nat) w2 ∧ ∃ w9, (w2.setCell ⟨w.heap.size + 1, 0, none⟩ (.slice A n c)).setCell ⟨w.heap.size + 1, 1, none⟩ (.int .i64 (p : Nat)) = w9 ∧ w9.cell? ⟨w.heap.size + 1, 0, none⟩ = some (.slice A n c) ∧ w9.cell? ⟨w.heap.size + 1, 1, none⟩ = some (.int .i64 (p : Nat)) ∧ Hid (DocB S M p w (.agg #[.slice A n c, .int .i64 (p : Nat)]) w9)) := Lib.hid fun w2 h2 => ⟨(B.later h2).facts, (B.later h2).same D hS⟩
  obtain ⟨⟨h0, h1⟩, -⟩ := B.facts
  have HW := Lib.hid hW
  clear hW D hS B hno hn
  go_enter Try.func25, Try.ntmps25
  go_wp2_with fail
  rw [show (w.alloc (.cells #[.slice A n c, .int .i64 (p : Nat)] 36 (0, 0))).alloc (.cells #[.slice none 0 0, .int .i64 0] 36 (0, 0)) = W from HW.out]
  refine HA.out.mono ?_
  rintro x w2 ⟨rfl, hb2⟩
  obtain ⟨⟨⟨h0, h1⟩, ⟨m0, m0z⟩, m1, m1z⟩, w9, e9, q0, q1, HF9⟩ := HX.out w2 hb2
  clear hb2
  go_wp2
  refine bodyPost_ret (v := .tuple #[.agg #[.slice A n c, .int .i64 (p : Nat)], .slice none 0 0, .int .i64 23]) (by simp [results, Try.results25, go_sem, q0, q1]) rfl ?_
  exact ⟨_, _, rfl, split_none HF9.out⟩
set_option maxRecDepth 100000 in
set_option maxHeartbeats 4000000 in
theorem rrevoke_not (D : DocIs S w A n c M) (hS : ∀ k, S k → k < w.heap.size) (hn : n ≤ 900) (hof : ∀ x ∈ M, x.of.length ≤ 1000000) {e f : Int} {i : Nat} {x : Rn} (hi : atI M e f = (i : Nat)) (hx : M[i]? = some x) (hxr : x.r < 16) (hm : mayB x.r 8 = false) :
    Calls Try.prog 23 #[.agg #[.slice A n c, .int .i64 (p : Nat)], .int .i64 e, .int .i64 f] w (DocS S M p (fun _ => false) 23 w) := by
  obtain ⟨W, hW⟩ : ∃ W, (w.alloc (.cells #[.slice A n c, .int .i64 (p : Nat)] 36 (0, 0))).alloc (.cells #[.slice none 0 0, .int .i64 0] 36 (0, 0)) = W := ⟨_, rfl⟩
  have B : Bx2 w A n c (p : Nat) (.slice none 0 0) (.int .i64 0) W := by
    rw [← hW]
    exact two_boxes w A n c (p : Nat)
  have HA : Hid (Calls Try.prog 14 #[.agg #[.slice A n c, .int .i64 (p : Nat)], .int .i64 e, .int .i64 f] W fun x w' => x = .returned (.int .i64 (i : Nat)) ∧ Below W.heap.size W w') := Lib.hid (by
    have h1 := rat_any (D.kept (T := S) (w' := W) (fun k hk => B.below.block k (hS k hk)) (fun _ h => h)) (fun k hk => Nat.lt_of_lt_of_le (hS k hk) B.below.size) (by omega) (p : Nat) e f
    rwa [hi] at h1)
  have HX : Hid (∀ w2, Below W.heap.size W w2 → BxF w A n c (p : Nat) w2 ∧ ∃ w9, (w2.setCell ⟨w.heap.size + 1, 0, none⟩ (.slice A n c)).setCell ⟨w.heap.size + 1, 1, none⟩ (.int .i64 (p : Nat)) = w9 ∧ w9.cell? ⟨w.heap.size + 1, 0, none⟩ = some (.slice A n c) ∧ w9.cell? ⟨w.heap.size + 1, 1, none⟩ = some (.int .i64 (p : Nat)) ∧ Hid (DocB S M p w (.agg #[.slice A n c, .int .i64 (p : Nat)]) w9)) := Lib.hid fun w2 h2 => ⟨(B.later h2).facts, (B.later h2).same D hS⟩
  obtain ⟨g, hAg, hgS, -⟩ := D.at_ hx
  subst hAg
  have HRw : Hid (∀ w2, Below W.heap.size W w2 → g < w2.heap.size ∧ w2.cell? ⟨g, i * 7, none⟩ = some (.int .i64 (x.id : Nat)) ∧ w2.cell? ⟨g, i * 7 + 6, none⟩ = some (.int .i64 (x.r : Nat))) := Lib.hid fun w2 h2 => by
    have hb := (B.later h2).below
    have D2 := D.kept (T := S) (w' := w2) (fun k hk => hb.block k (hS k hk)) (fun _ h => h)
    obtain ⟨g', e', -, r0, -, -, -, -, -, r6⟩ := D2.at_ hx
    cases e'
    exact ⟨Nat.lt_of_lt_of_le (hS g hgS) hb.size, r0, r6⟩
  have hin : i < n := by
    rw [D.len]
    exact (List.getElem?_eq_some_iff.1 hx).1
  have i0 : (0 : Int) ≤ i := by omega
  have i1 : (i : Int) < n := by omega
  have hcn : n ≤ c := D.cap
  have HDk : Hid (∀ w', Below w.heap.size w w' → DocIs S w' (some ⟨g, 0, none⟩) n c M) := Lib.hid fun w' hb => D.kept (fun k hk => hb.block k (hS k hk)) (fun _ h => h)
  have HBf := Lib.hid B
  have HlS := Lib.hid hS
  have Hn := Lib.hid hn
  have Hof := Lib.hid hof
  obtain ⟨⟨h0, h1⟩, -⟩ := B.facts
  have HW := Lib.hid hW
  have HB : Hid (∀ w, Calls Try.prog 15 #[.int .i64 (x.r : Nat), .int .i64 8] w fun y w' => y = .returned (.bool false) ∧ w = w') := Lib.hid fun w => by
    have := rbits_any x.r 8 hxr (by omega) w
    rw [show mayB x.r ((8 : Nat) : Int) = false from hm] at this
    exact this
  clear hW D hS B hi hx hn hof hgS hxr hm
  go_enter Try.func23, Try.ntmps23
  go_wp2_with fail
  rw [show (w.alloc (.cells #[.slice (some ⟨g, 0, none⟩) n c, .int .i64 (p : Nat)] 36 (0, 0))).alloc (.cells #[.slice none 0 0, .int .i64 0] 36 (0, 0)) = W from HW.out]
  refine HA.out.mono ?_
  rintro y w2 ⟨rfl, hb2⟩
  obtain ⟨⟨⟨h0, h1⟩, ⟨m0, m0z⟩, m1, m1z⟩, w9, e9, q0, q1, HF9⟩ := HX.out w2 hb2
  obtain ⟨hg, r0, r6⟩ := HRw.out w2 hb2
  have HB2 := Lib.hid (HBf.out.later hb2)
  have Hb2 := Lib.hid hb2
  clear hb2
  go_wp2_with (go_at_call 15; refine (HB.out _).mono ?_; rintro y w3 ⟨rfl, rfl⟩)
  refine bodyPost_ret (v := .tuple #[.agg #[.slice (some ⟨g, 0, none⟩) n c, .int .i64 (p : Nat)], .slice none 0 0, .int .i64 23]) (by simp [results, Try.results23, go_sem, q0, q1]) rfl ?_
  exact ⟨_, _, rfl, split_none HF9.out⟩
set_option maxRecDepth 100000 in
set_option maxHeartbeats 4000000 in
theorem rrevoke_hit (D : DocIs S w A n c M) (hS : ∀ k, S k → k < w.heap.size) (hn : n ≤ 900) (hof : ∀ x ∈ M, x.of.length ≤ 1000000) {e f : Int} {i : Nat} {x : Rn} (hi : atI M e f = (i : Nat)) (hx : M[i]? = some x) (hxr : x.r < 16) (hm : mayB x.r 8 = true) :
    Calls Try.prog 23 #[.agg #[.slice A n c, .int .i64 (p : Nat)], .int .i64 e, .int .i64 f] w (DocS S M p (prB x.id false) 0 w) := by
  obtain ⟨W, hW⟩ : ∃ W, (w.alloc (.cells #[.slice A n c, .int .i64 (p : Nat)] 36 (0, 0))).alloc (.cells #[.slice none 0 0, .int .i64 0] 36 (0, 0)) = W := ⟨_, rfl⟩
  have B : Bx2 w A n c (p : Nat) (.slice none 0 0) (.int .i64 0) W := by
    rw [← hW]
    exact two_boxes w A n c (p : Nat)
  have HA : Hid (Calls Try.prog 14 #[.agg #[.slice A n c, .int .i64 (p : Nat)], .int .i64 e, .int .i64 f] W fun x w' => x = .returned (.int .i64 (i : Nat)) ∧ Below W.heap.size W w') := Lib.hid (by
    have h1 := rat_any (D.kept (T := S) (w' := W) (fun k hk => B.below.block k (hS k hk)) (fun _ h => h)) (fun k hk => Nat.lt_of_lt_of_le (hS k hk) B.below.size) (by omega) (p : Nat) e f
    rwa [hi] at h1)
  have HX : Hid (∀ w2, Below W.heap.size W w2 → BxF w A n c (p : Nat) w2 ∧ ∃ w9, (w2.setCell ⟨w.heap.size + 1, 0, none⟩ (.slice A n c)).setCell ⟨w.heap.size + 1, 1, none⟩ (.int .i64 (p : Nat)) = w9 ∧ w9.cell? ⟨w.heap.size + 1, 0, none⟩ = some (.slice A n c) ∧ w9.cell? ⟨w.heap.size + 1, 1, none⟩ = some (.int .i64 (p : Nat)) ∧ Hid (DocB S M p w (.agg #[.slice A n c, .int .i64 (p : Nat)]) w9)) := Lib.hid fun w2 h2 => ⟨(B.later h2).facts, (B.later h2).same D hS⟩
  obtain ⟨g, hAg, hgS, -⟩ := D.at_ hx
  subst hAg
  have HRw : Hid (∀ w2, Below W.heap.size W w2 → g < w2.heap.size ∧ w2.cell? ⟨g, i * 7, none⟩ = some (.int .i64 (x.id : Nat)) ∧ w2.cell? ⟨g, i * 7 + 6, none⟩ = some (.int .i64 (x.r : Nat))) := Lib.hid fun w2 h2 => by
    have hb := (B.later h2).below
    have D2 := D.kept (T := S) (w' := w2) (fun k hk => hb.block k (hS k hk)) (fun _ h => h)
    obtain ⟨g', e', -, r0, -, -, -, -, -, r6⟩ := D2.at_ hx
    cases e'
    exact ⟨Nat.lt_of_lt_of_le (hS g hgS) hb.size, r0, r6⟩
  have hin : i < n := by
    rw [D.len]
    exact (List.getElem?_eq_some_iff.1 hx).1
  have i0 : (0 : Int) ≤ i := by omega
  have i1 : (i : Int) < n := by omega
  have hcn : n ≤ c := D.cap
  have HDk : Hid (∀ w', Below w.heap.size w w' → DocIs S w' (some ⟨g, 0, none⟩) n c M) := Lib.hid fun w' hb => D.kept (fun k hk => hb.block k (hS k hk)) (fun _ h => h)
  have HBf := Lib.hid B
  have HlS := Lib.hid hS
  have Hn := Lib.hid hn
  have Hof := Lib.hid hof
  obtain ⟨⟨h0, h1⟩, -⟩ := B.facts
  have HW := Lib.hid hW
  have HB : Hid (∀ w, Calls Try.prog 15 #[.int .i64 (x.r : Nat), .int .i64 8] w fun y w' => y = .returned (.bool true) ∧ w = w') := Lib.hid fun w => by
    have := rbits_any x.r 8 hxr (by omega) w
    rw [show mayB x.r ((8 : Nat) : Int) = true from hm] at this
    exact this
  clear hW D hS B hi hx hn hof hgS hxr hm
  go_enter Try.func23, Try.ntmps23
  go_wp2_with fail
  rw [show (w.alloc (.cells #[.slice (some ⟨g, 0, none⟩) n c, .int .i64 (p : Nat)] 36 (0, 0))).alloc (.cells #[.slice none 0 0, .int .i64 0] 36 (0, 0)) = W from HW.out]
  refine HA.out.mono ?_
  rintro y w2 ⟨rfl, hb2⟩
  obtain ⟨⟨⟨h0, h1⟩, ⟨m0, m0z⟩, m1, m1z⟩, w9, e9, q0, q1, HF9⟩ := HX.out w2 hb2
  obtain ⟨hg, r0, r6⟩ := HRw.out w2 hb2
  have HB2 := Lib.hid (HBf.out.later hb2)
  have Hb2 := Lib.hid hb2
  clear hb2
  clear e9 q0 q1 HF9
  go_wp2_with fail
  refine (HB.out _).mono ?_
  rintro y w3 ⟨rfl, rfl⟩
  have HS : Hid (∀ w', Below w2.heap.size w2 w' → Below w2.heap.size w2 w' ∧ (w'.cell? ⟨w.heap.size, 0, none⟩ = some (.slice (some ⟨g, 0, none⟩) n c) ∧ w'.cell? ⟨w.heap.size, 1, none⟩ = some (.int .i64 (p : Nat))) ∧ w'.cell? ⟨g, i * 7, none⟩ = some (.int .i64 (x.id : Nat))) := Lib.hid fun w' h => by
    have hbb := below_call (Nat.le_refl _) Hb2.out h
    exact ⟨h, (HX.out w' hbb).1.1, (HRw.out w' hbb).2.1⟩
  have HPr : Hid (∀ w', Below w2.heap.size w2 w' → Calls Try.prog 41 #[.agg #[.slice (some ⟨g, 0, none⟩) n c, .int .i64 (p : Nat)], .int .i64 (x.id : Nat), .bool false] w' fun y w4 => ∃ A' n' c' G m cg, y = .returned (.tuple #[.agg #[.slice A' n' c', .int .i64 (p : Nat)], .slice G m cg]) ∧ Hid (Below w2.heap.size w2 w4) ∧ Hid (Below w'.heap.size w' w4) ∧ Hid (Split S M p (prB x.id false) w' (.agg #[.slice A' n' c', .int .i64 (p : Nat)]) (.slice G m cg) w4)) := Lib.hid fun w' h' => by
    have hb := (HB2.out.later h').below
    refine (rprune_any (HDk.out w' hb) (fun k hk => Nat.lt_of_lt_of_le (HlS.out k hk) hb.size) Hn.out Hof.out x.id false).mono ?_
    rintro y w4 ⟨u, g', rfl, A', n', c', G, m, cg, rfl, rfl, D1, D2, h4⟩
    exact ⟨A', n', c', G, m, cg, rfl, Lib.hid (below_call (Nat.le_refl _) h' h4), Lib.hid h4, Lib.hid ⟨A', n', c', G, m, cg, rfl, rfl, D1, D2, h4⟩⟩
  have HZa : Hid (∀ w4, Below (w2.alloc (.cells #[.slice none 0 0, .int .i64 0] 36 (0, 0))).drew.heap.size (w2.alloc (.cells #[.slice none 0 0, .int .i64 0] 36 (0, 0))).drew w4 → (w4.cell? ⟨w2.heap.size, 0, none⟩ = some (.slice none 0 0) ∧ w4.frozen? ⟨w2.heap.size, 0, none⟩ = false) ∧ w4.cell? ⟨w2.heap.size, 1, none⟩ = some (.int .i64 0) ∧ w4.frozen? ⟨w2.heap.size, 1, none⟩ = false) := Lib.hid fun w4 h4 => by
    have hz : w4.heap[w2.heap.size]? = some (.cells #[.slice none 0 0, .int .i64 0] 36 (0, 0)) := (h4.block _ (by simp [World.drew])).trans (heap_alloc_new w2 _)
    exact ⟨bx_cell hz rfl, bx_cell hz rfl⟩
  have HZb : Hid (∀ w4 : World, ((w4.alloc (.cells #[.slice none 0 0, .int .i64 0] 36 (0, 0))).cell? ⟨w4.heap.size, 0, none⟩ = some (.slice none 0 0) ∧ (w4.alloc (.cells #[.slice none 0 0, .int .i64 0] 36 (0, 0))).frozen? ⟨w4.heap.size, 0, none⟩ = false) ∧ (w4.alloc (.cells #[.slice none 0 0, .int .i64 0] 36 (0, 0))).cell? ⟨w4.heap.size, 1, none⟩ = some (.int .i64 0) ∧ (w4.alloc (.cells #[.slice none 0 0, .int .i64 0] 36 (0, 0))).frozen? ⟨w4.heap.size, 1, none⟩ = false) := Lib.hid fun w4 => by
    have hz := heap_alloc_new w4 (.cells #[.slice none 0 0, .int .i64 0] 36 (0, 0))
    exact ⟨bx_cell hz rfl, bx_cell hz rfl⟩
  go_upto_region 4 with (fail)
  go_region_held3 (fun w' => Below w2.heap.size w2 w' ∧ (w'.cell? ⟨w.heap.size, 0, none⟩ = some (.slice (some ⟨g, 0, none⟩) n c) ∧ w'.cell? ⟨w.heap.size, 1, none⟩ = some (.int .i64 (p : Nat))) ∧ w'.cell? ⟨g, i * 7, none⟩ = some (.int .i64 (x.id : Nat)))
    ((refine HS.out _ ?_; repeat' (first | with_reducible exact G3.out | with_reducible exact Below.refl _ _ | with_reducible refine Below.drew ?_ | with_reducible refine below_new (Nat.le_refl _) ?_ _ | (refine Below.setCell ?_ (by first | exact Nat.le_refl _ | exact G3.out.size) _) | (refine Below.alloc ?_ G3.out.size _))))
    (first
      | (go_at_call 41; with_reducible refine (HPr.out (w2.alloc (.cells #[.slice none 0 0, .int .i64 0] 36 (0, 0))).drew (And.left (by assumption))).mono ?_; rintro y w4 ⟨A', n', c', G, m, cg, rfl, G3, G4, GS⟩; obtain ⟨⟨zc0, zf0⟩, zc1, zf1⟩ := HZa.out w4 G4.out)
      | (go_at_call 41; with_reducible refine (HPr.out _ (And.left (by assumption))).mono ?_; rintro y w4 ⟨A', n', c', G, m, cg, rfl, G3, G4, GS⟩; obtain ⟨⟨zc0, zf0⟩, zc1, zf1⟩ := HZb.out w4))
  all_goals
    first
      | (obtain ⟨w6, e6, HE⟩ := ended_a HlS.out HB2.out G4.out GS.out)
      | (obtain ⟨w6, e6, HE⟩ := ended_b HlS.out HB2.out G4.out GS.out)
    rw [e6]
    obtain ⟨⟨z0, z1⟩, ⟨⟨m0, m0z⟩, m1, m1z⟩, w9, e9, q0, q1, HF⟩ := HE
    clear e6 zc0 zf0 zc1 zf1
    go_wp2
    refine bodyPost_ret (v := .tuple #[.agg #[.slice A' n' c', .int .i64 (p : Nat)], .slice G m cg, .int .i64 0]) (by simp [results, Try.results23, go_sem, q0, q1]) rfl ?_
    exact ⟨_, _, rfl, HF.out⟩
set_option maxRecDepth 100000 in
set_option maxHeartbeats 4000000 in
theorem rdrop_hit (D : DocIs S w A n c M) (hS : ∀ k, S k → k < w.heap.size) (hn : n ≤ 900) (hof : ∀ x ∈ M, x.of.length ≤ 1000000) {e f : Int} {i : Nat} {x : Rn} (hi : atI M e f = (i : Nat)) (hx : M[i]? = some x) :
    Calls Try.prog 25 #[.agg #[.slice A n c, .int .i64 (p : Nat)], .int .i64 e, .int .i64 f] w (DocS S M p (prB x.id true) 0 w) := by
  obtain ⟨W, hW⟩ : ∃ W, (w.alloc (.cells #[.slice A n c, .int .i64 (p : Nat)] 36 (0, 0))).alloc (.cells #[.slice none 0 0, .int .i64 0] 36 (0, 0)) = W := ⟨_, rfl⟩
  have B : Bx2 w A n c (p : Nat) (.slice none 0 0) (.int .i64 0) W := by
    rw [← hW]
    exact two_boxes w A n c (p : Nat)
  have HA : Hid (Calls Try.prog 14 #[.agg #[.slice A n c, .int .i64 (p : Nat)], .int .i64 e, .int .i64 f] W fun x w' => x = .returned (.int .i64 (i : Nat)) ∧ Below W.heap.size W w') := Lib.hid (by
    have h1 := rat_any (D.kept (T := S) (w' := W) (fun k hk => B.below.block k (hS k hk)) (fun _ h => h)) (fun k hk => Nat.lt_of_lt_of_le (hS k hk) B.below.size) (by omega) (p : Nat) e f
    rwa [hi] at h1)
  have HX : Hid (∀ w2, Below W.heap.size W w2 → BxF w A n c (p : Nat) w2 ∧ ∃ w9, (w2.setCell ⟨w.heap.size + 1, 0, none⟩ (.slice A n c)).setCell ⟨w.heap.size + 1, 1, none⟩ (.int .i64 (p : Nat)) = w9 ∧ w9.cell? ⟨w.heap.size + 1, 0, none⟩ = some (.slice A n c) ∧ w9.cell? ⟨w.heap.size + 1, 1, none⟩ = some (.int .i64 (p : Nat)) ∧ Hid (DocB S M p w (.agg #[.slice A n c, .int .i64 (p : Nat)]) w9)) := Lib.hid fun w2 h2 => ⟨(B.later h2).facts, (B.later h2).same D hS⟩
  obtain ⟨g, hAg, hgS, -⟩ := D.at_ hx
  subst hAg
  have HRw : Hid (∀ w2, Below W.heap.size W w2 → g < w2.heap.size ∧ w2.cell? ⟨g, i * 7, none⟩ = some (.int .i64 (x.id : Nat)) ∧ w2.cell? ⟨g, i * 7 + 6, none⟩ = some (.int .i64 (x.r : Nat))) := Lib.hid fun w2 h2 => by
    have hb := (B.later h2).below
    have D2 := D.kept (T := S) (w' := w2) (fun k hk => hb.block k (hS k hk)) (fun _ h => h)
    obtain ⟨g', e', -, r0, -, -, -, -, -, r6⟩ := D2.at_ hx
    cases e'
    exact ⟨Nat.lt_of_lt_of_le (hS g hgS) hb.size, r0, r6⟩
  have hin : i < n := by
    rw [D.len]
    exact (List.getElem?_eq_some_iff.1 hx).1
  have i0 : (0 : Int) ≤ i := by omega
  have i1 : (i : Int) < n := by omega
  have hcn : n ≤ c := D.cap
  have HDk : Hid (∀ w', Below w.heap.size w w' → DocIs S w' (some ⟨g, 0, none⟩) n c M) := Lib.hid fun w' hb => D.kept (fun k hk => hb.block k (hS k hk)) (fun _ h => h)
  have HBf := Lib.hid B
  have HlS := Lib.hid hS
  have Hn := Lib.hid hn
  have Hof := Lib.hid hof
  obtain ⟨⟨h0, h1⟩, -⟩ := B.facts
  have HW := Lib.hid hW
  clear hW D hS B hi hx hn hof hgS
  go_enter Try.func25, Try.ntmps25
  go_wp2_with fail
  rw [show (w.alloc (.cells #[.slice (some ⟨g, 0, none⟩) n c, .int .i64 (p : Nat)] 36 (0, 0))).alloc (.cells #[.slice none 0 0, .int .i64 0] 36 (0, 0)) = W from HW.out]
  refine HA.out.mono ?_
  rintro y w2 ⟨rfl, hb2⟩
  obtain ⟨⟨⟨h0, h1⟩, ⟨m0, m0z⟩, m1, m1z⟩, w9, e9, q0, q1, HF9⟩ := HX.out w2 hb2
  obtain ⟨hg, r0, r6⟩ := HRw.out w2 hb2
  have HB2 := Lib.hid (HBf.out.later hb2)
  have Hb2 := Lib.hid hb2
  clear hb2
  clear e9 q0 q1 HF9
  have HS : Hid (∀ w', Below w2.heap.size w2 w' → Below w2.heap.size w2 w' ∧ (w'.cell? ⟨w.heap.size, 0, none⟩ = some (.slice (some ⟨g, 0, none⟩) n c) ∧ w'.cell? ⟨w.heap.size, 1, none⟩ = some (.int .i64 (p : Nat))) ∧ w'.cell? ⟨g, i * 7, none⟩ = some (.int .i64 (x.id : Nat))) := Lib.hid fun w' h => by
    have hbb := below_call (Nat.le_refl _) Hb2.out h
    exact ⟨h, (HX.out w' hbb).1.1, (HRw.out w' hbb).2.1⟩
  have HPr : Hid (∀ w', Below w2.heap.size w2 w' → Calls Try.prog 41 #[.agg #[.slice (some ⟨g, 0, none⟩) n c, .int .i64 (p : Nat)], .int .i64 (x.id : Nat), .bool true] w' fun y w4 => ∃ A' n' c' G m cg, y = .returned (.tuple #[.agg #[.slice A' n' c', .int .i64 (p : Nat)], .slice G m cg]) ∧ Hid (Below w2.heap.size w2 w4) ∧ Hid (Below w'.heap.size w' w4) ∧ Hid (Split S M p (prB x.id true) w' (.agg #[.slice A' n' c', .int .i64 (p : Nat)]) (.slice G m cg) w4)) := Lib.hid fun w' h' => by
    have hb := (HB2.out.later h').below
    refine (rprune_any (HDk.out w' hb) (fun k hk => Nat.lt_of_lt_of_le (HlS.out k hk) hb.size) Hn.out Hof.out x.id true).mono ?_
    rintro y w4 ⟨u, g', rfl, A', n', c', G, m, cg, rfl, rfl, D1, D2, h4⟩
    exact ⟨A', n', c', G, m, cg, rfl, Lib.hid (below_call (Nat.le_refl _) h' h4), Lib.hid h4, Lib.hid ⟨A', n', c', G, m, cg, rfl, rfl, D1, D2, h4⟩⟩
  have HZa : Hid (∀ w4, Below (w2.alloc (.cells #[.slice none 0 0, .int .i64 0] 36 (0, 0))).drew.heap.size (w2.alloc (.cells #[.slice none 0 0, .int .i64 0] 36 (0, 0))).drew w4 → (w4.cell? ⟨w2.heap.size, 0, none⟩ = some (.slice none 0 0) ∧ w4.frozen? ⟨w2.heap.size, 0, none⟩ = false) ∧ w4.cell? ⟨w2.heap.size, 1, none⟩ = some (.int .i64 0) ∧ w4.frozen? ⟨w2.heap.size, 1, none⟩ = false) := Lib.hid fun w4 h4 => by
    have hz : w4.heap[w2.heap.size]? = some (.cells #[.slice none 0 0, .int .i64 0] 36 (0, 0)) := (h4.block _ (by simp [World.drew])).trans (heap_alloc_new w2 _)
    exact ⟨bx_cell hz rfl, bx_cell hz rfl⟩
  have HZb : Hid (∀ w4 : World, ((w4.alloc (.cells #[.slice none 0 0, .int .i64 0] 36 (0, 0))).cell? ⟨w4.heap.size, 0, none⟩ = some (.slice none 0 0) ∧ (w4.alloc (.cells #[.slice none 0 0, .int .i64 0] 36 (0, 0))).frozen? ⟨w4.heap.size, 0, none⟩ = false) ∧ (w4.alloc (.cells #[.slice none 0 0, .int .i64 0] 36 (0, 0))).cell? ⟨w4.heap.size, 1, none⟩ = some (.int .i64 0) ∧ (w4.alloc (.cells #[.slice none 0 0, .int .i64 0] 36 (0, 0))).frozen? ⟨w4.heap.size, 1, none⟩ = false) := Lib.hid fun w4 => by
    have hz := heap_alloc_new w4 (.cells #[.slice none 0 0, .int .i64 0] 36 (0, 0))
    exact ⟨bx_cell hz rfl, bx_cell hz rfl⟩
  go_upto_region 4 with (fail)
  go_region_held3 (fun w' => Below w2.heap.size w2 w' ∧ (w'.cell? ⟨w.heap.size, 0, none⟩ = some (.slice (some ⟨g, 0, none⟩) n c) ∧ w'.cell? ⟨w.heap.size, 1, none⟩ = some (.int .i64 (p : Nat))) ∧ w'.cell? ⟨g, i * 7, none⟩ = some (.int .i64 (x.id : Nat)))
    ((refine HS.out _ ?_; repeat' (first | with_reducible exact G3.out | with_reducible exact Below.refl _ _ | with_reducible refine Below.drew ?_ | with_reducible refine below_new (Nat.le_refl _) ?_ _ | (refine Below.setCell ?_ (by first | exact Nat.le_refl _ | exact G3.out.size) _) | (refine Below.alloc ?_ G3.out.size _))))
    (first
      | (go_at_call 41; with_reducible refine (HPr.out (w2.alloc (.cells #[.slice none 0 0, .int .i64 0] 36 (0, 0))).drew (And.left (by assumption))).mono ?_; rintro y w4 ⟨A', n', c', G, m, cg, rfl, G3, G4, GS⟩; obtain ⟨⟨zc0, zf0⟩, zc1, zf1⟩ := HZa.out w4 G4.out)
      | (go_at_call 41; with_reducible refine (HPr.out _ (And.left (by assumption))).mono ?_; rintro y w4 ⟨A', n', c', G, m, cg, rfl, G3, G4, GS⟩; obtain ⟨⟨zc0, zf0⟩, zc1, zf1⟩ := HZb.out w4))
  all_goals
    first
      | (obtain ⟨w6, e6, HE⟩ := ended_a HlS.out HB2.out G4.out GS.out)
      | (obtain ⟨w6, e6, HE⟩ := ended_b HlS.out HB2.out G4.out GS.out)
    rw [e6]
    obtain ⟨⟨z0, z1⟩, ⟨⟨m0, m0z⟩, m1, m1z⟩, w9, e9, q0, q1, HF⟩ := HE
    clear e6 zc0 zf0 zc1 zf1
    go_wp2
    refine bodyPost_ret (v := .tuple #[.agg #[.slice A' n' c', .int .i64 (p : Nat)], .slice G m cg, .int .i64 0]) (by simp [results, Try.results25, go_sem, q0, q1]) rfl ?_
    exact ⟨_, _, rfl, HF.out⟩
end
end Go.Proofs.Ythblldojbgeknaa
