/-
  Contracts: the document's Pass.
-/
import Derived.Test.YthblldojbgeknaaCRefC
namespace Go.Proofs.Ythblldojbgeknaa
open Go.ChangeShapes Go.WideShapes Go.ChangeAt Go.RowKit

def natc (L : List Nat) : List Value := L.map fun u => .int .i64 ((u : Nat) : Int)
/-- append of numbers onto a row of the call's own, at a step of a region that draws its order. -/
theorem step_nat (w : World) {ops : Array Oper} {o : Oper} {a : Act} {K : Act → World → Prop} {Q : Exit → Act → World → Prop} {F : Prop} (hgd : o.guard = none) (s x : Operand)
    (ho : o.op = .call { callee := .builtin .append, args := #[s, x], argTypes := #[49, 49] })
    (base : Nat) (v : Value) (n : Nat) (L : List Nat) (hs : a.eval s = v) (hown : w.ownsRow base 3 1 v n (natc L))
    (ao : Option Addr) (m c : Nat) (l : List Nat) (hx : a.eval x = .slice ao m c) {T : Nat → Prop} (hr : OfIs T w (.slice ao m c) l) (N : Nat) (hN : n + m = N) (hm : N ≤ 1000000) (hbase : base ≤ w.heap.size)
    (h : ∀ A cap w', w'.ownsRow base 3 1 (.slice A N cap) N (natc (L ++ l)) → w.grownBy w' v.ownBlock → K (a.put o.dst (.slice A N cap)) w') :
    if Region.wanted o (yielded ops a.tmps) = true then Oper.wp Try.prog o a w K Q else F := by
  subst hN
  obtain ⟨i0, hi, hz0, hz1, hz2⟩ := info_parts info_int
  obtain ⟨A', n', c', hv, hl, -, hnil, hc⟩ := hr
  simp only [Value.slice.injEq] at hv
  obtain ⟨rfl, rfl, rfl⟩ := hv
  refine step_append_all w hgd s x 49 ho base 3 i0 (.int .i64 0) 1 8 Try.underlying49 hi hz0 hz1 hz2 rfl (by decide) v n (natc L) hs hown ao m c (natc l) hx hnil (by rw [natc, List.length_map, hl, Nat.mul_one]) (fun ad e j u hu => ?_) (fun u hu => ?_) (by unfold maxLen; omega) (by omega) hbase w.heap.size rfl ?_
  · have hj := (List.getElem?_eq_some_iff.1 hu).1
    rw [natc, List.length_map] at hj
    obtain ⟨b, e2, -, hcc⟩ := hc (by omega)
    rw [e2] at e
    cases e
    rw [add_at, Nat.zero_add, hcc j l[j] (List.getElem?_eq_getElem hj), ← hu, natc, List.getElem?_map, List.getElem?_eq_getElem hj]
    rfl
  · simp only [natc, List.mem_map] at hu
    obtain ⟨y, -, rfl⟩ := hu
    rfl
  · intro A cap w' h1 h2 _
    refine h A cap w' ?_ h2
    rw [natc, List.map_append]
    exact h1
/-- One number alone, just made. -/
theorem of_one {S : Nat → Prop} {w' : World} {g : Nat} (u : Nat) (hb : w'.heap[g]? = some (.cells #[.int .i64 (u : Nat)] 3)) (hg : S g) : OfIs S w' (.slice (some ⟨g, 0, none⟩) 1 1) [u] := by
  refine ⟨_, _, _, rfl, rfl, Nat.le_refl _, (fun e => by cases e), fun _ => ⟨g, rfl, hg, fun i x hx => ?_⟩⟩
  match i with
  | 0 =>
    obtain rfl : u = x := by simpa using hx
    simp only [World.cell?, hb]
    rfl
  | i + 1 => simp at hx
/-- What a result's box is told as, wherever it lies. -/
theorem res_end {S T : Nat → Prop} {w w' : World} {g : Nat} {X Y : Value} {A : Option Addr} {n c q : Nat} {M : List Rn} (hb : w'.heap[g]? = some (.cells #[X, Y] 36 (0, 0))) (hg : w.heap.size ≤ g) (hw : Below w.heap.size w w') (D : DocIs T w' A n c M) (hT : ∀ k, T k → k ≠ g ∧ (S k ∨ (w.heap.size ≤ k ∧ k < w'.heap.size))) : ∃ w9, (w'.setCell ⟨g, 0, none⟩ (.slice A n c)).setCell ⟨g, 1, none⟩ (.int .i64 (q : Nat)) = w9 ∧ w9.cell? ⟨g, 0, none⟩ = some (.slice A n c) ∧ w9.cell? ⟨g, 1, none⟩ = some (.int .i64 (q : Nat)) ∧ Hid (DocB S M q w (.agg #[.slice A n c, .int .i64 (q : Nat)]) w9) := by
  have hh := heap_setCell_same _ g 1 _ _ (.int .i64 (q : Nat)) (heap_setCell_same w' g 0 _ _ (.slice A n c) hb)
  refine ⟨_, rfl, (bx_cell hh rfl).1, (bx_cell hh rfl).1, Lib.hid ⟨A, n, c, rfl, ?_, (hw.setCell hg _).setCell hg _⟩⟩
  refine D.kept (fun i hi => ?_) (fun i hi => ?_)
  · have hne := (hT i hi).1
    exact (Below.heap_setCell _ _ _ _ hne).trans (Below.heap_setCell _ _ _ _ hne)
  · have hs : ((w'.setCell ⟨g, 0, none⟩ (.slice A n c)).setCell ⟨g, 1, none⟩ (.int .i64 (q : Nat))).heap.size = w'.heap.size := by simp [World.setCell]
    rcases (hT i hi).2 with h | h
    · exact Or.inl h
    · exact Or.inr ⟨h.1, by rw [hs]; exact h.2⟩
/-- Two boxes: the forest, the result. -/
structure Bx2 (w : World) (A : Option Addr) (n c : Nat) (q : Int) (X Y : Value) (w' : World) : Prop where
  b0 : w'.heap[w.heap.size]? = some (.cells #[.slice A n c, .int .i64 q] 36 (0, 0))
  b1 : w'.heap[w.heap.size + 1]? = some (.cells #[X, Y] 36 (0, 0))
  below : Below w.heap.size w w'
  size : w.heap.size + 1 + 1 ≤ w'.heap.size
theorem Bx2.later {w w' w2 : World} {A : Option Addr} {n c : Nat} {q : Int} {X Y : Value} (B : Bx2 w A n c q X Y w') (hb : Below w'.heap.size w' w2) : Bx2 w A n c q X Y w2 := by
  have hs := B.size
  exact ⟨(hb.block _ (by omega)).trans B.b0, (hb.block _ (by omega)).trans B.b1, B.below.trans (hb.mono B.below.size), Nat.le_trans hs hb.size⟩
theorem two_boxes (w : World) (A : Option Addr) (n c : Nat) (q : Int) : Bx2 w A n c q (.slice none 0 0) (.int .i64 0) ((w.alloc (.cells #[.slice A n c, .int .i64 q] 36 (0, 0))).alloc (.cells #[.slice none 0 0, .int .i64 0] 36 (0, 0))) := by
  refine ⟨?_, ?_, below_new (Nat.le_refl _) (below_new (Nat.le_refl _) (Below.refl _ w) _) _, by simp⟩
  · rw [Below.heap_alloc _ _ _ (by simp)]
    exact heap_alloc_new w _
  · have := heap_alloc_new (w.alloc (.cells #[.slice A n c, .int .i64 q] 36 (0, 0))) (.cells #[.slice none 0 0, .int .i64 0] 36 (0, 0))
    simpa using this
/-- All that a walk asks of the two boxes. -/
def BxF (w : World) (A : Option Addr) (n c : Nat) (q : Int) (w2 : World) : Prop := (w2.cell? ⟨w.heap.size, 0, none⟩ = some (.slice A n c) ∧ w2.cell? ⟨w.heap.size, 1, none⟩ = some (.int .i64 q)) ∧ (w2.cell? ⟨w.heap.size + 1, 0, none⟩ = some (.slice none 0 0) ∧ w2.frozen? ⟨w.heap.size + 1, 0, none⟩ = false) ∧ w2.cell? ⟨w.heap.size + 1, 1, none⟩ = some (.int .i64 0) ∧ w2.frozen? ⟨w.heap.size + 1, 1, none⟩ = false
theorem Bx2.facts {w w' : World} {A : Option Addr} {n c : Nat} {q : Int} (B : Bx2 w A n c q (.slice none 0 0) (.int .i64 0) w') : BxF w A n c q w' := ⟨⟨(bx_cell B.b0 rfl).1, (bx_cell B.b0 rfl).1⟩, bx_cell B.b1 rfl, bx_cell B.b1 rfl⟩
/-- The end that hands back the forest as it was. -/
theorem Bx2.same {S : Nat → Prop} {w w' : World} {A : Option Addr} {n c q : Nat} {M : List Rn} {X Y : Value} (B : Bx2 w A n c (q : Nat) X Y w') (D : DocIs S w A n c M) (hS : ∀ k, S k → k < w.heap.size) : ∃ w9, (w'.setCell ⟨w.heap.size + 1, 0, none⟩ (.slice A n c)).setCell ⟨w.heap.size + 1, 1, none⟩ (.int .i64 (q : Nat)) = w9 ∧ w9.cell? ⟨w.heap.size + 1, 0, none⟩ = some (.slice A n c) ∧ w9.cell? ⟨w.heap.size + 1, 1, none⟩ = some (.int .i64 (q : Nat)) ∧ Hid (DocB S M q w (.agg #[.slice A n c, .int .i64 (q : Nat)]) w9) :=
  res_end B.b1 (Nat.le_succ _) B.below (D.kept (T := S) (fun k hk => B.below.block k (hS k hk)) (fun _ h => h)) (fun k hk => ⟨by have := hS k hk; omega, Or.inl hk⟩)
section
variable {S : Nat → Prop} {w : World} {A : Option Addr} {n c p : Nat} {M : List Rn}
set_option maxRecDepth 4000 in
set_option maxHeartbeats 2000000 in
theorem rpass_none (D : DocIs S w A n c M) (hS : ∀ k, S k → k < w.heap.size) (hn : n ≤ 900) {e f : Int} (hno : fd (M.map Rn.nd) e f = none) (t s R : Int) (give : Bool) :
    Calls Try.prog 22 #[.agg #[.slice A n c, .int .i64 (p : Nat)], .int .i64 e, .int .i64 f, .int .i64 t, .int .i64 s, .int .i64 R, .bool give] w (DocE S ⟨M, p⟩ 23 w) := by
  obtain ⟨W, hW⟩ : ∃ W, (w.alloc (.cells #[.slice A n c, .int .i64 (p : Nat)] 36 (0, 0))).alloc (.cells #[.slice none 0 0, .int .i64 0] 36 (0, 0)) = W := ⟨_, rfl⟩
  have B : Bx2 w A n c (p : Nat) (.slice none 0 0) (.int .i64 0) W := by
    rw [← hW]
    exact two_boxes w A n c (p : Nat)
  have HA : Hid (Calls Try.prog 14 #[.agg #[.slice A n c, .int .i64 (p : Nat)], .int .i64 e, .int .i64 f] W fun x w' => x = .returned (.int .i64 (-1)) ∧ Below W.heap.size W w') := Lib.hid (by
    have h1 := rat_any (D.kept (T := S) (w' := W) (fun k hk => B.below.block k (hS k hk)) (fun _ h => h)) (fun k hk => Nat.lt_of_lt_of_le (hS k hk) B.below.size) (by omega) (p : Nat) e f
    rwa [at_none hno] at h1)
  have HX : Hid (∀ w2, Below W.heap.size W w2 → BxF w A n c (p : Nat) w2 ∧ ∃ w9, (w2.setCell ⟨w.heap.size + 1, 0, none⟩ (.slice A n c)).setCell ⟨w.heap.size + 1, 1, none⟩ (.int .i64 (p : Nat)) = w9 ∧ w9.cell? ⟨w.heap.size + 1, 0, none⟩ = some (.slice A n c) ∧ w9.cell? ⟨w.heap.size + 1, 1, none⟩ = some (.int .i64 (p : Nat)) ∧ Hid (DocB S M p w (.agg #[.slice A n c, .int .i64 (p : Nat)]) w9)) := Lib.hid fun w2 h2 => ⟨(B.later h2).facts, (B.later h2).same D hS⟩
  obtain ⟨⟨h0, h1⟩, -⟩ := B.facts
  have HW := Lib.hid hW
  clear hW D hS B hno hn
  go_enter Try.func22, Try.ntmps22
  go_wp2_with fail
  rw [show (w.alloc (.cells #[.slice A n c, .int .i64 (p : Nat)] 36 (0, 0))).alloc (.cells #[.slice none 0 0, .int .i64 0] 36 (0, 0)) = W from HW.out]
  refine HA.out.mono ?_
  rintro x w2 ⟨rfl, hb2⟩
  obtain ⟨⟨⟨h0, h1⟩, ⟨m0, m0z⟩, m1, m1z⟩, w9, e9, q0, q1, HF9⟩ := HX.out w2 hb2
  clear hb2
  go_wp2
  refine bodyPost_ret (v := .tuple #[.agg #[.slice A n c, .int .i64 (p : Nat)], .int .i64 23]) (by simp [results, Try.results22, go_sem, q0, q1]) rfl ?_
  exact ⟨_, rfl, HF9.out⟩
end
end Go.Proofs.Ythblldojbgeknaa
