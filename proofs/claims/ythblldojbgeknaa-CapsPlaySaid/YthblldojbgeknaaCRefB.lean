/-
  Contracts: the document's put.
-/
import Derived.Test.YthblldojbgeknaaCRefA
import Derived.Test.YthblldojbgeknaaAppend
import Derived.Test.YthblldojbgeknaaInts
import Derived.Deep.RegionHeld3
import Derived.Test.YthblldojbgeknaaCWalksC
import Derived.Deep.DeepCutAuto
namespace Go.Proofs.Ythblldojbgeknaa
open Go.ChangeShapes Go.WideShapes Go.ChangeAt Go.RowKit

/-- append of capabilities onto a row of the call's own, at a step of a region that draws its order. -/
theorem step_rn (w : World) {ops : Array Oper} {o : Oper} {a : Act} {K : Act → World → Prop} {Q : Exit → Act → World → Prop} {F : Prop} (hgd : o.guard = none) (s x : Operand)
    (ho : o.op = .call { callee := .builtin .append, args := #[s, x], argTypes := #[34, 34] })
    (base : Nat) (v : Value) (n : Nat) (L : List Rn) (hs : a.eval s = v) (hown : w.ownsRow base 51 7 v n (rrow L))
    (ao : Option Addr) (m c : Nat) (M : List Rn) (hx : a.eval x = .slice ao m c) {T : Nat → Prop} (hr : DocIs T w ao m c M) (N : Nat) (hN : n + m = N) (hm : N ≤ 1000000) (hbase : base ≤ w.heap.size)
    (h : ∀ A cap w', w'.ownsRow base 51 7 (.slice A N cap) N (rrow (L ++ M)) → w.grownBy w' v.ownBlock → K (a.put o.dst (.slice A N cap)) w') :
    if Region.wanted o (yielded ops a.tmps) = true then Oper.wp Try.prog o a w K Q else F := by
  subst hN
  obtain ⟨i0, hi, hz0, hz1, hz2⟩ := info_parts info_node
  refine step_append_all w hgd s x 34 ho base 51 i0 (.agg #[.int .i64 0, .slice none 0 0, .int .i64 0, .int .i64 0, .int .i64 0, .int .i64 0, .int .i64 0]) 7 72 Try.underlying34 hi hz0 hz1 hz2 rfl (by decide) v n (rrow L) hs hown ao m c (rrow M) hx hr.nil (by rw [rrow_len, hr.len]) hr.news (rrow_one hr.ofs) (by unfold maxLen; omega) (by omega) hbase w.heap.size rfl ?_
  intro A cap w' h1 h2 _
  refine h A cap w' ?_ h2
  rw [rrow_two]
  exact h1
/-- One alone, just made. -/
theorem doc_one {S : Nat → Prop} {w' : World} {g : Nat} (x : Rn) (hb : w'.heap[g]? = some (.cells (rcell x).toArray 51)) (hg : S g) (ho : OfIs S w' x.ov x.of) : DocIs S w' (some ⟨g, 0, none⟩) 1 1 [x] := by
  refine ⟨rfl, Nat.le_refl _, (fun e => by cases e), fun _ => ⟨g, rfl, hg, fun j u hu => ?_⟩, fun y hy => ?_⟩
  · rw [rrow_sole] at hu
    simp only [World.cell?, hb]
    simpa using hu
  · simp only [List.mem_cons, List.not_mem_nil, or_false] at hy
    subst hy
    exact ho
/-- A list of the document's is handed back. -/
def DocB (S : Nat → Prop) (M : List Rn) (p : Nat) (w : World) (v : Value) (w' : World) : Prop := ∃ A n c, v = .agg #[.slice A n c, .int .i64 (p : Nat)] ∧ DocIs (Fresh S w w') w' A n c M ∧ Below w.heap.size w w'
section
variable {S : Nat → Prop} {w : World} {A : Option Addr} {n c p : Nat} {M : List Rn}
theorem doc_same {w' : World} (D : DocIs S w A n c M) (hS : ∀ k, S k → k < w.heap.size) (hb : Below w.heap.size w w') : DocB S M p w (.agg #[.slice A n c, .int .i64 (p : Nat)]) w' := ⟨A, n, c, rfl, D.kept (fun k hk => hb.block k (hS k hk)) (fun _ h => Or.inl h), hb⟩
/-- Boxes: the forest, a capability, the result. -/
structure Bxs (w : World) (A : Option Addr) (n c : Nat) (q : Int) (k o r : Int) (X Y : Value) (w' : World) : Prop where
  b0 : w'.heap[w.heap.size]? = some (.cells #[.slice A n c, .int .i64 q] 36 (0, 0))
  b1 : w'.heap[w.heap.size + 1]? = some (.cells #[.int .i64 k, .int .i64 o, .int .i64 r] 37 (0, 0))
  b2 : w'.heap[w.heap.size + 1 + 1]? = some (.cells #[X, Y] 36 (0, 0))
  below : Below w.heap.size w w'
  size : w.heap.size + 1 + 1 + 1 ≤ w'.heap.size
theorem Bxs.later {q k o r : Int} {X Y : Value} {w' w2 : World} (B : Bxs w A n c q k o r X Y w') (hb : Below w'.heap.size w' w2) : Bxs w A n c q k o r X Y w2 := by
  have hs := B.size
  exact ⟨(hb.block _ (by omega)).trans B.b0, (hb.block _ (by omega)).trans B.b1, (hb.block _ (by omega)).trans B.b2, B.below.trans (hb.mono B.below.size), Nat.le_trans hs hb.size⟩
theorem bx_cell {w : World} {g : Nat} {cs : Array Value} {T : TypeId} (hb : w.heap[g]? = some (.cells cs T (0, 0))) {j : Nat} {v : Value} (hv : cs[j]? = some v) : w.cell? ⟨g, j, none⟩ = some v ∧ w.frozen? ⟨g, j, none⟩ = false := by
  simp only [World.cell?, World.frozen?, hb]
  exact ⟨hv, rfl⟩
end
theorem one_new (w3 : World) (X : Obj) : Below w3.heap.size w3 (w3.alloc X).drew := ((Below.refl _ _).alloc (Nat.le_refl _) _).drew
theorem one_size (w3 : World) (X : Obj) : w3.heap.size ≤ (w3.alloc X).drew.heap.size := (one_new w3 X).size
theorem two_new (w3 : World) (X Y : Obj) : Below w3.heap.size w3 ((w3.alloc X).alloc Y).drew := (((Below.refl _ _).alloc (Nat.le_refl _) _).alloc (by simp) _).drew
theorem two_size (w3 : World) (X Y : Obj) : w3.heap.size ≤ ((w3.alloc X).alloc Y).drew.heap.size := (two_new w3 X Y).size
theorem grown_one {w3 w4 : World} {X : Obj} (z : (w3.alloc X).drew.grownBy w4 (some w3.heap.size)) : Below w3.heap.size w3 w4 := (one_new w3 X).grown z (one_size w3 X) (fun k hk => by cases hk; exact Nat.le_refl _)
theorem grown_two {w3 w4 : World} {X Y : Obj} (z : ((w3.alloc X).alloc Y).drew.grownBy w4 (some w3.heap.size)) : Below w3.heap.size w3 w4 ∧ w4.heap[w3.heap.size + 1]? = some Y := by
  refine ⟨(two_new w3 X Y).grown z (two_size w3 X Y) (fun k hk => by cases hk; exact Nat.le_refl _), ?_⟩
  have h1 : w3.heap.size + 1 < ((w3.alloc X).alloc Y).drew.heap.size := by
    show w3.heap.size + 1 < ((w3.alloc X).alloc Y).heap.size
    simp
  refine (z.block _ h1 (by intro e; injection e; omega)).trans ?_
  have := heap_alloc_new (w3.alloc X) Y
  have e : (w3.alloc X).heap.size = w3.heap.size + 1 := by simp
  rw [e] at this
  exact this
theorem grown_two2 {w3 w4 : World} {X Y : Obj} (z : ((w3.alloc Y).alloc X).drew.grownBy w4 (some (w3.heap.size + 1))) : Below w3.heap.size w3 w4 ∧ w4.heap[w3.heap.size]? = some Y := by
  refine ⟨(two_new w3 Y X).grown z (two_size w3 Y X) (fun k hk => by cases hk; exact Nat.le_succ _), ?_⟩
  have h1 : w3.heap.size < ((w3.alloc Y).alloc X).drew.heap.size := by
    show w3.heap.size < ((w3.alloc Y).alloc X).heap.size
    simp
    omega
  refine (z.block _ h1 (by intro e; injection e; omega)).trans ?_
  exact (Below.heap_alloc _ _ _ (by simp)).trans (heap_alloc_new w3 Y)
/-- Of S, or new behind three boxes. -/
def Past (S : Nat → Prop) (w w' : World) (k : Nat) : Prop := S k ∨ (w.heap.size + 1 + 1 + 1 ≤ k ∧ k < w'.heap.size)
/-- What the result's box is told as. -/
theorem box_end {S : Nat → Prop} {w w' : World} {A A0 : Option Addr} {n c n0 c0 : Nat} {q : Nat} {q0 k o r : Int} {X Y : Value} {M : List Rn} (B : Bxs w A0 n0 c0 q0 k o r X Y w') (D : DocIs (Past S w w') w' A n c M) (hS : ∀ k, S k → k < w.heap.size) : ∃ w9, (w'.setCell ⟨w.heap.size + 1 + 1, 0, none⟩ (.slice A n c)).setCell ⟨w.heap.size + 1 + 1, 1, none⟩ (.int .i64 (q : Nat)) = w9 ∧ w9.cell? ⟨w.heap.size + 1 + 1, 0, none⟩ = some (.slice A n c) ∧ w9.cell? ⟨w.heap.size + 1 + 1, 1, none⟩ = some (.int .i64 (q : Nat)) ∧ Hid (DocB S M q w (.agg #[.slice A n c, .int .i64 (q : Nat)]) w9) := by
  have hh := heap_setCell_same _ (w.heap.size + 1 + 1) 1 _ _ (.int .i64 (q : Nat)) (heap_setCell_same w' (w.heap.size + 1 + 1) 0 _ _ (.slice A n c) B.b2)
  refine ⟨_, rfl, (bx_cell hh rfl).1, (bx_cell hh rfl).1, Lib.hid ⟨A, n, c, rfl, ?_, (B.below.setCell (by show w.heap.size ≤ w.heap.size + 1 + 1; omega) _).setCell (by show w.heap.size ≤ w.heap.size + 1 + 1; omega) _⟩⟩
  refine D.kept (fun i hi => ?_) (fun i hi => ?_)
  · have hne : i ≠ w.heap.size + 1 + 1 := by
      rcases hi with hi | hi
      · have := hS i hi
        omega
      · omega
    exact (Below.heap_setCell _ _ _ _ hne).trans (Below.heap_setCell _ _ _ _ hne)
  · rcases hi with hi | hi
    · exact Or.inl hi
    · refine Or.inr ⟨by omega, ?_⟩
      have : ((w'.setCell ⟨w.heap.size + 1 + 1, 0, none⟩ (.slice A n c)).setCell ⟨w.heap.size + 1 + 1, 1, none⟩ (.int .i64 (q : Nat))).heap.size = w'.heap.size := by simp [World.setCell]
      rw [this]
      exact hi.2
/-- Only block b has changed since. -/
def Mid (w3 : World) (b : Nat) (w' : World) : Prop := Only (· = b) w3 w'
set_option maxRecDepth 100000 in
set_option maxHeartbeats 4000000 in
theorem rput_hit {S : Nat → Prop} {w : World} {A : Option Addr} {n c p : Nat} {M : List Rn} (D : DocIs S w A n c M) (hS : ∀ k, S k → k < w.heap.size) (hn : n ≤ 900) (hp : p < 1000000) {v : Value} {of : List Nat} (hv : OfIs S w v of) {e s : Nat} (he : e < 8) (hs : s < 16) (hno : fd (M.map Rn.nd) e s = none) (k o : Int) (r : Nat) :
    Calls Try.prog 40 #[.agg #[.slice A n c, .int .i64 (p : Nat)], v, .int .i64 (e : Nat), .int .i64 (s : Nat), .agg #[.int .i64 k, .int .i64 o, .int .i64 (r : Nat)]] w fun x w' => ∃ u, x = .returned (.tuple #[u, .int .i64 0]) ∧ DocB S (M ++ [⟨p + 1, of, v, e, s, k, o, r⟩]) (p + 1) w u w' := by
  obtain ⟨W, hW⟩ : ∃ W, ((w.alloc (.cells #[.slice A n c, .int .i64 (p : Nat)] 36 (0, 0))).alloc (.cells #[.int .i64 k, .int .i64 o, .int .i64 (r : Nat)] 37 (0, 0))).alloc (.cells #[.slice none 0 0, .int .i64 0] 36 (0, 0)) = W := ⟨_, rfl⟩
  have HB : Hid (Bxs w A n c (p : Nat) k o (r : Nat) (.slice none 0 0) (.int .i64 0) W) := Lib.hid (by
    rw [← hW]
    refine ⟨?_, ?_, ?_, below_new (Nat.le_refl _) (below_new (Nat.le_refl _) (below_new (Nat.le_refl _) (Below.refl _ w) _) _) _, by simp⟩
    · rw [Below.heap_alloc _ _ _ (by simp; omega), Below.heap_alloc _ _ _ (by simp)]
      exact heap_alloc_new w _
    · rw [Below.heap_alloc _ _ _ (by simp)]
      have := heap_alloc_new (w.alloc (.cells #[.slice A n c, .int .i64 (p : Nat)] 36 (0, 0))) (.cells #[.int .i64 k, .int .i64 o, .int .i64 (r : Nat)] 37 (0, 0))
      simpa using this
    · have := heap_alloc_new ((w.alloc (.cells #[.slice A n c, .int .i64 (p : Nat)] 36 (0, 0))).alloc (.cells #[.int .i64 k, .int .i64 o, .int .i64 (r : Nat)] 37 (0, 0))) (.cells #[.slice none 0 0, .int .i64 0] 36 (0, 0))
      simpa using this)
  have HI : Hid (∀ w, Calls Try.prog 49 #[.int .i64 (e : Nat), .int .i64 (s : Nat)] w fun r w' => r = .returned (.bool true) ∧ w = w') := Lib.hid fun w => by
    have h1 := rin_any (e : Nat) (s : Nat) w
    have h2 : inS (e : Nat) (s : Nat) = true := inS_iff.2 (by omega)
    rwa [h2] at h1
  have HD : Hid (∀ w', Below w.heap.size w w' → DocIs S w' A n c M) := Lib.hid fun w' hb => D.kept (fun k hk => hb.block k (hS k hk)) (fun _ h => h)
  have HO : Hid (∀ w', Below w.heap.size w w' → OfIs S w' v of) := Lib.hid fun w' hb => hv.kept (fun k hk => hb.block k (hS k hk)) (fun _ h => h)
  have HA : Hid (Calls Try.prog 14 #[.agg #[.slice A n c, .int .i64 (p : Nat)], .int .i64 (e : Nat), .int .i64 (s : Nat)] W fun x w' => x = .returned (.int .i64 (-1)) ∧ Below W.heap.size W w') := Lib.hid (by
    have h1 := rat_any (HD.out W HB.out.below) (fun k hk => Nat.lt_of_lt_of_le (hS k hk) HB.out.below.size) (by omega) (p : Nat) (e : Nat) (s : Nat)
    rwa [at_none hno] at h1)
  obtain ⟨vA, vn, vc, rfl, -⟩ := id hv
  have n0 : (0 : Int) ≤ p := by omega
  have n1 : (p : Int) < 1000000 := by omega
  have e0 := (bx_cell (j := 0) HB.out.b0 rfl).1
  have e1 := (bx_cell (j := 1) HB.out.b0 rfl).1
  have HW := Lib.hid hW
  have HlS := Lib.hid hS
  clear hW D hv hS
  go_enter Try.func40, Try.ntmps40
  go_wp2_with fail
  rw [show ((w.alloc (.cells #[.slice A n c, .int .i64 (p : Nat)] 36 (0, 0))).alloc (.cells #[.int .i64 k, .int .i64 o, .int .i64 (r : Nat)] 37 (0, 0))).alloc (.cells #[.slice none 0 0, .int .i64 0] 36 (0, 0)) = W from HW.out]
  refine (HI.out _).mono ?_
  rintro x w' ⟨rfl, rfl⟩
  go_wp2_with fail
  refine HA.out.mono ?_
  rintro x w2 ⟨rfl, hb2⟩
  have HB2 := Lib.hid (HB.out.later hb2)
  clear hb2 e0 e1
  obtain ⟨f1, f1z⟩ := bx_cell (j := 1) HB2.out.b0 rfl
  obtain ⟨w3, hw3⟩ : ∃ w3, w2.setCell ⟨w.heap.size, 1, none⟩ (.int .i64 ((p : Nat) + 1)) = w3 := ⟨_, rfl⟩
  have HB3 : Hid (Bxs w A n c ((p : Nat) + 1) k o (r : Nat) (.slice none 0 0) (.int .i64 0) w3) := Lib.hid (by
    have hs := HB2.out.size
    rw [← hw3]
    refine ⟨heap_setCell_same w2 _ 1 _ _ _ HB2.out.b0, (Below.heap_setCell _ _ _ _ (by show w.heap.size + 1 ≠ w.heap.size; omega)).trans HB2.out.b1, (Below.heap_setCell _ _ _ _ (by show w.heap.size + 1 + 1 ≠ w.heap.size; omega)).trans HB2.out.b2, HB2.out.below.setCell (Nat.le_refl _) _, by simpa [World.setCell] using hs⟩)
  have Hs3 := Lib.hid HB3.out.size
  obtain ⟨g0, g0z⟩ := bx_cell (j := 0) HB3.out.b0 rfl
  obtain ⟨g1, g1z⟩ := bx_cell (j := 1) HB3.out.b0 rfl
  obtain ⟨k0, -⟩ := bx_cell (j := 0) HB3.out.b1 rfl
  obtain ⟨k1, -⟩ := bx_cell (j := 1) HB3.out.b1 rfl
  obtain ⟨k2, -⟩ := bx_cell (j := 2) HB3.out.b1 rfl
  have HMb : Hid (∀ w', Below w3.heap.size w3 w' → Mid w3 w.heap.size w') := Lib.hid fun w' h => Only.of_below h
  have HMp : Hid (∀ w' v, Below w3.heap.size w3 w' → Mid w3 w.heap.size (w'.setCell ⟨w.heap.size, 0, none⟩ v)) := Lib.hid fun w' v h => Only.put (S := (· = w.heap.size)) (Only.of_below h) (p := ⟨w.heap.size, 0, none⟩) (Or.inl rfl) v
  have HS : Hid (∀ w', (∀ j, 1 ≤ j → w'.cell? ⟨w.heap.size, j, none⟩ = w3.cell? ⟨w.heap.size, j, none⟩) → Mid w3 w.heap.size w' → Mid w3 w.heap.size w' ∧ w'.cell? ⟨w.heap.size, 1, none⟩ = some (.int .i64 ((p : Nat) + 1)) ∧ w'.cell? ⟨w.heap.size + 1, 0, none⟩ = some (.int .i64 k) ∧ w'.cell? ⟨w.heap.size + 1, 1, none⟩ = some (.int .i64 o) ∧ w'.cell? ⟨w.heap.size + 1, 2, none⟩ = some (.int .i64 (r : Nat))) := Lib.hid fun w' h1 h => by
    have hs3 := Hs3.out
    have hn : ¬ w.heap.size + 1 = w.heap.size := by omega
    exact ⟨h, (h1 1 (Nat.le_refl _)).trans g1, (h.cell (by omega) hn 0).trans k0, (h.cell (by omega) hn 1).trans k1, (h.cell (by omega) hn 2).trans k2⟩
  have HSb : Hid (∀ w', Below w3.heap.size w3 w' → Mid w3 w.heap.size w' ∧ w'.cell? ⟨w.heap.size, 1, none⟩ = some (.int .i64 ((p : Nat) + 1)) ∧ w'.cell? ⟨w.heap.size + 1, 0, none⟩ = some (.int .i64 k) ∧ w'.cell? ⟨w.heap.size + 1, 1, none⟩ = some (.int .i64 o) ∧ w'.cell? ⟨w.heap.size + 1, 2, none⟩ = some (.int .i64 (r : Nat))) := Lib.hid fun w' h => HS.out w' (fun j _ => h.cell (p := ⟨w.heap.size, j, none⟩) (by have := Hs3.out; show w.heap.size < _; omega)) (HMb.out w' h)
  have HSp : Hid (∀ w' v, Below w3.heap.size w3 w' → Mid w3 w.heap.size (w'.setCell ⟨w.heap.size, 0, none⟩ v) ∧ (w'.setCell ⟨w.heap.size, 0, none⟩ v).cell? ⟨w.heap.size, 1, none⟩ = some (.int .i64 ((p : Nat) + 1)) ∧ (w'.setCell ⟨w.heap.size, 0, none⟩ v).cell? ⟨w.heap.size + 1, 0, none⟩ = some (.int .i64 k) ∧ (w'.setCell ⟨w.heap.size, 0, none⟩ v).cell? ⟨w.heap.size + 1, 1, none⟩ = some (.int .i64 o) ∧ (w'.setCell ⟨w.heap.size, 0, none⟩ v).cell? ⟨w.heap.size + 1, 2, none⟩ = some (.int .i64 (r : Nat))) := Lib.hid fun w' v h => HS.out _ (fun j hj => by
    have h1 := h.cell (p := ⟨w.heap.size, j, none⟩) (by have := Hs3.out; show w.heap.size < _; omega)
    rw [← h1]
    have h2 := (HB3.out.later h).b0
    have h3 := heap_setCell_same w' w.heap.size 0 _ _ v h2
    simp only [World.cell?, h2, h3]
    match j, hj with
    | 1, _ => rfl
    | j + 2, _ => rfl) (HMp.out w' v h)
  have HSl : Hid (∀ w', Below w3.heap.size w3 w' → w.heap.size < w'.heap.size ∧ w.heap.size + 1 < w'.heap.size ∧ w'.cell? ⟨w.heap.size, 1, none⟩ = some (.int .i64 ((p : Nat) + 1)) ∧ w'.cell? ⟨w.heap.size + 1, 0, none⟩ = some (.int .i64 k) ∧ w'.cell? ⟨w.heap.size + 1, 1, none⟩ = some (.int .i64 o) ∧ w'.cell? ⟨w.heap.size + 1, 2, none⟩ = some (.int .i64 (r : Nat))) := Lib.hid fun w' h => ⟨by have := Hs3.out; have := h.size; omega, by have := Hs3.out; have := h.size; omega, (HSb.out w' h).2⟩
  have HSt : Hid (∀ w', Below w3.heap.size w3 w' → w'.cell? ⟨w.heap.size, 0, none⟩ = some (.slice A n c) ∧ w'.frozen? ⟨w.heap.size, 0, none⟩ = false) := Lib.hid fun w' h => bx_cell (HB3.out.later h).b0 rfl
  obtain ⟨x, hx⟩ : ∃ x : Rn, x = ⟨p + 1, of, .slice vA vn vc, e, s, k, o, r⟩ := ⟨_, rfl⟩
  have HXc : Hid ((rcell x).toArray = #[.int .i64 ((p : Nat) + 1), .slice vA vn vc, .int .i64 (e : Nat), .int .i64 (s : Nat), .int .i64 k, .int .i64 o, .int .i64 (r : Nat)]) := Lib.hid (by
    rw [hx]
    simp [rcell])
  have HXo : Hid (x.ov = .slice vA vn vc ∧ x.of = of) := Lib.hid (by rw [hx]; exact ⟨rfl, rfl⟩)
  have HF : Hid (∀ (A2 : Option Addr) (c2 : Nat) (w5 : World), Below w3.heap.size w3 w5 → w5.ownsRow w3.heap.size 51 7 (.slice A2 (n + 1) c2) (n + 1) (rrow (([] ++ M) ++ [x])) → ∃ A' c', Bxs w A' (n + 1) c' ((p : Nat) + 1) k o (r : Nat) (.slice none 0 0) (.int .i64 0) (w5.setCell ⟨w.heap.size, 0, none⟩ (.slice A2 (n + 1) c2)) ∧ DocIs (Past S w (w5.setCell ⟨w.heap.size, 0, none⟩ (.slice A2 (n + 1) c2))) (w5.setCell ⟨w.heap.size, 0, none⟩ (.slice A2 (n + 1) c2)) A' (n + 1) c' (M ++ [x])) := Lib.hid fun A2 c2 w5 h5 hrow => by
    have B := HB3.out.later h5
    have hs3 := Hs3.out
    have hsz := h5.size
    rw [List.nil_append] at hrow
    have hofs : ∀ y ∈ M ++ [x], OfIs (fun k => S k ∨ (w3.heap.size ≤ k ∧ k < w5.heap.size)) w5 y.ov y.of := fun y hy => by
      rcases List.mem_append.1 hy with hy | hy
      · exact ((HD.out w5 B.below).ofs y hy).kept (fun _ _ => rfl) (fun _ h => Or.inl h)
      · simp only [List.mem_cons, List.not_mem_nil, or_false] at hy
        subst hy
        rw [HXo.out.1, HXo.out.2]
        exact (HO.out w5 B.below).kept (fun _ _ => rfl) (fun _ h => Or.inl h)
    have D5 := DocIs.own (S := fun k => S k ∨ (w3.heap.size ≤ k ∧ k < w5.heap.size)) hrow (fun k h1 h2 => Or.inr ⟨h1, h2⟩) hofs
    refine ⟨A2, c2, ⟨heap_setCell_same w5 _ 0 _ _ _ B.b0, (Below.heap_setCell _ _ _ _ (by show w.heap.size + 1 ≠ w.heap.size; omega)).trans B.b1, (Below.heap_setCell _ _ _ _ (by show w.heap.size + 1 + 1 ≠ w.heap.size; omega)).trans B.b2, B.below.setCell (Nat.le_refl _) _, by have := B.size; simpa [World.setCell] using this⟩, ?_⟩
    refine D5.kept (fun k hk => Below.heap_setCell _ _ _ _ ?_) (fun k hk => ?_)
    · show k ≠ w.heap.size
      rcases hk with hk | hk
      · have := HlS.out k hk
        omega
      · omega
    · rcases hk with hk | hk
      · exact Or.inl hk
      · refine Or.inr ⟨by omega, ?_⟩
        have : (w5.setCell ⟨w.heap.size, 0, none⟩ (.slice A2 (n + 1) c2)).heap.size = w5.heap.size := by simp [World.setCell]
        rw [this]
        exact hk.2
  have HDb : Hid (∀ w', Below w3.heap.size w3 w' → DocIs S w' A n c M) := Lib.hid fun w' h => HD.out w' (HB3.out.later h).below
  have HOb : Hid (∀ w', Below w3.heap.size w3 w' → OfIs S w' x.ov x.of) := Lib.hid fun w' h => by
    rw [HXo.out.1, HXo.out.2]
    exact HO.out w' (HB3.out.later h).below
  have HN1 : Hid (∀ (w4 : World) (g : Nat), Below w3.heap.size w3 w4 → w4.heap[g]? = some (.cells #[.int .i64 ((p : Nat) + 1), .slice vA vn vc, .int .i64 (e : Nat), .int .i64 (s : Nat), .int .i64 k, .int .i64 o, .int .i64 (r : Nat)] 51) → DocIs (fun k => S k ∨ k = g) w4 (some ⟨g, 0, none⟩) 1 1 [x]) := Lib.hid fun w4 g h4 hg => doc_one x (by rw [HXc.out]; exact hg) (Or.inr rfl) ((HOb.out w4 h4).kept (fun _ _ => rfl) (fun _ h => Or.inl h))
  have l0 := Hs3.out
  have l1 : w.heap.size < w3.heap.size := by omega
  have l2 : w.heap.size + 1 < w3.heap.size := by omega
  have HXq : Hid (x = ⟨p + 1, of, .slice vA vn vc, e, s, k, o, r⟩) := Lib.hid hx
  have HXp : Hid (((p : Nat) : Int) + 1 = ((p + 1 : Nat) : Int)) := Lib.hid (by simp)
  clear hx l0
  go_upto_region 6 with (fail)
  go_cut [11] from 27 to 40 (fun u wx => u = .int .i64 0 ∧ ∃ A' c', Bxs w A' (n + 1) c' ((p : Nat) + 1) k o (r : Nat) (.slice none 0 0) (.int .i64 0) wx ∧ DocIs (Past S w wx) wx A' (n + 1) c' (M ++ [x]))
  case first =>
    -- REGION
    refine wp_region_held_drew (S := fun w' => Mid w3 w.heap.size w' ∧ w'.cell? ⟨w.heap.size, 1, none⟩ = some (.int .i64 ((p : Nat) + 1)) ∧ w'.cell? ⟨w.heap.size + 1, 0, none⟩ = some (.int .i64 k) ∧ w'.cell? ⟨w.heap.size + 1, 1, none⟩ = some (.int .i64 o) ∧ w'.cell? ⟨w.heap.size + 1, 2, none⟩ = some (.int .i64 (r : Nat))) (by kernel_rfl) ?_ (fun hHeld => ?_)
    · exact HSb.out _ (Below.refl _ _).drew
    refine wpAnyH_take (i := 1) (oi := _) (v := ?v0) rfl (by kernel_rfl) (by kernel_rfl) (by kernel_rfl) (fun _ _ _ h => h) (Or.inl ⟨by rfl, ?h0⟩) hHeld ?r0
    case h0 => (intro w0 hSw; (try dsimp only at hSw); go_simp; first | done | with_reducible rfl)
    case r0 =>
    try simp only [Act.put, List.getElem_toArray, List.getElem_cons_succ, List.getElem_cons_zero, List.setIfInBounds_toArray, List.set_cons_zero, List.set_cons_succ]
    refine wpAnyH_take (i := 4) (oi := _) (v := ?v1) rfl (by kernel_rfl) (by kernel_rfl) (by kernel_rfl) (fun _ _ _ h => h) (Or.inl ⟨by rfl, ?h1⟩) hHeld ?r1
    case h1 => (intro w0 hSw; (try dsimp only at hSw); go_simp; first | done | with_reducible rfl)
    case r1 =>
    try simp only [Act.put, List.getElem_toArray, List.getElem_cons_succ, List.getElem_cons_zero, List.setIfInBounds_toArray, List.set_cons_zero, List.set_cons_succ]
    refine wpAnyH_take (i := 5) (oi := _) (v := ?v2) rfl (by kernel_rfl) (by kernel_rfl) (by kernel_rfl) (fun _ _ _ h => h) (Or.inl ⟨by rfl, ?h2⟩) hHeld ?r2
    case h2 => (intro w0 hSw; (try dsimp only at hSw); go_simp; first | done | with_reducible rfl)
    case r2 =>
    try simp only [Act.put, List.getElem_toArray, List.getElem_cons_succ, List.getElem_cons_zero, List.setIfInBounds_toArray, List.set_cons_zero, List.set_cons_succ]
    refine wpAnyH_take (i := 6) (oi := _) (v := ?v3) rfl (by kernel_rfl) (by kernel_rfl) (by kernel_rfl) (fun _ _ _ h => h) (Or.inl ⟨by rfl, ?h3⟩) hHeld ?r3
    case h3 => (intro w0 hSw; (try dsimp only at hSw); go_simp; first | done | with_reducible rfl)
    case r3 =>
    try simp only [Act.put, List.getElem_toArray, List.getElem_cons_succ, List.getElem_cons_zero, List.setIfInBounds_toArray, List.set_cons_zero, List.set_cons_succ]
    refine wpAnyH_take (i := 7) (oi := _) (v := ?v4) rfl (by kernel_rfl) (by kernel_rfl) (by kernel_rfl) (fun _ _ _ h => h) (Or.inl ⟨by rfl, ?h4⟩) hHeld ?r4
    case h4 => (intro w0 hSw; (try dsimp only at hSw); go_simp; first | done | with_reducible rfl)
    case r4 =>
    try simp only [Act.put, List.getElem_toArray, List.getElem_cons_succ, List.getElem_cons_zero, List.setIfInBounds_toArray, List.set_cons_zero, List.set_cons_succ]
    refine wpAnyH_take (i := 8) (oi := _) (v := ?v5) rfl (by kernel_rfl) (by kernel_rfl) (by kernel_rfl) (fun _ _ _ h => h) (Or.inl ⟨by rfl, ?h5⟩) hHeld ?r5
    case h5 => (intro w0 hSw; (try dsimp only at hSw); go_simp; first | done | with_reducible rfl)
    case r5 =>
    try simp only [Act.put, List.getElem_toArray, List.getElem_cons_succ, List.getElem_cons_zero, List.setIfInBounds_toArray, List.set_cons_zero, List.set_cons_succ]
    refine wpAnyH_take (i := 9) (oi := _) (v := ?v6) rfl (by kernel_rfl) (by kernel_rfl) (by kernel_rfl) (fun _ _ _ h => h) (Or.inl ⟨by rfl, ?h6⟩) hHeld ?r6
    case h6 => (intro w0 hSw; (try dsimp only at hSw); go_simp; first | done | with_reducible rfl)
    case r6 =>
    try simp only [Act.put, List.getElem_toArray, List.getElem_cons_succ, List.getElem_cons_zero, List.setIfInBounds_toArray, List.set_cons_zero, List.set_cons_succ]
    refine wpAnyH_take (i := 10) (oi := _) (v := ?v7) rfl (by kernel_rfl) (by kernel_rfl) (by kernel_rfl) (fun _ _ _ h => h) (Or.inl ⟨by rfl, ?h7⟩) hHeld ?r7
    case h7 => (intro w0 hSw; (try dsimp only at hSw); go_simp; first | done | with_reducible rfl)
    case r7 =>
    try simp only [Act.put, List.getElem_toArray, List.getElem_cons_succ, List.getElem_cons_zero, List.setIfInBounds_toArray, List.set_cons_zero, List.set_cons_succ]
    refine wpAnyH_ready (rs := [0, 2, 11]) (by kernel_rfl) (by simp) ?_
    refine AllReadyH.cons (o := _) rfl (fun K hK => ?_) (AllReadyH.cons (o := _) rfl (fun K hK => ?_) (AllReadyH.cons (o := _) rfl (fun K hK => ?_) AllReadyH.nil))
    · go_simp
      refine hK.out _ _ ?_ (fun hHeld => ?_)
      · exact HSb.out _ (by first | exact one_new _ _ | exact two_new _ _ _ | exact below_new (Nat.le_refl _) G1.out _ | exact (Below.refl _ _).drew | exact G1.out)
      clear hK K
      try simp only [Act.put, List.getElem_toArray, List.getElem_cons_succ, List.getElem_cons_zero, List.setIfInBounds_toArray, List.set_cons_zero, List.set_cons_succ]
      refine wpAnyH_ready (rs := [2, 11]) (by kernel_rfl) (by simp) ?_
      refine AllReadyH.cons (o := _) rfl (fun K hK => ?_) (AllReadyH.cons (o := _) rfl (fun K hK => ?_) AllReadyH.nil)
      · go_simp
        refine hK.out _ _ ?_ (fun hHeld => ?_)
        · exact HSb.out _ (by first | exact one_new _ _ | exact two_new _ _ _ | exact below_new (Nat.le_refl _) G1.out _ | exact (Below.refl _ _).drew | exact G1.out)
        clear hK K
        try simp only [Act.put, List.getElem_toArray, List.getElem_cons_succ, List.getElem_cons_zero, List.setIfInBounds_toArray, List.set_cons_zero, List.set_cons_succ]
        refine wpAnyH_ready (rs := [3, 11]) (by kernel_rfl) (by simp) ?_
        refine AllReadyH.cons (o := _) rfl (fun K hK => ?_) (AllReadyH.cons (o := _) rfl (fun K hK => ?_) AllReadyH.nil)
        · refine step_rn (w3.alloc (.cells #[] 51)).drew (by rfl) (.tmp 27) (.tmp 29) (by rfl) w3.heap.size (.slice (some ⟨w3.heap.size, 0, none⟩) 0 0) 0 [] (by rfl) (own_drew (own_empty (Nat.le_refl _))) A n c M (by rfl) (T := S) (HDb.out _ (one_new _ _)) n (by omega) (by omega) (one_size _ _) ?_
          intro A1 cap1 w4 X1 z1
          have G1 := Lib.hid (grown_one z1)
          clear z1
          refine hK.out _ _ ?_ (fun hHeld => ?_)
          · exact HSb.out _ (G1.out)
          clear hK K
          try simp only [Act.put, List.getElem_toArray, List.getElem_cons_succ, List.getElem_cons_zero, List.setIfInBounds_toArray, List.set_cons_zero, List.set_cons_succ]
          refine wpAnyH_ready (rs := [11]) (by kernel_rfl) (by simp) ?_
          refine AllReadyH.cons (o := _) rfl (fun K hK => ?_) AllReadyH.nil
          · go_simp
            refine hK.out _ _ ?_ (fun hHeld => ?_)
            · exact HSb.out _ (by first | exact one_new _ _ | exact two_new _ _ _ | exact below_new (Nat.le_refl _) G1.out _ | exact (Below.refl _ _).drew | exact G1.out)
            clear hK K
            try simp only [Act.put, List.getElem_toArray, List.getElem_cons_succ, List.getElem_cons_zero, List.setIfInBounds_toArray, List.set_cons_zero, List.set_cons_succ]
            refine wpAnyH_ready (rs := [12]) (by kernel_rfl) (by simp) ?_
            refine AllReadyH.cons (o := _) rfl (fun K hK => ?_) AllReadyH.nil
            · refine step_rn (w4.alloc (.cells #[.int .i64 ((p : Nat) + 1), .slice vA vn vc, .int .i64 (e : Nat), .int .i64 (s : Nat), .int .i64 k, .int .i64 o, .int .i64 (r : Nat)] 51)) (by rfl) (.tmp 30) (.tmp 38) (by rfl) w3.heap.size (.slice A1 n cap1) n ([] ++ M) (by rfl) (X1.alloc _) (some ⟨w4.heap.size, 0, none⟩) 1 1 [x] (by rfl) (HN1.out _ w4.heap.size (G1.out.alloc G1.out.size _) (heap_alloc_new w4 _)) (n + 1) (by omega) (by omega) (size_kept (Nat.le_refl _) (G1.out.alloc G1.out.size _)) ?_
              intro A2 cap2 w5 X2 z2
              have G2 := Lib.hid ((G1.out.alloc G1.out.size _).grown z2 (size_kept (Nat.le_refl _) (G1.out.alloc G1.out.size _)) (fun k hk => (X1.lt k hk).1))
              obtain ⟨st0, st1⟩ := HSt.out w5 G2.out
              clear z2
              refine hK.out _ _ ?_ (fun hHeld => ?_)
              · exact HSb.out _ (G2.out)
              clear hK K
              try simp only [Act.put, List.getElem_toArray, List.getElem_cons_succ, List.getElem_cons_zero, List.setIfInBounds_toArray, List.set_cons_zero, List.set_cons_succ]
              refine wpAnyH_take (i := 13) (oi := _) (v := ?v8) rfl (by kernel_rfl) (by kernel_rfl) (by kernel_rfl) (fun _ _ _ h => h) (Or.inl ⟨by rfl, ?h8⟩) hHeld ?r8
              case h8 => (intro w0 hSw; (try dsimp only at hSw); go_simp; first | done | with_reducible rfl)
              case r8 =>
              try simp only [Act.put, List.getElem_toArray, List.getElem_cons_succ, List.getElem_cons_zero, List.setIfInBounds_toArray, List.set_cons_zero, List.set_cons_succ]
              refine wpAnyH_ready (rs := [14]) (by kernel_rfl) (by simp) ?_
              refine AllReadyH.cons (o := _) rfl (fun K hK => ?_) AllReadyH.nil
              go_simp
              refine hK.out _ _ ?_ (fun hHeld => ?_)
              · exact HSp.out _ _ G2.out
              clear hK K
              refine wpAnyH_done (by kernel_rfl) ?_ _
              go_wp2_with fail
              go_meet
              exact ⟨rfl, HF.out _ _ _ G2.out X2⟩
        · go_simp
          refine hK.out _ _ ?_ (fun hHeld => ?_)
          · exact HSb.out _ (by first | exact one_new _ _ | exact two_new _ _ _ | exact below_new (Nat.le_refl _) G1.out _ | exact (Below.refl _ _).drew | exact G1.out)
          clear hK K
          try simp only [Act.put, List.getElem_toArray, List.getElem_cons_succ, List.getElem_cons_zero, List.setIfInBounds_toArray, List.set_cons_zero, List.set_cons_succ]
          refine wpAnyH_ready (rs := [3]) (by kernel_rfl) (by simp) ?_
          refine AllReadyH.cons (o := _) rfl (fun K hK => ?_) AllReadyH.nil
          · refine step_rn ((w3.alloc (.cells #[] 51)).alloc (.cells #[.int .i64 ((p : Nat) + 1), .slice vA vn vc, .int .i64 (e : Nat), .int .i64 (s : Nat), .int .i64 k, .int .i64 o, .int .i64 (r : Nat)] 51)).drew (by rfl) (.tmp 27) (.tmp 29) (by rfl) w3.heap.size (.slice (some ⟨w3.heap.size, 0, none⟩) 0 0) 0 [] (by rfl) (own_drew ((own_empty (Nat.le_refl _)).alloc _)) A n c M (by rfl) (T := S) (HDb.out _ (two_new _ _ _)) n (by omega) (by omega) (two_size _ _ _) ?_
            intro A1 cap1 w4 X1 z1
            obtain ⟨u1, u2⟩ := grown_two z1
            have G1 := Lib.hid u1
            have K1 := Lib.hid (HN1.out w4 (w3.heap.size + 1) G1.out u2)
            clear z1 u1 u2
            refine hK.out _ _ ?_ (fun hHeld => ?_)
            · exact HSb.out _ (G1.out)
            clear hK K
            try simp only [Act.put, List.getElem_toArray, List.getElem_cons_succ, List.getElem_cons_zero, List.setIfInBounds_toArray, List.set_cons_zero, List.set_cons_succ]
            refine wpAnyH_ready (rs := [12]) (by kernel_rfl) (by simp) ?_
            refine AllReadyH.cons (o := _) rfl (fun K hK => ?_) AllReadyH.nil
            · refine step_rn w4 (by rfl) (.tmp 30) (.tmp 38) (by rfl) w3.heap.size (.slice A1 n cap1) n ([] ++ M) (by rfl) X1 _ 1 1 [x] (by rfl) K1.out (n + 1) (by omega) (by omega) G1.out.size ?_
              intro A2 cap2 w5 X2 z2
              have G2 := Lib.hid (G1.out.grown z2 G1.out.size (fun k hk => (X1.lt k hk).1))
              obtain ⟨st0, st1⟩ := HSt.out w5 G2.out
              clear z2
              refine hK.out _ _ ?_ (fun hHeld => ?_)
              · exact HSb.out _ (G2.out)
              clear hK K
              try simp only [Act.put, List.getElem_toArray, List.getElem_cons_succ, List.getElem_cons_zero, List.setIfInBounds_toArray, List.set_cons_zero, List.set_cons_succ]
              refine wpAnyH_take (i := 13) (oi := _) (v := ?v9) rfl (by kernel_rfl) (by kernel_rfl) (by kernel_rfl) (fun _ _ _ h => h) (Or.inl ⟨by rfl, ?h9⟩) hHeld ?r9
              case h9 => (intro w0 hSw; (try dsimp only at hSw); go_simp; first | done | with_reducible rfl)
              case r9 =>
              try simp only [Act.put, List.getElem_toArray, List.getElem_cons_succ, List.getElem_cons_zero, List.setIfInBounds_toArray, List.set_cons_zero, List.set_cons_succ]
              refine wpAnyH_ready (rs := [14]) (by kernel_rfl) (by simp) ?_
              refine AllReadyH.cons (o := _) rfl (fun K hK => ?_) AllReadyH.nil
              go_simp
              refine hK.out _ _ ?_ (fun hHeld => ?_)
              · exact HSp.out _ _ G2.out
              clear hK K
              refine wpAnyH_done (by kernel_rfl) ?_ _
              go_wp2_with fail
              go_meet
              exact ⟨rfl, HF.out _ _ _ G2.out X2⟩
      · go_simp
        refine hK.out _ _ ?_ (fun hHeld => ?_)
        · exact HSb.out _ (by first | exact one_new _ _ | exact two_new _ _ _ | exact below_new (Nat.le_refl _) G1.out _ | exact (Below.refl _ _).drew | exact G1.out)
        clear hK K
        try simp only [Act.put, List.getElem_toArray, List.getElem_cons_succ, List.getElem_cons_zero, List.setIfInBounds_toArray, List.set_cons_zero, List.set_cons_succ]
        refine wpAnyH_ready (rs := [2]) (by kernel_rfl) (by simp) ?_
        refine AllReadyH.cons (o := _) rfl (fun K hK => ?_) AllReadyH.nil
        · go_simp
          refine hK.out _ _ ?_ (fun hHeld => ?_)
          · exact HSb.out _ (by first | exact one_new _ _ | exact two_new _ _ _ | exact below_new (Nat.le_refl _) G1.out _ | exact (Below.refl _ _).drew | exact G1.out)
          clear hK K
          try simp only [Act.put, List.getElem_toArray, List.getElem_cons_succ, List.getElem_cons_zero, List.setIfInBounds_toArray, List.set_cons_zero, List.set_cons_succ]
          refine wpAnyH_ready (rs := [3]) (by kernel_rfl) (by simp) ?_
          refine AllReadyH.cons (o := _) rfl (fun K hK => ?_) AllReadyH.nil
          · refine step_rn ((w3.alloc (.cells #[] 51)).alloc (.cells #[.int .i64 ((p : Nat) + 1), .slice vA vn vc, .int .i64 (e : Nat), .int .i64 (s : Nat), .int .i64 k, .int .i64 o, .int .i64 (r : Nat)] 51)).drew (by rfl) (.tmp 27) (.tmp 29) (by rfl) w3.heap.size (.slice (some ⟨w3.heap.size, 0, none⟩) 0 0) 0 [] (by rfl) (own_drew ((own_empty (Nat.le_refl _)).alloc _)) A n c M (by rfl) (T := S) (HDb.out _ (two_new _ _ _)) n (by omega) (by omega) (two_size _ _ _) ?_
            intro A1 cap1 w4 X1 z1
            obtain ⟨u1, u2⟩ := grown_two z1
            have G1 := Lib.hid u1
            have K1 := Lib.hid (HN1.out w4 (w3.heap.size + 1) G1.out u2)
            clear z1 u1 u2
            refine hK.out _ _ ?_ (fun hHeld => ?_)
            · exact HSb.out _ (G1.out)
            clear hK K
            try simp only [Act.put, List.getElem_toArray, List.getElem_cons_succ, List.getElem_cons_zero, List.setIfInBounds_toArray, List.set_cons_zero, List.set_cons_succ]
            refine wpAnyH_ready (rs := [12]) (by kernel_rfl) (by simp) ?_
            refine AllReadyH.cons (o := _) rfl (fun K hK => ?_) AllReadyH.nil
            · refine step_rn w4 (by rfl) (.tmp 30) (.tmp 38) (by rfl) w3.heap.size (.slice A1 n cap1) n ([] ++ M) (by rfl) X1 _ 1 1 [x] (by rfl) K1.out (n + 1) (by omega) (by omega) G1.out.size ?_
              intro A2 cap2 w5 X2 z2
              have G2 := Lib.hid (G1.out.grown z2 G1.out.size (fun k hk => (X1.lt k hk).1))
              obtain ⟨st0, st1⟩ := HSt.out w5 G2.out
              clear z2
              refine hK.out _ _ ?_ (fun hHeld => ?_)
              · exact HSb.out _ (G2.out)
              clear hK K
              try simp only [Act.put, List.getElem_toArray, List.getElem_cons_succ, List.getElem_cons_zero, List.setIfInBounds_toArray, List.set_cons_zero, List.set_cons_succ]
              refine wpAnyH_take (i := 13) (oi := _) (v := ?v10) rfl (by kernel_rfl) (by kernel_rfl) (by kernel_rfl) (fun _ _ _ h => h) (Or.inl ⟨by rfl, ?h10⟩) hHeld ?r10
              case h10 => (intro w0 hSw; (try dsimp only at hSw); go_simp; first | done | with_reducible rfl)
              case r10 =>
              try simp only [Act.put, List.getElem_toArray, List.getElem_cons_succ, List.getElem_cons_zero, List.setIfInBounds_toArray, List.set_cons_zero, List.set_cons_succ]
              refine wpAnyH_ready (rs := [14]) (by kernel_rfl) (by simp) ?_
              refine AllReadyH.cons (o := _) rfl (fun K hK => ?_) AllReadyH.nil
              go_simp
              refine hK.out _ _ ?_ (fun hHeld => ?_)
              · exact HSp.out _ _ G2.out
              clear hK K
              refine wpAnyH_done (by kernel_rfl) ?_ _
              go_wp2_with fail
              go_meet
              exact ⟨rfl, HF.out _ _ _ G2.out X2⟩
    · go_simp
      refine hK.out _ _ ?_ (fun hHeld => ?_)
      · exact HSb.out _ (by first | exact one_new _ _ | exact two_new _ _ _ | exact below_new (Nat.le_refl _) G1.out _ | exact (Below.refl _ _).drew | exact G1.out)
      clear hK K
      try simp only [Act.put, List.getElem_toArray, List.getElem_cons_succ, List.getElem_cons_zero, List.setIfInBounds_toArray, List.set_cons_zero, List.set_cons_succ]
      refine wpAnyH_ready (rs := [0, 11]) (by kernel_rfl) (by simp) ?_
      refine AllReadyH.cons (o := _) rfl (fun K hK => ?_) (AllReadyH.cons (o := _) rfl (fun K hK => ?_) AllReadyH.nil)
      · go_simp
        refine hK.out _ _ ?_ (fun hHeld => ?_)
        · exact HSb.out _ (by first | exact one_new _ _ | exact two_new _ _ _ | exact below_new (Nat.le_refl _) G1.out _ | exact (Below.refl _ _).drew | exact G1.out)
        clear hK K
        try simp only [Act.put, List.getElem_toArray, List.getElem_cons_succ, List.getElem_cons_zero, List.setIfInBounds_toArray, List.set_cons_zero, List.set_cons_succ]
        refine wpAnyH_ready (rs := [3, 11]) (by kernel_rfl) (by simp) ?_
        refine AllReadyH.cons (o := _) rfl (fun K hK => ?_) (AllReadyH.cons (o := _) rfl (fun K hK => ?_) AllReadyH.nil)
        · refine step_rn (w3.alloc (.cells #[] 51)).drew (by rfl) (.tmp 27) (.tmp 29) (by rfl) w3.heap.size (.slice (some ⟨w3.heap.size, 0, none⟩) 0 0) 0 [] (by rfl) (own_drew (own_empty (Nat.le_refl _))) A n c M (by rfl) (T := S) (HDb.out _ (one_new _ _)) n (by omega) (by omega) (one_size _ _) ?_
          intro A1 cap1 w4 X1 z1
          have G1 := Lib.hid (grown_one z1)
          clear z1
          refine hK.out _ _ ?_ (fun hHeld => ?_)
          · exact HSb.out _ (G1.out)
          clear hK K
          try simp only [Act.put, List.getElem_toArray, List.getElem_cons_succ, List.getElem_cons_zero, List.setIfInBounds_toArray, List.set_cons_zero, List.set_cons_succ]
          refine wpAnyH_ready (rs := [11]) (by kernel_rfl) (by simp) ?_
          refine AllReadyH.cons (o := _) rfl (fun K hK => ?_) AllReadyH.nil
          · go_simp
            refine hK.out _ _ ?_ (fun hHeld => ?_)
            · exact HSb.out _ (by first | exact one_new _ _ | exact two_new _ _ _ | exact below_new (Nat.le_refl _) G1.out _ | exact (Below.refl _ _).drew | exact G1.out)
            clear hK K
            try simp only [Act.put, List.getElem_toArray, List.getElem_cons_succ, List.getElem_cons_zero, List.setIfInBounds_toArray, List.set_cons_zero, List.set_cons_succ]
            refine wpAnyH_ready (rs := [12]) (by kernel_rfl) (by simp) ?_
            refine AllReadyH.cons (o := _) rfl (fun K hK => ?_) AllReadyH.nil
            · refine step_rn (w4.alloc (.cells #[.int .i64 ((p : Nat) + 1), .slice vA vn vc, .int .i64 (e : Nat), .int .i64 (s : Nat), .int .i64 k, .int .i64 o, .int .i64 (r : Nat)] 51)) (by rfl) (.tmp 30) (.tmp 38) (by rfl) w3.heap.size (.slice A1 n cap1) n ([] ++ M) (by rfl) (X1.alloc _) (some ⟨w4.heap.size, 0, none⟩) 1 1 [x] (by rfl) (HN1.out _ w4.heap.size (G1.out.alloc G1.out.size _) (heap_alloc_new w4 _)) (n + 1) (by omega) (by omega) (size_kept (Nat.le_refl _) (G1.out.alloc G1.out.size _)) ?_
              intro A2 cap2 w5 X2 z2
              have G2 := Lib.hid ((G1.out.alloc G1.out.size _).grown z2 (size_kept (Nat.le_refl _) (G1.out.alloc G1.out.size _)) (fun k hk => (X1.lt k hk).1))
              obtain ⟨st0, st1⟩ := HSt.out w5 G2.out
              clear z2
              refine hK.out _ _ ?_ (fun hHeld => ?_)
              · exact HSb.out _ (G2.out)
              clear hK K
              try simp only [Act.put, List.getElem_toArray, List.getElem_cons_succ, List.getElem_cons_zero, List.setIfInBounds_toArray, List.set_cons_zero, List.set_cons_succ]
              refine wpAnyH_take (i := 13) (oi := _) (v := ?v11) rfl (by kernel_rfl) (by kernel_rfl) (by kernel_rfl) (fun _ _ _ h => h) (Or.inl ⟨by rfl, ?h11⟩) hHeld ?r11
              case h11 => (intro w0 hSw; (try dsimp only at hSw); go_simp; first | done | with_reducible rfl)
              case r11 =>
              try simp only [Act.put, List.getElem_toArray, List.getElem_cons_succ, List.getElem_cons_zero, List.setIfInBounds_toArray, List.set_cons_zero, List.set_cons_succ]
              refine wpAnyH_ready (rs := [14]) (by kernel_rfl) (by simp) ?_
              refine AllReadyH.cons (o := _) rfl (fun K hK => ?_) AllReadyH.nil
              go_simp
              refine hK.out _ _ ?_ (fun hHeld => ?_)
              · exact HSp.out _ _ G2.out
              clear hK K
              refine wpAnyH_done (by kernel_rfl) ?_ _
              go_wp2_with fail
              go_meet
              exact ⟨rfl, HF.out _ _ _ G2.out X2⟩
        · go_simp
          refine hK.out _ _ ?_ (fun hHeld => ?_)
          · exact HSb.out _ (by first | exact one_new _ _ | exact two_new _ _ _ | exact below_new (Nat.le_refl _) G1.out _ | exact (Below.refl _ _).drew | exact G1.out)
          clear hK K
          try simp only [Act.put, List.getElem_toArray, List.getElem_cons_succ, List.getElem_cons_zero, List.setIfInBounds_toArray, List.set_cons_zero, List.set_cons_succ]
          refine wpAnyH_ready (rs := [3]) (by kernel_rfl) (by simp) ?_
          refine AllReadyH.cons (o := _) rfl (fun K hK => ?_) AllReadyH.nil
          · refine step_rn ((w3.alloc (.cells #[] 51)).alloc (.cells #[.int .i64 ((p : Nat) + 1), .slice vA vn vc, .int .i64 (e : Nat), .int .i64 (s : Nat), .int .i64 k, .int .i64 o, .int .i64 (r : Nat)] 51)).drew (by rfl) (.tmp 27) (.tmp 29) (by rfl) w3.heap.size (.slice (some ⟨w3.heap.size, 0, none⟩) 0 0) 0 [] (by rfl) (own_drew ((own_empty (Nat.le_refl _)).alloc _)) A n c M (by rfl) (T := S) (HDb.out _ (two_new _ _ _)) n (by omega) (by omega) (two_size _ _ _) ?_
            intro A1 cap1 w4 X1 z1
            obtain ⟨u1, u2⟩ := grown_two z1
            have G1 := Lib.hid u1
            have K1 := Lib.hid (HN1.out w4 (w3.heap.size + 1) G1.out u2)
            clear z1 u1 u2
            refine hK.out _ _ ?_ (fun hHeld => ?_)
            · exact HSb.out _ (G1.out)
            clear hK K
            try simp only [Act.put, List.getElem_toArray, List.getElem_cons_succ, List.getElem_cons_zero, List.setIfInBounds_toArray, List.set_cons_zero, List.set_cons_succ]
            refine wpAnyH_ready (rs := [12]) (by kernel_rfl) (by simp) ?_
            refine AllReadyH.cons (o := _) rfl (fun K hK => ?_) AllReadyH.nil
            · refine step_rn w4 (by rfl) (.tmp 30) (.tmp 38) (by rfl) w3.heap.size (.slice A1 n cap1) n ([] ++ M) (by rfl) X1 _ 1 1 [x] (by rfl) K1.out (n + 1) (by omega) (by omega) G1.out.size ?_
              intro A2 cap2 w5 X2 z2
              have G2 := Lib.hid (G1.out.grown z2 G1.out.size (fun k hk => (X1.lt k hk).1))
              obtain ⟨st0, st1⟩ := HSt.out w5 G2.out
              clear z2
              refine hK.out _ _ ?_ (fun hHeld => ?_)
              · exact HSb.out _ (G2.out)
              clear hK K
              try simp only [Act.put, List.getElem_toArray, List.getElem_cons_succ, List.getElem_cons_zero, List.setIfInBounds_toArray, List.set_cons_zero, List.set_cons_succ]
              refine wpAnyH_take (i := 13) (oi := _) (v := ?v12) rfl (by kernel_rfl) (by kernel_rfl) (by kernel_rfl) (fun _ _ _ h => h) (Or.inl ⟨by rfl, ?h12⟩) hHeld ?r12
              case h12 => (intro w0 hSw; (try dsimp only at hSw); go_simp; first | done | with_reducible rfl)
              case r12 =>
              try simp only [Act.put, List.getElem_toArray, List.getElem_cons_succ, List.getElem_cons_zero, List.setIfInBounds_toArray, List.set_cons_zero, List.set_cons_succ]
              refine wpAnyH_ready (rs := [14]) (by kernel_rfl) (by simp) ?_
              refine AllReadyH.cons (o := _) rfl (fun K hK => ?_) AllReadyH.nil
              go_simp
              refine hK.out _ _ ?_ (fun hHeld => ?_)
              · exact HSp.out _ _ G2.out
              clear hK K
              refine wpAnyH_done (by kernel_rfl) ?_ _
              go_wp2_with fail
              go_meet
              exact ⟨rfl, HF.out _ _ _ G2.out X2⟩
      · go_simp
        refine hK.out _ _ ?_ (fun hHeld => ?_)
        · exact HSb.out _ (by first | exact one_new _ _ | exact two_new _ _ _ | exact below_new (Nat.le_refl _) G1.out _ | exact (Below.refl _ _).drew | exact G1.out)
        clear hK K
        try simp only [Act.put, List.getElem_toArray, List.getElem_cons_succ, List.getElem_cons_zero, List.setIfInBounds_toArray, List.set_cons_zero, List.set_cons_succ]
        refine wpAnyH_ready (rs := [0]) (by kernel_rfl) (by simp) ?_
        refine AllReadyH.cons (o := _) rfl (fun K hK => ?_) AllReadyH.nil
        · go_simp
          refine hK.out _ _ ?_ (fun hHeld => ?_)
          · exact HSb.out _ (by first | exact one_new _ _ | exact two_new _ _ _ | exact below_new (Nat.le_refl _) G1.out _ | exact (Below.refl _ _).drew | exact G1.out)
          clear hK K
          try simp only [Act.put, List.getElem_toArray, List.getElem_cons_succ, List.getElem_cons_zero, List.setIfInBounds_toArray, List.set_cons_zero, List.set_cons_succ]
          refine wpAnyH_ready (rs := [3]) (by kernel_rfl) (by simp) ?_
          refine AllReadyH.cons (o := _) rfl (fun K hK => ?_) AllReadyH.nil
          · refine step_rn ((w3.alloc (.cells #[.int .i64 ((p : Nat) + 1), .slice vA vn vc, .int .i64 (e : Nat), .int .i64 (s : Nat), .int .i64 k, .int .i64 o, .int .i64 (r : Nat)] 51)).alloc (.cells #[] 51)).drew (by rfl) (.tmp 27) (.tmp 29) (by rfl) w3.heap.size (.slice (some ⟨w3.heap.size + 1, 0, none⟩) 0 0) 0 [] (by rfl) (own_drew (own_empty2 (Nat.le_refl _))) A n c M (by rfl) (T := S) (HDb.out _ (two_new _ _ _)) n (by omega) (by omega) (two_size _ _ _) ?_
            intro A1 cap1 w4 X1 z1
            obtain ⟨u1, u2⟩ := grown_two2 z1
            have G1 := Lib.hid u1
            have K1 := Lib.hid (HN1.out w4 w3.heap.size G1.out u2)
            clear z1 u1 u2
            refine hK.out _ _ ?_ (fun hHeld => ?_)
            · exact HSb.out _ (G1.out)
            clear hK K
            try simp only [Act.put, List.getElem_toArray, List.getElem_cons_succ, List.getElem_cons_zero, List.setIfInBounds_toArray, List.set_cons_zero, List.set_cons_succ]
            refine wpAnyH_ready (rs := [12]) (by kernel_rfl) (by simp) ?_
            refine AllReadyH.cons (o := _) rfl (fun K hK => ?_) AllReadyH.nil
            · refine step_rn w4 (by rfl) (.tmp 30) (.tmp 38) (by rfl) w3.heap.size (.slice A1 n cap1) n ([] ++ M) (by rfl) X1 _ 1 1 [x] (by rfl) K1.out (n + 1) (by omega) (by omega) G1.out.size ?_
              intro A2 cap2 w5 X2 z2
              have G2 := Lib.hid (G1.out.grown z2 G1.out.size (fun k hk => (X1.lt k hk).1))
              obtain ⟨st0, st1⟩ := HSt.out w5 G2.out
              clear z2
              refine hK.out _ _ ?_ (fun hHeld => ?_)
              · exact HSb.out _ (G2.out)
              clear hK K
              try simp only [Act.put, List.getElem_toArray, List.getElem_cons_succ, List.getElem_cons_zero, List.setIfInBounds_toArray, List.set_cons_zero, List.set_cons_succ]
              refine wpAnyH_take (i := 13) (oi := _) (v := ?v13) rfl (by kernel_rfl) (by kernel_rfl) (by kernel_rfl) (fun _ _ _ h => h) (Or.inl ⟨by rfl, ?h13⟩) hHeld ?r13
              case h13 => (intro w0 hSw; (try dsimp only at hSw); go_simp; first | done | with_reducible rfl)
              case r13 =>
              try simp only [Act.put, List.getElem_toArray, List.getElem_cons_succ, List.getElem_cons_zero, List.setIfInBounds_toArray, List.set_cons_zero, List.set_cons_succ]
              refine wpAnyH_ready (rs := [14]) (by kernel_rfl) (by simp) ?_
              refine AllReadyH.cons (o := _) rfl (fun K hK => ?_) AllReadyH.nil
              go_simp
              refine hK.out _ _ ?_ (fun hHeld => ?_)
              · exact HSp.out _ _ G2.out
              clear hK K
              refine wpAnyH_done (by kernel_rfl) ?_ _
              go_wp2_with fail
              go_meet
              exact ⟨rfl, HF.out _ _ _ G2.out X2⟩
    · go_simp
      refine hK.out _ _ ?_ (fun hHeld => ?_)
      · exact HSb.out _ (by first | exact one_new _ _ | exact two_new _ _ _ | exact below_new (Nat.le_refl _) G1.out _ | exact (Below.refl _ _).drew | exact G1.out)
      clear hK K
      try simp only [Act.put, List.getElem_toArray, List.getElem_cons_succ, List.getElem_cons_zero, List.setIfInBounds_toArray, List.set_cons_zero, List.set_cons_succ]
      refine wpAnyH_ready (rs := [0, 2]) (by kernel_rfl) (by simp) ?_
      refine AllReadyH.cons (o := _) rfl (fun K hK => ?_) (AllReadyH.cons (o := _) rfl (fun K hK => ?_) AllReadyH.nil)
      · go_simp
        refine hK.out _ _ ?_ (fun hHeld => ?_)
        · exact HSb.out _ (by first | exact one_new _ _ | exact two_new _ _ _ | exact below_new (Nat.le_refl _) G1.out _ | exact (Below.refl _ _).drew | exact G1.out)
        clear hK K
        try simp only [Act.put, List.getElem_toArray, List.getElem_cons_succ, List.getElem_cons_zero, List.setIfInBounds_toArray, List.set_cons_zero, List.set_cons_succ]
        refine wpAnyH_ready (rs := [2]) (by kernel_rfl) (by simp) ?_
        refine AllReadyH.cons (o := _) rfl (fun K hK => ?_) AllReadyH.nil
        · go_simp
          refine hK.out _ _ ?_ (fun hHeld => ?_)
          · exact HSb.out _ (by first | exact one_new _ _ | exact two_new _ _ _ | exact below_new (Nat.le_refl _) G1.out _ | exact (Below.refl _ _).drew | exact G1.out)
          clear hK K
          try simp only [Act.put, List.getElem_toArray, List.getElem_cons_succ, List.getElem_cons_zero, List.setIfInBounds_toArray, List.set_cons_zero, List.set_cons_succ]
          refine wpAnyH_ready (rs := [3]) (by kernel_rfl) (by simp) ?_
          refine AllReadyH.cons (o := _) rfl (fun K hK => ?_) AllReadyH.nil
          · refine step_rn ((w3.alloc (.cells #[.int .i64 ((p : Nat) + 1), .slice vA vn vc, .int .i64 (e : Nat), .int .i64 (s : Nat), .int .i64 k, .int .i64 o, .int .i64 (r : Nat)] 51)).alloc (.cells #[] 51)).drew (by rfl) (.tmp 27) (.tmp 29) (by rfl) w3.heap.size (.slice (some ⟨w3.heap.size + 1, 0, none⟩) 0 0) 0 [] (by rfl) (own_drew (own_empty2 (Nat.le_refl _))) A n c M (by rfl) (T := S) (HDb.out _ (two_new _ _ _)) n (by omega) (by omega) (two_size _ _ _) ?_
            intro A1 cap1 w4 X1 z1
            obtain ⟨u1, u2⟩ := grown_two2 z1
            have G1 := Lib.hid u1
            have K1 := Lib.hid (HN1.out w4 w3.heap.size G1.out u2)
            clear z1 u1 u2
            refine hK.out _ _ ?_ (fun hHeld => ?_)
            · exact HSb.out _ (G1.out)
            clear hK K
            try simp only [Act.put, List.getElem_toArray, List.getElem_cons_succ, List.getElem_cons_zero, List.setIfInBounds_toArray, List.set_cons_zero, List.set_cons_succ]
            refine wpAnyH_ready (rs := [12]) (by kernel_rfl) (by simp) ?_
            refine AllReadyH.cons (o := _) rfl (fun K hK => ?_) AllReadyH.nil
            · refine step_rn w4 (by rfl) (.tmp 30) (.tmp 38) (by rfl) w3.heap.size (.slice A1 n cap1) n ([] ++ M) (by rfl) X1 _ 1 1 [x] (by rfl) K1.out (n + 1) (by omega) (by omega) G1.out.size ?_
              intro A2 cap2 w5 X2 z2
              have G2 := Lib.hid (G1.out.grown z2 G1.out.size (fun k hk => (X1.lt k hk).1))
              obtain ⟨st0, st1⟩ := HSt.out w5 G2.out
              clear z2
              refine hK.out _ _ ?_ (fun hHeld => ?_)
              · exact HSb.out _ (G2.out)
              clear hK K
              try simp only [Act.put, List.getElem_toArray, List.getElem_cons_succ, List.getElem_cons_zero, List.setIfInBounds_toArray, List.set_cons_zero, List.set_cons_succ]
              refine wpAnyH_take (i := 13) (oi := _) (v := ?v14) rfl (by kernel_rfl) (by kernel_rfl) (by kernel_rfl) (fun _ _ _ h => h) (Or.inl ⟨by rfl, ?h14⟩) hHeld ?r14
              case h14 => (intro w0 hSw; (try dsimp only at hSw); go_simp; first | done | with_reducible rfl)
              case r14 =>
              try simp only [Act.put, List.getElem_toArray, List.getElem_cons_succ, List.getElem_cons_zero, List.setIfInBounds_toArray, List.set_cons_zero, List.set_cons_succ]
              refine wpAnyH_ready (rs := [14]) (by kernel_rfl) (by simp) ?_
              refine AllReadyH.cons (o := _) rfl (fun K hK => ?_) AllReadyH.nil
              go_simp
              refine hK.out _ _ ?_ (fun hHeld => ?_)
              · exact HSp.out _ _ G2.out
              clear hK K
              refine wpAnyH_done (by kernel_rfl) ?_ _
              go_wp2_with fail
              go_meet
              exact ⟨rfl, HF.out _ _ _ G2.out X2⟩
      · go_simp
        refine hK.out _ _ ?_ (fun hHeld => ?_)
        · exact HSb.out _ (by first | exact one_new _ _ | exact two_new _ _ _ | exact below_new (Nat.le_refl _) G1.out _ | exact (Below.refl _ _).drew | exact G1.out)
        clear hK K
        try simp only [Act.put, List.getElem_toArray, List.getElem_cons_succ, List.getElem_cons_zero, List.setIfInBounds_toArray, List.set_cons_zero, List.set_cons_succ]
        refine wpAnyH_ready (rs := [0]) (by kernel_rfl) (by simp) ?_
        refine AllReadyH.cons (o := _) rfl (fun K hK => ?_) AllReadyH.nil
        · go_simp
          refine hK.out _ _ ?_ (fun hHeld => ?_)
          · exact HSb.out _ (by first | exact one_new _ _ | exact two_new _ _ _ | exact below_new (Nat.le_refl _) G1.out _ | exact (Below.refl _ _).drew | exact G1.out)
          clear hK K
          try simp only [Act.put, List.getElem_toArray, List.getElem_cons_succ, List.getElem_cons_zero, List.setIfInBounds_toArray, List.set_cons_zero, List.set_cons_succ]
          refine wpAnyH_ready (rs := [3]) (by kernel_rfl) (by simp) ?_
          refine AllReadyH.cons (o := _) rfl (fun K hK => ?_) AllReadyH.nil
          · refine step_rn ((w3.alloc (.cells #[.int .i64 ((p : Nat) + 1), .slice vA vn vc, .int .i64 (e : Nat), .int .i64 (s : Nat), .int .i64 k, .int .i64 o, .int .i64 (r : Nat)] 51)).alloc (.cells #[] 51)).drew (by rfl) (.tmp 27) (.tmp 29) (by rfl) w3.heap.size (.slice (some ⟨w3.heap.size + 1, 0, none⟩) 0 0) 0 [] (by rfl) (own_drew (own_empty2 (Nat.le_refl _))) A n c M (by rfl) (T := S) (HDb.out _ (two_new _ _ _)) n (by omega) (by omega) (two_size _ _ _) ?_
            intro A1 cap1 w4 X1 z1
            obtain ⟨u1, u2⟩ := grown_two2 z1
            have G1 := Lib.hid u1
            have K1 := Lib.hid (HN1.out w4 w3.heap.size G1.out u2)
            clear z1 u1 u2
            refine hK.out _ _ ?_ (fun hHeld => ?_)
            · exact HSb.out _ (G1.out)
            clear hK K
            try simp only [Act.put, List.getElem_toArray, List.getElem_cons_succ, List.getElem_cons_zero, List.setIfInBounds_toArray, List.set_cons_zero, List.set_cons_succ]
            refine wpAnyH_ready (rs := [12]) (by kernel_rfl) (by simp) ?_
            refine AllReadyH.cons (o := _) rfl (fun K hK => ?_) AllReadyH.nil
            · refine step_rn w4 (by rfl) (.tmp 30) (.tmp 38) (by rfl) w3.heap.size (.slice A1 n cap1) n ([] ++ M) (by rfl) X1 _ 1 1 [x] (by rfl) K1.out (n + 1) (by omega) (by omega) G1.out.size ?_
              intro A2 cap2 w5 X2 z2
              have G2 := Lib.hid (G1.out.grown z2 G1.out.size (fun k hk => (X1.lt k hk).1))
              obtain ⟨st0, st1⟩ := HSt.out w5 G2.out
              clear z2
              refine hK.out _ _ ?_ (fun hHeld => ?_)
              · exact HSb.out _ (G2.out)
              clear hK K
              try simp only [Act.put, List.getElem_toArray, List.getElem_cons_succ, List.getElem_cons_zero, List.setIfInBounds_toArray, List.set_cons_zero, List.set_cons_succ]
              refine wpAnyH_take (i := 13) (oi := _) (v := ?v15) rfl (by kernel_rfl) (by kernel_rfl) (by kernel_rfl) (fun _ _ _ h => h) (Or.inl ⟨by rfl, ?h15⟩) hHeld ?r15
              case h15 => (intro w0 hSw; (try dsimp only at hSw); go_simp; first | done | with_reducible rfl)
              case r15 =>
              try simp only [Act.put, List.getElem_toArray, List.getElem_cons_succ, List.getElem_cons_zero, List.setIfInBounds_toArray, List.set_cons_zero, List.set_cons_succ]
              refine wpAnyH_ready (rs := [14]) (by kernel_rfl) (by simp) ?_
              refine AllReadyH.cons (o := _) rfl (fun K hK => ?_) AllReadyH.nil
              go_simp
              refine hK.out _ _ ?_ (fun hHeld => ?_)
              · exact HSp.out _ _ G2.out
              clear hK K
              refine wpAnyH_done (by kernel_rfl) ?_ _
              go_wp2_with fail
              go_meet
              exact ⟨rfl, HF.out _ _ _ G2.out X2⟩
    -- END
  case rest =>
    obtain ⟨rfl, A', c', B, D'⟩ := hcut
    obtain ⟨h0, -⟩ := bx_cell (j := 0) B.b0 rfl
    obtain ⟨h1, -⟩ := bx_cell (j := 1) B.b0 rfl
    obtain ⟨m0, m0z⟩ := bx_cell (j := 0) B.b2 rfl
    obtain ⟨m1, m1z⟩ := bx_cell (j := 1) B.b2 rfl
    rw [HXp.out] at B
    rw [HXq.out] at D'
    have HE := Lib.hid (box_end (q := p + 1) B D' HlS.out)
    obtain ⟨w9, e9, q0, q1, HF9⟩ := HE.out
    rw [← HXp.out] at e9 q1 HF9
    clear B D' HS HSb HSp HSl HSt HMb HMp HF HDb HOb HN1 HXc HXo
    go_wp2
    refine bodyPost_ret (v := .tuple #[.agg #[.slice A' (n + 1) c', .int .i64 ((p : Nat) + 1)], .int .i64 0]) (by simp [results, Try.results40, go_sem, q0, q1]) rfl ?_
    exact ⟨_, rfl, HF9.out⟩
end Go.Proofs.Ythblldojbgeknaa
