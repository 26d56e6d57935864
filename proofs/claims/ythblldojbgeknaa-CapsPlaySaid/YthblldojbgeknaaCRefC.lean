/-
  Contracts: the document's put in all cases, Root.
-/
import Derived.Test.YthblldojbgeknaaCRefB
import Derived.Test.YthblldojbgeknaaCWalksB
namespace Go.Proofs.Ythblldojbgeknaa
open Go.ChangeShapes Go.WideShapes Go.ChangeAt Go.RowKit

/-- The document's capabilities, and how many were put. -/
structure Dc where
  l : List Rn
  p : Nat
def Dc.fo (D : Dc) : Fo := ⟨D.l.map Rn.nd, D.p⟩
def rputD (D : Dc) (e s k o : Int) (r : Nat) (of : List Nat) (v : Value) : Dc := if putE D.fo e s = 0 then ⟨D.l ++ [⟨D.p + 1, of, v, e.toNat, s.toNat, k, o, r⟩], D.p + 1⟩ else D
/-- A list of the document's is handed back, with an error. -/
def DocE (S : Nat → Prop) (D : Dc) (E : Int) (w : World) (x : Ending) (w' : World) : Prop := ∃ u, x = .returned (.tuple #[u, .int .i64 E]) ∧ DocB S D.l D.p w u w'
theorem three_boxes (w : World) (A : Option Addr) (n c : Nat) (q k o r : Int) : Bxs w A n c q k o r (.slice none 0 0) (.int .i64 0) (((w.alloc (.cells #[.slice A n c, .int .i64 q] 36 (0, 0))).alloc (.cells #[.int .i64 k, .int .i64 o, .int .i64 r] 37 (0, 0))).alloc (.cells #[.slice none 0 0, .int .i64 0] 36 (0, 0))) := by
  refine ⟨?_, ?_, ?_, below_new (Nat.le_refl _) (below_new (Nat.le_refl _) (below_new (Nat.le_refl _) (Below.refl _ w) _) _) _, by simp⟩
  · rw [Below.heap_alloc _ _ _ (by simp; omega), Below.heap_alloc _ _ _ (by simp)]
    exact heap_alloc_new w _
  · rw [Below.heap_alloc _ _ _ (by simp)]
    have := heap_alloc_new (w.alloc (.cells #[.slice A n c, .int .i64 q] 36 (0, 0))) (.cells #[.int .i64 k, .int .i64 o, .int .i64 r] 37 (0, 0))
    simpa using this
  · have := heap_alloc_new ((w.alloc (.cells #[.slice A n c, .int .i64 q] 36 (0, 0))).alloc (.cells #[.int .i64 k, .int .i64 o, .int .i64 r] 37 (0, 0))) (.cells #[.slice none 0 0, .int .i64 0] 36 (0, 0))
    simpa using this
theorem past_old {S : Nat → Prop} {w w' : World} {A : Option Addr} {n c : Nat} {M : List Rn} (D : DocIs S w A n c M) (hS : ∀ k, S k → k < w.heap.size) (hb : Below w.heap.size w w') : DocIs (Past S w w') w' A n c M := D.kept (fun k hk => hb.block k (hS k hk)) (fun _ h => Or.inl h)
theorem past_new {S : Nat → Prop} {w w4 w' : World} {A : Option Addr} {n c : Nat} {M : List Rn} (D : DocIs (Fresh S w4 w') w' A n c M) (h4 : w.heap.size + 1 + 1 + 1 ≤ w4.heap.size) : DocIs (Past S w w') w' A n c M := D.kept (fun _ _ => rfl) (fun _ hk => hk.elim Or.inl (fun h => Or.inr ⟨Nat.le_trans h4 h.1, h.2⟩))
set_option maxRecDepth 4000 in
set_option maxHeartbeats 2000000 in
theorem rput_out {S : Nat → Prop} {w : World} {A : Option Addr} {n c p : Nat} {M : List Rn} (D : DocIs S w A n c M) (hS : ∀ k, S k → k < w.heap.size) {v : Value} (hv : ∃ vA vn vc, v = .slice vA vn vc) {e s : Int} (hs : inS e s = false) (k o r : Int) :
    Calls Try.prog 40 #[.agg #[.slice A n c, .int .i64 (p : Nat)], v, .int .i64 e, .int .i64 s, .agg #[.int .i64 k, .int .i64 o, .int .i64 r]] w (DocE S ⟨M, p⟩ 1 w) := by
  obtain ⟨W, hW⟩ : ∃ W, ((w.alloc (.cells #[.slice A n c, .int .i64 (p : Nat)] 36 (0, 0))).alloc (.cells #[.int .i64 k, .int .i64 o, .int .i64 r] 37 (0, 0))).alloc (.cells #[.slice none 0 0, .int .i64 0] 36 (0, 0)) = W := ⟨_, rfl⟩
  have B : Bxs w A n c (p : Nat) k o r (.slice none 0 0) (.int .i64 0) W := by
    rw [← hW]
    exact three_boxes w A n c (p : Nat) k o r
  have HI : Hid (∀ w, _) := Lib.hid fun w => rin_any e s w
  rw [hs] at HI
  obtain ⟨vA, vn, vc, rfl⟩ := hv
  obtain ⟨h0, -⟩ := bx_cell (j := 0) B.b0 rfl
  obtain ⟨h1, -⟩ := bx_cell (j := 1) B.b0 rfl
  obtain ⟨m0, m0z⟩ := bx_cell (j := 0) B.b2 rfl
  obtain ⟨m1, m1z⟩ := bx_cell (j := 1) B.b2 rfl
  obtain ⟨w9, e9, q0, q1, HF9⟩ := box_end (q := p) B (past_old D hS B.below) hS
  have HW := Lib.hid hW
  clear hW D hS B hs
  go_enter Try.func40, Try.ntmps40
  go_wp2_with fail
  rw [show ((w.alloc (.cells #[.slice A n c, .int .i64 (p : Nat)] 36 (0, 0))).alloc (.cells #[.int .i64 k, .int .i64 o, .int .i64 r] 37 (0, 0))).alloc (.cells #[.slice none 0 0, .int .i64 0] 36 (0, 0)) = W from HW.out]
  refine (HI.out _).mono ?_
  rintro x w' ⟨rfl, rfl⟩
  go_wp2
  refine bodyPost_ret (v := .tuple #[.agg #[.slice A n c, .int .i64 (p : Nat)], .int .i64 1]) (by simp [results, Try.results40, go_sem, q0, q1]) rfl ?_
  exact ⟨_, rfl, HF9.out⟩
set_option maxRecDepth 4000 in
set_option maxHeartbeats 2000000 in
theorem rput_full {S : Nat → Prop} {w : World} {A : Option Addr} {n c p : Nat} {M : List Rn} (D : DocIs S w A n c M) (hS : ∀ k, S k → k < w.heap.size) (hn : n ≤ 900) {v : Value} (hv : ∃ vA vn vc, v = .slice vA vn vc) {e s : Int} (hs : inS e s = true) {y : Nd} (hy : fd (M.map Rn.nd) e s = some y) (k o r : Int) :
    Calls Try.prog 40 #[.agg #[.slice A n c, .int .i64 (p : Nat)], v, .int .i64 e, .int .i64 s, .agg #[.int .i64 k, .int .i64 o, .int .i64 r]] w (DocE S ⟨M, p⟩ 7 w) := by
  obtain ⟨W, hW⟩ : ∃ W, ((w.alloc (.cells #[.slice A n c, .int .i64 (p : Nat)] 36 (0, 0))).alloc (.cells #[.int .i64 k, .int .i64 o, .int .i64 r] 37 (0, 0))).alloc (.cells #[.slice none 0 0, .int .i64 0] 36 (0, 0)) = W := ⟨_, rfl⟩
  have B : Bxs w A n c (p : Nat) k o r (.slice none 0 0) (.int .i64 0) W := by
    rw [← hW]
    exact three_boxes w A n c (p : Nat) k o r
  have HI : Hid (∀ w, _) := Lib.hid fun w => rin_any e s w
  rw [hs] at HI
  obtain ⟨vA, vn, vc, rfl⟩ := hv
  obtain ⟨i, x, hi1, -, -⟩ := at_some hy
  have HA : Hid (Calls Try.prog 14 #[.agg #[.slice A n c, .int .i64 (p : Nat)], .int .i64 e, .int .i64 s] W fun x w' => x = .returned (.int .i64 (i : Nat)) ∧ Below W.heap.size W w') := Lib.hid (by
    have h1 := rat_any (D.kept (T := S) (w' := W) (fun k hk => B.below.block k (hS k hk)) (fun _ h => h)) (fun k hk => Nat.lt_of_lt_of_le (hS k hk) B.below.size) (by omega) (p : Nat) e s
    rwa [hi1] at h1)
  have i0 : (0 : Int) ≤ i := by omega
  obtain ⟨h0, -⟩ := bx_cell (j := 0) B.b0 rfl
  obtain ⟨h1, -⟩ := bx_cell (j := 1) B.b0 rfl
  have HX : Hid (∀ w2, Below W.heap.size W w2 → (w2.cell? ⟨w.heap.size, 0, none⟩ = some (.slice A n c) ∧ w2.cell? ⟨w.heap.size, 1, none⟩ = some (.int .i64 (p : Nat))) ∧ ((w2.cell? ⟨w.heap.size + 1 + 1, 0, none⟩ = some (.slice none 0 0) ∧ w2.frozen? ⟨w.heap.size + 1 + 1, 0, none⟩ = false) ∧ w2.cell? ⟨w.heap.size + 1 + 1, 1, none⟩ = some (.int .i64 0) ∧ w2.frozen? ⟨w.heap.size + 1 + 1, 1, none⟩ = false) ∧ ∃ w9, (w2.setCell ⟨w.heap.size + 1 + 1, 0, none⟩ (.slice A n c)).setCell ⟨w.heap.size + 1 + 1, 1, none⟩ (.int .i64 (p : Nat)) = w9 ∧ w9.cell? ⟨w.heap.size + 1 + 1, 0, none⟩ = some (.slice A n c) ∧ w9.cell? ⟨w.heap.size + 1 + 1, 1, none⟩ = some (.int .i64 (p : Nat)) ∧ Hid (DocB S M p w (.agg #[.slice A n c, .int .i64 (p : Nat)]) w9)) := Lib.hid fun w2 h2 => by
    have B2 := B.later h2
    exact ⟨⟨(bx_cell B2.b0 rfl).1, (bx_cell B2.b0 rfl).1⟩, ⟨bx_cell B2.b2 rfl, bx_cell B2.b2 rfl⟩, box_end (q := p) B2 (past_old D hS B2.below) hS⟩
  have HW := Lib.hid hW
  clear hW D hS B hs hi1 hy hn
  go_enter Try.func40, Try.ntmps40
  go_wp2_with fail
  rw [show ((w.alloc (.cells #[.slice A n c, .int .i64 (p : Nat)] 36 (0, 0))).alloc (.cells #[.int .i64 k, .int .i64 o, .int .i64 r] 37 (0, 0))).alloc (.cells #[.slice none 0 0, .int .i64 0] 36 (0, 0)) = W from HW.out]
  refine (HI.out _).mono ?_
  rintro x w' ⟨rfl, rfl⟩
  go_wp2_with fail
  refine HA.out.mono ?_
  rintro x w2 ⟨rfl, hb2⟩
  obtain ⟨⟨h0, h1⟩, ⟨⟨m0, m0z⟩, m1, m1z⟩, w9, e9, q0, q1, HF9⟩ := HX.out w2 hb2
  clear hb2
  go_wp2
  refine bodyPost_ret (v := .tuple #[.agg #[.slice A n c, .int .i64 (p : Nat)], .int .i64 7]) (by simp [results, Try.results40, go_sem, q0, q1]) rfl ?_
  exact ⟨_, rfl, HF9.out⟩
theorem rput_any {S : Nat → Prop} {w : World} {A : Option Addr} {n c p : Nat} {M : List Rn} (D : DocIs S w A n c M) (hS : ∀ k, S k → k < w.heap.size) (hn : n ≤ 900) (hp : p < 1000000) {v : Value} {of : List Nat} (hv : OfIs S w v of) (e s k o : Int) (r : Nat) :
    Calls Try.prog 40 #[.agg #[.slice A n c, .int .i64 (p : Nat)], v, .int .i64 e, .int .i64 s, .agg #[.int .i64 k, .int .i64 o, .int .i64 (r : Nat)]] w (DocE S (rputD ⟨M, p⟩ e s k o r of v) (putE (Dc.fo ⟨M, p⟩) e s) w) := by
  have hv2 : ∃ vA vn vc, v = .slice vA vn vc := by
    obtain ⟨vA, vn, vc, h, -⟩ := hv
    exact ⟨vA, vn, vc, h⟩
  unfold rputD
  by_cases h0 : putE (Dc.fo ⟨M, p⟩) e s = 0
  · rw [if_pos h0, h0]
    obtain ⟨⟨a, b, rfl, rfl, ha, hb⟩, hno⟩ := putE_hit h0
    exact rput_hit D hS hn hp hv ha hb hno k o r
  · rw [if_neg h0]
    cases hs : inS e s with
    | false =>
      have : putE (Dc.fo ⟨M, p⟩) e s = 1 := by rw [putE, hs, if_neg (by simp)]
      rw [this]
      exact rput_out D hS hv2 hs k o (r : Nat)
    | true =>
      cases hy : fd (M.map Rn.nd) e s with
      | none =>
        refine absurd ?_ h0
        rw [putE, if_pos hs, if_neg]
        show ¬ (fd (M.map Rn.nd) e s).isSome = true
        rw [hy]
        simp
      | some y =>
        have : putE (Dc.fo ⟨M, p⟩) e s = 7 := by
          rw [putE, if_pos hs, if_pos]
          show (fd (M.map Rn.nd) e s).isSome = true
          rw [hy]
          rfl
        rw [this]
        exact rput_full D hS hn hv2 hs hy k o (r : Nat)

/-! Root. -/
def rrootD (D : Dc) (e s k o r : Int) : Dc := if rightB k o r = true then rputD D e s k o r.toNat [] (.slice none 0 0) else D
set_option maxRecDepth 4000 in
set_option maxHeartbeats 2000000 in
theorem rroot_any {S : Nat → Prop} {w : World} {A : Option Addr} {n c p : Nat} {M : List Rn} (D : DocIs S w A n c M) (hS : ∀ k, S k → k < w.heap.size) (hn : n ≤ 900) (hp : p < 1000000) (e s k o r : Int) :
    Calls Try.prog 28 #[.agg #[.slice A n c, .int .i64 (p : Nat)], .int .i64 e, .int .i64 s, .agg #[.int .i64 k, .int .i64 o, .int .i64 r]] w (DocE S (rrootD ⟨M, p⟩ e s k o r) (rootE (Dc.fo ⟨M, p⟩) e s k o r) w) := by
  obtain ⟨W, hW⟩ : ∃ W, ((w.alloc (.cells #[.slice A n c, .int .i64 (p : Nat)] 36 (0, 0))).alloc (.cells #[.int .i64 k, .int .i64 o, .int .i64 r] 37 (0, 0))).alloc (.cells #[.slice none 0 0, .int .i64 0] 36 (0, 0)) = W := ⟨_, rfl⟩
  have B : Bxs w A n c (p : Nat) k o r (.slice none 0 0) (.int .i64 0) W := by
    rw [← hW]
    exact three_boxes w A n c (p : Nat) k o r
  have HR : Hid (∀ w, _) := Lib.hid fun w => rright_any k o r w
  obtain ⟨k0, -⟩ := bx_cell (j := 0) B.b1 rfl
  obtain ⟨k1, -⟩ := bx_cell (j := 1) B.b1 rfl
  obtain ⟨k2, -⟩ := bx_cell (j := 2) B.b1 rfl
  have HX : Hid (∀ w2, Below W.heap.size W w2 → ((w2.cell? ⟨w.heap.size, 0, none⟩ = some (.slice A n c) ∧ w2.cell? ⟨w.heap.size, 1, none⟩ = some (.int .i64 (p : Nat))) ∧ w2.cell? ⟨w.heap.size + 1, 0, none⟩ = some (.int .i64 k) ∧ w2.cell? ⟨w.heap.size + 1, 1, none⟩ = some (.int .i64 o) ∧ w2.cell? ⟨w.heap.size + 1, 2, none⟩ = some (.int .i64 r)) ∧ ((w2.cell? ⟨w.heap.size + 1 + 1, 0, none⟩ = some (.slice none 0 0) ∧ w2.frozen? ⟨w.heap.size + 1 + 1, 0, none⟩ = false) ∧ w2.cell? ⟨w.heap.size + 1 + 1, 1, none⟩ = some (.int .i64 0) ∧ w2.frozen? ⟨w.heap.size + 1 + 1, 1, none⟩ = false)) := Lib.hid fun w2 h2 => by
    have B2 := B.later h2
    exact ⟨⟨⟨(bx_cell B2.b0 rfl).1, (bx_cell B2.b0 rfl).1⟩, (bx_cell B2.b1 rfl).1, (bx_cell B2.b1 rfl).1, (bx_cell B2.b1 rfl).1⟩, ⟨bx_cell B2.b2 rfl, bx_cell B2.b2 rfl⟩⟩
  have HW := Lib.hid hW
  unfold rrootD rootE
  cases hr : rightB k o r with
  | false =>
    rw [hr] at HR
    rw [if_neg (by simp), if_neg (by simp)]
    have HE : Hid (∀ w2, Below W.heap.size W w2 → ∃ w9, (w2.setCell ⟨w.heap.size + 1 + 1, 0, none⟩ (.slice A n c)).setCell ⟨w.heap.size + 1 + 1, 1, none⟩ (.int .i64 (p : Nat)) = w9 ∧ w9.cell? ⟨w.heap.size + 1 + 1, 0, none⟩ = some (.slice A n c) ∧ w9.cell? ⟨w.heap.size + 1 + 1, 1, none⟩ = some (.int .i64 (p : Nat)) ∧ Hid (DocB S M p w (.agg #[.slice A n c, .int .i64 (p : Nat)]) w9)) := Lib.hid fun w2 h2 => box_end (q := p) (B.later h2) (past_old D hS (B.later h2).below) hS
    clear hW D hS B hr
    go_enter Try.func28, Try.ntmps28
    go_wp2_with fail
    rw [show ((w.alloc (.cells #[.slice A n c, .int .i64 (p : Nat)] 36 (0, 0))).alloc (.cells #[.int .i64 k, .int .i64 o, .int .i64 r] 37 (0, 0))).alloc (.cells #[.slice none 0 0, .int .i64 0] 36 (0, 0)) = W from HW.out]
    refine (HR.out _).mono ?_
    rintro x w2 ⟨rfl, hb2⟩
    obtain ⟨⟨⟨h0, h1⟩, -⟩, ⟨⟨m0, m0z⟩, m1, m1z⟩⟩ := HX.out w2 hb2
    obtain ⟨w9, e9, q0, q1, HF9⟩ := HE.out w2 hb2
    clear hb2 k0 k1 k2
    go_wp2
    refine bodyPost_ret (v := .tuple #[.agg #[.slice A n c, .int .i64 (p : Nat)], .int .i64 1]) (by simp [results, Try.results28, go_sem, q0, q1]) rfl ?_
    exact ⟨_, rfl, HF9.out⟩
  | true =>
    rw [hr] at HR
    rw [if_pos rfl, if_pos rfl]
    obtain ⟨Q, rfl⟩ : ∃ Q : Nat, r = Q := ⟨r.toNat, by simp [rightB] at hr; omega⟩
    rw [show ((Q : Int)).toNat = Q from rfl]
    have HP : Hid (∀ w2, Below W.heap.size W w2 → Calls Try.prog 40 #[.agg #[.slice A n c, .int .i64 (p : Nat)], .slice none 0 0, .int .i64 e, .int .i64 s, .agg #[.int .i64 k, .int .i64 o, .int .i64 (Q : Nat)]] w2 fun x w5 => ∃ A' n' c', x = .returned (.tuple #[.agg #[.slice A' n' c', .int .i64 ((rputD ⟨M, p⟩ e s k o Q [] (.slice none 0 0)).p : Nat)], .int .i64 (putE (Dc.fo ⟨M, p⟩) e s)]) ∧ Hid (Below W.heap.size W w5) ∧ ∃ w9, (w5.setCell ⟨w.heap.size + 1 + 1, 0, none⟩ (.slice A' n' c')).setCell ⟨w.heap.size + 1 + 1, 1, none⟩ (.int .i64 ((rputD ⟨M, p⟩ e s k o Q [] (.slice none 0 0)).p : Nat)) = w9 ∧ w9.cell? ⟨w.heap.size + 1 + 1, 0, none⟩ = some (.slice A' n' c') ∧ w9.cell? ⟨w.heap.size + 1 + 1, 1, none⟩ = some (.int .i64 ((rputD ⟨M, p⟩ e s k o Q [] (.slice none 0 0)).p : Nat)) ∧ Hid (DocE S (rputD ⟨M, p⟩ e s k o Q [] (.slice none 0 0)) (putE (Dc.fo ⟨M, p⟩) e s) w (.returned (.tuple #[.agg #[.slice A' n' c', .int .i64 ((rputD ⟨M, p⟩ e s k o Q [] (.slice none 0 0)).p : Nat)], .int .i64 (putE (Dc.fo ⟨M, p⟩) e s)])) w9)) := Lib.hid fun w2 h2 => by
      have B2 := B.later h2
      refine (rput_any (S := S) (D.kept (T := S) (w' := w2) (fun k hk => B2.below.block k (hS k hk)) (fun _ h => h)) (fun k hk => Nat.lt_of_lt_of_le (hS k hk) B2.below.size) hn hp (OfIs.nil S w2) e s k o Q).mono ?_
      rintro x w5 ⟨u, rfl, A', n', c', rfl, D', hb5⟩
      have B5 := B2.later hb5
      obtain ⟨w9, e9, q0, q1, HF9⟩ := box_end (q := (rputD ⟨M, p⟩ e s k o Q [] (.slice none 0 0)).p) B5 (past_new D' B2.size) hS
      exact ⟨A', n', c', rfl, Lib.hid (below_call (Nat.le_refl _) h2 hb5), w9, e9, q0, q1, Lib.hid ⟨_, rfl, HF9.out⟩⟩
    generalize rputD ⟨M, p⟩ e s k o Q [] (.slice none 0 0) = D2 at *
    generalize putE (Dc.fo ⟨M, p⟩) e s = E at *
    obtain ⟨P2, hP2⟩ : ∃ P2, D2.p = P2 := ⟨_, rfl⟩
    rw [hP2] at HP
    clear hW D hS B hr hP2
    go_enter Try.func28, Try.ntmps28
    go_wp2_with fail
    rw [show ((w.alloc (.cells #[.slice A n c, .int .i64 (p : Nat)] 36 (0, 0))).alloc (.cells #[.int .i64 k, .int .i64 o, .int .i64 (Q : Nat)] 37 (0, 0))).alloc (.cells #[.slice none 0 0, .int .i64 0] 36 (0, 0)) = W from HW.out]
    refine (HR.out _).mono ?_
    rintro x w2 ⟨rfl, hb2⟩
    obtain ⟨⟨⟨h0, h1⟩, g0, g1, g2⟩, -⟩ := HX.out w2 hb2
    have HP2 := Lib.hid (HP.out w2 hb2)
    clear hb2 k0 k1 k2
    go_wp2_with fail
    refine HP2.out.mono ?_
    rintro x w5 ⟨A', n', c', rfl, hb5, w9, e9, q0, q1, HF9⟩
    obtain ⟨-, ⟨⟨m0, m0z⟩, m1, m1z⟩⟩ := HX.out w5 hb5.out
    clear h0 h1 g0 g1 g2
    go_wp2
    refine bodyPost_ret (v := .tuple #[.agg #[.slice A' n' c', .int .i64 (P2 : Nat)], .int .i64 E]) (by simp [results, Try.results28, go_sem, q0, q1]) rfl ?_
    exact HF9.out
end Go.Proofs.Ythblldojbgeknaa
