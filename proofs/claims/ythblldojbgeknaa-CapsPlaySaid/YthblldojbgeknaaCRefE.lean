/-
  Contracts: the document's Pass of one that is there (typed by tools/gen_crpass.py).
-/
import Derived.Test.YthblldojbgeknaaCRefD
namespace Go.Proofs.Ythblldojbgeknaa
open Go.ChangeShapes Go.WideShapes Go.ChangeAt Go.RowKit

section
variable {S : Nat → Prop} {w : World} {A : Option Addr} {n c p : Nat} {M : List Rn}
set_option maxRecDepth 4000 in
set_option maxHeartbeats 2000000 in
theorem rpass_low (D : DocIs S w A n c M) (hS : ∀ k, S k → k < w.heap.size) (hn : n ≤ 900) {e f : Int} {i : Nat} {x : Rn} (hi : atI M e f = (i : Nat)) (hx : M[i]? = some x) (t s : Int) {R : Int} (hR : R < 0) (give : Bool) :
    Calls Try.prog 22 #[.agg #[.slice A n c, .int .i64 (p : Nat)], .int .i64 e, .int .i64 f, .int .i64 t, .int .i64 s, .int .i64 R, .bool give] w (DocE S ⟨M, p⟩ 23 w) := by
  obtain ⟨W, hW⟩ : ∃ W, (w.alloc (.cells #[.slice A n c, .int .i64 (p : Nat)] 36 (0, 0))).alloc (.cells #[.slice none 0 0, .int .i64 0] 36 (0, 0)) = W := ⟨_, rfl⟩
  have B : Bx2 w A n c (p : Nat) (.slice none 0 0) (.int .i64 0) W := by
    rw [← hW]
    exact two_boxes w A n c (p : Nat)
  have HA : Hid (Calls Try.prog 14 #[.agg #[.slice A n c, .int .i64 (p : Nat)], .int .i64 e, .int .i64 f] W fun x w' => x = .returned (.int .i64 (i : Nat)) ∧ Below W.heap.size W w') := Lib.hid (by
    have h1 := rat_any (D.kept (T := S) (w' := W) (fun k hk => B.below.block k (hS k hk)) (fun _ h => h)) (fun k hk => Nat.lt_of_lt_of_le (hS k hk) B.below.size) (by omega) (p : Nat) e f
    rwa [hi] at h1)
  have HX : Hid (∀ w2, Below W.heap.size W w2 → BxF w A n c (p : Nat) w2 ∧ ∃ w9, (w2.setCell ⟨w.heap.size + 1, 0, none⟩ (.slice A n c)).setCell ⟨w.heap.size + 1, 1, none⟩ (.int .i64 (p : Nat)) = w9 ∧ w9.cell? ⟨w.heap.size + 1, 0, none⟩ = some (.slice A n c) ∧ w9.cell? ⟨w.heap.size + 1, 1, none⟩ = some (.int .i64 (p : Nat)) ∧ Hid (DocB S M p w (.agg #[.slice A n c, .int .i64 (p : Nat)]) w9)) := Lib.hid fun w2 h2 => ⟨(B.later h2).facts, (B.later h2).same D hS⟩
  obtain ⟨g, hAg, hgS, -⟩ := D.at_ hx
  subst hAg
  have HRw : Hid (∀ w2, Below W.heap.size W w2 → g < w2.heap.size ∧ w2.cell? ⟨g, i * 7, none⟩ = some (.int .i64 (x.id : Nat)) ∧ w2.cell? ⟨g, i * 7 + 1, none⟩ = some x.ov ∧ w2.cell? ⟨g, i * 7 + 2, none⟩ = some (.int .i64 (x.en : Nat)) ∧ w2.cell? ⟨g, i * 7 + 3, none⟩ = some (.int .i64 (x.sl : Nat)) ∧ w2.cell? ⟨g, i * 7 + 4, none⟩ = some (.int .i64 x.k) ∧ w2.cell? ⟨g, i * 7 + 5, none⟩ = some (.int .i64 x.o) ∧ w2.cell? ⟨g, i * 7 + 6, none⟩ = some (.int .i64 (x.r : Nat))) := Lib.hid fun w2 h2 => by
    have hb := (B.later h2).below
    have D2 := D.kept (T := S) (w' := w2) (fun k hk => hb.block k (hS k hk)) (fun _ h => h)
    obtain ⟨g', e', -, r⟩ := D2.at_ hx
    cases e'
    exact ⟨Nat.lt_of_lt_of_le (hS g hgS) hb.size, r⟩
  have hin : i < n := by
    rw [D.len]
    exact (List.getElem?_eq_some_iff.1 hx).1
  have i0 : (0 : Int) ≤ i := by omega
  have i1 : (i : Int) < n := by omega
  have hcn : n ≤ c := D.cap
  have HBf := Lib.hid B
  obtain ⟨⟨h0, h1⟩, -⟩ := B.facts
  have HW := Lib.hid hW
  clear hW D hS B hi hx hn
  go_enter Try.func22, Try.ntmps22
  go_wp2_with fail
  rw [show (w.alloc (.cells #[.slice (some ⟨g, 0, none⟩) n c, .int .i64 (p : Nat)] 36 (0, 0))).alloc (.cells #[.slice none 0 0, .int .i64 0] 36 (0, 0)) = W from HW.out]
  refine HA.out.mono ?_
  rintro y w2 ⟨rfl, hb2⟩
  obtain ⟨⟨⟨h0, h1⟩, ⟨m0, m0z⟩, m1, m1z⟩, w9, e9, q0, q1, HF9⟩ := HX.out w2 hb2
  obtain ⟨hg, r0, r1, r2, r3, r4, r5, r6⟩ := HRw.out w2 hb2
  clear hb2
  go_wp2
  refine bodyPost_ret (v := .tuple #[.agg #[.slice (some ⟨g, 0, none⟩) n c, .int .i64 (p : Nat)], .int .i64 23]) (by simp [results, Try.results22, go_sem, q0, q1]) rfl ?_
  exact ⟨_, rfl, HF9.out⟩
set_option maxRecDepth 4000 in
set_option maxHeartbeats 2000000 in
theorem rpass_not (D : DocIs S w A n c M) (hS : ∀ k, S k → k < w.heap.size) (hn : n ≤ 900) {e f : Int} {i : Nat} {x : Rn} (hi : atI M e f = (i : Nat)) (hx : M[i]? = some x) (t s : Int) {Q : Nat} (hQ : Q < 9223372036854775808) (hxr : x.r < 16) (hm : mayB x.r Q = false) (give : Bool) :
    Calls Try.prog 22 #[.agg #[.slice A n c, .int .i64 (p : Nat)], .int .i64 e, .int .i64 f, .int .i64 t, .int .i64 s, .int .i64 (Q : Nat), .bool give] w (DocE S ⟨M, p⟩ 23 w) := by
  obtain ⟨W, hW⟩ : ∃ W, (w.alloc (.cells #[.slice A n c, .int .i64 (p : Nat)] 36 (0, 0))).alloc (.cells #[.slice none 0 0, .int .i64 0] 36 (0, 0)) = W := ⟨_, rfl⟩
  have B : Bx2 w A n c (p : Nat) (.slice none 0 0) (.int .i64 0) W := by
    rw [← hW]
    exact two_boxes w A n c (p : Nat)
  have HA : Hid (Calls Try.prog 14 #[.agg #[.slice A n c, .int .i64 (p : Nat)], .int .i64 e, .int .i64 f] W fun x w' => x = .returned (.int .i64 (i : Nat)) ∧ Below W.heap.size W w') := Lib.hid (by
    have h1 := rat_any (D.kept (T := S) (w' := W) (fun k hk => B.below.block k (hS k hk)) (fun _ h => h)) (fun k hk => Nat.lt_of_lt_of_le (hS k hk) B.below.size) (by omega) (p : Nat) e f
    rwa [hi] at h1)
  have HX : Hid (∀ w2, Below W.heap.size W w2 → BxF w A n c (p : Nat) w2 ∧ ∃ w9, (w2.setCell ⟨w.heap.size + 1, 0, none⟩ (.slice A n c)).setCell ⟨w.heap.size + 1, 1, none⟩ (.int .i64 (p : Nat)) = w9 ∧ w9.cell? ⟨w.heap.size + 1, 0, none⟩ = some (.slice A n c) ∧ w9.cell? ⟨w.heap.size + 1, 1, none⟩ = some (.int .i64 (p : Nat)) ∧ Hid (DocB S M p w (.agg #[.slice A n c, .int .i64 (p : Nat)]) w9)) := Lib.hid fun w2 h2 => ⟨(B.later h2).facts, (B.later h2).same D hS⟩
  obtain ⟨g, hAg, hgS, -⟩ := D.at_ hx
  subst hAg
  have HRw : Hid (∀ w2, Below W.heap.size W w2 → g < w2.heap.size ∧ w2.cell? ⟨g, i * 7, none⟩ = some (.int .i64 (x.id : Nat)) ∧ w2.cell? ⟨g, i * 7 + 1, none⟩ = some x.ov ∧ w2.cell? ⟨g, i * 7 + 2, none⟩ = some (.int .i64 (x.en : Nat)) ∧ w2.cell? ⟨g, i * 7 + 3, none⟩ = some (.int .i64 (x.sl : Nat)) ∧ w2.cell? ⟨g, i * 7 + 4, none⟩ = some (.int .i64 x.k) ∧ w2.cell? ⟨g, i * 7 + 5, none⟩ = some (.int .i64 x.o) ∧ w2.cell? ⟨g, i * 7 + 6, none⟩ = some (.int .i64 (x.r : Nat))) := Lib.hid fun w2 h2 => by
    have hb := (B.later h2).below
    have D2 := D.kept (T := S) (w' := w2) (fun k hk => hb.block k (hS k hk)) (fun _ h => h)
    obtain ⟨g', e', -, r⟩ := D2.at_ hx
    cases e'
    exact ⟨Nat.lt_of_lt_of_le (hS g hgS) hb.size, r⟩
  have hin : i < n := by
    rw [D.len]
    exact (List.getElem?_eq_some_iff.1 hx).1
  have i0 : (0 : Int) ≤ i := by omega
  have i1 : (i : Int) < n := by omega
  have hcn : n ≤ c := D.cap
  have HBf := Lib.hid B
  obtain ⟨⟨h0, h1⟩, -⟩ := B.facts
  have HW := Lib.hid hW
  have HB : Hid (∀ w, _) := Lib.hid fun w => rbits_any x.r Q hxr hQ w
  rw [hm] at HB
  have hQ0 : (0 : Int) ≤ Q := by omega
  clear hW D hS B hi hx hn hQ hxr hm
  go_enter Try.func22, Try.ntmps22
  go_wp2_with fail
  rw [show (w.alloc (.cells #[.slice (some ⟨g, 0, none⟩) n c, .int .i64 (p : Nat)] 36 (0, 0))).alloc (.cells #[.slice none 0 0, .int .i64 0] 36 (0, 0)) = W from HW.out]
  refine HA.out.mono ?_
  rintro y w2 ⟨rfl, hb2⟩
  obtain ⟨⟨⟨h0, h1⟩, ⟨m0, m0z⟩, m1, m1z⟩, w9, e9, q0, q1, HF9⟩ := HX.out w2 hb2
  obtain ⟨hg, r0, r1, r2, r3, r4, r5, r6⟩ := HRw.out w2 hb2
  clear hb2
  go_wp2_with (go_at_call 15; refine (HB.out _).mono ?_; rintro y w3 ⟨rfl, rfl⟩)
  refine bodyPost_ret (v := .tuple #[.agg #[.slice (some ⟨g, 0, none⟩) n c, .int .i64 (p : Nat)], .int .i64 23]) (by simp [results, Try.results22, go_sem, q0, q1]) rfl ?_
  exact ⟨_, rfl, HF9.out⟩
set_option maxRecDepth 4000 in
set_option maxHeartbeats 2000000 in
theorem rpass_no4 (D : DocIs S w A n c M) (hS : ∀ k, S k → k < w.heap.size) (hn : n ≤ 900) {e f : Int} {i : Nat} {x : Rn} (hi : atI M e f = (i : Nat)) (hx : M[i]? = some x) (t s : Int) {Q : Nat} (hQ : Q < 9223372036854775808) (hxr : x.r < 16) (hm : mayB x.r Q = true) (hm4 : mayB x.r 4 = false) :
    Calls Try.prog 22 #[.agg #[.slice A n c, .int .i64 (p : Nat)], .int .i64 e, .int .i64 f, .int .i64 t, .int .i64 s, .int .i64 (Q : Nat), .bool true] w (DocE S ⟨M, p⟩ 23 w) := by
  obtain ⟨W, hW⟩ : ∃ W, (w.alloc (.cells #[.slice A n c, .int .i64 (p : Nat)] 36 (0, 0))).alloc (.cells #[.slice none 0 0, .int .i64 0] 36 (0, 0)) = W := ⟨_, rfl⟩
  have B : Bx2 w A n c (p : Nat) (.slice none 0 0) (.int .i64 0) W := by
    rw [← hW]
    exact two_boxes w A n c (p : Nat)
  have HA : Hid (Calls Try.prog 14 #[.agg #[.slice A n c, .int .i64 (p : Nat)], .int .i64 e, .int .i64 f] W fun x w' => x = .returned (.int .i64 (i : Nat)) ∧ Below W.heap.size W w') := Lib.hid (by
    have h1 := rat_any (D.kept (T := S) (w' := W) (fun k hk => B.below.block k (hS k hk)) (fun _ h => h)) (fun k hk => Nat.lt_of_lt_of_le (hS k hk) B.below.size) (by omega) (p : Nat) e f
    rwa [hi] at h1)
  have HX : Hid (∀ w2, Below W.heap.size W w2 → BxF w A n c (p : Nat) w2 ∧ ∃ w9, (w2.setCell ⟨w.heap.size + 1, 0, none⟩ (.slice A n c)).setCell ⟨w.heap.size + 1, 1, none⟩ (.int .i64 (p : Nat)) = w9 ∧ w9.cell? ⟨w.heap.size + 1, 0, none⟩ = some (.slice A n c) ∧ w9.cell? ⟨w.heap.size + 1, 1, none⟩ = some (.int .i64 (p : Nat)) ∧ Hid (DocB S M p w (.agg #[.slice A n c, .int .i64 (p : Nat)]) w9)) := Lib.hid fun w2 h2 => ⟨(B.later h2).facts, (B.later h2).same D hS⟩
  obtain ⟨g, hAg, hgS, -⟩ := D.at_ hx
  subst hAg
  have HRw : Hid (∀ w2, Below W.heap.size W w2 → g < w2.heap.size ∧ w2.cell? ⟨g, i * 7, none⟩ = some (.int .i64 (x.id : Nat)) ∧ w2.cell? ⟨g, i * 7 + 1, none⟩ = some x.ov ∧ w2.cell? ⟨g, i * 7 + 2, none⟩ = some (.int .i64 (x.en : Nat)) ∧ w2.cell? ⟨g, i * 7 + 3, none⟩ = some (.int .i64 (x.sl : Nat)) ∧ w2.cell? ⟨g, i * 7 + 4, none⟩ = some (.int .i64 x.k) ∧ w2.cell? ⟨g, i * 7 + 5, none⟩ = some (.int .i64 x.o) ∧ w2.cell? ⟨g, i * 7 + 6, none⟩ = some (.int .i64 (x.r : Nat))) := Lib.hid fun w2 h2 => by
    have hb := (B.later h2).below
    have D2 := D.kept (T := S) (w' := w2) (fun k hk => hb.block k (hS k hk)) (fun _ h => h)
    obtain ⟨g', e', -, r⟩ := D2.at_ hx
    cases e'
    exact ⟨Nat.lt_of_lt_of_le (hS g hgS) hb.size, r⟩
  have hin : i < n := by
    rw [D.len]
    exact (List.getElem?_eq_some_iff.1 hx).1
  have i0 : (0 : Int) ≤ i := by omega
  have i1 : (i : Int) < n := by omega
  have hcn : n ≤ c := D.cap
  have HBf := Lib.hid B
  obtain ⟨⟨h0, h1⟩, -⟩ := B.facts
  have HW := Lib.hid hW
  have HB : Hid (∀ w, _) := Lib.hid fun w => rbits_any x.r Q hxr hQ w
  rw [hm] at HB
  have HB4 : Hid (∀ w, Calls Try.prog 15 #[.int .i64 (x.r : Nat), .int .i64 4] w fun y w' => y = .returned (.bool false) ∧ w = w') := Lib.hid fun w => by
    have := rbits_any x.r 4 hxr (by omega) w
    rw [show mayB x.r ((4 : Nat) : Int) = false from hm4] at this
    exact this
  have hQ0 : (0 : Int) ≤ Q := by omega
  clear hW D hS B hi hx hn hQ hxr hm hm4
  go_enter Try.func22, Try.ntmps22
  go_wp2_with fail
  rw [show (w.alloc (.cells #[.slice (some ⟨g, 0, none⟩) n c, .int .i64 (p : Nat)] 36 (0, 0))).alloc (.cells #[.slice none 0 0, .int .i64 0] 36 (0, 0)) = W from HW.out]
  refine HA.out.mono ?_
  rintro y w2 ⟨rfl, hb2⟩
  obtain ⟨⟨⟨h0, h1⟩, ⟨m0, m0z⟩, m1, m1z⟩, w9, e9, q0, q1, HF9⟩ := HX.out w2 hb2
  obtain ⟨hg, r0, r1, r2, r3, r4, r5, r6⟩ := HRw.out w2 hb2
  clear hb2
  go_wp2_with fail
  refine (HB.out _).mono ?_
  rintro y w3 ⟨rfl, rfl⟩
  go_wp2_with fail
  refine (HB4.out _).mono ?_
  rintro y w3 ⟨rfl, rfl⟩
  go_wp2
  refine bodyPost_ret (v := .tuple #[.agg #[.slice (some ⟨g, 0, none⟩) n c, .int .i64 (p : Nat)], .int .i64 23]) (by simp [results, Try.results22, go_sem, q0, q1]) rfl ?_
  exact ⟨_, rfl, HF9.out⟩
set_option maxRecDepth 100000 in
set_option maxHeartbeats 4000000 in
theorem rpass_derive (D : DocIs S w A n c M) (hS : ∀ k, S k → k < w.heap.size) (hn : n ≤ 900) {e f : Int} {i : Nat} {x : Rn} (hi : atI M e f = (i : Nat)) (hx : M[i]? = some x) (hofs : x.of.length ≤ 900) (t s : Int) (hp : p < 1000000) {Q : Nat} (hQ : Q < 9223372036854775808) (hxr : x.r < 16) (hm : mayB x.r Q = true) :
    Calls Try.prog 22 #[.agg #[.slice A n c, .int .i64 (p : Nat)], .int .i64 e, .int .i64 f, .int .i64 t, .int .i64 s, .int .i64 (Q : Nat), .bool false] w (fun y w' => ∃ v, DocE S (rputD ⟨M, p⟩ t s x.k x.o Q (x.of ++ [x.id]) v) (putE (Dc.fo ⟨M, p⟩) t s) w y w') := by
  obtain ⟨W, hW⟩ : ∃ W, (w.alloc (.cells #[.slice A n c, .int .i64 (p : Nat)] 36 (0, 0))).alloc (.cells #[.slice none 0 0, .int .i64 0] 36 (0, 0)) = W := ⟨_, rfl⟩
  have B : Bx2 w A n c (p : Nat) (.slice none 0 0) (.int .i64 0) W := by
    rw [← hW]
    exact two_boxes w A n c (p : Nat)
  have HA : Hid (Calls Try.prog 14 #[.agg #[.slice A n c, .int .i64 (p : Nat)], .int .i64 e, .int .i64 f] W fun x w' => x = .returned (.int .i64 (i : Nat)) ∧ Below W.heap.size W w') := Lib.hid (by
    have h1 := rat_any (D.kept (T := S) (w' := W) (fun k hk => B.below.block k (hS k hk)) (fun _ h => h)) (fun k hk => Nat.lt_of_lt_of_le (hS k hk) B.below.size) (by omega) (p : Nat) e f
    rwa [hi] at h1)
  have HX : Hid (∀ w2, Below W.heap.size W w2 → BxF w A n c (p : Nat) w2 ∧ ∃ w9, (w2.setCell ⟨w.heap.size + 1, 0, none⟩ (.slice A n c)).setCell ⟨w.heap.size + 1, 1, none⟩ (.int .i64 (p : Nat)) = w9 ∧ w9.cell? ⟨w.heap.size + 1, 0, none⟩ = some (.slice A n c) ∧ w9.cell? ⟨w.heap.size + 1, 1, none⟩ = some (.int .i64 (p : Nat)) ∧ Hid (DocB S M p w (.agg #[.slice A n c, .int .i64 (p : Nat)]) w9)) := Lib.hid fun w2 h2 => ⟨(B.later h2).facts, (B.later h2).same D hS⟩
  obtain ⟨g, hAg, hgS, -⟩ := D.at_ hx
  subst hAg
  have HRw : Hid (∀ w2, Below W.heap.size W w2 → g < w2.heap.size ∧ w2.cell? ⟨g, i * 7, none⟩ = some (.int .i64 (x.id : Nat)) ∧ w2.cell? ⟨g, i * 7 + 1, none⟩ = some x.ov ∧ w2.cell? ⟨g, i * 7 + 2, none⟩ = some (.int .i64 (x.en : Nat)) ∧ w2.cell? ⟨g, i * 7 + 3, none⟩ = some (.int .i64 (x.sl : Nat)) ∧ w2.cell? ⟨g, i * 7 + 4, none⟩ = some (.int .i64 x.k) ∧ w2.cell? ⟨g, i * 7 + 5, none⟩ = some (.int .i64 x.o) ∧ w2.cell? ⟨g, i * 7 + 6, none⟩ = some (.int .i64 (x.r : Nat))) := Lib.hid fun w2 h2 => by
    have hb := (B.later h2).below
    have D2 := D.kept (T := S) (w' := w2) (fun k hk => hb.block k (hS k hk)) (fun _ h => h)
    obtain ⟨g', e', -, r⟩ := D2.at_ hx
    cases e'
    exact ⟨Nat.lt_of_lt_of_le (hS g hgS) hb.size, r⟩
  have hin : i < n := by
    rw [D.len]
    exact (List.getElem?_eq_some_iff.1 hx).1
  have i0 : (0 : Int) ≤ i := by omega
  have i1 : (i : Int) < n := by omega
  have hcn : n ≤ c := D.cap
  have HBf := Lib.hid B
  obtain ⟨⟨h0, h1⟩, -⟩ := B.facts
  have HW := Lib.hid hW
  have HB : Hid (∀ w, _) := Lib.hid fun w => rbits_any x.r Q hxr hQ w
  rw [hm] at HB
  have hQ0 : (0 : Int) ≤ Q := by omega
  obtain ⟨oA, on, oc, hov, hol, -⟩ := D.ofs x (List.mem_of_getElem? hx)
  have hofn : on ≤ 900 ∨ 900 < on := by omega
  have HOf : Hid (∀ w', Below w.heap.size w w' → OfIs S w' (.slice oA on oc) x.of) := Lib.hid fun w' hb => by
    rw [← hov]
    exact (D.ofs x (List.mem_of_getElem? hx)).kept (fun k hk => hb.block k (hS k hk)) (fun _ h => h)
  have HDk : Hid (∀ w', Below w.heap.size w w' → DocIs S w' (some ⟨g, 0, none⟩) n c M) := Lib.hid fun w' hb => D.kept (fun k hk => hb.block k (hS k hk)) (fun _ h => h)
  have HlS := Lib.hid hS
  have HoL := Lib.hid hol
  have Hn := Lib.hid hn
  have Hp := Lib.hid hp
  have Hofs := Lib.hid hofs
  rw [hov] at HRw
  have on6 : on ≤ 1000 := by omega
  clear hW D hS B hi hx hQ hxr hm hov hol hp hofn hofs
  go_enter Try.func22, Try.ntmps22
  go_wp2_with fail
  rw [show (w.alloc (.cells #[.slice (some ⟨g, 0, none⟩) n c, .int .i64 (p : Nat)] 36 (0, 0))).alloc (.cells #[.slice none 0 0, .int .i64 0] 36 (0, 0)) = W from HW.out]
  refine HA.out.mono ?_
  rintro y w2 ⟨rfl, hb2⟩
  obtain ⟨⟨⟨h0, h1⟩, -⟩, -⟩ := HX.out w2 hb2
  obtain ⟨hg, r0, r1, r2, r3, r4, r5, r6⟩ := HRw.out w2 hb2
  have HB2 := Lib.hid (HBf.out.later hb2)
  clear hb2
  go_wp2_with fail
  refine (HB.out _).mono ?_
  rintro y w3 ⟨rfl, rfl⟩
  obtain ⟨b5, hb5⟩ : ∃ b5, w2.heap.size = b5 := ⟨_, rfl⟩
  obtain ⟨w5, hw5⟩ : ∃ w5, w2.alloc (.cells #[.int .i64 (x.id : Nat), .slice oA on oc, .int .i64 (x.en : Nat), .int .i64 (x.sl : Nat), .int .i64 x.k, .int .i64 x.o, .int .i64 (x.r : Nat)] 51 (0, 0)) = w5 := ⟨_, rfl⟩
  have HB5 : Hid (Bx2 w (some ⟨g, 0, none⟩) n c (p : Nat) (.slice none 0 0) (.int .i64 0) w5) := Lib.hid (by
    rw [← hw5]
    exact HB2.out.later ((Below.refl _ _).alloc (Nat.le_refl _) _))
  have HN5 : Hid (w5.heap[b5]? = some (.cells #[.int .i64 (x.id : Nat), .slice oA on oc, .int .i64 (x.en : Nat), .int .i64 (x.sl : Nat), .int .i64 x.k, .int .i64 x.o, .int .i64 (x.r : Nat)] 51 (0, 0))) := Lib.hid (by
    rw [← hw5, ← hb5]
    exact heap_alloc_new w2 _)
  have Hs5 : Hid (b5 < w5.heap.size ∧ w.heap.size + 1 + 1 ≤ b5) := Lib.hid ⟨by rw [← hw5, ← hb5]; simp, by rw [← hb5]; exact HB2.out.size⟩
  have HS : Hid (∀ w', Mid w5 (w.heap.size + 1) w' → Mid w5 (w.heap.size + 1) w' ∧ (w'.cell? ⟨w.heap.size, 0, none⟩ = some (.slice (some ⟨g, 0, none⟩) n c) ∧ w'.cell? ⟨w.heap.size, 1, none⟩ = some (.int .i64 (p : Nat))) ∧ w'.cell? ⟨b5, 0, none⟩ = some (.int .i64 (x.id : Nat)) ∧ w'.cell? ⟨b5, 1, none⟩ = some (.slice oA on oc) ∧ w'.cell? ⟨b5, 4, none⟩ = some (.int .i64 x.k) ∧ w'.cell? ⟨b5, 5, none⟩ = some (.int .i64 x.o)) := Lib.hid fun w' h => by
    have hs := Hs5.out
    have hB := HB5.out.size
    have n1 : ¬ w.heap.size = w.heap.size + 1 := by omega
    have n2 : ¬ b5 = w.heap.size + 1 := by omega
    have hc := fun j => h.cell (k := b5) hs.1 n2 j
    have hd := fun j => h.cell (k := w.heap.size) (by omega) n1 j
    exact ⟨h, ⟨(hd 0).trans (bx_cell HB5.out.b0 rfl).1, (hd 1).trans (bx_cell HB5.out.b0 rfl).1⟩, (hc 0).trans (bx_cell HN5.out rfl).1, (hc 1).trans (bx_cell HN5.out rfl).1, (hc 4).trans (bx_cell HN5.out rfl).1, (hc 5).trans (bx_cell HN5.out rfl).1⟩
  have HMb : Hid (∀ w', Below w5.heap.size w5 w' → Mid w5 (w.heap.size + 1) w') := Lib.hid fun w' h => Only.of_below h
  have HMp : Hid (∀ w' j v, Mid w5 (w.heap.size + 1) w' → Mid w5 (w.heap.size + 1) (w'.setCell ⟨w.heap.size + 1, j, none⟩ v)) := Lib.hid fun w' j v h => Only.put (S := (· = w.heap.size + 1)) h (p := ⟨w.heap.size + 1, j, none⟩) (Or.inl rfl) v
  have HO5 : Hid (∀ w', Below w5.heap.size w5 w' → OfIs S w' (.slice oA on oc) x.of) := Lib.hid fun w' h => HOf.out w' (HB5.out.later h).below
  have HN1 : Hid (∀ (w4 : World) (g' : Nat), w4.heap[g']? = some (.cells #[.int .i64 (x.id : Nat)] 3) → OfIs (fun k => k = g') w4 (.slice (some ⟨g', 0, none⟩) 1 1) [x.id]) := Lib.hid fun w4 g' hg => of_one x.id hg rfl
  obtain ⟨P2, hP2⟩ : ∃ P2 : Value → Nat, P2 = fun v => (rputD ⟨M, p⟩ t s x.k x.o Q (x.of ++ [x.id]) v).p := ⟨_, rfl⟩
  have HP : Hid (∀ (w7 : World) (A2 : Option Addr) (c2 : Nat), Below w5.heap.size w5 w7 → w7.ownsRow w5.heap.size 3 1 (.slice A2 (on + 1) c2) (on + 1) (natc (([] ++ x.of) ++ [x.id])) → Calls Try.prog 40 #[.agg #[.slice (some ⟨g, 0, none⟩) n c, .int .i64 (p : Nat)], .slice A2 (on + 1) c2, .int .i64 t, .int .i64 s, .agg #[.int .i64 x.k, .int .i64 x.o, .int .i64 (Q : Nat)]] w7 fun y w8 => ∃ A' n' c', y = .returned (.tuple #[.agg #[.slice A' n' c', .int .i64 (P2 (.slice A2 (on + 1) c2) : Nat)], .int .i64 (putE (Dc.fo ⟨M, p⟩) t s)]) ∧ Hid (Below w5.heap.size w5 w8) ∧ ((w8.cell? ⟨w.heap.size + 1, 0, none⟩ = some (.slice none 0 0) ∧ w8.frozen? ⟨w.heap.size + 1, 0, none⟩ = false) ∧ w8.cell? ⟨w.heap.size + 1, 1, none⟩ = some (.int .i64 0) ∧ w8.frozen? ⟨w.heap.size + 1, 1, none⟩ = false) ∧
      Hid (∃ w9, (w8.setCell ⟨w.heap.size + 1, 0, none⟩ (.slice A' n' c')).setCell ⟨w.heap.size + 1, 1, none⟩ (.int .i64 (P2 (.slice A2 (on + 1) c2) : Nat)) = w9 ∧ w9.cell? ⟨w.heap.size + 1, 0, none⟩ = some (.slice A' n' c') ∧ w9.cell? ⟨w.heap.size + 1, 1, none⟩ = some (.int .i64 (P2 (.slice A2 (on + 1) c2) : Nat)) ∧ ∃ v, DocE S (rputD ⟨M, p⟩ t s x.k x.o Q (x.of ++ [x.id]) v) (putE (Dc.fo ⟨M, p⟩) t s) w (.returned (.tuple #[.agg #[.slice A' n' c', .int .i64 (P2 (.slice A2 (on + 1) c2) : Nat)], .int .i64 (putE (Dc.fo ⟨M, p⟩) t s)])) w9)) := Lib.hid fun w7 A2 c2 h7 hrow => by
    have B7 := HB5.out.later h7
    have hb5s := Hs5.out
    rw [List.nil_append] at hrow
    have O7 : OfIs (fun k => S k ∨ (w5.heap.size ≤ k ∧ k < w7.heap.size)) w7 (.slice A2 (on + 1) c2) (x.of ++ [x.id]) := OfIs.own hrow (fun k h1 h2 => Or.inr ⟨h1, h2⟩)
    have D7 : DocIs (fun k => S k ∨ (w5.heap.size ≤ k ∧ k < w7.heap.size)) w7 (some ⟨g, 0, none⟩) n c M := (HDk.out w7 B7.below).kept (fun _ _ => rfl) (fun _ h => Or.inl h)
    refine (rput_any D7 (fun k hk => ?_) Hn.out Hp.out O7 t s x.k x.o Q).mono ?_
    · rcases hk with hk | hk
      · exact Nat.lt_of_lt_of_le (HlS.out k hk) B7.below.size
      · exact hk.2
    rintro y w8 ⟨u, rfl, A', n', c', rfl, D', hb8⟩
    have B8 := B7.later hb8
    obtain ⟨w9, e9, q0, q1, HF9⟩ := res_end (S := S) (w := w) (g := w.heap.size + 1) (q := P2 (.slice A2 (on + 1) c2)) B8.b1 (Nat.le_succ _) B8.below D' (fun k hk => by
      have h7s := h7.size
      have h8s := hb8.size
      rcases hk with (hk | hk) | hk
      · have := HlS.out k hk
        exact ⟨by omega, Or.inl hk⟩
      · exact ⟨by omega, Or.inr ⟨by omega, by omega⟩⟩
      · exact ⟨by omega, Or.inr ⟨by omega, by omega⟩⟩)
    subst hP2
    exact ⟨A', n', c', rfl, Lib.hid (below_call (Nat.le_refl _) h7 hb8), ⟨bx_cell B8.b1 rfl, bx_cell B8.b1 rfl⟩, Lib.hid ⟨w9, e9, q0, q1, _, _, rfl, HF9.out⟩⟩
  have HP2 := Lib.hid hP2
  have l5 := Hs5.out.1
  obtain ⟨⟨h0', h1'⟩, ⟨m0, m0z⟩, m1, m1z⟩ := HB5.out.facts
  clear hP2
  go_upto_region 5 with (fail)
  go_region_held3 (fun w' => Mid w5 (w.heap.size + 1) w' ∧ (w'.cell? ⟨w.heap.size, 0, none⟩ = some (.slice (some ⟨g, 0, none⟩) n c) ∧ w'.cell? ⟨w.heap.size, 1, none⟩ = some (.int .i64 (p : Nat))) ∧ w'.cell? ⟨b5, 0, none⟩ = some (.int .i64 (x.id : Nat)) ∧ w'.cell? ⟨b5, 1, none⟩ = some (.slice oA on oc) ∧ w'.cell? ⟨b5, 4, none⟩ = some (.int .i64 x.k) ∧ w'.cell? ⟨b5, 5, none⟩ = some (.int .i64 x.o))
    ((refine HS.out _ ?_; repeat' (first | with_reducible exact HMb.out _ G3.out | with_reducible exact HMb.out _ G2.out | with_reducible exact HMb.out _ G1.out | with_reducible refine HMp.out _ _ _ ?_ | refine HMb.out _ ?_ | with_reducible exact Below.refl _ _ | with_reducible exact G1.out | with_reducible refine Below.drew ?_ | with_reducible refine below_new (Nat.le_refl _) ?_ _)))
    (first
      | (refine step_nat ((w5.alloc (.cells #[] 3)).alloc (.cells #[.int .i64 (x.id : Nat)] 3)).drew (by rfl) (.tmp 61) (.tmp 63) (by rfl) w5.heap.size (.slice (some ⟨w5.heap.size, 0, none⟩) 0 0) 0 [] (by rfl) (own_drew ((own_empty (Nat.le_refl _)).alloc _)) oA on oc x.of (by rfl) (T := S) (HO5.out _ (two_new _ _ _)) on (by omega) (by omega) (two_size _ _ _) ?_; intro A1 cap1 w6 X1 z1; obtain ⟨u1, u2⟩ := grown_two z1; have G1 := Lib.hid u1; have K1 := Lib.hid (HN1.out w6 (w5.heap.size + 1) u2); clear z1 u1 u2)
      | (refine step_nat ((w5.alloc (.cells #[.int .i64 (x.id : Nat)] 3)).alloc (.cells #[] 3)).drew (by rfl) (.tmp 61) (.tmp 63) (by rfl) w5.heap.size (.slice (some ⟨w5.heap.size + 1, 0, none⟩) 0 0) 0 [] (by rfl) (own_drew (own_empty2 (Nat.le_refl _))) oA on oc x.of (by rfl) (T := S) (HO5.out _ (two_new _ _ _)) on (by omega) (by omega) (two_size _ _ _) ?_; intro A1 cap1 w6 X1 z1; obtain ⟨u1, u2⟩ := grown_two2 z1; have G1 := Lib.hid u1; have K1 := Lib.hid (HN1.out w6 w5.heap.size u2); clear z1 u1 u2)
      | (refine step_nat (w5.alloc (.cells #[] 3)).drew (by rfl) (.tmp 61) (.tmp 63) (by rfl) w5.heap.size (.slice (some ⟨w5.heap.size, 0, none⟩) 0 0) 0 [] (by rfl) (own_drew (own_empty (Nat.le_refl _))) oA on oc x.of (by rfl) (T := S) (HO5.out _ (one_new _ _)) on (by omega) (by omega) (one_size _ _) ?_; intro A1 cap1 w6 X1 z1; have G1 := Lib.hid (grown_one z1); clear z1)
      | (refine step_nat w6 (by rfl) (.tmp 64) (.tmp 67) (by rfl) w5.heap.size (.slice A1 on cap1) on ([] ++ x.of) (by rfl) X1 _ 1 1 [x.id] (by rfl) K1.out (on + 1) (by omega) (by omega) G1.out.size ?_; intro A2 cap2 w7 X2 z2; have G2 := Lib.hid (G1.out.grown z2 G1.out.size (fun k hk => (X1.lt k hk).1)); clear z2)
      | (refine step_nat (w6.alloc (.cells #[.int .i64 (x.id : Nat)] 3)) (by rfl) (.tmp 64) (.tmp 67) (by rfl) w5.heap.size (.slice A1 on cap1) on ([] ++ x.of) (by rfl) (X1.alloc _) (some ⟨w6.heap.size, 0, none⟩) 1 1 [x.id] (by rfl) (HN1.out _ w6.heap.size (heap_alloc_new w6 _)) (on + 1) (by omega) (by omega) (size_kept (Nat.le_refl _) (G1.out.alloc G1.out.size _)) ?_; intro A2 cap2 w7 X2 z2; have G2 := Lib.hid ((G1.out.alloc G1.out.size _).grown z2 (size_kept (Nat.le_refl _) (G1.out.alloc G1.out.size _)) (fun k hk => (X1.lt k hk).1)); clear z2)
      | (go_at_call 40; refine (HP.out w7 A2 cap2 G2.out X2).mono ?_; rintro y w8 ⟨A', n', c', rfl, G3, ⟨⟨m0, m0z⟩, m1, m1z⟩, H9⟩))
  all_goals
    obtain ⟨w9, e9, q0, q1, HF9⟩ := H9.out
    have HF := Lib.hid HF9
    rw [e9]
    clear HF9 e9 X1 X2
    go_wp2
    refine bodyPost_ret (v := .tuple #[.agg #[.slice A' n' c', .int .i64 (P2 (.slice A2 (on + 1) cap2) : Nat)], .int .i64 (putE (Dc.fo ⟨M, p⟩) t s)]) (by simp [results, Try.results22, go_sem, q0, q1]) rfl ?_
    exact HF.out
set_option maxRecDepth 100000 in
set_option maxHeartbeats 4000000 in
theorem rpass_give (D : DocIs S w A n c M) (hS : ∀ k, S k → k < w.heap.size) (hn : n ≤ 900) {e f : Int} {i : Nat} {x : Rn} (hi : atI M e f = (i : Nat)) (hx : M[i]? = some x) (hofs : x.of.length ≤ 900) (t s : Int) (hp : p < 1000000) {Q : Nat} (hQ : Q < 9223372036854775808) (hxr : x.r < 16) (hm : mayB x.r Q = true) (hm4 : mayB x.r 4 = true) :
    Calls Try.prog 22 #[.agg #[.slice A n c, .int .i64 (p : Nat)], .int .i64 e, .int .i64 f, .int .i64 t, .int .i64 s, .int .i64 (Q : Nat), .bool true] w (fun y w' => ∃ v, DocE S (rputD ⟨M, p⟩ t s x.k x.o Q (x.of ++ [x.id]) v) (putE (Dc.fo ⟨M, p⟩) t s) w y w') := by
  obtain ⟨W, hW⟩ : ∃ W, (w.alloc (.cells #[.slice A n c, .int .i64 (p : Nat)] 36 (0, 0))).alloc (.cells #[.slice none 0 0, .int .i64 0] 36 (0, 0)) = W := ⟨_, rfl⟩
  have B : Bx2 w A n c (p : Nat) (.slice none 0 0) (.int .i64 0) W := by
    rw [← hW]
    exact two_boxes w A n c (p : Nat)
  have HA : Hid (Calls Try.prog 14 #[.agg #[.slice A n c, .int .i64 (p : Nat)], .int .i64 e, .int .i64 f] W fun x w' => x = .returned (.int .i64 (i : Nat)) ∧ Below W.heap.size W w') := Lib.hid (by
    have h1 := rat_any (D.kept (T := S) (w' := W) (fun k hk => B.below.block k (hS k hk)) (fun _ h => h)) (fun k hk => Nat.lt_of_lt_of_le (hS k hk) B.below.size) (by omega) (p : Nat) e f
    rwa [hi] at h1)
  have HX : Hid (∀ w2, Below W.heap.size W w2 → BxF w A n c (p : Nat) w2 ∧ ∃ w9, (w2.setCell ⟨w.heap.size + 1, 0, none⟩ (.slice A n c)).setCell ⟨w.heap.size + 1, 1, none⟩ (.int .i64 (p : Nat)) = w9 ∧ w9.cell? ⟨w.heap.size + 1, 0, none⟩ = some (.slice A n c) ∧ w9.cell? ⟨w.heap.size + 1, 1, none⟩ = some (.int .i64 (p : Nat)) ∧ Hid (DocB S M p w (.agg #[.slice A n c, .int .i64 (p : Nat)]) w9)) := Lib.hid fun w2 h2 => ⟨(B.later h2).facts, (B.later h2).same D hS⟩
  obtain ⟨g, hAg, hgS, -⟩ := D.at_ hx
  subst hAg
  have HRw : Hid (∀ w2, Below W.heap.size W w2 → g < w2.heap.size ∧ w2.cell? ⟨g, i * 7, none⟩ = some (.int .i64 (x.id : Nat)) ∧ w2.cell? ⟨g, i * 7 + 1, none⟩ = some x.ov ∧ w2.cell? ⟨g, i * 7 + 2, none⟩ = some (.int .i64 (x.en : Nat)) ∧ w2.cell? ⟨g, i * 7 + 3, none⟩ = some (.int .i64 (x.sl : Nat)) ∧ w2.cell? ⟨g, i * 7 + 4, none⟩ = some (.int .i64 x.k) ∧ w2.cell? ⟨g, i * 7 + 5, none⟩ = some (.int .i64 x.o) ∧ w2.cell? ⟨g, i * 7 + 6, none⟩ = some (.int .i64 (x.r : Nat))) := Lib.hid fun w2 h2 => by
    have hb := (B.later h2).below
    have D2 := D.kept (T := S) (w' := w2) (fun k hk => hb.block k (hS k hk)) (fun _ h => h)
    obtain ⟨g', e', -, r⟩ := D2.at_ hx
    cases e'
    exact ⟨Nat.lt_of_lt_of_le (hS g hgS) hb.size, r⟩
  have hin : i < n := by
    rw [D.len]
    exact (List.getElem?_eq_some_iff.1 hx).1
  have i0 : (0 : Int) ≤ i := by omega
  have i1 : (i : Int) < n := by omega
  have hcn : n ≤ c := D.cap
  have HBf := Lib.hid B
  obtain ⟨⟨h0, h1⟩, -⟩ := B.facts
  have HW := Lib.hid hW
  have HB : Hid (∀ w, _) := Lib.hid fun w => rbits_any x.r Q hxr hQ w
  rw [hm] at HB
  have HB4 : Hid (∀ w, Calls Try.prog 15 #[.int .i64 (x.r : Nat), .int .i64 4] w fun y w' => y = .returned (.bool true) ∧ w = w') := Lib.hid fun w => by
    have := rbits_any x.r 4 hxr (by omega) w
    rw [show mayB x.r ((4 : Nat) : Int) = true from hm4] at this
    exact this
  have hQ0 : (0 : Int) ≤ Q := by omega
  obtain ⟨oA, on, oc, hov, hol, -⟩ := D.ofs x (List.mem_of_getElem? hx)
  have hofn : on ≤ 900 ∨ 900 < on := by omega
  have HOf : Hid (∀ w', Below w.heap.size w w' → OfIs S w' (.slice oA on oc) x.of) := Lib.hid fun w' hb => by
    rw [← hov]
    exact (D.ofs x (List.mem_of_getElem? hx)).kept (fun k hk => hb.block k (hS k hk)) (fun _ h => h)
  have HDk : Hid (∀ w', Below w.heap.size w w' → DocIs S w' (some ⟨g, 0, none⟩) n c M) := Lib.hid fun w' hb => D.kept (fun k hk => hb.block k (hS k hk)) (fun _ h => h)
  have HlS := Lib.hid hS
  have HoL := Lib.hid hol
  have Hn := Lib.hid hn
  have Hp := Lib.hid hp
  have Hofs := Lib.hid hofs
  rw [hov] at HRw
  have on6 : on ≤ 1000 := by omega
  clear hW D hS B hi hx hQ hxr hm hov hol hp hofn hofs hm4
  go_enter Try.func22, Try.ntmps22
  go_wp2_with fail
  rw [show (w.alloc (.cells #[.slice (some ⟨g, 0, none⟩) n c, .int .i64 (p : Nat)] 36 (0, 0))).alloc (.cells #[.slice none 0 0, .int .i64 0] 36 (0, 0)) = W from HW.out]
  refine HA.out.mono ?_
  rintro y w2 ⟨rfl, hb2⟩
  obtain ⟨⟨⟨h0, h1⟩, -⟩, -⟩ := HX.out w2 hb2
  obtain ⟨hg, r0, r1, r2, r3, r4, r5, r6⟩ := HRw.out w2 hb2
  have HB2 := Lib.hid (HBf.out.later hb2)
  clear hb2
  go_wp2_with fail
  refine (HB.out _).mono ?_
  rintro y w3 ⟨rfl, rfl⟩
  go_wp2_with fail
  refine (HB4.out _).mono ?_
  rintro y w3 ⟨rfl, rfl⟩
  obtain ⟨b5, hb5⟩ : ∃ b5, w2.heap.size = b5 := ⟨_, rfl⟩
  obtain ⟨w5, hw5⟩ : ∃ w5, w2.alloc (.cells #[.int .i64 (x.id : Nat), .slice oA on oc, .int .i64 (x.en : Nat), .int .i64 (x.sl : Nat), .int .i64 x.k, .int .i64 x.o, .int .i64 (x.r : Nat)] 51 (0, 0)) = w5 := ⟨_, rfl⟩
  have HB5 : Hid (Bx2 w (some ⟨g, 0, none⟩) n c (p : Nat) (.slice none 0 0) (.int .i64 0) w5) := Lib.hid (by
    rw [← hw5]
    exact HB2.out.later ((Below.refl _ _).alloc (Nat.le_refl _) _))
  have HN5 : Hid (w5.heap[b5]? = some (.cells #[.int .i64 (x.id : Nat), .slice oA on oc, .int .i64 (x.en : Nat), .int .i64 (x.sl : Nat), .int .i64 x.k, .int .i64 x.o, .int .i64 (x.r : Nat)] 51 (0, 0))) := Lib.hid (by
    rw [← hw5, ← hb5]
    exact heap_alloc_new w2 _)
  have Hs5 : Hid (b5 < w5.heap.size ∧ w.heap.size + 1 + 1 ≤ b5) := Lib.hid ⟨by rw [← hw5, ← hb5]; simp, by rw [← hb5]; exact HB2.out.size⟩
  have HS : Hid (∀ w', Mid w5 (w.heap.size + 1) w' → Mid w5 (w.heap.size + 1) w' ∧ (w'.cell? ⟨w.heap.size, 0, none⟩ = some (.slice (some ⟨g, 0, none⟩) n c) ∧ w'.cell? ⟨w.heap.size, 1, none⟩ = some (.int .i64 (p : Nat))) ∧ w'.cell? ⟨b5, 0, none⟩ = some (.int .i64 (x.id : Nat)) ∧ w'.cell? ⟨b5, 1, none⟩ = some (.slice oA on oc) ∧ w'.cell? ⟨b5, 4, none⟩ = some (.int .i64 x.k) ∧ w'.cell? ⟨b5, 5, none⟩ = some (.int .i64 x.o)) := Lib.hid fun w' h => by
    have hs := Hs5.out
    have hB := HB5.out.size
    have n1 : ¬ w.heap.size = w.heap.size + 1 := by omega
    have n2 : ¬ b5 = w.heap.size + 1 := by omega
    have hc := fun j => h.cell (k := b5) hs.1 n2 j
    have hd := fun j => h.cell (k := w.heap.size) (by omega) n1 j
    exact ⟨h, ⟨(hd 0).trans (bx_cell HB5.out.b0 rfl).1, (hd 1).trans (bx_cell HB5.out.b0 rfl).1⟩, (hc 0).trans (bx_cell HN5.out rfl).1, (hc 1).trans (bx_cell HN5.out rfl).1, (hc 4).trans (bx_cell HN5.out rfl).1, (hc 5).trans (bx_cell HN5.out rfl).1⟩
  have HMb : Hid (∀ w', Below w5.heap.size w5 w' → Mid w5 (w.heap.size + 1) w') := Lib.hid fun w' h => Only.of_below h
  have HMp : Hid (∀ w' j v, Mid w5 (w.heap.size + 1) w' → Mid w5 (w.heap.size + 1) (w'.setCell ⟨w.heap.size + 1, j, none⟩ v)) := Lib.hid fun w' j v h => Only.put (S := (· = w.heap.size + 1)) h (p := ⟨w.heap.size + 1, j, none⟩) (Or.inl rfl) v
  have HO5 : Hid (∀ w', Below w5.heap.size w5 w' → OfIs S w' (.slice oA on oc) x.of) := Lib.hid fun w' h => HOf.out w' (HB5.out.later h).below
  have HN1 : Hid (∀ (w4 : World) (g' : Nat), w4.heap[g']? = some (.cells #[.int .i64 (x.id : Nat)] 3) → OfIs (fun k => k = g') w4 (.slice (some ⟨g', 0, none⟩) 1 1) [x.id]) := Lib.hid fun w4 g' hg => of_one x.id hg rfl
  obtain ⟨P2, hP2⟩ : ∃ P2 : Value → Nat, P2 = fun v => (rputD ⟨M, p⟩ t s x.k x.o Q (x.of ++ [x.id]) v).p := ⟨_, rfl⟩
  have HP : Hid (∀ (w7 : World) (A2 : Option Addr) (c2 : Nat), Below w5.heap.size w5 w7 → w7.ownsRow w5.heap.size 3 1 (.slice A2 (on + 1) c2) (on + 1) (natc (([] ++ x.of) ++ [x.id])) → Calls Try.prog 40 #[.agg #[.slice (some ⟨g, 0, none⟩) n c, .int .i64 (p : Nat)], .slice A2 (on + 1) c2, .int .i64 t, .int .i64 s, .agg #[.int .i64 x.k, .int .i64 x.o, .int .i64 (Q : Nat)]] w7 fun y w8 => ∃ A' n' c', y = .returned (.tuple #[.agg #[.slice A' n' c', .int .i64 (P2 (.slice A2 (on + 1) c2) : Nat)], .int .i64 (putE (Dc.fo ⟨M, p⟩) t s)]) ∧ Hid (Below w5.heap.size w5 w8) ∧ ((w8.cell? ⟨w.heap.size + 1, 0, none⟩ = some (.slice none 0 0) ∧ w8.frozen? ⟨w.heap.size + 1, 0, none⟩ = false) ∧ w8.cell? ⟨w.heap.size + 1, 1, none⟩ = some (.int .i64 0) ∧ w8.frozen? ⟨w.heap.size + 1, 1, none⟩ = false) ∧
      Hid (∃ w9, (w8.setCell ⟨w.heap.size + 1, 0, none⟩ (.slice A' n' c')).setCell ⟨w.heap.size + 1, 1, none⟩ (.int .i64 (P2 (.slice A2 (on + 1) c2) : Nat)) = w9 ∧ w9.cell? ⟨w.heap.size + 1, 0, none⟩ = some (.slice A' n' c') ∧ w9.cell? ⟨w.heap.size + 1, 1, none⟩ = some (.int .i64 (P2 (.slice A2 (on + 1) c2) : Nat)) ∧ ∃ v, DocE S (rputD ⟨M, p⟩ t s x.k x.o Q (x.of ++ [x.id]) v) (putE (Dc.fo ⟨M, p⟩) t s) w (.returned (.tuple #[.agg #[.slice A' n' c', .int .i64 (P2 (.slice A2 (on + 1) c2) : Nat)], .int .i64 (putE (Dc.fo ⟨M, p⟩) t s)])) w9)) := Lib.hid fun w7 A2 c2 h7 hrow => by
    have B7 := HB5.out.later h7
    have hb5s := Hs5.out
    rw [List.nil_append] at hrow
    have O7 : OfIs (fun k => S k ∨ (w5.heap.size ≤ k ∧ k < w7.heap.size)) w7 (.slice A2 (on + 1) c2) (x.of ++ [x.id]) := OfIs.own hrow (fun k h1 h2 => Or.inr ⟨h1, h2⟩)
    have D7 : DocIs (fun k => S k ∨ (w5.heap.size ≤ k ∧ k < w7.heap.size)) w7 (some ⟨g, 0, none⟩) n c M := (HDk.out w7 B7.below).kept (fun _ _ => rfl) (fun _ h => Or.inl h)
    refine (rput_any D7 (fun k hk => ?_) Hn.out Hp.out O7 t s x.k x.o Q).mono ?_
    · rcases hk with hk | hk
      · exact Nat.lt_of_lt_of_le (HlS.out k hk) B7.below.size
      · exact hk.2
    rintro y w8 ⟨u, rfl, A', n', c', rfl, D', hb8⟩
    have B8 := B7.later hb8
    obtain ⟨w9, e9, q0, q1, HF9⟩ := res_end (S := S) (w := w) (g := w.heap.size + 1) (q := P2 (.slice A2 (on + 1) c2)) B8.b1 (Nat.le_succ _) B8.below D' (fun k hk => by
      have h7s := h7.size
      have h8s := hb8.size
      rcases hk with (hk | hk) | hk
      · have := HlS.out k hk
        exact ⟨by omega, Or.inl hk⟩
      · exact ⟨by omega, Or.inr ⟨by omega, by omega⟩⟩
      · exact ⟨by omega, Or.inr ⟨by omega, by omega⟩⟩)
    subst hP2
    exact ⟨A', n', c', rfl, Lib.hid (below_call (Nat.le_refl _) h7 hb8), ⟨bx_cell B8.b1 rfl, bx_cell B8.b1 rfl⟩, Lib.hid ⟨w9, e9, q0, q1, _, _, rfl, HF9.out⟩⟩
  have HP2 := Lib.hid hP2
  have l5 := Hs5.out.1
  obtain ⟨⟨h0', h1'⟩, ⟨m0, m0z⟩, m1, m1z⟩ := HB5.out.facts
  clear hP2
  go_upto_region 5 with (fail)
  go_region_held3 (fun w' => Mid w5 (w.heap.size + 1) w' ∧ (w'.cell? ⟨w.heap.size, 0, none⟩ = some (.slice (some ⟨g, 0, none⟩) n c) ∧ w'.cell? ⟨w.heap.size, 1, none⟩ = some (.int .i64 (p : Nat))) ∧ w'.cell? ⟨b5, 0, none⟩ = some (.int .i64 (x.id : Nat)) ∧ w'.cell? ⟨b5, 1, none⟩ = some (.slice oA on oc) ∧ w'.cell? ⟨b5, 4, none⟩ = some (.int .i64 x.k) ∧ w'.cell? ⟨b5, 5, none⟩ = some (.int .i64 x.o))
    ((refine HS.out _ ?_; repeat' (first | with_reducible exact HMb.out _ G3.out | with_reducible exact HMb.out _ G2.out | with_reducible exact HMb.out _ G1.out | with_reducible refine HMp.out _ _ _ ?_ | refine HMb.out _ ?_ | with_reducible exact Below.refl _ _ | with_reducible exact G1.out | with_reducible refine Below.drew ?_ | with_reducible refine below_new (Nat.le_refl _) ?_ _)))
    (first
      | (refine step_nat ((w5.alloc (.cells #[] 3)).alloc (.cells #[.int .i64 (x.id : Nat)] 3)).drew (by rfl) (.tmp 61) (.tmp 63) (by rfl) w5.heap.size (.slice (some ⟨w5.heap.size, 0, none⟩) 0 0) 0 [] (by rfl) (own_drew ((own_empty (Nat.le_refl _)).alloc _)) oA on oc x.of (by rfl) (T := S) (HO5.out _ (two_new _ _ _)) on (by omega) (by omega) (two_size _ _ _) ?_; intro A1 cap1 w6 X1 z1; obtain ⟨u1, u2⟩ := grown_two z1; have G1 := Lib.hid u1; have K1 := Lib.hid (HN1.out w6 (w5.heap.size + 1) u2); clear z1 u1 u2)
      | (refine step_nat ((w5.alloc (.cells #[.int .i64 (x.id : Nat)] 3)).alloc (.cells #[] 3)).drew (by rfl) (.tmp 61) (.tmp 63) (by rfl) w5.heap.size (.slice (some ⟨w5.heap.size + 1, 0, none⟩) 0 0) 0 [] (by rfl) (own_drew (own_empty2 (Nat.le_refl _))) oA on oc x.of (by rfl) (T := S) (HO5.out _ (two_new _ _ _)) on (by omega) (by omega) (two_size _ _ _) ?_; intro A1 cap1 w6 X1 z1; obtain ⟨u1, u2⟩ := grown_two2 z1; have G1 := Lib.hid u1; have K1 := Lib.hid (HN1.out w6 w5.heap.size u2); clear z1 u1 u2)
      | (refine step_nat (w5.alloc (.cells #[] 3)).drew (by rfl) (.tmp 61) (.tmp 63) (by rfl) w5.heap.size (.slice (some ⟨w5.heap.size, 0, none⟩) 0 0) 0 [] (by rfl) (own_drew (own_empty (Nat.le_refl _))) oA on oc x.of (by rfl) (T := S) (HO5.out _ (one_new _ _)) on (by omega) (by omega) (one_size _ _) ?_; intro A1 cap1 w6 X1 z1; have G1 := Lib.hid (grown_one z1); clear z1)
      | (refine step_nat w6 (by rfl) (.tmp 64) (.tmp 67) (by rfl) w5.heap.size (.slice A1 on cap1) on ([] ++ x.of) (by rfl) X1 _ 1 1 [x.id] (by rfl) K1.out (on + 1) (by omega) (by omega) G1.out.size ?_; intro A2 cap2 w7 X2 z2; have G2 := Lib.hid (G1.out.grown z2 G1.out.size (fun k hk => (X1.lt k hk).1)); clear z2)
      | (refine step_nat (w6.alloc (.cells #[.int .i64 (x.id : Nat)] 3)) (by rfl) (.tmp 64) (.tmp 67) (by rfl) w5.heap.size (.slice A1 on cap1) on ([] ++ x.of) (by rfl) (X1.alloc _) (some ⟨w6.heap.size, 0, none⟩) 1 1 [x.id] (by rfl) (HN1.out _ w6.heap.size (heap_alloc_new w6 _)) (on + 1) (by omega) (by omega) (size_kept (Nat.le_refl _) (G1.out.alloc G1.out.size _)) ?_; intro A2 cap2 w7 X2 z2; have G2 := Lib.hid ((G1.out.alloc G1.out.size _).grown z2 (size_kept (Nat.le_refl _) (G1.out.alloc G1.out.size _)) (fun k hk => (X1.lt k hk).1)); clear z2)
      | (go_at_call 40; refine (HP.out w7 A2 cap2 G2.out X2).mono ?_; rintro y w8 ⟨A', n', c', rfl, G3, ⟨⟨m0, m0z⟩, m1, m1z⟩, H9⟩))
  all_goals
    obtain ⟨w9, e9, q0, q1, HF9⟩ := H9.out
    have HF := Lib.hid HF9
    rw [e9]
    clear HF9 e9 X1 X2
    go_wp2
    refine bodyPost_ret (v := .tuple #[.agg #[.slice A' n' c', .int .i64 (P2 (.slice A2 (on + 1) cap2) : Nat)], .int .i64 (putE (Dc.fo ⟨M, p⟩) t s)]) (by simp [results, Try.results22, go_sem, q0, q1]) rfl ?_
    exact HF.out
end
end Go.Proofs.Ythblldojbgeknaa
