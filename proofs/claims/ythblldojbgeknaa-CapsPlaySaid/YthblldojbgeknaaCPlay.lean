/-
  The law CapsPlay, walked (typed by tools/gen_cplay.py).
-/
import Derived.Test.YthblldojbgeknaaCSame
import Derived.Test.YthblldojbgeknaaCLess
namespace Go.Proofs.Ythblldojbgeknaa
open Go.ChangeShapes Go.WideShapes Go.ChangeAt Go.RowKit
open Go.Shelf Go.Sort

/-- Within the law: both sides. -/
structure Pp (w : World) (h N : Nat) (wr : World) : Prop where
  st : ∃ D A n c, St h h (h + 1) D A n c wr ∧ D.p ≤ N
  below : Below w.heap.size w wr
  base : w.heap.size ≤ h
/-- Within a round: both sides, and the act's box. -/
structure Md (w : World) (h N : Nat) (D : Dc) (A : Option Addr) (n c ab : Nat) (cs : Array Value) (wr : World) : Prop where
  st : St h h (h + 1) D A n c wr
  few : D.p ≤ N
  below : Below w.heap.size w wr
  base : w.heap.size ≤ h
  box : wr.heap[ab]? = some (.cells cs 39 (0, 0))
section
variable {w wr w' w3 : World} {h N i n c ab : Nat} {D : Dc} {A : Option Addr} {cs : Array Value}
theorem Pp.later (P : Pp w h N wr) (hb : Below wr.heap.size wr w') : Pp w h N w' := by
  obtain ⟨D, A, n, c, h1, h2⟩ := P.st
  exact ⟨⟨D, A, n, c, h1.below hb, h2⟩, P.below.trans (hb.mono P.below.size), P.base⟩
theorem Md.later (P : Md w h N D A n c ab cs wr) (hb : Below wr.heap.size wr w') : Md w h N D A n c ab cs w' :=
  ⟨P.st.below hb, P.few, P.below.trans (hb.mono P.below.size), P.base, (hb.block _ (lt_of_blk P.box)).trans P.box⟩
theorem Md.pp (P : Md w h N D A n c ab cs wr) : Pp w h N wr := ⟨⟨D, A, n, c, P.st, P.few⟩, P.below, P.base⟩
theorem Md.rb (P : Md w h N D A n c ab cs wr) : wr.cell? ⟨h + 1, 0, none⟩ = some (.slice A n c) ∧ wr.cell? ⟨h + 1, 1, none⟩ = some (.int .i64 (D.p : Nat)) := by
  obtain ⟨⟨d0, -⟩, d1, -⟩ := dbox_cells P.st.box
  exact ⟨d0, d1⟩
theorem Md.same (P : Md w h N D A n c ab cs wr) (hN : N ≤ 100) : Calls Try.prog 10 #[.pointer (some ⟨h, 0, none⟩), .agg #[.slice A n c, .int .i64 (D.p : Nat)]] wr fun y w' => y = .returned (.bool true) ∧ Below wr.heap.size wr w' := same_any P.st (Nat.le_trans P.few hN)
theorem Md.find (P : Md w h N D A n c ab cs wr) (e k o : Int) : Calls Try.prog 11 #[.pointer (some ⟨h, 0, none⟩), .int .i64 e, .int .i64 k, .int .i64 o] wr fun y w' => y = .returned (.int .i64 (findV D.fo.l e k o)) ∧ Below wr.heap.size wr w' := find_any P.st.fo e k o
theorem Md.rfind (P : Md w h N D A n c ab cs wr) (hN : N ≤ 100) (e k o : Int) : Calls Try.prog 12 #[.agg #[.slice A n c, .int .i64 (D.p : Nat)], .int .i64 e, .int .i64 k, .int .i64 o] wr fun y w' => y = .returned (.int .i64 (findV D.fo.l e k o)) ∧ Below wr.heap.size wr w' := by
  have h1 := rfind_any P.st.doc sz_lt (P.st.inv.few (Nat.le_trans P.few (by omega)) P.st.doc) (fun x hx => (P.st.inv.rng hx).2.2.1) (D.p : Nat) e k o
  rwa [← P.st.inv.find e k o] at h1
variable {kd e s t u N' k o r : Int}
theorem Md.acts (P : Md w h N D A n c ab #[.int .i64 kd, .int .i64 e, .int .i64 s, .int .i64 t, .int .i64 u, .int .i64 N', .int .i64 k, .int .i64 o, .int .i64 r] wr) : wr.cell? ⟨ab, 0, none⟩ = some (.int .i64 kd) ∧ wr.cell? ⟨ab, 1, none⟩ = some (.int .i64 e) ∧ wr.cell? ⟨ab, 2, none⟩ = some (.int .i64 s) ∧ wr.cell? ⟨ab, 3, none⟩ = some (.int .i64 t) ∧ wr.cell? ⟨ab, 4, none⟩ = some (.int .i64 u) ∧ wr.cell? ⟨ab, 5, none⟩ = some (.int .i64 N') ∧ wr.cell? ⟨ab, 6, none⟩ = some (.int .i64 k) ∧ wr.cell? ⟨ab, 7, none⟩ = some (.int .i64 o) ∧ wr.cell? ⟨ab, 8, none⟩ = some (.int .i64 r) := by
  have hb := P.box
  exact ⟨(bx_cell (j := 0) hb rfl).1, (bx_cell (j := 1) hb rfl).1, (bx_cell (j := 2) hb rfl).1, (bx_cell (j := 3) hb rfl).1, (bx_cell (j := 4) hb rfl).1, (bx_cell (j := 5) hb rfl).1, (bx_cell (j := 6) hb rfl).1, (bx_cell (j := 7) hb rfl).1, (bx_cell (j := 8) hb rfl).1⟩
theorem pp_does (P : Pp w h i w3) (hi : i ≤ 60) (hN : N' < 9223372036854775808) (hab : w3.heap[ab]? = some (.cells #[.int .i64 kd, .int .i64 e, .int .i64 s, .int .i64 t, .int .i64 u, .int .i64 N', .int .i64 k, .int .i64 o, .int .i64 r] 39 (0, 0))) (h1 : ab ≠ h ∧ ab ≠ h + 1) (hb : Below w3.heap.size w3 w') : Calls Try.prog 9 #[.pointer (some ⟨h, 0, none⟩), .pointer (some ⟨h + 1, 0, none⟩), .agg #[.int .i64 kd, .int .i64 e, .int .i64 s, .int .i64 t, .int .i64 u, .int .i64 N', .int .i64 k, .int .i64 o, .int .i64 r]] w' fun y w4 => y = .returned (.bool true) ∧ ∃ D A n c, Hid (Md w h (i + 1) D A n c ab #[.int .i64 kd, .int .i64 e, .int .i64 s, .int .i64 t, .int .i64 u, .int .i64 N', .int .i64 k, .int .i64 o, .int .i64 r] w4) := by
  obtain ⟨D, A, n, c, h2, h3⟩ := (P.later hb).st
  refine (does_any h2 (Nat.le_trans h3 (by omega)) kd e s t u hN k o r).mono ?_
  rintro y w4 ⟨rfl, ⟨D', A', n', c', h4, h5⟩, hO⟩
  have hw' := (P.later hb).below
  have hbx : w'.heap[ab]? = _ := (hb.block _ (lt_of_blk hab)).trans hab
  refine ⟨rfl, D', A', n', c', Lib.hid ⟨h4, by omega, hw'.trans (hO.below hw'.size fun k hk => ?_), P.base, (hO.block ab (lt_of_blk hbx) (fun hk => ?_)).trans hbx⟩⟩
  · have := P.base
    rcases hk with rfl | rfl <;> omega
  · rcases hk with hk | hk
    · exact h1.1 hk
    · exact h1.2 hk
end
set_option maxRecDepth 100000 in
set_option maxHeartbeats 40000000 in
theorem play_any {w : World} {Al : Option Addr} {nl cl : Nat} {l : List Ac} {rr : Nat} (hl : l.length = nl) (hA : Acs w.heap.size w Al l) (_hr : rr < 256) : Calls Try.prog 3 #[.slice Al nl cl, .int .u8 (rr : Nat)] w fun e w' => e = .returned (.bool true) ∧ Below w.heap.size w w' := by
  have n0 : (0 : Int) ≤ nl := by omega
  have HA := Lib.hid hA
  have Hl := Lib.hid hl
  obtain ⟨m, hm⟩ : ∃ m : Nat, (rr : Int) % 16 = m := ⟨rr % 16, by omega⟩
  have m16 : m < 16 := by omega
  clear hA hl
  have hZ := zero_forest
  have HN := Lib.hid new_is
  generalize zcells = Z at *
  go_enter Try.func3, Try.ntmps3
  go_wp2_with fail
  refine (awake_any _).mono ?_
  rintro e w1 ⟨rfl, hb1⟩
  have HO1 := Lib.hid hb1
  clear hb1
  obtain ⟨h, hh⟩ : ∃ h, w1.heap.size = h := ⟨_, rfl⟩
  obtain ⟨W, hW⟩ : ∃ W, (w1.alloc (.cells Z 32 (0, 0))).alloc (.cells #[.slice none 0 0, .int .i64 0] 36 (0, 0)) = W := ⟨_, rfl⟩
  have HP0 : Hid (Pp w h 0 W) := Lib.hid (by
    have hb : Below w1.heap.size w1 W := by
      rw [← hW]
      exact below_new (Nat.le_refl _) (below_new (Nat.le_refl _) (Below.refl _ w1) _) _
    refine ⟨⟨⟨[], 0⟩, none, 0, 0, ⟨?_, ?_, DocIs.empty _ _, dinv_start, by omega, Nat.le_refl _, Nat.le_succ _⟩, Nat.le_refl _⟩, HO1.out.trans (hb.mono HO1.out.size), by rw [← hh]; exact HO1.out.size⟩
    · rw [← hW, ← hh]
      exact (HN.out w1).below (below_new (Nat.le_refl _) (Below.refl _ _) _)
    · rw [← hW, ← hh]
      have := heap_alloc_new (w1.alloc (.cells Z 32 (0, 0))) (.cells #[.slice none 0 0, .int .i64 0] 36 (0, 0))
      simpa [dBox] using this)
  have HW := Lib.hid hW
  clear hW
  go_wp2_with fail
  rw [show (w1.alloc (.cells Z 32 (0, 0))).alloc (.cells #[.slice none 0 0, .int .i64 0] 36 (0, 0)) = W from HW.out]
  clear hZ HN _hr
  go_loopw [7] (fun u wr => ∃ i : Nat, i ≤ nl ∧ i ≤ 60 ∧ u = .int .i64 (i : Nat) ∧ Hid (Pp w h i wr)) (fun u _ => nl - (intOf u).toNat)
  case atStart => exact ⟨0, by omega, by omega, rfl, HP0⟩
  case round =>
    obtain ⟨i, hin, hi60, rfl, HP⟩ := hrel
    have i0 : (0 : Int) ≤ i := by omega
    by_cases hlt : i < nl
    · have i1 : (i : Int) < nl := by omega
      by_cases hlt60 : i < 60
      · have i2 : (i : Int) < 60 := by omega
        obtain ⟨bb, ao, rfl, hab, hcell⟩ := HA.out (by rw [Hl.out]; omega)
        obtain ⟨⟨kd, e, s, t, u, N, k, o, r⟩, hy⟩ : ∃ y, l[i]? = some y := ⟨_, List.getElem?_eq_getElem (by rw [Hl.out]; exact hlt)⟩
        obtain ⟨hn63, hq⟩ := hcell i _ hy
        dsimp only at hn63
        have Hn63 := Lib.hid hn63
        have Hq : Hid (∀ j v, (acells ⟨kd, e, s, t, u, N, k, o, r⟩)[j]? = some v → wr.cell? ⟨bb, ao + i * 9 + j, none⟩ = some v) := Lib.hid fun j v hv => (HP.out.below.cell (p := ⟨bb, _, none⟩) hab).trans (hq j v hv)
        have q0 : wr.cell? ⟨bb, ao + i * 9, none⟩ = some (.int .i64 kd) := Hq.out 0 _ rfl
        have q1 : wr.cell? ⟨bb, ao + i * 9 + 1, none⟩ = some (.int .i64 e) := Hq.out 1 _ rfl
        have q2 : wr.cell? ⟨bb, ao + i * 9 + 2, none⟩ = some (.int .i64 s) := Hq.out 2 _ rfl
        have q3 : wr.cell? ⟨bb, ao + i * 9 + 3, none⟩ = some (.int .i64 t) := Hq.out 3 _ rfl
        have q4 : wr.cell? ⟨bb, ao + i * 9 + 4, none⟩ = some (.int .i64 u) := Hq.out 4 _ rfl
        have q5 : wr.cell? ⟨bb, ao + i * 9 + 5, none⟩ = some (.int .i64 N) := Hq.out 5 _ rfl
        have q6 : wr.cell? ⟨bb, ao + i * 9 + 6, none⟩ = some (.int .i64 k) := Hq.out 6 _ rfl
        have q7 : wr.cell? ⟨bb, ao + i * 9 + 7, none⟩ = some (.int .i64 o) := Hq.out 7 _ rfl
        have q8 : wr.cell? ⟨bb, ao + i * 9 + 8, none⟩ = some (.int .i64 r) := Hq.out 8 _ rfl
        have ab2 : bb < wr.heap.size := Nat.lt_of_lt_of_le hab HP.out.below.size
        clear hq hcell hy hn63 hab
        obtain ⟨ab, hab⟩ : ∃ ab, wr.heap.size = ab := ⟨_, rfl⟩
        obtain ⟨w3, hw3⟩ : ∃ w3, wr.alloc (.cells #[.int .i64 kd, .int .i64 e, .int .i64 s, .int .i64 t, .int .i64 u, .int .i64 N, .int .i64 k, .int .i64 o, .int .i64 r] 39 (0, 0)) = w3 := ⟨_, rfl⟩
        have HP3 : Hid (Pp w h i w3) := Lib.hid (by
          rw [← hw3]
          exact HP.out.later ((Below.refl _ _).alloc (Nat.le_refl _) _))
        have HX3 : Hid (w3.heap[ab]? = some (.cells #[.int .i64 kd, .int .i64 e, .int .i64 s, .int .i64 t, .int .i64 u, .int .i64 N, .int .i64 k, .int .i64 o, .int .i64 r] 39 (0, 0))) := Lib.hid (by
          rw [← hw3, ← hab]
          exact heap_alloc_new wr _)
        have Hne : Hid (ab ≠ h ∧ ab ≠ h + 1) := Lib.hid (by
          obtain ⟨D, A, n, c, h1, -⟩ := HP.out.st
          have h2 := h1.ltb
          have h3 := h1.ltr
          omega)
        have Hi61 : Hid (i + 1 ≤ 100) := Lib.hid (by omega)
        have HDo : Hid (∀ w', Below w3.heap.size w3 w' → Calls Try.prog 9 #[.pointer (some ⟨h, 0, none⟩), .pointer (some ⟨h + 1, 0, none⟩), .agg #[.int .i64 kd, .int .i64 e, .int .i64 s, .int .i64 t, .int .i64 u, .int .i64 N, .int .i64 k, .int .i64 o, .int .i64 r]] w' fun y w4 => y = .returned (.bool true) ∧ ∃ D A n c, Hid (Md w h (i + 1) D A n c ab #[.int .i64 kd, .int .i64 e, .int .i64 s, .int .i64 t, .int .i64 u, .int .i64 N, .int .i64 k, .int .i64 o, .int .i64 r] w4)) := Lib.hid fun w' hb => pp_does HP3.out hi60 Hn63.out HX3.out Hne.out hb
        have HS1 : Hid (∀ w', Below w3.heap.size w3 w' → w'.cell? ⟨ab, 0, none⟩ = some (.int .i64 kd) ∧ w'.cell? ⟨ab, 1, none⟩ = some (.int .i64 e) ∧ w'.cell? ⟨ab, 2, none⟩ = some (.int .i64 s) ∧ w'.cell? ⟨ab, 3, none⟩ = some (.int .i64 t) ∧ w'.cell? ⟨ab, 4, none⟩ = some (.int .i64 u) ∧ w'.cell? ⟨ab, 5, none⟩ = some (.int .i64 N) ∧ w'.cell? ⟨ab, 6, none⟩ = some (.int .i64 k) ∧ w'.cell? ⟨ab, 7, none⟩ = some (.int .i64 o) ∧ w'.cell? ⟨ab, 8, none⟩ = some (.int .i64 r)) := Lib.hid fun w' hb => by
          have hx : w'.heap[ab]? = _ := (hb.block _ (lt_of_blk HX3.out)).trans HX3.out
          exact ⟨(bx_cell (j := 0) hx rfl).1, (bx_cell (j := 1) hx rfl).1, (bx_cell (j := 2) hx rfl).1, (bx_cell (j := 3) hx rfl).1, (bx_cell (j := 4) hx rfl).1, (bx_cell (j := 5) hx rfl).1, (bx_cell (j := 6) hx rfl).1, (bx_cell (j := 7) hx rfl).1, (bx_cell (j := 8) hx rfl).1⟩
        obtain ⟨R, hR⟩ : ∃ R, rightB k o r = R := ⟨_, rfl⟩
        have HRt := Lib.hid (right_any k o r)
        have HRr := Lib.hid (rright_any k o r)
        rw [hR] at HRt HRr
        clear hR HP
        go_upto_region 8 with (fail)
        clear hw3 q0 q1 q2 q3 q4 q5 q6 q7 q8 Hq
        try clear hab
        go_cut [81] from 20 to 165 (fun c wx => c = .bool false ∧ ∃ D A n c2, Hid (Md w h (i + 1) D A n c2 ab #[.int .i64 kd, .int .i64 e, .int .i64 s, .int .i64 t, .int .i64 u, .int .i64 N, .int .i64 k, .int .i64 o, .int .i64 r] wx))
        case first =>
          refine wp_region_held_drew (S := fun w' => w'.cell? ⟨ab, 0, none⟩ = some (.int .i64 kd) ∧ w'.cell? ⟨ab, 1, none⟩ = some (.int .i64 e) ∧ w'.cell? ⟨ab, 2, none⟩ = some (.int .i64 s) ∧ w'.cell? ⟨ab, 3, none⟩ = some (.int .i64 t) ∧ w'.cell? ⟨ab, 4, none⟩ = some (.int .i64 u) ∧ w'.cell? ⟨ab, 5, none⟩ = some (.int .i64 N) ∧ w'.cell? ⟨ab, 6, none⟩ = some (.int .i64 k) ∧ w'.cell? ⟨ab, 7, none⟩ = some (.int .i64 o) ∧ w'.cell? ⟨ab, 8, none⟩ = some (.int .i64 r)) (by kernel_rfl) ?_ (fun hHeld => ?_)
          · exact HS1.out _ (Below.refl _ _).drew
          refine wpAnyH_take (i := 0) (oi := _) (v := ?v0) rfl (by kernel_rfl) (by kernel_rfl) (by kernel_rfl) (fun _ _ _ h => h) (Or.inl ⟨by rfl, ?h0⟩) hHeld ?r0
          case h0 => (intro w0 hSw; (try dsimp only at hSw); go_simp; first | done | with_reducible rfl)
          case r0 =>
          try simp only [Act.put, List.getElem_toArray, List.getElem_cons_zero, List.setIfInBounds_toArray, List.set_cons_zero, List.set_cons_succ]
          refine wpAnyH_take (i := 1) (oi := _) (v := ?v1) rfl (by kernel_rfl) (by kernel_rfl) (by kernel_rfl) (fun _ _ _ h => h) (Or.inl ⟨by rfl, ?h1⟩) hHeld ?r1
          case h1 => (intro w0 hSw; (try dsimp only at hSw); go_simp; first | done | with_reducible rfl)
          case r1 =>
          try simp only [Act.put, List.getElem_toArray, List.getElem_cons_succ, List.getElem_cons_zero, List.setIfInBounds_toArray, List.set_cons_zero, List.set_cons_succ]
          refine wpAnyH_take (i := 4) (oi := _) (v := ?v2) rfl (by kernel_rfl) (by kernel_rfl) (by kernel_rfl) (fun _ _ _ h => h) (Or.inl ⟨by rfl, ?h2⟩) hHeld ?r2
          case h2 => (intro w0 hSw; (try dsimp only at hSw); go_simp; first | done | with_reducible rfl)
          case r2 =>
          try simp only [Act.put, List.getElem_toArray, List.getElem_cons_succ, List.getElem_cons_zero, List.setIfInBounds_toArray, List.set_cons_zero, List.set_cons_succ]
          refine wpAnyH_take (i := 5) (oi := _) (v := ?v3) rfl (by kernel_rfl) (by kernel_rfl) (by kernel_rfl) (fun _ _ _ h => h) (Or.inl ⟨by rfl, ?h3⟩) hHeld ?r3
          case h3 => (intro w0 hSw; (try dsimp only at hSw); go_simp; first | done | with_reducible rfl)
          case r3 =>
          try simp only [Act.put, List.getElem_toArray, List.getElem_cons_succ, List.getElem_cons_zero, List.setIfInBounds_toArray, List.set_cons_zero, List.set_cons_succ]
          refine wpAnyH_ready (rs := [2]) (by kernel_rfl) (by simp) ?_
          refine AllReadyH.cons (o := _) rfl (fun K hK => ?_) AllReadyH.nil
          go_simp
          go_at_call 6
          refine (lto_any k o r _).mono ?_
          rintro y x1 ⟨rfl, h1⟩
          have G1 := Lib.hid (below_call (Nat.le_refl _) (Below.refl _ w3).drew h1)
          clear h1
          go_wp2_with fail
          refine hK.out _ _ ?_ (fun hHeld => ?_)
          · exact HS1.out _ G1.out
          clear hK K
          try simp only [Act.put, List.getElem_toArray, List.getElem_cons_succ, List.getElem_cons_zero, List.setIfInBounds_toArray, List.set_cons_zero, List.set_cons_succ]
          refine wpAnyH_ready (rs := [3]) (by kernel_rfl) (by simp) ?_
          refine AllReadyH.cons (o := _) rfl (fun K hK => ?_) AllReadyH.nil
          go_simp
          go_at_call 7
          refine (HRt.out _).mono ?_
          rintro y x2 ⟨rfl, h2⟩
          have G2 := Lib.hid (below_call (Nat.le_refl _) G1.out h2)
          clear h2
          go_wp2_with fail
          refine hK.out _ _ ?_ (fun hHeld => ?_)
          · exact HS1.out _ G2.out
          clear hK K
          try simp only [Act.put, List.getElem_toArray, List.getElem_cons_succ, List.getElem_cons_zero, List.setIfInBounds_toArray, List.set_cons_zero, List.set_cons_succ]
          refine wpAnyH_ready (rs := [6]) (by kernel_rfl) (by simp) ?_
          refine AllReadyH.cons (o := _) rfl (fun K hK => ?_) AllReadyH.nil
          go_simp
          go_at_call 8
          refine (HRr.out _).mono ?_
          rintro y x3 ⟨rfl, h3⟩
          have G3 := Lib.hid (below_call (Nat.le_refl _) G2.out h3)
          clear h3
          go_wp2_with fail
          refine hK.out _ _ ?_ (fun hHeld => ?_)
          · exact HS1.out _ G3.out
          clear hK K
          try simp only [Act.put, List.getElem_toArray, List.getElem_cons_succ, List.getElem_cons_zero, List.setIfInBounds_toArray, List.set_cons_zero, List.set_cons_succ]
          refine wpAnyH_take (i := 7) (oi := _) (v := ?v4) rfl (by kernel_rfl) (by kernel_rfl) (by kernel_rfl) (fun _ _ _ h => h) (Or.inl ⟨by rfl, ?h4⟩) hHeld ?r4
          case h4 => (intro w0 hSw; (try dsimp only at hSw); go_simp; first | done | with_reducible rfl)
          case r4 =>
          try simp only [Act.put, List.getElem_toArray, List.getElem_cons_succ, List.getElem_cons_zero, List.setIfInBounds_toArray, List.set_cons_zero, List.set_cons_succ]
          refine wpAnyH_take (i := 8) (oi := _) (v := ?v5) rfl (by kernel_rfl) (by kernel_rfl) (by kernel_rfl) (fun _ _ _ h => h) (Or.inl ⟨by rfl, ?h5⟩) hHeld ?r5
          case h5 => (intro w0 hSw; (try dsimp only at hSw); go_simp; first | done | with_reducible rfl)
          case r5 =>
          try simp only [Act.put, List.getElem_toArray, List.getElem_cons_succ, List.getElem_cons_zero, List.setIfInBounds_toArray, List.set_cons_zero, List.set_cons_succ]
          refine wpAnyH_take (i := 9) (oi := _) (v := ?v6) rfl (by kernel_rfl) (by kernel_rfl) (by kernel_rfl) (fun _ _ _ h => h) (Or.inl ⟨by rfl, ?h6⟩) hHeld ?r6
          case h6 => (intro w0 hSw; (try dsimp only at hSw); go_simp; first | done | with_reducible rfl)
          case r6 =>
          try simp only [Act.put, List.getElem_toArray, List.getElem_cons_succ, List.getElem_cons_zero, List.setIfInBounds_toArray, List.set_cons_zero, List.set_cons_succ]
          refine wpAnyH_take (i := 10) (oi := _) (v := ?v7) rfl (by kernel_rfl) (by kernel_rfl) (by kernel_rfl) (fun _ _ _ h => h) (Or.inl ⟨by rfl, ?h7⟩) hHeld ?r7
          case h7 => (intro w0 hSw; (try dsimp only at hSw); go_simp; first | done | with_reducible rfl)
          case r7 =>
          try simp only [Act.put, List.getElem_toArray, List.getElem_cons_succ, List.getElem_cons_zero, List.setIfInBounds_toArray, List.set_cons_zero, List.set_cons_succ]
          refine wpAnyH_take (i := 11) (oi := _) (v := ?v8) rfl (by kernel_rfl) (by kernel_rfl) (by kernel_rfl) (fun _ _ _ h => h) (Or.inl ⟨by rfl, ?h8⟩) hHeld ?r8
          case h8 => (intro w0 hSw; (try dsimp only at hSw); go_simp; first | done | with_reducible rfl)
          case r8 =>
          try simp only [Act.put, List.getElem_toArray, List.getElem_cons_succ, List.getElem_cons_zero, List.setIfInBounds_toArray, List.set_cons_zero, List.set_cons_succ]
          refine wpAnyH_ready (rs := [12]) (by kernel_rfl) (by simp) ?_
          refine AllReadyH.cons (o := _) rfl (fun K hK => ?_) AllReadyH.nil
          go_simp
          go_at_call 9
          refine (HDo.out _ G3.out).mono ?_
          rintro y x4 ⟨rfl, D2, A2, n2, c2, M4⟩
          obtain ⟨p4, q4⟩ := M4.out.rb
          go_wp2_with fail
          refine hK.out _ _ ?_ (fun hHeld => ?_)
          · exact M4.out.acts
          clear hK K
          try simp only [Act.put, List.getElem_toArray, List.getElem_cons_succ, List.getElem_cons_zero, List.setIfInBounds_toArray, List.set_cons_zero, List.set_cons_succ]
          refine wpAnyH_take (i := 13) (oi := _) (v := ?v9) rfl (by kernel_rfl) (by kernel_rfl) (by kernel_rfl) (fun _ _ _ h => h) (Or.inl ⟨by rfl, ?h9⟩) hHeld ?r9
          case h9 => (intro w0 hSw; (try dsimp only at hSw); go_simp; first | done | with_reducible rfl)
          case r9 =>
          try simp only [Act.put, List.getElem_toArray, List.getElem_cons_succ, List.getElem_cons_zero, List.setIfInBounds_toArray, List.set_cons_zero, List.set_cons_succ]
          refine wpAnyH_take (i := 14) (oi := _) (v := ?v10) rfl (by kernel_rfl) (by kernel_rfl) (by kernel_rfl) (fun _ _ _ h => h) (Or.inl ⟨by rfl, ?h10⟩) hHeld ?r10
          case h10 => (intro w0 hSw; (try dsimp only at hSw); go_simp; first | done | with_reducible rfl)
          case r10 =>
          try simp only [Act.put, List.getElem_toArray, List.getElem_cons_succ, List.getElem_cons_zero, List.setIfInBounds_toArray, List.set_cons_zero, List.set_cons_succ]
          refine wpAnyH_take (i := 15) (oi := _) (v := ?v11) rfl (by kernel_rfl) (by kernel_rfl) (by kernel_rfl) (fun _ _ _ h => h) (Or.inl ⟨by rfl, ?h11⟩) hHeld ?r11
          case h11 => (intro w0 hSw; (try dsimp only at hSw); go_simp; first | done | with_reducible rfl)
          case r11 =>
          try simp only [Act.put, List.getElem_toArray, List.getElem_cons_succ, List.getElem_cons_zero, List.setIfInBounds_toArray, List.set_cons_zero, List.set_cons_succ]
          refine wpAnyH_take (i := 16) (oi := _) (v := ?v12) rfl (by kernel_rfl) (by kernel_rfl) (by kernel_rfl) (fun _ _ _ h => h) (Or.inl ⟨by rfl, ?h12⟩) hHeld ?r12
          case h12 => (intro w0 hSw; (try dsimp only at hSw); go_simp; first | done | with_reducible rfl)
          case r12 =>
          try simp only [Act.put, List.getElem_toArray, List.getElem_cons_succ, List.getElem_cons_zero, List.setIfInBounds_toArray, List.set_cons_zero, List.set_cons_succ]
          refine wpAnyH_take (i := 17) (oi := _) (v := ?v13) rfl (by kernel_rfl) (by kernel_rfl) (by kernel_rfl) (fun _ _ _ h => h) (Or.inl ⟨by rfl, ?h13⟩) hHeld ?r13
          case h13 => (intro w0 hSw; (try dsimp only at hSw); go_simp; first | done | with_reducible rfl)
          case r13 =>
          try simp only [Act.put, List.getElem_toArray, List.getElem_cons_succ, List.getElem_cons_zero, List.setIfInBounds_toArray, List.set_cons_zero, List.set_cons_succ]
          refine wpAnyH_take (i := 18) (oi := _) (v := ?v14) rfl (by kernel_rfl) (by kernel_rfl) (by kernel_rfl) (fun _ _ _ h => h) (Or.inl ⟨by rfl, ?h14⟩) hHeld ?r14
          case h14 => (intro w0 hSw; (try dsimp only at hSw); go_simp; first | done | with_reducible rfl)
          case r14 =>
          try simp only [Act.put, List.getElem_toArray, List.getElem_cons_succ, List.getElem_cons_zero, List.setIfInBounds_toArray, List.set_cons_zero, List.set_cons_succ]
          refine wpAnyH_ready (rs := [19]) (by kernel_rfl) (by simp) ?_
          refine AllReadyH.cons (o := _) rfl (fun K hK => ?_) AllReadyH.nil
          go_simp
          refine hK.out _ _ ?_ (fun hHeld => ?_)
          · exact M4.out.acts
          clear hK K
          try simp only [Act.put, List.getElem_toArray, List.getElem_cons_succ, List.getElem_cons_zero, List.setIfInBounds_toArray, List.set_cons_zero, List.set_cons_succ]
          refine wpAnyH_ready (rs := [20]) (by kernel_rfl) (by simp) ?_
          refine AllReadyH.cons (o := _) rfl (fun K hK => ?_) AllReadyH.nil
          go_simp
          go_at_call 10
          refine (M4.out.same Hi61.out).mono ?_
          rintro y x6 ⟨rfl, h6⟩
          have M6 := Lib.hid (M4.out.later h6)
          clear h6
          obtain ⟨p6, q6⟩ := M6.out.rb
          go_wp2_with fail
          refine hK.out _ _ ?_ (fun hHeld => ?_)
          · exact M6.out.acts
          clear hK K
          try simp only [Act.put, List.getElem_toArray, List.getElem_cons_succ, List.getElem_cons_zero, List.setIfInBounds_toArray, List.set_cons_zero, List.set_cons_succ]
          refine wpAnyH_take (i := 21) (oi := _) (v := ?v15) rfl (by kernel_rfl) (by kernel_rfl) (by kernel_rfl) (fun _ _ _ h => h) (Or.inl ⟨by rfl, ?h15⟩) hHeld ?r15
          case h15 => (intro w0 hSw; (try dsimp only at hSw); go_simp; first | done | with_reducible rfl)
          case r15 =>
          try simp only [Act.put, List.getElem_toArray, List.getElem_cons_succ, List.getElem_cons_zero, List.setIfInBounds_toArray, List.set_cons_zero, List.set_cons_succ]
          refine wpAnyH_take (i := 22) (oi := _) (v := ?v16) rfl (by kernel_rfl) (by kernel_rfl) (by kernel_rfl) (fun _ _ _ h => h) (Or.inl ⟨by rfl, ?h16⟩) hHeld ?r16
          case h16 => (intro w0 hSw; (try dsimp only at hSw); go_simp; first | done | with_reducible rfl)
          case r16 =>
          try simp only [Act.put, List.getElem_toArray, List.getElem_cons_succ, List.getElem_cons_zero, List.setIfInBounds_toArray, List.set_cons_zero, List.set_cons_succ]
          refine wpAnyH_take (i := 23) (oi := _) (v := ?v17) rfl (by kernel_rfl) (by kernel_rfl) (by kernel_rfl) (fun _ _ _ h => h) (Or.inl ⟨by rfl, ?h17⟩) hHeld ?r17
          case h17 => (intro w0 hSw; (try dsimp only at hSw); go_simp; first | done | with_reducible rfl)
          case r17 =>
          try simp only [Act.put, List.getElem_toArray, List.getElem_cons_succ, List.getElem_cons_zero, List.setIfInBounds_toArray, List.set_cons_zero, List.set_cons_succ]
          refine wpAnyH_take (i := 24) (oi := _) (v := ?v18) rfl (by kernel_rfl) (by kernel_rfl) (by kernel_rfl) (fun _ _ _ h => h) (Or.inl ⟨by rfl, ?h18⟩) hHeld ?r18
          case h18 => (intro w0 hSw; (try dsimp only at hSw); go_simp; first | done | with_reducible rfl)
          case r18 =>
          try simp only [Act.put, List.getElem_toArray, List.getElem_cons_succ, List.getElem_cons_zero, List.setIfInBounds_toArray, List.set_cons_zero, List.set_cons_succ]
          refine wpAnyH_take (i := 25) (oi := _) (v := ?v19) rfl (by kernel_rfl) (by kernel_rfl) (by kernel_rfl) (fun _ _ _ h => h) (Or.inl ⟨by rfl, ?h19⟩) hHeld ?r19
          case h19 => (intro w0 hSw; (try dsimp only at hSw); go_simp; first | done | with_reducible rfl)
          case r19 =>
          try simp only [Act.put, List.getElem_toArray, List.getElem_cons_succ, List.getElem_cons_zero, List.setIfInBounds_toArray, List.set_cons_zero, List.set_cons_succ]
          refine wpAnyH_take (i := 26) (oi := _) (v := ?v20) rfl (by kernel_rfl) (by kernel_rfl) (by kernel_rfl) (fun _ _ _ h => h) (Or.inl ⟨by rfl, ?h20⟩) hHeld ?r20
          case h20 => (intro w0 hSw; (try dsimp only at hSw); go_simp; first | done | with_reducible rfl)
          case r20 =>
          try simp only [Act.put, List.getElem_toArray, List.getElem_cons_succ, List.getElem_cons_zero, List.setIfInBounds_toArray, List.set_cons_zero, List.set_cons_succ]
          refine wpAnyH_take (i := 27) (oi := _) (v := ?v21) rfl (by kernel_rfl) (by kernel_rfl) (by kernel_rfl) (fun _ _ _ h => h) (Or.inl ⟨by rfl, ?h21⟩) hHeld ?r21
          case h21 => (intro w0 hSw; (try dsimp only at hSw); go_simp; first | done | with_reducible rfl)
          case r21 =>
          try simp only [Act.put, List.getElem_toArray, List.getElem_cons_succ, List.getElem_cons_zero, List.setIfInBounds_toArray, List.set_cons_zero, List.set_cons_succ]
          refine wpAnyH_take (i := 28) (oi := _) (v := ?v22) rfl (by kernel_rfl) (by kernel_rfl) (by kernel_rfl) (fun _ _ _ h => h) (Or.inl ⟨by rfl, ?h22⟩) hHeld ?r22
          case h22 => (intro w0 hSw; (try dsimp only at hSw); go_simp; first | done | with_reducible rfl)
          case r22 =>
          try simp only [Act.put, List.getElem_toArray, List.getElem_cons_succ, List.getElem_cons_zero, List.setIfInBounds_toArray, List.set_cons_zero, List.set_cons_succ]
          refine wpAnyH_take (i := 29) (oi := _) (v := ?v23) rfl (by kernel_rfl) (by kernel_rfl) (by kernel_rfl) (fun _ _ _ h => h) (Or.inl ⟨by rfl, ?h23⟩) hHeld ?r23
          case h23 => (intro w0 hSw; (try dsimp only at hSw); go_simp; first | done | with_reducible rfl)
          case r23 =>
          try simp only [Act.put, List.getElem_toArray, List.getElem_cons_succ, List.getElem_cons_zero, List.setIfInBounds_toArray, List.set_cons_zero, List.set_cons_succ]
          refine wpAnyH_take (i := 30) (oi := _) (v := ?v24) rfl (by kernel_rfl) (by kernel_rfl) (by kernel_rfl) (fun _ _ _ h => h) (Or.inl ⟨by rfl, ?h24⟩) hHeld ?r24
          case h24 => (intro w0 hSw; (try dsimp only at hSw); go_simp; first | done | with_reducible rfl)
          case r24 =>
          try simp only [Act.put, List.getElem_toArray, List.getElem_cons_succ, List.getElem_cons_zero, List.setIfInBounds_toArray, List.set_cons_zero, List.set_cons_succ]
          refine wpAnyH_take (i := 31) (oi := _) (v := ?v25) rfl (by kernel_rfl) (by kernel_rfl) (by kernel_rfl) (fun _ _ _ h => h) (Or.inl ⟨by rfl, ?h25⟩) hHeld ?r25
          case h25 => (intro w0 hSw; (try dsimp only at hSw); go_simp; first | done | with_reducible rfl)
          case r25 =>
          try simp only [Act.put, List.getElem_toArray, List.getElem_cons_succ, List.getElem_cons_zero, List.setIfInBounds_toArray, List.set_cons_zero, List.set_cons_succ]
          refine wpAnyH_take (i := 32) (oi := _) (v := ?v26) rfl (by kernel_rfl) (by kernel_rfl) (by kernel_rfl) (fun _ _ _ h => h) (Or.inl ⟨by rfl, ?h26⟩) hHeld ?r26
          case h26 => (intro w0 hSw; (try dsimp only at hSw); go_simp; first | done | with_reducible rfl)
          case r26 =>
          try simp only [Act.put, List.getElem_toArray, List.getElem_cons_succ, List.getElem_cons_zero, List.setIfInBounds_toArray, List.set_cons_zero, List.set_cons_succ]
          refine wpAnyH_take (i := 34) (oi := _) (v := ?v27) rfl (by kernel_rfl) (by kernel_rfl) (by kernel_rfl) (fun _ _ _ h => h) (Or.inl ⟨by rfl, ?h27⟩) hHeld ?r27
          case h27 => (intro w0 hSw; (try dsimp only at hSw); go_simp; first | done | with_reducible rfl)
          case r27 =>
          try simp only [Act.put, List.getElem_toArray, List.getElem_cons_succ, List.getElem_cons_zero, List.setIfInBounds_toArray, List.set_cons_zero, List.set_cons_succ]
          refine wpAnyH_take (i := 35) (oi := _) (v := ?v28) rfl (by kernel_rfl) (by kernel_rfl) (by kernel_rfl) (fun _ _ _ h => h) (Or.inl ⟨by rfl, ?h28⟩) hHeld ?r28
          case h28 => (intro w0 hSw; (try dsimp only at hSw); go_simp; first | done | with_reducible rfl)
          case r28 =>
          try simp only [Act.put, List.getElem_toArray, List.getElem_cons_succ, List.getElem_cons_zero, List.setIfInBounds_toArray, List.set_cons_zero, List.set_cons_succ]
          refine wpAnyH_take (i := 37) (oi := _) (v := ?v29) rfl (by kernel_rfl) (by kernel_rfl) (by kernel_rfl) (fun _ _ _ h => h) (Or.inl ⟨by rfl, ?h29⟩) hHeld ?r29
          case h29 => (intro w0 hSw; (try dsimp only at hSw); go_simp; first | done | with_reducible rfl)
          case r29 =>
          try simp only [Act.put, List.getElem_toArray, List.getElem_cons_succ, List.getElem_cons_zero, List.setIfInBounds_toArray, List.set_cons_zero, List.set_cons_succ]
          refine wpAnyH_take (i := 38) (oi := _) (v := ?v30) rfl (by kernel_rfl) (by kernel_rfl) (by kernel_rfl) (fun _ _ _ h => h) (Or.inl ⟨by rfl, ?h30⟩) hHeld ?r30
          case h30 => (intro w0 hSw; (try dsimp only at hSw); go_simp; first | done | with_reducible rfl)
          case r30 =>
          try simp only [Act.put, List.getElem_toArray, List.getElem_cons_succ, List.getElem_cons_zero, List.setIfInBounds_toArray, List.set_cons_zero, List.set_cons_succ]
          refine wpAnyH_take (i := 39) (oi := _) (v := ?v31) rfl (by kernel_rfl) (by kernel_rfl) (by kernel_rfl) (fun _ _ _ h => h) (Or.inl ⟨by rfl, ?h31⟩) hHeld ?r31
          case h31 => (intro w0 hSw; (try dsimp only at hSw); go_simp; first | done | with_reducible rfl)
          case r31 =>
          try simp only [Act.put, List.getElem_toArray, List.getElem_cons_succ, List.getElem_cons_zero, List.setIfInBounds_toArray, List.set_cons_zero, List.set_cons_succ]
          refine wpAnyH_take (i := 40) (oi := _) (v := ?v32) rfl (by kernel_rfl) (by kernel_rfl) (by kernel_rfl) (fun _ _ _ h => h) (Or.inl ⟨by rfl, ?h32⟩) hHeld ?r32
          case h32 => (intro w0 hSw; (try dsimp only at hSw); go_simp; first | done | with_reducible rfl)
          case r32 =>
          try simp only [Act.put, List.getElem_toArray, List.getElem_cons_succ, List.getElem_cons_zero, List.setIfInBounds_toArray, List.set_cons_zero, List.set_cons_succ]
          refine wpAnyH_take (i := 41) (oi := _) (v := ?v33) rfl (by kernel_rfl) (by kernel_rfl) (by kernel_rfl) (fun _ _ _ h => h) (Or.inl ⟨by rfl, ?h33⟩) hHeld ?r33
          case h33 => (intro w0 hSw; (try dsimp only at hSw); go_simp; first | done | with_reducible rfl)
          case r33 =>
          try simp only [Act.put, List.getElem_toArray, List.getElem_cons_succ, List.getElem_cons_zero, List.setIfInBounds_toArray, List.set_cons_zero, List.set_cons_succ]
          refine wpAnyH_take (i := 42) (oi := _) (v := ?v34) rfl (by kernel_rfl) (by kernel_rfl) (by kernel_rfl) (fun _ _ _ h => h) (Or.inl ⟨by rfl, ?h34⟩) hHeld ?r34
          case h34 => (intro w0 hSw; (try dsimp only at hSw); go_simp; first | done | with_reducible rfl)
          case r34 =>
          try simp only [Act.put, List.getElem_toArray, List.getElem_cons_succ, List.getElem_cons_zero, List.setIfInBounds_toArray, List.set_cons_zero, List.set_cons_succ]
          refine wpAnyH_take (i := 43) (oi := _) (v := ?v35) rfl (by kernel_rfl) (by kernel_rfl) (by kernel_rfl) (fun _ _ _ h => h) (Or.inl ⟨by rfl, ?h35⟩) hHeld ?r35
          case h35 => (intro w0 hSw; (try dsimp only at hSw); go_simp; first | done | with_reducible rfl)
          case r35 =>
          try simp only [Act.put, List.getElem_toArray, List.getElem_cons_succ, List.getElem_cons_zero, List.setIfInBounds_toArray, List.set_cons_zero, List.set_cons_succ]
          refine wpAnyH_take (i := 44) (oi := _) (v := ?v36) rfl (by kernel_rfl) (by kernel_rfl) (by kernel_rfl) (fun _ _ _ h => h) (Or.inl ⟨by rfl, ?h36⟩) hHeld ?r36
          case h36 => (intro w0 hSw; (try dsimp only at hSw); go_simp; first | done | with_reducible rfl)
          case r36 =>
          try simp only [Act.put, List.getElem_toArray, List.getElem_cons_succ, List.getElem_cons_zero, List.setIfInBounds_toArray, List.set_cons_zero, List.set_cons_succ]
          refine wpAnyH_ready (rs := [33, 36]) (by kernel_rfl) (by simp) ?_
          refine AllReadyH.cons (o := _) rfl (fun K hK => ?_) (AllReadyH.cons (o := _) rfl (fun K hK => ?_) AllReadyH.nil)
          · go_simp
            go_at_call 11
            refine (M6.out.find e k o).mono ?_
            rintro y x7 ⟨rfl, h7⟩
            have M7 := Lib.hid (M6.out.later h7)
            clear h7
            obtain ⟨p7, q7⟩ := M7.out.rb
            go_wp2_with fail
            refine hK.out _ _ ?_ (fun hHeld => ?_)
            · exact M7.out.acts
            clear hK K
            try simp only [Act.put, List.getElem_toArray, List.getElem_cons_succ, List.getElem_cons_zero, List.setIfInBounds_toArray, List.set_cons_zero, List.set_cons_succ]
            refine wpAnyH_ready (rs := [36]) (by kernel_rfl) (by simp) ?_
            refine AllReadyH.cons (o := _) rfl (fun K hK => ?_) AllReadyH.nil
            go_simp
            refine hK.out _ _ ?_ (fun hHeld => ?_)
            · exact M7.out.acts
            clear hK K
            try simp only [Act.put, List.getElem_toArray, List.getElem_cons_succ, List.getElem_cons_zero, List.setIfInBounds_toArray, List.set_cons_zero, List.set_cons_succ]
            refine wpAnyH_ready (rs := [45]) (by kernel_rfl) (by simp) ?_
            refine AllReadyH.cons (o := _) rfl (fun K hK => ?_) AllReadyH.nil
            go_simp
            go_at_call 12
            refine (M7.out.rfind Hi61.out e k o).mono ?_
            rintro y x9 ⟨rfl, h9⟩
            have M9 := Lib.hid (M7.out.later h9)
            clear h9
            obtain ⟨p9, q9⟩ := M9.out.rb
            go_wp2_with fail
            refine hK.out _ _ ?_ (fun hHeld => ?_)
            · exact M9.out.acts
            clear hK K
            try simp only [Act.put, List.getElem_toArray, List.getElem_cons_succ, List.getElem_cons_zero, List.setIfInBounds_toArray, List.set_cons_zero, List.set_cons_succ]
            refine wpAnyH_take (i := 46) (oi := _) (v := ?v37) rfl (by kernel_rfl) (by kernel_rfl) (by kernel_rfl) (fun _ _ _ h => h) (Or.inl ⟨by rfl, ?h37⟩) hHeld ?r37
            case h37 => (intro w0 hSw; (try dsimp only at hSw); go_simp; first | done | with_reducible rfl)
            case r37 =>
            try simp only [Act.put, List.getElem_toArray, List.getElem_cons_succ, List.getElem_cons_zero, List.setIfInBounds_toArray, List.set_cons_zero, List.set_cons_succ]
            refine wpAnyH_take (i := 47) (oi := _) (v := ?v38) rfl (by kernel_rfl) (by kernel_rfl) (by kernel_rfl) (fun _ _ _ h => h) (Or.inl ⟨by rfl, ?h38⟩) hHeld ?r38
            case h38 => (intro w0 hSw; (try dsimp only at hSw); go_simp; first | done | with_reducible rfl)
            case r38 =>
            try simp only [Act.put, List.getElem_toArray, List.getElem_cons_succ, List.getElem_cons_zero, List.setIfInBounds_toArray, List.set_cons_zero, List.set_cons_succ]
            refine wpAnyH_done (by kernel_rfl) ?_ _
            go_wp2_with fail
            go_meet
            exact ⟨rfl, _, _, _, _, M9⟩
          · go_simp
            refine hK.out _ _ ?_ (fun hHeld => ?_)
            · exact M6.out.acts
            clear hK K
            try simp only [Act.put, List.getElem_toArray, List.getElem_cons_succ, List.getElem_cons_zero, List.setIfInBounds_toArray, List.set_cons_zero, List.set_cons_succ]
            refine wpAnyH_ready (rs := [33]) (by kernel_rfl) (by simp) ?_
            refine AllReadyH.cons (o := _) rfl (fun K hK => ?_) AllReadyH.nil
            go_simp
            go_at_call 11
            refine (M6.out.find e k o).mono ?_
            rintro y x8 ⟨rfl, h8⟩
            have M8 := Lib.hid (M6.out.later h8)
            clear h8
            obtain ⟨p8, q8⟩ := M8.out.rb
            go_wp2_with fail
            refine hK.out _ _ ?_ (fun hHeld => ?_)
            · exact M8.out.acts
            clear hK K
            try simp only [Act.put, List.getElem_toArray, List.getElem_cons_succ, List.getElem_cons_zero, List.setIfInBounds_toArray, List.set_cons_zero, List.set_cons_succ]
            refine wpAnyH_ready (rs := [45]) (by kernel_rfl) (by simp) ?_
            refine AllReadyH.cons (o := _) rfl (fun K hK => ?_) AllReadyH.nil
            go_simp
            go_at_call 12
            refine (M8.out.rfind Hi61.out e k o).mono ?_
            rintro y x9 ⟨rfl, h9⟩
            have M9 := Lib.hid (M8.out.later h9)
            clear h9
            obtain ⟨p9, q9⟩ := M9.out.rb
            go_wp2_with fail
            refine hK.out _ _ ?_ (fun hHeld => ?_)
            · exact M9.out.acts
            clear hK K
            try simp only [Act.put, List.getElem_toArray, List.getElem_cons_succ, List.getElem_cons_zero, List.setIfInBounds_toArray, List.set_cons_zero, List.set_cons_succ]
            refine wpAnyH_take (i := 46) (oi := _) (v := ?v39) rfl (by kernel_rfl) (by kernel_rfl) (by kernel_rfl) (fun _ _ _ h => h) (Or.inl ⟨by rfl, ?h39⟩) hHeld ?r39
            case h39 => (intro w0 hSw; (try dsimp only at hSw); go_simp; first | done | with_reducible rfl)
            case r39 =>
            try simp only [Act.put, List.getElem_toArray, List.getElem_cons_succ, List.getElem_cons_zero, List.setIfInBounds_toArray, List.set_cons_zero, List.set_cons_succ]
            refine wpAnyH_take (i := 47) (oi := _) (v := ?v40) rfl (by kernel_rfl) (by kernel_rfl) (by kernel_rfl) (fun _ _ _ h => h) (Or.inl ⟨by rfl, ?h40⟩) hHeld ?r40
            case h40 => (intro w0 hSw; (try dsimp only at hSw); go_simp; first | done | with_reducible rfl)
            case r40 =>
            try simp only [Act.put, List.getElem_toArray, List.getElem_cons_succ, List.getElem_cons_zero, List.setIfInBounds_toArray, List.set_cons_zero, List.set_cons_succ]
            refine wpAnyH_done (by kernel_rfl) ?_ _
            go_wp2_with fail
            go_meet
            exact ⟨rfl, _, _, _, _, M9⟩
        case rest =>
          obtain ⟨rfl, D2, A2, n2, c2, HM⟩ := hcut
          clear HS1 HDo HRt HRr HP3 HX3
          obtain ⟨K, hK⟩ : ∃ K, max k 0 = K := ⟨_, rfl⟩
          have Hl2 : Hid (∀ w', Below wc.heap.size wc w' → h + 1 < w'.heap.size ∧ ab < w'.heap.size) := Lib.hid fun w' h' => ⟨Nat.lt_of_lt_of_le HM.out.st.ltr h'.size, Nat.lt_of_lt_of_le (lt_of_blk HM.out.box) h'.size⟩
          cases hf : fd D2.fo.l e s with
          | none =>
            as_aux_lemma =>
              have HG : Hid (Calls Try.prog 13 #[.pointer (some ⟨h, 0, none⟩), .int .i64 e, .int .i64 s, .int .i64 K, .int .i64 (m : Nat)] wc fun y w6 => y = .returned (.tuple #[.agg #[.int .i64 0, .int .i64 0, .int .i64 0], .bool false]) ∧ Below wc.heap.size wc w6) := Lib.hid (by
                have h1 := has_any HM.out.st.fo e s K (m : Nat)
                rw [show hasB D2.fo e s K (m : Nat) = false from by rw [hasB, hf]] at h1
                rw [if_neg (by simp)] at h1
                exact h1)
              have HAt : Hid (∀ w', Below wc.heap.size wc w' → Calls Try.prog 14 #[.agg #[.slice A2 n2 c2, .int .i64 (D2.p : Nat)], .int .i64 e, .int .i64 s] w' fun y w5 => y = .returned (.int .i64 (-1)) ∧ Below w'.heap.size w' w5) := Lib.hid fun w' h' => by
                have h := (HM.out.later h').st
                have h1 := rat_any h.doc sz_lt (Nat.le_trans (h.inv.few (Nat.le_trans HM.out.few (Nat.le_trans Hi61.out (by omega))) h.doc) (by omega)) (D2.p : Nat) e s
                rwa [at_none hf] at h1
              have HQ : Hid (∀ w6 W6, Below wc.heap.size wc w6 → (w6.alloc (.cells #[.int .i64 0, .int .i64 0, .int .i64 0] 26 (0, 0))) = W6 → ∀ w', Below W6.heap.size W6 w' → Below W6.heap.size W6 w' ∧ (w'.cell? ⟨h + 1, 0, none⟩ = some (.slice A2 n2 c2) ∧ w'.cell? ⟨h + 1, 1, none⟩ = some (.int .i64 (D2.p : Nat))) ∧ (w'.cell? ⟨ab, 1, none⟩ = some (.int .i64 e) ∧ w'.cell? ⟨ab, 2, none⟩ = some (.int .i64 s) ∧ w'.cell? ⟨ab, 6, none⟩ = some (.int .i64 k)) ∧ (w'.cell? ⟨w6.heap.size, 0, none⟩ = some (.int .i64 0) ∧ w'.cell? ⟨w6.heap.size, 1, none⟩ = some (.int .i64 0) ∧ w'.cell? ⟨w6.heap.size, 2, none⟩ = some (.int .i64 0))) := Lib.hid fun w6 W6 h6 hW w' h' => by
                subst hW
                have hb := below_call (Nat.le_refl _) (below_new (Nat.le_refl _) h6 _) h'
                have M := HM.out.later hb
                obtain ⟨a0, a1, a2, a3, a4, a5, a6, a7, a8⟩ := M.acts
                exact ⟨h', M.rb, ⟨a1, a2, a6⟩, cap_box h'⟩
              clear hf
              obtain ⟨⟨p0, p1⟩, a0, a1, a2, a3, a4, a5, a6, a7, a8⟩ := And.intro HM.out.rb HM.out.acts
              go_wp2_with fail
              refine HG.out.mono ?_
              rintro y w6 ⟨rfl, h6⟩
              have G6 := Lib.hid h6
              obtain ⟨l1, l2⟩ := Hl2.out w6 h6
              obtain ⟨⟨p0, p1⟩, b0, b1, b2, b3, b4, b5, b6, b7, b8⟩ := And.intro (HM.out.later h6).rb (HM.out.later h6).acts
              clear h6 HG
              go_upto_region 12 with (fail)
              obtain ⟨W6, hW6⟩ : ∃ W6, (w6.alloc (.cells #[.int .i64 0, .int .i64 0, .int .i64 0] 26 (0, 0))) = W6 := ⟨_, rfl⟩
              have HS := Lib.hid (HQ.out w6 W6 G6.out hW6)
              have GW := Lib.hid (show Below wc.heap.size wc W6 by rw [← hW6]; exact below_new (Nat.le_refl _) G6.out _)
              rw [hW6]
              clear hW6 HQ l1 l2 p0 p1 a0 a1 a2 a3 a4 a5 a6 a7 a8 b0 b1 b2 b3 b4 b5 b6 b7 b8
              refine region_quiet (C := fun w' => Below W6.heap.size W6 w' ∧ (w'.cell? ⟨h + 1, 0, none⟩ = some (.slice A2 n2 c2) ∧ w'.cell? ⟨h + 1, 1, none⟩ = some (.int .i64 (D2.p : Nat))) ∧ (w'.cell? ⟨ab, 1, none⟩ = some (.int .i64 e) ∧ w'.cell? ⟨ab, 2, none⟩ = some (.int .i64 s) ∧ w'.cell? ⟨ab, 6, none⟩ = some (.int .i64 k)) ∧ (w'.cell? ⟨w6.heap.size, 0, none⟩ = some (.int .i64 0) ∧ w'.cell? ⟨w6.heap.size, 1, none⟩ = some (.int .i64 0) ∧ w'.cell? ⟨w6.heap.size, 2, none⟩ = some (.int .i64 0))) (by kernel_rfl) (by kernel_rfl) (HS.out _ (Below.refl _ _).drew) ?_
              go_big_quiet_want
              apply Exists.intro
              refine ⟨fun w0 hSw => ?_, ?_⟩
              · (try dsimp only at hSw); go_simp; first | done | with_reducible rfl
              go_big_quiet_on
              try simp only [Act.put, List.setIfInBounds_toArray, List.set_cons_zero, List.set_cons_succ]
              go_big_quiet_want
              apply Exists.intro
              refine ⟨fun w0 hSw => ?_, ?_⟩
              · (try dsimp only at hSw); go_simp; first | done | with_reducible rfl
              go_big_quiet_on
              try simp only [Act.put, List.setIfInBounds_toArray, List.set_cons_zero, List.set_cons_succ]
              go_big_quiet_want
              apply Exists.intro
              refine ⟨fun w0 hSw => ?_, ?_⟩
              · (try dsimp only at hSw); go_simp; first | done | with_reducible rfl
              go_big_quiet_on
              try simp only [Act.put, List.setIfInBounds_toArray, List.set_cons_zero, List.set_cons_succ]
              go_big_quiet_want
              apply Exists.intro
              refine ⟨fun w0 hSw => ?_, ?_⟩
              · (try dsimp only at hSw); go_simp; first | done | with_reducible rfl
              go_big_quiet_on
              try simp only [Act.put, List.setIfInBounds_toArray, List.set_cons_zero, List.set_cons_succ]
              go_big_quiet_want
              apply Exists.intro
              refine ⟨fun w0 hSw => ?_, ?_⟩
              · (try dsimp only at hSw); go_simp; first | done | with_reducible rfl
              go_big_quiet_on
              try simp only [Act.put, List.setIfInBounds_toArray, List.set_cons_zero, List.set_cons_succ]
              go_big_quiet_want
              apply Exists.intro
              refine ⟨fun w0 hSw => ?_, ?_⟩
              · (try dsimp only at hSw); go_simp; first | done | with_reducible rfl
              go_big_quiet_on
              try simp only [Act.put, List.setIfInBounds_toArray, List.set_cons_zero, List.set_cons_succ]
              go_big_quiet_want
              apply Exists.intro
              refine ⟨fun w0 hSw => ?_, ?_⟩
              · (try dsimp only at hSw); go_simp; first | done | with_reducible rfl
              go_big_quiet_on
              try simp only [Act.put, List.setIfInBounds_toArray, List.set_cons_zero, List.set_cons_succ]
              go_big_quiet_want
              apply Exists.intro
              refine ⟨fun w0 hSw => ?_, ?_⟩
              · (try dsimp only at hSw); go_simp; exact (HAt.out _ (below_call (Nat.le_refl _) GW.out hSw.1)).mono fun e w'' h => ⟨h.1, HS.out _ (below_call (Nat.le_refl _) hSw.1 h.2)⟩
              go_big_quiet_on
              try simp only [Act.put, List.setIfInBounds_toArray, List.set_cons_zero, List.set_cons_succ]
              go_big_quiet_want
              apply Exists.intro
              refine ⟨fun w0 hSw => ?_, ?_⟩
              · (try dsimp only at hSw); go_simp; first | done | with_reducible rfl
              go_big_quiet_on
              try simp only [Act.put, List.setIfInBounds_toArray, List.set_cons_zero, List.set_cons_succ]
              refine wpQuiet_nil ?_
              intro w7 hSw
              obtain ⟨g7, ⟨d0, d1⟩, -⟩ := hSw
              have G7 := Lib.hid g7
              clear g7
              go_upto_region 13 with (fail)
              refine region_quiet (C := fun w' => Below W6.heap.size W6 w' ∧ (w'.cell? ⟨h + 1, 0, none⟩ = some (.slice A2 n2 c2) ∧ w'.cell? ⟨h + 1, 1, none⟩ = some (.int .i64 (D2.p : Nat))) ∧ (w'.cell? ⟨ab, 1, none⟩ = some (.int .i64 e) ∧ w'.cell? ⟨ab, 2, none⟩ = some (.int .i64 s) ∧ w'.cell? ⟨ab, 6, none⟩ = some (.int .i64 k)) ∧ (w'.cell? ⟨w6.heap.size, 0, none⟩ = some (.int .i64 0) ∧ w'.cell? ⟨w6.heap.size, 1, none⟩ = some (.int .i64 0) ∧ w'.cell? ⟨w6.heap.size, 2, none⟩ = some (.int .i64 0))) (by kernel_rfl) (by kernel_rfl) (HS.out _ G7.out.drew) ?_
              go_big_quiet_want
              apply Exists.intro
              refine ⟨fun w0 hSw => ?_, ?_⟩
              · (try dsimp only at hSw); go_simp; first | done | with_reducible rfl
              go_big_quiet_on
              try simp only [Act.put, List.setIfInBounds_toArray, List.set_cons_zero, List.set_cons_succ]
              go_big_quiet_want
              apply Exists.intro
              refine ⟨fun w0 hSw => ?_, ?_⟩
              · (try dsimp only at hSw); go_simp; first | done | with_reducible rfl
              go_big_quiet_on
              try simp only [Act.put, List.setIfInBounds_toArray, List.set_cons_zero, List.set_cons_succ]
              go_big_quiet_want
              apply Exists.intro
              refine ⟨fun w0 hSw => ?_, ?_⟩
              · (try dsimp only at hSw); go_simp; first | done | with_reducible rfl
              go_big_quiet_on
              try simp only [Act.put, List.setIfInBounds_toArray, List.set_cons_zero, List.set_cons_succ]
              go_big_quiet_skip
              go_big_quiet_skip
              go_big_quiet_skip
              go_big_quiet_skip
              go_big_quiet_skip
              go_big_quiet_skip
              go_big_quiet_skip
              go_big_quiet_skip
              go_big_quiet_skip
              go_big_quiet_skip
              go_big_quiet_skip
              go_big_quiet_skip
              go_big_quiet_skip
              go_big_quiet_skip
              go_big_quiet_want
              apply Exists.intro
              refine ⟨fun w0 hSw => ?_, ?_⟩
              · (try dsimp only at hSw); go_simp; first | done | with_reducible rfl
              go_big_quiet_on
              try simp only [Act.put, List.setIfInBounds_toArray, List.set_cons_zero, List.set_cons_succ]
              go_big_quiet_want
              apply Exists.intro
              refine ⟨fun w0 hSw => ?_, ?_⟩
              · (try dsimp only at hSw); go_simp; first | done | with_reducible rfl
              go_big_quiet_on
              try simp only [Act.put, List.setIfInBounds_toArray, List.set_cons_zero, List.set_cons_succ]
              go_big_quiet_skip
              go_big_quiet_skip
              go_big_quiet_skip
              go_big_quiet_skip
              go_big_quiet_skip
              go_big_quiet_skip
              go_big_quiet_skip
              go_big_quiet_skip
              go_big_quiet_skip
              go_big_quiet_skip
              go_big_quiet_skip
              go_big_quiet_want
              apply Exists.intro
              refine ⟨fun w0 hSw => ?_, ?_⟩
              · (try dsimp only at hSw); go_simp; first | done | with_reducible rfl
              go_big_quiet_on
              try simp only [Act.put, List.setIfInBounds_toArray, List.set_cons_zero, List.set_cons_succ]
              go_big_quiet_want
              apply Exists.intro
              refine ⟨fun w0 hSw => ?_, ?_⟩
              · (try dsimp only at hSw); go_simp; first | done | with_reducible rfl
              go_big_quiet_on
              try simp only [Act.put, List.setIfInBounds_toArray, List.set_cons_zero, List.set_cons_succ]
              refine wpQuiet_nil ?_
              intro w8 hSw
              have G8 := Lib.hid hSw.1
              clear hSw d0 d1
              go_upto_region 14 with (fail)
              refine region_quiet (C := fun w' => Below W6.heap.size W6 w' ∧ (w'.cell? ⟨h + 1, 0, none⟩ = some (.slice A2 n2 c2) ∧ w'.cell? ⟨h + 1, 1, none⟩ = some (.int .i64 (D2.p : Nat))) ∧ (w'.cell? ⟨ab, 1, none⟩ = some (.int .i64 e) ∧ w'.cell? ⟨ab, 2, none⟩ = some (.int .i64 s) ∧ w'.cell? ⟨ab, 6, none⟩ = some (.int .i64 k)) ∧ (w'.cell? ⟨w6.heap.size, 0, none⟩ = some (.int .i64 0) ∧ w'.cell? ⟨w6.heap.size, 1, none⟩ = some (.int .i64 0) ∧ w'.cell? ⟨w6.heap.size, 2, none⟩ = some (.int .i64 0))) (by kernel_rfl) (by kernel_rfl) (HS.out _ G8.out.drew) ?_
              go_big_quiet_want
              apply Exists.intro
              refine ⟨fun w0 hSw => ?_, ?_⟩
              · (try dsimp only at hSw); go_simp; first | done | with_reducible rfl
              go_big_quiet_on
              try simp only [Act.put, List.setIfInBounds_toArray, List.set_cons_zero, List.set_cons_succ]
              go_big_quiet_want
              apply Exists.intro
              refine ⟨fun w0 hSw => ?_, ?_⟩
              · (try dsimp only at hSw); go_simp; first | done | with_reducible rfl
              go_big_quiet_on
              try simp only [Act.put, List.setIfInBounds_toArray, List.set_cons_zero, List.set_cons_succ]
              go_big_quiet_want
              apply Exists.intro
              refine ⟨fun w0 hSw => ?_, ?_⟩
              · (try dsimp only at hSw); go_simp; first | done | with_reducible rfl
              go_big_quiet_on
              try simp only [Act.put, List.setIfInBounds_toArray, List.set_cons_zero, List.set_cons_succ]
              go_big_quiet_want
              apply Exists.intro
              refine ⟨fun w0 hSw => ?_, ?_⟩
              · (try dsimp only at hSw); go_simp; first | done | with_reducible rfl
              go_big_quiet_on
              try simp only [Act.put, List.setIfInBounds_toArray, List.set_cons_zero, List.set_cons_succ]
              go_big_quiet_want
              apply Exists.intro
              refine ⟨fun w0 hSw => ?_, ?_⟩
              · (try dsimp only at hSw); go_simp; first | done | with_reducible rfl
              go_big_quiet_on
              try simp only [Act.put, List.setIfInBounds_toArray, List.set_cons_zero, List.set_cons_succ]
              go_big_quiet_want
              apply Exists.intro
              refine ⟨fun w0 hSw => ?_, ?_⟩
              · (try dsimp only at hSw); go_simp; first | done | with_reducible rfl
              go_big_quiet_on
              try simp only [Act.put, List.setIfInBounds_toArray, List.set_cons_zero, List.set_cons_succ]
              go_big_quiet_skip
              go_big_quiet_skip
              go_big_quiet_skip
              go_big_quiet_skip
              go_big_quiet_skip
              go_big_quiet_skip
              go_big_quiet_skip
              go_big_quiet_skip
              go_big_quiet_skip
              go_big_quiet_skip
              go_big_quiet_skip
              go_big_quiet_want
              apply Exists.intro
              refine ⟨fun w0 hSw => ?_, ?_⟩
              · (try dsimp only at hSw); go_simp; first | done | with_reducible rfl
              go_big_quiet_on
              try simp only [Act.put, List.setIfInBounds_toArray, List.set_cons_zero, List.set_cons_succ]
              go_big_quiet_want
              apply Exists.intro
              refine ⟨fun w0 hSw => ?_, ?_⟩
              · (try dsimp only at hSw); go_simp; first | done | with_reducible rfl
              go_big_quiet_on
              try simp only [Act.put, List.setIfInBounds_toArray, List.set_cons_zero, List.set_cons_succ]
              go_big_quiet_want
              apply Exists.intro
              refine ⟨fun w0 hSw => ?_, ?_⟩
              · (try dsimp only at hSw); go_simp; first | done | with_reducible rfl
              go_big_quiet_on
              try simp only [Act.put, List.setIfInBounds_toArray, List.set_cons_zero, List.set_cons_succ]
              go_big_quiet_want
              apply Exists.intro
              refine ⟨fun w0 hSw => ?_, ?_⟩
              · (try dsimp only at hSw); go_simp; first | done | with_reducible rfl
              go_big_quiet_on
              try simp only [Act.put, List.setIfInBounds_toArray, List.set_cons_zero, List.set_cons_succ]
              go_big_quiet_want
              apply Exists.intro
              refine ⟨fun w0 hSw => ?_, ?_⟩
              · (try dsimp only at hSw); go_simp; first | done | with_reducible rfl
              go_big_quiet_on
              try simp only [Act.put, List.setIfInBounds_toArray, List.set_cons_zero, List.set_cons_succ]
              go_big_quiet_want
              apply Exists.intro
              refine ⟨fun w0 hSw => ?_, ?_⟩
              · (try dsimp only at hSw); go_simp; first | done | with_reducible rfl
              go_big_quiet_on
              try simp only [Act.put, List.setIfInBounds_toArray, List.set_cons_zero, List.set_cons_succ]
              go_big_quiet_want
              apply Exists.intro
              refine ⟨fun w0 hSw => ?_, ?_⟩
              · (try dsimp only at hSw); go_simp; first | done | with_reducible rfl
              go_big_quiet_on
              try simp only [Act.put, List.setIfInBounds_toArray, List.set_cons_zero, List.set_cons_succ]
              go_big_quiet_want
              apply Exists.intro
              refine ⟨fun w0 hSw => ?_, ?_⟩
              · (try dsimp only at hSw); go_simp; first | done | with_reducible rfl
              go_big_quiet_on
              try simp only [Act.put, List.setIfInBounds_toArray, List.set_cons_zero, List.set_cons_succ]
              go_big_quiet_want
              apply Exists.intro
              refine ⟨fun w0 hSw => ?_, ?_⟩
              · (try dsimp only at hSw); go_simp; first | done | with_reducible rfl
              go_big_quiet_on
              try simp only [Act.put, List.setIfInBounds_toArray, List.set_cons_zero, List.set_cons_succ]
              go_big_quiet_want
              apply Exists.intro
              refine ⟨fun w0 hSw => ?_, ?_⟩
              · (try dsimp only at hSw); go_simp; first | done | with_reducible rfl
              go_big_quiet_on
              try simp only [Act.put, List.setIfInBounds_toArray, List.set_cons_zero, List.set_cons_succ]
              go_big_quiet_want
              apply Exists.intro
              refine ⟨fun w0 hSw => ?_, ?_⟩
              · (try dsimp only at hSw); go_simp; first | done | with_reducible rfl
              go_big_quiet_on
              try simp only [Act.put, List.setIfInBounds_toArray, List.set_cons_zero, List.set_cons_succ]
              refine wpQuiet_nil ?_
              intro w9 hSw
              have G9 := Lib.hid hSw.1
              clear hSw
              have HPn : Hid (Pp w h (i + 1) w9) := Lib.hid (HM.out.later (below_call (Nat.le_refl _) GW.out G9.out)).pp
              clear HS
              go_wp2
              go_roundw
              case rel => exact ⟨i + 1, by omega, by omega, by go_num, HPn⟩
              case measure => simp [intOf]; omega
          | some y =>
            obtain ⟨i2, x, hi2, hx, rfl⟩ := at_some (M := D2.l) hf
            obtain ⟨g, hAg, -⟩ := HM.out.st.doc.at_ hx
            subst hAg
            have HX : Hid (∀ w', Below wc.heap.size wc w' → w'.cell? ⟨g, i2 * 7 + 4, none⟩ = some (.int .i64 x.k) ∧ w'.cell? ⟨g, i2 * 7 + 5, none⟩ = some (.int .i64 x.o) ∧ w'.cell? ⟨g, i2 * 7 + 6, none⟩ = some (.int .i64 (x.r : Nat))) := Lib.hid fun w' h' => by
              obtain ⟨g', e', -, -, -, -, -, r4, r5, r6⟩ := ((HM.out.later h').st.doc).at_ hx
              cases e'
              exact ⟨r4, r5, r6⟩
            have j0 : (0 : Int) ≤ i2 := by omega
            have j1 : (i2 : Int) < n2 := by
              have h1 := (List.getElem?_eq_some_iff.1 hx).1
              have h2 := HM.out.st.doc.len
              omega
            have j3 : n2 ≤ c2 := HM.out.st.doc.cap
            have Hx16 := Lib.hid (HM.out.st.inv.rng (List.mem_of_getElem? hx)).2.2.1
            by_cases hk : x.k = K
            · subst hk
              cases hb : mayB x.r (m : Nat) with
              | false =>
                as_aux_lemma =>
                  have HG : Hid (Calls Try.prog 13 #[.pointer (some ⟨h, 0, none⟩), .int .i64 e, .int .i64 s, .int .i64 x.k, .int .i64 (m : Nat)] wc fun y w6 => y = .returned (.tuple #[.agg #[.int .i64 0, .int .i64 0, .int .i64 0], .bool false]) ∧ Below wc.heap.size wc w6) := Lib.hid (by
                    have h1 := has_any HM.out.st.fo e s x.k (m : Nat)
                    rw [show hasB D2.fo e s x.k (m : Nat) = false from by rw [hasB, hf]; show (decide (x.nd.k = x.k) && mayB x.nd.r (m : Nat)) = false; rw [show mayB x.nd.r (m : Nat) = false from hb, Bool.and_false]] at h1
                    rw [if_neg (by simp)] at h1
                    exact h1)
                  have HAt : Hid (∀ w', Below wc.heap.size wc w' → Calls Try.prog 14 #[.agg #[.slice (some ⟨g, 0, none⟩) n2 c2, .int .i64 (D2.p : Nat)], .int .i64 e, .int .i64 s] w' fun y w5 => y = .returned (.int .i64 (i2 : Nat)) ∧ Below w'.heap.size w' w5) := Lib.hid fun w' h' => by
                    have h := (HM.out.later h').st
                    have h1 := rat_any h.doc sz_lt (Nat.le_trans (h.inv.few (Nat.le_trans HM.out.few (Nat.le_trans Hi61.out (by omega))) h.doc) (by omega)) (D2.p : Nat) e s
                    rwa [hi2] at h1
                  have HQ : Hid (∀ w6 W6, Below wc.heap.size wc w6 → (w6.alloc (.cells #[.int .i64 0, .int .i64 0, .int .i64 0] 26 (0, 0))) = W6 → ∀ w', Below W6.heap.size W6 w' → Below W6.heap.size W6 w' ∧ (w'.cell? ⟨h + 1, 0, none⟩ = some (.slice (some ⟨g, 0, none⟩) n2 c2) ∧ w'.cell? ⟨h + 1, 1, none⟩ = some (.int .i64 (D2.p : Nat))) ∧ (w'.cell? ⟨ab, 1, none⟩ = some (.int .i64 e) ∧ w'.cell? ⟨ab, 2, none⟩ = some (.int .i64 s) ∧ w'.cell? ⟨ab, 6, none⟩ = some (.int .i64 k)) ∧ (w'.cell? ⟨w6.heap.size, 0, none⟩ = some (.int .i64 0) ∧ w'.cell? ⟨w6.heap.size, 1, none⟩ = some (.int .i64 0) ∧ w'.cell? ⟨w6.heap.size, 2, none⟩ = some (.int .i64 0)) ∧ (w'.cell? ⟨g, i2 * 7 + 4, none⟩ = some (.int .i64 x.k) ∧ w'.cell? ⟨g, i2 * 7 + 5, none⟩ = some (.int .i64 x.o) ∧ w'.cell? ⟨g, i2 * 7 + 6, none⟩ = some (.int .i64 (x.r : Nat)))) := Lib.hid fun w6 W6 h6 hW w' h' => by
                    subst hW
                    have hb := below_call (Nat.le_refl _) (below_new (Nat.le_refl _) h6 _) h'
                    have M := HM.out.later hb
                    obtain ⟨a0, a1, a2, a3, a4, a5, a6, a7, a8⟩ := M.acts
                    exact ⟨h', M.rb, ⟨a1, a2, a6⟩, cap_box h', HX.out w' hb⟩
                  have HBt : Hid (∀ w', Calls Try.prog 15 #[.int .i64 (x.r : Nat), .int .i64 (m : Nat)] w' fun y w'' => y = .returned (.bool false) ∧ w' = w'') := Lib.hid fun w' => by
                    have h1 := rbits_any x.r m Hx16.out (by omega) w'
                    rwa [show mayB x.r (m : Nat) = false from hb] at h1
                  clear hf hi2 hx hb
                  obtain ⟨⟨p0, p1⟩, a0, a1, a2, a3, a4, a5, a6, a7, a8⟩ := And.intro HM.out.rb HM.out.acts
                  go_wp2_with fail
                  refine HG.out.mono ?_
                  rintro y w6 ⟨rfl, h6⟩
                  have G6 := Lib.hid h6
                  obtain ⟨l1, l2⟩ := Hl2.out w6 h6
                  obtain ⟨⟨p0, p1⟩, b0, b1, b2, b3, b4, b5, b6, b7, b8⟩ := And.intro (HM.out.later h6).rb (HM.out.later h6).acts
                  clear h6 HG
                  go_upto_region 12 with (fail)
                  obtain ⟨W6, hW6⟩ : ∃ W6, (w6.alloc (.cells #[.int .i64 0, .int .i64 0, .int .i64 0] 26 (0, 0))) = W6 := ⟨_, rfl⟩
                  have HS := Lib.hid (HQ.out w6 W6 G6.out hW6)
                  have GW := Lib.hid (show Below wc.heap.size wc W6 by rw [← hW6]; exact below_new (Nat.le_refl _) G6.out _)
                  rw [hW6]
                  clear hW6 HQ l1 l2 p0 p1 a0 a1 a2 a3 a4 a5 a6 a7 a8 b0 b1 b2 b3 b4 b5 b6 b7 b8
                  refine region_quiet (C := fun w' => Below W6.heap.size W6 w' ∧ (w'.cell? ⟨h + 1, 0, none⟩ = some (.slice (some ⟨g, 0, none⟩) n2 c2) ∧ w'.cell? ⟨h + 1, 1, none⟩ = some (.int .i64 (D2.p : Nat))) ∧ (w'.cell? ⟨ab, 1, none⟩ = some (.int .i64 e) ∧ w'.cell? ⟨ab, 2, none⟩ = some (.int .i64 s) ∧ w'.cell? ⟨ab, 6, none⟩ = some (.int .i64 k)) ∧ (w'.cell? ⟨w6.heap.size, 0, none⟩ = some (.int .i64 0) ∧ w'.cell? ⟨w6.heap.size, 1, none⟩ = some (.int .i64 0) ∧ w'.cell? ⟨w6.heap.size, 2, none⟩ = some (.int .i64 0)) ∧ (w'.cell? ⟨g, i2 * 7 + 4, none⟩ = some (.int .i64 x.k) ∧ w'.cell? ⟨g, i2 * 7 + 5, none⟩ = some (.int .i64 x.o) ∧ w'.cell? ⟨g, i2 * 7 + 6, none⟩ = some (.int .i64 (x.r : Nat)))) (by kernel_rfl) (by kernel_rfl) (HS.out _ (Below.refl _ _).drew) ?_
                  go_big_quiet_want
                  apply Exists.intro
                  refine ⟨fun w0 hSw => ?_, ?_⟩
                  · (try dsimp only at hSw); go_simp; first | done | with_reducible rfl
                  go_big_quiet_on
                  try simp only [Act.put, List.setIfInBounds_toArray, List.set_cons_zero, List.set_cons_succ]
                  go_big_quiet_want
                  apply Exists.intro
                  refine ⟨fun w0 hSw => ?_, ?_⟩
                  · (try dsimp only at hSw); go_simp; first | done | with_reducible rfl
                  go_big_quiet_on
                  try simp only [Act.put, List.setIfInBounds_toArray, List.set_cons_zero, List.set_cons_succ]
                  go_big_quiet_want
                  apply Exists.intro
                  refine ⟨fun w0 hSw => ?_, ?_⟩
                  · (try dsimp only at hSw); go_simp; first | done | with_reducible rfl
                  go_big_quiet_on
                  try simp only [Act.put, List.setIfInBounds_toArray, List.set_cons_zero, List.set_cons_succ]
                  go_big_quiet_want
                  apply Exists.intro
                  refine ⟨fun w0 hSw => ?_, ?_⟩
                  · (try dsimp only at hSw); go_simp; first | done | with_reducible rfl
                  go_big_quiet_on
                  try simp only [Act.put, List.setIfInBounds_toArray, List.set_cons_zero, List.set_cons_succ]
                  go_big_quiet_want
                  apply Exists.intro
                  refine ⟨fun w0 hSw => ?_, ?_⟩
                  · (try dsimp only at hSw); go_simp; first | done | with_reducible rfl
                  go_big_quiet_on
                  try simp only [Act.put, List.setIfInBounds_toArray, List.set_cons_zero, List.set_cons_succ]
                  go_big_quiet_want
                  apply Exists.intro
                  refine ⟨fun w0 hSw => ?_, ?_⟩
                  · (try dsimp only at hSw); go_simp; first | done | with_reducible rfl
                  go_big_quiet_on
                  try simp only [Act.put, List.setIfInBounds_toArray, List.set_cons_zero, List.set_cons_succ]
                  go_big_quiet_want
                  apply Exists.intro
                  refine ⟨fun w0 hSw => ?_, ?_⟩
                  · (try dsimp only at hSw); go_simp; first | done | with_reducible rfl
                  go_big_quiet_on
                  try simp only [Act.put, List.setIfInBounds_toArray, List.set_cons_zero, List.set_cons_succ]
                  go_big_quiet_want
                  apply Exists.intro
                  refine ⟨fun w0 hSw => ?_, ?_⟩
                  · (try dsimp only at hSw); go_simp; exact (HAt.out _ (below_call (Nat.le_refl _) GW.out hSw.1)).mono fun e w'' h => ⟨h.1, HS.out _ (below_call (Nat.le_refl _) hSw.1 h.2)⟩
                  go_big_quiet_on
                  try simp only [Act.put, List.setIfInBounds_toArray, List.set_cons_zero, List.set_cons_succ]
                  go_big_quiet_want
                  apply Exists.intro
                  refine ⟨fun w0 hSw => ?_, ?_⟩
                  · (try dsimp only at hSw); go_simp; first | done | with_reducible rfl
                  go_big_quiet_on
                  try simp only [Act.put, List.setIfInBounds_toArray, List.set_cons_zero, List.set_cons_succ]
                  refine wpQuiet_nil ?_
                  intro w7 hSw
                  obtain ⟨g7, ⟨d0, d1⟩, -⟩ := hSw
                  have G7 := Lib.hid g7
                  clear g7
                  go_upto_region 13 with (fail)
                  refine region_quiet (C := fun w' => Below W6.heap.size W6 w' ∧ (w'.cell? ⟨h + 1, 0, none⟩ = some (.slice (some ⟨g, 0, none⟩) n2 c2) ∧ w'.cell? ⟨h + 1, 1, none⟩ = some (.int .i64 (D2.p : Nat))) ∧ (w'.cell? ⟨ab, 1, none⟩ = some (.int .i64 e) ∧ w'.cell? ⟨ab, 2, none⟩ = some (.int .i64 s) ∧ w'.cell? ⟨ab, 6, none⟩ = some (.int .i64 k)) ∧ (w'.cell? ⟨w6.heap.size, 0, none⟩ = some (.int .i64 0) ∧ w'.cell? ⟨w6.heap.size, 1, none⟩ = some (.int .i64 0) ∧ w'.cell? ⟨w6.heap.size, 2, none⟩ = some (.int .i64 0)) ∧ (w'.cell? ⟨g, i2 * 7 + 4, none⟩ = some (.int .i64 x.k) ∧ w'.cell? ⟨g, i2 * 7 + 5, none⟩ = some (.int .i64 x.o) ∧ w'.cell? ⟨g, i2 * 7 + 6, none⟩ = some (.int .i64 (x.r : Nat)))) (by kernel_rfl) (by kernel_rfl) (HS.out _ G7.out.drew) ?_
                  go_big_quiet_want
                  apply Exists.intro
                  refine ⟨fun w0 hSw => ?_, ?_⟩
                  · (try dsimp only at hSw); go_simp; first | done | with_reducible rfl
                  go_big_quiet_on
                  try simp only [Act.put, List.setIfInBounds_toArray, List.set_cons_zero, List.set_cons_succ]
                  go_big_quiet_want
                  apply Exists.intro
                  refine ⟨fun w0 hSw => ?_, ?_⟩
                  · (try dsimp only at hSw); go_simp; first | done | with_reducible rfl
                  go_big_quiet_on
                  try simp only [Act.put, List.setIfInBounds_toArray, List.set_cons_zero, List.set_cons_succ]
                  go_big_quiet_want
                  apply Exists.intro
                  refine ⟨fun w0 hSw => ?_, ?_⟩
                  · (try dsimp only at hSw); go_simp; first | done | with_reducible rfl
                  go_big_quiet_on
                  try simp only [Act.put, List.setIfInBounds_toArray, List.set_cons_zero, List.set_cons_succ]
                  go_big_quiet_want
                  apply Exists.intro
                  refine ⟨fun w0 hSw => ?_, ?_⟩
                  · (try dsimp only at hSw); go_simp; first | done | with_reducible rfl
                  go_big_quiet_on
                  try simp only [Act.put, List.setIfInBounds_toArray, List.set_cons_zero, List.set_cons_succ]
                  go_big_quiet_want
                  apply Exists.intro
                  refine ⟨fun w0 hSw => ?_, ?_⟩
                  · (try dsimp only at hSw); go_simp; first | done | with_reducible rfl
                  go_big_quiet_on
                  try simp only [Act.put, List.setIfInBounds_toArray, List.set_cons_zero, List.set_cons_succ]
                  go_big_quiet_want
                  apply Exists.intro
                  refine ⟨fun w0 hSw => ?_, ?_⟩
                  · (try dsimp only at hSw); go_simp; first | done | with_reducible rfl
                  go_big_quiet_on
                  try simp only [Act.put, List.setIfInBounds_toArray, List.set_cons_zero, List.set_cons_succ]
                  go_big_quiet_want
                  apply Exists.intro
                  refine ⟨fun w0 hSw => ?_, ?_⟩
                  · (try dsimp only at hSw); go_simp; first | done | with_reducible rfl
                  go_big_quiet_on
                  try simp only [Act.put, List.setIfInBounds_toArray, List.set_cons_zero, List.set_cons_succ]
                  go_big_quiet_want
                  apply Exists.intro
                  refine ⟨fun w0 hSw => ?_, ?_⟩
                  · (try dsimp only at hSw); go_simp; first | done | with_reducible rfl
                  go_big_quiet_on
                  try simp only [Act.put, List.setIfInBounds_toArray, List.set_cons_zero, List.set_cons_succ]
                  go_big_quiet_want
                  apply Exists.intro
                  refine ⟨fun w0 hSw => ?_, ?_⟩
                  · (try dsimp only at hSw); go_simp; first | done | with_reducible rfl
                  go_big_quiet_on
                  try simp only [Act.put, List.setIfInBounds_toArray, List.set_cons_zero, List.set_cons_succ]
                  go_big_quiet_want
                  apply Exists.intro
                  refine ⟨fun w0 hSw => ?_, ?_⟩
                  · (try dsimp only at hSw); go_simp; first | done | with_reducible rfl
                  go_big_quiet_on
                  try simp only [Act.put, List.setIfInBounds_toArray, List.set_cons_zero, List.set_cons_succ]
                  go_big_quiet_want
                  apply Exists.intro
                  refine ⟨fun w0 hSw => ?_, ?_⟩
                  · (try dsimp only at hSw); go_simp; first | done | with_reducible rfl
                  go_big_quiet_on
                  try simp only [Act.put, List.setIfInBounds_toArray, List.set_cons_zero, List.set_cons_succ]
                  go_big_quiet_want
                  apply Exists.intro
                  refine ⟨fun w0 hSw => ?_, ?_⟩
                  · (try dsimp only at hSw); go_simp; first | done | with_reducible rfl
                  go_big_quiet_on
                  try simp only [Act.put, List.setIfInBounds_toArray, List.set_cons_zero, List.set_cons_succ]
                  go_big_quiet_want
                  apply Exists.intro
                  refine ⟨fun w0 hSw => ?_, ?_⟩
                  · (try dsimp only at hSw); go_simp; first | done | with_reducible rfl
                  go_big_quiet_on
                  try simp only [Act.put, List.setIfInBounds_toArray, List.set_cons_zero, List.set_cons_succ]
                  go_big_quiet_want
                  apply Exists.intro
                  refine ⟨fun w0 hSw => ?_, ?_⟩
                  · (try dsimp only at hSw); go_simp; first | done | with_reducible rfl
                  go_big_quiet_on
                  try simp only [Act.put, List.setIfInBounds_toArray, List.set_cons_zero, List.set_cons_succ]
                  go_big_quiet_want
                  apply Exists.intro
                  refine ⟨fun w0 hSw => ?_, ?_⟩
                  · (try dsimp only at hSw); go_simp; first | done | with_reducible rfl
                  go_big_quiet_on
                  try simp only [Act.put, List.setIfInBounds_toArray, List.set_cons_zero, List.set_cons_succ]
                  go_big_quiet_want
                  apply Exists.intro
                  refine ⟨fun w0 hSw => ?_, ?_⟩
                  · (try dsimp only at hSw); go_simp; first | done | with_reducible rfl
                  go_big_quiet_on
                  try simp only [Act.put, List.setIfInBounds_toArray, List.set_cons_zero, List.set_cons_succ]
                  go_big_quiet_want
                  apply Exists.intro
                  refine ⟨fun w0 hSw => ?_, ?_⟩
                  · (try dsimp only at hSw); go_simp; first | done | with_reducible rfl
                  go_big_quiet_on
                  try simp only [Act.put, List.setIfInBounds_toArray, List.set_cons_zero, List.set_cons_succ]
                  go_big_quiet_want
                  apply Exists.intro
                  refine ⟨fun w0 hSw => ?_, ?_⟩
                  · (try dsimp only at hSw); go_simp; first | done | with_reducible rfl
                  go_big_quiet_on
                  try simp only [Act.put, List.setIfInBounds_toArray, List.set_cons_zero, List.set_cons_succ]
                  go_big_quiet_want
                  apply Exists.intro
                  refine ⟨fun w0 hSw => ?_, ?_⟩
                  · (try dsimp only at hSw); go_simp; first | done | with_reducible rfl
                  go_big_quiet_on
                  try simp only [Act.put, List.setIfInBounds_toArray, List.set_cons_zero, List.set_cons_succ]
                  go_big_quiet_want
                  apply Exists.intro
                  refine ⟨fun w0 hSw => ?_, ?_⟩
                  · (try dsimp only at hSw); go_simp; first | done | with_reducible rfl
                  go_big_quiet_on
                  try simp only [Act.put, List.setIfInBounds_toArray, List.set_cons_zero, List.set_cons_succ]
                  go_big_quiet_want
                  apply Exists.intro
                  refine ⟨fun w0 hSw => ?_, ?_⟩
                  · (try dsimp only at hSw); go_simp; first | done | with_reducible rfl
                  go_big_quiet_on
                  try simp only [Act.put, List.setIfInBounds_toArray, List.set_cons_zero, List.set_cons_succ]
                  go_big_quiet_want
                  apply Exists.intro
                  refine ⟨fun w0 hSw => ?_, ?_⟩
                  · (try dsimp only at hSw); go_simp; first | done | with_reducible rfl
                  go_big_quiet_on
                  try simp only [Act.put, List.setIfInBounds_toArray, List.set_cons_zero, List.set_cons_succ]
                  go_big_quiet_want
                  apply Exists.intro
                  refine ⟨fun w0 hSw => ?_, ?_⟩
                  · (try dsimp only at hSw); go_simp; first | done | with_reducible rfl
                  go_big_quiet_on
                  try simp only [Act.put, List.setIfInBounds_toArray, List.set_cons_zero, List.set_cons_succ]
                  go_big_quiet_want
                  apply Exists.intro
                  refine ⟨fun w0 hSw => ?_, ?_⟩
                  · (try dsimp only at hSw); go_simp; first | done | with_reducible rfl
                  go_big_quiet_on
                  try simp only [Act.put, List.setIfInBounds_toArray, List.set_cons_zero, List.set_cons_succ]
                  go_big_quiet_want
                  apply Exists.intro
                  refine ⟨fun w0 hSw => ?_, ?_⟩
                  · (try dsimp only at hSw); go_simp; first | done | with_reducible rfl
                  go_big_quiet_on
                  try simp only [Act.put, List.setIfInBounds_toArray, List.set_cons_zero, List.set_cons_succ]
                  go_big_quiet_want
                  apply Exists.intro
                  refine ⟨fun w0 hSw => ?_, ?_⟩
                  · (try dsimp only at hSw); go_simp; first | done | with_reducible rfl
                  go_big_quiet_on
                  try simp only [Act.put, List.setIfInBounds_toArray, List.set_cons_zero, List.set_cons_succ]
                  go_big_quiet_want
                  apply Exists.intro
                  refine ⟨fun w0 hSw => ?_, ?_⟩
                  · (try dsimp only at hSw); go_simp; first | done | with_reducible rfl
                  go_big_quiet_on
                  try simp only [Act.put, List.setIfInBounds_toArray, List.set_cons_zero, List.set_cons_succ]
                  go_big_quiet_want
                  apply Exists.intro
                  refine ⟨fun w0 hSw => ?_, ?_⟩
                  · (try dsimp only at hSw); go_simp; first | done | with_reducible rfl
                  go_big_quiet_on
                  try simp only [Act.put, List.setIfInBounds_toArray, List.set_cons_zero, List.set_cons_succ]
                  go_big_quiet_want
                  apply Exists.intro
                  refine ⟨fun w0 hSw => ?_, ?_⟩
                  · (try dsimp only at hSw); go_simp; first | done | with_reducible rfl
                  go_big_quiet_on
                  try simp only [Act.put, List.setIfInBounds_toArray, List.set_cons_zero, List.set_cons_succ]
                  go_big_quiet_want
                  apply Exists.intro
                  refine ⟨fun w0 hSw => ?_, ?_⟩
                  · (try dsimp only at hSw); go_simp; exact (HBt.out _).mono fun e w'' h => ⟨h.1, h.2 ▸ hSw⟩
                  go_big_quiet_on
                  try simp only [Act.put, List.setIfInBounds_toArray, List.set_cons_zero, List.set_cons_succ]
                  go_big_quiet_want
                  apply Exists.intro
                  refine ⟨fun w0 hSw => ?_, ?_⟩
                  · (try dsimp only at hSw); go_simp; first | done | with_reducible rfl
                  go_big_quiet_on
                  try simp only [Act.put, List.setIfInBounds_toArray, List.set_cons_zero, List.set_cons_succ]
                  go_big_quiet_want
                  apply Exists.intro
                  refine ⟨fun w0 hSw => ?_, ?_⟩
                  · (try dsimp only at hSw); go_simp; first | done | with_reducible rfl
                  go_big_quiet_on
                  try simp only [Act.put, List.setIfInBounds_toArray, List.set_cons_zero, List.set_cons_succ]
                  refine wpQuiet_nil ?_
                  intro w8 hSw
                  have G8 := Lib.hid hSw.1
                  clear hSw d0 d1
                  go_upto_region 14 with (fail)
                  refine region_quiet (C := fun w' => Below W6.heap.size W6 w' ∧ (w'.cell? ⟨h + 1, 0, none⟩ = some (.slice (some ⟨g, 0, none⟩) n2 c2) ∧ w'.cell? ⟨h + 1, 1, none⟩ = some (.int .i64 (D2.p : Nat))) ∧ (w'.cell? ⟨ab, 1, none⟩ = some (.int .i64 e) ∧ w'.cell? ⟨ab, 2, none⟩ = some (.int .i64 s) ∧ w'.cell? ⟨ab, 6, none⟩ = some (.int .i64 k)) ∧ (w'.cell? ⟨w6.heap.size, 0, none⟩ = some (.int .i64 0) ∧ w'.cell? ⟨w6.heap.size, 1, none⟩ = some (.int .i64 0) ∧ w'.cell? ⟨w6.heap.size, 2, none⟩ = some (.int .i64 0)) ∧ (w'.cell? ⟨g, i2 * 7 + 4, none⟩ = some (.int .i64 x.k) ∧ w'.cell? ⟨g, i2 * 7 + 5, none⟩ = some (.int .i64 x.o) ∧ w'.cell? ⟨g, i2 * 7 + 6, none⟩ = some (.int .i64 (x.r : Nat)))) (by kernel_rfl) (by kernel_rfl) (HS.out _ G8.out.drew) ?_
                  go_big_quiet_want
                  apply Exists.intro
                  refine ⟨fun w0 hSw => ?_, ?_⟩
                  · (try dsimp only at hSw); go_simp; first | done | with_reducible rfl
                  go_big_quiet_on
                  try simp only [Act.put, List.setIfInBounds_toArray, List.set_cons_zero, List.set_cons_succ]
                  go_big_quiet_want
                  apply Exists.intro
                  refine ⟨fun w0 hSw => ?_, ?_⟩
                  · (try dsimp only at hSw); go_simp; first | done | with_reducible rfl
                  go_big_quiet_on
                  try simp only [Act.put, List.setIfInBounds_toArray, List.set_cons_zero, List.set_cons_succ]
                  go_big_quiet_want
                  apply Exists.intro
                  refine ⟨fun w0 hSw => ?_, ?_⟩
                  · (try dsimp only at hSw); go_simp; first | done | with_reducible rfl
                  go_big_quiet_on
                  try simp only [Act.put, List.setIfInBounds_toArray, List.set_cons_zero, List.set_cons_succ]
                  go_big_quiet_want
                  apply Exists.intro
                  refine ⟨fun w0 hSw => ?_, ?_⟩
                  · (try dsimp only at hSw); go_simp; first | done | with_reducible rfl
                  go_big_quiet_on
                  try simp only [Act.put, List.setIfInBounds_toArray, List.set_cons_zero, List.set_cons_succ]
                  go_big_quiet_want
                  apply Exists.intro
                  refine ⟨fun w0 hSw => ?_, ?_⟩
                  · (try dsimp only at hSw); go_simp; first | done | with_reducible rfl
                  go_big_quiet_on
                  try simp only [Act.put, List.setIfInBounds_toArray, List.set_cons_zero, List.set_cons_succ]
                  go_big_quiet_want
                  apply Exists.intro
                  refine ⟨fun w0 hSw => ?_, ?_⟩
                  · (try dsimp only at hSw); go_simp; first | done | with_reducible rfl
                  go_big_quiet_on
                  try simp only [Act.put, List.setIfInBounds_toArray, List.set_cons_zero, List.set_cons_succ]
                  go_big_quiet_skip
                  go_big_quiet_skip
                  go_big_quiet_skip
                  go_big_quiet_skip
                  go_big_quiet_skip
                  go_big_quiet_skip
                  go_big_quiet_skip
                  go_big_quiet_skip
                  go_big_quiet_skip
                  go_big_quiet_skip
                  go_big_quiet_skip
                  go_big_quiet_want
                  apply Exists.intro
                  refine ⟨fun w0 hSw => ?_, ?_⟩
                  · (try dsimp only at hSw); go_simp; first | done | with_reducible rfl
                  go_big_quiet_on
                  try simp only [Act.put, List.setIfInBounds_toArray, List.set_cons_zero, List.set_cons_succ]
                  go_big_quiet_want
                  apply Exists.intro
                  refine ⟨fun w0 hSw => ?_, ?_⟩
                  · (try dsimp only at hSw); go_simp; first | done | with_reducible rfl
                  go_big_quiet_on
                  try simp only [Act.put, List.setIfInBounds_toArray, List.set_cons_zero, List.set_cons_succ]
                  go_big_quiet_want
                  apply Exists.intro
                  refine ⟨fun w0 hSw => ?_, ?_⟩
                  · (try dsimp only at hSw); go_simp; first | done | with_reducible rfl
                  go_big_quiet_on
                  try simp only [Act.put, List.setIfInBounds_toArray, List.set_cons_zero, List.set_cons_succ]
                  go_big_quiet_want
                  apply Exists.intro
                  refine ⟨fun w0 hSw => ?_, ?_⟩
                  · (try dsimp only at hSw); go_simp; first | done | with_reducible rfl
                  go_big_quiet_on
                  try simp only [Act.put, List.setIfInBounds_toArray, List.set_cons_zero, List.set_cons_succ]
                  go_big_quiet_want
                  apply Exists.intro
                  refine ⟨fun w0 hSw => ?_, ?_⟩
                  · (try dsimp only at hSw); go_simp; first | done | with_reducible rfl
                  go_big_quiet_on
                  try simp only [Act.put, List.setIfInBounds_toArray, List.set_cons_zero, List.set_cons_succ]
                  go_big_quiet_want
                  apply Exists.intro
                  refine ⟨fun w0 hSw => ?_, ?_⟩
                  · (try dsimp only at hSw); go_simp; first | done | with_reducible rfl
                  go_big_quiet_on
                  try simp only [Act.put, List.setIfInBounds_toArray, List.set_cons_zero, List.set_cons_succ]
                  go_big_quiet_want
                  apply Exists.intro
                  refine ⟨fun w0 hSw => ?_, ?_⟩
                  · (try dsimp only at hSw); go_simp; first | done | with_reducible rfl
                  go_big_quiet_on
                  try simp only [Act.put, List.setIfInBounds_toArray, List.set_cons_zero, List.set_cons_succ]
                  go_big_quiet_want
                  apply Exists.intro
                  refine ⟨fun w0 hSw => ?_, ?_⟩
                  · (try dsimp only at hSw); go_simp; first | done | with_reducible rfl
                  go_big_quiet_on
                  try simp only [Act.put, List.setIfInBounds_toArray, List.set_cons_zero, List.set_cons_succ]
                  go_big_quiet_want
                  apply Exists.intro
                  refine ⟨fun w0 hSw => ?_, ?_⟩
                  · (try dsimp only at hSw); go_simp; first | done | with_reducible rfl
                  go_big_quiet_on
                  try simp only [Act.put, List.setIfInBounds_toArray, List.set_cons_zero, List.set_cons_succ]
                  go_big_quiet_want
                  apply Exists.intro
                  refine ⟨fun w0 hSw => ?_, ?_⟩
                  · (try dsimp only at hSw); go_simp; first | done | with_reducible rfl
                  go_big_quiet_on
                  try simp only [Act.put, List.setIfInBounds_toArray, List.set_cons_zero, List.set_cons_succ]
                  go_big_quiet_want
                  apply Exists.intro
                  refine ⟨fun w0 hSw => ?_, ?_⟩
                  · (try dsimp only at hSw); go_simp; first | done | with_reducible rfl
                  go_big_quiet_on
                  try simp only [Act.put, List.setIfInBounds_toArray, List.set_cons_zero, List.set_cons_succ]
                  refine wpQuiet_nil ?_
                  intro w9 hSw
                  have G9 := Lib.hid hSw.1
                  clear hSw
                  have HPn : Hid (Pp w h (i + 1) w9) := Lib.hid (HM.out.later (below_call (Nat.le_refl _) GW.out G9.out)).pp
                  clear HS
                  go_wp2
                  go_roundw
                  case rel => exact ⟨i + 1, by omega, by omega, by go_num, HPn⟩
                  case measure => simp [intOf]; omega
              | true =>
                as_aux_lemma =>
                  have HG : Hid (Calls Try.prog 13 #[.pointer (some ⟨h, 0, none⟩), .int .i64 e, .int .i64 s, .int .i64 x.k, .int .i64 (m : Nat)] wc fun y w6 => y = .returned (.tuple #[.agg #[.int .i64 x.k, .int .i64 x.o, .int .i64 (x.r : Nat)], .bool true]) ∧ Below wc.heap.size wc w6) := Lib.hid (by
                    have h1 := has_any HM.out.st.fo e s x.k (m : Nat)
                    rw [show hasB D2.fo e s x.k (m : Nat) = true from by rw [hasB, hf]; show (decide (x.nd.k = x.k) && mayB x.nd.r (m : Nat)) = true; rw [show mayB x.nd.r (m : Nat) = true from hb, decide_eq_true (show x.nd.k = x.k from rfl)]; rfl] at h1
                    rw [if_pos rfl, hf] at h1
                    exact h1)
                  have HAt : Hid (∀ w', Below wc.heap.size wc w' → Calls Try.prog 14 #[.agg #[.slice (some ⟨g, 0, none⟩) n2 c2, .int .i64 (D2.p : Nat)], .int .i64 e, .int .i64 s] w' fun y w5 => y = .returned (.int .i64 (i2 : Nat)) ∧ Below w'.heap.size w' w5) := Lib.hid fun w' h' => by
                    have h := (HM.out.later h').st
                    have h1 := rat_any h.doc sz_lt (Nat.le_trans (h.inv.few (Nat.le_trans HM.out.few (Nat.le_trans Hi61.out (by omega))) h.doc) (by omega)) (D2.p : Nat) e s
                    rwa [hi2] at h1
                  have HQ : Hid (∀ w6 W6, Below wc.heap.size wc w6 → (w6.alloc (.cells #[.int .i64 x.k, .int .i64 x.o, .int .i64 (x.r : Nat)] 26 (0, 0))) = W6 → ∀ w', Below W6.heap.size W6 w' → Below W6.heap.size W6 w' ∧ (w'.cell? ⟨h + 1, 0, none⟩ = some (.slice (some ⟨g, 0, none⟩) n2 c2) ∧ w'.cell? ⟨h + 1, 1, none⟩ = some (.int .i64 (D2.p : Nat))) ∧ (w'.cell? ⟨ab, 1, none⟩ = some (.int .i64 e) ∧ w'.cell? ⟨ab, 2, none⟩ = some (.int .i64 s) ∧ w'.cell? ⟨ab, 6, none⟩ = some (.int .i64 k)) ∧ (w'.cell? ⟨w6.heap.size, 0, none⟩ = some (.int .i64 x.k) ∧ w'.cell? ⟨w6.heap.size, 1, none⟩ = some (.int .i64 x.o) ∧ w'.cell? ⟨w6.heap.size, 2, none⟩ = some (.int .i64 (x.r : Nat))) ∧ (w'.cell? ⟨g, i2 * 7 + 4, none⟩ = some (.int .i64 x.k) ∧ w'.cell? ⟨g, i2 * 7 + 5, none⟩ = some (.int .i64 x.o) ∧ w'.cell? ⟨g, i2 * 7 + 6, none⟩ = some (.int .i64 (x.r : Nat)))) := Lib.hid fun w6 W6 h6 hW w' h' => by
                    subst hW
                    have hb := below_call (Nat.le_refl _) (below_new (Nat.le_refl _) h6 _) h'
                    have M := HM.out.later hb
                    obtain ⟨a0, a1, a2, a3, a4, a5, a6, a7, a8⟩ := M.acts
                    exact ⟨h', M.rb, ⟨a1, a2, a6⟩, cap_box h', HX.out w' hb⟩
                  have HBt : Hid (∀ w', Calls Try.prog 15 #[.int .i64 (x.r : Nat), .int .i64 (m : Nat)] w' fun y w'' => y = .returned (.bool true) ∧ w' = w'') := Lib.hid fun w' => by
                    have h1 := rbits_any x.r m Hx16.out (by omega) w'
                    rwa [show mayB x.r (m : Nat) = true from hb] at h1
                  clear hf hi2 hx hb
                  obtain ⟨⟨p0, p1⟩, a0, a1, a2, a3, a4, a5, a6, a7, a8⟩ := And.intro HM.out.rb HM.out.acts
                  go_wp2_with fail
                  refine HG.out.mono ?_
                  rintro y w6 ⟨rfl, h6⟩
                  have G6 := Lib.hid h6
                  obtain ⟨l1, l2⟩ := Hl2.out w6 h6
                  obtain ⟨⟨p0, p1⟩, b0, b1, b2, b3, b4, b5, b6, b7, b8⟩ := And.intro (HM.out.later h6).rb (HM.out.later h6).acts
                  clear h6 HG
                  go_upto_region 12 with (fail)
                  obtain ⟨W6, hW6⟩ : ∃ W6, (w6.alloc (.cells #[.int .i64 x.k, .int .i64 x.o, .int .i64 (x.r : Nat)] 26 (0, 0))) = W6 := ⟨_, rfl⟩
                  have HS := Lib.hid (HQ.out w6 W6 G6.out hW6)
                  have GW := Lib.hid (show Below wc.heap.size wc W6 by rw [← hW6]; exact below_new (Nat.le_refl _) G6.out _)
                  rw [hW6]
                  clear hW6 HQ l1 l2 p0 p1 a0 a1 a2 a3 a4 a5 a6 a7 a8 b0 b1 b2 b3 b4 b5 b6 b7 b8
                  refine region_quiet (C := fun w' => Below W6.heap.size W6 w' ∧ (w'.cell? ⟨h + 1, 0, none⟩ = some (.slice (some ⟨g, 0, none⟩) n2 c2) ∧ w'.cell? ⟨h + 1, 1, none⟩ = some (.int .i64 (D2.p : Nat))) ∧ (w'.cell? ⟨ab, 1, none⟩ = some (.int .i64 e) ∧ w'.cell? ⟨ab, 2, none⟩ = some (.int .i64 s) ∧ w'.cell? ⟨ab, 6, none⟩ = some (.int .i64 k)) ∧ (w'.cell? ⟨w6.heap.size, 0, none⟩ = some (.int .i64 x.k) ∧ w'.cell? ⟨w6.heap.size, 1, none⟩ = some (.int .i64 x.o) ∧ w'.cell? ⟨w6.heap.size, 2, none⟩ = some (.int .i64 (x.r : Nat))) ∧ (w'.cell? ⟨g, i2 * 7 + 4, none⟩ = some (.int .i64 x.k) ∧ w'.cell? ⟨g, i2 * 7 + 5, none⟩ = some (.int .i64 x.o) ∧ w'.cell? ⟨g, i2 * 7 + 6, none⟩ = some (.int .i64 (x.r : Nat)))) (by kernel_rfl) (by kernel_rfl) (HS.out _ (Below.refl _ _).drew) ?_
                  go_big_quiet_want
                  apply Exists.intro
                  refine ⟨fun w0 hSw => ?_, ?_⟩
                  · (try dsimp only at hSw); go_simp; first | done | with_reducible rfl
                  go_big_quiet_on
                  try simp only [Act.put, List.setIfInBounds_toArray, List.set_cons_zero, List.set_cons_succ]
                  go_big_quiet_want
                  apply Exists.intro
                  refine ⟨fun w0 hSw => ?_, ?_⟩
                  · (try dsimp only at hSw); go_simp; first | done | with_reducible rfl
                  go_big_quiet_on
                  try simp only [Act.put, List.setIfInBounds_toArray, List.set_cons_zero, List.set_cons_succ]
                  go_big_quiet_want
                  apply Exists.intro
                  refine ⟨fun w0 hSw => ?_, ?_⟩
                  · (try dsimp only at hSw); go_simp; first | done | with_reducible rfl
                  go_big_quiet_on
                  try simp only [Act.put, List.setIfInBounds_toArray, List.set_cons_zero, List.set_cons_succ]
                  go_big_quiet_want
                  apply Exists.intro
                  refine ⟨fun w0 hSw => ?_, ?_⟩
                  · (try dsimp only at hSw); go_simp; first | done | with_reducible rfl
                  go_big_quiet_on
                  try simp only [Act.put, List.setIfInBounds_toArray, List.set_cons_zero, List.set_cons_succ]
                  go_big_quiet_want
                  apply Exists.intro
                  refine ⟨fun w0 hSw => ?_, ?_⟩
                  · (try dsimp only at hSw); go_simp; first | done | with_reducible rfl
                  go_big_quiet_on
                  try simp only [Act.put, List.setIfInBounds_toArray, List.set_cons_zero, List.set_cons_succ]
                  go_big_quiet_want
                  apply Exists.intro
                  refine ⟨fun w0 hSw => ?_, ?_⟩
                  · (try dsimp only at hSw); go_simp; first | done | with_reducible rfl
                  go_big_quiet_on
                  try simp only [Act.put, List.setIfInBounds_toArray, List.set_cons_zero, List.set_cons_succ]
                  go_big_quiet_want
                  apply Exists.intro
                  refine ⟨fun w0 hSw => ?_, ?_⟩
                  · (try dsimp only at hSw); go_simp; first | done | with_reducible rfl
                  go_big_quiet_on
                  try simp only [Act.put, List.setIfInBounds_toArray, List.set_cons_zero, List.set_cons_succ]
                  go_big_quiet_want
                  apply Exists.intro
                  refine ⟨fun w0 hSw => ?_, ?_⟩
                  · (try dsimp only at hSw); go_simp; exact (HAt.out _ (below_call (Nat.le_refl _) GW.out hSw.1)).mono fun e w'' h => ⟨h.1, HS.out _ (below_call (Nat.le_refl _) hSw.1 h.2)⟩
                  go_big_quiet_on
                  try simp only [Act.put, List.setIfInBounds_toArray, List.set_cons_zero, List.set_cons_succ]
                  go_big_quiet_want
                  apply Exists.intro
                  refine ⟨fun w0 hSw => ?_, ?_⟩
                  · (try dsimp only at hSw); go_simp; first | done | with_reducible rfl
                  go_big_quiet_on
                  try simp only [Act.put, List.setIfInBounds_toArray, List.set_cons_zero, List.set_cons_succ]
                  refine wpQuiet_nil ?_
                  intro w7 hSw
                  obtain ⟨g7, ⟨d0, d1⟩, -⟩ := hSw
                  have G7 := Lib.hid g7
                  clear g7
                  go_upto_region 13 with (fail)
                  refine region_quiet (C := fun w' => Below W6.heap.size W6 w' ∧ (w'.cell? ⟨h + 1, 0, none⟩ = some (.slice (some ⟨g, 0, none⟩) n2 c2) ∧ w'.cell? ⟨h + 1, 1, none⟩ = some (.int .i64 (D2.p : Nat))) ∧ (w'.cell? ⟨ab, 1, none⟩ = some (.int .i64 e) ∧ w'.cell? ⟨ab, 2, none⟩ = some (.int .i64 s) ∧ w'.cell? ⟨ab, 6, none⟩ = some (.int .i64 k)) ∧ (w'.cell? ⟨w6.heap.size, 0, none⟩ = some (.int .i64 x.k) ∧ w'.cell? ⟨w6.heap.size, 1, none⟩ = some (.int .i64 x.o) ∧ w'.cell? ⟨w6.heap.size, 2, none⟩ = some (.int .i64 (x.r : Nat))) ∧ (w'.cell? ⟨g, i2 * 7 + 4, none⟩ = some (.int .i64 x.k) ∧ w'.cell? ⟨g, i2 * 7 + 5, none⟩ = some (.int .i64 x.o) ∧ w'.cell? ⟨g, i2 * 7 + 6, none⟩ = some (.int .i64 (x.r : Nat)))) (by kernel_rfl) (by kernel_rfl) (HS.out _ G7.out.drew) ?_
                  go_big_quiet_want
                  apply Exists.intro
                  refine ⟨fun w0 hSw => ?_, ?_⟩
                  · (try dsimp only at hSw); go_simp; first | done | with_reducible rfl
                  go_big_quiet_on
                  try simp only [Act.put, List.setIfInBounds_toArray, List.set_cons_zero, List.set_cons_succ]
                  go_big_quiet_want
                  apply Exists.intro
                  refine ⟨fun w0 hSw => ?_, ?_⟩
                  · (try dsimp only at hSw); go_simp; first | done | with_reducible rfl
                  go_big_quiet_on
                  try simp only [Act.put, List.setIfInBounds_toArray, List.set_cons_zero, List.set_cons_succ]
                  go_big_quiet_want
                  apply Exists.intro
                  refine ⟨fun w0 hSw => ?_, ?_⟩
                  · (try dsimp only at hSw); go_simp; first | done | with_reducible rfl
                  go_big_quiet_on
                  try simp only [Act.put, List.setIfInBounds_toArray, List.set_cons_zero, List.set_cons_succ]
                  go_big_quiet_want
                  apply Exists.intro
                  refine ⟨fun w0 hSw => ?_, ?_⟩
                  · (try dsimp only at hSw); go_simp; first | done | with_reducible rfl
                  go_big_quiet_on
                  try simp only [Act.put, List.setIfInBounds_toArray, List.set_cons_zero, List.set_cons_succ]
                  go_big_quiet_want
                  apply Exists.intro
                  refine ⟨fun w0 hSw => ?_, ?_⟩
                  · (try dsimp only at hSw); go_simp; first | done | with_reducible rfl
                  go_big_quiet_on
                  try simp only [Act.put, List.setIfInBounds_toArray, List.set_cons_zero, List.set_cons_succ]
                  go_big_quiet_want
                  apply Exists.intro
                  refine ⟨fun w0 hSw => ?_, ?_⟩
                  · (try dsimp only at hSw); go_simp; first | done | with_reducible rfl
                  go_big_quiet_on
                  try simp only [Act.put, List.setIfInBounds_toArray, List.set_cons_zero, List.set_cons_succ]
                  go_big_quiet_want
                  apply Exists.intro
                  refine ⟨fun w0 hSw => ?_, ?_⟩
                  · (try dsimp only at hSw); go_simp; first | done | with_reducible rfl
                  go_big_quiet_on
                  try simp only [Act.put, List.setIfInBounds_toArray, List.set_cons_zero, List.set_cons_succ]
                  go_big_quiet_want
                  apply Exists.intro
                  refine ⟨fun w0 hSw => ?_, ?_⟩
                  · (try dsimp only at hSw); go_simp; first | done | with_reducible rfl
                  go_big_quiet_on
                  try simp only [Act.put, List.setIfInBounds_toArray, List.set_cons_zero, List.set_cons_succ]
                  go_big_quiet_want
                  apply Exists.intro
                  refine ⟨fun w0 hSw => ?_, ?_⟩
                  · (try dsimp only at hSw); go_simp; first | done | with_reducible rfl
                  go_big_quiet_on
                  try simp only [Act.put, List.setIfInBounds_toArray, List.set_cons_zero, List.set_cons_succ]
                  go_big_quiet_want
                  apply Exists.intro
                  refine ⟨fun w0 hSw => ?_, ?_⟩
                  · (try dsimp only at hSw); go_simp; first | done | with_reducible rfl
                  go_big_quiet_on
                  try simp only [Act.put, List.setIfInBounds_toArray, List.set_cons_zero, List.set_cons_succ]
                  go_big_quiet_want
                  apply Exists.intro
                  refine ⟨fun w0 hSw => ?_, ?_⟩
                  · (try dsimp only at hSw); go_simp; first | done | with_reducible rfl
                  go_big_quiet_on
                  try simp only [Act.put, List.setIfInBounds_toArray, List.set_cons_zero, List.set_cons_succ]
                  go_big_quiet_want
                  apply Exists.intro
                  refine ⟨fun w0 hSw => ?_, ?_⟩
                  · (try dsimp only at hSw); go_simp; first | done | with_reducible rfl
                  go_big_quiet_on
                  try simp only [Act.put, List.setIfInBounds_toArray, List.set_cons_zero, List.set_cons_succ]
                  go_big_quiet_want
                  apply Exists.intro
                  refine ⟨fun w0 hSw => ?_, ?_⟩
                  · (try dsimp only at hSw); go_simp; first | done | with_reducible rfl
                  go_big_quiet_on
                  try simp only [Act.put, List.setIfInBounds_toArray, List.set_cons_zero, List.set_cons_succ]
                  go_big_quiet_want
                  apply Exists.intro
                  refine ⟨fun w0 hSw => ?_, ?_⟩
                  · (try dsimp only at hSw); go_simp; first | done | with_reducible rfl
                  go_big_quiet_on
                  try simp only [Act.put, List.setIfInBounds_toArray, List.set_cons_zero, List.set_cons_succ]
                  go_big_quiet_want
                  apply Exists.intro
                  refine ⟨fun w0 hSw => ?_, ?_⟩
                  · (try dsimp only at hSw); go_simp; first | done | with_reducible rfl
                  go_big_quiet_on
                  try simp only [Act.put, List.setIfInBounds_toArray, List.set_cons_zero, List.set_cons_succ]
                  go_big_quiet_want
                  apply Exists.intro
                  refine ⟨fun w0 hSw => ?_, ?_⟩
                  · (try dsimp only at hSw); go_simp; first | done | with_reducible rfl
                  go_big_quiet_on
                  try simp only [Act.put, List.setIfInBounds_toArray, List.set_cons_zero, List.set_cons_succ]
                  go_big_quiet_want
                  apply Exists.intro
                  refine ⟨fun w0 hSw => ?_, ?_⟩
                  · (try dsimp only at hSw); go_simp; first | done | with_reducible rfl
                  go_big_quiet_on
                  try simp only [Act.put, List.setIfInBounds_toArray, List.set_cons_zero, List.set_cons_succ]
                  go_big_quiet_want
                  apply Exists.intro
                  refine ⟨fun w0 hSw => ?_, ?_⟩
                  · (try dsimp only at hSw); go_simp; first | done | with_reducible rfl
                  go_big_quiet_on
                  try simp only [Act.put, List.setIfInBounds_toArray, List.set_cons_zero, List.set_cons_succ]
                  go_big_quiet_want
                  apply Exists.intro
                  refine ⟨fun w0 hSw => ?_, ?_⟩
                  · (try dsimp only at hSw); go_simp; first | done | with_reducible rfl
                  go_big_quiet_on
                  try simp only [Act.put, List.setIfInBounds_toArray, List.set_cons_zero, List.set_cons_succ]
                  go_big_quiet_want
                  apply Exists.intro
                  refine ⟨fun w0 hSw => ?_, ?_⟩
                  · (try dsimp only at hSw); go_simp; first | done | with_reducible rfl
                  go_big_quiet_on
                  try simp only [Act.put, List.setIfInBounds_toArray, List.set_cons_zero, List.set_cons_succ]
                  go_big_quiet_want
                  apply Exists.intro
                  refine ⟨fun w0 hSw => ?_, ?_⟩
                  · (try dsimp only at hSw); go_simp; first | done | with_reducible rfl
                  go_big_quiet_on
                  try simp only [Act.put, List.setIfInBounds_toArray, List.set_cons_zero, List.set_cons_succ]
                  go_big_quiet_want
                  apply Exists.intro
                  refine ⟨fun w0 hSw => ?_, ?_⟩
                  · (try dsimp only at hSw); go_simp; first | done | with_reducible rfl
                  go_big_quiet_on
                  try simp only [Act.put, List.setIfInBounds_toArray, List.set_cons_zero, List.set_cons_succ]
                  go_big_quiet_want
                  apply Exists.intro
                  refine ⟨fun w0 hSw => ?_, ?_⟩
                  · (try dsimp only at hSw); go_simp; first | done | with_reducible rfl
                  go_big_quiet_on
                  try simp only [Act.put, List.setIfInBounds_toArray, List.set_cons_zero, List.set_cons_succ]
                  go_big_quiet_want
                  apply Exists.intro
                  refine ⟨fun w0 hSw => ?_, ?_⟩
                  · (try dsimp only at hSw); go_simp; first | done | with_reducible rfl
                  go_big_quiet_on
                  try simp only [Act.put, List.setIfInBounds_toArray, List.set_cons_zero, List.set_cons_succ]
                  go_big_quiet_want
                  apply Exists.intro
                  refine ⟨fun w0 hSw => ?_, ?_⟩
                  · (try dsimp only at hSw); go_simp; first | done | with_reducible rfl
                  go_big_quiet_on
                  try simp only [Act.put, List.setIfInBounds_toArray, List.set_cons_zero, List.set_cons_succ]
                  go_big_quiet_want
                  apply Exists.intro
                  refine ⟨fun w0 hSw => ?_, ?_⟩
                  · (try dsimp only at hSw); go_simp; first | done | with_reducible rfl
                  go_big_quiet_on
                  try simp only [Act.put, List.setIfInBounds_toArray, List.set_cons_zero, List.set_cons_succ]
                  go_big_quiet_want
                  apply Exists.intro
                  refine ⟨fun w0 hSw => ?_, ?_⟩
                  · (try dsimp only at hSw); go_simp; first | done | with_reducible rfl
                  go_big_quiet_on
                  try simp only [Act.put, List.setIfInBounds_toArray, List.set_cons_zero, List.set_cons_succ]
                  go_big_quiet_want
                  apply Exists.intro
                  refine ⟨fun w0 hSw => ?_, ?_⟩
                  · (try dsimp only at hSw); go_simp; first | done | with_reducible rfl
                  go_big_quiet_on
                  try simp only [Act.put, List.setIfInBounds_toArray, List.set_cons_zero, List.set_cons_succ]
                  go_big_quiet_want
                  apply Exists.intro
                  refine ⟨fun w0 hSw => ?_, ?_⟩
                  · (try dsimp only at hSw); go_simp; first | done | with_reducible rfl
                  go_big_quiet_on
                  try simp only [Act.put, List.setIfInBounds_toArray, List.set_cons_zero, List.set_cons_succ]
                  go_big_quiet_want
                  apply Exists.intro
                  refine ⟨fun w0 hSw => ?_, ?_⟩
                  · (try dsimp only at hSw); go_simp; exact (HBt.out _).mono fun e w'' h => ⟨h.1, h.2 ▸ hSw⟩
                  go_big_quiet_on
                  try simp only [Act.put, List.setIfInBounds_toArray, List.set_cons_zero, List.set_cons_succ]
                  go_big_quiet_want
                  apply Exists.intro
                  refine ⟨fun w0 hSw => ?_, ?_⟩
                  · (try dsimp only at hSw); go_simp; first | done | with_reducible rfl
                  go_big_quiet_on
                  try simp only [Act.put, List.setIfInBounds_toArray, List.set_cons_zero, List.set_cons_succ]
                  go_big_quiet_want
                  apply Exists.intro
                  refine ⟨fun w0 hSw => ?_, ?_⟩
                  · (try dsimp only at hSw); go_simp; first | done | with_reducible rfl
                  go_big_quiet_on
                  try simp only [Act.put, List.setIfInBounds_toArray, List.set_cons_zero, List.set_cons_succ]
                  refine wpQuiet_nil ?_
                  intro w8 hSw
                  have G8 := Lib.hid hSw.1
                  clear hSw d0 d1
                  go_upto_region 14 with (fail)
                  refine region_quiet (C := fun w' => Below W6.heap.size W6 w' ∧ (w'.cell? ⟨h + 1, 0, none⟩ = some (.slice (some ⟨g, 0, none⟩) n2 c2) ∧ w'.cell? ⟨h + 1, 1, none⟩ = some (.int .i64 (D2.p : Nat))) ∧ (w'.cell? ⟨ab, 1, none⟩ = some (.int .i64 e) ∧ w'.cell? ⟨ab, 2, none⟩ = some (.int .i64 s) ∧ w'.cell? ⟨ab, 6, none⟩ = some (.int .i64 k)) ∧ (w'.cell? ⟨w6.heap.size, 0, none⟩ = some (.int .i64 x.k) ∧ w'.cell? ⟨w6.heap.size, 1, none⟩ = some (.int .i64 x.o) ∧ w'.cell? ⟨w6.heap.size, 2, none⟩ = some (.int .i64 (x.r : Nat))) ∧ (w'.cell? ⟨g, i2 * 7 + 4, none⟩ = some (.int .i64 x.k) ∧ w'.cell? ⟨g, i2 * 7 + 5, none⟩ = some (.int .i64 x.o) ∧ w'.cell? ⟨g, i2 * 7 + 6, none⟩ = some (.int .i64 (x.r : Nat)))) (by kernel_rfl) (by kernel_rfl) (HS.out _ G8.out.drew) ?_
                  go_big_quiet_want
                  apply Exists.intro
                  refine ⟨fun w0 hSw => ?_, ?_⟩
                  · (try dsimp only at hSw); go_simp; first | done | with_reducible rfl
                  go_big_quiet_on
                  try simp only [Act.put, List.setIfInBounds_toArray, List.set_cons_zero, List.set_cons_succ]
                  go_big_quiet_want
                  apply Exists.intro
                  refine ⟨fun w0 hSw => ?_, ?_⟩
                  · (try dsimp only at hSw); go_simp; first | done | with_reducible rfl
                  go_big_quiet_on
                  try simp only [Act.put, List.setIfInBounds_toArray, List.set_cons_zero, List.set_cons_succ]
                  go_big_quiet_want
                  apply Exists.intro
                  refine ⟨fun w0 hSw => ?_, ?_⟩
                  · (try dsimp only at hSw); go_simp; first | done | with_reducible rfl
                  go_big_quiet_on
                  try simp only [Act.put, List.setIfInBounds_toArray, List.set_cons_zero, List.set_cons_succ]
                  go_big_quiet_want
                  apply Exists.intro
                  refine ⟨fun w0 hSw => ?_, ?_⟩
                  · (try dsimp only at hSw); go_simp; first | done | with_reducible rfl
                  go_big_quiet_on
                  try simp only [Act.put, List.setIfInBounds_toArray, List.set_cons_zero, List.set_cons_succ]
                  go_big_quiet_want
                  apply Exists.intro
                  refine ⟨fun w0 hSw => ?_, ?_⟩
                  · (try dsimp only at hSw); go_simp; first | done | with_reducible rfl
                  go_big_quiet_on
                  try simp only [Act.put, List.setIfInBounds_toArray, List.set_cons_zero, List.set_cons_succ]
                  go_big_quiet_want
                  apply Exists.intro
                  refine ⟨fun w0 hSw => ?_, ?_⟩
                  · (try dsimp only at hSw); go_simp; first | done | with_reducible rfl
                  go_big_quiet_on
                  try simp only [Act.put, List.setIfInBounds_toArray, List.set_cons_zero, List.set_cons_succ]
                  go_big_quiet_want
                  apply Exists.intro
                  refine ⟨fun w0 hSw => ?_, ?_⟩
                  · (try dsimp only at hSw); go_simp; first | done | with_reducible rfl
                  go_big_quiet_on
                  try simp only [Act.put, List.setIfInBounds_toArray, List.set_cons_zero, List.set_cons_succ]
                  go_big_quiet_want
                  apply Exists.intro
                  refine ⟨fun w0 hSw => ?_, ?_⟩
                  · (try dsimp only at hSw); go_simp; first | done | with_reducible rfl
                  go_big_quiet_on
                  try simp only [Act.put, List.setIfInBounds_toArray, List.set_cons_zero, List.set_cons_succ]
                  go_big_quiet_want
                  apply Exists.intro
                  refine ⟨fun w0 hSw => ?_, ?_⟩
                  · (try dsimp only at hSw); go_simp; first | done | with_reducible rfl
                  go_big_quiet_on
                  try simp only [Act.put, List.setIfInBounds_toArray, List.set_cons_zero, List.set_cons_succ]
                  go_big_quiet_want
                  apply Exists.intro
                  refine ⟨fun w0 hSw => ?_, ?_⟩
                  · (try dsimp only at hSw); go_simp; first | done | with_reducible rfl
                  go_big_quiet_on
                  try simp only [Act.put, List.setIfInBounds_toArray, List.set_cons_zero, List.set_cons_succ]
                  go_big_quiet_want
                  apply Exists.intro
                  refine ⟨fun w0 hSw => ?_, ?_⟩
                  · (try dsimp only at hSw); go_simp; first | done | with_reducible rfl
                  go_big_quiet_on
                  try simp only [Act.put, List.setIfInBounds_toArray, List.set_cons_zero, List.set_cons_succ]
                  go_big_quiet_want
                  apply Exists.intro
                  refine ⟨fun w0 hSw => ?_, ?_⟩
                  · (try dsimp only at hSw); go_simp; first | done | with_reducible rfl
                  go_big_quiet_on
                  try simp only [Act.put, List.setIfInBounds_toArray, List.set_cons_zero, List.set_cons_succ]
                  go_big_quiet_want
                  apply Exists.intro
                  refine ⟨fun w0 hSw => ?_, ?_⟩
                  · (try dsimp only at hSw); go_simp; first | done | with_reducible rfl
                  go_big_quiet_on
                  try simp only [Act.put, List.setIfInBounds_toArray, List.set_cons_zero, List.set_cons_succ]
                  go_big_quiet_want
                  apply Exists.intro
                  refine ⟨fun w0 hSw => ?_, ?_⟩
                  · (try dsimp only at hSw); go_simp; first | done | with_reducible rfl
                  go_big_quiet_on
                  try simp only [Act.put, List.setIfInBounds_toArray, List.set_cons_zero, List.set_cons_succ]
                  go_big_quiet_want
                  apply Exists.intro
                  refine ⟨fun w0 hSw => ?_, ?_⟩
                  · (try dsimp only at hSw); go_simp; first | done | with_reducible rfl
                  go_big_quiet_on
                  try simp only [Act.put, List.setIfInBounds_toArray, List.set_cons_zero, List.set_cons_succ]
                  go_big_quiet_want
                  apply Exists.intro
                  refine ⟨fun w0 hSw => ?_, ?_⟩
                  · (try dsimp only at hSw); go_simp; exact (lto_any _ _ _ _).mono fun e w'' h => ⟨h.1, HS.out _ (below_call (Nat.le_refl _) hSw.1 h.2)⟩
                  go_big_quiet_on
                  try simp only [Act.put, List.setIfInBounds_toArray, List.set_cons_zero, List.set_cons_succ]
                  go_big_quiet_want
                  apply Exists.intro
                  refine ⟨fun w0 hSw => ?_, ?_⟩
                  · (try dsimp only at hSw); go_simp; first | done | with_reducible rfl
                  go_big_quiet_on
                  try simp only [Act.put, List.setIfInBounds_toArray, List.set_cons_zero, List.set_cons_succ]
                  go_big_quiet_want
                  apply Exists.intro
                  refine ⟨fun w0 hSw => ?_, ?_⟩
                  · (try dsimp only at hSw); go_simp; first | done | with_reducible rfl
                  go_big_quiet_on
                  try simp only [Act.put, List.setIfInBounds_toArray, List.set_cons_zero, List.set_cons_succ]
                  go_big_quiet_want
                  apply Exists.intro
                  refine ⟨fun w0 hSw => ?_, ?_⟩
                  · (try dsimp only at hSw); go_simp; first | done | with_reducible rfl
                  go_big_quiet_on
                  try simp only [Act.put, List.setIfInBounds_toArray, List.set_cons_zero, List.set_cons_succ]
                  go_big_quiet_want
                  apply Exists.intro
                  refine ⟨fun w0 hSw => ?_, ?_⟩
                  · (try dsimp only at hSw); go_simp; first | done | with_reducible rfl
                  go_big_quiet_on
                  try simp only [Act.put, List.setIfInBounds_toArray, List.set_cons_zero, List.set_cons_succ]
                  go_big_quiet_want
                  apply Exists.intro
                  refine ⟨fun w0 hSw => ?_, ?_⟩
                  · (try dsimp only at hSw); go_simp; first | done | with_reducible rfl
                  go_big_quiet_on
                  try simp only [Act.put, List.setIfInBounds_toArray, List.set_cons_zero, List.set_cons_succ]
                  go_big_quiet_want
                  apply Exists.intro
                  refine ⟨fun w0 hSw => ?_, ?_⟩
                  · (try dsimp only at hSw); go_simp; first | done | with_reducible rfl
                  go_big_quiet_on
                  try simp only [Act.put, List.setIfInBounds_toArray, List.set_cons_zero, List.set_cons_succ]
                  go_big_quiet_want
                  apply Exists.intro
                  refine ⟨fun w0 hSw => ?_, ?_⟩
                  · (try dsimp only at hSw); go_simp; first | done | with_reducible rfl
                  go_big_quiet_on
                  try simp only [Act.put, List.setIfInBounds_toArray, List.set_cons_zero, List.set_cons_succ]
                  go_big_quiet_skip
                  go_big_quiet_skip
                  go_big_quiet_skip
                  go_big_quiet_want
                  apply Exists.intro
                  refine ⟨fun w0 hSw => ?_, ?_⟩
                  · (try dsimp only at hSw); go_simp; first | done | with_reducible rfl
                  go_big_quiet_on
                  try simp only [Act.put, List.setIfInBounds_toArray, List.set_cons_zero, List.set_cons_succ]
                  go_big_quiet_want
                  apply Exists.intro
                  refine ⟨fun w0 hSw => ?_, ?_⟩
                  · (try dsimp only at hSw); go_simp; first | done | with_reducible rfl
                  go_big_quiet_on
                  try simp only [Act.put, List.setIfInBounds_toArray, List.set_cons_zero, List.set_cons_succ]
                  refine wpQuiet_nil ?_
                  intro w9 hSw
                  have G9 := Lib.hid hSw.1
                  clear hSw
                  have HPn : Hid (Pp w h (i + 1) w9) := Lib.hid (HM.out.later (below_call (Nat.le_refl _) GW.out G9.out)).pp
                  clear HS
                  go_wp2
                  go_roundw
                  case rel => exact ⟨i + 1, by omega, by omega, by go_num, HPn⟩
                  case measure => simp [intOf]; omega
            · as_aux_lemma =>
                have hkb : (x.k == K) = false := by simp [hk]
                have HG : Hid (Calls Try.prog 13 #[.pointer (some ⟨h, 0, none⟩), .int .i64 e, .int .i64 s, .int .i64 K, .int .i64 (m : Nat)] wc fun y w6 => y = .returned (.tuple #[.agg #[.int .i64 0, .int .i64 0, .int .i64 0], .bool false]) ∧ Below wc.heap.size wc w6) := Lib.hid (by
                  have h1 := has_any HM.out.st.fo e s K (m : Nat)
                  rw [show hasB D2.fo e s K (m : Nat) = false from by rw [hasB, hf]; show (decide (x.nd.k = K) && mayB x.nd.r (m : Nat)) = false; rw [decide_eq_false (show ¬ x.nd.k = K from hk), Bool.false_and]] at h1
                  rw [if_neg (by simp)] at h1
                  exact h1)
                have HAt : Hid (∀ w', Below wc.heap.size wc w' → Calls Try.prog 14 #[.agg #[.slice (some ⟨g, 0, none⟩) n2 c2, .int .i64 (D2.p : Nat)], .int .i64 e, .int .i64 s] w' fun y w5 => y = .returned (.int .i64 (i2 : Nat)) ∧ Below w'.heap.size w' w5) := Lib.hid fun w' h' => by
                  have h := (HM.out.later h').st
                  have h1 := rat_any h.doc sz_lt (Nat.le_trans (h.inv.few (Nat.le_trans HM.out.few (Nat.le_trans Hi61.out (by omega))) h.doc) (by omega)) (D2.p : Nat) e s
                  rwa [hi2] at h1
                have HQ : Hid (∀ w6 W6, Below wc.heap.size wc w6 → (w6.alloc (.cells #[.int .i64 0, .int .i64 0, .int .i64 0] 26 (0, 0))) = W6 → ∀ w', Below W6.heap.size W6 w' → Below W6.heap.size W6 w' ∧ (w'.cell? ⟨h + 1, 0, none⟩ = some (.slice (some ⟨g, 0, none⟩) n2 c2) ∧ w'.cell? ⟨h + 1, 1, none⟩ = some (.int .i64 (D2.p : Nat))) ∧ (w'.cell? ⟨ab, 1, none⟩ = some (.int .i64 e) ∧ w'.cell? ⟨ab, 2, none⟩ = some (.int .i64 s) ∧ w'.cell? ⟨ab, 6, none⟩ = some (.int .i64 k)) ∧ (w'.cell? ⟨w6.heap.size, 0, none⟩ = some (.int .i64 0) ∧ w'.cell? ⟨w6.heap.size, 1, none⟩ = some (.int .i64 0) ∧ w'.cell? ⟨w6.heap.size, 2, none⟩ = some (.int .i64 0)) ∧ (w'.cell? ⟨g, i2 * 7 + 4, none⟩ = some (.int .i64 x.k) ∧ w'.cell? ⟨g, i2 * 7 + 5, none⟩ = some (.int .i64 x.o) ∧ w'.cell? ⟨g, i2 * 7 + 6, none⟩ = some (.int .i64 (x.r : Nat)))) := Lib.hid fun w6 W6 h6 hW w' h' => by
                  subst hW
                  have hb := below_call (Nat.le_refl _) (below_new (Nat.le_refl _) h6 _) h'
                  have M := HM.out.later hb
                  obtain ⟨a0, a1, a2, a3, a4, a5, a6, a7, a8⟩ := M.acts
                  exact ⟨h', M.rb, ⟨a1, a2, a6⟩, cap_box h', HX.out w' hb⟩
                clear hf hi2 hx
                obtain ⟨⟨p0, p1⟩, a0, a1, a2, a3, a4, a5, a6, a7, a8⟩ := And.intro HM.out.rb HM.out.acts
                go_wp2_with fail
                refine HG.out.mono ?_
                rintro y w6 ⟨rfl, h6⟩
                have G6 := Lib.hid h6
                obtain ⟨l1, l2⟩ := Hl2.out w6 h6
                obtain ⟨⟨p0, p1⟩, b0, b1, b2, b3, b4, b5, b6, b7, b8⟩ := And.intro (HM.out.later h6).rb (HM.out.later h6).acts
                clear h6 HG
                go_upto_region 12 with (fail)
                obtain ⟨W6, hW6⟩ : ∃ W6, (w6.alloc (.cells #[.int .i64 0, .int .i64 0, .int .i64 0] 26 (0, 0))) = W6 := ⟨_, rfl⟩
                have HS := Lib.hid (HQ.out w6 W6 G6.out hW6)
                have GW := Lib.hid (show Below wc.heap.size wc W6 by rw [← hW6]; exact below_new (Nat.le_refl _) G6.out _)
                rw [hW6]
                clear hW6 HQ l1 l2 p0 p1 a0 a1 a2 a3 a4 a5 a6 a7 a8 b0 b1 b2 b3 b4 b5 b6 b7 b8
                refine region_quiet (C := fun w' => Below W6.heap.size W6 w' ∧ (w'.cell? ⟨h + 1, 0, none⟩ = some (.slice (some ⟨g, 0, none⟩) n2 c2) ∧ w'.cell? ⟨h + 1, 1, none⟩ = some (.int .i64 (D2.p : Nat))) ∧ (w'.cell? ⟨ab, 1, none⟩ = some (.int .i64 e) ∧ w'.cell? ⟨ab, 2, none⟩ = some (.int .i64 s) ∧ w'.cell? ⟨ab, 6, none⟩ = some (.int .i64 k)) ∧ (w'.cell? ⟨w6.heap.size, 0, none⟩ = some (.int .i64 0) ∧ w'.cell? ⟨w6.heap.size, 1, none⟩ = some (.int .i64 0) ∧ w'.cell? ⟨w6.heap.size, 2, none⟩ = some (.int .i64 0)) ∧ (w'.cell? ⟨g, i2 * 7 + 4, none⟩ = some (.int .i64 x.k) ∧ w'.cell? ⟨g, i2 * 7 + 5, none⟩ = some (.int .i64 x.o) ∧ w'.cell? ⟨g, i2 * 7 + 6, none⟩ = some (.int .i64 (x.r : Nat)))) (by kernel_rfl) (by kernel_rfl) (HS.out _ (Below.refl _ _).drew) ?_
                go_big_quiet_want
                apply Exists.intro
                refine ⟨fun w0 hSw => ?_, ?_⟩
                · (try dsimp only at hSw); go_simp; first | done | with_reducible rfl
                go_big_quiet_on
                try simp only [Act.put, List.setIfInBounds_toArray, List.set_cons_zero, List.set_cons_succ]
                go_big_quiet_want
                apply Exists.intro
                refine ⟨fun w0 hSw => ?_, ?_⟩
                · (try dsimp only at hSw); go_simp; first | done | with_reducible rfl
                go_big_quiet_on
                try simp only [Act.put, List.setIfInBounds_toArray, List.set_cons_zero, List.set_cons_succ]
                go_big_quiet_want
                apply Exists.intro
                refine ⟨fun w0 hSw => ?_, ?_⟩
                · (try dsimp only at hSw); go_simp; first | done | with_reducible rfl
                go_big_quiet_on
                try simp only [Act.put, List.setIfInBounds_toArray, List.set_cons_zero, List.set_cons_succ]
                go_big_quiet_want
                apply Exists.intro
                refine ⟨fun w0 hSw => ?_, ?_⟩
                · (try dsimp only at hSw); go_simp; first | done | with_reducible rfl
                go_big_quiet_on
                try simp only [Act.put, List.setIfInBounds_toArray, List.set_cons_zero, List.set_cons_succ]
                go_big_quiet_want
                apply Exists.intro
                refine ⟨fun w0 hSw => ?_, ?_⟩
                · (try dsimp only at hSw); go_simp; first | done | with_reducible rfl
                go_big_quiet_on
                try simp only [Act.put, List.setIfInBounds_toArray, List.set_cons_zero, List.set_cons_succ]
                go_big_quiet_want
                apply Exists.intro
                refine ⟨fun w0 hSw => ?_, ?_⟩
                · (try dsimp only at hSw); go_simp; first | done | with_reducible rfl
                go_big_quiet_on
                try simp only [Act.put, List.setIfInBounds_toArray, List.set_cons_zero, List.set_cons_succ]
                go_big_quiet_want
                apply Exists.intro
                refine ⟨fun w0 hSw => ?_, ?_⟩
                · (try dsimp only at hSw); go_simp; first | done | with_reducible rfl
                go_big_quiet_on
                try simp only [Act.put, List.setIfInBounds_toArray, List.set_cons_zero, List.set_cons_succ]
                go_big_quiet_want
                apply Exists.intro
                refine ⟨fun w0 hSw => ?_, ?_⟩
                · (try dsimp only at hSw); go_simp; exact (HAt.out _ (below_call (Nat.le_refl _) GW.out hSw.1)).mono fun e w'' h => ⟨h.1, HS.out _ (below_call (Nat.le_refl _) hSw.1 h.2)⟩
                go_big_quiet_on
                try simp only [Act.put, List.setIfInBounds_toArray, List.set_cons_zero, List.set_cons_succ]
                go_big_quiet_want
                apply Exists.intro
                refine ⟨fun w0 hSw => ?_, ?_⟩
                · (try dsimp only at hSw); go_simp; first | done | with_reducible rfl
                go_big_quiet_on
                try simp only [Act.put, List.setIfInBounds_toArray, List.set_cons_zero, List.set_cons_succ]
                refine wpQuiet_nil ?_
                intro w7 hSw
                obtain ⟨g7, ⟨d0, d1⟩, -⟩ := hSw
                have G7 := Lib.hid g7
                clear g7
                go_upto_region 13 with (fail)
                refine region_quiet (C := fun w' => Below W6.heap.size W6 w' ∧ (w'.cell? ⟨h + 1, 0, none⟩ = some (.slice (some ⟨g, 0, none⟩) n2 c2) ∧ w'.cell? ⟨h + 1, 1, none⟩ = some (.int .i64 (D2.p : Nat))) ∧ (w'.cell? ⟨ab, 1, none⟩ = some (.int .i64 e) ∧ w'.cell? ⟨ab, 2, none⟩ = some (.int .i64 s) ∧ w'.cell? ⟨ab, 6, none⟩ = some (.int .i64 k)) ∧ (w'.cell? ⟨w6.heap.size, 0, none⟩ = some (.int .i64 0) ∧ w'.cell? ⟨w6.heap.size, 1, none⟩ = some (.int .i64 0) ∧ w'.cell? ⟨w6.heap.size, 2, none⟩ = some (.int .i64 0)) ∧ (w'.cell? ⟨g, i2 * 7 + 4, none⟩ = some (.int .i64 x.k) ∧ w'.cell? ⟨g, i2 * 7 + 5, none⟩ = some (.int .i64 x.o) ∧ w'.cell? ⟨g, i2 * 7 + 6, none⟩ = some (.int .i64 (x.r : Nat)))) (by kernel_rfl) (by kernel_rfl) (HS.out _ G7.out.drew) ?_
                go_big_quiet_want
                apply Exists.intro
                refine ⟨fun w0 hSw => ?_, ?_⟩
                · (try dsimp only at hSw); go_simp; first | done | with_reducible rfl
                go_big_quiet_on
                try simp only [Act.put, List.setIfInBounds_toArray, List.set_cons_zero, List.set_cons_succ]
                go_big_quiet_want
                apply Exists.intro
                refine ⟨fun w0 hSw => ?_, ?_⟩
                · (try dsimp only at hSw); go_simp; first | done | with_reducible rfl
                go_big_quiet_on
                try simp only [Act.put, List.setIfInBounds_toArray, List.set_cons_zero, List.set_cons_succ]
                go_big_quiet_want
                apply Exists.intro
                refine ⟨fun w0 hSw => ?_, ?_⟩
                · (try dsimp only at hSw); go_simp; first | done | with_reducible rfl
                go_big_quiet_on
                try simp only [Act.put, List.setIfInBounds_toArray, List.set_cons_zero, List.set_cons_succ]
                go_big_quiet_want
                apply Exists.intro
                refine ⟨fun w0 hSw => ?_, ?_⟩
                · (try dsimp only at hSw); go_simp; first | done | with_reducible rfl
                go_big_quiet_on
                try simp only [Act.put, List.setIfInBounds_toArray, List.set_cons_zero, List.set_cons_succ]
                go_big_quiet_want
                apply Exists.intro
                refine ⟨fun w0 hSw => ?_, ?_⟩
                · (try dsimp only at hSw); go_simp; first | done | with_reducible rfl
                go_big_quiet_on
                try simp only [Act.put, List.setIfInBounds_toArray, List.set_cons_zero, List.set_cons_succ]
                go_big_quiet_want
                apply Exists.intro
                refine ⟨fun w0 hSw => ?_, ?_⟩
                · (try dsimp only at hSw); go_simp; first | done | with_reducible rfl
                go_big_quiet_on
                try simp only [Act.put, List.setIfInBounds_toArray, List.set_cons_zero, List.set_cons_succ]
                go_big_quiet_want
                apply Exists.intro
                refine ⟨fun w0 hSw => ?_, ?_⟩
                · (try dsimp only at hSw); go_simp; first | done | with_reducible rfl
                go_big_quiet_on
                try simp only [Act.put, List.setIfInBounds_toArray, List.set_cons_zero, List.set_cons_succ]
                go_big_quiet_want
                apply Exists.intro
                refine ⟨fun w0 hSw => ?_, ?_⟩
                · (try dsimp only at hSw); go_simp; first | done | with_reducible rfl
                go_big_quiet_on
                try simp only [Act.put, List.setIfInBounds_toArray, List.set_cons_zero, List.set_cons_succ]
                go_big_quiet_want
                apply Exists.intro
                refine ⟨fun w0 hSw => ?_, ?_⟩
                · (try dsimp only at hSw); go_simp; first | done | with_reducible rfl
                go_big_quiet_on
                try simp only [Act.put, List.setIfInBounds_toArray, List.set_cons_zero, List.set_cons_succ]
                go_big_quiet_want
                apply Exists.intro
                refine ⟨fun w0 hSw => ?_, ?_⟩
                · (try dsimp only at hSw); go_simp; first | done | with_reducible rfl
                go_big_quiet_on
                try simp only [Act.put, List.setIfInBounds_toArray, List.set_cons_zero, List.set_cons_succ]
                go_big_quiet_want
                apply Exists.intro
                refine ⟨fun w0 hSw => ?_, ?_⟩
                · (try dsimp only at hSw); go_simp; first | done | with_reducible rfl
                go_big_quiet_on
                try simp only [Act.put, List.setIfInBounds_toArray, List.set_cons_zero, List.set_cons_succ]
                go_big_quiet_want
                apply Exists.intro
                refine ⟨fun w0 hSw => ?_, ?_⟩
                · (try dsimp only at hSw); go_simp; first | done | with_reducible rfl
                go_big_quiet_on
                try simp only [Act.put, List.setIfInBounds_toArray, List.set_cons_zero, List.set_cons_succ]
                go_big_quiet_want
                apply Exists.intro
                refine ⟨fun w0 hSw => ?_, ?_⟩
                · (try dsimp only at hSw); go_simp; first | done | with_reducible rfl
                go_big_quiet_on
                try simp only [Act.put, List.setIfInBounds_toArray, List.set_cons_zero, List.set_cons_succ]
                go_big_quiet_want
                apply Exists.intro
                refine ⟨fun w0 hSw => ?_, ?_⟩
                · (try dsimp only at hSw); go_simp; first | done | with_reducible rfl
                go_big_quiet_on
                try simp only [Act.put, List.setIfInBounds_toArray, List.set_cons_zero, List.set_cons_succ]
                go_big_quiet_want
                apply Exists.intro
                refine ⟨fun w0 hSw => ?_, ?_⟩
                · (try dsimp only at hSw); go_simp; first | done | with_reducible rfl
                go_big_quiet_on
                try simp only [Act.put, List.setIfInBounds_toArray, List.set_cons_zero, List.set_cons_succ]
                go_big_quiet_want
                apply Exists.intro
                refine ⟨fun w0 hSw => ?_, ?_⟩
                · (try dsimp only at hSw); go_simp; first | done | with_reducible rfl
                go_big_quiet_on
                try simp only [Act.put, List.setIfInBounds_toArray, List.set_cons_zero, List.set_cons_succ]
                go_big_quiet_want
                apply Exists.intro
                refine ⟨fun w0 hSw => ?_, ?_⟩
                · (try dsimp only at hSw); go_simp; first | done | with_reducible rfl
                go_big_quiet_on
                try simp only [Act.put, List.setIfInBounds_toArray, List.set_cons_zero, List.set_cons_succ]
                go_big_quiet_want
                apply Exists.intro
                refine ⟨fun w0 hSw => ?_, ?_⟩
                · (try dsimp only at hSw); go_simp; first | done | with_reducible rfl
                go_big_quiet_on
                try simp only [Act.put, List.setIfInBounds_toArray, List.set_cons_zero, List.set_cons_succ]
                go_big_quiet_want
                apply Exists.intro
                refine ⟨fun w0 hSw => ?_, ?_⟩
                · (try dsimp only at hSw); go_simp; first | done | with_reducible rfl
                go_big_quiet_on
                try simp only [Act.put, List.setIfInBounds_toArray, List.set_cons_zero, List.set_cons_succ]
                go_big_quiet_skip
                go_big_quiet_skip
                go_big_quiet_skip
                go_big_quiet_skip
                go_big_quiet_skip
                go_big_quiet_skip
                go_big_quiet_skip
                go_big_quiet_skip
                go_big_quiet_skip
                go_big_quiet_skip
                go_big_quiet_skip
                go_big_quiet_want
                apply Exists.intro
                refine ⟨fun w0 hSw => ?_, ?_⟩
                · (try dsimp only at hSw); go_simp; first | done | with_reducible rfl
                go_big_quiet_on
                try simp only [Act.put, List.setIfInBounds_toArray, List.set_cons_zero, List.set_cons_succ]
                go_big_quiet_want
                apply Exists.intro
                refine ⟨fun w0 hSw => ?_, ?_⟩
                · (try dsimp only at hSw); go_simp; first | done | with_reducible rfl
                go_big_quiet_on
                try simp only [Act.put, List.setIfInBounds_toArray, List.set_cons_zero, List.set_cons_succ]
                refine wpQuiet_nil ?_
                intro w8 hSw
                have G8 := Lib.hid hSw.1
                clear hSw d0 d1
                go_upto_region 14 with (fail)
                refine region_quiet (C := fun w' => Below W6.heap.size W6 w' ∧ (w'.cell? ⟨h + 1, 0, none⟩ = some (.slice (some ⟨g, 0, none⟩) n2 c2) ∧ w'.cell? ⟨h + 1, 1, none⟩ = some (.int .i64 (D2.p : Nat))) ∧ (w'.cell? ⟨ab, 1, none⟩ = some (.int .i64 e) ∧ w'.cell? ⟨ab, 2, none⟩ = some (.int .i64 s) ∧ w'.cell? ⟨ab, 6, none⟩ = some (.int .i64 k)) ∧ (w'.cell? ⟨w6.heap.size, 0, none⟩ = some (.int .i64 0) ∧ w'.cell? ⟨w6.heap.size, 1, none⟩ = some (.int .i64 0) ∧ w'.cell? ⟨w6.heap.size, 2, none⟩ = some (.int .i64 0)) ∧ (w'.cell? ⟨g, i2 * 7 + 4, none⟩ = some (.int .i64 x.k) ∧ w'.cell? ⟨g, i2 * 7 + 5, none⟩ = some (.int .i64 x.o) ∧ w'.cell? ⟨g, i2 * 7 + 6, none⟩ = some (.int .i64 (x.r : Nat)))) (by kernel_rfl) (by kernel_rfl) (HS.out _ G8.out.drew) ?_
                go_big_quiet_want
                apply Exists.intro
                refine ⟨fun w0 hSw => ?_, ?_⟩
                · (try dsimp only at hSw); go_simp; first | done | with_reducible rfl
                go_big_quiet_on
                try simp only [Act.put, List.setIfInBounds_toArray, List.set_cons_zero, List.set_cons_succ]
                go_big_quiet_want
                apply Exists.intro
                refine ⟨fun w0 hSw => ?_, ?_⟩
                · (try dsimp only at hSw); go_simp; first | done | with_reducible rfl
                go_big_quiet_on
                try simp only [Act.put, List.setIfInBounds_toArray, List.set_cons_zero, List.set_cons_succ]
                go_big_quiet_want
                apply Exists.intro
                refine ⟨fun w0 hSw => ?_, ?_⟩
                · (try dsimp only at hSw); go_simp; first | done | with_reducible rfl
                go_big_quiet_on
                try simp only [Act.put, List.setIfInBounds_toArray, List.set_cons_zero, List.set_cons_succ]
                go_big_quiet_want
                apply Exists.intro
                refine ⟨fun w0 hSw => ?_, ?_⟩
                · (try dsimp only at hSw); go_simp; first | done | with_reducible rfl
                go_big_quiet_on
                try simp only [Act.put, List.setIfInBounds_toArray, List.set_cons_zero, List.set_cons_succ]
                go_big_quiet_want
                apply Exists.intro
                refine ⟨fun w0 hSw => ?_, ?_⟩
                · (try dsimp only at hSw); go_simp; first | done | with_reducible rfl
                go_big_quiet_on
                try simp only [Act.put, List.setIfInBounds_toArray, List.set_cons_zero, List.set_cons_succ]
                go_big_quiet_want
                apply Exists.intro
                refine ⟨fun w0 hSw => ?_, ?_⟩
                · (try dsimp only at hSw); go_simp; first | done | with_reducible rfl
                go_big_quiet_on
                try simp only [Act.put, List.setIfInBounds_toArray, List.set_cons_zero, List.set_cons_succ]
                go_big_quiet_skip
                go_big_quiet_skip
                go_big_quiet_skip
                go_big_quiet_skip
                go_big_quiet_skip
                go_big_quiet_skip
                go_big_quiet_skip
                go_big_quiet_skip
                go_big_quiet_skip
                go_big_quiet_skip
                go_big_quiet_skip
                go_big_quiet_want
                apply Exists.intro
                refine ⟨fun w0 hSw => ?_, ?_⟩
                · (try dsimp only at hSw); go_simp; first | done | with_reducible rfl
                go_big_quiet_on
                try simp only [Act.put, List.setIfInBounds_toArray, List.set_cons_zero, List.set_cons_succ]
                go_big_quiet_want
                apply Exists.intro
                refine ⟨fun w0 hSw => ?_, ?_⟩
                · (try dsimp only at hSw); go_simp; first | done | with_reducible rfl
                go_big_quiet_on
                try simp only [Act.put, List.setIfInBounds_toArray, List.set_cons_zero, List.set_cons_succ]
                go_big_quiet_want
                apply Exists.intro
                refine ⟨fun w0 hSw => ?_, ?_⟩
                · (try dsimp only at hSw); go_simp; first | done | with_reducible rfl
                go_big_quiet_on
                try simp only [Act.put, List.setIfInBounds_toArray, List.set_cons_zero, List.set_cons_succ]
                go_big_quiet_want
                apply Exists.intro
                refine ⟨fun w0 hSw => ?_, ?_⟩
                · (try dsimp only at hSw); go_simp; first | done | with_reducible rfl
                go_big_quiet_on
                try simp only [Act.put, List.setIfInBounds_toArray, List.set_cons_zero, List.set_cons_succ]
                go_big_quiet_want
                apply Exists.intro
                refine ⟨fun w0 hSw => ?_, ?_⟩
                · (try dsimp only at hSw); go_simp; first | done | with_reducible rfl
                go_big_quiet_on
                try simp only [Act.put, List.setIfInBounds_toArray, List.set_cons_zero, List.set_cons_succ]
                go_big_quiet_want
                apply Exists.intro
                refine ⟨fun w0 hSw => ?_, ?_⟩
                · (try dsimp only at hSw); go_simp; first | done | with_reducible rfl
                go_big_quiet_on
                try simp only [Act.put, List.setIfInBounds_toArray, List.set_cons_zero, List.set_cons_succ]
                go_big_quiet_want
                apply Exists.intro
                refine ⟨fun w0 hSw => ?_, ?_⟩
                · (try dsimp only at hSw); go_simp; first | done | with_reducible rfl
                go_big_quiet_on
                try simp only [Act.put, List.setIfInBounds_toArray, List.set_cons_zero, List.set_cons_succ]
                go_big_quiet_want
                apply Exists.intro
                refine ⟨fun w0 hSw => ?_, ?_⟩
                · (try dsimp only at hSw); go_simp; first | done | with_reducible rfl
                go_big_quiet_on
                try simp only [Act.put, List.setIfInBounds_toArray, List.set_cons_zero, List.set_cons_succ]
                go_big_quiet_want
                apply Exists.intro
                refine ⟨fun w0 hSw => ?_, ?_⟩
                · (try dsimp only at hSw); go_simp; first | done | with_reducible rfl
                go_big_quiet_on
                try simp only [Act.put, List.setIfInBounds_toArray, List.set_cons_zero, List.set_cons_succ]
                go_big_quiet_want
                apply Exists.intro
                refine ⟨fun w0 hSw => ?_, ?_⟩
                · (try dsimp only at hSw); go_simp; first | done | with_reducible rfl
                go_big_quiet_on
                try simp only [Act.put, List.setIfInBounds_toArray, List.set_cons_zero, List.set_cons_succ]
                go_big_quiet_want
                apply Exists.intro
                refine ⟨fun w0 hSw => ?_, ?_⟩
                · (try dsimp only at hSw); go_simp; first | done | with_reducible rfl
                go_big_quiet_on
                try simp only [Act.put, List.setIfInBounds_toArray, List.set_cons_zero, List.set_cons_succ]
                refine wpQuiet_nil ?_
                intro w9 hSw
                have G9 := Lib.hid hSw.1
                clear hSw
                have HPn : Hid (Pp w h (i + 1) w9) := Lib.hid (HM.out.later (below_call (Nat.le_refl _) GW.out G9.out)).pp
                clear HS
                go_wp2
                go_roundw
                case rel => exact ⟨i + 1, by omega, by omega, by go_num, HPn⟩
                case measure => simp [intOf]; omega
      · have hlt60' : ¬ (i : Int) < 60 := by omega
        have HPe := HP
        go_wp2_with (go_at_call 5; refine (awake_any _).mono ?_; rintro e w9 ⟨rfl, h9⟩; have G9 := Lib.hid (HPe.out.later h9).below; clear h9)
        go_ret
        exact ⟨rfl, G9.out⟩
    · have hlt' : ¬ (i : Int) < nl := by omega
      have HPe := HP
      go_wp2_with (go_at_call 5; refine (awake_any _).mono ?_; rintro e w9 ⟨rfl, h9⟩; have G9 := Lib.hid (HPe.out.later h9).below; clear h9)
      go_ret
      exact ⟨rfl, G9.out⟩
end Go.Proofs.Ythblldojbgeknaa
