/-
  Contract: the law's does (typed by tools/gen_cdoes.py).
-/
import Derived.Test.YthblldojbgeknaaCSt
import Derived.Deep.DeepCutAuto
namespace Go.Proofs.Ythblldojbgeknaa
open Go.ChangeShapes Go.WideShapes Go.ChangeAt Go.RowKit

/-- Both were turned alike; nothing else was. -/
def Done (B b rb P : Nat) (w : World) (y : Ending) (w' : World) : Prop := y = .returned (.bool true) ∧ (∃ D A n c, St B b rb D A n c w' ∧ D.p ≤ P) ∧ Only (fun k => k = b ∨ k = rb) w w'
section
variable {B b rb : Nat} {D : Dc} {A : Option Addr} {n c : Nat} {w W w2 w4 w5 : World}
theorem purge_u {F : Fo} (H : FoIs w b F) (k o : Int) : Calls Try.prog 26 #[.pointer (some ⟨b, 0, none⟩), .int .i64 k, .int .i64 o] w fun y w' => ∃ A n c, y = .returned (.slice A n c) ∧ Slots (tkW (Nd.to_ k o) F) w A n c w' ∧ FoIs w' b (tkF (Nd.to_ k o) F) ∧ Only (· = b) w w' := by
  refine (purge_any H k o).mono ?_
  rintro y w' ⟨A, n, c, rfl, h1, h2, h3, h4, h5⟩
  exact ⟨A, n, c, rfl, ⟨h1, h2, own_cap h3, Sls.own h3⟩, h4, h5⟩
theorem done_end {F' : Fo} {P : Nat} {A' : Option Addr} {n' c' : Nat} (h1 : Below w.heap.size w W) (h2 : Only (· = b) W w2) (h4 : Only (· = rb) w2 w4) (h : ∃ D', St B b rb D' A' n' c' w4 ∧ D'.fo = F') (hP : F'.p ≤ P) (h5 : Below w4.heap.size w4 w5) {y : Ending} (hy : y = .returned (.bool true)) : Done B b rb P w y w5 := by
  obtain ⟨D', H4, rfl⟩ := h
  have hs := h1.size
  have hO : Only (fun k => k = b ∨ k = rb) w W := Only.of_below h1
  have hO2 : Only (fun k => k = b ∨ k = rb) w w2 := hO.trans h2 fun i hi => Or.inl (Or.inl hi)
  have hO4 : Only (fun k => k = b ∨ k = rb) w w4 := hO2.trans h4 fun i hi => Or.inl (Or.inr hi)
  have h45 : Only (fun _ => False) w4 w5 := Only.of_below h5
  exact ⟨hy, ⟨D', A', n', c', H4.below h5, hP⟩, hO4.trans h45 (fun i hi => hi.elim)⟩
set_option maxRecDepth 100000 in
set_option maxHeartbeats 4000000 in
theorem does_derive (H : St B b rb D A n c w) (hp : D.p ≤ 100) (e s t u : Int) {N : Int} (hN : N < 9223372036854775808) (k o r : Int) :
    Calls Try.prog 9 #[.pointer (some ⟨b, 0, none⟩), .pointer (some ⟨rb, 0, none⟩), .agg #[.int .i64 1, .int .i64 e, .int .i64 s, .int .i64 t, .int .i64 u, .int .i64 N, .int .i64 k, .int .i64 o, .int .i64 r]] w (Done B b rb (D.p + 1) w) := by
  obtain ⟨W, hW⟩ : ∃ W, w.alloc (.cells #[.int .i64 1, .int .i64 e, .int .i64 s, .int .i64 t, .int .i64 u, .int .i64 N, .int .i64 k, .int .i64 o, .int .i64 r] 39 (0, 0)) = W := ⟨_, rfl⟩
  have hwW : Below w.heap.size w W := by
    rw [← hW]
    exact (Below.refl _ _).alloc (Nat.le_refl _) _
  have HW : St B b rb D A n c W := H.below hwW
  have hbl : b < w.heap.size := H.ltb
  have hrl : rb < w.heap.size := H.ltr
  have hbx : W.heap[w.heap.size]? = some (.cells #[.int .i64 1, .int .i64 e, .int .i64 s, .int .i64 t, .int .i64 u, .int .i64 N, .int .i64 k, .int .i64 o, .int .i64 r] 39 (0, 0)) := by
    rw [← hW]
    exact heap_alloc_new w _
  have hlt : w.heap.size < W.heap.size := lt_of_blk hbx
  obtain ⟨F', hF⟩ : ∃ F', brF D.fo e s e u N 0 = F' := ⟨_, rfl⟩
  obtain ⟨E, hE⟩ : ∃ E, brE D.fo e s e u N 0 = E := ⟨_, rfl⟩
  have hFp : F'.p ≤ D.p + 1 := by
    rw [← hF]
    exact brF_p _ _ _ _ _ _ _
  have HC : Hid (Calls Try.prog 17 #[.pointer (some ⟨b, 0, none⟩), .int .i64 e, .int .i64 s, .int .i64 u, .int .i64 N] W fun y w2 => y = .returned (.int .i64 E) ∧ (w2.cell? ⟨rb, 0, none⟩ = some (.slice A n c) ∧ w2.cell? ⟨rb, 1, none⟩ = some (.int .i64 (D.p : Nat))) ∧ (w2.cell? ⟨w.heap.size, 0, none⟩ = some (.int .i64 1) ∧ w2.cell? ⟨w.heap.size, 1, none⟩ = some (.int .i64 e) ∧ w2.cell? ⟨w.heap.size, 2, none⟩ = some (.int .i64 s) ∧ w2.cell? ⟨w.heap.size, 3, none⟩ = some (.int .i64 t) ∧ w2.cell? ⟨w.heap.size, 4, none⟩ = some (.int .i64 u) ∧ w2.cell? ⟨w.heap.size, 5, none⟩ = some (.int .i64 N) ∧ w2.cell? ⟨w.heap.size, 6, none⟩ = some (.int .i64 k) ∧ w2.cell? ⟨w.heap.size, 7, none⟩ = some (.int .i64 o) ∧ w2.cell? ⟨w.heap.size, 8, none⟩ = some (.int .i64 r)) ∧ Hid (Only (· = b) W w2) ∧ Hid (∀ w', Only (· = rb) w2 w' → Only (· = rb) w2 w' ∧ (w'.cell? ⟨w.heap.size, 0, none⟩ = some (.int .i64 1) ∧ w'.cell? ⟨w.heap.size, 1, none⟩ = some (.int .i64 e) ∧ w'.cell? ⟨w.heap.size, 2, none⟩ = some (.int .i64 s) ∧ w'.cell? ⟨w.heap.size, 3, none⟩ = some (.int .i64 t) ∧ w'.cell? ⟨w.heap.size, 4, none⟩ = some (.int .i64 u) ∧ w'.cell? ⟨w.heap.size, 5, none⟩ = some (.int .i64 N) ∧ w'.cell? ⟨w.heap.size, 6, none⟩ = some (.int .i64 k) ∧ w'.cell? ⟨w.heap.size, 7, none⟩ = some (.int .i64 o) ∧ w'.cell? ⟨w.heap.size, 8, none⟩ = some (.int .i64 r))) ∧ Hid (∀ w', Below w2.heap.size w2 w' → Calls Try.prog 22 #[.agg #[.slice A n c, .int .i64 (D.p : Nat)], .int .i64 e, .int .i64 s, .int .i64 e, .int .i64 u, .int .i64 N, .bool false] w' fun y w3 => ∃ A' n' c' p', y = .returned (.tuple #[.agg #[.slice A' n' c', .int .i64 ((p' : Nat) : Int)], .int .i64 E]) ∧ Hid (Only (· = rb) w2 w3) ∧ ((w3.cell? ⟨rb, 0, none⟩ = some (.slice A n c) ∧ w3.frozen? ⟨rb, 0, none⟩ = false) ∧ w3.cell? ⟨rb, 1, none⟩ = some (.int .i64 (D.p : Nat)) ∧ w3.frozen? ⟨rb, 1, none⟩ = false) ∧ ∃ w4, (w3.setCell ⟨rb, 0, none⟩ (.slice A' n' c')).setCell ⟨rb, 1, none⟩ (.int .i64 ((p' : Nat) : Int)) = w4 ∧ Hid (Only (· = rb) w2 w4) ∧ Hid (∃ D', St B b rb D' A' n' c' w4 ∧ D'.fo = F'))) := Lib.hid (by
    have h1 := derive_any HW.fo (show D.fo.p < 1000000 from Nat.lt_of_le_of_lt hp (by omega)) e s u hN
    have h2 := fun w2 w' (O2 : Only (· = b) W w2) (h' : Below w2.heap.size w2 w') => rpass_u (S := Sz B b rb w2) (w := w') HW.inv ((HW.doc_only O2).2.kept (fun k hk => h'.block k (sz_lt k hk)) (fun _ h => h)) (fun k hk => Nat.lt_of_lt_of_le (sz_lt k hk) h'.size) (Nat.le_trans hp (by omega)) e s e u hN false (N := 0) rfl
    rw [hF, hE] at h1
    rw [hF, hE] at h2
    refine h1.mono ?_
    rintro y w2 ⟨rfl, F2, O2⟩
    have hx2 : w2.heap[w.heap.size]? = some (.cells #[.int .i64 1, .int .i64 e, .int .i64 s, .int .i64 t, .int .i64 u, .int .i64 N, .int .i64 k, .int .i64 o, .int .i64 r] 39 (0, 0)) := (O2.block _ hlt (fun e => by omega)).trans hbx
    obtain ⟨⟨d0, -⟩, d1, -⟩ := dbox_cells (HW.doc_only O2).1
    refine ⟨rfl, ⟨d0, d1⟩, ⟨(bx_cell (j := 0) hx2 rfl).1, (bx_cell (j := 1) hx2 rfl).1, (bx_cell (j := 2) hx2 rfl).1, (bx_cell (j := 3) hx2 rfl).1, (bx_cell (j := 4) hx2 rfl).1, (bx_cell (j := 5) hx2 rfl).1, (bx_cell (j := 6) hx2 rfl).1, (bx_cell (j := 7) hx2 rfl).1, (bx_cell (j := 8) hx2 rfl).1⟩, Lib.hid O2, Lib.hid fun w' O3 => ⟨O3, ?_⟩, Lib.hid fun w' h' => (h2 w2 w' O2 h').mono fun y w3 h => st_act HW O2 F2 h' h⟩
    have hx3 : w'.heap[w.heap.size]? = some (.cells #[.int .i64 1, .int .i64 e, .int .i64 s, .int .i64 t, .int .i64 u, .int .i64 N, .int .i64 k, .int .i64 o, .int .i64 r] 39 (0, 0)) := (O3.block _ (Nat.lt_of_lt_of_le hlt O2.size) (fun e => by omega)).trans hx2
    exact ⟨(bx_cell (j := 0) hx3 rfl).1, (bx_cell (j := 1) hx3 rfl).1, (bx_cell (j := 2) hx3 rfl).1, (bx_cell (j := 3) hx3 rfl).1, (bx_cell (j := 4) hx3 rfl).1, (bx_cell (j := 5) hx3 rfl).1, (bx_cell (j := 6) hx3 rfl).1, (bx_cell (j := 7) hx3 rfl).1, (bx_cell (j := 8) hx3 rfl).1⟩)
  obtain ⟨a0, a1, a2, a3, a4, a5, a6, a7, a8⟩ : W.cell? ⟨w.heap.size, 0, none⟩ = some (.int .i64 1) ∧ W.cell? ⟨w.heap.size, 1, none⟩ = some (.int .i64 e) ∧ W.cell? ⟨w.heap.size, 2, none⟩ = some (.int .i64 s) ∧ W.cell? ⟨w.heap.size, 3, none⟩ = some (.int .i64 t) ∧ W.cell? ⟨w.heap.size, 4, none⟩ = some (.int .i64 u) ∧ W.cell? ⟨w.heap.size, 5, none⟩ = some (.int .i64 N) ∧ W.cell? ⟨w.heap.size, 6, none⟩ = some (.int .i64 k) ∧ W.cell? ⟨w.heap.size, 7, none⟩ = some (.int .i64 o) ∧ W.cell? ⟨w.heap.size, 8, none⟩ = some (.int .i64 r) := ⟨(bx_cell (j := 0) hbx rfl).1, (bx_cell (j := 1) hbx rfl).1, (bx_cell (j := 2) hbx rfl).1, (bx_cell (j := 3) hbx rfl).1, (bx_cell (j := 4) hbx rfl).1, (bx_cell (j := 5) hbx rfl).1, (bx_cell (j := 6) hbx rfl).1, (bx_cell (j := 7) hbx rfl).1, (bx_cell (j := 8) hbx rfl).1⟩
  have HwW := Lib.hid hwW
  have HP := Lib.hid hFp
  have Hrl : Hid (rb < W.heap.size) := Lib.hid (by omega)
  have HWe := Lib.hid hW
  clear hW hwW HW hbl hrl hbx hlt H hp hFp hF hE
  go_enter Try.func9, Try.ntmps9
  go_wp2_with fail
  rw [show w.alloc (.cells #[.int .i64 1, .int .i64 e, .int .i64 s, .int .i64 t, .int .i64 u, .int .i64 N, .int .i64 k, .int .i64 o, .int .i64 r] 39 (0, 0)) = W from HWe.out]
  refine HC.out.mono ?_
  rintro y w2 ⟨rfl, ⟨d0, d1⟩, ⟨b0, b1, b2, b3, b4, b5, b6, b7, b8⟩, O2, HS, HR⟩
  clear a0 a1 a2 a3 a4 a5 a6 a7 a8
  go_upto_region 9 with (fail)
  refine wp_region_held_drew (S := fun w' => Only (· = rb) w2 w' ∧ (w'.cell? ⟨w.heap.size, 0, none⟩ = some (.int .i64 1) ∧ w'.cell? ⟨w.heap.size, 1, none⟩ = some (.int .i64 e) ∧ w'.cell? ⟨w.heap.size, 2, none⟩ = some (.int .i64 s) ∧ w'.cell? ⟨w.heap.size, 3, none⟩ = some (.int .i64 t) ∧ w'.cell? ⟨w.heap.size, 4, none⟩ = some (.int .i64 u) ∧ w'.cell? ⟨w.heap.size, 5, none⟩ = some (.int .i64 N) ∧ w'.cell? ⟨w.heap.size, 6, none⟩ = some (.int .i64 k) ∧ w'.cell? ⟨w.heap.size, 7, none⟩ = some (.int .i64 o) ∧ w'.cell? ⟨w.heap.size, 8, none⟩ = some (.int .i64 r))) (by kernel_rfl) ?_ (fun hHeld => ?_)
  · exact HS.out _ (Only.refl _ _).drew
  refine wpAnyH_take (i := 0) (oi := _) (v := ?v0) rfl (by kernel_rfl) (by kernel_rfl) (by kernel_rfl) (fun _ _ _ h => h) (Or.inl ⟨by rfl, ?h0⟩) hHeld ?r0
  case h0 => (intro w0 hSw; (try dsimp only at hSw); go_simp; first | done | with_reducible rfl)
  case r0 =>
  try simp only [Act.put, List.getElem_toArray, List.getElem_cons_zero, List.setIfInBounds_toArray, List.set_cons_zero, List.set_cons_succ]
  refine wpAnyH_take (i := 1) (oi := _) (v := ?v1) rfl (by kernel_rfl) (by kernel_rfl) (by kernel_rfl) (fun _ _ _ h => h) (Or.inl ⟨by rfl, ?h1⟩) hHeld ?r1
  case h1 => (intro w0 hSw; (try dsimp only at hSw); go_simp; first | done | with_reducible rfl)
  case r1 =>
  try simp only [Act.put, List.getElem_toArray, List.getElem_cons_succ, List.getElem_cons_zero, List.setIfInBounds_toArray, List.set_cons_zero, List.set_cons_succ]
  refine wpAnyH_take (i := 2) (oi := _) (v := ?v2) rfl (by kernel_rfl) (by kernel_rfl) (by kernel_rfl) (fun _ _ _ h => h) (Or.inl ⟨by rfl, ?h2⟩) hHeld ?r2
  case h2 => (intro w0 hSw; (try dsimp only at hSw); go_simp; first | done | with_reducible rfl)
  case r2 =>
  try simp only [Act.put, List.getElem_toArray, List.getElem_cons_succ, List.getElem_cons_zero, List.setIfInBounds_toArray, List.set_cons_zero, List.set_cons_succ]
  refine wpAnyH_take (i := 4) (oi := _) (v := ?v4) rfl (by kernel_rfl) (by kernel_rfl) (by kernel_rfl) (fun _ _ _ h => h) (Or.inl ⟨by rfl, ?h4⟩) hHeld ?r4
  case h4 => (intro w0 hSw; (try dsimp only at hSw); go_simp; first | done | with_reducible rfl)
  case r4 =>
  try simp only [Act.put, List.getElem_toArray, List.getElem_cons_succ, List.getElem_cons_zero, List.setIfInBounds_toArray, List.set_cons_zero, List.set_cons_succ]
  refine wpAnyH_take (i := 5) (oi := _) (v := ?v5) rfl (by kernel_rfl) (by kernel_rfl) (by kernel_rfl) (fun _ _ _ h => h) (Or.inl ⟨by rfl, ?h5⟩) hHeld ?r5
  case h5 => (intro w0 hSw; (try dsimp only at hSw); go_simp; first | done | with_reducible rfl)
  case r5 =>
  try simp only [Act.put, List.getElem_toArray, List.getElem_cons_succ, List.getElem_cons_zero, List.setIfInBounds_toArray, List.set_cons_zero, List.set_cons_succ]
  refine wpAnyH_take (i := 6) (oi := _) (v := ?v6) rfl (by kernel_rfl) (by kernel_rfl) (by kernel_rfl) (fun _ _ _ h => h) (Or.inl ⟨by rfl, ?h6⟩) hHeld ?r6
  case h6 => (intro w0 hSw; (try dsimp only at hSw); go_simp; first | done | with_reducible rfl)
  case r6 =>
  try simp only [Act.put, List.getElem_toArray, List.getElem_cons_succ, List.getElem_cons_zero, List.setIfInBounds_toArray, List.set_cons_zero, List.set_cons_succ]
  refine wpAnyH_take (i := 7) (oi := _) (v := ?v7) rfl (by kernel_rfl) (by kernel_rfl) (by kernel_rfl) (fun _ _ _ h => h) (Or.inl ⟨by rfl, ?h7⟩) hHeld ?r7
  case h7 => (intro w0 hSw; (try dsimp only at hSw); go_simp; first | done | with_reducible rfl)
  case r7 =>
  try simp only [Act.put, List.getElem_toArray, List.getElem_cons_succ, List.getElem_cons_zero, List.setIfInBounds_toArray, List.set_cons_zero, List.set_cons_succ]
  refine wpAnyH_take (i := 8) (oi := _) (v := ?v8) rfl (by kernel_rfl) (by kernel_rfl) (by kernel_rfl) (fun _ _ _ h => h) (Or.inl ⟨by rfl, ?h8⟩) hHeld ?r8
  case h8 => (intro w0 hSw; (try dsimp only at hSw); go_simp; first | done | with_reducible rfl)
  case r8 =>
  try simp only [Act.put, List.getElem_toArray, List.getElem_cons_succ, List.getElem_cons_zero, List.setIfInBounds_toArray, List.set_cons_zero, List.set_cons_succ]
  refine wpAnyH_take (i := 9) (oi := _) (v := ?v9) rfl (by kernel_rfl) (by kernel_rfl) (by kernel_rfl) (fun _ _ _ h => h) (Or.inl ⟨by rfl, ?h9⟩) hHeld ?r9
  case h9 => (intro w0 hSw; (try dsimp only at hSw); go_simp; first | done | with_reducible rfl)
  case r9 =>
  try simp only [Act.put, List.getElem_toArray, List.getElem_cons_succ, List.getElem_cons_zero, List.setIfInBounds_toArray, List.set_cons_zero, List.set_cons_succ]
  refine wpAnyH_take (i := 10) (oi := _) (v := ?v10) rfl (by kernel_rfl) (by kernel_rfl) (by kernel_rfl) (fun _ _ _ h => h) (Or.inl ⟨by rfl, ?h10⟩) hHeld ?r10
  case h10 => (intro w0 hSw; (try dsimp only at hSw); go_simp; first | done | with_reducible rfl)
  case r10 =>
  try simp only [Act.put, List.getElem_toArray, List.getElem_cons_succ, List.getElem_cons_zero, List.setIfInBounds_toArray, List.set_cons_zero, List.set_cons_succ]
  refine wpAnyH_take (i := 11) (oi := _) (v := ?v11) rfl (by kernel_rfl) (by kernel_rfl) (by kernel_rfl) (fun _ _ _ h => h) (Or.inl ⟨by rfl, ?h11⟩) hHeld ?r11
  case h11 => (intro w0 hSw; (try dsimp only at hSw); go_simp; first | done | with_reducible rfl)
  case r11 =>
  try simp only [Act.put, List.getElem_toArray, List.getElem_cons_succ, List.getElem_cons_zero, List.setIfInBounds_toArray, List.set_cons_zero, List.set_cons_succ]
  refine wpAnyH_take (i := 12) (oi := _) (v := ?v12) rfl (by kernel_rfl) (by kernel_rfl) (by kernel_rfl) (fun _ _ _ h => h) (Or.inl ⟨by rfl, ?h12⟩) hHeld ?r12
  case h12 => (intro w0 hSw; (try dsimp only at hSw); go_simp; first | done | with_reducible rfl)
  case r12 =>
  try simp only [Act.put, List.getElem_toArray, List.getElem_cons_succ, List.getElem_cons_zero, List.setIfInBounds_toArray, List.set_cons_zero, List.set_cons_succ]
  refine wpAnyH_take (i := 13) (oi := _) (v := ?v13) rfl (by kernel_rfl) (by kernel_rfl) (by kernel_rfl) (fun _ _ _ h => h) (Or.inl ⟨by rfl, ?h13⟩) hHeld ?r13
  case h13 => (intro w0 hSw; (try dsimp only at hSw); go_simp; first | done | with_reducible rfl)
  case r13 =>
  try simp only [Act.put, List.getElem_toArray, List.getElem_cons_succ, List.getElem_cons_zero, List.setIfInBounds_toArray, List.set_cons_zero, List.set_cons_succ]
  refine wpAnyH_ready (rs := [3]) (by kernel_rfl) (by simp) ?_
  refine AllReadyH.cons (o := _) rfl (fun K hK => ?_) AllReadyH.nil
  go_simp
  refine hK.out _ _ ?_ (fun hHeld => ?_)
  · exact HS.out _ ((Only.refl _ _).drew)
  clear hK K
  try simp only [Act.put, List.getElem_toArray, List.getElem_cons_succ, List.getElem_cons_zero, List.setIfInBounds_toArray, List.set_cons_zero, List.set_cons_succ]
  refine wpAnyH_ready (rs := [14]) (by kernel_rfl) (by simp) ?_
  refine AllReadyH.cons (o := _) rfl (fun K hK => ?_) AllReadyH.nil
  go_simp
  go_at_call 22
  with_reducible refine (HR.out _ (by first | with_reducible exact (Below.refl _ _).drew | with_reducible exact Below.refl _ _)).mono ?_
  rintro y w3 ⟨A', n', c', p', rfl, G3, ⟨⟨s0, s0z⟩, s1, s1z⟩, w4, e4, G4, GE⟩
  go_wp2_with fail
  refine hK.out _ _ ?_ (fun hHeld => ?_)
  · exact HS.out _ (G3.out)
  clear hK K
  try simp only [Act.put, List.getElem_toArray, List.getElem_cons_succ, List.getElem_cons_zero, List.setIfInBounds_toArray, List.set_cons_zero, List.set_cons_succ]
  refine wpAnyH_take (i := 15) (oi := _) (v := ?v15) rfl (by kernel_rfl) (by kernel_rfl) (by kernel_rfl) (fun _ _ _ h => h) (Or.inl ⟨by rfl, ?h15⟩) hHeld ?r15
  case h15 => (intro w0 hSw; (try dsimp only at hSw); go_simp; first | done | with_reducible rfl)
  case r15 =>
  try simp only [Act.put, List.getElem_toArray, List.getElem_cons_succ, List.getElem_cons_zero, List.setIfInBounds_toArray, List.set_cons_zero, List.set_cons_succ]
  refine wpAnyH_take (i := 16) (oi := _) (v := ?v16) rfl (by kernel_rfl) (by kernel_rfl) (by kernel_rfl) (fun _ _ _ h => h) (Or.inl ⟨by rfl, ?h16⟩) hHeld ?r16
  case h16 => (intro w0 hSw; (try dsimp only at hSw); go_simp; first | done | with_reducible rfl)
  case r16 =>
  try simp only [Act.put, List.getElem_toArray, List.getElem_cons_succ, List.getElem_cons_zero, List.setIfInBounds_toArray, List.set_cons_zero, List.set_cons_succ]
  refine wpAnyH_take (i := 17) (oi := _) (v := ?v17) rfl (by kernel_rfl) (by kernel_rfl) (by kernel_rfl) (fun _ _ _ h => h) (Or.inl ⟨by rfl, ?h17⟩) hHeld ?r17
  case h17 => (intro w0 hSw; (try dsimp only at hSw); go_simp; first | done | with_reducible rfl)
  case r17 =>
  try simp only [Act.put, List.getElem_toArray, List.getElem_cons_succ, List.getElem_cons_zero, List.setIfInBounds_toArray, List.set_cons_zero, List.set_cons_succ]
  refine wpAnyH_take (i := 18) (oi := _) (v := ?v18) rfl (by kernel_rfl) (by kernel_rfl) (by kernel_rfl) (fun _ _ _ h => h) (Or.inl ⟨by rfl, ?h18⟩) hHeld ?r18
  case h18 => (intro w0 hSw; (try dsimp only at hSw); go_simp; first | done | with_reducible rfl)
  case r18 =>
  try simp only [Act.put, List.getElem_toArray, List.getElem_cons_succ, List.getElem_cons_zero, List.setIfInBounds_toArray, List.set_cons_zero, List.set_cons_succ]
  refine wpAnyH_ready (rs := [19]) (by kernel_rfl) (by simp) ?_
  refine AllReadyH.cons (o := _) rfl (fun K hK => ?_) AllReadyH.nil
  go_simp
  refine hK.out _ _ ?_ (fun hHeld => ?_)
  · exact HS.out _ (G4.out)
  clear hK K
  try simp only [Act.put, List.getElem_toArray, List.getElem_cons_succ, List.getElem_cons_zero, List.setIfInBounds_toArray, List.set_cons_zero, List.set_cons_succ]
  refine wpAnyH_take (i := 20) (oi := _) (v := ?v20) rfl (by kernel_rfl) (by kernel_rfl) (by kernel_rfl) (fun _ _ _ h => h) (Or.inl ⟨by rfl, ?h20⟩) hHeld ?r20
  case h20 => (intro w0 hSw; (try dsimp only at hSw); go_simp; first | done | with_reducible rfl)
  case r20 =>
  try simp only [Act.put, List.getElem_toArray, List.getElem_cons_succ, List.getElem_cons_zero, List.setIfInBounds_toArray, List.set_cons_zero, List.set_cons_succ]
  refine wpAnyH_done (by kernel_rfl) ?_ _
  have H5 := Lib.hid (nil_are w4)
  clear e4 d0 d1 s0 s0z s1 s1z HR HS hHeld
  go_wp2_with (go_at_call 29; refine H5.out.mono ?_; rintro z w5 ⟨rfl, h5⟩; have G5 := Lib.hid h5; clear h5)
  go_ret
  exact done_end HwW.out O2.out G4.out GE.out HP.out G5.out rfl
set_option maxRecDepth 100000 in
set_option maxHeartbeats 4000000 in
theorem does_give (H : St B b rb D A n c w) (hp : D.p ≤ 100) (e s t u : Int) {N : Int} (hN : N < 9223372036854775808) (k o r : Int) :
    Calls Try.prog 9 #[.pointer (some ⟨b, 0, none⟩), .pointer (some ⟨rb, 0, none⟩), .agg #[.int .i64 2, .int .i64 e, .int .i64 s, .int .i64 t, .int .i64 u, .int .i64 N, .int .i64 k, .int .i64 o, .int .i64 r]] w (Done B b rb (D.p + 1) w) := by
  obtain ⟨W, hW⟩ : ∃ W, w.alloc (.cells #[.int .i64 2, .int .i64 e, .int .i64 s, .int .i64 t, .int .i64 u, .int .i64 N, .int .i64 k, .int .i64 o, .int .i64 r] 39 (0, 0)) = W := ⟨_, rfl⟩
  have hwW : Below w.heap.size w W := by
    rw [← hW]
    exact (Below.refl _ _).alloc (Nat.le_refl _) _
  have HW : St B b rb D A n c W := H.below hwW
  have hbl : b < w.heap.size := H.ltb
  have hrl : rb < w.heap.size := H.ltr
  have hbx : W.heap[w.heap.size]? = some (.cells #[.int .i64 2, .int .i64 e, .int .i64 s, .int .i64 t, .int .i64 u, .int .i64 N, .int .i64 k, .int .i64 o, .int .i64 r] 39 (0, 0)) := by
    rw [← hW]
    exact heap_alloc_new w _
  have hlt : w.heap.size < W.heap.size := lt_of_blk hbx
  obtain ⟨F', hF⟩ : ∃ F', brF D.fo e s t u N 4 = F' := ⟨_, rfl⟩
  obtain ⟨E, hE⟩ : ∃ E, brE D.fo e s t u N 4 = E := ⟨_, rfl⟩
  have hFp : F'.p ≤ D.p + 1 := by
    rw [← hF]
    exact brF_p _ _ _ _ _ _ _
  have HC : Hid (Calls Try.prog 18 #[.pointer (some ⟨b, 0, none⟩), .int .i64 e, .int .i64 s, .int .i64 t, .int .i64 u, .int .i64 N] W fun y w2 => y = .returned (.int .i64 E) ∧ (w2.cell? ⟨rb, 0, none⟩ = some (.slice A n c) ∧ w2.cell? ⟨rb, 1, none⟩ = some (.int .i64 (D.p : Nat))) ∧ (w2.cell? ⟨w.heap.size, 0, none⟩ = some (.int .i64 2) ∧ w2.cell? ⟨w.heap.size, 1, none⟩ = some (.int .i64 e) ∧ w2.cell? ⟨w.heap.size, 2, none⟩ = some (.int .i64 s) ∧ w2.cell? ⟨w.heap.size, 3, none⟩ = some (.int .i64 t) ∧ w2.cell? ⟨w.heap.size, 4, none⟩ = some (.int .i64 u) ∧ w2.cell? ⟨w.heap.size, 5, none⟩ = some (.int .i64 N) ∧ w2.cell? ⟨w.heap.size, 6, none⟩ = some (.int .i64 k) ∧ w2.cell? ⟨w.heap.size, 7, none⟩ = some (.int .i64 o) ∧ w2.cell? ⟨w.heap.size, 8, none⟩ = some (.int .i64 r)) ∧ Hid (Only (· = b) W w2) ∧ Hid (∀ w', Only (· = rb) w2 w' → Only (· = rb) w2 w' ∧ (w'.cell? ⟨w.heap.size, 0, none⟩ = some (.int .i64 2) ∧ w'.cell? ⟨w.heap.size, 1, none⟩ = some (.int .i64 e) ∧ w'.cell? ⟨w.heap.size, 2, none⟩ = some (.int .i64 s) ∧ w'.cell? ⟨w.heap.size, 3, none⟩ = some (.int .i64 t) ∧ w'.cell? ⟨w.heap.size, 4, none⟩ = some (.int .i64 u) ∧ w'.cell? ⟨w.heap.size, 5, none⟩ = some (.int .i64 N) ∧ w'.cell? ⟨w.heap.size, 6, none⟩ = some (.int .i64 k) ∧ w'.cell? ⟨w.heap.size, 7, none⟩ = some (.int .i64 o) ∧ w'.cell? ⟨w.heap.size, 8, none⟩ = some (.int .i64 r))) ∧ Hid (∀ w', Below w2.heap.size w2 w' → Calls Try.prog 22 #[.agg #[.slice A n c, .int .i64 (D.p : Nat)], .int .i64 e, .int .i64 s, .int .i64 t, .int .i64 u, .int .i64 N, .bool true] w' fun y w3 => ∃ A' n' c' p', y = .returned (.tuple #[.agg #[.slice A' n' c', .int .i64 ((p' : Nat) : Int)], .int .i64 E]) ∧ Hid (Only (· = rb) w2 w3) ∧ ((w3.cell? ⟨rb, 0, none⟩ = some (.slice A n c) ∧ w3.frozen? ⟨rb, 0, none⟩ = false) ∧ w3.cell? ⟨rb, 1, none⟩ = some (.int .i64 (D.p : Nat)) ∧ w3.frozen? ⟨rb, 1, none⟩ = false) ∧ ∃ w4, (w3.setCell ⟨rb, 0, none⟩ (.slice A' n' c')).setCell ⟨rb, 1, none⟩ (.int .i64 ((p' : Nat) : Int)) = w4 ∧ Hid (Only (· = rb) w2 w4) ∧ Hid (∃ D', St B b rb D' A' n' c' w4 ∧ D'.fo = F'))) := Lib.hid (by
    have h1 := give_any HW.fo (show D.fo.p < 1000000 from Nat.lt_of_le_of_lt hp (by omega)) e s t u hN
    have h2 := fun w2 w' (O2 : Only (· = b) W w2) (h' : Below w2.heap.size w2 w') => rpass_u (S := Sz B b rb w2) (w := w') HW.inv ((HW.doc_only O2).2.kept (fun k hk => h'.block k (sz_lt k hk)) (fun _ h => h)) (fun k hk => Nat.lt_of_lt_of_le (sz_lt k hk) h'.size) (Nat.le_trans hp (by omega)) e s t u hN true (N := 4) rfl
    rw [hF, hE] at h1
    rw [hF, hE] at h2
    refine h1.mono ?_
    rintro y w2 ⟨rfl, F2, O2⟩
    have hx2 : w2.heap[w.heap.size]? = some (.cells #[.int .i64 2, .int .i64 e, .int .i64 s, .int .i64 t, .int .i64 u, .int .i64 N, .int .i64 k, .int .i64 o, .int .i64 r] 39 (0, 0)) := (O2.block _ hlt (fun e => by omega)).trans hbx
    obtain ⟨⟨d0, -⟩, d1, -⟩ := dbox_cells (HW.doc_only O2).1
    refine ⟨rfl, ⟨d0, d1⟩, ⟨(bx_cell (j := 0) hx2 rfl).1, (bx_cell (j := 1) hx2 rfl).1, (bx_cell (j := 2) hx2 rfl).1, (bx_cell (j := 3) hx2 rfl).1, (bx_cell (j := 4) hx2 rfl).1, (bx_cell (j := 5) hx2 rfl).1, (bx_cell (j := 6) hx2 rfl).1, (bx_cell (j := 7) hx2 rfl).1, (bx_cell (j := 8) hx2 rfl).1⟩, Lib.hid O2, Lib.hid fun w' O3 => ⟨O3, ?_⟩, Lib.hid fun w' h' => (h2 w2 w' O2 h').mono fun y w3 h => st_act HW O2 F2 h' h⟩
    have hx3 : w'.heap[w.heap.size]? = some (.cells #[.int .i64 2, .int .i64 e, .int .i64 s, .int .i64 t, .int .i64 u, .int .i64 N, .int .i64 k, .int .i64 o, .int .i64 r] 39 (0, 0)) := (O3.block _ (Nat.lt_of_lt_of_le hlt O2.size) (fun e => by omega)).trans hx2
    exact ⟨(bx_cell (j := 0) hx3 rfl).1, (bx_cell (j := 1) hx3 rfl).1, (bx_cell (j := 2) hx3 rfl).1, (bx_cell (j := 3) hx3 rfl).1, (bx_cell (j := 4) hx3 rfl).1, (bx_cell (j := 5) hx3 rfl).1, (bx_cell (j := 6) hx3 rfl).1, (bx_cell (j := 7) hx3 rfl).1, (bx_cell (j := 8) hx3 rfl).1⟩)
  obtain ⟨a0, a1, a2, a3, a4, a5, a6, a7, a8⟩ : W.cell? ⟨w.heap.size, 0, none⟩ = some (.int .i64 2) ∧ W.cell? ⟨w.heap.size, 1, none⟩ = some (.int .i64 e) ∧ W.cell? ⟨w.heap.size, 2, none⟩ = some (.int .i64 s) ∧ W.cell? ⟨w.heap.size, 3, none⟩ = some (.int .i64 t) ∧ W.cell? ⟨w.heap.size, 4, none⟩ = some (.int .i64 u) ∧ W.cell? ⟨w.heap.size, 5, none⟩ = some (.int .i64 N) ∧ W.cell? ⟨w.heap.size, 6, none⟩ = some (.int .i64 k) ∧ W.cell? ⟨w.heap.size, 7, none⟩ = some (.int .i64 o) ∧ W.cell? ⟨w.heap.size, 8, none⟩ = some (.int .i64 r) := ⟨(bx_cell (j := 0) hbx rfl).1, (bx_cell (j := 1) hbx rfl).1, (bx_cell (j := 2) hbx rfl).1, (bx_cell (j := 3) hbx rfl).1, (bx_cell (j := 4) hbx rfl).1, (bx_cell (j := 5) hbx rfl).1, (bx_cell (j := 6) hbx rfl).1, (bx_cell (j := 7) hbx rfl).1, (bx_cell (j := 8) hbx rfl).1⟩
  have HwW := Lib.hid hwW
  have HP := Lib.hid hFp
  have Hrl : Hid (rb < W.heap.size) := Lib.hid (by omega)
  have HWe := Lib.hid hW
  clear hW hwW HW hbl hrl hbx hlt H hp hFp hF hE
  go_enter Try.func9, Try.ntmps9
  go_wp2_with fail
  rw [show w.alloc (.cells #[.int .i64 2, .int .i64 e, .int .i64 s, .int .i64 t, .int .i64 u, .int .i64 N, .int .i64 k, .int .i64 o, .int .i64 r] 39 (0, 0)) = W from HWe.out]
  refine HC.out.mono ?_
  rintro y w2 ⟨rfl, ⟨d0, d1⟩, ⟨b0, b1, b2, b3, b4, b5, b6, b7, b8⟩, O2, HS, HR⟩
  clear a0 a1 a2 a3 a4 a5 a6 a7 a8
  go_upto_region 12 with (fail)
  refine wp_region_held_drew (S := fun w' => Only (· = rb) w2 w' ∧ (w'.cell? ⟨w.heap.size, 0, none⟩ = some (.int .i64 2) ∧ w'.cell? ⟨w.heap.size, 1, none⟩ = some (.int .i64 e) ∧ w'.cell? ⟨w.heap.size, 2, none⟩ = some (.int .i64 s) ∧ w'.cell? ⟨w.heap.size, 3, none⟩ = some (.int .i64 t) ∧ w'.cell? ⟨w.heap.size, 4, none⟩ = some (.int .i64 u) ∧ w'.cell? ⟨w.heap.size, 5, none⟩ = some (.int .i64 N) ∧ w'.cell? ⟨w.heap.size, 6, none⟩ = some (.int .i64 k) ∧ w'.cell? ⟨w.heap.size, 7, none⟩ = some (.int .i64 o) ∧ w'.cell? ⟨w.heap.size, 8, none⟩ = some (.int .i64 r))) (by kernel_rfl) ?_ (fun hHeld => ?_)
  · exact HS.out _ (Only.refl _ _).drew
  refine wpAnyH_take (i := 0) (oi := _) (v := ?v0) rfl (by kernel_rfl) (by kernel_rfl) (by kernel_rfl) (fun _ _ _ h => h) (Or.inl ⟨by rfl, ?h0⟩) hHeld ?r0
  case h0 => (intro w0 hSw; (try dsimp only at hSw); go_simp; first | done | with_reducible rfl)
  case r0 =>
  try simp only [Act.put, List.getElem_toArray, List.getElem_cons_zero, List.setIfInBounds_toArray, List.set_cons_zero, List.set_cons_succ]
  refine wpAnyH_take (i := 1) (oi := _) (v := ?v1) rfl (by kernel_rfl) (by kernel_rfl) (by kernel_rfl) (fun _ _ _ h => h) (Or.inl ⟨by rfl, ?h1⟩) hHeld ?r1
  case h1 => (intro w0 hSw; (try dsimp only at hSw); go_simp; first | done | with_reducible rfl)
  case r1 =>
  try simp only [Act.put, List.getElem_toArray, List.getElem_cons_succ, List.getElem_cons_zero, List.setIfInBounds_toArray, List.set_cons_zero, List.set_cons_succ]
  refine wpAnyH_take (i := 2) (oi := _) (v := ?v2) rfl (by kernel_rfl) (by kernel_rfl) (by kernel_rfl) (fun _ _ _ h => h) (Or.inl ⟨by rfl, ?h2⟩) hHeld ?r2
  case h2 => (intro w0 hSw; (try dsimp only at hSw); go_simp; first | done | with_reducible rfl)
  case r2 =>
  try simp only [Act.put, List.getElem_toArray, List.getElem_cons_succ, List.getElem_cons_zero, List.setIfInBounds_toArray, List.set_cons_zero, List.set_cons_succ]
  refine wpAnyH_take (i := 4) (oi := _) (v := ?v4) rfl (by kernel_rfl) (by kernel_rfl) (by kernel_rfl) (fun _ _ _ h => h) (Or.inl ⟨by rfl, ?h4⟩) hHeld ?r4
  case h4 => (intro w0 hSw; (try dsimp only at hSw); go_simp; first | done | with_reducible rfl)
  case r4 =>
  try simp only [Act.put, List.getElem_toArray, List.getElem_cons_succ, List.getElem_cons_zero, List.setIfInBounds_toArray, List.set_cons_zero, List.set_cons_succ]
  refine wpAnyH_take (i := 5) (oi := _) (v := ?v5) rfl (by kernel_rfl) (by kernel_rfl) (by kernel_rfl) (fun _ _ _ h => h) (Or.inl ⟨by rfl, ?h5⟩) hHeld ?r5
  case h5 => (intro w0 hSw; (try dsimp only at hSw); go_simp; first | done | with_reducible rfl)
  case r5 =>
  try simp only [Act.put, List.getElem_toArray, List.getElem_cons_succ, List.getElem_cons_zero, List.setIfInBounds_toArray, List.set_cons_zero, List.set_cons_succ]
  refine wpAnyH_take (i := 6) (oi := _) (v := ?v6) rfl (by kernel_rfl) (by kernel_rfl) (by kernel_rfl) (fun _ _ _ h => h) (Or.inl ⟨by rfl, ?h6⟩) hHeld ?r6
  case h6 => (intro w0 hSw; (try dsimp only at hSw); go_simp; first | done | with_reducible rfl)
  case r6 =>
  try simp only [Act.put, List.getElem_toArray, List.getElem_cons_succ, List.getElem_cons_zero, List.setIfInBounds_toArray, List.set_cons_zero, List.set_cons_succ]
  refine wpAnyH_take (i := 7) (oi := _) (v := ?v7) rfl (by kernel_rfl) (by kernel_rfl) (by kernel_rfl) (fun _ _ _ h => h) (Or.inl ⟨by rfl, ?h7⟩) hHeld ?r7
  case h7 => (intro w0 hSw; (try dsimp only at hSw); go_simp; first | done | with_reducible rfl)
  case r7 =>
  try simp only [Act.put, List.getElem_toArray, List.getElem_cons_succ, List.getElem_cons_zero, List.setIfInBounds_toArray, List.set_cons_zero, List.set_cons_succ]
  refine wpAnyH_take (i := 8) (oi := _) (v := ?v8) rfl (by kernel_rfl) (by kernel_rfl) (by kernel_rfl) (fun _ _ _ h => h) (Or.inl ⟨by rfl, ?h8⟩) hHeld ?r8
  case h8 => (intro w0 hSw; (try dsimp only at hSw); go_simp; first | done | with_reducible rfl)
  case r8 =>
  try simp only [Act.put, List.getElem_toArray, List.getElem_cons_succ, List.getElem_cons_zero, List.setIfInBounds_toArray, List.set_cons_zero, List.set_cons_succ]
  refine wpAnyH_take (i := 9) (oi := _) (v := ?v9) rfl (by kernel_rfl) (by kernel_rfl) (by kernel_rfl) (fun _ _ _ h => h) (Or.inl ⟨by rfl, ?h9⟩) hHeld ?r9
  case h9 => (intro w0 hSw; (try dsimp only at hSw); go_simp; first | done | with_reducible rfl)
  case r9 =>
  try simp only [Act.put, List.getElem_toArray, List.getElem_cons_succ, List.getElem_cons_zero, List.setIfInBounds_toArray, List.set_cons_zero, List.set_cons_succ]
  refine wpAnyH_take (i := 10) (oi := _) (v := ?v10) rfl (by kernel_rfl) (by kernel_rfl) (by kernel_rfl) (fun _ _ _ h => h) (Or.inl ⟨by rfl, ?h10⟩) hHeld ?r10
  case h10 => (intro w0 hSw; (try dsimp only at hSw); go_simp; first | done | with_reducible rfl)
  case r10 =>
  try simp only [Act.put, List.getElem_toArray, List.getElem_cons_succ, List.getElem_cons_zero, List.setIfInBounds_toArray, List.set_cons_zero, List.set_cons_succ]
  refine wpAnyH_take (i := 11) (oi := _) (v := ?v11) rfl (by kernel_rfl) (by kernel_rfl) (by kernel_rfl) (fun _ _ _ h => h) (Or.inl ⟨by rfl, ?h11⟩) hHeld ?r11
  case h11 => (intro w0 hSw; (try dsimp only at hSw); go_simp; first | done | with_reducible rfl)
  case r11 =>
  try simp only [Act.put, List.getElem_toArray, List.getElem_cons_succ, List.getElem_cons_zero, List.setIfInBounds_toArray, List.set_cons_zero, List.set_cons_succ]
  refine wpAnyH_take (i := 12) (oi := _) (v := ?v12) rfl (by kernel_rfl) (by kernel_rfl) (by kernel_rfl) (fun _ _ _ h => h) (Or.inl ⟨by rfl, ?h12⟩) hHeld ?r12
  case h12 => (intro w0 hSw; (try dsimp only at hSw); go_simp; first | done | with_reducible rfl)
  case r12 =>
  try simp only [Act.put, List.getElem_toArray, List.getElem_cons_succ, List.getElem_cons_zero, List.setIfInBounds_toArray, List.set_cons_zero, List.set_cons_succ]
  refine wpAnyH_take (i := 13) (oi := _) (v := ?v13) rfl (by kernel_rfl) (by kernel_rfl) (by kernel_rfl) (fun _ _ _ h => h) (Or.inl ⟨by rfl, ?h13⟩) hHeld ?r13
  case h13 => (intro w0 hSw; (try dsimp only at hSw); go_simp; first | done | with_reducible rfl)
  case r13 =>
  try simp only [Act.put, List.getElem_toArray, List.getElem_cons_succ, List.getElem_cons_zero, List.setIfInBounds_toArray, List.set_cons_zero, List.set_cons_succ]
  refine wpAnyH_ready (rs := [3]) (by kernel_rfl) (by simp) ?_
  refine AllReadyH.cons (o := _) rfl (fun K hK => ?_) AllReadyH.nil
  go_simp
  refine hK.out _ _ ?_ (fun hHeld => ?_)
  · exact HS.out _ ((Only.refl _ _).drew)
  clear hK K
  try simp only [Act.put, List.getElem_toArray, List.getElem_cons_succ, List.getElem_cons_zero, List.setIfInBounds_toArray, List.set_cons_zero, List.set_cons_succ]
  refine wpAnyH_ready (rs := [14]) (by kernel_rfl) (by simp) ?_
  refine AllReadyH.cons (o := _) rfl (fun K hK => ?_) AllReadyH.nil
  go_simp
  go_at_call 22
  with_reducible refine (HR.out _ (by first | with_reducible exact (Below.refl _ _).drew | with_reducible exact Below.refl _ _)).mono ?_
  rintro y w3 ⟨A', n', c', p', rfl, G3, ⟨⟨s0, s0z⟩, s1, s1z⟩, w4, e4, G4, GE⟩
  go_wp2_with fail
  refine hK.out _ _ ?_ (fun hHeld => ?_)
  · exact HS.out _ (G3.out)
  clear hK K
  try simp only [Act.put, List.getElem_toArray, List.getElem_cons_succ, List.getElem_cons_zero, List.setIfInBounds_toArray, List.set_cons_zero, List.set_cons_succ]
  refine wpAnyH_take (i := 15) (oi := _) (v := ?v15) rfl (by kernel_rfl) (by kernel_rfl) (by kernel_rfl) (fun _ _ _ h => h) (Or.inl ⟨by rfl, ?h15⟩) hHeld ?r15
  case h15 => (intro w0 hSw; (try dsimp only at hSw); go_simp; first | done | with_reducible rfl)
  case r15 =>
  try simp only [Act.put, List.getElem_toArray, List.getElem_cons_succ, List.getElem_cons_zero, List.setIfInBounds_toArray, List.set_cons_zero, List.set_cons_succ]
  refine wpAnyH_take (i := 16) (oi := _) (v := ?v16) rfl (by kernel_rfl) (by kernel_rfl) (by kernel_rfl) (fun _ _ _ h => h) (Or.inl ⟨by rfl, ?h16⟩) hHeld ?r16
  case h16 => (intro w0 hSw; (try dsimp only at hSw); go_simp; first | done | with_reducible rfl)
  case r16 =>
  try simp only [Act.put, List.getElem_toArray, List.getElem_cons_succ, List.getElem_cons_zero, List.setIfInBounds_toArray, List.set_cons_zero, List.set_cons_succ]
  refine wpAnyH_take (i := 17) (oi := _) (v := ?v17) rfl (by kernel_rfl) (by kernel_rfl) (by kernel_rfl) (fun _ _ _ h => h) (Or.inl ⟨by rfl, ?h17⟩) hHeld ?r17
  case h17 => (intro w0 hSw; (try dsimp only at hSw); go_simp; first | done | with_reducible rfl)
  case r17 =>
  try simp only [Act.put, List.getElem_toArray, List.getElem_cons_succ, List.getElem_cons_zero, List.setIfInBounds_toArray, List.set_cons_zero, List.set_cons_succ]
  refine wpAnyH_take (i := 18) (oi := _) (v := ?v18) rfl (by kernel_rfl) (by kernel_rfl) (by kernel_rfl) (fun _ _ _ h => h) (Or.inl ⟨by rfl, ?h18⟩) hHeld ?r18
  case h18 => (intro w0 hSw; (try dsimp only at hSw); go_simp; first | done | with_reducible rfl)
  case r18 =>
  try simp only [Act.put, List.getElem_toArray, List.getElem_cons_succ, List.getElem_cons_zero, List.setIfInBounds_toArray, List.set_cons_zero, List.set_cons_succ]
  refine wpAnyH_ready (rs := [19]) (by kernel_rfl) (by simp) ?_
  refine AllReadyH.cons (o := _) rfl (fun K hK => ?_) AllReadyH.nil
  go_simp
  refine hK.out _ _ ?_ (fun hHeld => ?_)
  · exact HS.out _ (G4.out)
  clear hK K
  try simp only [Act.put, List.getElem_toArray, List.getElem_cons_succ, List.getElem_cons_zero, List.setIfInBounds_toArray, List.set_cons_zero, List.set_cons_succ]
  refine wpAnyH_take (i := 20) (oi := _) (v := ?v20) rfl (by kernel_rfl) (by kernel_rfl) (by kernel_rfl) (fun _ _ _ h => h) (Or.inl ⟨by rfl, ?h20⟩) hHeld ?r20
  case h20 => (intro w0 hSw; (try dsimp only at hSw); go_simp; first | done | with_reducible rfl)
  case r20 =>
  try simp only [Act.put, List.getElem_toArray, List.getElem_cons_succ, List.getElem_cons_zero, List.setIfInBounds_toArray, List.set_cons_zero, List.set_cons_succ]
  refine wpAnyH_done (by kernel_rfl) ?_ _
  have H5 := Lib.hid (nil_are w4)
  clear e4 d0 d1 s0 s0z s1 s1z HR HS hHeld
  go_wp2_with (go_at_call 29; refine H5.out.mono ?_; rintro z w5 ⟨rfl, h5⟩; have G5 := Lib.hid h5; clear h5)
  go_ret
  exact done_end HwW.out O2.out G4.out GE.out HP.out G5.out rfl
set_option maxRecDepth 100000 in
set_option maxHeartbeats 4000000 in
theorem does_revoke (H : St B b rb D A n c w) (hp : D.p ≤ 100) (e s t u N k o r : Int) :
    Calls Try.prog 9 #[.pointer (some ⟨b, 0, none⟩), .pointer (some ⟨rb, 0, none⟩), .agg #[.int .i64 3, .int .i64 e, .int .i64 s, .int .i64 t, .int .i64 u, .int .i64 N, .int .i64 k, .int .i64 o, .int .i64 r]] w (Done B b rb (D.p + 1) w) := by
  obtain ⟨W, hW⟩ : ∃ W, w.alloc (.cells #[.int .i64 3, .int .i64 e, .int .i64 s, .int .i64 t, .int .i64 u, .int .i64 N, .int .i64 k, .int .i64 o, .int .i64 r] 39 (0, 0)) = W := ⟨_, rfl⟩
  have hwW : Below w.heap.size w W := by
    rw [← hW]
    exact (Below.refl _ _).alloc (Nat.le_refl _) _
  have HW : St B b rb D A n c W := H.below hwW
  have hbl : b < w.heap.size := H.ltb
  have hrl : rb < w.heap.size := H.ltr
  have hbx : W.heap[w.heap.size]? = some (.cells #[.int .i64 3, .int .i64 e, .int .i64 s, .int .i64 t, .int .i64 u, .int .i64 N, .int .i64 k, .int .i64 o, .int .i64 r] 39 (0, 0)) := by
    rw [← hW]
    exact heap_alloc_new w _
  have hlt : w.heap.size < W.heap.size := lt_of_blk hbx
  obtain ⟨F', hF⟩ : ∃ F', revF D.fo e s = F' := ⟨_, rfl⟩
  obtain ⟨E, hE⟩ : ∃ E, revE D.fo e s = E := ⟨_, rfl⟩
  obtain ⟨Wl, hWl⟩ : ∃ Wl, revW D.fo e s = Wl := ⟨_, rfl⟩
  have hFp : F'.p ≤ D.p + 1 := by
    rw [← hF]
    exact Nat.le_succ_of_le (Nat.le_of_eq (revF_p D.fo e s))
  have HC : Hid (Calls Try.prog 19 #[.pointer (some ⟨b, 0, none⟩), .int .i64 e, .int .i64 s] W fun y w2 => ∃ A0 n0 c0, y = .returned (.tuple #[.slice A0 n0 c0, .int .i64 E]) ∧ Hid (Slots Wl W A0 n0 c0 w2) ∧ (w2.cell? ⟨rb, 0, none⟩ = some (.slice A n c) ∧ w2.cell? ⟨rb, 1, none⟩ = some (.int .i64 (D.p : Nat))) ∧ (w2.cell? ⟨w.heap.size, 0, none⟩ = some (.int .i64 3) ∧ w2.cell? ⟨w.heap.size, 1, none⟩ = some (.int .i64 e) ∧ w2.cell? ⟨w.heap.size, 2, none⟩ = some (.int .i64 s) ∧ w2.cell? ⟨w.heap.size, 3, none⟩ = some (.int .i64 t) ∧ w2.cell? ⟨w.heap.size, 4, none⟩ = some (.int .i64 u) ∧ w2.cell? ⟨w.heap.size, 5, none⟩ = some (.int .i64 N) ∧ w2.cell? ⟨w.heap.size, 6, none⟩ = some (.int .i64 k) ∧ w2.cell? ⟨w.heap.size, 7, none⟩ = some (.int .i64 o) ∧ w2.cell? ⟨w.heap.size, 8, none⟩ = some (.int .i64 r)) ∧ Hid (Only (· = b) W w2) ∧ Hid (∀ w', Only (· = rb) w2 w' → Only (· = rb) w2 w' ∧ (w'.cell? ⟨w.heap.size, 0, none⟩ = some (.int .i64 3) ∧ w'.cell? ⟨w.heap.size, 1, none⟩ = some (.int .i64 e) ∧ w'.cell? ⟨w.heap.size, 2, none⟩ = some (.int .i64 s) ∧ w'.cell? ⟨w.heap.size, 3, none⟩ = some (.int .i64 t) ∧ w'.cell? ⟨w.heap.size, 4, none⟩ = some (.int .i64 u) ∧ w'.cell? ⟨w.heap.size, 5, none⟩ = some (.int .i64 N) ∧ w'.cell? ⟨w.heap.size, 6, none⟩ = some (.int .i64 k) ∧ w'.cell? ⟨w.heap.size, 7, none⟩ = some (.int .i64 o) ∧ w'.cell? ⟨w.heap.size, 8, none⟩ = some (.int .i64 r))) ∧ Hid (∀ w', Below w2.heap.size w2 w' → Calls Try.prog 23 #[.agg #[.slice A n c, .int .i64 (D.p : Nat)], .int .i64 e, .int .i64 s] w' fun y w3 => ∃ A' n' c' p' G m cg, y = .returned (.tuple #[.agg #[.slice A' n' c', .int .i64 ((p' : Nat) : Int)], .slice G m cg, .int .i64 E]) ∧ Hid (Only (· = rb) w2 w3) ∧ ((w3.cell? ⟨rb, 0, none⟩ = some (.slice A n c) ∧ w3.frozen? ⟨rb, 0, none⟩ = false) ∧ w3.cell? ⟨rb, 1, none⟩ = some (.int .i64 (D.p : Nat)) ∧ w3.frozen? ⟨rb, 1, none⟩ = false) ∧ ∃ w4, (w3.setCell ⟨rb, 0, none⟩ (.slice A' n' c')).setCell ⟨rb, 1, none⟩ (.int .i64 ((p' : Nat) : Int)) = w4 ∧ Hid (Only (· = rb) w2 w4) ∧ Hid ((∃ D', St B b rb D' A' n' c' w4 ∧ D'.fo = F') ∧ Rows Wl G m cg w4))) := Lib.hid (by
    have h1 := revoke_u HW.fo e s
    have h2 := fun w2 w' (O2 : Only (· = b) W w2) (h' : Below w2.heap.size w2 w') => rrevoke_v (S := Sz B b rb w2) (w := w') HW.inv ((HW.doc_only O2).2.kept (fun k hk => h'.block k (sz_lt k hk)) (fun _ h => h)) (fun k hk => Nat.lt_of_lt_of_le (sz_lt k hk) h'.size) (Nat.le_trans hp (by omega)) e s
    rw [hF, hE, hWl] at h1
    rw [hF, hE, hWl] at h2
    refine h1.mono ?_
    rintro y w2 ⟨A0, n0, c0, rfl, hs, F2, O2⟩
    have hx2 : w2.heap[w.heap.size]? = some (.cells #[.int .i64 3, .int .i64 e, .int .i64 s, .int .i64 t, .int .i64 u, .int .i64 N, .int .i64 k, .int .i64 o, .int .i64 r] 39 (0, 0)) := (O2.block _ hlt (fun e => by omega)).trans hbx
    obtain ⟨⟨d0, -⟩, d1, -⟩ := dbox_cells (HW.doc_only O2).1
    refine ⟨A0, n0, c0, rfl, Lib.hid hs, ⟨d0, d1⟩, ⟨(bx_cell (j := 0) hx2 rfl).1, (bx_cell (j := 1) hx2 rfl).1, (bx_cell (j := 2) hx2 rfl).1, (bx_cell (j := 3) hx2 rfl).1, (bx_cell (j := 4) hx2 rfl).1, (bx_cell (j := 5) hx2 rfl).1, (bx_cell (j := 6) hx2 rfl).1, (bx_cell (j := 7) hx2 rfl).1, (bx_cell (j := 8) hx2 rfl).1⟩, Lib.hid O2, Lib.hid fun w' O3 => ⟨O3, ?_⟩, Lib.hid fun w' h' => (h2 w2 w' O2 h').mono fun y w3 h => st_gone HW O2 F2 h' h⟩
    have hx3 : w'.heap[w.heap.size]? = some (.cells #[.int .i64 3, .int .i64 e, .int .i64 s, .int .i64 t, .int .i64 u, .int .i64 N, .int .i64 k, .int .i64 o, .int .i64 r] 39 (0, 0)) := (O3.block _ (Nat.lt_of_lt_of_le hlt O2.size) (fun e => by omega)).trans hx2
    exact ⟨(bx_cell (j := 0) hx3 rfl).1, (bx_cell (j := 1) hx3 rfl).1, (bx_cell (j := 2) hx3 rfl).1, (bx_cell (j := 3) hx3 rfl).1, (bx_cell (j := 4) hx3 rfl).1, (bx_cell (j := 5) hx3 rfl).1, (bx_cell (j := 6) hx3 rfl).1, (bx_cell (j := 7) hx3 rfl).1, (bx_cell (j := 8) hx3 rfl).1⟩)
  obtain ⟨a0, a1, a2, a3, a4, a5, a6, a7, a8⟩ : W.cell? ⟨w.heap.size, 0, none⟩ = some (.int .i64 3) ∧ W.cell? ⟨w.heap.size, 1, none⟩ = some (.int .i64 e) ∧ W.cell? ⟨w.heap.size, 2, none⟩ = some (.int .i64 s) ∧ W.cell? ⟨w.heap.size, 3, none⟩ = some (.int .i64 t) ∧ W.cell? ⟨w.heap.size, 4, none⟩ = some (.int .i64 u) ∧ W.cell? ⟨w.heap.size, 5, none⟩ = some (.int .i64 N) ∧ W.cell? ⟨w.heap.size, 6, none⟩ = some (.int .i64 k) ∧ W.cell? ⟨w.heap.size, 7, none⟩ = some (.int .i64 o) ∧ W.cell? ⟨w.heap.size, 8, none⟩ = some (.int .i64 r) := ⟨(bx_cell (j := 0) hbx rfl).1, (bx_cell (j := 1) hbx rfl).1, (bx_cell (j := 2) hbx rfl).1, (bx_cell (j := 3) hbx rfl).1, (bx_cell (j := 4) hbx rfl).1, (bx_cell (j := 5) hbx rfl).1, (bx_cell (j := 6) hbx rfl).1, (bx_cell (j := 7) hbx rfl).1, (bx_cell (j := 8) hbx rfl).1⟩
  have HwW := Lib.hid hwW
  have HP := Lib.hid hFp
  have Hrl : Hid (rb < W.heap.size) := Lib.hid (by omega)
  have HWe := Lib.hid hW
  clear hW hwW HW hbl hrl hbx hlt H hp hFp hF hE hWl
  go_enter Try.func9, Try.ntmps9
  go_wp2_with fail
  rw [show w.alloc (.cells #[.int .i64 3, .int .i64 e, .int .i64 s, .int .i64 t, .int .i64 u, .int .i64 N, .int .i64 k, .int .i64 o, .int .i64 r] 39 (0, 0)) = W from HWe.out]
  refine HC.out.mono ?_
  rintro y w2 ⟨A0, n0, c0, rfl, hs, ⟨d0, d1⟩, ⟨b0, b1, b2, b3, b4, b5, b6, b7, b8⟩, O2, HS, HR⟩
  clear a0 a1 a2 a3 a4 a5 a6 a7 a8
  go_upto_region 15 with (fail)
  refine wp_region_held_drew (S := fun w' => Only (· = rb) w2 w' ∧ (w'.cell? ⟨w.heap.size, 0, none⟩ = some (.int .i64 3) ∧ w'.cell? ⟨w.heap.size, 1, none⟩ = some (.int .i64 e) ∧ w'.cell? ⟨w.heap.size, 2, none⟩ = some (.int .i64 s) ∧ w'.cell? ⟨w.heap.size, 3, none⟩ = some (.int .i64 t) ∧ w'.cell? ⟨w.heap.size, 4, none⟩ = some (.int .i64 u) ∧ w'.cell? ⟨w.heap.size, 5, none⟩ = some (.int .i64 N) ∧ w'.cell? ⟨w.heap.size, 6, none⟩ = some (.int .i64 k) ∧ w'.cell? ⟨w.heap.size, 7, none⟩ = some (.int .i64 o) ∧ w'.cell? ⟨w.heap.size, 8, none⟩ = some (.int .i64 r))) (by kernel_rfl) ?_ (fun hHeld => ?_)
  · exact HS.out _ (Only.refl _ _).drew
  refine wpAnyH_take (i := 0) (oi := _) (v := ?v0) rfl (by kernel_rfl) (by kernel_rfl) (by kernel_rfl) (fun _ _ _ h => h) (Or.inl ⟨by rfl, ?h0⟩) hHeld ?r0
  case h0 => (intro w0 hSw; (try dsimp only at hSw); go_simp; first | done | with_reducible rfl)
  case r0 =>
  try simp only [Act.put, List.getElem_toArray, List.getElem_cons_zero, List.setIfInBounds_toArray, List.set_cons_zero, List.set_cons_succ]
  refine wpAnyH_take (i := 1) (oi := _) (v := ?v1) rfl (by kernel_rfl) (by kernel_rfl) (by kernel_rfl) (fun _ _ _ h => h) (Or.inl ⟨by rfl, ?h1⟩) hHeld ?r1
  case h1 => (intro w0 hSw; (try dsimp only at hSw); go_simp; first | done | with_reducible rfl)
  case r1 =>
  try simp only [Act.put, List.getElem_toArray, List.getElem_cons_succ, List.getElem_cons_zero, List.setIfInBounds_toArray, List.set_cons_zero, List.set_cons_succ]
  refine wpAnyH_take (i := 2) (oi := _) (v := ?v2) rfl (by kernel_rfl) (by kernel_rfl) (by kernel_rfl) (fun _ _ _ h => h) (Or.inl ⟨by rfl, ?h2⟩) hHeld ?r2
  case h2 => (intro w0 hSw; (try dsimp only at hSw); go_simp; first | done | with_reducible rfl)
  case r2 =>
  try simp only [Act.put, List.getElem_toArray, List.getElem_cons_succ, List.getElem_cons_zero, List.setIfInBounds_toArray, List.set_cons_zero, List.set_cons_succ]
  refine wpAnyH_take (i := 4) (oi := _) (v := ?v4) rfl (by kernel_rfl) (by kernel_rfl) (by kernel_rfl) (fun _ _ _ h => h) (Or.inl ⟨by rfl, ?h4⟩) hHeld ?r4
  case h4 => (intro w0 hSw; (try dsimp only at hSw); go_simp; first | done | with_reducible rfl)
  case r4 =>
  try simp only [Act.put, List.getElem_toArray, List.getElem_cons_succ, List.getElem_cons_zero, List.setIfInBounds_toArray, List.set_cons_zero, List.set_cons_succ]
  refine wpAnyH_take (i := 5) (oi := _) (v := ?v5) rfl (by kernel_rfl) (by kernel_rfl) (by kernel_rfl) (fun _ _ _ h => h) (Or.inl ⟨by rfl, ?h5⟩) hHeld ?r5
  case h5 => (intro w0 hSw; (try dsimp only at hSw); go_simp; first | done | with_reducible rfl)
  case r5 =>
  try simp only [Act.put, List.getElem_toArray, List.getElem_cons_succ, List.getElem_cons_zero, List.setIfInBounds_toArray, List.set_cons_zero, List.set_cons_succ]
  refine wpAnyH_take (i := 6) (oi := _) (v := ?v6) rfl (by kernel_rfl) (by kernel_rfl) (by kernel_rfl) (fun _ _ _ h => h) (Or.inl ⟨by rfl, ?h6⟩) hHeld ?r6
  case h6 => (intro w0 hSw; (try dsimp only at hSw); go_simp; first | done | with_reducible rfl)
  case r6 =>
  try simp only [Act.put, List.getElem_toArray, List.getElem_cons_succ, List.getElem_cons_zero, List.setIfInBounds_toArray, List.set_cons_zero, List.set_cons_succ]
  refine wpAnyH_take (i := 7) (oi := _) (v := ?v7) rfl (by kernel_rfl) (by kernel_rfl) (by kernel_rfl) (fun _ _ _ h => h) (Or.inl ⟨by rfl, ?h7⟩) hHeld ?r7
  case h7 => (intro w0 hSw; (try dsimp only at hSw); go_simp; first | done | with_reducible rfl)
  case r7 =>
  try simp only [Act.put, List.getElem_toArray, List.getElem_cons_succ, List.getElem_cons_zero, List.setIfInBounds_toArray, List.set_cons_zero, List.set_cons_succ]
  refine wpAnyH_ready (rs := [3]) (by kernel_rfl) (by simp) ?_
  refine AllReadyH.cons (o := _) rfl (fun K hK => ?_) AllReadyH.nil
  go_simp
  refine hK.out _ _ ?_ (fun hHeld => ?_)
  · exact HS.out _ ((Only.refl _ _).drew)
  clear hK K
  try simp only [Act.put, List.getElem_toArray, List.getElem_cons_succ, List.getElem_cons_zero, List.setIfInBounds_toArray, List.set_cons_zero, List.set_cons_succ]
  refine wpAnyH_ready (rs := [8]) (by kernel_rfl) (by simp) ?_
  refine AllReadyH.cons (o := _) rfl (fun K hK => ?_) AllReadyH.nil
  go_simp
  go_at_call 23
  with_reducible refine (HR.out _ (by first | with_reducible exact (Below.refl _ _).drew | with_reducible exact Below.refl _ _)).mono ?_
  rintro y w3 ⟨A', n', c', p', G, m, cg, rfl, G3, ⟨⟨s0, s0z⟩, s1, s1z⟩, w4, e4, G4, GE⟩
  go_wp2_with fail
  refine hK.out _ _ ?_ (fun hHeld => ?_)
  · exact HS.out _ (G3.out)
  clear hK K
  try simp only [Act.put, List.getElem_toArray, List.getElem_cons_succ, List.getElem_cons_zero, List.setIfInBounds_toArray, List.set_cons_zero, List.set_cons_succ]
  refine wpAnyH_take (i := 9) (oi := _) (v := ?v9) rfl (by kernel_rfl) (by kernel_rfl) (by kernel_rfl) (fun _ _ _ h => h) (Or.inl ⟨by rfl, ?h9⟩) hHeld ?r9
  case h9 => (intro w0 hSw; (try dsimp only at hSw); go_simp; first | done | with_reducible rfl)
  case r9 =>
  try simp only [Act.put, List.getElem_toArray, List.getElem_cons_succ, List.getElem_cons_zero, List.setIfInBounds_toArray, List.set_cons_zero, List.set_cons_succ]
  refine wpAnyH_take (i := 10) (oi := _) (v := ?v10) rfl (by kernel_rfl) (by kernel_rfl) (by kernel_rfl) (fun _ _ _ h => h) (Or.inl ⟨by rfl, ?h10⟩) hHeld ?r10
  case h10 => (intro w0 hSw; (try dsimp only at hSw); go_simp; first | done | with_reducible rfl)
  case r10 =>
  try simp only [Act.put, List.getElem_toArray, List.getElem_cons_succ, List.getElem_cons_zero, List.setIfInBounds_toArray, List.set_cons_zero, List.set_cons_succ]
  refine wpAnyH_take (i := 11) (oi := _) (v := ?v11) rfl (by kernel_rfl) (by kernel_rfl) (by kernel_rfl) (fun _ _ _ h => h) (Or.inl ⟨by rfl, ?h11⟩) hHeld ?r11
  case h11 => (intro w0 hSw; (try dsimp only at hSw); go_simp; first | done | with_reducible rfl)
  case r11 =>
  try simp only [Act.put, List.getElem_toArray, List.getElem_cons_succ, List.getElem_cons_zero, List.setIfInBounds_toArray, List.set_cons_zero, List.set_cons_succ]
  refine wpAnyH_take (i := 12) (oi := _) (v := ?v12) rfl (by kernel_rfl) (by kernel_rfl) (by kernel_rfl) (fun _ _ _ h => h) (Or.inl ⟨by rfl, ?h12⟩) hHeld ?r12
  case h12 => (intro w0 hSw; (try dsimp only at hSw); go_simp; first | done | with_reducible rfl)
  case r12 =>
  try simp only [Act.put, List.getElem_toArray, List.getElem_cons_succ, List.getElem_cons_zero, List.setIfInBounds_toArray, List.set_cons_zero, List.set_cons_succ]
  refine wpAnyH_take (i := 13) (oi := _) (v := ?v13) rfl (by kernel_rfl) (by kernel_rfl) (by kernel_rfl) (fun _ _ _ h => h) (Or.inl ⟨by rfl, ?h13⟩) hHeld ?r13
  case h13 => (intro w0 hSw; (try dsimp only at hSw); go_simp; first | done | with_reducible rfl)
  case r13 =>
  try simp only [Act.put, List.getElem_toArray, List.getElem_cons_succ, List.getElem_cons_zero, List.setIfInBounds_toArray, List.set_cons_zero, List.set_cons_succ]
  refine wpAnyH_ready (rs := [14]) (by kernel_rfl) (by simp) ?_
  refine AllReadyH.cons (o := _) rfl (fun K hK => ?_) AllReadyH.nil
  go_simp
  refine hK.out _ _ ?_ (fun hHeld => ?_)
  · exact HS.out _ (G4.out)
  clear hK K
  try simp only [Act.put, List.getElem_toArray, List.getElem_cons_succ, List.getElem_cons_zero, List.setIfInBounds_toArray, List.set_cons_zero, List.set_cons_succ]
  refine wpAnyH_take (i := 15) (oi := _) (v := ?v15) rfl (by kernel_rfl) (by kernel_rfl) (by kernel_rfl) (fun _ _ _ h => h) (Or.inl ⟨by rfl, ?h15⟩) hHeld ?r15
  case h15 => (intro w0 hSw; (try dsimp only at hSw); go_simp; first | done | with_reducible rfl)
  case r15 =>
  try simp only [Act.put, List.getElem_toArray, List.getElem_cons_succ, List.getElem_cons_zero, List.setIfInBounds_toArray, List.set_cons_zero, List.set_cons_succ]
  refine wpAnyH_take (i := 16) (oi := _) (v := ?v16) rfl (by kernel_rfl) (by kernel_rfl) (by kernel_rfl) (fun _ _ _ h => h) (Or.inl ⟨by rfl, ?h16⟩) hHeld ?r16
  case h16 => (intro w0 hSw; (try dsimp only at hSw); go_simp; first | done | with_reducible rfl)
  case r16 =>
  try simp only [Act.put, List.getElem_toArray, List.getElem_cons_succ, List.getElem_cons_zero, List.setIfInBounds_toArray, List.set_cons_zero, List.set_cons_succ]
  refine wpAnyH_done (by kernel_rfl) ?_ _
  have H5 := Lib.hid (rows_are hs.out Hrl.out G4.out GE.out.2)
  clear e4 d0 d1 s0 s0z s1 s1z HR HS hHeld
  go_wp2_with (go_at_call 29; refine H5.out.mono ?_; rintro z w5 ⟨rfl, h5⟩; have G5 := Lib.hid h5; clear h5)
  go_ret
  exact done_end HwW.out O2.out G4.out GE.out.1 HP.out G5.out rfl
set_option maxRecDepth 100000 in
set_option maxHeartbeats 4000000 in
theorem does_drop (H : St B b rb D A n c w) (hp : D.p ≤ 100) (e s t u N k o r : Int) :
    Calls Try.prog 9 #[.pointer (some ⟨b, 0, none⟩), .pointer (some ⟨rb, 0, none⟩), .agg #[.int .i64 4, .int .i64 e, .int .i64 s, .int .i64 t, .int .i64 u, .int .i64 N, .int .i64 k, .int .i64 o, .int .i64 r]] w (Done B b rb (D.p + 1) w) := by
  obtain ⟨W, hW⟩ : ∃ W, w.alloc (.cells #[.int .i64 4, .int .i64 e, .int .i64 s, .int .i64 t, .int .i64 u, .int .i64 N, .int .i64 k, .int .i64 o, .int .i64 r] 39 (0, 0)) = W := ⟨_, rfl⟩
  have hwW : Below w.heap.size w W := by
    rw [← hW]
    exact (Below.refl _ _).alloc (Nat.le_refl _) _
  have HW : St B b rb D A n c W := H.below hwW
  have hbl : b < w.heap.size := H.ltb
  have hrl : rb < w.heap.size := H.ltr
  have hbx : W.heap[w.heap.size]? = some (.cells #[.int .i64 4, .int .i64 e, .int .i64 s, .int .i64 t, .int .i64 u, .int .i64 N, .int .i64 k, .int .i64 o, .int .i64 r] 39 (0, 0)) := by
    rw [← hW]
    exact heap_alloc_new w _
  have hlt : w.heap.size < W.heap.size := lt_of_blk hbx
  obtain ⟨F', hF⟩ : ∃ F', dropF D.fo e s = F' := ⟨_, rfl⟩
  obtain ⟨E, hE⟩ : ∃ E, dropE D.fo e s = E := ⟨_, rfl⟩
  obtain ⟨Wl, hWl⟩ : ∃ Wl, dropW D.fo e s = Wl := ⟨_, rfl⟩
  have hFp : F'.p ≤ D.p + 1 := by
    rw [← hF]
    exact Nat.le_succ_of_le (Nat.le_of_eq (dropF_p D.fo e s))
  have HC : Hid (Calls Try.prog 24 #[.pointer (some ⟨b, 0, none⟩), .int .i64 e, .int .i64 s] W fun y w2 => ∃ A0 n0 c0, y = .returned (.tuple #[.slice A0 n0 c0, .int .i64 E]) ∧ Hid (Slots Wl W A0 n0 c0 w2) ∧ (w2.cell? ⟨rb, 0, none⟩ = some (.slice A n c) ∧ w2.cell? ⟨rb, 1, none⟩ = some (.int .i64 (D.p : Nat))) ∧ (w2.cell? ⟨w.heap.size, 0, none⟩ = some (.int .i64 4) ∧ w2.cell? ⟨w.heap.size, 1, none⟩ = some (.int .i64 e) ∧ w2.cell? ⟨w.heap.size, 2, none⟩ = some (.int .i64 s) ∧ w2.cell? ⟨w.heap.size, 3, none⟩ = some (.int .i64 t) ∧ w2.cell? ⟨w.heap.size, 4, none⟩ = some (.int .i64 u) ∧ w2.cell? ⟨w.heap.size, 5, none⟩ = some (.int .i64 N) ∧ w2.cell? ⟨w.heap.size, 6, none⟩ = some (.int .i64 k) ∧ w2.cell? ⟨w.heap.size, 7, none⟩ = some (.int .i64 o) ∧ w2.cell? ⟨w.heap.size, 8, none⟩ = some (.int .i64 r)) ∧ Hid (Only (· = b) W w2) ∧ Hid (∀ w', Only (· = rb) w2 w' → Only (· = rb) w2 w' ∧ (w'.cell? ⟨w.heap.size, 0, none⟩ = some (.int .i64 4) ∧ w'.cell? ⟨w.heap.size, 1, none⟩ = some (.int .i64 e) ∧ w'.cell? ⟨w.heap.size, 2, none⟩ = some (.int .i64 s) ∧ w'.cell? ⟨w.heap.size, 3, none⟩ = some (.int .i64 t) ∧ w'.cell? ⟨w.heap.size, 4, none⟩ = some (.int .i64 u) ∧ w'.cell? ⟨w.heap.size, 5, none⟩ = some (.int .i64 N) ∧ w'.cell? ⟨w.heap.size, 6, none⟩ = some (.int .i64 k) ∧ w'.cell? ⟨w.heap.size, 7, none⟩ = some (.int .i64 o) ∧ w'.cell? ⟨w.heap.size, 8, none⟩ = some (.int .i64 r))) ∧ Hid (∀ w', Below w2.heap.size w2 w' → Calls Try.prog 25 #[.agg #[.slice A n c, .int .i64 (D.p : Nat)], .int .i64 e, .int .i64 s] w' fun y w3 => ∃ A' n' c' p' G m cg, y = .returned (.tuple #[.agg #[.slice A' n' c', .int .i64 ((p' : Nat) : Int)], .slice G m cg, .int .i64 E]) ∧ Hid (Only (· = rb) w2 w3) ∧ ((w3.cell? ⟨rb, 0, none⟩ = some (.slice A n c) ∧ w3.frozen? ⟨rb, 0, none⟩ = false) ∧ w3.cell? ⟨rb, 1, none⟩ = some (.int .i64 (D.p : Nat)) ∧ w3.frozen? ⟨rb, 1, none⟩ = false) ∧ ∃ w4, (w3.setCell ⟨rb, 0, none⟩ (.slice A' n' c')).setCell ⟨rb, 1, none⟩ (.int .i64 ((p' : Nat) : Int)) = w4 ∧ Hid (Only (· = rb) w2 w4) ∧ Hid ((∃ D', St B b rb D' A' n' c' w4 ∧ D'.fo = F') ∧ Rows Wl G m cg w4))) := Lib.hid (by
    have h1 := drop_u HW.fo e s
    have h2 := fun w2 w' (O2 : Only (· = b) W w2) (h' : Below w2.heap.size w2 w') => rdrop_v (S := Sz B b rb w2) (w := w') HW.inv ((HW.doc_only O2).2.kept (fun k hk => h'.block k (sz_lt k hk)) (fun _ h => h)) (fun k hk => Nat.lt_of_lt_of_le (sz_lt k hk) h'.size) (Nat.le_trans hp (by omega)) e s
    rw [hF, hE, hWl] at h1
    rw [hF, hE, hWl] at h2
    refine h1.mono ?_
    rintro y w2 ⟨A0, n0, c0, rfl, hs, F2, O2⟩
    have hx2 : w2.heap[w.heap.size]? = some (.cells #[.int .i64 4, .int .i64 e, .int .i64 s, .int .i64 t, .int .i64 u, .int .i64 N, .int .i64 k, .int .i64 o, .int .i64 r] 39 (0, 0)) := (O2.block _ hlt (fun e => by omega)).trans hbx
    obtain ⟨⟨d0, -⟩, d1, -⟩ := dbox_cells (HW.doc_only O2).1
    refine ⟨A0, n0, c0, rfl, Lib.hid hs, ⟨d0, d1⟩, ⟨(bx_cell (j := 0) hx2 rfl).1, (bx_cell (j := 1) hx2 rfl).1, (bx_cell (j := 2) hx2 rfl).1, (bx_cell (j := 3) hx2 rfl).1, (bx_cell (j := 4) hx2 rfl).1, (bx_cell (j := 5) hx2 rfl).1, (bx_cell (j := 6) hx2 rfl).1, (bx_cell (j := 7) hx2 rfl).1, (bx_cell (j := 8) hx2 rfl).1⟩, Lib.hid O2, Lib.hid fun w' O3 => ⟨O3, ?_⟩, Lib.hid fun w' h' => (h2 w2 w' O2 h').mono fun y w3 h => st_gone HW O2 F2 h' h⟩
    have hx3 : w'.heap[w.heap.size]? = some (.cells #[.int .i64 4, .int .i64 e, .int .i64 s, .int .i64 t, .int .i64 u, .int .i64 N, .int .i64 k, .int .i64 o, .int .i64 r] 39 (0, 0)) := (O3.block _ (Nat.lt_of_lt_of_le hlt O2.size) (fun e => by omega)).trans hx2
    exact ⟨(bx_cell (j := 0) hx3 rfl).1, (bx_cell (j := 1) hx3 rfl).1, (bx_cell (j := 2) hx3 rfl).1, (bx_cell (j := 3) hx3 rfl).1, (bx_cell (j := 4) hx3 rfl).1, (bx_cell (j := 5) hx3 rfl).1, (bx_cell (j := 6) hx3 rfl).1, (bx_cell (j := 7) hx3 rfl).1, (bx_cell (j := 8) hx3 rfl).1⟩)
  obtain ⟨a0, a1, a2, a3, a4, a5, a6, a7, a8⟩ : W.cell? ⟨w.heap.size, 0, none⟩ = some (.int .i64 4) ∧ W.cell? ⟨w.heap.size, 1, none⟩ = some (.int .i64 e) ∧ W.cell? ⟨w.heap.size, 2, none⟩ = some (.int .i64 s) ∧ W.cell? ⟨w.heap.size, 3, none⟩ = some (.int .i64 t) ∧ W.cell? ⟨w.heap.size, 4, none⟩ = some (.int .i64 u) ∧ W.cell? ⟨w.heap.size, 5, none⟩ = some (.int .i64 N) ∧ W.cell? ⟨w.heap.size, 6, none⟩ = some (.int .i64 k) ∧ W.cell? ⟨w.heap.size, 7, none⟩ = some (.int .i64 o) ∧ W.cell? ⟨w.heap.size, 8, none⟩ = some (.int .i64 r) := ⟨(bx_cell (j := 0) hbx rfl).1, (bx_cell (j := 1) hbx rfl).1, (bx_cell (j := 2) hbx rfl).1, (bx_cell (j := 3) hbx rfl).1, (bx_cell (j := 4) hbx rfl).1, (bx_cell (j := 5) hbx rfl).1, (bx_cell (j := 6) hbx rfl).1, (bx_cell (j := 7) hbx rfl).1, (bx_cell (j := 8) hbx rfl).1⟩
  have HwW := Lib.hid hwW
  have HP := Lib.hid hFp
  have Hrl : Hid (rb < W.heap.size) := Lib.hid (by omega)
  have HWe := Lib.hid hW
  clear hW hwW HW hbl hrl hbx hlt H hp hFp hF hE hWl
  go_enter Try.func9, Try.ntmps9
  go_wp2_with fail
  rw [show w.alloc (.cells #[.int .i64 4, .int .i64 e, .int .i64 s, .int .i64 t, .int .i64 u, .int .i64 N, .int .i64 k, .int .i64 o, .int .i64 r] 39 (0, 0)) = W from HWe.out]
  refine HC.out.mono ?_
  rintro y w2 ⟨A0, n0, c0, rfl, hs, ⟨d0, d1⟩, ⟨b0, b1, b2, b3, b4, b5, b6, b7, b8⟩, O2, HS, HR⟩
  clear a0 a1 a2 a3 a4 a5 a6 a7 a8
  go_upto_region 18 with (fail)
  refine wp_region_held_drew (S := fun w' => Only (· = rb) w2 w' ∧ (w'.cell? ⟨w.heap.size, 0, none⟩ = some (.int .i64 4) ∧ w'.cell? ⟨w.heap.size, 1, none⟩ = some (.int .i64 e) ∧ w'.cell? ⟨w.heap.size, 2, none⟩ = some (.int .i64 s) ∧ w'.cell? ⟨w.heap.size, 3, none⟩ = some (.int .i64 t) ∧ w'.cell? ⟨w.heap.size, 4, none⟩ = some (.int .i64 u) ∧ w'.cell? ⟨w.heap.size, 5, none⟩ = some (.int .i64 N) ∧ w'.cell? ⟨w.heap.size, 6, none⟩ = some (.int .i64 k) ∧ w'.cell? ⟨w.heap.size, 7, none⟩ = some (.int .i64 o) ∧ w'.cell? ⟨w.heap.size, 8, none⟩ = some (.int .i64 r))) (by kernel_rfl) ?_ (fun hHeld => ?_)
  · exact HS.out _ (Only.refl _ _).drew
  refine wpAnyH_take (i := 0) (oi := _) (v := ?v0) rfl (by kernel_rfl) (by kernel_rfl) (by kernel_rfl) (fun _ _ _ h => h) (Or.inl ⟨by rfl, ?h0⟩) hHeld ?r0
  case h0 => (intro w0 hSw; (try dsimp only at hSw); go_simp; first | done | with_reducible rfl)
  case r0 =>
  try simp only [Act.put, List.getElem_toArray, List.getElem_cons_zero, List.setIfInBounds_toArray, List.set_cons_zero, List.set_cons_succ]
  refine wpAnyH_take (i := 1) (oi := _) (v := ?v1) rfl (by kernel_rfl) (by kernel_rfl) (by kernel_rfl) (fun _ _ _ h => h) (Or.inl ⟨by rfl, ?h1⟩) hHeld ?r1
  case h1 => (intro w0 hSw; (try dsimp only at hSw); go_simp; first | done | with_reducible rfl)
  case r1 =>
  try simp only [Act.put, List.getElem_toArray, List.getElem_cons_succ, List.getElem_cons_zero, List.setIfInBounds_toArray, List.set_cons_zero, List.set_cons_succ]
  refine wpAnyH_take (i := 2) (oi := _) (v := ?v2) rfl (by kernel_rfl) (by kernel_rfl) (by kernel_rfl) (fun _ _ _ h => h) (Or.inl ⟨by rfl, ?h2⟩) hHeld ?r2
  case h2 => (intro w0 hSw; (try dsimp only at hSw); go_simp; first | done | with_reducible rfl)
  case r2 =>
  try simp only [Act.put, List.getElem_toArray, List.getElem_cons_succ, List.getElem_cons_zero, List.setIfInBounds_toArray, List.set_cons_zero, List.set_cons_succ]
  refine wpAnyH_take (i := 4) (oi := _) (v := ?v4) rfl (by kernel_rfl) (by kernel_rfl) (by kernel_rfl) (fun _ _ _ h => h) (Or.inl ⟨by rfl, ?h4⟩) hHeld ?r4
  case h4 => (intro w0 hSw; (try dsimp only at hSw); go_simp; first | done | with_reducible rfl)
  case r4 =>
  try simp only [Act.put, List.getElem_toArray, List.getElem_cons_succ, List.getElem_cons_zero, List.setIfInBounds_toArray, List.set_cons_zero, List.set_cons_succ]
  refine wpAnyH_take (i := 5) (oi := _) (v := ?v5) rfl (by kernel_rfl) (by kernel_rfl) (by kernel_rfl) (fun _ _ _ h => h) (Or.inl ⟨by rfl, ?h5⟩) hHeld ?r5
  case h5 => (intro w0 hSw; (try dsimp only at hSw); go_simp; first | done | with_reducible rfl)
  case r5 =>
  try simp only [Act.put, List.getElem_toArray, List.getElem_cons_succ, List.getElem_cons_zero, List.setIfInBounds_toArray, List.set_cons_zero, List.set_cons_succ]
  refine wpAnyH_take (i := 6) (oi := _) (v := ?v6) rfl (by kernel_rfl) (by kernel_rfl) (by kernel_rfl) (fun _ _ _ h => h) (Or.inl ⟨by rfl, ?h6⟩) hHeld ?r6
  case h6 => (intro w0 hSw; (try dsimp only at hSw); go_simp; first | done | with_reducible rfl)
  case r6 =>
  try simp only [Act.put, List.getElem_toArray, List.getElem_cons_succ, List.getElem_cons_zero, List.setIfInBounds_toArray, List.set_cons_zero, List.set_cons_succ]
  refine wpAnyH_take (i := 7) (oi := _) (v := ?v7) rfl (by kernel_rfl) (by kernel_rfl) (by kernel_rfl) (fun _ _ _ h => h) (Or.inl ⟨by rfl, ?h7⟩) hHeld ?r7
  case h7 => (intro w0 hSw; (try dsimp only at hSw); go_simp; first | done | with_reducible rfl)
  case r7 =>
  try simp only [Act.put, List.getElem_toArray, List.getElem_cons_succ, List.getElem_cons_zero, List.setIfInBounds_toArray, List.set_cons_zero, List.set_cons_succ]
  refine wpAnyH_ready (rs := [3]) (by kernel_rfl) (by simp) ?_
  refine AllReadyH.cons (o := _) rfl (fun K hK => ?_) AllReadyH.nil
  go_simp
  refine hK.out _ _ ?_ (fun hHeld => ?_)
  · exact HS.out _ ((Only.refl _ _).drew)
  clear hK K
  try simp only [Act.put, List.getElem_toArray, List.getElem_cons_succ, List.getElem_cons_zero, List.setIfInBounds_toArray, List.set_cons_zero, List.set_cons_succ]
  refine wpAnyH_ready (rs := [8]) (by kernel_rfl) (by simp) ?_
  refine AllReadyH.cons (o := _) rfl (fun K hK => ?_) AllReadyH.nil
  go_simp
  go_at_call 25
  with_reducible refine (HR.out _ (by first | with_reducible exact (Below.refl _ _).drew | with_reducible exact Below.refl _ _)).mono ?_
  rintro y w3 ⟨A', n', c', p', G, m, cg, rfl, G3, ⟨⟨s0, s0z⟩, s1, s1z⟩, w4, e4, G4, GE⟩
  go_wp2_with fail
  refine hK.out _ _ ?_ (fun hHeld => ?_)
  · exact HS.out _ (G3.out)
  clear hK K
  try simp only [Act.put, List.getElem_toArray, List.getElem_cons_succ, List.getElem_cons_zero, List.setIfInBounds_toArray, List.set_cons_zero, List.set_cons_succ]
  refine wpAnyH_take (i := 9) (oi := _) (v := ?v9) rfl (by kernel_rfl) (by kernel_rfl) (by kernel_rfl) (fun _ _ _ h => h) (Or.inl ⟨by rfl, ?h9⟩) hHeld ?r9
  case h9 => (intro w0 hSw; (try dsimp only at hSw); go_simp; first | done | with_reducible rfl)
  case r9 =>
  try simp only [Act.put, List.getElem_toArray, List.getElem_cons_succ, List.getElem_cons_zero, List.setIfInBounds_toArray, List.set_cons_zero, List.set_cons_succ]
  refine wpAnyH_take (i := 10) (oi := _) (v := ?v10) rfl (by kernel_rfl) (by kernel_rfl) (by kernel_rfl) (fun _ _ _ h => h) (Or.inl ⟨by rfl, ?h10⟩) hHeld ?r10
  case h10 => (intro w0 hSw; (try dsimp only at hSw); go_simp; first | done | with_reducible rfl)
  case r10 =>
  try simp only [Act.put, List.getElem_toArray, List.getElem_cons_succ, List.getElem_cons_zero, List.setIfInBounds_toArray, List.set_cons_zero, List.set_cons_succ]
  refine wpAnyH_take (i := 11) (oi := _) (v := ?v11) rfl (by kernel_rfl) (by kernel_rfl) (by kernel_rfl) (fun _ _ _ h => h) (Or.inl ⟨by rfl, ?h11⟩) hHeld ?r11
  case h11 => (intro w0 hSw; (try dsimp only at hSw); go_simp; first | done | with_reducible rfl)
  case r11 =>
  try simp only [Act.put, List.getElem_toArray, List.getElem_cons_succ, List.getElem_cons_zero, List.setIfInBounds_toArray, List.set_cons_zero, List.set_cons_succ]
  refine wpAnyH_take (i := 12) (oi := _) (v := ?v12) rfl (by kernel_rfl) (by kernel_rfl) (by kernel_rfl) (fun _ _ _ h => h) (Or.inl ⟨by rfl, ?h12⟩) hHeld ?r12
  case h12 => (intro w0 hSw; (try dsimp only at hSw); go_simp; first | done | with_reducible rfl)
  case r12 =>
  try simp only [Act.put, List.getElem_toArray, List.getElem_cons_succ, List.getElem_cons_zero, List.setIfInBounds_toArray, List.set_cons_zero, List.set_cons_succ]
  refine wpAnyH_take (i := 13) (oi := _) (v := ?v13) rfl (by kernel_rfl) (by kernel_rfl) (by kernel_rfl) (fun _ _ _ h => h) (Or.inl ⟨by rfl, ?h13⟩) hHeld ?r13
  case h13 => (intro w0 hSw; (try dsimp only at hSw); go_simp; first | done | with_reducible rfl)
  case r13 =>
  try simp only [Act.put, List.getElem_toArray, List.getElem_cons_succ, List.getElem_cons_zero, List.setIfInBounds_toArray, List.set_cons_zero, List.set_cons_succ]
  refine wpAnyH_ready (rs := [14]) (by kernel_rfl) (by simp) ?_
  refine AllReadyH.cons (o := _) rfl (fun K hK => ?_) AllReadyH.nil
  go_simp
  refine hK.out _ _ ?_ (fun hHeld => ?_)
  · exact HS.out _ (G4.out)
  clear hK K
  try simp only [Act.put, List.getElem_toArray, List.getElem_cons_succ, List.getElem_cons_zero, List.setIfInBounds_toArray, List.set_cons_zero, List.set_cons_succ]
  refine wpAnyH_take (i := 15) (oi := _) (v := ?v15) rfl (by kernel_rfl) (by kernel_rfl) (by kernel_rfl) (fun _ _ _ h => h) (Or.inl ⟨by rfl, ?h15⟩) hHeld ?r15
  case h15 => (intro w0 hSw; (try dsimp only at hSw); go_simp; first | done | with_reducible rfl)
  case r15 =>
  try simp only [Act.put, List.getElem_toArray, List.getElem_cons_succ, List.getElem_cons_zero, List.setIfInBounds_toArray, List.set_cons_zero, List.set_cons_succ]
  refine wpAnyH_take (i := 16) (oi := _) (v := ?v16) rfl (by kernel_rfl) (by kernel_rfl) (by kernel_rfl) (fun _ _ _ h => h) (Or.inl ⟨by rfl, ?h16⟩) hHeld ?r16
  case h16 => (intro w0 hSw; (try dsimp only at hSw); go_simp; first | done | with_reducible rfl)
  case r16 =>
  try simp only [Act.put, List.getElem_toArray, List.getElem_cons_succ, List.getElem_cons_zero, List.setIfInBounds_toArray, List.set_cons_zero, List.set_cons_succ]
  refine wpAnyH_done (by kernel_rfl) ?_ _
  have H5 := Lib.hid (rows_are hs.out Hrl.out G4.out GE.out.2)
  clear e4 d0 d1 s0 s0z s1 s1z HR HS hHeld
  go_wp2_with (go_at_call 29; refine H5.out.mono ?_; rintro z w5 ⟨rfl, h5⟩; have G5 := Lib.hid h5; clear h5)
  go_ret
  exact done_end HwW.out O2.out G4.out GE.out.1 HP.out G5.out rfl
set_option maxRecDepth 100000 in
set_option maxHeartbeats 4000000 in
theorem does_purge (H : St B b rb D A n c w) (hp : D.p ≤ 100) (e s t u N k o r : Int) :
    Calls Try.prog 9 #[.pointer (some ⟨b, 0, none⟩), .pointer (some ⟨rb, 0, none⟩), .agg #[.int .i64 5, .int .i64 e, .int .i64 s, .int .i64 t, .int .i64 u, .int .i64 N, .int .i64 k, .int .i64 o, .int .i64 r]] w (Done B b rb (D.p + 1) w) := by
  obtain ⟨W, hW⟩ : ∃ W, w.alloc (.cells #[.int .i64 5, .int .i64 e, .int .i64 s, .int .i64 t, .int .i64 u, .int .i64 N, .int .i64 k, .int .i64 o, .int .i64 r] 39 (0, 0)) = W := ⟨_, rfl⟩
  have hwW : Below w.heap.size w W := by
    rw [← hW]
    exact (Below.refl _ _).alloc (Nat.le_refl _) _
  have HW : St B b rb D A n c W := H.below hwW
  have hbl : b < w.heap.size := H.ltb
  have hrl : rb < w.heap.size := H.ltr
  have hbx : W.heap[w.heap.size]? = some (.cells #[.int .i64 5, .int .i64 e, .int .i64 s, .int .i64 t, .int .i64 u, .int .i64 N, .int .i64 k, .int .i64 o, .int .i64 r] 39 (0, 0)) := by
    rw [← hW]
    exact heap_alloc_new w _
  have hlt : w.heap.size < W.heap.size := lt_of_blk hbx
  obtain ⟨F', hF⟩ : ∃ F', tkF (Nd.to_ k o) D.fo = F' := ⟨_, rfl⟩
  obtain ⟨Wl, hWl⟩ : ∃ Wl, tkW (Nd.to_ k o) D.fo = Wl := ⟨_, rfl⟩
  have hFp : F'.p ≤ D.p + 1 := by
    rw [← hF]
    exact Nat.le_succ _
  have HC : Hid (Calls Try.prog 26 #[.pointer (some ⟨b, 0, none⟩), .int .i64 k, .int .i64 o] W fun y w2 => ∃ A0 n0 c0, y = .returned (.slice A0 n0 c0) ∧ Hid (Slots Wl W A0 n0 c0 w2) ∧ (w2.cell? ⟨rb, 0, none⟩ = some (.slice A n c) ∧ w2.cell? ⟨rb, 1, none⟩ = some (.int .i64 (D.p : Nat))) ∧ (w2.cell? ⟨w.heap.size, 0, none⟩ = some (.int .i64 5) ∧ w2.cell? ⟨w.heap.size, 1, none⟩ = some (.int .i64 e) ∧ w2.cell? ⟨w.heap.size, 2, none⟩ = some (.int .i64 s) ∧ w2.cell? ⟨w.heap.size, 3, none⟩ = some (.int .i64 t) ∧ w2.cell? ⟨w.heap.size, 4, none⟩ = some (.int .i64 u) ∧ w2.cell? ⟨w.heap.size, 5, none⟩ = some (.int .i64 N) ∧ w2.cell? ⟨w.heap.size, 6, none⟩ = some (.int .i64 k) ∧ w2.cell? ⟨w.heap.size, 7, none⟩ = some (.int .i64 o) ∧ w2.cell? ⟨w.heap.size, 8, none⟩ = some (.int .i64 r)) ∧ Hid (Only (· = b) W w2) ∧ Hid (∀ w', Only (· = rb) w2 w' → Only (· = rb) w2 w' ∧ (w'.cell? ⟨w.heap.size, 0, none⟩ = some (.int .i64 5) ∧ w'.cell? ⟨w.heap.size, 1, none⟩ = some (.int .i64 e) ∧ w'.cell? ⟨w.heap.size, 2, none⟩ = some (.int .i64 s) ∧ w'.cell? ⟨w.heap.size, 3, none⟩ = some (.int .i64 t) ∧ w'.cell? ⟨w.heap.size, 4, none⟩ = some (.int .i64 u) ∧ w'.cell? ⟨w.heap.size, 5, none⟩ = some (.int .i64 N) ∧ w'.cell? ⟨w.heap.size, 6, none⟩ = some (.int .i64 k) ∧ w'.cell? ⟨w.heap.size, 7, none⟩ = some (.int .i64 o) ∧ w'.cell? ⟨w.heap.size, 8, none⟩ = some (.int .i64 r))) ∧ Hid (∀ w', Below w2.heap.size w2 w' → Calls Try.prog 27 #[.agg #[.slice A n c, .int .i64 (D.p : Nat)], .int .i64 k, .int .i64 o] w' fun y w3 => ∃ A' n' c' p' G m cg, y = .returned (.tuple #[.agg #[.slice A' n' c', .int .i64 ((p' : Nat) : Int)], .slice G m cg]) ∧ Hid (Only (· = rb) w2 w3) ∧ ((w3.cell? ⟨rb, 0, none⟩ = some (.slice A n c) ∧ w3.frozen? ⟨rb, 0, none⟩ = false) ∧ w3.cell? ⟨rb, 1, none⟩ = some (.int .i64 (D.p : Nat)) ∧ w3.frozen? ⟨rb, 1, none⟩ = false) ∧ ∃ w4, (w3.setCell ⟨rb, 0, none⟩ (.slice A' n' c')).setCell ⟨rb, 1, none⟩ (.int .i64 ((p' : Nat) : Int)) = w4 ∧ Hid (Only (· = rb) w2 w4) ∧ Hid ((∃ D', St B b rb D' A' n' c' w4 ∧ D'.fo = F') ∧ Rows Wl G m cg w4))) := Lib.hid (by
    have h1 := purge_u HW.fo k o
    have h2 := fun w2 w' (O2 : Only (· = b) W w2) (h' : Below w2.heap.size w2 w') => rpurge_u (S := Sz B b rb w2) (w := w') HW.inv ((HW.doc_only O2).2.kept (fun k hk => h'.block k (sz_lt k hk)) (fun _ h => h)) (fun k hk => Nat.lt_of_lt_of_le (sz_lt k hk) h'.size) (Nat.le_trans hp (by omega)) k o
    rw [hF, hWl] at h1
    rw [hF, hWl] at h2
    refine h1.mono ?_
    rintro y w2 ⟨A0, n0, c0, rfl, hs, F2, O2⟩
    have hx2 : w2.heap[w.heap.size]? = some (.cells #[.int .i64 5, .int .i64 e, .int .i64 s, .int .i64 t, .int .i64 u, .int .i64 N, .int .i64 k, .int .i64 o, .int .i64 r] 39 (0, 0)) := (O2.block _ hlt (fun e => by omega)).trans hbx
    obtain ⟨⟨d0, -⟩, d1, -⟩ := dbox_cells (HW.doc_only O2).1
    refine ⟨A0, n0, c0, rfl, Lib.hid hs, ⟨d0, d1⟩, ⟨(bx_cell (j := 0) hx2 rfl).1, (bx_cell (j := 1) hx2 rfl).1, (bx_cell (j := 2) hx2 rfl).1, (bx_cell (j := 3) hx2 rfl).1, (bx_cell (j := 4) hx2 rfl).1, (bx_cell (j := 5) hx2 rfl).1, (bx_cell (j := 6) hx2 rfl).1, (bx_cell (j := 7) hx2 rfl).1, (bx_cell (j := 8) hx2 rfl).1⟩, Lib.hid O2, Lib.hid fun w' O3 => ⟨O3, ?_⟩, Lib.hid fun w' h' => (h2 w2 w' O2 h').mono fun y w3 h => st_goneq HW O2 F2 h' h⟩
    have hx3 : w'.heap[w.heap.size]? = some (.cells #[.int .i64 5, .int .i64 e, .int .i64 s, .int .i64 t, .int .i64 u, .int .i64 N, .int .i64 k, .int .i64 o, .int .i64 r] 39 (0, 0)) := (O3.block _ (Nat.lt_of_lt_of_le hlt O2.size) (fun e => by omega)).trans hx2
    exact ⟨(bx_cell (j := 0) hx3 rfl).1, (bx_cell (j := 1) hx3 rfl).1, (bx_cell (j := 2) hx3 rfl).1, (bx_cell (j := 3) hx3 rfl).1, (bx_cell (j := 4) hx3 rfl).1, (bx_cell (j := 5) hx3 rfl).1, (bx_cell (j := 6) hx3 rfl).1, (bx_cell (j := 7) hx3 rfl).1, (bx_cell (j := 8) hx3 rfl).1⟩)
  obtain ⟨a0, a1, a2, a3, a4, a5, a6, a7, a8⟩ : W.cell? ⟨w.heap.size, 0, none⟩ = some (.int .i64 5) ∧ W.cell? ⟨w.heap.size, 1, none⟩ = some (.int .i64 e) ∧ W.cell? ⟨w.heap.size, 2, none⟩ = some (.int .i64 s) ∧ W.cell? ⟨w.heap.size, 3, none⟩ = some (.int .i64 t) ∧ W.cell? ⟨w.heap.size, 4, none⟩ = some (.int .i64 u) ∧ W.cell? ⟨w.heap.size, 5, none⟩ = some (.int .i64 N) ∧ W.cell? ⟨w.heap.size, 6, none⟩ = some (.int .i64 k) ∧ W.cell? ⟨w.heap.size, 7, none⟩ = some (.int .i64 o) ∧ W.cell? ⟨w.heap.size, 8, none⟩ = some (.int .i64 r) := ⟨(bx_cell (j := 0) hbx rfl).1, (bx_cell (j := 1) hbx rfl).1, (bx_cell (j := 2) hbx rfl).1, (bx_cell (j := 3) hbx rfl).1, (bx_cell (j := 4) hbx rfl).1, (bx_cell (j := 5) hbx rfl).1, (bx_cell (j := 6) hbx rfl).1, (bx_cell (j := 7) hbx rfl).1, (bx_cell (j := 8) hbx rfl).1⟩
  have HwW := Lib.hid hwW
  have HP := Lib.hid hFp
  have Hrl : Hid (rb < W.heap.size) := Lib.hid (by omega)
  have HWe := Lib.hid hW
  clear hW hwW HW hbl hrl hbx hlt H hp hFp hF hWl
  go_enter Try.func9, Try.ntmps9
  go_wp2_with fail
  rw [show w.alloc (.cells #[.int .i64 5, .int .i64 e, .int .i64 s, .int .i64 t, .int .i64 u, .int .i64 N, .int .i64 k, .int .i64 o, .int .i64 r] 39 (0, 0)) = W from HWe.out]
  refine HC.out.mono ?_
  rintro y w2 ⟨A0, n0, c0, rfl, hs, ⟨d0, d1⟩, ⟨b0, b1, b2, b3, b4, b5, b6, b7, b8⟩, O2, HS, HR⟩
  clear a0 a1 a2 a3 a4 a5 a6 a7 a8
  go_upto_region 21 with (fail)
  refine wp_region_held_drew (S := fun w' => Only (· = rb) w2 w' ∧ (w'.cell? ⟨w.heap.size, 0, none⟩ = some (.int .i64 5) ∧ w'.cell? ⟨w.heap.size, 1, none⟩ = some (.int .i64 e) ∧ w'.cell? ⟨w.heap.size, 2, none⟩ = some (.int .i64 s) ∧ w'.cell? ⟨w.heap.size, 3, none⟩ = some (.int .i64 t) ∧ w'.cell? ⟨w.heap.size, 4, none⟩ = some (.int .i64 u) ∧ w'.cell? ⟨w.heap.size, 5, none⟩ = some (.int .i64 N) ∧ w'.cell? ⟨w.heap.size, 6, none⟩ = some (.int .i64 k) ∧ w'.cell? ⟨w.heap.size, 7, none⟩ = some (.int .i64 o) ∧ w'.cell? ⟨w.heap.size, 8, none⟩ = some (.int .i64 r))) (by kernel_rfl) ?_ (fun hHeld => ?_)
  · exact HS.out _ (Only.refl _ _).drew
  refine wpAnyH_take (i := 0) (oi := _) (v := ?v0) rfl (by kernel_rfl) (by kernel_rfl) (by kernel_rfl) (fun _ _ _ h => h) (Or.inl ⟨by rfl, ?h0⟩) hHeld ?r0
  case h0 => (intro w0 hSw; (try dsimp only at hSw); go_simp; first | done | with_reducible rfl)
  case r0 =>
  try simp only [Act.put, List.getElem_toArray, List.getElem_cons_zero, List.setIfInBounds_toArray, List.set_cons_zero, List.set_cons_succ]
  refine wpAnyH_take (i := 1) (oi := _) (v := ?v1) rfl (by kernel_rfl) (by kernel_rfl) (by kernel_rfl) (fun _ _ _ h => h) (Or.inl ⟨by rfl, ?h1⟩) hHeld ?r1
  case h1 => (intro w0 hSw; (try dsimp only at hSw); go_simp; first | done | with_reducible rfl)
  case r1 =>
  try simp only [Act.put, List.getElem_toArray, List.getElem_cons_succ, List.getElem_cons_zero, List.setIfInBounds_toArray, List.set_cons_zero, List.set_cons_succ]
  refine wpAnyH_take (i := 2) (oi := _) (v := ?v2) rfl (by kernel_rfl) (by kernel_rfl) (by kernel_rfl) (fun _ _ _ h => h) (Or.inl ⟨by rfl, ?h2⟩) hHeld ?r2
  case h2 => (intro w0 hSw; (try dsimp only at hSw); go_simp; first | done | with_reducible rfl)
  case r2 =>
  try simp only [Act.put, List.getElem_toArray, List.getElem_cons_succ, List.getElem_cons_zero, List.setIfInBounds_toArray, List.set_cons_zero, List.set_cons_succ]
  refine wpAnyH_take (i := 4) (oi := _) (v := ?v4) rfl (by kernel_rfl) (by kernel_rfl) (by kernel_rfl) (fun _ _ _ h => h) (Or.inl ⟨by rfl, ?h4⟩) hHeld ?r4
  case h4 => (intro w0 hSw; (try dsimp only at hSw); go_simp; first | done | with_reducible rfl)
  case r4 =>
  try simp only [Act.put, List.getElem_toArray, List.getElem_cons_succ, List.getElem_cons_zero, List.setIfInBounds_toArray, List.set_cons_zero, List.set_cons_succ]
  refine wpAnyH_take (i := 5) (oi := _) (v := ?v5) rfl (by kernel_rfl) (by kernel_rfl) (by kernel_rfl) (fun _ _ _ h => h) (Or.inl ⟨by rfl, ?h5⟩) hHeld ?r5
  case h5 => (intro w0 hSw; (try dsimp only at hSw); go_simp; first | done | with_reducible rfl)
  case r5 =>
  try simp only [Act.put, List.getElem_toArray, List.getElem_cons_succ, List.getElem_cons_zero, List.setIfInBounds_toArray, List.set_cons_zero, List.set_cons_succ]
  refine wpAnyH_take (i := 6) (oi := _) (v := ?v6) rfl (by kernel_rfl) (by kernel_rfl) (by kernel_rfl) (fun _ _ _ h => h) (Or.inl ⟨by rfl, ?h6⟩) hHeld ?r6
  case h6 => (intro w0 hSw; (try dsimp only at hSw); go_simp; first | done | with_reducible rfl)
  case r6 =>
  try simp only [Act.put, List.getElem_toArray, List.getElem_cons_succ, List.getElem_cons_zero, List.setIfInBounds_toArray, List.set_cons_zero, List.set_cons_succ]
  refine wpAnyH_take (i := 7) (oi := _) (v := ?v7) rfl (by kernel_rfl) (by kernel_rfl) (by kernel_rfl) (fun _ _ _ h => h) (Or.inl ⟨by rfl, ?h7⟩) hHeld ?r7
  case h7 => (intro w0 hSw; (try dsimp only at hSw); go_simp; first | done | with_reducible rfl)
  case r7 =>
  try simp only [Act.put, List.getElem_toArray, List.getElem_cons_succ, List.getElem_cons_zero, List.setIfInBounds_toArray, List.set_cons_zero, List.set_cons_succ]
  refine wpAnyH_take (i := 8) (oi := _) (v := ?v8) rfl (by kernel_rfl) (by kernel_rfl) (by kernel_rfl) (fun _ _ _ h => h) (Or.inl ⟨by rfl, ?h8⟩) hHeld ?r8
  case h8 => (intro w0 hSw; (try dsimp only at hSw); go_simp; first | done | with_reducible rfl)
  case r8 =>
  try simp only [Act.put, List.getElem_toArray, List.getElem_cons_succ, List.getElem_cons_zero, List.setIfInBounds_toArray, List.set_cons_zero, List.set_cons_succ]
  refine wpAnyH_take (i := 9) (oi := _) (v := ?v9) rfl (by kernel_rfl) (by kernel_rfl) (by kernel_rfl) (fun _ _ _ h => h) (Or.inl ⟨by rfl, ?h9⟩) hHeld ?r9
  case h9 => (intro w0 hSw; (try dsimp only at hSw); go_simp; first | done | with_reducible rfl)
  case r9 =>
  try simp only [Act.put, List.getElem_toArray, List.getElem_cons_succ, List.getElem_cons_zero, List.setIfInBounds_toArray, List.set_cons_zero, List.set_cons_succ]
  refine wpAnyH_ready (rs := [3]) (by kernel_rfl) (by simp) ?_
  refine AllReadyH.cons (o := _) rfl (fun K hK => ?_) AllReadyH.nil
  go_simp
  refine hK.out _ _ ?_ (fun hHeld => ?_)
  · exact HS.out _ ((Only.refl _ _).drew)
  clear hK K
  try simp only [Act.put, List.getElem_toArray, List.getElem_cons_succ, List.getElem_cons_zero, List.setIfInBounds_toArray, List.set_cons_zero, List.set_cons_succ]
  refine wpAnyH_ready (rs := [10]) (by kernel_rfl) (by simp) ?_
  refine AllReadyH.cons (o := _) rfl (fun K hK => ?_) AllReadyH.nil
  go_simp
  go_at_call 27
  with_reducible refine (HR.out _ (by first | with_reducible exact (Below.refl _ _).drew | with_reducible exact Below.refl _ _)).mono ?_
  rintro y w3 ⟨A', n', c', p', G, m, cg, rfl, G3, ⟨⟨s0, s0z⟩, s1, s1z⟩, w4, e4, G4, GE⟩
  go_wp2_with fail
  refine hK.out _ _ ?_ (fun hHeld => ?_)
  · exact HS.out _ (G3.out)
  clear hK K
  try simp only [Act.put, List.getElem_toArray, List.getElem_cons_succ, List.getElem_cons_zero, List.setIfInBounds_toArray, List.set_cons_zero, List.set_cons_succ]
  refine wpAnyH_take (i := 11) (oi := _) (v := ?v11) rfl (by kernel_rfl) (by kernel_rfl) (by kernel_rfl) (fun _ _ _ h => h) (Or.inl ⟨by rfl, ?h11⟩) hHeld ?r11
  case h11 => (intro w0 hSw; (try dsimp only at hSw); go_simp; first | done | with_reducible rfl)
  case r11 =>
  try simp only [Act.put, List.getElem_toArray, List.getElem_cons_succ, List.getElem_cons_zero, List.setIfInBounds_toArray, List.set_cons_zero, List.set_cons_succ]
  refine wpAnyH_take (i := 12) (oi := _) (v := ?v12) rfl (by kernel_rfl) (by kernel_rfl) (by kernel_rfl) (fun _ _ _ h => h) (Or.inl ⟨by rfl, ?h12⟩) hHeld ?r12
  case h12 => (intro w0 hSw; (try dsimp only at hSw); go_simp; first | done | with_reducible rfl)
  case r12 =>
  try simp only [Act.put, List.getElem_toArray, List.getElem_cons_succ, List.getElem_cons_zero, List.setIfInBounds_toArray, List.set_cons_zero, List.set_cons_succ]
  refine wpAnyH_take (i := 13) (oi := _) (v := ?v13) rfl (by kernel_rfl) (by kernel_rfl) (by kernel_rfl) (fun _ _ _ h => h) (Or.inl ⟨by rfl, ?h13⟩) hHeld ?r13
  case h13 => (intro w0 hSw; (try dsimp only at hSw); go_simp; first | done | with_reducible rfl)
  case r13 =>
  try simp only [Act.put, List.getElem_toArray, List.getElem_cons_succ, List.getElem_cons_zero, List.setIfInBounds_toArray, List.set_cons_zero, List.set_cons_succ]
  refine wpAnyH_take (i := 14) (oi := _) (v := ?v14) rfl (by kernel_rfl) (by kernel_rfl) (by kernel_rfl) (fun _ _ _ h => h) (Or.inl ⟨by rfl, ?h14⟩) hHeld ?r14
  case h14 => (intro w0 hSw; (try dsimp only at hSw); go_simp; first | done | with_reducible rfl)
  case r14 =>
  try simp only [Act.put, List.getElem_toArray, List.getElem_cons_succ, List.getElem_cons_zero, List.setIfInBounds_toArray, List.set_cons_zero, List.set_cons_succ]
  refine wpAnyH_ready (rs := [15]) (by kernel_rfl) (by simp) ?_
  refine AllReadyH.cons (o := _) rfl (fun K hK => ?_) AllReadyH.nil
  go_simp
  refine hK.out _ _ ?_ (fun hHeld => ?_)
  · exact HS.out _ (G4.out)
  clear hK K
  try simp only [Act.put, List.getElem_toArray, List.getElem_cons_succ, List.getElem_cons_zero, List.setIfInBounds_toArray, List.set_cons_zero, List.set_cons_succ]
  refine wpAnyH_take (i := 16) (oi := _) (v := ?v16) rfl (by kernel_rfl) (by kernel_rfl) (by kernel_rfl) (fun _ _ _ h => h) (Or.inl ⟨by rfl, ?h16⟩) hHeld ?r16
  case h16 => (intro w0 hSw; (try dsimp only at hSw); go_simp; first | done | with_reducible rfl)
  case r16 =>
  try simp only [Act.put, List.getElem_toArray, List.getElem_cons_succ, List.getElem_cons_zero, List.setIfInBounds_toArray, List.set_cons_zero, List.set_cons_succ]
  refine wpAnyH_done (by kernel_rfl) ?_ _
  have H5 := Lib.hid (rows_are hs.out Hrl.out G4.out GE.out.2)
  clear e4 d0 d1 s0 s0z s1 s1z HR HS hHeld
  go_wp2_with (go_at_call 29; refine H5.out.mono ?_; rintro z w5 ⟨rfl, h5⟩; have G5 := Lib.hid h5; clear h5)
  go_ret
  exact done_end HwW.out O2.out G4.out GE.out.1 HP.out G5.out rfl
end
end Go.Proofs.Ythblldojbgeknaa
