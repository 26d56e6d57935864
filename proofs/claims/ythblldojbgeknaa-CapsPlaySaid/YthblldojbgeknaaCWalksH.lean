/-
  Contracts: Drop, Purge, Has, Free.
-/
import Derived.Test.YthblldojbgeknaaCWalksG
import Derived.Test.YthblldojbgeknaaCTakeD
import Derived.Test.YthblldojbgeknaaCTakeP
namespace Go.Proofs.Ythblldojbgeknaa
open Go.ChangeShapes Go.WideShapes Go.ChangeAt Go.RowKit
open Go.Shelf Go.Sort

/-- That one. -/
def isB (x : Nd) (y : Nd) : Bool := decide (y.id = x.id)
section
variable {w : World} {b : Nat} {F : Fo}
set_option maxHeartbeats 1000000 in
theorem drop_none (H : FoIs w b F) {e s : Int} (hn : fd F.l e s = none) : Calls Try.prog 24 #[.pointer (some ⟨b, 0, none⟩), .int .i64 e, .int .i64 s] w fun r w' => r = .returned (.tuple #[.slice none 0 0, .int .i64 23]) ∧ Below w.heap.size w w' := by
  have HA := Lib.hid (at_any H e s)
  rw [hn] at HA
  simp only [hcells, hk, ho, hr, hi, hu] at HA
  have HT : Hid (∀ w, _) := Lib.hid fun w => there_any 0 0 0 0 0 w
  rw [show decide ((0 : Int) < 0) = false from rfl] at HT
  have HL : Hid (∀ (w2 : World) (o : Obj) (w3 : World), Below w.heap.size w w2 → Below (w2.alloc o).heap.size (w2.alloc o) w3 → Below w.heap.size w w3) := Lib.hid fun w2 o w3 h h2 => (below_new (Nat.le_refl _) h o).trans (h2.mono (below_new (Nat.le_refl _) h o).size)
  clear H hn
  go_enter Try.func24, Try.ntmps24
  go_wp2_with (first
    | (go_at_call 36; refine HA.out.mono ?_; rintro r w2 ⟨rfl, hg⟩; have HB := Lib.hid (below_grow hg); clear hg)
    | (go_at_call 37; refine (HT.out _).mono ?_; rintro r w3 ⟨rfl, hb3⟩; have HB3 := Lib.hid (HL.out w2 _ w3 HB.out hb3); clear hb3))
  go_ret2
  exact ⟨rfl, HB3.out⟩
set_option maxHeartbeats 2000000 in
theorem drop_hit (H : FoIs w b F) {e s : Int} {x : Nd} (hx : fd F.l e s = some x) : Calls Try.prog 24 #[.pointer (some ⟨b, 0, none⟩), .int .i64 e, .int .i64 s] w (Gone2 b F (isB x) w) := by
  have HA := Lib.hid (at_any H e s)
  rw [hx] at HA
  simp only [hcells, hk, ho, hr, hi, hu] at HA
  obtain ⟨r0, r1, r2, r3, r4, r5⟩ := H.wf.rng x (fd_mem hx).1
  have HT : Hid (∀ w, _) := Lib.hid fun w => there_any x.k x.o (x.r : Nat) (x.id : Nat) (x.up : Nat) w
  rw [show decide ((0 : Int) < (x.id : Nat)) = true from decide_eq_true (by omega)] at HT
  have Hblt := Lib.hid H.lt
  have HP : Hid (∀ (Z : Nat) (w4 : World), Below w.heap.size w w4 → w.heap.size ≤ Z → Z < w4.heap.size → w4.cell? ⟨Z, 3, none⟩ = some (.int .i64 (x.id : Nat)) → Calls Try.prog 38 #[.pointer (some ⟨b, 0, none⟩), .func (.func 42) #[] #[.pointer (some ⟨Z, 0, none⟩)]] w4 fun r w5 => ∃ A n c, r = .returned (.slice A n c) ∧ Hid (Gone2 b F (isB x) w (.returned (.tuple #[.slice A n c, .int .i64 0])) w5)) := Lib.hid fun Z w4 h4 hZ hZ4 hc => by
    have hblt := Hblt.out
    refine (take_drop (Z := Z) (H.below h4) (isB x) (fun w' y hO => ?_)).mono ?_
    · have := askD_any y.k y.o (y.r : Nat) (y.id : Nat) (y.up : Nat) w' ((hO.cell hZ4 (by show ¬ Z = b; omega) 3).trans hc) (Nat.lt_of_lt_of_le hZ4 hO.size)
      have e1 : decide (((y.id : Nat) : Int) = (x.id : Nat)) = isB x y := by
        unfold isB
        congr 1
        simp only [eq_iff_iff]
        omega
      rwa [e1] at this
    · rintro r w5 ⟨A, n, c, rfl, h1, h2, h3, h4', h5⟩
      exact ⟨A, n, c, rfl, Lib.hid ⟨A, n, c, rfl, h1, h2, own_lower h3 h4.size, h4', (Only.of_below (S := (· = b)) h4).trans h5 (fun _ h => Or.inl h)⟩⟩
  clear H hx r0 r1 r2 r3 r4 r5
  go_enter Try.func24, Try.ntmps24
  go_wp2_with (first
    | (go_at_call 36; refine HA.out.mono ?_; rintro r w2 ⟨rfl, hg⟩; have HB := Lib.hid (below_grow hg); clear hg)
    | (go_at_call 37; refine (HT.out _).mono ?_; rintro r w3 ⟨rfl, hb3⟩; obtain ⟨HB3, l3, k0, k1, k2, k3⟩ := held_box HB.out hb3; have HQ := Lib.hid (HP.out w2.heap.size w3 HB3.out HB.out.size l3 k3); clear hb3)
    | (go_at_call 38; refine HQ.out.mono ?_; rintro r w5 ⟨A, n, c, rfl, HF⟩))
  go_ret2
  exact HF.out
set_option maxHeartbeats 2000000 in
theorem purge_any (H : FoIs w b F) (K O : Int) : Calls Try.prog 26 #[.pointer (some ⟨b, 0, none⟩), .int .i64 K, .int .i64 O] w (Gone b F (Nd.to_ K O) w) := by
  obtain ⟨W, hW⟩ : ∃ W, (w.alloc (.cells #[.int .i64 K] 3 (0, 0))).alloc (.cells #[.int .i64 O] 3 (0, 0)) = W := ⟨_, rfl⟩
  have hbW : Below w.heap.size w W := by
    rw [← hW]
    exact below_new (Nat.le_refl _) (below_new (Nat.le_refl _) (Below.refl _ w) _) _
  have hs : W.heap.size = w.heap.size + 2 := by rw [← hW]; simp
  have k0 : W.cell? ⟨w.heap.size, 0, none⟩ = some (.int .i64 K) := by rw [← hW]; simp
  have k1 : W.cell? ⟨w.heap.size + 1, 0, none⟩ = some (.int .i64 O) := by rw [← hW]; simp
  have hblt := H.lt
  have HP : Hid (Calls Try.prog 38 #[.pointer (some ⟨b, 0, none⟩), .func (.func 43) #[] #[.pointer (some ⟨w.heap.size, 0, none⟩), .pointer (some ⟨w.heap.size + 1, 0, none⟩)]] W fun r w5 => ∃ v, r = .returned v ∧ Hid (Gone b F (Nd.to_ K O) w (.returned v) w5)) := Lib.hid (by
    refine (take_purge (Z := w.heap.size) (Z' := w.heap.size + 1) (H.below hbW) (Nd.to_ K O) (fun w' y hO => ?_)).mono ?_
    · exact askP_any y.k y.o (y.r : Nat) (y.id : Nat) (y.up : Nat) w' ((hO.cell (by omega) (by show ¬ w.heap.size = b; omega) 0).trans k0) (Nat.lt_of_lt_of_le (by omega) hO.size) ((hO.cell (by omega) (by show ¬ w.heap.size + 1 = b; omega) 0).trans k1) (Nat.lt_of_lt_of_le (by omega) hO.size)
    · rintro r w5 ⟨A, n, c, rfl, h1, h2, h3, h4', h5⟩
      exact ⟨_, rfl, Lib.hid ⟨A, n, c, rfl, h1, h2, own_lower h3 hbW.size, h4', (Only.of_below (S := (· = b)) hbW).trans h5 (fun _ h => Or.inl h)⟩⟩)
  have HW := Lib.hid hW
  clear H hW k0 k1 hs hbW hblt
  go_enter Try.func26, Try.ntmps26
  go_wp2_with fail
  rw [show (w.alloc (.cells #[.int .i64 K] 3 (0, 0))).alloc (.cells #[.int .i64 O] 3 (0, 0)) = W from HW.out]
  refine HP.out.mono ?_
  rintro r w5 ⟨v, rfl, HF⟩
  go_wp2
  go_ret
  exact HF.out

/-! Has. -/
def hasB (F : Fo) (e s K R : Int) : Bool := match fd F.l e s with
  | none => false
  | some x => decide (x.k = K) && mayB x.r R
set_option maxHeartbeats 2000000 in
theorem has_any (H : FoIs w b F) (e s K R : Int) : Calls Try.prog 13 #[.pointer (some ⟨b, 0, none⟩), .int .i64 e, .int .i64 s, .int .i64 K, .int .i64 R] w fun r w' => r = .returned (.tuple #[capV (if hasB F e s K R = true then fd F.l e s else none), .bool (hasB F e s K R)]) ∧ Below w.heap.size w w' := by
  obtain ⟨W, hW⟩ : ∃ W, w.alloc (.cells #[.int .i64 0, .int .i64 0, .int .i64 0] 26 (0, 0)) = W := ⟨_, rfl⟩
  have hbW : Below w.heap.size w W := by
    rw [← hW]
    exact (Below.refl _ _).alloc (Nat.le_refl _) _
  have hWs : w.heap.size < W.heap.size := by
    rw [← hW]
    simp
  have hWh : W.heap[w.heap.size]? = some (.cells #[.int .i64 0, .int .i64 0, .int .i64 0] 26 (0, 0)) := by
    rw [← hW]
    exact heap_alloc_new w _
  have HG := Lib.hid (get_any (H.below hbW) e s)
  -- the capability's box, behind it maybe a call
  have HC : Hid (∀ (k o r : Int) (w2 : World), Below W.heap.size W w2 → ∃ p w3, w2.heap.size = p ∧ w2.alloc (.cells #[.int .i64 k, .int .i64 o, .int .i64 r] 26 (0, 0)) = w3 ∧ (w3.cell? ⟨p, 0, none⟩ = some (.int .i64 k) ∧ w3.cell? ⟨p, 1, none⟩ = some (.int .i64 o) ∧ w3.cell? ⟨p, 2, none⟩ = some (.int .i64 r)) ∧ p < w3.heap.size ∧
      Hid (∀ w4, Below w3.heap.size w3 w4 → (w4.cell? ⟨p, 0, none⟩ = some (.int .i64 k) ∧ w4.cell? ⟨p, 1, none⟩ = some (.int .i64 o) ∧ w4.cell? ⟨p, 2, none⟩ = some (.int .i64 r)) ∧ (w4.cell? ⟨w.heap.size, 0, none⟩ = some (.int .i64 0) ∧ w4.cell? ⟨w.heap.size, 1, none⟩ = some (.int .i64 0) ∧ w4.cell? ⟨w.heap.size, 2, none⟩ = some (.int .i64 0)) ∧ (∀ j, w4.frozen? ⟨w.heap.size, j, none⟩ = false) ∧
        Hid (∀ x y z : Int, ∃ w9, ((w4.setCell ⟨w.heap.size, 0, none⟩ (.int .i64 x)).setCell ⟨w.heap.size, 1, none⟩ (.int .i64 y)).setCell ⟨w.heap.size, 2, none⟩ (.int .i64 z) = w9 ∧ (w9.cell? ⟨w.heap.size, 0, none⟩ = some (.int .i64 x) ∧ w9.cell? ⟨w.heap.size, 1, none⟩ = some (.int .i64 y) ∧ w9.cell? ⟨w.heap.size, 2, none⟩ = some (.int .i64 z)) ∧ Hid (Below w.heap.size w w9)))) := Lib.hid fun k o r w2 h2 => by
    have hh := heap_alloc_new w2 (.cells #[.int .i64 k, .int .i64 o, .int .i64 r] 26 (0, 0))
    have hb3 := below_new (Nat.le_refl _) h2 (.cells #[.int .i64 k, .int .i64 o, .int .i64 r] 26 (0, 0))
    have hp : w2.heap.size < (w2.alloc (.cells #[.int .i64 k, .int .i64 o, .int .i64 r] 26 (0, 0))).heap.size := by simp
    refine ⟨_, _, rfl, rfl, cap_cells hh, hp, Lib.hid fun w4 h4 => ?_⟩
    have hb4 := below_call (Nat.le_refl _) hb3 h4
    have hr4 : w4.heap[w.heap.size]? = _ := (hb4.block _ hWs).trans hWh
    refine ⟨cap_cells ((h4.block _ hp).trans hh), cap_cells hr4, fun j => by simp only [World.frozen?, hr4]; rfl, Lib.hid fun x y z => ⟨_, rfl, ?_, ?_⟩⟩
    · exact cap_cells (heap_setCell_same _ w.heap.size 2 _ _ (.int .i64 z) (heap_setCell_same _ w.heap.size 1 _ _ (.int .i64 y) (heap_setCell_same w4 w.heap.size 0 _ _ (.int .i64 x) hr4)))
    · have hb := hbW.trans (hb4.mono hbW.size)
      exact Lib.hid (((hb.setCell (Nat.le_refl _) _).setCell (Nat.le_refl _) _).setCell (Nat.le_refl _) _)
  have HW := Lib.hid hW
  unfold hasB
  clear hW hWh hbW hWs
  cases hx : fd F.l e s with
  | none =>
    rw [hx] at HG
    simp only [capV, hk, ho, hr, Option.isSome_none] at HG ⊢
    rw [if_neg (by simp)]
    obtain ⟨k, o, r, HG⟩ : ∃ k o r : Int, Hid (Calls Try.prog 30 #[.pointer (some ⟨b, 0, none⟩), .int .i64 e, .int .i64 s] W fun x w' => x = .returned (.tuple #[.agg #[.int .i64 k, .int .i64 o, .int .i64 r], .bool false]) ∧ Below W.heap.size W w') := ⟨0, 0, 0, HG⟩
    clear H hx
    go_enter Try.func13, Try.ntmps13
    go_wp2_with fail
    rw [show w.alloc (.cells #[.int .i64 0, .int .i64 0, .int .i64 0] 26 (0, 0)) = W from HW.out]
    refine HG.out.mono ?_
    rintro x w2 ⟨rfl, hb2⟩
    obtain ⟨p, w3, d1, d2, ⟨c0, c1, c2⟩, lp, HX⟩ := HC.out k o r w2 hb2
    obtain ⟨-, ⟨g0, g1, g2⟩, gz, H9⟩ := HX.out w3 (Below.refl _ _)
    obtain ⟨w9, e9, ⟨q0, q1, q2⟩, HF⟩ := H9.out 0 0 0
    clear hb2
    go_wp2
    refine bodyPost_ret (v := .tuple #[.agg #[.int .i64 0, .int .i64 0, .int .i64 0], .bool false]) (by simp [results, Try.results13, go_sem, q0, q1, q2]) rfl ?_
    exact ⟨rfl, HF.out⟩
  | some x =>
    rw [hx] at HG
    simp only [capV, hk, ho, hr, Option.isSome_some] at HG
    have HM : Hid (∀ w, _) := Lib.hid fun w => may_any x.k x.o (x.r : Nat) R w
    dsimp only
    by_cases hkk : x.k = K
    · simp only [show (decide (x.k = K) && mayB x.r R) = mayB x.r R by simp [hkk]]
      cases hm : mayB x.r R with
      | true =>
        rw [hm] at HM
        rw [if_pos rfl]
        simp only [capV, hk, ho, hr]
        have hne : (x.k != K) = false := by simp [hkk]
        clear H hx hm hkk
        generalize x.k = k at *
        generalize x.o = o at *
        generalize x.r = r at *
        go_enter Try.func13, Try.ntmps13
        go_wp2_with fail
        rw [show w.alloc (.cells #[.int .i64 0, .int .i64 0, .int .i64 0] 26 (0, 0)) = W from HW.out]
        refine HG.out.mono ?_
        rintro x w2 ⟨rfl, hb2⟩
        obtain ⟨p, w3, d1, d2, ⟨c0, c1, c2⟩, lp, HX⟩ := HC.out k o (r : Nat) w2 hb2
        clear hb2
        go_wp2_with (go_at_call 33; refine (HM.out _).mono ?_; rintro x w4 ⟨rfl, hb4⟩; obtain ⟨⟨m0, m1, m2⟩, ⟨g0, g1, g2⟩, gz, H9⟩ := HX.out w4 hb4; obtain ⟨w9, e9, ⟨q0, q1, q2⟩, HF⟩ := H9.out k o (r : Nat); clear hb4)
        refine bodyPost_ret (v := .tuple #[.agg #[.int .i64 k, .int .i64 o, .int .i64 (r : Nat)], .bool true]) (by simp [results, Try.results13, go_sem, q0, q1, q2]) rfl ?_
        exact ⟨rfl, HF.out⟩
      | false =>
        rw [hm] at HM
        rw [if_neg (by simp)]
        simp only [capV, hk, ho, hr]
        have hne : (x.k != K) = false := by simp [hkk]
        clear H hx hm hkk
        generalize x.k = k at *
        generalize x.o = o at *
        generalize x.r = r at *
        go_enter Try.func13, Try.ntmps13
        go_wp2_with fail
        rw [show w.alloc (.cells #[.int .i64 0, .int .i64 0, .int .i64 0] 26 (0, 0)) = W from HW.out]
        refine HG.out.mono ?_
        rintro x w2 ⟨rfl, hb2⟩
        obtain ⟨p, w3, d1, d2, ⟨c0, c1, c2⟩, lp, HX⟩ := HC.out k o (r : Nat) w2 hb2
        clear hb2
        go_wp2_with (go_at_call 33; refine (HM.out _).mono ?_; rintro x w4 ⟨rfl, hb4⟩; obtain ⟨⟨m0, m1, m2⟩, ⟨g0, g1, g2⟩, gz, H9⟩ := HX.out w4 hb4; obtain ⟨w9, e9, ⟨q0, q1, q2⟩, HF⟩ := H9.out 0 0 0; clear hb4)
        refine bodyPost_ret (v := .tuple #[.agg #[.int .i64 0, .int .i64 0, .int .i64 0], .bool false]) (by simp [results, Try.results13, go_sem, q0, q1, q2]) rfl ?_
        exact ⟨rfl, HF.out⟩
    · simp only [show (decide (x.k = K) && mayB x.r R) = false by simp [hkk]]
      rw [if_neg (by simp)]
      simp only [capV, hk, ho, hr]
      have hne : (x.k != K) = true := by simp [hkk]
      clear H hx hkk
      generalize x.k = k at *
      generalize x.o = o at *
      generalize x.r = r at *
      go_enter Try.func13, Try.ntmps13
      go_wp2_with fail
      rw [show w.alloc (.cells #[.int .i64 0, .int .i64 0, .int .i64 0] 26 (0, 0)) = W from HW.out]
      refine HG.out.mono ?_
      rintro x w2 ⟨rfl, hb2⟩
      obtain ⟨p, w3, d1, d2, ⟨c0, c1, c2⟩, lp, HX⟩ := HC.out k o (r : Nat) w2 hb2
      obtain ⟨-, ⟨g0, g1, g2⟩, gz, H9⟩ := HX.out w3 (Below.refl _ _)
      obtain ⟨w9, e9, ⟨q0, q1, q2⟩, HF⟩ := H9.out 0 0 0
      clear hb2
      go_wp2
      refine bodyPost_ret (v := .tuple #[.agg #[.int .i64 0, .int .i64 0, .int .i64 0], .bool false]) (by simp [results, Try.results13, go_sem, q0, q1, q2]) rfl ?_
      exact ⟨rfl, HF.out⟩

/-! Free. -/
def freeV (L : List Nd) (e : Int) : Int := if 0 ≤ e ∧ e ≤ 7 then (match (List.range 16).find? (fun s => (fd L e (s : Nat)).isNone) with | some s => (s : Nat) | none => -1) else -1
theorem free_at {L : List Nd} {e k : Nat} (he : e < 8) (hk : k < 16) (h : ∀ j, j < k → (fd L e (j : Nat)).isNone = false) (hn : (fd L e (k : Nat)).isNone = true) : freeV L e = (k : Nat) := by
  unfold freeV
  rw [if_pos (by omega)]
  have : (List.range 16).find? (fun s => (fd L e (s : Nat)).isNone) = some k := List.find?_range_eq_some.2 ⟨hn, List.mem_range.2 hk, fun j hj => by rw [h j hj]; rfl⟩
  rw [this]
theorem free_full {L : List Nd} {e : Nat} (he : e < 8) (h : ∀ j, j < 16 → (fd L e (j : Nat)).isNone = false) : freeV L e = -1 := by
  unfold freeV
  rw [if_pos (by omega)]
  have : (List.range 16).find? (fun s => (fd L e (s : Nat)).isNone) = none := List.find?_range_eq_none.2 fun j hj => by rw [h j hj]; rfl
  rw [this]
theorem noone_any (k o r t u : Int) (w : World) : Calls Try.prog 45 #[.agg #[.int .i64 k, .int .i64 o, .int .i64 r, .int .i64 t, .int .i64 u]] w fun e w' => e = .returned (.bool (!decide (0 < t))) ∧ Below w.heap.size w w' := by
  have HT : Hid (∀ w, _) := Lib.hid fun w => there_any k o r t u w
  have HB : Hid (∀ (X : Obj) (w2 : World), Below (w.alloc X).heap.size (w.alloc X) w2 → Below w.heap.size w w2) := Lib.hid fun X w2 h => (below_new (Nat.le_refl _) (Below.refl _ w) X).trans (h.mono (below_new (Nat.le_refl _) (Below.refl _ w) X).size)
  generalize decide (0 < t) = q at *
  go_enter Try.func45, Try.ntmps45
  go_wp2_with (go_at_call 37; refine (HT.out _).mono ?_; rintro e w2 ⟨rfl, hb⟩; have HB2 := Lib.hid (HB.out _ w2 hb); clear hb)
  go_ret
  exact ⟨rfl, HB2.out⟩
set_option maxRecDepth 4000 in
set_option maxHeartbeats 1000000 in
theorem first_free (H : FoIs w b F) {e : Nat} (he : e < 8) : Calls Try.prog 44 #[.slice (some ⟨b, e * 80, none⟩) 16 16, .func (.func 45) #[] #[]] w fun r w' => r = .returned (.int .i64 (freeV F.l e)) ∧ Below w.heap.size w w' := by
  have HH := Lib.hid H
  have He := Lib.hid he
  clear H he
  go_enter Try.func44, Try.ntmps44
  go_wp2
  go_loopw [5, 8] (fun _ i wr => ∃ k : Nat, k ≤ 16 ∧ i = .int .i64 k ∧ Hid (∀ j, j < k → (fd F.l e (j : Nat)).isNone = false) ∧ Hid (Below w.heap.size w wr)) (fun _ i _ => (16 - intOf i).toNat)
  case atStart => exact ⟨0, by omega, rfl, Lib.hid (fun j hj => by omega), (Below.refl _ _ : Below w.heap.size w w)⟩
  case round =>
    obtain ⟨k, hk16, rfl, hv, hb⟩ := hrel
    by_cases hlt : k < 16
    · have hk0 : (0 : Int) ≤ k := by omega
      have hk1 : (k : Int) < 16 := by omega
      obtain ⟨c0, c1, c2, c3, c4⟩ := (HH.out.below hb.out).at_ (e := e) (s := k) He.out hlt
      have HT : Hid (∀ w, _) := Lib.hid fun w => noone_any (hk (fd F.l e k)) (ho (fd F.l e k)) (hr (fd F.l e k)) (hi (fd F.l e k)) (hu (fd F.l e k)) w
      rw [HH.out.wf.there] at HT
      have HNx : Hid ((fd F.l e (k : Nat)).isNone = false → ∀ j, j < k + 1 → (fd F.l e (j : Nat)).isNone = false) := Lib.hid fun h j hj => by
        by_cases hjk : j = k
        · subst hjk
          exact h
        · exact hv.out j (by omega)
      cases hf : (fd F.l e (k : Nat)).isSome with
      | true =>
        rw [hf] at HT
        have HN := Lib.hid (HNx.out (by rw [← Option.not_isSome, hf]; rfl))
        generalize hk (fd F.l e k) = xk at *
        generalize ho (fd F.l e k) = xo at *
        generalize hr (fd F.l e k) = xr at *
        generalize hi (fd F.l e k) = xi at *
        generalize hu (fd F.l e k) = xu at *
        clear hf
        go_wp2_with (go_at_call 45; refine (HT.out _).mono ?_; rintro x w2 ⟨rfl, hb2⟩; have HB2 := Lib.hid (below_call (Nat.le_refl _) hb.out hb2); clear hb2)
        go_roundw
        case rel => exact ⟨k + 1, by omega, by go_num, HN, HB2⟩
        case measure => simp [intOf]; omega
      | false =>
        rw [hf] at HT
        have HV := Lib.hid (free_at He.out hlt hv.out (by rw [← Option.not_isSome, hf]; rfl))
        generalize hk (fd F.l e k) = xk at *
        generalize ho (fd F.l e k) = xo at *
        generalize hr (fd F.l e k) = xr at *
        generalize hi (fd F.l e k) = xi at *
        generalize hu (fd F.l e k) = xu at *
        clear hf
        go_wp2_with (go_at_call 45; refine (HT.out _).mono ?_; rintro x w2 ⟨rfl, hb2⟩; have HB2 := Lib.hid (below_call (Nat.le_refl _) hb.out hb2); clear hb2)
        go_ret
        exact ⟨int_back HV.out.symm, HB2.out⟩
    · obtain rfl : k = 16 := by omega
      have HV := Lib.hid (free_full He.out hv.out)
      go_wp2
      go_ret
      exact ⟨int_back HV.out.symm, hb.out⟩
set_option maxHeartbeats 1000000 in
theorem free_any (H : FoIs w b F) (e : Int) : Calls Try.prog 31 #[.pointer (some ⟨b, 0, none⟩), .int .i64 e] w fun r w' => r = .returned (.int .i64 (freeV F.l e)) ∧ Below w.heap.size w w' := by
  have HW : Hid (∀ w, _) := Lib.hid fun w => within_any e 7 w
  by_cases he : 0 ≤ e ∧ e ≤ 7
  · obtain ⟨k, rfl⟩ : ∃ k : Nat, e = k := ⟨e.toNat, by omega⟩
    have hk8 : k < 8 := by omega
    have h0 : (0 : Int) ≤ k := by omega
    have h1 : (k : Int) < 8 := by omega
    rw [show (decide ((0 : Int) ≤ (k : Nat)) && decide (((k : Nat) : Int) ≤ 7)) = true by simp; omega] at HW
    have HI := Lib.hid (first_free H hk8)
    generalize freeV F.l k = V at *
    clear H he hk8
    go_enter Try.func31, Try.ntmps31
    go_wp2_with (first
      | (go_at_call 21; refine (HW.out _).mono ?_; rintro r w' ⟨rfl, rfl⟩)
      | (go_at_call 44; refine HI.out.mono ?_; rintro r w2 ⟨rfl, hb⟩; have HB := Lib.hid hb; clear hb))
    go_ret
    exact ⟨rfl, HB.out⟩
  · rw [show (decide ((0 : Int) ≤ e) && decide (e ≤ 7)) = false by simp; omega] at HW
    have HV : Hid ((-1 : Int) = freeV F.l e) := Lib.hid (by rw [freeV, if_neg he])
    clear H he
    go_enter Try.func31, Try.ntmps31
    go_wp2_with (go_at_call 21; refine (HW.out _).mono ?_; rintro r w' ⟨rfl, rfl⟩)
    go_ret
    exact ⟨int_back HV.out, Below.refl _ _⟩
end
end Go.Proofs.Ythblldojbgeknaa
