/-
  Contract: the law's same.
-/
import Derived.Test.YthblldojbgeknaaCQuiet
namespace Go.Proofs.Ythblldojbgeknaa
open Go.ChangeShapes Go.WideShapes Go.ChangeAt Go.RowKit

/-- The first free slot of those looked at; below 0: none. -/
def frTo (L : List Nd) (e : Int) (n : Nat) : Int := match (List.range n).find? (fun s => (fd L e (s : Nat)).isNone) with
  | some s => (s : Nat)
  | none => -1
theorem frTo_succ (L : List Nd) (e : Int) (n : Nat) : frTo L e (n + 1) = if frTo L e n < 0 then (if (fd L e (n : Nat)).isNone = true then ((n : Nat) : Int) else -1) else frTo L e n := by
  unfold frTo
  rw [List.range_succ, List.find?_append]
  cases (List.range n).find? (fun s => (fd L e (s : Nat)).isNone) with
  | some s =>
    rw [if_neg (by dsimp only; omega)]
    rfl
  | none =>
    rw [if_pos (by dsimp only; omega), List.find?_cons]
    cases (fd L e (n : Nat)).isNone <;> rfl
theorem frTo_low (L : List Nd) (e : Int) (n : Nat) (h : frTo L e n < 0) : frTo L e n = -1 := by
  unfold frTo at h ⊢
  cases hf : (List.range n).find? (fun s => (fd L e (s : Nat)).isNone) with
  | some s =>
    rw [hf] at h
    dsimp only at h
    omega
  | none => rfl
theorem frTo_all (L : List Nd) {e : Nat} (he : e < 8) : frTo L (e : Nat) 16 = freeV L (e : Nat) := by
  unfold freeV
  rw [if_pos (by omega)]
  rfl
/-- A capability in a box of its own. -/
theorem cap_box {w3 w5 : World} {k o r : Int} (h : Below (w3.alloc (.cells #[.int .i64 k, .int .i64 o, .int .i64 r] 26 (0, 0))).heap.size (w3.alloc (.cells #[.int .i64 k, .int .i64 o, .int .i64 r] 26 (0, 0))) w5) : w5.cell? ⟨w3.heap.size, 0, none⟩ = some (.int .i64 k) ∧ w5.cell? ⟨w3.heap.size, 1, none⟩ = some (.int .i64 o) ∧ w5.cell? ⟨w3.heap.size, 2, none⟩ = some (.int .i64 r) := by
  have hb : w5.heap[w3.heap.size]? = some (.cells #[.int .i64 k, .int .i64 o, .int .i64 r] 26 (0, 0)) := (h.block _ (by simp)).trans (heap_alloc_new w3 _)
  exact ⟨(bx_cell (j := 0) hb rfl).1, (bx_cell (j := 1) hb rfl).1, (bx_cell (j := 2) hb rfl).1⟩
section
variable {B b rb : Nat} {D : Dc} {A : Option Addr} {n c : Nat} {w : World}
set_option maxRecDepth 100000 in
set_option maxHeartbeats 4000000 in
theorem same_any (H : St B b rb D A n c w) (hp : D.p ≤ 100) :
    Calls Try.prog 10 #[.pointer (some ⟨b, 0, none⟩), .agg #[.slice A n c, .int .i64 (D.p : Nat)]] w fun y w' => y = .returned (.bool true) ∧ Below w.heap.size w w' := by
  obtain ⟨W, hW⟩ : ∃ W, w.alloc (.cells #[.slice A n c, .int .i64 (D.p : Nat)] 36 (0, 0)) = W := ⟨_, rfl⟩
  have hwW : Below w.heap.size w W := by
    rw [← hW]
    exact (Below.refl _ _).alloc (Nat.le_refl _) _
  have HW0 : St B b rb D A n c W := H.below hwW
  have hbx : W.heap[w.heap.size]? = some (dBox A n c D.p) := by
    rw [← hW]
    exact heap_alloc_new w _
  have hltx : w.heap.size < W.heap.size := lt_of_blk hbx
  have HF : Hid (∀ w', Below W.heap.size W w' → St B b rb D A n c w' ∧ (w'.cell? ⟨w.heap.size, 0, none⟩ = some (.slice A n c) ∧ w'.cell? ⟨w.heap.size, 1, none⟩ = some (.int .i64 (D.p : Nat)))) := Lib.hid fun w' h' => by
    obtain ⟨⟨d0, -⟩, d1, -⟩ := dbox_cells ((h'.block _ hltx).trans hbx)
    exact ⟨HW0.below h', d0, d1⟩
  have HwW := Lib.hid hwW
  have Hlt := Lib.hid hltx
  have Hi := Lib.hid H.inv
  have Hn : Hid (n = D.l.length) := Lib.hid H.doc.len
  have hn : n ≤ 100 := by
    have := H.inv.len
    have := H.doc.len
    omega
  have hcap : n ≤ c := H.doc.cap
  have HWe := Lib.hid hW
  clear hW hwW HW0 hbx hltx H hp
  go_enter Try.func10, Try.ntmps10
  go_wp2_with fail
  rw [show w.alloc (.cells #[.slice A n c, .int .i64 (D.p : Nat)] 36 (0, 0)) = W from HWe.out]
  -- THE WALK
  go_loopw [5, 6] (fun a e wr => ∃ j : Nat, j ≤ 8 ∧ e = .int .i64 j ∧ (∃ q : Nat, a = .int .i64 (q : Nat) ∧ q ≤ j * 16 ∧ Hid (q = (ordTo D.fo.l j).length)) ∧ Hid (Below W.heap.size W wr)) (fun _ e _ => (8 - intOf e).toNat)
  case atStart => exact ⟨0, by omega, rfl, ⟨0, rfl, by omega, Lib.hid rfl⟩, Lib.hid (Below.refl _ _)⟩
  case round =>
    obtain ⟨j, hj8, rfl, ⟨q, rfl, hq, HQ⟩, HB⟩ := hrel
    have hj0 : (0 : Int) ≤ j := by omega
    by_cases hj : j < 8
    · have hj1 : (j : Int) < 8 := by omega
      go_wp2_with fail
      go_loopw [7, 8] (fun f s wr => ∃ k : Nat, k ≤ 16 ∧ s = .int .i64 k ∧ (∃ v : Int, f = .int .i64 v ∧ v < 16 ∧ Hid (v = frTo D.fo.l j k)) ∧ Hid (Below W.heap.size W wr)) (fun _ s _ => (16 - intOf s).toNat)
      case atStart => exact ⟨0, by omega, rfl, ⟨-1, rfl, by omega, Lib.hid rfl⟩, HB⟩
      case round =>
        obtain ⟨k, hk16, rfl, ⟨v, rfl, hv, HV⟩, HB2⟩ := hrel
        have hk0 : (0 : Int) ≤ k := by omega
        by_cases hk : k < 16
        · have hk1 : (k : Int) < 16 := by omega
          have hk2 : k + 1 ≤ 16 := hk
          have HG := Lib.hid (get_any (HF.out _ HB2.out).1.fo (j : Nat) (k : Nat))
          cases hf : fd D.fo.l (j : Nat) (k : Nat) with
          | none =>
            rw [hf, show capV none = .agg #[.int .i64 0, .int .i64 0, .int .i64 0] from rfl, show (none : Option Nd).isSome = false from rfl] at HG
            have HV1 : Hid (frTo D.fo.l (j : Nat) (k + 1) = if v < 0 then ((k : Nat) : Int) else v) := Lib.hid (by
              rw [frTo_succ, hf, ← HV.out]
              rfl)
            go_wp2_with fail
            refine HG.out.mono ?_
            rintro y w3 ⟨rfl, h3⟩
            have G3 := Lib.hid (below_call (Nat.le_refl _) HB2.out h3)
            obtain ⟨-, g0, g1⟩ := HF.out w3 G3.out
            have lt3 : w.heap.size < w3.heap.size := Nat.lt_of_lt_of_le Hlt.out G3.out.size
            have HA : Hid (Calls Try.prog 14 #[.agg #[.slice A n c, .int .i64 (D.p : Nat)], .int .i64 (j : Nat), .int .i64 (k : Nat)] (w3.alloc (.cells #[.int .i64 0, .int .i64 0, .int .i64 0] 26 (0, 0))) fun y w5 => y = .returned (.int .i64 (-1)) ∧ Below (w3.alloc (.cells #[.int .i64 0, .int .i64 0, .int .i64 0] 26 (0, 0))).heap.size (w3.alloc (.cells #[.int .i64 0, .int .i64 0, .int .i64 0] 26 (0, 0))) w5) := Lib.hid (by
              have h := (HF.out _ (below_new (Nat.le_refl _) G3.out (.cells #[.int .i64 0, .int .i64 0, .int .i64 0] 26 (0, 0)))).1
              have h1 := rat_any h.doc sz_lt (Nat.le_trans hn (by omega)) (D.p : Nat) (j : Nat) (k : Nat)
              rwa [at_none hf] at h1)
            clear h3
            go_wp2_with fail
            refine HA.out.mono ?_
            rintro y w5 ⟨rfl, h5⟩
            obtain ⟨c0, c1, c2⟩ := cap_box h5
            have G5 := Lib.hid (below_call (Nat.le_refl _) (below_new (Nat.le_refl _) G3.out _) h5)
            obtain ⟨-, f0, f1⟩ := HF.out w5 G5.out
            have HS : Hid (∀ w', Below w5.heap.size w5 w' → Below w5.heap.size w5 w' ∧ (w'.cell? ⟨w3.heap.size, 0, none⟩ = some (.int .i64 0) ∧ w'.cell? ⟨w3.heap.size, 1, none⟩ = some (.int .i64 0) ∧ w'.cell? ⟨w3.heap.size, 2, none⟩ = some (.int .i64 0)) ∧ w'.cell? ⟨w.heap.size, 0, none⟩ = some (.slice A n c)) := Lib.hid fun w' h' => by
              have hb : Below (w3.alloc (.cells #[.int .i64 0, .int .i64 0, .int .i64 0] 26 (0, 0))).heap.size (w3.alloc (.cells #[.int .i64 0, .int .i64 0, .int .i64 0] 26 (0, 0))) w' := below_call (Nat.le_refl _) h5 h'
              exact ⟨h', cap_box hb, (HF.out w' (below_call (Nat.le_refl _) G5.out h')).2.1⟩
            clear h5 g0 g1 HA HG
            clear hf
            go_upto_region 11 with (fail)
            refine region_quiet (C := fun w' => Below w5.heap.size w5 w' ∧ (w'.cell? ⟨w3.heap.size, 0, none⟩ = some (.int .i64 0) ∧ w'.cell? ⟨w3.heap.size, 1, none⟩ = some (.int .i64 0) ∧ w'.cell? ⟨w3.heap.size, 2, none⟩ = some (.int .i64 0)) ∧ w'.cell? ⟨w.heap.size, 0, none⟩ = some (.slice A n c)) (by kernel_rfl) (by kernel_rfl) (HS.out _ (Below.refl _ _).drew) ?_
            go_big_quiet_want
            apply Exists.intro
            refine ⟨fun w0 hSw => ?_, ?_⟩
            · (try dsimp only at hSw); go_simp; first | done | with_reducible rfl
            go_big_quiet_on
            try simp only [Act.put, List.setIfInBounds_toArray, List.set_cons_zero, List.set_cons_succ]
            go_big_quiet_want
            apply Exists.intro
            refine ⟨fun w0 hSw => ?_, ?_⟩
            · (try dsimp only at hSw); go_simp; first | done | with_reducible rfl
            go_big_quiet_on
            try simp only [Act.put, List.setIfInBounds_toArray, List.set_cons_zero, List.set_cons_succ]
            go_big_quiet_want
            apply Exists.intro
            refine ⟨fun w0 hSw => ?_, ?_⟩
            · (try dsimp only at hSw); go_simp; first | done | with_reducible rfl
            go_big_quiet_on
            try simp only [Act.put, List.setIfInBounds_toArray, List.set_cons_zero, List.set_cons_succ]
            go_big_quiet_want
            apply Exists.intro
            refine ⟨fun w0 hSw => ?_, ?_⟩
            · (try dsimp only at hSw); go_simp; first | done | with_reducible rfl
            go_big_quiet_on
            try simp only [Act.put, List.setIfInBounds_toArray, List.set_cons_zero, List.set_cons_succ]
            go_big_quiet_want
            apply Exists.intro
            refine ⟨fun w0 hSw => ?_, ?_⟩
            · (try dsimp only at hSw); go_simp; first | done | with_reducible rfl
            go_big_quiet_on
            try simp only [Act.put, List.setIfInBounds_toArray, List.set_cons_zero, List.set_cons_succ]
            go_big_quiet_want
            apply Exists.intro
            refine ⟨fun w0 hSw => ?_, ?_⟩
            · (try dsimp only at hSw); go_simp; first | done | with_reducible rfl
            go_big_quiet_on
            try simp only [Act.put, List.setIfInBounds_toArray, List.set_cons_zero, List.set_cons_succ]
            go_big_quiet_want
            apply Exists.intro
            refine ⟨fun w0 hSw => ?_, ?_⟩
            · (try dsimp only at hSw); go_simp; first | done | with_reducible rfl
            go_big_quiet_on
            try simp only [Act.put, List.setIfInBounds_toArray, List.set_cons_zero, List.set_cons_succ]
            go_big_quiet_skip
            go_big_quiet_skip
            go_big_quiet_skip
            go_big_quiet_skip
            go_big_quiet_skip
            go_big_quiet_skip
            go_big_quiet_skip
            go_big_quiet_skip
            go_big_quiet_skip
            go_big_quiet_want
            apply Exists.intro
            refine ⟨fun w0 hSw => ?_, ?_⟩
            · (try dsimp only at hSw); go_simp; first | done | with_reducible rfl
            go_big_quiet_on
            try simp only [Act.put, List.setIfInBounds_toArray, List.set_cons_zero, List.set_cons_succ]
            go_big_quiet_want
            apply Exists.intro
            refine ⟨fun w0 hSw => ?_, ?_⟩
            · (try dsimp only at hSw); go_simp; first | done | with_reducible rfl
            go_big_quiet_on
            try simp only [Act.put, List.setIfInBounds_toArray, List.set_cons_zero, List.set_cons_succ]
            go_big_quiet_want
            apply Exists.intro
            refine ⟨fun w0 hSw => ?_, ?_⟩
            · (try dsimp only at hSw); go_simp; first | done | with_reducible rfl
            go_big_quiet_on
            try simp only [Act.put, List.setIfInBounds_toArray, List.set_cons_zero, List.set_cons_succ]
            go_big_quiet_want
            apply Exists.intro
            refine ⟨fun w0 hSw => ?_, ?_⟩
            · (try dsimp only at hSw); go_simp; first | done | with_reducible rfl
            go_big_quiet_on
            try simp only [Act.put, List.setIfInBounds_toArray, List.set_cons_zero, List.set_cons_succ]
            go_big_quiet_want
            apply Exists.intro
            refine ⟨fun w0 hSw => ?_, ?_⟩
            · (try dsimp only at hSw); go_simp; first | done | with_reducible rfl
            go_big_quiet_on
            try simp only [Act.put, List.setIfInBounds_toArray, List.set_cons_zero, List.set_cons_succ]
            go_big_quiet_want
            apply Exists.intro
            refine ⟨fun w0 hSw => ?_, ?_⟩
            · (try dsimp only at hSw); go_simp; first | done | with_reducible rfl
            go_big_quiet_on
            try simp only [Act.put, List.setIfInBounds_toArray, List.set_cons_zero, List.set_cons_succ]
            go_big_quiet_want
            apply Exists.intro
            refine ⟨fun w0 hSw => ?_, ?_⟩
            · (try dsimp only at hSw); go_simp; first | done | with_reducible rfl
            go_big_quiet_on
            try simp only [Act.put, List.setIfInBounds_toArray, List.set_cons_zero, List.set_cons_succ]
            go_big_quiet_want
            apply Exists.intro
            refine ⟨fun w0 hSw => ?_, ?_⟩
            · (try dsimp only at hSw); go_simp; first | done | with_reducible rfl
            go_big_quiet_on
            try simp only [Act.put, List.setIfInBounds_toArray, List.set_cons_zero, List.set_cons_succ]
            go_big_quiet_want
            apply Exists.intro
            refine ⟨fun w0 hSw => ?_, ?_⟩
            · (try dsimp only at hSw); go_simp; first | done | with_reducible rfl
            go_big_quiet_on
            try simp only [Act.put, List.setIfInBounds_toArray, List.set_cons_zero, List.set_cons_succ]
            go_big_quiet_want
            apply Exists.intro
            refine ⟨fun w0 hSw => ?_, ?_⟩
            · (try dsimp only at hSw); go_simp; first | done | with_reducible rfl
            go_big_quiet_on
            try simp only [Act.put, List.setIfInBounds_toArray, List.set_cons_zero, List.set_cons_succ]
            go_big_quiet_want
            apply Exists.intro
            refine ⟨fun w0 hSw => ?_, ?_⟩
            · (try dsimp only at hSw); go_simp; first | done | with_reducible rfl
            go_big_quiet_on
            try simp only [Act.put, List.setIfInBounds_toArray, List.set_cons_zero, List.set_cons_succ]
            refine wpQuiet_nil ?_
            intro w6 hSw
            have GW : Hid (Below W.heap.size W w6) := Lib.hid (below_call (Nat.le_refl _) G5.out hSw.1)
            clear hSw HS c0 c1 c2 f0 f1 G5
            by_cases hv0 : v < 0
            · go_wp2
              go_roundw
              case rel => exact ⟨k + 1, by omega, by go_num, ⟨((k : Nat) : Int), rfl, by omega, Lib.hid (by rw [HV1.out, if_pos hv0])⟩, GW⟩
              case measure => simp [intOf]; omega
            · go_wp2
              go_roundw
              case rel => exact ⟨k + 1, by omega, by go_num, ⟨v, rfl, by omega, Lib.hid (by rw [HV1.out, if_neg hv0])⟩, GW⟩
              case measure => simp [intOf]; omega
          | some y =>
            obtain ⟨i, x, hi, hx, rfl⟩ := at_some (M := D.l) hf
            have Hx := Lib.hid hx
            obtain ⟨g, hAg, -⟩ := ((HF.out W (Below.refl _ _)).1.doc).at_ hx
            subst hAg
            have HX : Hid (∀ w', Below W.heap.size W w' → w'.cell? ⟨g, i * 7 + 4, none⟩ = some (.int .i64 x.k) ∧ w'.cell? ⟨g, i * 7 + 5, none⟩ = some (.int .i64 x.o) ∧ w'.cell? ⟨g, i * 7 + 6, none⟩ = some (.int .i64 (x.r : Nat))) := Lib.hid fun w' h' => by
              obtain ⟨g', e', -, -, -, -, -, r4, r5, r6⟩ := ((HF.out w' h').1.doc).at_ hx
              cases e'
              exact ⟨r4, r5, r6⟩
            have i0 : (0 : Int) ≤ i := by omega
            have i1 : (i : Int) < n := by
              have h1 := (List.getElem?_eq_some_iff.1 hx).1
              have h2 := Hn.out
              omega
            rw [hf, show capV (some x.nd) = .agg #[.int .i64 x.k, .int .i64 x.o, .int .i64 (x.r : Nat)] from rfl, show (some x.nd).isSome = true from rfl] at HG
            have HV1 : Hid (v = frTo D.fo.l (j : Nat) (k + 1)) := Lib.hid (by
              rw [frTo_succ, hf]
              have h := HV.out
              by_cases hv0 : v < 0
              · have h1 := frTo_low D.fo.l (j : Nat) k (by rw [← h]; exact hv0)
                rw [if_pos (by rw [← h]; exact hv0), if_neg (by simp)]
                omega
              · rw [if_neg (by rw [← h]; exact hv0)]
                exact h)
            clear hx
            go_wp2_with fail
            refine HG.out.mono ?_
            rintro y w3 ⟨rfl, h3⟩
            have G3 := Lib.hid (below_call (Nat.le_refl _) HB2.out h3)
            obtain ⟨-, g0, g1⟩ := HF.out w3 G3.out
            have lt3 : w.heap.size < w3.heap.size := Nat.lt_of_lt_of_le Hlt.out G3.out.size
            have HA : Hid (Calls Try.prog 14 #[.agg #[.slice (some ⟨g, 0, none⟩) n c, .int .i64 (D.p : Nat)], .int .i64 (j : Nat), .int .i64 (k : Nat)] (w3.alloc (.cells #[.int .i64 x.k, .int .i64 x.o, .int .i64 (x.r : Nat)] 26 (0, 0))) fun y w5 => y = .returned (.int .i64 (i : Nat)) ∧ Below (w3.alloc (.cells #[.int .i64 x.k, .int .i64 x.o, .int .i64 (x.r : Nat)] 26 (0, 0))).heap.size (w3.alloc (.cells #[.int .i64 x.k, .int .i64 x.o, .int .i64 (x.r : Nat)] 26 (0, 0))) w5) := Lib.hid (by
              have h := (HF.out _ (below_new (Nat.le_refl _) G3.out (.cells #[.int .i64 x.k, .int .i64 x.o, .int .i64 (x.r : Nat)] 26 (0, 0)))).1
              have h1 := rat_any h.doc sz_lt (Nat.le_trans hn (by omega)) (D.p : Nat) (j : Nat) (k : Nat)
              rwa [hi] at h1)
            clear h3
            go_wp2_with fail
            refine HA.out.mono ?_
            rintro y w5 ⟨rfl, h5⟩
            obtain ⟨c0, c1, c2⟩ := cap_box h5
            have G5 := Lib.hid (below_call (Nat.le_refl _) (below_new (Nat.le_refl _) G3.out _) h5)
            obtain ⟨-, f0, f1⟩ := HF.out w5 G5.out
            have HS : Hid (∀ w', Below w5.heap.size w5 w' → Below w5.heap.size w5 w' ∧ (w'.cell? ⟨w3.heap.size, 0, none⟩ = some (.int .i64 x.k) ∧ w'.cell? ⟨w3.heap.size, 1, none⟩ = some (.int .i64 x.o) ∧ w'.cell? ⟨w3.heap.size, 2, none⟩ = some (.int .i64 (x.r : Nat))) ∧ w'.cell? ⟨w.heap.size, 0, none⟩ = some (.slice (some ⟨g, 0, none⟩) n c) ∧ (w'.cell? ⟨g, i * 7 + 4, none⟩ = some (.int .i64 x.k) ∧ w'.cell? ⟨g, i * 7 + 5, none⟩ = some (.int .i64 x.o) ∧ w'.cell? ⟨g, i * 7 + 6, none⟩ = some (.int .i64 (x.r : Nat)))) := Lib.hid fun w' h' => by
              have hb : Below (w3.alloc (.cells #[.int .i64 x.k, .int .i64 x.o, .int .i64 (x.r : Nat)] 26 (0, 0))).heap.size (w3.alloc (.cells #[.int .i64 x.k, .int .i64 x.o, .int .i64 (x.r : Nat)] 26 (0, 0))) w' := below_call (Nat.le_refl _) h5 h'
              exact ⟨h', cap_box hb, (HF.out w' (below_call (Nat.le_refl _) G5.out h')).2.1, HX.out w' (below_call (Nat.le_refl _) G5.out h')⟩
            clear h5 g0 g1 HA HG
            clear hf hi
            go_upto_region 11 with (fail)
            refine region_quiet (C := fun w' => Below w5.heap.size w5 w' ∧ (w'.cell? ⟨w3.heap.size, 0, none⟩ = some (.int .i64 x.k) ∧ w'.cell? ⟨w3.heap.size, 1, none⟩ = some (.int .i64 x.o) ∧ w'.cell? ⟨w3.heap.size, 2, none⟩ = some (.int .i64 (x.r : Nat))) ∧ w'.cell? ⟨w.heap.size, 0, none⟩ = some (.slice (some ⟨g, 0, none⟩) n c) ∧ (w'.cell? ⟨g, i * 7 + 4, none⟩ = some (.int .i64 x.k) ∧ w'.cell? ⟨g, i * 7 + 5, none⟩ = some (.int .i64 x.o) ∧ w'.cell? ⟨g, i * 7 + 6, none⟩ = some (.int .i64 (x.r : Nat)))) (by kernel_rfl) (by kernel_rfl) (HS.out _ (Below.refl _ _).drew) ?_
            go_big_quiet_want
            apply Exists.intro
            refine ⟨fun w0 hSw => ?_, ?_⟩
            · (try dsimp only at hSw); go_simp; first | done | with_reducible rfl
            go_big_quiet_on
            try simp only [Act.put, List.setIfInBounds_toArray, List.set_cons_zero, List.set_cons_succ]
            go_big_quiet_want
            apply Exists.intro
            refine ⟨fun w0 hSw => ?_, ?_⟩
            · (try dsimp only at hSw); go_simp; first | done | with_reducible rfl
            go_big_quiet_on
            try simp only [Act.put, List.setIfInBounds_toArray, List.set_cons_zero, List.set_cons_succ]
            go_big_quiet_want
            apply Exists.intro
            refine ⟨fun w0 hSw => ?_, ?_⟩
            · (try dsimp only at hSw); go_simp; first | done | with_reducible rfl
            go_big_quiet_on
            try simp only [Act.put, List.setIfInBounds_toArray, List.set_cons_zero, List.set_cons_succ]
            go_big_quiet_want
            apply Exists.intro
            refine ⟨fun w0 hSw => ?_, ?_⟩
            · (try dsimp only at hSw); go_simp; first | done | with_reducible rfl
            go_big_quiet_on
            try simp only [Act.put, List.setIfInBounds_toArray, List.set_cons_zero, List.set_cons_succ]
            go_big_quiet_want
            apply Exists.intro
            refine ⟨fun w0 hSw => ?_, ?_⟩
            · (try dsimp only at hSw); go_simp; first | done | with_reducible rfl
            go_big_quiet_on
            try simp only [Act.put, List.setIfInBounds_toArray, List.set_cons_zero, List.set_cons_succ]
            go_big_quiet_want
            apply Exists.intro
            refine ⟨fun w0 hSw => ?_, ?_⟩
            · (try dsimp only at hSw); go_simp; first | done | with_reducible rfl
            go_big_quiet_on
            try simp only [Act.put, List.setIfInBounds_toArray, List.set_cons_zero, List.set_cons_succ]
            go_big_quiet_want
            apply Exists.intro
            refine ⟨fun w0 hSw => ?_, ?_⟩
            · (try dsimp only at hSw); go_simp; first | done | with_reducible rfl
            go_big_quiet_on
            try simp only [Act.put, List.setIfInBounds_toArray, List.set_cons_zero, List.set_cons_succ]
            go_big_quiet_want
            apply Exists.intro
            refine ⟨fun w0 hSw => ?_, ?_⟩
            · (try dsimp only at hSw); go_simp; first | done | with_reducible rfl
            go_big_quiet_on
            try simp only [Act.put, List.setIfInBounds_toArray, List.set_cons_zero, List.set_cons_succ]
            go_big_quiet_want
            apply Exists.intro
            refine ⟨fun w0 hSw => ?_, ?_⟩
            · (try dsimp only at hSw); go_simp; first | done | with_reducible rfl
            go_big_quiet_on
            try simp only [Act.put, List.setIfInBounds_toArray, List.set_cons_zero, List.set_cons_succ]
            go_big_quiet_want
            apply Exists.intro
            refine ⟨fun w0 hSw => ?_, ?_⟩
            · (try dsimp only at hSw); go_simp; first | done | with_reducible rfl
            go_big_quiet_on
            try simp only [Act.put, List.setIfInBounds_toArray, List.set_cons_zero, List.set_cons_succ]
            go_big_quiet_want
            apply Exists.intro
            refine ⟨fun w0 hSw => ?_, ?_⟩
            · (try dsimp only at hSw); go_simp; first | done | with_reducible rfl
            go_big_quiet_on
            try simp only [Act.put, List.setIfInBounds_toArray, List.set_cons_zero, List.set_cons_succ]
            go_big_quiet_want
            apply Exists.intro
            refine ⟨fun w0 hSw => ?_, ?_⟩
            · (try dsimp only at hSw); go_simp; first | done | with_reducible rfl
            go_big_quiet_on
            try simp only [Act.put, List.setIfInBounds_toArray, List.set_cons_zero, List.set_cons_succ]
            go_big_quiet_want
            apply Exists.intro
            refine ⟨fun w0 hSw => ?_, ?_⟩
            · (try dsimp only at hSw); go_simp; first | done | with_reducible rfl
            go_big_quiet_on
            try simp only [Act.put, List.setIfInBounds_toArray, List.set_cons_zero, List.set_cons_succ]
            go_big_quiet_want
            apply Exists.intro
            refine ⟨fun w0 hSw => ?_, ?_⟩
            · (try dsimp only at hSw); go_simp; first | done | with_reducible rfl
            go_big_quiet_on
            try simp only [Act.put, List.setIfInBounds_toArray, List.set_cons_zero, List.set_cons_succ]
            go_big_quiet_want
            apply Exists.intro
            refine ⟨fun w0 hSw => ?_, ?_⟩
            · (try dsimp only at hSw); go_simp; exact (lto_any _ _ _ _).mono fun e w'' h => ⟨h.1, HS.out _ (below_call (Nat.le_refl _) hSw.1 h.2)⟩
            go_big_quiet_on
            try simp only [Act.put, List.setIfInBounds_toArray, List.set_cons_zero, List.set_cons_succ]
            go_big_quiet_want
            apply Exists.intro
            refine ⟨fun w0 hSw => ?_, ?_⟩
            · (try dsimp only at hSw); go_simp; first | done | with_reducible rfl
            go_big_quiet_on
            try simp only [Act.put, List.setIfInBounds_toArray, List.set_cons_zero, List.set_cons_succ]
            go_big_quiet_want
            apply Exists.intro
            refine ⟨fun w0 hSw => ?_, ?_⟩
            · (try dsimp only at hSw); go_simp; first | done | with_reducible rfl
            go_big_quiet_on
            try simp only [Act.put, List.setIfInBounds_toArray, List.set_cons_zero, List.set_cons_succ]
            go_big_quiet_want
            apply Exists.intro
            refine ⟨fun w0 hSw => ?_, ?_⟩
            · (try dsimp only at hSw); go_simp; first | done | with_reducible rfl
            go_big_quiet_on
            try simp only [Act.put, List.setIfInBounds_toArray, List.set_cons_zero, List.set_cons_succ]
            go_big_quiet_want
            apply Exists.intro
            refine ⟨fun w0 hSw => ?_, ?_⟩
            · (try dsimp only at hSw); go_simp; first | done | with_reducible rfl
            go_big_quiet_on
            try simp only [Act.put, List.setIfInBounds_toArray, List.set_cons_zero, List.set_cons_succ]
            go_big_quiet_want
            apply Exists.intro
            refine ⟨fun w0 hSw => ?_, ?_⟩
            · (try dsimp only at hSw); go_simp; first | done | with_reducible rfl
            go_big_quiet_on
            try simp only [Act.put, List.setIfInBounds_toArray, List.set_cons_zero, List.set_cons_succ]
            go_big_quiet_want
            apply Exists.intro
            refine ⟨fun w0 hSw => ?_, ?_⟩
            · (try dsimp only at hSw); go_simp; first | done | with_reducible rfl
            go_big_quiet_on
            try simp only [Act.put, List.setIfInBounds_toArray, List.set_cons_zero, List.set_cons_succ]
            go_big_quiet_want
            apply Exists.intro
            refine ⟨fun w0 hSw => ?_, ?_⟩
            · (try dsimp only at hSw); go_simp; first | done | with_reducible rfl
            go_big_quiet_on
            try simp only [Act.put, List.setIfInBounds_toArray, List.set_cons_zero, List.set_cons_succ]
            go_big_quiet_skip
            go_big_quiet_skip
            go_big_quiet_skip
            go_big_quiet_want
            apply Exists.intro
            refine ⟨fun w0 hSw => ?_, ?_⟩
            · (try dsimp only at hSw); go_simp; first | done | with_reducible rfl
            go_big_quiet_on
            try simp only [Act.put, List.setIfInBounds_toArray, List.set_cons_zero, List.set_cons_succ]
            go_big_quiet_want
            apply Exists.intro
            refine ⟨fun w0 hSw => ?_, ?_⟩
            · (try dsimp only at hSw); go_simp; first | done | with_reducible rfl
            go_big_quiet_on
            try simp only [Act.put, List.setIfInBounds_toArray, List.set_cons_zero, List.set_cons_succ]
            refine wpQuiet_nil ?_
            intro w6 hSw
            have GW : Hid (Below W.heap.size W w6) := Lib.hid (below_call (Nat.le_refl _) G5.out hSw.1)
            clear hSw HS c0 c1 c2 f0 f1 G5
            go_wp2
            go_roundw
            case rel => exact ⟨k + 1, by omega, by go_num, ⟨v, rfl, by omega, HV1⟩, GW⟩
            case measure => simp [intOf]; omega
        · obtain rfl : k = 16 := by omega
          have Hv16 := HV
          have HL : Hid (Calls Try.prog 20 #[.pointer (some ⟨b, 0, none⟩), .int .i64 (j : Nat)] wr fun y w7 => ∃ X m cx, y = .returned (.slice X m cx) ∧ m ≤ 16 ∧ m ≤ cx ∧ Hid (m = (rowN D.fo.l (j : Nat)).length) ∧ Hid (Sls (fun k => wr.heap.size ≤ k ∧ k < w7.heap.size) w7 X ((rowN D.fo.l (j : Nat)).map Nd.s)) ∧ Hid (Below W.heap.size W w7)) := Lib.hid (by
            refine (list_any (HF.out _ HB2.out).1.fo (j : Nat)).mono ?_
            rintro y w7 ⟨X, m, cx, rfl, hm, ho, hb⟩
            have := rowTo_len D.fo.l (j : Nat) 16
            exact ⟨X, m, cx, rfl, by rw [hm]; exact this, own_cap ho, Lib.hid hm, Lib.hid (Sls.own ho), Lib.hid (below_call (Nat.le_refl _) HB2.out hb)⟩)
          go_wp2_with (go_at_call 20; refine HL.out.mono ?_; rintro y w7 ⟨X, m, cx, rfl, hm16, hmc, Hm, HSl, G7⟩)
          clear HL
          go_loopw [13] (fun u wr => ∃ i : Nat, i ≤ m ∧ u = .int .i64 i ∧ Hid (Below w7.heap.size w7 wr)) (fun u _ => (m - intOf u).toNat)
          case atStart => exact ⟨0, Nat.zero_le _, rfl, Lib.hid (Below.refl _ _)⟩
          case round =>
            obtain ⟨i, him, rfl, HB3⟩ := hrel
            have ii0 : (0 : Int) ≤ i := by omega
            by_cases hilt : i < m
            · have ii1 : (i : Int) < m := by omega
              have him2 : i + 1 ≤ m := hilt
              obtain ⟨y, hy⟩ : ∃ y, (rowN D.fo.l (j : Nat))[i]? = some y := ⟨_, List.getElem?_eq_getElem (by rw [← Hm.out]; exact hilt)⟩
              obtain ⟨hyD, hyj⟩ := (row_mem Hi.out.wf).1 (List.mem_of_getElem? hy)
              have hyf := fd_of Hi.out.wf.apart hyD
              rw [hyj] at hyf
              obtain ⟨i2, x, hi2, hx, rfl⟩ := at_some (M := D.l) hyf
              have Hx := Lib.hid hx
              obtain ⟨g, hAg, -⟩ := ((HF.out W (Below.refl _ _)).1.doc).at_ hx
              subst hAg
              have HX : Hid (∀ w', Below W.heap.size W w' → w'.cell? ⟨g, i2 * 7 + 4, none⟩ = some (.int .i64 x.k) ∧ w'.cell? ⟨g, i2 * 7 + 5, none⟩ = some (.int .i64 x.o) ∧ w'.cell? ⟨g, i2 * 7 + 6, none⟩ = some (.int .i64 (x.r : Nat))) := Lib.hid fun w' h' => by
                obtain ⟨g', e', -, -, -, -, -, r4, r5, r6⟩ := ((HF.out w' h').1.doc).at_ hx
                cases e'
                exact ⟨r4, r5, r6⟩
              have j0 : (0 : Int) ≤ i2 := by omega
              have j1 : (i2 : Int) < n := by
                have h1 := (List.getElem?_eq_some_iff.1 hx).1
                have h2 := Hn.out
                omega
              obtain ⟨h, hX, -⟩ := (HSl.out.kept (w' := w7) (fun k _ => rfl)).at_ (i := i) (x := x.nd.s) (by rw [List.getElem?_map, hy]; rfl)
              subst hX
              have HE : Hid (∀ w', Below w7.heap.size w7 w' → w'.cell? ⟨h, i * 5, none⟩ = some (.int .i64 (j : Nat)) ∧ w'.cell? ⟨h, i * 5 + 1, none⟩ = some (.int .i64 (x.sl : Nat)) ∧ w'.cell? ⟨h, i * 5 + 2, none⟩ = some (.int .i64 x.k) ∧ w'.cell? ⟨h, i * 5 + 3, none⟩ = some (.int .i64 x.o) ∧ w'.cell? ⟨h, i * 5 + 4, none⟩ = some (.int .i64 (x.r : Nat))) := Lib.hid fun w' h' => by
                obtain ⟨h2, e2, -, q0, q1, q2, q3, q4⟩ := (HSl.out.kept (w' := w') (fun k hk => h'.block k hk.2)).at_ (i := i) (x := x.nd.s) (by rw [List.getElem?_map, hy]; rfl)
                cases e2
                rw [show x.nd.s.1 = (j : Nat) from hyj] at q0
                exact ⟨q0, q1, q2, q3, q4⟩
              have HAt : Hid (∀ w', Below wr.heap.size wr w' → Calls Try.prog 14 #[.agg #[.slice (some ⟨g, 0, none⟩) n c, .int .i64 (D.p : Nat)], .int .i64 (j : Nat), .int .i64 (x.sl : Nat)] w' fun y w5 => y = .returned (.int .i64 (i2 : Nat)) ∧ Below w'.heap.size w' w5) := Lib.hid fun w' h' => by
                have h := (HF.out w' (below_call (Nat.le_refl _) (below_call (Nat.le_refl _) G7.out HB3.out) h')).1
                have h1 := rat_any h.doc sz_lt (Nat.le_trans hn (by omega)) (D.p : Nat) (j : Nat) (x.sl : Nat)
                rwa [show atI D.l (j : Nat) (x.sl : Nat) = (i2 : Nat) from hi2] at h1
              have HS : Hid (∀ w', Below wr.heap.size wr w' → Below wr.heap.size wr w' ∧ w'.cell? ⟨h, i * 5 + 1, none⟩ = some (.int .i64 (x.sl : Nat)) ∧ (w'.cell? ⟨w.heap.size, 0, none⟩ = some (.slice (some ⟨g, 0, none⟩) n c) ∧ w'.cell? ⟨w.heap.size, 1, none⟩ = some (.int .i64 (D.p : Nat)))) := Lib.hid fun w' h' => by
                have hb := below_call (Nat.le_refl _) HB3.out h'
                exact ⟨h', (HE.out w' hb).2.1, (HF.out w' (below_call (Nat.le_refl _) G7.out hb)).2⟩
              have Hpr : Hid (∀ i', i = i' + 1 → ∃ sl0 : Nat, sl0 < x.sl ∧ ∀ w', Below w7.heap.size w7 w' → w'.cell? ⟨h, i' * 5 + 1, none⟩ = some (.int .i64 (sl0 : Nat))) := Lib.hid fun i' e => by
                obtain ⟨y0, hy0⟩ : ∃ y0, (rowN D.fo.l (j : Nat))[i']? = some y0 := ⟨_, List.getElem?_eq_getElem (by rw [← Hm.out]; omega)⟩
                refine ⟨y0.sl, ?_, fun w' h' => ?_⟩
                · obtain ⟨p1, p2⟩ := List.getElem?_eq_some_iff.1 hy0
                  obtain ⟨p3, p4⟩ := List.getElem?_eq_some_iff.1 hy
                  have h1 := List.pairwise_iff_getElem.1 (row_rise D.fo.l (j : Nat) 16) i' i p1 p3 (by omega)
                  have e1 : (rowTo D.fo.l (j : Nat) 16)[i'] = y0 := p2
                  have e2 : (rowTo D.fo.l (j : Nat) 16)[i] = x.nd := p4
                  rw [e1, e2] at h1
                  exact h1
                · obtain ⟨h2, e2, -, q0, q1, -⟩ := (HSl.out.kept (w' := w') (fun k hk => h'.block k hk.2)).at_ (i := i') (x := y0.s) (by rw [List.getElem?_map, hy0]; rfl)
                  cases e2
                  exact q1
              clear hx hi2 hy hyD hyj hyf
              go_upto_region 19 with (fail)
              refine region_quiet (C := fun w' => Below wr.heap.size wr w' ∧ w'.cell? ⟨h, i * 5 + 1, none⟩ = some (.int .i64 (x.sl : Nat)) ∧ (w'.cell? ⟨w.heap.size, 0, none⟩ = some (.slice (some ⟨g, 0, none⟩) n c) ∧ w'.cell? ⟨w.heap.size, 1, none⟩ = some (.int .i64 (D.p : Nat)))) (by kernel_rfl) (by kernel_rfl) (HS.out _ (Below.refl _ _).drew) ?_
              go_big_quiet_want
              apply Exists.intro
              refine ⟨fun w0 hSw => ?_, ?_⟩
              · (try dsimp only at hSw); go_simp; first | done | with_reducible rfl
              go_big_quiet_on
              try simp only [Act.put, List.setIfInBounds_toArray, List.set_cons_zero, List.set_cons_succ]
              go_big_quiet_want
              apply Exists.intro
              refine ⟨fun w0 hSw => ?_, ?_⟩
              · (try dsimp only at hSw); go_simp; first | done | with_reducible rfl
              go_big_quiet_on
              try simp only [Act.put, List.setIfInBounds_toArray, List.set_cons_zero, List.set_cons_succ]
              go_big_quiet_want
              apply Exists.intro
              refine ⟨fun w0 hSw => ?_, ?_⟩
              · (try dsimp only at hSw); go_simp; first | done | with_reducible rfl
              go_big_quiet_on
              try simp only [Act.put, List.setIfInBounds_toArray, List.set_cons_zero, List.set_cons_succ]
              go_big_quiet_want
              apply Exists.intro
              refine ⟨fun w0 hSw => ?_, ?_⟩
              · (try dsimp only at hSw); go_simp; first | done | with_reducible rfl
              go_big_quiet_on
              try simp only [Act.put, List.setIfInBounds_toArray, List.set_cons_zero, List.set_cons_succ]
              go_big_quiet_want
              apply Exists.intro
              refine ⟨fun w0 hSw => ?_, ?_⟩
              · (try dsimp only at hSw); go_simp; first | done | with_reducible rfl
              go_big_quiet_on
              try simp only [Act.put, List.setIfInBounds_toArray, List.set_cons_zero, List.set_cons_succ]
              go_big_quiet_want
              apply Exists.intro
              refine ⟨fun w0 hSw => ?_, ?_⟩
              · (try dsimp only at hSw); go_simp; first | done | with_reducible rfl
              go_big_quiet_on
              try simp only [Act.put, List.setIfInBounds_toArray, List.set_cons_zero, List.set_cons_succ]
              go_big_quiet_want
              apply Exists.intro
              refine ⟨fun w0 hSw => ?_, ?_⟩
              · (try dsimp only at hSw); go_simp; first | done | with_reducible rfl
              go_big_quiet_on
              try simp only [Act.put, List.setIfInBounds_toArray, List.set_cons_zero, List.set_cons_succ]
              go_big_quiet_want
              apply Exists.intro
              refine ⟨fun w0 hSw => ?_, ?_⟩
              · (try dsimp only at hSw); go_simp; exact (HAt.out _ hSw.1).mono fun e w'' h => ⟨h.1, HS.out _ (below_call (Nat.le_refl _) hSw.1 h.2)⟩
              go_big_quiet_on
              try simp only [Act.put, List.setIfInBounds_toArray, List.set_cons_zero, List.set_cons_succ]
              go_big_quiet_want
              apply Exists.intro
              refine ⟨fun w0 hSw => ?_, ?_⟩
              · (try dsimp only at hSw); go_simp; first | done | with_reducible rfl
              go_big_quiet_on
              try simp only [Act.put, List.setIfInBounds_toArray, List.set_cons_zero, List.set_cons_succ]
              refine wpQuiet_nil ?_
              intro w6 hSw
              have G6 : Hid (Below w7.heap.size w7 w6) := Lib.hid (below_call (Nat.le_refl _) HB3.out hSw.1)
              clear hSw HS HAt
              have j2 : ¬ ((i2 : Nat) : Int) < 0 := by omega
              by_cases hz : i = 0
              · subst hz
                have z0 : ¬ (0 : Int) < ((0 : Nat) : Int) := by omega
                have HS2 : Hid (∀ w', Below w6.heap.size w6 w' → Below w6.heap.size w6 w' ∧ (w'.cell? ⟨h, 0 * 5, none⟩ = some (.int .i64 (j : Nat)) ∧ w'.cell? ⟨h, 0 * 5 + 1, none⟩ = some (.int .i64 (x.sl : Nat)) ∧ w'.cell? ⟨h, 0 * 5 + 2, none⟩ = some (.int .i64 x.k) ∧ w'.cell? ⟨h, 0 * 5 + 3, none⟩ = some (.int .i64 x.o) ∧ w'.cell? ⟨h, 0 * 5 + 4, none⟩ = some (.int .i64 (x.r : Nat))) ∧ w'.cell? ⟨w.heap.size, 0, none⟩ = some (.slice (some ⟨g, 0, none⟩) n c) ∧ (w'.cell? ⟨g, i2 * 7 + 4, none⟩ = some (.int .i64 x.k) ∧ w'.cell? ⟨g, i2 * 7 + 5, none⟩ = some (.int .i64 x.o) ∧ w'.cell? ⟨g, i2 * 7 + 6, none⟩ = some (.int .i64 (x.r : Nat)))) := Lib.hid fun w' h' => by
                  have hb := below_call (Nat.le_refl _) G6.out h'
                  exact ⟨h', HE.out w' hb, (HF.out w' (below_call (Nat.le_refl _) G7.out hb)).2.1, HX.out w' (below_call (Nat.le_refl _) G7.out hb)⟩
                go_upto_region 20 with (fail)
                refine region_quiet (C := fun w' => Below w6.heap.size w6 w' ∧ (w'.cell? ⟨h, 0 * 5, none⟩ = some (.int .i64 (j : Nat)) ∧ w'.cell? ⟨h, 0 * 5 + 1, none⟩ = some (.int .i64 (x.sl : Nat)) ∧ w'.cell? ⟨h, 0 * 5 + 2, none⟩ = some (.int .i64 x.k) ∧ w'.cell? ⟨h, 0 * 5 + 3, none⟩ = some (.int .i64 x.o) ∧ w'.cell? ⟨h, 0 * 5 + 4, none⟩ = some (.int .i64 (x.r : Nat))) ∧ w'.cell? ⟨w.heap.size, 0, none⟩ = some (.slice (some ⟨g, 0, none⟩) n c) ∧ (w'.cell? ⟨g, i2 * 7 + 4, none⟩ = some (.int .i64 x.k) ∧ w'.cell? ⟨g, i2 * 7 + 5, none⟩ = some (.int .i64 x.o) ∧ w'.cell? ⟨g, i2 * 7 + 6, none⟩ = some (.int .i64 (x.r : Nat)))) (by kernel_rfl) (by kernel_rfl) (HS2.out _ (Below.refl _ _).drew) ?_
                go_big_quiet_want
                apply Exists.intro
                refine ⟨fun w0 hSw => ?_, ?_⟩
                · (try dsimp only at hSw); go_simp; first | done | with_reducible rfl
                go_big_quiet_on
                try simp only [Act.put, List.setIfInBounds_toArray, List.set_cons_zero, List.set_cons_succ]
                go_big_quiet_want
                apply Exists.intro
                refine ⟨fun w0 hSw => ?_, ?_⟩
                · (try dsimp only at hSw); go_simp; first | done | with_reducible rfl
                go_big_quiet_on
                try simp only [Act.put, List.setIfInBounds_toArray, List.set_cons_zero, List.set_cons_succ]
                go_big_quiet_want
                apply Exists.intro
                refine ⟨fun w0 hSw => ?_, ?_⟩
                · (try dsimp only at hSw); go_simp; first | done | with_reducible rfl
                go_big_quiet_on
                try simp only [Act.put, List.setIfInBounds_toArray, List.set_cons_zero, List.set_cons_succ]
                go_big_quiet_want
                apply Exists.intro
                refine ⟨fun w0 hSw => ?_, ?_⟩
                · (try dsimp only at hSw); go_simp; first | done | with_reducible rfl
                go_big_quiet_on
                try simp only [Act.put, List.setIfInBounds_toArray, List.set_cons_zero, List.set_cons_succ]
                go_big_quiet_want
                apply Exists.intro
                refine ⟨fun w0 hSw => ?_, ?_⟩
                · (try dsimp only at hSw); go_simp; first | done | with_reducible rfl
                go_big_quiet_on
                try simp only [Act.put, List.setIfInBounds_toArray, List.set_cons_zero, List.set_cons_succ]
                go_big_quiet_want
                apply Exists.intro
                refine ⟨fun w0 hSw => ?_, ?_⟩
                · (try dsimp only at hSw); go_simp; first | done | with_reducible rfl
                go_big_quiet_on
                try simp only [Act.put, List.setIfInBounds_toArray, List.set_cons_zero, List.set_cons_succ]
                go_big_quiet_want
                apply Exists.intro
                refine ⟨fun w0 hSw => ?_, ?_⟩
                · (try dsimp only at hSw); go_simp; first | done | with_reducible rfl
                go_big_quiet_on
                try simp only [Act.put, List.setIfInBounds_toArray, List.set_cons_zero, List.set_cons_succ]
                go_big_quiet_want
                apply Exists.intro
                refine ⟨fun w0 hSw => ?_, ?_⟩
                · (try dsimp only at hSw); go_simp; first | done | with_reducible rfl
                go_big_quiet_on
                try simp only [Act.put, List.setIfInBounds_toArray, List.set_cons_zero, List.set_cons_succ]
                go_big_quiet_want
                apply Exists.intro
                refine ⟨fun w0 hSw => ?_, ?_⟩
                · (try dsimp only at hSw); go_simp; first | done | with_reducible rfl
                go_big_quiet_on
                try simp only [Act.put, List.setIfInBounds_toArray, List.set_cons_zero, List.set_cons_succ]
                go_big_quiet_want
                apply Exists.intro
                refine ⟨fun w0 hSw => ?_, ?_⟩
                · (try dsimp only at hSw); go_simp; first | done | with_reducible rfl
                go_big_quiet_on
                try simp only [Act.put, List.setIfInBounds_toArray, List.set_cons_zero, List.set_cons_succ]
                go_big_quiet_want
                apply Exists.intro
                refine ⟨fun w0 hSw => ?_, ?_⟩
                · (try dsimp only at hSw); go_simp; first | done | with_reducible rfl
                go_big_quiet_on
                try simp only [Act.put, List.setIfInBounds_toArray, List.set_cons_zero, List.set_cons_succ]
                go_big_quiet_want
                apply Exists.intro
                refine ⟨fun w0 hSw => ?_, ?_⟩
                · (try dsimp only at hSw); go_simp; first | done | with_reducible rfl
                go_big_quiet_on
                try simp only [Act.put, List.setIfInBounds_toArray, List.set_cons_zero, List.set_cons_succ]
                go_big_quiet_want
                apply Exists.intro
                refine ⟨fun w0 hSw => ?_, ?_⟩
                · (try dsimp only at hSw); go_simp; first | done | with_reducible rfl
                go_big_quiet_on
                try simp only [Act.put, List.setIfInBounds_toArray, List.set_cons_zero, List.set_cons_succ]
                go_big_quiet_want
                apply Exists.intro
                refine ⟨fun w0 hSw => ?_, ?_⟩
                · (try dsimp only at hSw); go_simp; first | done | with_reducible rfl
                go_big_quiet_on
                try simp only [Act.put, List.setIfInBounds_toArray, List.set_cons_zero, List.set_cons_succ]
                go_big_quiet_want
                apply Exists.intro
                refine ⟨fun w0 hSw => ?_, ?_⟩
                · (try dsimp only at hSw); go_simp; first | done | with_reducible rfl
                go_big_quiet_on
                try simp only [Act.put, List.setIfInBounds_toArray, List.set_cons_zero, List.set_cons_succ]
                go_big_quiet_want
                apply Exists.intro
                refine ⟨fun w0 hSw => ?_, ?_⟩
                · (try dsimp only at hSw); go_simp; first | done | with_reducible rfl
                go_big_quiet_on
                try simp only [Act.put, List.setIfInBounds_toArray, List.set_cons_zero, List.set_cons_succ]
                go_big_quiet_want
                apply Exists.intro
                refine ⟨fun w0 hSw => ?_, ?_⟩
                · (try dsimp only at hSw); go_simp; first | done | with_reducible rfl
                go_big_quiet_on
                try simp only [Act.put, List.setIfInBounds_toArray, List.set_cons_zero, List.set_cons_succ]
                go_big_quiet_want
                apply Exists.intro
                refine ⟨fun w0 hSw => ?_, ?_⟩
                · (try dsimp only at hSw); go_simp; first | done | with_reducible rfl
                go_big_quiet_on
                try simp only [Act.put, List.setIfInBounds_toArray, List.set_cons_zero, List.set_cons_succ]
                go_big_quiet_want
                apply Exists.intro
                refine ⟨fun w0 hSw => ?_, ?_⟩
                · (try dsimp only at hSw); go_simp; first | done | with_reducible rfl
                go_big_quiet_on
                try simp only [Act.put, List.setIfInBounds_toArray, List.set_cons_zero, List.set_cons_succ]
                go_big_quiet_want
                apply Exists.intro
                refine ⟨fun w0 hSw => ?_, ?_⟩
                · (try dsimp only at hSw); go_simp; first | done | with_reducible rfl
                go_big_quiet_on
                try simp only [Act.put, List.setIfInBounds_toArray, List.set_cons_zero, List.set_cons_succ]
                go_big_quiet_want
                apply Exists.intro
                refine ⟨fun w0 hSw => ?_, ?_⟩
                · (try dsimp only at hSw); go_simp; first | done | with_reducible rfl
                go_big_quiet_on
                try simp only [Act.put, List.setIfInBounds_toArray, List.set_cons_zero, List.set_cons_succ]
                go_big_quiet_want
                apply Exists.intro
                refine ⟨fun w0 hSw => ?_, ?_⟩
                · (try dsimp only at hSw); go_simp; first | done | with_reducible rfl
                go_big_quiet_on
                try simp only [Act.put, List.setIfInBounds_toArray, List.set_cons_zero, List.set_cons_succ]
                go_big_quiet_want
                apply Exists.intro
                refine ⟨fun w0 hSw => ?_, ?_⟩
                · (try dsimp only at hSw); go_simp; first | done | with_reducible rfl
                go_big_quiet_on
                try simp only [Act.put, List.setIfInBounds_toArray, List.set_cons_zero, List.set_cons_succ]
                go_big_quiet_want
                apply Exists.intro
                refine ⟨fun w0 hSw => ?_, ?_⟩
                · (try dsimp only at hSw); go_simp; exact (lto_any _ _ _ _).mono fun e w'' h => ⟨h.1, HS2.out _ (below_call (Nat.le_refl _) hSw.1 h.2)⟩
                go_big_quiet_on
                try simp only [Act.put, List.setIfInBounds_toArray, List.set_cons_zero, List.set_cons_succ]
                go_big_quiet_want
                apply Exists.intro
                refine ⟨fun w0 hSw => ?_, ?_⟩
                · (try dsimp only at hSw); go_simp; first | done | with_reducible rfl
                go_big_quiet_on
                try simp only [Act.put, List.setIfInBounds_toArray, List.set_cons_zero, List.set_cons_succ]
                go_big_quiet_want
                apply Exists.intro
                refine ⟨fun w0 hSw => ?_, ?_⟩
                · (try dsimp only at hSw); go_simp; first | done | with_reducible rfl
                go_big_quiet_on
                try simp only [Act.put, List.setIfInBounds_toArray, List.set_cons_zero, List.set_cons_succ]
                go_big_quiet_want
                apply Exists.intro
                refine ⟨fun w0 hSw => ?_, ?_⟩
                · (try dsimp only at hSw); go_simp; first | done | with_reducible rfl
                go_big_quiet_on
                try simp only [Act.put, List.setIfInBounds_toArray, List.set_cons_zero, List.set_cons_succ]
                go_big_quiet_want
                apply Exists.intro
                refine ⟨fun w0 hSw => ?_, ?_⟩
                · (try dsimp only at hSw); go_simp; first | done | with_reducible rfl
                go_big_quiet_on
                try simp only [Act.put, List.setIfInBounds_toArray, List.set_cons_zero, List.set_cons_succ]
                go_big_quiet_want
                apply Exists.intro
                refine ⟨fun w0 hSw => ?_, ?_⟩
                · (try dsimp only at hSw); go_simp; first | done | with_reducible rfl
                go_big_quiet_on
                try simp only [Act.put, List.setIfInBounds_toArray, List.set_cons_zero, List.set_cons_succ]
                go_big_quiet_want
                apply Exists.intro
                refine ⟨fun w0 hSw => ?_, ?_⟩
                · (try dsimp only at hSw); go_simp; first | done | with_reducible rfl
                go_big_quiet_on
                try simp only [Act.put, List.setIfInBounds_toArray, List.set_cons_zero, List.set_cons_succ]
                go_big_quiet_skip
                go_big_quiet_skip
                go_big_quiet_skip
                go_big_quiet_skip
                go_big_quiet_skip
                go_big_quiet_skip
                go_big_quiet_skip
                go_big_quiet_skip
                go_big_quiet_skip
                go_big_quiet_skip
                go_big_quiet_skip
                go_big_quiet_skip
                go_big_quiet_want
                apply Exists.intro
                refine ⟨fun w0 hSw => ?_, ?_⟩
                · (try dsimp only at hSw); go_simp; first | done | with_reducible rfl
                go_big_quiet_on
                try simp only [Act.put, List.setIfInBounds_toArray, List.set_cons_zero, List.set_cons_succ]
                go_big_quiet_want
                apply Exists.intro
                refine ⟨fun w0 hSw => ?_, ?_⟩
                · (try dsimp only at hSw); go_simp; first | done | with_reducible rfl
                go_big_quiet_on
                try simp only [Act.put, List.setIfInBounds_toArray, List.set_cons_zero, List.set_cons_succ]
                refine wpQuiet_nil ?_
                intro w8 hSw
                have GW : Hid (Below w7.heap.size w7 w8) := Lib.hid (below_call (Nat.le_refl _) G6.out hSw.1)
                clear hSw HS2
                go_wp2
                go_roundw
                case rel => exact ⟨0 + 1, by omega, by go_num, GW⟩
                case measure => simp [intOf]; omega
              · obtain ⟨i', hii⟩ : ∃ i', i = i' + 1 := ⟨i - 1, by omega⟩
                obtain ⟨sl0, hsl, hq⟩ := Hpr.out i' hii
                have Hq := Lib.hid hq
                clear hq
                have z0 : (0 : Int) < (i : Nat) := by omega
                have z1 : IntKind.i64.wrap ((i : Int) - 1) = (i' : Nat) := by
                  rw [IntWalk.i64_in _ (by omega)]
                  omega
                have z2 : (0 : Int) ≤ i' := by omega
                have z3 : (i' : Int) < m := by omega
                have z4 : ((sl0 : Nat) : Int) < (x.sl : Nat) := by omega
                have z5 : (((i' : Nat) : Int)).toNat = i' := by omega
                have z6 : 0 < i := by omega
                clear hii hz hsl
                have HS2 : Hid (∀ w', Below w6.heap.size w6 w' → Below w6.heap.size w6 w' ∧ (w'.cell? ⟨h, i * 5, none⟩ = some (.int .i64 (j : Nat)) ∧ w'.cell? ⟨h, i * 5 + 1, none⟩ = some (.int .i64 (x.sl : Nat)) ∧ w'.cell? ⟨h, i * 5 + 2, none⟩ = some (.int .i64 x.k) ∧ w'.cell? ⟨h, i * 5 + 3, none⟩ = some (.int .i64 x.o) ∧ w'.cell? ⟨h, i * 5 + 4, none⟩ = some (.int .i64 (x.r : Nat))) ∧ w'.cell? ⟨w.heap.size, 0, none⟩ = some (.slice (some ⟨g, 0, none⟩) n c) ∧ (w'.cell? ⟨g, i2 * 7 + 4, none⟩ = some (.int .i64 x.k) ∧ w'.cell? ⟨g, i2 * 7 + 5, none⟩ = some (.int .i64 x.o) ∧ w'.cell? ⟨g, i2 * 7 + 6, none⟩ = some (.int .i64 (x.r : Nat))) ∧ w'.cell? ⟨h, i' * 5 + 1, none⟩ = some (.int .i64 (sl0 : Nat))) := Lib.hid fun w' h' => by
                  have hb := below_call (Nat.le_refl _) G6.out h'
                  exact ⟨h', HE.out w' hb, (HF.out w' (below_call (Nat.le_refl _) G7.out hb)).2.1, HX.out w' (below_call (Nat.le_refl _) G7.out hb), Hq.out w' hb⟩
                go_upto_region 20 with (fail)
                refine region_quiet (C := fun w' => Below w6.heap.size w6 w' ∧ (w'.cell? ⟨h, i * 5, none⟩ = some (.int .i64 (j : Nat)) ∧ w'.cell? ⟨h, i * 5 + 1, none⟩ = some (.int .i64 (x.sl : Nat)) ∧ w'.cell? ⟨h, i * 5 + 2, none⟩ = some (.int .i64 x.k) ∧ w'.cell? ⟨h, i * 5 + 3, none⟩ = some (.int .i64 x.o) ∧ w'.cell? ⟨h, i * 5 + 4, none⟩ = some (.int .i64 (x.r : Nat))) ∧ w'.cell? ⟨w.heap.size, 0, none⟩ = some (.slice (some ⟨g, 0, none⟩) n c) ∧ (w'.cell? ⟨g, i2 * 7 + 4, none⟩ = some (.int .i64 x.k) ∧ w'.cell? ⟨g, i2 * 7 + 5, none⟩ = some (.int .i64 x.o) ∧ w'.cell? ⟨g, i2 * 7 + 6, none⟩ = some (.int .i64 (x.r : Nat))) ∧ w'.cell? ⟨h, i' * 5 + 1, none⟩ = some (.int .i64 (sl0 : Nat))) (by kernel_rfl) (by kernel_rfl) (HS2.out _ (Below.refl _ _).drew) ?_
                go_big_quiet_want
                apply Exists.intro
                refine ⟨fun w0 hSw => ?_, ?_⟩
                · (try dsimp only at hSw); go_simp; first | done | with_reducible rfl
                go_big_quiet_on
                try simp only [Act.put, List.setIfInBounds_toArray, List.set_cons_zero, List.set_cons_succ]
                go_big_quiet_want
                apply Exists.intro
                refine ⟨fun w0 hSw => ?_, ?_⟩
                · (try dsimp only at hSw); go_simp; first | done | with_reducible rfl
                go_big_quiet_on
                try simp only [Act.put, List.setIfInBounds_toArray, List.set_cons_zero, List.set_cons_succ]
                go_big_quiet_want
                apply Exists.intro
                refine ⟨fun w0 hSw => ?_, ?_⟩
                · (try dsimp only at hSw); go_simp; first | done | with_reducible rfl
                go_big_quiet_on
                try simp only [Act.put, List.setIfInBounds_toArray, List.set_cons_zero, List.set_cons_succ]
                go_big_quiet_want
                apply Exists.intro
                refine ⟨fun w0 hSw => ?_, ?_⟩
                · (try dsimp only at hSw); go_simp; first | done | with_reducible rfl
                go_big_quiet_on
                try simp only [Act.put, List.setIfInBounds_toArray, List.set_cons_zero, List.set_cons_succ]
                go_big_quiet_want
                apply Exists.intro
                refine ⟨fun w0 hSw => ?_, ?_⟩
                · (try dsimp only at hSw); go_simp; first | done | with_reducible rfl
                go_big_quiet_on
                try simp only [Act.put, List.setIfInBounds_toArray, List.set_cons_zero, List.set_cons_succ]
                go_big_quiet_want
                apply Exists.intro
                refine ⟨fun w0 hSw => ?_, ?_⟩
                · (try dsimp only at hSw); go_simp; first | done | with_reducible rfl
                go_big_quiet_on
                try simp only [Act.put, List.setIfInBounds_toArray, List.set_cons_zero, List.set_cons_succ]
                go_big_quiet_want
                apply Exists.intro
                refine ⟨fun w0 hSw => ?_, ?_⟩
                · (try dsimp only at hSw); go_simp; first | done | with_reducible rfl
                go_big_quiet_on
                try simp only [Act.put, List.setIfInBounds_toArray, List.set_cons_zero, List.set_cons_succ]
                go_big_quiet_want
                apply Exists.intro
                refine ⟨fun w0 hSw => ?_, ?_⟩
                · (try dsimp only at hSw); go_simp; first | done | with_reducible rfl
                go_big_quiet_on
                try simp only [Act.put, List.setIfInBounds_toArray, List.set_cons_zero, List.set_cons_succ]
                go_big_quiet_want
                apply Exists.intro
                refine ⟨fun w0 hSw => ?_, ?_⟩
                · (try dsimp only at hSw); go_simp; first | done | with_reducible rfl
                go_big_quiet_on
                try simp only [Act.put, List.setIfInBounds_toArray, List.set_cons_zero, List.set_cons_succ]
                go_big_quiet_want
                apply Exists.intro
                refine ⟨fun w0 hSw => ?_, ?_⟩
                · (try dsimp only at hSw); go_simp; first | done | with_reducible rfl
                go_big_quiet_on
                try simp only [Act.put, List.setIfInBounds_toArray, List.set_cons_zero, List.set_cons_succ]
                go_big_quiet_want
                apply Exists.intro
                refine ⟨fun w0 hSw => ?_, ?_⟩
                · (try dsimp only at hSw); go_simp; first | done | with_reducible rfl
                go_big_quiet_on
                try simp only [Act.put, List.setIfInBounds_toArray, List.set_cons_zero, List.set_cons_succ]
                go_big_quiet_want
                apply Exists.intro
                refine ⟨fun w0 hSw => ?_, ?_⟩
                · (try dsimp only at hSw); go_simp; first | done | with_reducible rfl
                go_big_quiet_on
                try simp only [Act.put, List.setIfInBounds_toArray, List.set_cons_zero, List.set_cons_succ]
                go_big_quiet_want
                apply Exists.intro
                refine ⟨fun w0 hSw => ?_, ?_⟩
                · (try dsimp only at hSw); go_simp; first | done | with_reducible rfl
                go_big_quiet_on
                try simp only [Act.put, List.setIfInBounds_toArray, List.set_cons_zero, List.set_cons_succ]
                go_big_quiet_want
                apply Exists.intro
                refine ⟨fun w0 hSw => ?_, ?_⟩
                · (try dsimp only at hSw); go_simp; first | done | with_reducible rfl
                go_big_quiet_on
                try simp only [Act.put, List.setIfInBounds_toArray, List.set_cons_zero, List.set_cons_succ]
                go_big_quiet_want
                apply Exists.intro
                refine ⟨fun w0 hSw => ?_, ?_⟩
                · (try dsimp only at hSw); go_simp; first | done | with_reducible rfl
                go_big_quiet_on
                try simp only [Act.put, List.setIfInBounds_toArray, List.set_cons_zero, List.set_cons_succ]
                go_big_quiet_want
                apply Exists.intro
                refine ⟨fun w0 hSw => ?_, ?_⟩
                · (try dsimp only at hSw); go_simp; first | done | with_reducible rfl
                go_big_quiet_on
                try simp only [Act.put, List.setIfInBounds_toArray, List.set_cons_zero, List.set_cons_succ]
                go_big_quiet_want
                apply Exists.intro
                refine ⟨fun w0 hSw => ?_, ?_⟩
                · (try dsimp only at hSw); go_simp; first | done | with_reducible rfl
                go_big_quiet_on
                try simp only [Act.put, List.setIfInBounds_toArray, List.set_cons_zero, List.set_cons_succ]
                go_big_quiet_want
                apply Exists.intro
                refine ⟨fun w0 hSw => ?_, ?_⟩
                · (try dsimp only at hSw); go_simp; first | done | with_reducible rfl
                go_big_quiet_on
                try simp only [Act.put, List.setIfInBounds_toArray, List.set_cons_zero, List.set_cons_succ]
                go_big_quiet_want
                apply Exists.intro
                refine ⟨fun w0 hSw => ?_, ?_⟩
                · (try dsimp only at hSw); go_simp; first | done | with_reducible rfl
                go_big_quiet_on
                try simp only [Act.put, List.setIfInBounds_toArray, List.set_cons_zero, List.set_cons_succ]
                go_big_quiet_want
                apply Exists.intro
                refine ⟨fun w0 hSw => ?_, ?_⟩
                · (try dsimp only at hSw); go_simp; first | done | with_reducible rfl
                go_big_quiet_on
                try simp only [Act.put, List.setIfInBounds_toArray, List.set_cons_zero, List.set_cons_succ]
                go_big_quiet_want
                apply Exists.intro
                refine ⟨fun w0 hSw => ?_, ?_⟩
                · (try dsimp only at hSw); go_simp; first | done | with_reducible rfl
                go_big_quiet_on
                try simp only [Act.put, List.setIfInBounds_toArray, List.set_cons_zero, List.set_cons_succ]
                go_big_quiet_want
                apply Exists.intro
                refine ⟨fun w0 hSw => ?_, ?_⟩
                · (try dsimp only at hSw); go_simp; first | done | with_reducible rfl
                go_big_quiet_on
                try simp only [Act.put, List.setIfInBounds_toArray, List.set_cons_zero, List.set_cons_succ]
                go_big_quiet_want
                apply Exists.intro
                refine ⟨fun w0 hSw => ?_, ?_⟩
                · (try dsimp only at hSw); go_simp; first | done | with_reducible rfl
                go_big_quiet_on
                try simp only [Act.put, List.setIfInBounds_toArray, List.set_cons_zero, List.set_cons_succ]
                go_big_quiet_want
                apply Exists.intro
                refine ⟨fun w0 hSw => ?_, ?_⟩
                · (try dsimp only at hSw); go_simp; exact (lto_any _ _ _ _).mono fun e w'' h => ⟨h.1, HS2.out _ (below_call (Nat.le_refl _) hSw.1 h.2)⟩
                go_big_quiet_on
                try simp only [Act.put, List.setIfInBounds_toArray, List.set_cons_zero, List.set_cons_succ]
                go_big_quiet_want
                apply Exists.intro
                refine ⟨fun w0 hSw => ?_, ?_⟩
                · (try dsimp only at hSw); go_simp; first | done | with_reducible rfl
                go_big_quiet_on
                try simp only [Act.put, List.setIfInBounds_toArray, List.set_cons_zero, List.set_cons_succ]
                go_big_quiet_want
                apply Exists.intro
                refine ⟨fun w0 hSw => ?_, ?_⟩
                · (try dsimp only at hSw); go_simp; first | done | with_reducible rfl
                go_big_quiet_on
                try simp only [Act.put, List.setIfInBounds_toArray, List.set_cons_zero, List.set_cons_succ]
                go_big_quiet_want
                apply Exists.intro
                refine ⟨fun w0 hSw => ?_, ?_⟩
                · (try dsimp only at hSw); go_simp; first | done | with_reducible rfl
                go_big_quiet_on
                try simp only [Act.put, List.setIfInBounds_toArray, List.set_cons_zero, List.set_cons_succ]
                go_big_quiet_want
                apply Exists.intro
                refine ⟨fun w0 hSw => ?_, ?_⟩
                · (try dsimp only at hSw); go_simp; first | done | with_reducible rfl
                go_big_quiet_on
                try simp only [Act.put, List.setIfInBounds_toArray, List.set_cons_zero, List.set_cons_succ]
                go_big_quiet_want
                apply Exists.intro
                refine ⟨fun w0 hSw => ?_, ?_⟩
                · (try dsimp only at hSw); go_simp; first | done | with_reducible rfl
                go_big_quiet_on
                try simp only [Act.put, List.setIfInBounds_toArray, List.set_cons_zero, List.set_cons_succ]
                go_big_quiet_want
                apply Exists.intro
                refine ⟨fun w0 hSw => ?_, ?_⟩
                · (try dsimp only at hSw); go_simp; first | done | with_reducible rfl
                go_big_quiet_on
                try simp only [Act.put, List.setIfInBounds_toArray, List.set_cons_zero, List.set_cons_succ]
                go_big_quiet_want
                apply Exists.intro
                refine ⟨fun w0 hSw => ?_, ?_⟩
                · (try dsimp only at hSw); go_simp; first | done | with_reducible rfl
                go_big_quiet_on
                try simp only [Act.put, List.setIfInBounds_toArray, List.set_cons_zero, List.set_cons_succ]
                go_big_quiet_want
                apply Exists.intro
                refine ⟨fun w0 hSw => ?_, ?_⟩
                · (try dsimp only at hSw); go_simp; first | done | with_reducible rfl
                go_big_quiet_on
                try simp only [Act.put, List.setIfInBounds_toArray, List.set_cons_zero, List.set_cons_succ]
                go_big_quiet_want
                apply Exists.intro
                refine ⟨fun w0 hSw => ?_, ?_⟩
                · (try dsimp only at hSw); go_simp; first | done | with_reducible rfl
                go_big_quiet_on
                try simp only [Act.put, List.setIfInBounds_toArray, List.set_cons_zero, List.set_cons_succ]
                go_big_quiet_want
                apply Exists.intro
                refine ⟨fun w0 hSw => ?_, ?_⟩
                · (try dsimp only at hSw); go_simp; first | done | with_reducible rfl
                go_big_quiet_on
                try simp only [Act.put, List.setIfInBounds_toArray, List.set_cons_zero, List.set_cons_succ]
                go_big_quiet_want
                apply Exists.intro
                refine ⟨fun w0 hSw => ?_, ?_⟩
                · (try dsimp only at hSw); go_simp; first | done | with_reducible rfl
                go_big_quiet_on
                try simp only [Act.put, List.setIfInBounds_toArray, List.set_cons_zero, List.set_cons_succ]
                go_big_quiet_want
                apply Exists.intro
                refine ⟨fun w0 hSw => ?_, ?_⟩
                · (try dsimp only at hSw); go_simp; first | done | with_reducible rfl
                go_big_quiet_on
                try simp only [Act.put, List.setIfInBounds_toArray, List.set_cons_zero, List.set_cons_succ]
                go_big_quiet_want
                apply Exists.intro
                refine ⟨fun w0 hSw => ?_, ?_⟩
                · (try dsimp only at hSw); go_simp; first | done | with_reducible rfl
                go_big_quiet_on
                try simp only [Act.put, List.setIfInBounds_toArray, List.set_cons_zero, List.set_cons_succ]
                go_big_quiet_want
                apply Exists.intro
                refine ⟨fun w0 hSw => ?_, ?_⟩
                · (try dsimp only at hSw); go_simp; first | done | with_reducible rfl
                go_big_quiet_on
                try simp only [Act.put, List.setIfInBounds_toArray, List.set_cons_zero, List.set_cons_succ]
                go_big_quiet_want
                apply Exists.intro
                refine ⟨fun w0 hSw => ?_, ?_⟩
                · (try dsimp only at hSw); go_simp; first | done | with_reducible rfl
                go_big_quiet_on
                try simp only [Act.put, List.setIfInBounds_toArray, List.set_cons_zero, List.set_cons_succ]
                go_big_quiet_want
                apply Exists.intro
                refine ⟨fun w0 hSw => ?_, ?_⟩
                · (try dsimp only at hSw); go_simp; first | done | with_reducible rfl
                go_big_quiet_on
                try simp only [Act.put, List.setIfInBounds_toArray, List.set_cons_zero, List.set_cons_succ]
                go_big_quiet_want
                apply Exists.intro
                refine ⟨fun w0 hSw => ?_, ?_⟩
                · (try dsimp only at hSw); go_simp; first | done | with_reducible rfl
                go_big_quiet_on
                try simp only [Act.put, List.setIfInBounds_toArray, List.set_cons_zero, List.set_cons_succ]
                go_big_quiet_want
                apply Exists.intro
                refine ⟨fun w0 hSw => ?_, ?_⟩
                · (try dsimp only at hSw); go_simp; first | done | with_reducible rfl
                go_big_quiet_on
                try simp only [Act.put, List.setIfInBounds_toArray, List.set_cons_zero, List.set_cons_succ]
                go_big_quiet_want
                apply Exists.intro
                refine ⟨fun w0 hSw => ?_, ?_⟩
                · (try dsimp only at hSw); go_simp; first | done | with_reducible rfl
                go_big_quiet_on
                try simp only [Act.put, List.setIfInBounds_toArray, List.set_cons_zero, List.set_cons_succ]
                go_big_quiet_want
                apply Exists.intro
                refine ⟨fun w0 hSw => ?_, ?_⟩
                · (try dsimp only at hSw); go_simp; first | done | with_reducible rfl
                go_big_quiet_on
                try simp only [Act.put, List.setIfInBounds_toArray, List.set_cons_zero, List.set_cons_succ]
                refine wpQuiet_nil ?_
                intro w8 hSw
                have GW : Hid (Below w7.heap.size w7 w8) := Lib.hid (below_call (Nat.le_refl _) G6.out hSw.1)
                clear hSw HS2
                go_wp2
                go_roundw
                case rel => exact ⟨i + 1, by omega, by go_num, GW⟩
                case measure => simp [intOf]; omega
            · obtain rfl : i = m := by omega
              have HFr := Lib.hid (free_any (HF.out _ (below_call (Nat.le_refl _) G7.out HB3.out)).1.fo (j : Nat))
              rw [← frTo_all D.fo.l hj, ← Hv16.out] at HFr
              go_wp2_with (go_at_call 31; refine HFr.out.mono ?_; rintro y w9 ⟨rfl, h9⟩; have G9 := Lib.hid (below_call (Nat.le_refl _) (below_call (Nat.le_refl _) G7.out HB3.out) h9); clear h9)
              go_roundw
              case rel => exact ⟨j + 1, by omega, by go_num, ⟨q + i, by go_num, by omega, Lib.hid (by rw [ordTo_succ, List.length_append, ← HQ.out, ← Hm.out])⟩, G9⟩
              case measure => simp [intOf]; omega
    · obtain rfl : j = 8 := by omega
      have hqn : q = n := by
        have h1 := (ord_perm Hi.out.wf).length_eq
        have h2 := HQ.out
        have h3 := Hn.out
        have h4 : D.fo.l.length = D.l.length := by simp [Dc.fo]
        have h5 : (ordN D.fo.l).length = (ordTo D.fo.l 8).length := rfl
        omega
      subst hqn
      obtain ⟨-, f0, f1⟩ := HF.out _ HB.out
      have HEn : Hid (Below w.heap.size w wr) := Lib.hid (HwW.out.trans (HB.out.mono HwW.out.size))
      go_wp2
      go_ret
      exact ⟨rfl, HEn.out⟩
end
end Go.Proofs.Ythblldojbgeknaa
