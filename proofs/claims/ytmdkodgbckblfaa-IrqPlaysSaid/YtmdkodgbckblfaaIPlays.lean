/-
  The law IrqPlays, walked (typed by tools/gen_iplays.py).
-/
import Derived.Test.YtmdkodgbckblfaaIAct
namespace Go.Proofs.Ytmdkodgbckblfaa
open Go.ChangeShapes Go.WideShapes Go.ChangeAt Go.RowKit

set_option maxRecDepth 1000000 in
set_option maxHeartbeats 40000000 in
theorem plays_any {w : World} {n0 : Int} {Al : Option Addr} {nl cl : Nat} {l : List Ac} (hl : l.length = nl) (hA : Acs w.heap.size w Al l) :
    Calls Try.prog 3 #[.int .i64 n0, .slice Al nl cl] w fun e w' => e = .returned (.bool true) ∧ Below w.heap.size w w' := by
  have HOn : Hid (∀ w, Calls Try.prog 12 #[.pointer none, .int .i64 0] w fun e w' => e = .returned (.agg #[.bool false, .bool false, .bool false, .int .i64 0]) ∧ Below w.heap.size w w') := Lib.hid of_nil
  have hq : ∀ w : World, (binOp .neq 34 (.agg #[.bool false, .bool false, .bool false, .int .i64 0]) (.agg #[.bool false, .bool false, .bool false, .int .i64 0])).run Try.prog w = .ok (.bool false) w := fun w => by
    have := state_neq false false false 0 false false false 0 w
    simpa using this
  by_cases hn : n0 < 1 ∨ 8 < n0
  · have HNb := Lib.hid fun w => new_bad n0 w hn
    by_cases h0 : n0 < 1
    · clear hn hA
      go_enter Try.func3, Try.ntmps3
      go_wp2_with fail
      refine (awake_any _).mono ?_
      rintro e w1 ⟨rfl, hb1⟩
      have HB1 := Lib.hid hb1
      clear hb1
      go_wp2_with fail
      refine (HNb.out _).mono ?_
      rintro e w2 ⟨rfl, rfl⟩
      go_wp2_with (first
        | (go_at_call 7; refine (next_nil _).mono ?_; rintro e w' ⟨rfl, rfl⟩)
        | (go_at_call 8; refine (len_nil _).mono ?_; rintro e w' ⟨rfl, rfl⟩)
        | (go_at_call 9; refine (raise_nil _).mono ?_; rintro e w' ⟨rfl, rfl⟩)
        | (go_at_call 10; refine (mask_nil _).mono ?_; rintro e w' ⟨rfl, rfl⟩)
        | (go_at_call 11; refine (ack_nil _).mono ?_; rintro e w' ⟨rfl, rfl⟩)
        | (go_at_call 12; refine (HOn.out _).mono ?_; rintro e w4 ⟨rfl, hb4⟩; have HB4 := Lib.hid hb4; clear hb4))
      refine (awake_any _).mono ?_
      rintro e w5 ⟨rfl, hb5⟩
      have HB5 := Lib.hid ((HB1.out.trans (HB4.out.mono HB1.out.size)).trans (hb5.mono (Nat.le_trans HB1.out.size HB4.out.size)))
      clear hb5
      go_wp2
      go_ret
      exact ⟨rfl, HB5.out⟩
    · have h1 : 8 < n0 := by omega
      clear hn hA
      go_enter Try.func3, Try.ntmps3
      go_wp2_with fail
      refine (awake_any _).mono ?_
      rintro e w1 ⟨rfl, hb1⟩
      have HB1 := Lib.hid hb1
      clear hb1
      go_wp2_with fail
      refine (HNb.out _).mono ?_
      rintro e w2 ⟨rfl, rfl⟩
      go_wp2_with (first
        | (go_at_call 7; refine (next_nil _).mono ?_; rintro e w' ⟨rfl, rfl⟩)
        | (go_at_call 8; refine (len_nil _).mono ?_; rintro e w' ⟨rfl, rfl⟩)
        | (go_at_call 9; refine (raise_nil _).mono ?_; rintro e w' ⟨rfl, rfl⟩)
        | (go_at_call 10; refine (mask_nil _).mono ?_; rintro e w' ⟨rfl, rfl⟩)
        | (go_at_call 11; refine (ack_nil _).mono ?_; rintro e w' ⟨rfl, rfl⟩)
        | (go_at_call 12; refine (HOn.out _).mono ?_; rintro e w4 ⟨rfl, hb4⟩; have HB4 := Lib.hid hb4; clear hb4))
      refine (awake_any _).mono ?_
      rintro e w5 ⟨rfl, hb5⟩
      have HB5 := Lib.hid ((HB1.out.trans (HB4.out.mono HB1.out.size)).trans (hb5.mono (Nat.le_trans HB1.out.size HB4.out.size)))
      clear hb5
      go_wp2
      go_ret
      exact ⟨rfl, HB5.out⟩
  · obtain ⟨n, rfl⟩ : ∃ n : Nat, n0 = (n : Int) := ⟨n0.toNat, by omega⟩
    have hn0 : (1 : Int) ≤ n := by omega
    have hn1 : (n : Int) ≤ 8 := by omega
    have HA := Lib.hid hA
    have Hl := Lib.hid hl
    clear hn hA hl
    go_enter Try.func3, Try.ntmps3
    go_wp2_with fail
    refine (awake_any _).mono ?_
    rintro e w1 ⟨rfl, hb1⟩
    have HB1 := Lib.hid hb1
    clear hb1
    go_wp2_with fail
    refine (new_any n _ (by omega) (by omega)).mono ?_
    rintro e w2 ⟨h, rfl, a1, a2, a3⟩
    have HM := Lib.hid a1
    have HB2 := Lib.hid (HB1.out.trans (a3.mono HB1.out.size))
    have hw12 := HB1.out.size
    clear a1 a2 a3
    go_wp2_with (first
      | (go_at_call 7; refine (next_nil _).mono ?_; rintro e w' ⟨rfl, rfl⟩)
      | (go_at_call 8; refine (len_nil _).mono ?_; rintro e w' ⟨rfl, rfl⟩)
      | (go_at_call 9; refine (raise_nil _).mono ?_; rintro e w' ⟨rfl, rfl⟩)
      | (go_at_call 10; refine (mask_nil _).mono ?_; rintro e w' ⟨rfl, rfl⟩)
      | (go_at_call 11; refine (ack_nil _).mono ?_; rintro e w' ⟨rfl, rfl⟩)
      | (go_at_call 12; refine (HOn.out _).mono ?_; rintro e w4 ⟨rfl, hb4⟩; have HB4 := Lib.hid hb4; clear hb4))
    have HM4 := Lib.hid (HM.out.below HB4.out)
    have HB5 := Lib.hid (HB2.out.trans (HB4.out.mono HB2.out.size))
    refine (rnew_any n _ (by omega) (by omega)).mono ?_
    rintro e w3 ⟨r0, k0, rfl, a3, a4, a5, a6, a7, a8⟩
    have HS : Hid (Two w h w1.heap.size r0 n k0 (List.replicate n dark) (List.replicate n dark) w3) := Lib.hid ⟨HM4.out.below a8, a3, by simp, by simp, hw12, by have := HM4.out.glt; omega, a5, a6, a7, HB5.out.trans (a8.mono HB5.out.size)⟩
    obtain ⟨g, hg⟩ : ∃ g, w1.heap.size = g := ⟨_, rfl⟩
    rw [hg] at HS
    clear a3 a4 a5 a6 a7 a8 HM HM4 hg hw12 HB1 HB2 HB4 HB5
    go_wp2_with fail
    go_loopw [10, 11] (fun u10 u11 wr => ∃ (i r c : Nat) (L : List Ln), i ≤ 100 ∧ i ≤ nl ∧ u10 = .slice (some ⟨r, 0, none⟩) n c ∧ u11 = .int .i64 (i : Nat) ∧ Two w h g r n c L L wr) (fun _ u11 _ => 100 - (intOf u11).toNat)
    case atStart => exact ⟨0, r0, k0, List.replicate n dark, by omega, by omega, rfl, rfl, HS.out⟩
    case round =>
      clear HS
      obtain ⟨i, r, c, L, hi100, hil, rfl, rfl, hP⟩ := hrel
      have HP := Lib.hid hP
      have i0 : (0 : Int) ≤ i := by omega
      clear hP
      by_cases hlt : i < nl ∧ i < 100
      · obtain ⟨hlt1, hlt2⟩ := hlt
        have i1 : (i : Int) < nl := by omega
        have i2 : (i : Int) < 100 := by omega
        obtain ⟨ab, ao, rfl, hab, hcell⟩ := HA.out (by rw [Hl.out]; omega)
        obtain ⟨⟨kd, I, b⟩, hx⟩ : ∃ x, l[i]? = some x := ⟨_, List.getElem?_eq_getElem (by rw [Hl.out]; exact hlt1)⟩
        obtain ⟨c0, c1, c2⟩ := hcell i _ hx
        have hcs : ∀ j, wr.cell? ⟨ab, j, none⟩ = w.cell? ⟨ab, j, none⟩ := fun j => HP.out.below.cell (p := ⟨ab, j, none⟩) hab
        rw [← hcs] at c0 c1 c2
        dsimp only at c0 c1 c2
        clear hcell hcs hx
        obtain ⟨p, hp⟩ : ∃ p, wr.heap.size = p := ⟨_, rfl⟩
        obtain ⟨W, hW⟩ : ∃ W, wr.alloc (.cells #[.int .i64 kd, .int .i64 I, .bool b] 39 (0, 0)) = W := ⟨_, rfl⟩
        have H1 : Hid (Two w h g r n c L L W) := Lib.hid (by rw [← hW]; exact HP.out.later ((Below.refl _ _).alloc (Nat.le_refl _) _))
        have X1 : Hid (Bx p kd I b g W) := Lib.hid (by
          rw [← hW, ← hp]
          exact ⟨by simp, by simp, by simp, by simp, fun ho => by have := HP.out.mem.glt; omega⟩)
        have b0 := X1.out.b0
        have b1 := X1.out.b1
        have b2 := X1.out.b2
        have HW := Lib.hid hW
        have Hp := Lib.hid hp
        by_cases k1 : kd = 1
        · subst k1
          as_aux_lemma =>
            have HFr := Lib.hid (two_mask H1.out X1.out I b)
            go_wp2_with fail
            clear hW hp
            refine HFr.out.mono ?_
            rintro e w2 ⟨rfl, h2, x2⟩
            have H2 := Lib.hid h2
            have X2 := Lib.hid x2
            have f1 := x2.b1
            have f2 := x2.b2
            clear h2 x2 b0 b1 b2
            have HGi := Lib.hid (two_rmask H2.out X2.out I b)
            go_wp2_with fail
            refine HGi.out.mono ?_
            rintro e w3 ⟨r3, c3, rfl, h3, x3⟩
            have H3 := Lib.hid h3
            have X3 := Lib.hid x3
            clear h3 x3 f1 f2 HFr HGi H2 X2
            generalize maskE L I = E at *
            generalize maskL L I b = L3 at *
            have e1 : (E != E) = false := by simp
            have HLe := Lib.hid (len_any H3.out.mem)
            rw [H3.out.len] at HLe
            have e2 : ((n : Int) != n) = false := by simp
            clear H1 X1
            go_wp2_with (go_at_call 8; refine HLe.out.mono ?_; rintro e w' ⟨rfl, rfl⟩)
            clear HLe
            go_loopw [19] (fun u19 wr => ∃ k : Nat, k ≤ n ∧ u19 = .int .i64 (k : Nat) ∧ Below w3.heap.size w3 wr) (fun u19 _ => n - (intOf u19).toNat)
            case atStart => exact ⟨0, Nat.zero_le _, rfl, Below.refl _ _⟩
            case round =>
              obtain ⟨k, hk, rfl, hb⟩ := hrel
              have HB := Lib.hid hb
              have K3 := Lib.hid (H3.out.later hb)
              have Y3 := Lib.hid (X3.out.later hb)
              clear hb
              by_cases hkn : k < n
              · obtain ⟨x, hx⟩ : ∃ x, L3[k]? = some x := ⟨_, List.getElem?_eq_getElem (by rw [K3.out.len]; exact hkn)⟩
                obtain ⟨d0, d1, d2, d3⟩ := K3.out.doc.at_ hx
                have hrlt := K3.out.rlt
                have k0 : (0 : Int) ≤ k := by omega
                have k1 : (k : Int) < n := by omega
                obtain ⟨ra, ma, se, d⟩ := x
                dsimp only at d0 d1 d2 d3
                have HOf : Hid (∀ w', Below wr.heap.size wr w' → Calls Try.prog 12 #[.pointer (some ⟨h, 0, none⟩), .int .i64 (k : Nat)] w' fun e w'' => e = .returned (.agg #[.bool ra, .bool ma, .bool se, .int .i64 d]) ∧ Below w'.heap.size w' w'') := Lib.hid fun w' hb => by
                  have := of_any (K3.out.later hb).mem (k : Nat)
                  rw [lnAt_in hx] at this
                  exact this
                have HIs : Hid (∀ w', Calls Try.prog 18 #[.agg #[.bool ra, .bool ma, .bool se, .int .i64 d], .agg #[.bool ra, .bool ma, .bool se, .int .i64 d]] w' fun e w'' => e = .returned (.bool true) ∧ Below w'.heap.size w' w'') := Lib.hid fun w' => is_any ⟨ra, ma, se, d⟩ w'
                have HF : Hid (∀ m : Later wr.heap.size wr, Below w3.heap.size w3 m.world) := Lib.hid fun m => HB.out.trans (m.below.mono HB.out.size)
                clear hx
                go_wp2_with fail
                refine wp_region_later wr.heap.size wr (by kernel_rfl) (by kernel_rfl) (Below.refl _ _) ?_
                repeat (go_big_quiet_step (first
                  | (go_at_call 12; (with_reducible refine Calls.later ?_ (HOf.out _ (Later.below _))); exact Nat.le_refl _)
                  | (go_at_call 18; (with_reducible refine Calls.later ?_ (HIs.out _)); exact Nat.le_refl _)))
                refine wpQuiet_nil ?_
                rintro _ ⟨m1, rfl⟩
                go_wp2
                go_roundw
                case rel => exact ⟨k + 1, by omega, by go_num, HF.out m1⟩
                case measure => simp [intOf]; omega
              · obtain rfl : k = n := by omega
                have HHs := Lib.hid (rhas_any (c := c3) K3.out.lem (some ⟨r3, 0, none⟩) I wr)
                have d1 := Y3.out.b1
                cases hh : hasL L3 I with
                | true =>
                  rw [hh] at HHs
                  clear hh
                  go_wp2_with (go_at_call 19; refine HHs.out.mono ?_; rintro e w' ⟨rfl, rfl⟩)
                  go_roundw
                  case rel => exact ⟨i + 1, r3, c3, L3, by omega, by omega, rfl, by go_num, K3.out⟩
                  case measure => simp [intOf]; omega
                | false =>
                  have HOf : Hid (Calls Try.prog 12 #[.pointer (some ⟨h, 0, none⟩), .int .i64 I] wr fun e w'' => e = .returned (.agg #[.bool false, .bool false, .bool false, .int .i64 0]) ∧ Below wr.heap.size wr w'') := Lib.hid (by
                    have := of_any K3.out.mem I
                    rw [lnAt_miss hh] at this
                    exact this)
                  rw [hh] at HHs
                  clear hh
                  go_wp2_with (first
                    | (go_at_call 19; refine HHs.out.mono ?_; rintro e w' ⟨rfl, rfl⟩)
                    | (go_at_call 12; refine HOf.out.mono ?_; rintro e w5 ⟨rfl, hb5⟩; have HB5 := Lib.hid hb5; clear hb5))
                  go_roundw
                  case rel => exact ⟨i + 1, r3, c3, L3, by omega, by omega, rfl, by go_num, K3.out.later HB5.out⟩
                  case measure => simp [intOf]; omega
        · by_cases k2 : kd = 2
          · subst k2
            rcases next_ways L with ⟨N, hN, z1, z2, z3⟩ | ⟨z1, z2, z3⟩
            · as_aux_lemma =>
                have N0 : (0 : Int) ≤ N := by omega
                have HFr := Lib.hid (two_next H1.out X1.out)
                rw [z1, z2] at HFr
                go_wp2_with fail
                clear hW hp
                refine HFr.out.mono ?_
                rintro e w2 ⟨rfl, h2, x2⟩
                have H2 := Lib.hid h2
                have X2 := Lib.hid x2
                clear h2 x2 b0 b1 b2
                have HGi := Lib.hid (two_rnext H2.out X2.out)
                rw [z3] at HGi
                go_wp2_with fail
                refine HGi.out.mono ?_
                rintro e w3 ⟨r3, c3, rfl, h3, x3⟩
                have H3 := Lib.hid h3
                have X3 := Lib.hid x3
                clear h3 x3 HFr HGi H2 X2
                generalize nextL L = L3 at *
                have HLe := Lib.hid (len_any H3.out.mem)
                rw [H3.out.len] at HLe
                have e2 : ((n : Int) != n) = false := by simp
                clear H1 X1
                go_wp2_with (go_at_call 8; refine HLe.out.mono ?_; rintro e w' ⟨rfl, rfl⟩)
                clear HLe
                go_loopw [19] (fun u19 wr => ∃ k : Nat, k ≤ n ∧ u19 = .int .i64 (k : Nat) ∧ Below w3.heap.size w3 wr) (fun u19 _ => n - (intOf u19).toNat)
                case atStart => exact ⟨0, Nat.zero_le _, rfl, Below.refl _ _⟩
                case round =>
                  obtain ⟨k, hk, rfl, hb⟩ := hrel
                  have HB := Lib.hid hb
                  have K3 := Lib.hid (H3.out.later hb)
                  have Y3 := Lib.hid (X3.out.later hb)
                  clear hb
                  by_cases hkn : k < n
                  · obtain ⟨x, hx⟩ : ∃ x, L3[k]? = some x := ⟨_, List.getElem?_eq_getElem (by rw [K3.out.len]; exact hkn)⟩
                    obtain ⟨d0, d1, d2, d3⟩ := K3.out.doc.at_ hx
                    have hrlt := K3.out.rlt
                    have k0 : (0 : Int) ≤ k := by omega
                    have k1 : (k : Int) < n := by omega
                    obtain ⟨ra, ma, se, d⟩ := x
                    dsimp only at d0 d1 d2 d3
                    have HOf : Hid (∀ w', Below wr.heap.size wr w' → Calls Try.prog 12 #[.pointer (some ⟨h, 0, none⟩), .int .i64 (k : Nat)] w' fun e w'' => e = .returned (.agg #[.bool ra, .bool ma, .bool se, .int .i64 d]) ∧ Below w'.heap.size w' w'') := Lib.hid fun w' hb => by
                      have := of_any (K3.out.later hb).mem (k : Nat)
                      rw [lnAt_in hx] at this
                      exact this
                    have HIs : Hid (∀ w', Calls Try.prog 18 #[.agg #[.bool ra, .bool ma, .bool se, .int .i64 d], .agg #[.bool ra, .bool ma, .bool se, .int .i64 d]] w' fun e w'' => e = .returned (.bool true) ∧ Below w'.heap.size w' w'') := Lib.hid fun w' => is_any ⟨ra, ma, se, d⟩ w'
                    have HF : Hid (∀ m : Later wr.heap.size wr, Below w3.heap.size w3 m.world) := Lib.hid fun m => HB.out.trans (m.below.mono HB.out.size)
                    clear hx
                    go_wp2_with fail
                    refine wp_region_later wr.heap.size wr (by kernel_rfl) (by kernel_rfl) (Below.refl _ _) ?_
                    repeat (go_big_quiet_step (first
                      | (go_at_call 12; (with_reducible refine Calls.later ?_ (HOf.out _ (Later.below _))); exact Nat.le_refl _)
                      | (go_at_call 18; (with_reducible refine Calls.later ?_ (HIs.out _)); exact Nat.le_refl _)))
                    refine wpQuiet_nil ?_
                    rintro _ ⟨m1, rfl⟩
                    go_wp2
                    go_roundw
                    case rel => exact ⟨k + 1, by omega, by go_num, HF.out m1⟩
                    case measure => simp [intOf]; omega
                  · obtain rfl : k = n := by omega
                    have HHs := Lib.hid (rhas_any (c := c3) K3.out.lem (some ⟨r3, 0, none⟩) I wr)
                    have d1 := Y3.out.b1
                    cases hh : hasL L3 I with
                    | true =>
                      rw [hh] at HHs
                      clear hh
                      go_wp2_with (go_at_call 19; refine HHs.out.mono ?_; rintro e w' ⟨rfl, rfl⟩)
                      go_roundw
                      case rel => exact ⟨i + 1, r3, c3, L3, by omega, by omega, rfl, by go_num, K3.out⟩
                      case measure => simp [intOf]; omega
                    | false =>
                      have HOf : Hid (Calls Try.prog 12 #[.pointer (some ⟨h, 0, none⟩), .int .i64 I] wr fun e w'' => e = .returned (.agg #[.bool false, .bool false, .bool false, .int .i64 0]) ∧ Below wr.heap.size wr w'') := Lib.hid (by
                        have := of_any K3.out.mem I
                        rw [lnAt_miss hh] at this
                        exact this)
                      rw [hh] at HHs
                      clear hh
                      go_wp2_with (first
                        | (go_at_call 19; refine HHs.out.mono ?_; rintro e w' ⟨rfl, rfl⟩)
                        | (go_at_call 12; refine HOf.out.mono ?_; rintro e w5 ⟨rfl, hb5⟩; have HB5 := Lib.hid hb5; clear hb5))
                      go_roundw
                      case rel => exact ⟨i + 1, r3, c3, L3, by omega, by omega, rfl, by go_num, K3.out.later HB5.out⟩
                      case measure => simp [intOf]; omega
            · as_aux_lemma =>
                have HFr := Lib.hid (two_next H1.out X1.out)
                rw [z1, z2] at HFr
                go_wp2_with fail
                clear hW hp
                refine HFr.out.mono ?_
                rintro e w2 ⟨rfl, h2, x2⟩
                have H2 := Lib.hid h2
                have X2 := Lib.hid x2
                clear h2 x2 b0 b1 b2
                have HGi := Lib.hid (two_rnext H2.out X2.out)
                rw [z3] at HGi
                go_wp2_with fail
                refine HGi.out.mono ?_
                rintro e w3 ⟨r3, c3, rfl, h3, x3⟩
                have H3 := Lib.hid h3
                have X3 := Lib.hid x3
                clear h3 x3 HFr HGi H2 X2
                generalize nextL L = L3 at *
                have HLe := Lib.hid (len_any H3.out.mem)
                rw [H3.out.len] at HLe
                have e2 : ((n : Int) != n) = false := by simp
                clear H1 X1
                go_wp2_with (go_at_call 8; refine HLe.out.mono ?_; rintro e w' ⟨rfl, rfl⟩)
                clear HLe
                go_loopw [19] (fun u19 wr => ∃ k : Nat, k ≤ n ∧ u19 = .int .i64 (k : Nat) ∧ Below w3.heap.size w3 wr) (fun u19 _ => n - (intOf u19).toNat)
                case atStart => exact ⟨0, Nat.zero_le _, rfl, Below.refl _ _⟩
                case round =>
                  obtain ⟨k, hk, rfl, hb⟩ := hrel
                  have HB := Lib.hid hb
                  have K3 := Lib.hid (H3.out.later hb)
                  have Y3 := Lib.hid (X3.out.later hb)
                  clear hb
                  by_cases hkn : k < n
                  · obtain ⟨x, hx⟩ : ∃ x, L3[k]? = some x := ⟨_, List.getElem?_eq_getElem (by rw [K3.out.len]; exact hkn)⟩
                    obtain ⟨d0, d1, d2, d3⟩ := K3.out.doc.at_ hx
                    have hrlt := K3.out.rlt
                    have k0 : (0 : Int) ≤ k := by omega
                    have k1 : (k : Int) < n := by omega
                    obtain ⟨ra, ma, se, d⟩ := x
                    dsimp only at d0 d1 d2 d3
                    have HOf : Hid (∀ w', Below wr.heap.size wr w' → Calls Try.prog 12 #[.pointer (some ⟨h, 0, none⟩), .int .i64 (k : Nat)] w' fun e w'' => e = .returned (.agg #[.bool ra, .bool ma, .bool se, .int .i64 d]) ∧ Below w'.heap.size w' w'') := Lib.hid fun w' hb => by
                      have := of_any (K3.out.later hb).mem (k : Nat)
                      rw [lnAt_in hx] at this
                      exact this
                    have HIs : Hid (∀ w', Calls Try.prog 18 #[.agg #[.bool ra, .bool ma, .bool se, .int .i64 d], .agg #[.bool ra, .bool ma, .bool se, .int .i64 d]] w' fun e w'' => e = .returned (.bool true) ∧ Below w'.heap.size w' w'') := Lib.hid fun w' => is_any ⟨ra, ma, se, d⟩ w'
                    have HF : Hid (∀ m : Later wr.heap.size wr, Below w3.heap.size w3 m.world) := Lib.hid fun m => HB.out.trans (m.below.mono HB.out.size)
                    clear hx
                    go_wp2_with fail
                    refine wp_region_later wr.heap.size wr (by kernel_rfl) (by kernel_rfl) (Below.refl _ _) ?_
                    repeat (go_big_quiet_step (first
                      | (go_at_call 12; (with_reducible refine Calls.later ?_ (HOf.out _ (Later.below _))); exact Nat.le_refl _)
                      | (go_at_call 18; (with_reducible refine Calls.later ?_ (HIs.out _)); exact Nat.le_refl _)))
                    refine wpQuiet_nil ?_
                    rintro _ ⟨m1, rfl⟩
                    go_wp2
                    go_roundw
                    case rel => exact ⟨k + 1, by omega, by go_num, HF.out m1⟩
                    case measure => simp [intOf]; omega
                  · obtain rfl : k = n := by omega
                    have HHs := Lib.hid (rhas_any (c := c3) K3.out.lem (some ⟨r3, 0, none⟩) I wr)
                    have d1 := Y3.out.b1
                    cases hh : hasL L3 I with
                    | true =>
                      rw [hh] at HHs
                      clear hh
                      go_wp2_with (go_at_call 19; refine HHs.out.mono ?_; rintro e w' ⟨rfl, rfl⟩)
                      go_roundw
                      case rel => exact ⟨i + 1, r3, c3, L3, by omega, by omega, rfl, by go_num, K3.out⟩
                      case measure => simp [intOf]; omega
                    | false =>
                      have HOf : Hid (Calls Try.prog 12 #[.pointer (some ⟨h, 0, none⟩), .int .i64 I] wr fun e w'' => e = .returned (.agg #[.bool false, .bool false, .bool false, .int .i64 0]) ∧ Below wr.heap.size wr w'') := Lib.hid (by
                        have := of_any K3.out.mem I
                        rw [lnAt_miss hh] at this
                        exact this)
                      rw [hh] at HHs
                      clear hh
                      go_wp2_with (first
                        | (go_at_call 19; refine HHs.out.mono ?_; rintro e w' ⟨rfl, rfl⟩)
                        | (go_at_call 12; refine HOf.out.mono ?_; rintro e w5 ⟨rfl, hb5⟩; have HB5 := Lib.hid hb5; clear hb5))
                      go_roundw
                      case rel => exact ⟨i + 1, r3, c3, L3, by omega, by omega, rfl, by go_num, K3.out.later HB5.out⟩
                      case measure => simp [intOf]; omega
          · by_cases k3 : kd = 3
            · subst k3
              as_aux_lemma =>
                have HFr := Lib.hid (two_ack H1.out X1.out I)
                go_wp2_with fail
                clear hW hp
                refine HFr.out.mono ?_
                rintro e w2 ⟨rfl, h2, x2⟩
                have H2 := Lib.hid h2
                have X2 := Lib.hid x2
                have f1 := x2.b1
                have f2 := x2.b2
                clear h2 x2 b0 b1 b2
                have HGi := Lib.hid (two_rack H2.out X2.out I)
                go_wp2_with fail
                refine HGi.out.mono ?_
                rintro e w3 ⟨r3, c3, rfl, h3, x3⟩
                have H3 := Lib.hid h3
                have X3 := Lib.hid x3
                clear h3 x3 f1 f2 HFr HGi H2 X2
                generalize ackE L I = E at *
                generalize ackL L I = L3 at *
                have e1 : (E != E) = false := by simp
                have HLe := Lib.hid (len_any H3.out.mem)
                rw [H3.out.len] at HLe
                have e2 : ((n : Int) != n) = false := by simp
                clear H1 X1
                go_wp2_with (go_at_call 8; refine HLe.out.mono ?_; rintro e w' ⟨rfl, rfl⟩)
                clear HLe
                go_loopw [19] (fun u19 wr => ∃ k : Nat, k ≤ n ∧ u19 = .int .i64 (k : Nat) ∧ Below w3.heap.size w3 wr) (fun u19 _ => n - (intOf u19).toNat)
                case atStart => exact ⟨0, Nat.zero_le _, rfl, Below.refl _ _⟩
                case round =>
                  obtain ⟨k, hk, rfl, hb⟩ := hrel
                  have HB := Lib.hid hb
                  have K3 := Lib.hid (H3.out.later hb)
                  have Y3 := Lib.hid (X3.out.later hb)
                  clear hb
                  by_cases hkn : k < n
                  · obtain ⟨x, hx⟩ : ∃ x, L3[k]? = some x := ⟨_, List.getElem?_eq_getElem (by rw [K3.out.len]; exact hkn)⟩
                    obtain ⟨d0, d1, d2, d3⟩ := K3.out.doc.at_ hx
                    have hrlt := K3.out.rlt
                    have k0 : (0 : Int) ≤ k := by omega
                    have k1 : (k : Int) < n := by omega
                    obtain ⟨ra, ma, se, d⟩ := x
                    dsimp only at d0 d1 d2 d3
                    have HOf : Hid (∀ w', Below wr.heap.size wr w' → Calls Try.prog 12 #[.pointer (some ⟨h, 0, none⟩), .int .i64 (k : Nat)] w' fun e w'' => e = .returned (.agg #[.bool ra, .bool ma, .bool se, .int .i64 d]) ∧ Below w'.heap.size w' w'') := Lib.hid fun w' hb => by
                      have := of_any (K3.out.later hb).mem (k : Nat)
                      rw [lnAt_in hx] at this
                      exact this
                    have HIs : Hid (∀ w', Calls Try.prog 18 #[.agg #[.bool ra, .bool ma, .bool se, .int .i64 d], .agg #[.bool ra, .bool ma, .bool se, .int .i64 d]] w' fun e w'' => e = .returned (.bool true) ∧ Below w'.heap.size w' w'') := Lib.hid fun w' => is_any ⟨ra, ma, se, d⟩ w'
                    have HF : Hid (∀ m : Later wr.heap.size wr, Below w3.heap.size w3 m.world) := Lib.hid fun m => HB.out.trans (m.below.mono HB.out.size)
                    clear hx
                    go_wp2_with fail
                    refine wp_region_later wr.heap.size wr (by kernel_rfl) (by kernel_rfl) (Below.refl _ _) ?_
                    repeat (go_big_quiet_step (first
                      | (go_at_call 12; (with_reducible refine Calls.later ?_ (HOf.out _ (Later.below _))); exact Nat.le_refl _)
                      | (go_at_call 18; (with_reducible refine Calls.later ?_ (HIs.out _)); exact Nat.le_refl _)))
                    refine wpQuiet_nil ?_
                    rintro _ ⟨m1, rfl⟩
                    go_wp2
                    go_roundw
                    case rel => exact ⟨k + 1, by omega, by go_num, HF.out m1⟩
                    case measure => simp [intOf]; omega
                  · obtain rfl : k = n := by omega
                    have HHs := Lib.hid (rhas_any (c := c3) K3.out.lem (some ⟨r3, 0, none⟩) I wr)
                    have d1 := Y3.out.b1
                    cases hh : hasL L3 I with
                    | true =>
                      rw [hh] at HHs
                      clear hh
                      go_wp2_with (go_at_call 19; refine HHs.out.mono ?_; rintro e w' ⟨rfl, rfl⟩)
                      go_roundw
                      case rel => exact ⟨i + 1, r3, c3, L3, by omega, by omega, rfl, by go_num, K3.out⟩
                      case measure => simp [intOf]; omega
                    | false =>
                      have HOf : Hid (Calls Try.prog 12 #[.pointer (some ⟨h, 0, none⟩), .int .i64 I] wr fun e w'' => e = .returned (.agg #[.bool false, .bool false, .bool false, .int .i64 0]) ∧ Below wr.heap.size wr w'') := Lib.hid (by
                        have := of_any K3.out.mem I
                        rw [lnAt_miss hh] at this
                        exact this)
                      rw [hh] at HHs
                      clear hh
                      go_wp2_with (first
                        | (go_at_call 19; refine HHs.out.mono ?_; rintro e w' ⟨rfl, rfl⟩)
                        | (go_at_call 12; refine HOf.out.mono ?_; rintro e w5 ⟨rfl, hb5⟩; have HB5 := Lib.hid hb5; clear hb5))
                      go_roundw
                      case rel => exact ⟨i + 1, r3, c3, L3, by omega, by omega, rfl, by go_num, K3.out.later HB5.out⟩
                      case measure => simp [intOf]; omega
            · as_aux_lemma =>
                have q1 : (kd == 1) = false := by simpa using k1
                have q2 : (kd == 2) = false := by simpa using k2
                have q3 : (kd == 3) = false := by simpa using k3
                have HFr := Lib.hid (two_raise H1.out X1.out I)
                go_wp2_with fail
                clear hW hp
                refine HFr.out.mono ?_
                rintro e w2 ⟨rfl, h2, x2⟩
                have H2 := Lib.hid h2
                have X2 := Lib.hid x2
                have f1 := x2.b1
                have f2 := x2.b2
                clear h2 x2 b0 b1 b2
                have HGi := Lib.hid (two_rraise H2.out X2.out I)
                go_wp2_with fail
                refine HGi.out.mono ?_
                rintro e w3 ⟨r3, c3, rfl, h3, x3⟩
                have H3 := Lib.hid h3
                have X3 := Lib.hid x3
                clear h3 x3 f1 f2 HFr HGi H2 X2
                generalize raiseE L I = E at *
                generalize raiseL L I = L3 at *
                have e1 : (E != E) = false := by simp
                clear q1 q2 q3
                have HLe := Lib.hid (len_any H3.out.mem)
                rw [H3.out.len] at HLe
                have e2 : ((n : Int) != n) = false := by simp
                clear H1 X1
                go_wp2_with (go_at_call 8; refine HLe.out.mono ?_; rintro e w' ⟨rfl, rfl⟩)
                clear HLe
                go_loopw [19] (fun u19 wr => ∃ k : Nat, k ≤ n ∧ u19 = .int .i64 (k : Nat) ∧ Below w3.heap.size w3 wr) (fun u19 _ => n - (intOf u19).toNat)
                case atStart => exact ⟨0, Nat.zero_le _, rfl, Below.refl _ _⟩
                case round =>
                  obtain ⟨k, hk, rfl, hb⟩ := hrel
                  have HB := Lib.hid hb
                  have K3 := Lib.hid (H3.out.later hb)
                  have Y3 := Lib.hid (X3.out.later hb)
                  clear hb
                  by_cases hkn : k < n
                  · obtain ⟨x, hx⟩ : ∃ x, L3[k]? = some x := ⟨_, List.getElem?_eq_getElem (by rw [K3.out.len]; exact hkn)⟩
                    obtain ⟨d0, d1, d2, d3⟩ := K3.out.doc.at_ hx
                    have hrlt := K3.out.rlt
                    have k0 : (0 : Int) ≤ k := by omega
                    have k1 : (k : Int) < n := by omega
                    obtain ⟨ra, ma, se, d⟩ := x
                    dsimp only at d0 d1 d2 d3
                    have HOf : Hid (∀ w', Below wr.heap.size wr w' → Calls Try.prog 12 #[.pointer (some ⟨h, 0, none⟩), .int .i64 (k : Nat)] w' fun e w'' => e = .returned (.agg #[.bool ra, .bool ma, .bool se, .int .i64 d]) ∧ Below w'.heap.size w' w'') := Lib.hid fun w' hb => by
                      have := of_any (K3.out.later hb).mem (k : Nat)
                      rw [lnAt_in hx] at this
                      exact this
                    have HIs : Hid (∀ w', Calls Try.prog 18 #[.agg #[.bool ra, .bool ma, .bool se, .int .i64 d], .agg #[.bool ra, .bool ma, .bool se, .int .i64 d]] w' fun e w'' => e = .returned (.bool true) ∧ Below w'.heap.size w' w'') := Lib.hid fun w' => is_any ⟨ra, ma, se, d⟩ w'
                    have HF : Hid (∀ m : Later wr.heap.size wr, Below w3.heap.size w3 m.world) := Lib.hid fun m => HB.out.trans (m.below.mono HB.out.size)
                    clear hx
                    go_wp2_with fail
                    refine wp_region_later wr.heap.size wr (by kernel_rfl) (by kernel_rfl) (Below.refl _ _) ?_
                    repeat (go_big_quiet_step (first
                      | (go_at_call 12; (with_reducible refine Calls.later ?_ (HOf.out _ (Later.below _))); exact Nat.le_refl _)
                      | (go_at_call 18; (with_reducible refine Calls.later ?_ (HIs.out _)); exact Nat.le_refl _)))
                    refine wpQuiet_nil ?_
                    rintro _ ⟨m1, rfl⟩
                    go_wp2
                    go_roundw
                    case rel => exact ⟨k + 1, by omega, by go_num, HF.out m1⟩
                    case measure => simp [intOf]; omega
                  · obtain rfl : k = n := by omega
                    have HHs := Lib.hid (rhas_any (c := c3) K3.out.lem (some ⟨r3, 0, none⟩) I wr)
                    have d1 := Y3.out.b1
                    cases hh : hasL L3 I with
                    | true =>
                      rw [hh] at HHs
                      clear hh
                      go_wp2_with (go_at_call 19; refine HHs.out.mono ?_; rintro e w' ⟨rfl, rfl⟩)
                      go_roundw
                      case rel => exact ⟨i + 1, r3, c3, L3, by omega, by omega, rfl, by go_num, K3.out⟩
                      case measure => simp [intOf]; omega
                    | false =>
                      have HOf : Hid (Calls Try.prog 12 #[.pointer (some ⟨h, 0, none⟩), .int .i64 I] wr fun e w'' => e = .returned (.agg #[.bool false, .bool false, .bool false, .int .i64 0]) ∧ Below wr.heap.size wr w'') := Lib.hid (by
                        have := of_any K3.out.mem I
                        rw [lnAt_miss hh] at this
                        exact this)
                      rw [hh] at HHs
                      clear hh
                      go_wp2_with (first
                        | (go_at_call 19; refine HHs.out.mono ?_; rintro e w' ⟨rfl, rfl⟩)
                        | (go_at_call 12; refine HOf.out.mono ?_; rintro e w5 ⟨rfl, hb5⟩; have HB5 := Lib.hid hb5; clear hb5))
                      go_roundw
                      case rel => exact ⟨i + 1, r3, c3, L3, by omega, by omega, rfl, by go_num, K3.out.later HB5.out⟩
                      case measure => simp [intOf]; omega
      · have HX : Hid (Below w.heap.size w wr) := Lib.hid HP.out.below
        by_cases hx2 : i < nl
        · obtain rfl : i = 100 := by omega
          go_wp2_with fail
          refine (awake_any _).mono ?_
          rintro e w3 ⟨rfl, hb3⟩
          have HB3 := Lib.hid (HX.out.trans (hb3.mono HX.out.size))
          clear hb3
          go_wp2
          go_ret
          exact ⟨rfl, HB3.out⟩
        · clear hlt
          go_wp2_with fail
          refine (awake_any _).mono ?_
          rintro e w3 ⟨rfl, hb3⟩
          have HB3 := Lib.hid (HX.out.trans (hb3.mono HX.out.size))
          clear hb3
          go_wp2
          go_ret
          exact ⟨rfl, HB3.out⟩
end Go.Proofs.Ytmdkodgbckblfaa
