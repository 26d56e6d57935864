/-
  The law FitSlacks answers true: its walk out of the contracts.
-/
import Derived.Test.YtlpmcmgalodfeaaFWalksE
namespace Go.Proofs.Ytlpmcmgalodfeaa
open Go.ChangeShapes Go.WideShapes Go.ChangeAt Go.RowKit

set_option maxRecDepth 100000 in
set_option maxHeartbeats 4000000 in
theorem fslacks_any (A : Option Addr) (n c : Nat) (l : List (Int × Int × Int)) (A2 : Option Addr) (m c2 : Nat) (s : List Int) (b p t : Int) (w : World) (hln : l.length = n) (hL : Tks w.heap.size w A l) (hsm : s.length = m) (hS : NumsI w.heap.size w A2 s) (hm : m ≤ c2) :
    Calls Try.prog 4 #[.slice A n c, .slice A2 m c2, .agg #[.int .i64 b, .int .i64 p], .int .i64 t] w fun e w' => e = .returned (.bool true) ∧ Below w.heap.size w w' := by
  have hbox : Below w.heap.size w (w.alloc (.cells #[.int .i64 b, .int .i64 p] 25)) := by go_grown
  have HB := Lib.hid hbox
  have T0 := Lib.hid (hL.later hbox)
  have N0 := Lib.hid (hS.later hbox)
  have B0 : Hid (Below (w.heap.size + 1) (w.alloc (.cells #[.int .i64 b, .int .i64 p] 25)) (w.alloc (.cells #[.int .i64 b, .int .i64 p] 25))) := Lib.hid (Below.refl _ _)
  have z0 : Hid (w.heap.size + 1 ≤ (w.alloc (.cells #[.int .i64 b, .int .i64 p] 25)).heap.size) := Lib.hid (by simp)
  clear hbox hL hS
  have CQ : Hid (∀ w : World, _) := fun w => few_any A n c A2 m c2 t w
  cases hq : fewB n m t with
  | false =>
    rw [hq] at CQ
    clear hq hln hsm
    go_enter Try.func4, Try.ntmps4
    go_wp2_with fail
    refine (CQ.out _).mono ?_
    rintro e ws ⟨rfl, rfl⟩
    go_wp2_with fail
    refine (fawake_any _).mono ?_
    rintro e w1 ⟨rfl, hb⟩
    have B1 := Lib.hid (B0.out.trans (hb.mono z0.out))
    have T1 := Lib.hid (T0.out.later hb)
    have N1 := Lib.hid (N0.out.later hb)
    have z1 := Lib.hid (Nat.le_trans z0.out hb.size)
    clear hb
    obtain ⟨hc, hf⟩ := old_cells B1.out
    have hz0 : w.heap.size < w1.heap.size := by have := z1.out; omega
    go_wp2
    go_ret
    exact ⟨rfl, HB.out.trans (B1.out.mono (by omega))⟩
  | true =>
    rw [hq] at CQ
    have hn12 : n ≤ 12 := by simp only [fewB, Bool.and_eq_true, decide_eq_true_eq] at hq; exact hq.1.1
    have CF : Hid (∀ w : World, Tks w.heap.size w A l → NumsI w.heap.size w A2 s → _) := fun w h h2 => slack_any A n c l A2 m c2 s b p t w hln h hsm h2 hm
    have CS : Hid (∀ w : World, Tks w.heap.size w A l → NumsI w.heap.size w A2 s → _) := fun w h h2 => frright_any A n c l A2 m c2 s b p w hln h hsm h2 (by omega)
    clear hq
    cases ha : Ft.asks l s b p t with
    | false =>
      rw [show slackN l s b p t = 0 by simp [slackN, ha], show slackV l s b p t = 0 by simp [slackV, ha], show slackE l s b p t = 1 by simp [slackE, ha]] at CF
      cases hr : Ft.right l s b p with
      | false =>
        rw [hr] at CS
        clear ha hr hln hsm
        go_enter Try.func4, Try.ntmps4
        go_wp2_with fail
        refine (CQ.out _).mono ?_
        rintro e ws ⟨rfl, rfl⟩
        go_wp2_with fail
        refine (fto_any b p _).mono ?_
        rintro e w1 ⟨rfl, hb⟩
        have B1 := Lib.hid (B0.out.trans (hb.mono z0.out))
        have T1 := Lib.hid (T0.out.later hb)
        have N1 := Lib.hid (N0.out.later hb)
        have z1 := Lib.hid (Nat.le_trans z0.out hb.size)
        clear hb
        obtain ⟨hc, hf⟩ := old_cells B1.out
        have hz0 : w.heap.size < w1.heap.size := by have := z1.out; omega
        go_wp2_with fail
        refine (CF.out _ T1.out N1.out).mono ?_
        rintro e w2 ⟨rfl, hb⟩
        have B2 := Lib.hid (B1.out.trans (hb.mono z1.out))
        have T2 := Lib.hid (T1.out.later hb)
        have N2 := Lib.hid (N1.out.later hb)
        have z2 := Lib.hid (Nat.le_trans z1.out hb.size)
        clear hb
        clear hc hf hz0
        obtain ⟨hc, hf⟩ := old_cells B2.out
        have hz0 : w.heap.size < w2.heap.size := by have := z2.out; omega
        go_wp2_with fail
        refine (CS.out _ T2.out N2.out).mono ?_
        rintro e w3 ⟨rfl, hb⟩
        have B3 := Lib.hid (B2.out.trans (hb.mono z2.out))
        have T3 := Lib.hid (T2.out.later hb)
        have N3 := Lib.hid (N2.out.later hb)
        have z3 := Lib.hid (Nat.le_trans z2.out hb.size)
        clear hb
        clear hc hf hz0
        obtain ⟨hc, hf⟩ := old_cells B3.out
        have hz0 : w.heap.size < w3.heap.size := by have := z3.out; omega
        go_wp2_with fail
        refine (fawake_any _).mono ?_
        rintro e w4 ⟨rfl, hb⟩
        have B4 := Lib.hid (B3.out.trans (hb.mono z3.out))
        have T4 := Lib.hid (T3.out.later hb)
        have N4 := Lib.hid (N3.out.later hb)
        have z4 := Lib.hid (Nat.le_trans z3.out hb.size)
        clear hb
        clear hc hf hz0
        obtain ⟨hc, hf⟩ := old_cells B4.out
        have hz0 : w.heap.size < w4.heap.size := by have := z4.out; omega
        go_wp2
        go_ret
        exact ⟨rfl, HB.out.trans (B4.out.mono (by omega))⟩
      | true =>
        have hcs : t < 0 ∨ (0 ≤ t ∧ 1048576 < t) := by
          rw [Ft.asks, hr, Bool.and_true] at ha
          have h1 : ¬ (0 ≤ t ∧ t ≤ 1048576) := fun h => by rw [Sp.asks_iff.2 h] at ha; cases ha
          omega
        rw [hr] at CS
        clear ha hr hln hsm
        rcases hcs with i1 | ⟨i1, i2⟩
        all_goals
          go_enter Try.func4, Try.ntmps4
          go_wp2_with fail
          refine (CQ.out _).mono ?_
          rintro e ws ⟨rfl, rfl⟩
          go_wp2_with fail
          refine (fto_any b p _).mono ?_
          rintro e w1 ⟨rfl, hb⟩
          have B1 := Lib.hid (B0.out.trans (hb.mono z0.out))
          have T1 := Lib.hid (T0.out.later hb)
          have N1 := Lib.hid (N0.out.later hb)
          have z1 := Lib.hid (Nat.le_trans z0.out hb.size)
          clear hb
          obtain ⟨hc, hf⟩ := old_cells B1.out
          have hz0 : w.heap.size < w1.heap.size := by have := z1.out; omega
          go_wp2_with fail
          refine (CF.out _ T1.out N1.out).mono ?_
          rintro e w2 ⟨rfl, hb⟩
          have B2 := Lib.hid (B1.out.trans (hb.mono z1.out))
          have T2 := Lib.hid (T1.out.later hb)
          have N2 := Lib.hid (N1.out.later hb)
          have z2 := Lib.hid (Nat.le_trans z1.out hb.size)
          clear hb
          clear hc hf hz0
          obtain ⟨hc, hf⟩ := old_cells B2.out
          have hz0 : w.heap.size < w2.heap.size := by have := z2.out; omega
          go_wp2_with fail
          refine (CS.out _ T2.out N2.out).mono ?_
          rintro e w3 ⟨rfl, hb⟩
          have B3 := Lib.hid (B2.out.trans (hb.mono z2.out))
          have T3 := Lib.hid (T2.out.later hb)
          have N3 := Lib.hid (N2.out.later hb)
          have z3 := Lib.hid (Nat.le_trans z2.out hb.size)
          clear hb
          clear hc hf hz0
          obtain ⟨hc, hf⟩ := old_cells B3.out
          have hz0 : w.heap.size < w3.heap.size := by have := z3.out; omega
          go_wp2_with fail
          refine (fawake_any _).mono ?_
          rintro e w4 ⟨rfl, hb⟩
          have B4 := Lib.hid (B3.out.trans (hb.mono z3.out))
          have T4 := Lib.hid (T3.out.later hb)
          have N4 := Lib.hid (N3.out.later hb)
          have z4 := Lib.hid (Nat.le_trans z3.out hb.size)
          clear hb
          clear hc hf hz0
          obtain ⟨hc, hf⟩ := old_cells B4.out
          have hz0 : w.heap.size < w4.heap.size := by have := z4.out; omega
          go_wp2
          go_ret
          exact ⟨rfl, HB.out.trans (B4.out.mono (by omega))⟩
    | true =>
      obtain ⟨⟨ht0, ht1⟩, hall, hwi, hr⟩ := Ft.asks_iff.1 ha
      have Hall := Lib.hid hall
      have Hw := Lib.hid hwi
      obtain ⟨r1, r2, r3⟩ := Sp.right_iff.1 hr
      rw [Ft.right_iff.2 ⟨hall, hwi, hr⟩] at CS
      have CP : Hid (∀ w : World, Tks w.heap.size w A l → _) := fun w h => rpoints_any A n c l t w hln h ht0 ht1 Hall
      have CN : Hid (∀ (x : Int) (w : World), x ≤ 1048576 → Tks w.heap.size w A l → NumsI w.heap.size w A2 s → _) := fun x w h1 h h2 => rneeds_any A n c l A2 m c2 s x w hln h hsm h2 Hall Hw h1
      have CG : Hid (∀ (x : Int) (w : World), 0 ≤ x → x ≤ 1048576 → _) := fun x w h0 h1 => rleast_any b p x w (by omega) (by omega) (by omega) r3 h1 (by omega)
      have HP0 : ∀ k, k < (Tk.pts l t).length → 1 ≤ (Tk.pts l t).getD k 0 ∧ (Tk.pts l t).getD k 0 ≤ t := fun k hk => Ft.pts_at hall hk
      have hfew := Ft.pts_few l ht1
      have HnB : Hid (∀ x, x ≤ 1048576 → 0 ≤ Ft.needs l s x ∧ Ft.needs l s x ≤ 8797166764032) := Lib.hid fun x hx => Ft.needs_bd hall hwi hx
      have HgB : Hid (∀ x, x ≤ 1048576 → 0 ≤ Sp.give b p x ∧ Sp.give b p x ≤ 4398046511104) := Lib.hid fun x hx => Sp.give_bd (by omega) (by omega) (by omega) hx
      have Hsp : Hid (∀ x, Ft.spare l s b p x = Sp.give b p x - Ft.needs l s x) := Lib.hid fun x => rfl
      by_cases hnil : Tk.pts l t = []
      · rw [show slackN l s b p t = 0 by simp [slackN, hnil], show slackV l s b p t = 0 by simp [slackV, hnil], show slackE l s b p t = 6 by simp [slackE, ha, hnil]] at CF
        rw [hnil] at CP
        clear ha hall hwi hr hln hsm HP0 hfew hnil
        go_enter Try.func4, Try.ntmps4
        go_wp2_with fail
        refine (CQ.out _).mono ?_
        rintro e ws ⟨rfl, rfl⟩
        go_wp2_with fail
        refine (fto_any b p _).mono ?_
        rintro e w1 ⟨rfl, hb⟩
        have B1 := Lib.hid (B0.out.trans (hb.mono z0.out))
        have T1 := Lib.hid (T0.out.later hb)
        have N1 := Lib.hid (N0.out.later hb)
        have z1 := Lib.hid (Nat.le_trans z0.out hb.size)
        clear hb
        obtain ⟨hc, hf⟩ := old_cells B1.out
        have hz0 : w.heap.size < w1.heap.size := by have := z1.out; omega
        go_wp2_with fail
        refine (CF.out _ T1.out N1.out).mono ?_
        rintro e w2 ⟨rfl, hb⟩
        have B2 := Lib.hid (B1.out.trans (hb.mono z1.out))
        have T2 := Lib.hid (T1.out.later hb)
        have N2 := Lib.hid (N1.out.later hb)
        have z2 := Lib.hid (Nat.le_trans z1.out hb.size)
        clear hb
        clear hc hf hz0
        obtain ⟨hc, hf⟩ := old_cells B2.out
        have hz0 : w.heap.size < w2.heap.size := by have := z2.out; omega
        go_wp2_with fail
        refine (CS.out _ T2.out N2.out).mono ?_
        rintro e w3 ⟨rfl, hb⟩
        have B3 := Lib.hid (B2.out.trans (hb.mono z2.out))
        have T3 := Lib.hid (T2.out.later hb)
        have N3 := Lib.hid (N2.out.later hb)
        have z3 := Lib.hid (Nat.le_trans z2.out hb.size)
        clear hb
        clear hc hf hz0
        obtain ⟨hc, hf⟩ := old_cells B3.out
        have hz0 : w.heap.size < w3.heap.size := by have := z3.out; omega
        go_wp2_with fail
        refine (CP.out _ T3.out).mono ?_
        rintro e w4 ⟨A3, c3, rfl, hc3, hN, hb⟩
        have B4 := Lib.hid (B3.out.trans (hb.mono z3.out))
        have T4 := Lib.hid (T3.out.later hb)
        have N4 := Lib.hid (N3.out.later hb)
        have z4 := Lib.hid (Nat.le_trans z3.out hb.size)
        clear hb
        clear hc hf hz0
        obtain ⟨hc, hf⟩ := old_cells B4.out
        have hz0 : w.heap.size < w4.heap.size := by have := z4.out; omega
        go_wp2_with fail
        refine (fawake_any _).mono ?_
        rintro e w5 ⟨rfl, hb⟩
        have B5 := Lib.hid (B4.out.trans (hb.mono z4.out))
        have T5 := Lib.hid (T4.out.later hb)
        have N5 := Lib.hid (N4.out.later hb)
        have z5 := Lib.hid (Nat.le_trans z4.out hb.size)
        clear hb
        clear hc hf hz0
        obtain ⟨hc, hf⟩ := old_cells B5.out
        have hz0 : w.heap.size < w5.heap.size := by have := z5.out; omega
        go_wp2
        go_ret
        exact ⟨rfl, HB.out.trans (B5.out.mono (by omega))⟩
      · rw [show slackN l s b p t = (Tk.pts l t).getD (Ft.bestTo (Ft.spare l s b p) (Tk.pts l t) ((Tk.pts l t).length - 1)) 0 by simp [slackN, slackAt, ha, hnil], show slackV l s b p t = Ft.spare l s b p ((Tk.pts l t).getD (Ft.bestTo (Ft.spare l s b p) (Tk.pts l t) ((Tk.pts l t).length - 1)) 0) by simp [slackV, slackAt, ha, hnil], show slackE l s b p t = 0 by simp [slackE, ha, hnil], Hsp.out] at CF
        have hpos : 0 < (Tk.pts l t).length := List.length_pos_iff.2 hnil
        generalize Tk.pts l t = L at *
        have HP := Lib.hid HP0
        have Hj0 := Lib.hid (Ft.bestTo_le (Ft.spare l s b p) L (L.length - 1))
        obtain ⟨j0, hj0⟩ : ∃ j0, Ft.bestTo (Ft.spare l s b p) L (L.length - 1) = j0 := ⟨_, rfl⟩
        rw [hj0] at CF Hj0
        have hj0b := Hj0.out
        have hy0 := HP.out j0 (by omega)
        obtain ⟨y0, hye⟩ : ∃ y0, L.getD j0 0 = y0 := ⟨_, rfl⟩
        rw [hye] at CF hy0
        have G0 := Lib.hid (fun w => CG.out y0 w (by omega) (by omega))
        have M0 := Lib.hid (fun w => CN.out y0 w (by omega))
        have hnb0 := HnB.out y0 (by omega)
        have hgb0 := HgB.out y0 (by omega)
        obtain ⟨n0, hn0⟩ : ∃ n0, Ft.needs l s y0 = n0 := ⟨_, rfl⟩
        obtain ⟨g0, hg0⟩ : ∃ g0, Sp.give b p y0 = g0 := ⟨_, rfl⟩
        rw [hn0] at M0 hnb0 CF
        rw [hg0] at G0 hgb0 CF
        have HJ := Lib.hid hj0
        have HY := Lib.hid hye
        have hl0 : ((L.length : Int) == 0) = false := beq_eq_false_iff_ne.2 (by omega)
        have hd0 : decide (L.length = 0) = false := decide_eq_false (by omega)
        clear ha hall hwi hr hln hsm HP0 hnil hj0 hye hn0 hg0
        go_enter Try.func4, Try.ntmps4
        go_wp2_with fail
        refine (CQ.out _).mono ?_
        rintro e ws ⟨rfl, rfl⟩
        go_wp2_with fail
        refine (fto_any b p _).mono ?_
        rintro e w1 ⟨rfl, hb⟩
        have B1 := Lib.hid (B0.out.trans (hb.mono z0.out))
        have T1 := Lib.hid (T0.out.later hb)
        have N1 := Lib.hid (N0.out.later hb)
        have z1 := Lib.hid (Nat.le_trans z0.out hb.size)
        clear hb
        obtain ⟨hc, hf⟩ := old_cells B1.out
        have hz0 : w.heap.size < w1.heap.size := by have := z1.out; omega
        go_wp2_with fail
        refine (CF.out _ T1.out N1.out).mono ?_
        rintro e w2 ⟨rfl, hb⟩
        have B2 := Lib.hid (B1.out.trans (hb.mono z1.out))
        have T2 := Lib.hid (T1.out.later hb)
        have N2 := Lib.hid (N1.out.later hb)
        have z2 := Lib.hid (Nat.le_trans z1.out hb.size)
        clear hb
        clear hc hf hz0
        obtain ⟨hc, hf⟩ := old_cells B2.out
        have hz0 : w.heap.size < w2.heap.size := by have := z2.out; omega
        go_wp2_with fail
        refine (CS.out _ T2.out N2.out).mono ?_
        rintro e w3 ⟨rfl, hb⟩
        have B3 := Lib.hid (B2.out.trans (hb.mono z2.out))
        have T3 := Lib.hid (T2.out.later hb)
        have N3 := Lib.hid (N2.out.later hb)
        have z3 := Lib.hid (Nat.le_trans z2.out hb.size)
        clear hb
        clear hc hf hz0
        obtain ⟨hc, hf⟩ := old_cells B3.out
        have hz0 : w.heap.size < w3.heap.size := by have := z3.out; omega
        go_wp2_with fail
        refine (CP.out _ T3.out).mono ?_
        rintro e w4 ⟨A3, c3, rfl, hc3, hN, hb⟩
        have B4 := Lib.hid (B3.out.trans (hb.mono z3.out))
        have T4 := Lib.hid (T3.out.later hb)
        have N4 := Lib.hid (N3.out.later hb)
        have z4 := Lib.hid (Nat.le_trans z3.out hb.size)
        clear hb
        clear hc hf hz0
        obtain ⟨hc, hf⟩ := old_cells B4.out
        have hz0 : w.heap.size < w4.heap.size := by have := z4.out; omega
        obtain ⟨b3, o3, rfl, hB3, h3⟩ := hN hpos
        have NP := Lib.hid h3
        have z3 : Hid (b3 < w4.heap.size) := Lib.hid hB3
        clear hN h3
        go_wp2_with fail
        go_loopw [13, 14] (fun u i wr => ∃ k j : Nat, 1 ≤ k ∧ k ≤ L.length ∧ i = .int .i64 k ∧ u = .int .i64 j ∧ j < L.length ∧ Hid (j = Ft.bestTo (Ft.spare l s b p) L (k - 1)) ∧ Below w4.heap.size w4 wr) (fun _ i _ => (L.length - intOf i).toNat)
        case atStart => exact ⟨1, 0, by omega, by omega, rfl, rfl, by omega, Lib.hid rfl, Below.refl _ _⟩
        case round =>
          clear hc hf hz0
          obtain ⟨k, j, hk1, hk, rfl, rfl, hjl, hj, hb⟩ := hrel
          have hcy := (hb.cell (p := ⟨b3, _, none⟩) hB3).trans (NP.out j hjl)
          have T9 := Lib.hid (T4.out.later hb)
          have N9 := Lib.hid (N4.out.later hb)
          have hbw := Lib.hid (B4.out.trans (hb.mono z4.out))
          obtain ⟨hc, hf⟩ := old_cells hbw.out
          have hz := hb.size
          have hz1 : w.heap.size < wr.heap.size := by have := z4.out; omega
          have hz3 : b3 < wr.heap.size := by omega
          have hk0 : (0 : Int) ≤ k := by omega
          have hj0 : (0 : Int) ≤ j := by omega
          have hjl2 : (j : Int) < L.length := by omega
          have hyb := HP.out j hjl
          by_cases hlt : k < L.length
          · have hkl : (k : Int) < L.length := by omega
            have hcx := (hb.cell (p := ⟨b3, _, none⟩) hB3).trans (NP.out k hlt)
            have hxb := HP.out k hlt
            obtain ⟨x, hx⟩ : ∃ x, L.getD k 0 = x := ⟨_, rfl⟩
            obtain ⟨y, hy⟩ : ∃ y, L.getD j 0 = y := ⟨_, rfl⟩
            have Hyes := Lib.hid (Ft.bestTo_yes (f := Ft.spare l s b p) (L := L) (k := k - 1) (x := x) (by rw [Nat.sub_add_cancel hk1]; exact hx))
            have Hno := Lib.hid (Ft.bestTo_no (f := Ft.spare l s b p) (L := L) (k := k - 1) (x := x) (by rw [Nat.sub_add_cancel hk1]; exact hx))
            rw [← hj.out, hy, Hsp.out, Hsp.out, Nat.sub_add_cancel hk1] at Hyes Hno
            rw [hx] at hcx hxb
            rw [hy] at hcy hyb
            clear hx hy
            have GX := Lib.hid (fun w => CG.out x w (by omega) (by omega))
            have GY := Lib.hid (fun w => CG.out y w (by omega) (by omega))
            have MX := Lib.hid (fun w => CN.out x w (by omega))
            have MY := Lib.hid (fun w => CN.out y w (by omega))
            have hnx := HnB.out x (by omega)
            have hny := HnB.out y (by omega)
            have hgx := HgB.out x (by omega)
            have hgy := HgB.out y (by omega)
            generalize Ft.needs l s x = nx at *
            generalize Ft.needs l s y = ny at *
            generalize Sp.give b p x = gx at *
            generalize Sp.give b p y = gy at *
            have E1 : Hid (IntKind.i64.wrap (gx - nx) = gx - nx) := Lib.hid (IntWalk.i64_in _ (by omega))
            have E2 : Hid (IntKind.i64.wrap (gy - ny) = gy - ny) := Lib.hid (IntWalk.i64_in _ (by omega))
            go_wp2_with fail
            have e1 := E1.out
            have e2 := E2.out
            refine wp_region_later wr.heap.size wr (by kernel_rfl) (by kernel_rfl) (Below.refl _ _) ?_
            repeat (go_big_quiet_step (first
              | (with_reducible exact Calls.later_same (MX.out _ (T9.out.later (Later.below _)) (N9.out.later (Later.below _))))
              | (with_reducible exact Calls.later_same (MY.out _ (T9.out.later (Later.below _)) (N9.out.later (Later.below _))))
              | ((with_reducible refine Calls.later ?_ (GX.out _)); exact Nat.le_refl _)
              | ((with_reducible refine Calls.later ?_ (GY.out _)); exact Nat.le_refl _)))
            refine wpQuiet_nil ?_
            rintro _ ⟨n1, rfl⟩
            have W5 := Lib.hid (hb.trans (n1.below.mono hz))
            clear e1 e2 hc hf hb hcx hcy
            by_cases h1 : gx - nx < gy - ny
            · go_wp2
              go_roundw
              case rel => exact ⟨k + 1, k, by omega, by omega, by go_num, rfl, hlt, Lib.hid (by rw [Nat.add_sub_cancel, Hyes.out h1]), W5.out⟩
              case measure => simp [intOf]; omega
            · go_wp2
              go_roundw
              case rel => exact ⟨k + 1, j, by omega, by omega, by go_num, rfl, hjl, Lib.hid (by rw [Nat.add_sub_cancel, Hno.out (by omega)]), W5.out⟩
              case measure => simp [intOf]; omega
          · have hke : j = j0 := by rw [hj.out, show k = L.length by omega, HJ.out]
            subst hke
            rw [HY.out] at hcy
            have E1 : Hid (IntKind.i64.wrap (g0 - n0) = g0 - n0) := Lib.hid (IntWalk.i64_in _ (by omega))
            have hyy : (y0 == y0) = true := by simp
            have hvv : (g0 - n0 == g0 - n0) = true := by simp
            go_wp2_with fail
            have e1 := E1.out
            refine wp_region_later wr.heap.size wr (by kernel_rfl) (by kernel_rfl) (Below.refl _ _) ?_
            repeat (go_big_quiet_step (first
              | (with_reducible exact Calls.later_same (M0.out _ (T9.out.later (Later.below _)) (N9.out.later (Later.below _))))
              | ((with_reducible refine Calls.later ?_ (G0.out _)); exact Nat.le_refl _)
              | ((with_reducible refine Calls.later ?_ (fawake_any _)); exact Nat.le_refl _)))
            refine wpQuiet_nil ?_
            rintro _ ⟨n1, rfl⟩
            have W5 := Lib.hid (hbw.out.trans (n1.below.mono (by omega)))
            clear e1 hc hf hb hcy
            go_wp2
            go_ret
            exact ⟨rfl, HB.out.trans (W5.out.mono (by omega))⟩
end Go.Proofs.Ytlpmcmgalodfeaa
