/-
  The law FitBudgets answers true: its walk out of the contracts.
-/
import Derived.Test.YtlpmcmgalodfeaaFWalksF
namespace Go.Proofs.Ytlpmcmgalodfeaa
open Go.ChangeShapes Go.WideShapes Go.ChangeAt Go.RowKit

theorem isNone_no {o : Option Int} (h : o.isSome = true) : o.isNone = false := by cases o <;> simp_all

set_option maxRecDepth 100000 in
set_option maxHeartbeats 4000000 in
theorem fbudgets_any (A : Option Addr) (n c : Nat) (l : List (Int × Int × Int)) (A2 : Option Addr) (m c2 : Nat) (s : List Int) (p t : Int) (w : World) (hln : l.length = n) (hL : Tks w.heap.size w A l) (hsm : s.length = m) (hS : NumsI w.heap.size w A2 s) (hm : m ≤ c2) :
    Calls Try.prog 5 #[.slice A n c, .slice A2 m c2, .int .i64 p, .int .i64 t] w fun e w' => e = .returned (.bool true) ∧ Below w.heap.size w w' := by
  have T0 := Lib.hid hL
  have N0 := Lib.hid hS
  have B0 : Hid (Below w.heap.size w w) := Lib.hid (Below.refl _ _)
  have z0 : Hid (w.heap.size ≤ w.heap.size) := Lib.hid (Nat.le_refl _)
  clear hL hS
  have CQ : Hid (∀ w : World, _) := fun w => few_any A n c A2 m c2 t w
  cases hq : fewB n m t with
  | false =>
    rw [hq] at CQ
    clear hq hln hsm
    go_enter Try.func5, Try.ntmps5
    go_wp2_with fail
    refine (CQ.out _).mono ?_
    rintro e ws ⟨rfl, rfl⟩
    go_wp2_with fail
    refine (fawake_any _).mono ?_
    rintro e w1 ⟨rfl, hb⟩
    have B1 := Lib.hid (B0.out.trans (hb.mono z0.out))
    have T1 := Lib.hid (T0.out.later hb)
    have N1 := Lib.hid (N0.out.later hb)
    have z1 := Lib.hid (Nat.le_trans z0.out hb.size)
    clear hb
    go_wp2
    go_ret
    exact ⟨rfl, B1.out⟩
  | true =>
    rw [hq] at CQ
    have hn12 : n ≤ 12 := by simp only [fewB, Bool.and_eq_true, decide_eq_true_eq] at hq; exact hq.1.1
    have CF : Hid (∀ w : World, Tks w.heap.size w A l → NumsI w.heap.size w A2 s → _) := fun w h h2 => budget_any A n c l A2 m c2 s p t w hln h hsm h2 hm
    have CS : Hid (∀ w : World, Tks w.heap.size w A l → NumsI w.heap.size w A2 s → _) := fun w h h2 => frright_any A n c l A2 m c2 s 1 p w hln h hsm h2 (by omega)
    clear hq
    cases ha : Ft.asks l s 1 p t with
    | false =>
      rw [show Ft.budN l s p t = 0 by simp [Ft.budN, ha], show Ft.budE l s p t = 1 by simp [Ft.budE, ha]] at CF
      cases hr : Ft.right l s 1 p with
      | false =>
        rw [hr] at CS
        clear ha hr hln hsm
        go_enter Try.func5, Try.ntmps5
        go_wp2_with fail
        refine (CQ.out _).mono ?_
        rintro e ws ⟨rfl, rfl⟩
        go_wp2_with fail
        refine (CF.out _ T0.out N0.out).mono ?_
        rintro e w1 ⟨rfl, hb⟩
        have B1 := Lib.hid (B0.out.trans (hb.mono z0.out))
        have T1 := Lib.hid (T0.out.later hb)
        have N1 := Lib.hid (N0.out.later hb)
        have z1 := Lib.hid (Nat.le_trans z0.out hb.size)
        clear hb
        go_wp2_with fail
        refine (CS.out _ T1.out N1.out).mono ?_
        rintro e w2 ⟨rfl, hb⟩
        have B2 := Lib.hid (B1.out.trans (hb.mono z1.out))
        have T2 := Lib.hid (T1.out.later hb)
        have N2 := Lib.hid (N1.out.later hb)
        have z2 := Lib.hid (Nat.le_trans z1.out hb.size)
        clear hb
        go_wp2_with fail
        refine (fawake_any _).mono ?_
        rintro e w3 ⟨rfl, hb⟩
        have B3 := Lib.hid (B2.out.trans (hb.mono z2.out))
        have T3 := Lib.hid (T2.out.later hb)
        have N3 := Lib.hid (N2.out.later hb)
        have z3 := Lib.hid (Nat.le_trans z2.out hb.size)
        clear hb
        go_wp2
        go_ret
        exact ⟨rfl, B3.out⟩
      | true =>
        have hcs : t < 0 ∨ (0 ≤ t ∧ 1048576 < t) := by
          rw [Ft.asks, hr, Bool.and_true] at ha
          have h1 : ¬ (0 ≤ t ∧ t ≤ 1048576) := fun h => by rw [Sp.asks_iff.2 h] at ha; cases ha
          omega
        rw [hr] at CS
        clear ha hr hln hsm
        rcases hcs with i1 | ⟨i1, i2⟩
        all_goals
          go_enter Try.func5, Try.ntmps5
          go_wp2_with fail
          refine (CQ.out _).mono ?_
          rintro e ws ⟨rfl, rfl⟩
          go_wp2_with fail
          refine (CF.out _ T0.out N0.out).mono ?_
          rintro e w1 ⟨rfl, hb⟩
          have B1 := Lib.hid (B0.out.trans (hb.mono z0.out))
          have T1 := Lib.hid (T0.out.later hb)
          have N1 := Lib.hid (N0.out.later hb)
          have z1 := Lib.hid (Nat.le_trans z0.out hb.size)
          clear hb
          go_wp2_with fail
          refine (CS.out _ T1.out N1.out).mono ?_
          rintro e w2 ⟨rfl, hb⟩
          have B2 := Lib.hid (B1.out.trans (hb.mono z1.out))
          have T2 := Lib.hid (T1.out.later hb)
          have N2 := Lib.hid (N1.out.later hb)
          have z2 := Lib.hid (Nat.le_trans z1.out hb.size)
          clear hb
          go_wp2_with fail
          refine (fawake_any _).mono ?_
          rintro e w3 ⟨rfl, hb⟩
          have B3 := Lib.hid (B2.out.trans (hb.mono z2.out))
          have T3 := Lib.hid (T2.out.later hb)
          have N3 := Lib.hid (N2.out.later hb)
          have z3 := Lib.hid (Nat.le_trans z2.out hb.size)
          clear hb
          go_wp2
          go_ret
          exact ⟨rfl, B3.out⟩
    | true =>
      obtain ⟨⟨ht0, ht1⟩, hall, hwi, hr⟩ := Ft.asks_iff.1 ha
      have Hall := Lib.hid hall
      have Hw := Lib.hid hwi
      obtain ⟨-, r2, r3⟩ := Sp.right_iff.1 hr
      rw [Ft.right_iff.2 ⟨hall, hwi, hr⟩] at CS
      have CK : Hid (∀ (b : Int) (w : World), 0 ≤ b → b ≤ 1048576 → Tks w.heap.size w A l → NumsI w.heap.size w A2 s → _) := fun b w h0 h1 h h2 => lkeeps_any A n c l A2 m c2 s b p t w hln h hsm h2 Hall Hw h0 h1 r2 r3 ht0 ht1
      cases hok : Ft.budOk l s p t with
      | false =>
        have hno := isNone_no (Ft.bud_no hall hwi hr ⟨ht0, ht1⟩ hok)
        have CP := Lib.hid (fun w => CK.out p w (by omega) r3)
        rw [hno] at CP
        rw [show Ft.budN l s p t = 0 by simp [Ft.budN, hok], show Ft.budE l s p t = 24 by simp [Ft.budE, ha, hok]] at CF
        clear ha hok hall hwi hr hln hsm hno CK
        go_enter Try.func5, Try.ntmps5
        go_wp2_with fail
        refine (CQ.out _).mono ?_
        rintro e ws ⟨rfl, rfl⟩
        go_wp2_with fail
        refine (CF.out _ T0.out N0.out).mono ?_
        rintro e w1 ⟨rfl, hb⟩
        have B1 := Lib.hid (B0.out.trans (hb.mono z0.out))
        have T1 := Lib.hid (T0.out.later hb)
        have N1 := Lib.hid (N0.out.later hb)
        have z1 := Lib.hid (Nat.le_trans z0.out hb.size)
        clear hb
        go_wp2_with fail
        refine (CS.out _ T1.out N1.out).mono ?_
        rintro e w2 ⟨rfl, hb⟩
        have B2 := Lib.hid (B1.out.trans (hb.mono z1.out))
        have T2 := Lib.hid (T1.out.later hb)
        have N2 := Lib.hid (N1.out.later hb)
        have z2 := Lib.hid (Nat.le_trans z1.out hb.size)
        clear hb
        go_wp2_with fail
        refine (CP.out _ T2.out N2.out).mono ?_
        rintro e w3 ⟨rfl, hb⟩
        have B3 := Lib.hid (B2.out.trans (hb.mono z2.out))
        have T3 := Lib.hid (T2.out.later hb)
        have N3 := Lib.hid (N2.out.later hb)
        have z3 := Lib.hid (Nat.le_trans z2.out hb.size)
        clear hb
        go_wp2_with fail
        refine (fawake_any _).mono ?_
        rintro e w4 ⟨rfl, hb⟩
        have B4 := Lib.hid (B3.out.trans (hb.mono z3.out))
        have T4 := Lib.hid (T3.out.later hb)
        have N4 := Lib.hid (N3.out.later hb)
        have z4 := Lib.hid (Nat.le_trans z3.out hb.size)
        clear hb
        go_wp2
        go_ret
        exact ⟨rfl, B4.out⟩
      | true =>
        obtain ⟨y1, y2, y3, y4, y5⟩ := Ft.bud_yes hr hok
        rw [show Ft.budN l s p t = Ft.bud l s p t by simp [Ft.budN, ha, hok], show Ft.budE l s p t = 0 by simp [Ft.budE, ha, hok]] at CF
        generalize Ft.bud l s p t = y at *
        have CP := Lib.hid (fun w => CK.out p w (by omega) r3)
        have CB := Lib.hid (fun w => CK.out y w (by omega) (by omega))
        rw [y3] at CB
        rw [y4] at CP
        by_cases h1 : y = 1
        · subst h1
          clear ha hok hall hwi hr hln hsm y1 y2 y3 y4 y5 CK
          go_enter Try.func5, Try.ntmps5
          go_wp2_with fail
          refine (CQ.out _).mono ?_
          rintro e ws ⟨rfl, rfl⟩
          go_wp2_with fail
          refine (CF.out _ T0.out N0.out).mono ?_
          rintro e w1 ⟨rfl, hb⟩
          have B1 := Lib.hid (B0.out.trans (hb.mono z0.out))
          have T1 := Lib.hid (T0.out.later hb)
          have N1 := Lib.hid (N0.out.later hb)
          have z1 := Lib.hid (Nat.le_trans z0.out hb.size)
          clear hb
          go_wp2_with fail
          refine (CS.out _ T1.out N1.out).mono ?_
          rintro e w2 ⟨rfl, hb⟩
          have B2 := Lib.hid (B1.out.trans (hb.mono z1.out))
          have T2 := Lib.hid (T1.out.later hb)
          have N2 := Lib.hid (N1.out.later hb)
          have z2 := Lib.hid (Nat.le_trans z1.out hb.size)
          clear hb
          go_wp2_with fail
          refine (CB.out _ T2.out N2.out).mono ?_
          rintro e w3 ⟨rfl, hb⟩
          have B3 := Lib.hid (B2.out.trans (hb.mono z2.out))
          have T3 := Lib.hid (T2.out.later hb)
          have N3 := Lib.hid (N2.out.later hb)
          have z3 := Lib.hid (Nat.le_trans z2.out hb.size)
          clear hb
          go_wp2_with fail
          refine (CP.out _ T3.out N3.out).mono ?_
          rintro e w4 ⟨rfl, hb⟩
          have B4 := Lib.hid (B3.out.trans (hb.mono z3.out))
          have T4 := Lib.hid (T3.out.later hb)
          have N4 := Lib.hid (N3.out.later hb)
          have z4 := Lib.hid (Nat.le_trans z3.out hb.size)
          clear hb
          go_wp2_with fail
          refine (fawake_any _).mono ?_
          rintro e w5 ⟨rfl, hb⟩
          have B5 := Lib.hid (B4.out.trans (hb.mono z4.out))
          have T5 := Lib.hid (T4.out.later hb)
          have N5 := Lib.hid (N4.out.later hb)
          have z5 := Lib.hid (Nat.le_trans z4.out hb.size)
          clear hb
          go_wp2
          go_ret
          exact ⟨rfl, B5.out⟩
        · have hno := isNone_no (y5 h1)
          have CD := Lib.hid (fun w => CK.out (y - 1) w (by omega) (by omega))
          rw [hno] at CD
          have hb1 : (y == 1) = false := by simp [h1]
          clear ha hok hall hwi hr hln hsm y3 y4 y5 CK hno h1
          go_enter Try.func5, Try.ntmps5
          go_wp2_with fail
          refine (CQ.out _).mono ?_
          rintro e ws ⟨rfl, rfl⟩
          go_wp2_with fail
          refine (CF.out _ T0.out N0.out).mono ?_
          rintro e w1 ⟨rfl, hb⟩
          have B1 := Lib.hid (B0.out.trans (hb.mono z0.out))
          have T1 := Lib.hid (T0.out.later hb)
          have N1 := Lib.hid (N0.out.later hb)
          have z1 := Lib.hid (Nat.le_trans z0.out hb.size)
          clear hb
          go_wp2_with fail
          refine (CS.out _ T1.out N1.out).mono ?_
          rintro e w2 ⟨rfl, hb⟩
          have B2 := Lib.hid (B1.out.trans (hb.mono z1.out))
          have T2 := Lib.hid (T1.out.later hb)
          have N2 := Lib.hid (N1.out.later hb)
          have z2 := Lib.hid (Nat.le_trans z1.out hb.size)
          clear hb
          go_wp2_with fail
          refine (CB.out _ T2.out N2.out).mono ?_
          rintro e w3 ⟨rfl, hb⟩
          have B3 := Lib.hid (B2.out.trans (hb.mono z2.out))
          have T3 := Lib.hid (T2.out.later hb)
          have N3 := Lib.hid (N2.out.later hb)
          have z3 := Lib.hid (Nat.le_trans z2.out hb.size)
          clear hb
          go_wp2_with fail
          refine (CP.out _ T3.out N3.out).mono ?_
          rintro e w4 ⟨rfl, hb⟩
          have B4 := Lib.hid (B3.out.trans (hb.mono z3.out))
          have T4 := Lib.hid (T3.out.later hb)
          have N4 := Lib.hid (N3.out.later hb)
          have z4 := Lib.hid (Nat.le_trans z3.out hb.size)
          clear hb
          go_wp2_with fail
          refine (CD.out _ T4.out N4.out).mono ?_
          rintro e w5 ⟨rfl, hb⟩
          have B5 := Lib.hid (B4.out.trans (hb.mono z4.out))
          have T5 := Lib.hid (T4.out.later hb)
          have N5 := Lib.hid (N4.out.later hb)
          have z5 := Lib.hid (Nat.le_trans z4.out hb.size)
          clear hb
          go_wp2_with fail
          refine (fawake_any _).mono ?_
          rintro e w6 ⟨rfl, hb⟩
          have B6 := Lib.hid (B5.out.trans (hb.mono z5.out))
          have T6 := Lib.hid (T5.out.later hb)
          have N6 := Lib.hid (N5.out.later hb)
          have z6 := Lib.hid (Nat.le_trans z5.out hb.size)
          clear hb
          go_wp2
          go_ret
          exact ⟨rfl, B6.out⟩
end Go.Proofs.Ytlpmcmgalodfeaa
