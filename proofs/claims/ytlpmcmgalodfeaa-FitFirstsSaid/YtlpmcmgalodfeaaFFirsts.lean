/-
  The law FitFirsts answers true: its walk out of the contracts.
-/
import Derived.Test.YtlpmcmgalodfeaaFWalksD
namespace Go.Proofs.Ytlpmcmgalodfeaa
open Go.ChangeShapes Go.WideShapes Go.ChangeAt Go.RowKit

set_option maxRecDepth 100000 in
set_option maxHeartbeats 4000000 in
theorem ffirsts_any (A : Option Addr) (n c : Nat) (l : List (Int × Int × Int)) (A2 : Option Addr) (m c2 : Nat) (s : List Int) (b p t : Int) (w : World) (hln : l.length = n) (hL : Tks w.heap.size w A l) (hsm : s.length = m) (hS : NumsI w.heap.size w A2 s) (hm : m ≤ c2) :
    Calls Try.prog 3 #[.slice A n c, .slice A2 m c2, .agg #[.int .i64 b, .int .i64 p], .int .i64 t] w fun e w' => e = .returned (.bool true) ∧ Below w.heap.size w w' := by
  have hbox : Below w.heap.size w (w.alloc (.cells #[.int .i64 b, .int .i64 p] 25)) := by go_grown
  have HB := Lib.hid hbox
  have T0 := Lib.hid (hL.later hbox)
  have N0 := Lib.hid (hS.later hbox)
  have B0 : Hid (Below (w.heap.size + 1) (w.alloc (.cells #[.int .i64 b, .int .i64 p] 25)) (w.alloc (.cells #[.int .i64 b, .int .i64 p] 25))) := Lib.hid (Below.refl _ _)
  have z0 : Hid (w.heap.size + 1 ≤ (w.alloc (.cells #[.int .i64 b, .int .i64 p] 25)).heap.size) := Lib.hid (by simp)
  clear hbox hL hS
  have CQ : Hid (∀ w : World, _) := fun w => few_any A n c A2 m c2 t w
  cases hq : fewB n m t with
  | false =>
    rw [hq] at CQ
    clear hq hln hsm
    go_enter Try.func3, Try.ntmps3
    go_wp2_with fail
    refine (CQ.out _).mono ?_
    rintro e ws ⟨rfl, rfl⟩
    go_wp2_with fail
    refine (fawake_any _).mono ?_
    rintro e w1 ⟨rfl, hb⟩
    have B1 := Lib.hid (B0.out.trans (hb.mono z0.out))
    have T1 := Lib.hid (T0.out.later hb)
    have N1 := Lib.hid (N0.out.later hb)
    have z1 := Lib.hid (Nat.le_trans z0.out hb.size)
    clear hb
    obtain ⟨hc, hf⟩ := old_cells B1.out
    have hz : w.heap.size < w1.heap.size := by have := z1.out; omega
    go_wp2
    go_ret
    exact ⟨rfl, HB.out.trans (B1.out.mono (by omega))⟩
  | true =>
    rw [hq] at CQ
    have hn12 : n ≤ 12 := by simp only [fewB, Bool.and_eq_true, decide_eq_true_eq] at hq; exact hq.1.1
    have CF : Hid (∀ w : World, Tks w.heap.size w A l → NumsI w.heap.size w A2 s → _) := fun w h h2 => first_any A n c l A2 m c2 s b p t w hln h hsm h2 hm
    have CK : Hid (∀ w : World, Tks w.heap.size w A l → NumsI w.heap.size w A2 s → _) := fun w h h2 => keeps_any A n c l A2 m c2 s b p t w hln h hsm h2 hm
    have CR : Hid (∀ w : World, Tks w.heap.size w A l → NumsI w.heap.size w A2 s → _) := fun w h h2 => fright_any A n c l A2 m c2 s b p w hln h hsm h2
    have CS : Hid (∀ w : World, Tks w.heap.size w A l → NumsI w.heap.size w A2 s → _) := fun w h h2 => frright_any A n c l A2 m c2 s b p w hln h hsm h2 (by omega)
    clear hq
    cases ha : Ft.asks l s b p t with
    | false =>
      rw [show Ft.firstN l s b p t = 0 by simp [Ft.firstN, ha], show Ft.firstB l s b p t = false by simp [Ft.firstB, ha], show Ft.firstE l s b p t = 1 by simp [Ft.firstE, ha]] at CF
      rw [show Ft.keeps l s b p t = false by simp [Ft.keeps, ha]] at CK
      cases hr : Ft.right l s b p with
      | false =>
        rw [hr] at CR CS
        clear ha hr hln hsm
        go_enter Try.func3, Try.ntmps3
        go_wp2_with fail
        refine (CQ.out _).mono ?_
        rintro e ws ⟨rfl, rfl⟩
        go_wp2_with fail
        refine (fto_any b p _).mono ?_
        rintro e w1 ⟨rfl, hb⟩
        have B1 := Lib.hid (B0.out.trans (hb.mono z0.out))
        have T1 := Lib.hid (T0.out.later hb)
        have N1 := Lib.hid (N0.out.later hb)
        have z1 := Lib.hid (Nat.le_trans z0.out hb.size)
        clear hb
        obtain ⟨hc, hf⟩ := old_cells B1.out
        have hz : w.heap.size < w1.heap.size := by have := z1.out; omega
        go_wp2_with fail
        refine (CF.out _ T1.out N1.out).mono ?_
        rintro e w2 ⟨rfl, hb⟩
        have B2 := Lib.hid (B1.out.trans (hb.mono z1.out))
        have T2 := Lib.hid (T1.out.later hb)
        have N2 := Lib.hid (N1.out.later hb)
        have z2 := Lib.hid (Nat.le_trans z1.out hb.size)
        clear hb hc hf hz
        obtain ⟨hc, hf⟩ := old_cells B2.out
        have hz : w.heap.size < w2.heap.size := by have := z2.out; omega
        go_wp2_with fail
        refine (CS.out _ T2.out N2.out).mono ?_
        rintro e w3 ⟨rfl, hb⟩
        have B3 := Lib.hid (B2.out.trans (hb.mono z2.out))
        have T3 := Lib.hid (T2.out.later hb)
        have N3 := Lib.hid (N2.out.later hb)
        have z3 := Lib.hid (Nat.le_trans z2.out hb.size)
        clear hb hc hf hz
        obtain ⟨hc, hf⟩ := old_cells B3.out
        have hz : w.heap.size < w3.heap.size := by have := z3.out; omega
        go_wp2_with fail
        refine (fto_any b p _).mono ?_
        rintro e w4 ⟨rfl, hb⟩
        have B4 := Lib.hid (B3.out.trans (hb.mono z3.out))
        have T4 := Lib.hid (T3.out.later hb)
        have N4 := Lib.hid (N3.out.later hb)
        have z4 := Lib.hid (Nat.le_trans z3.out hb.size)
        clear hb hc hf hz
        obtain ⟨hc, hf⟩ := old_cells B4.out
        have hz : w.heap.size < w4.heap.size := by have := z4.out; omega
        go_wp2_with fail
        refine (CR.out _ T4.out N4.out).mono ?_
        rintro e w5 ⟨rfl, hb⟩
        have B5 := Lib.hid (B4.out.trans (hb.mono z4.out))
        have T5 := Lib.hid (T4.out.later hb)
        have N5 := Lib.hid (N4.out.later hb)
        have z5 := Lib.hid (Nat.le_trans z4.out hb.size)
        clear hb hc hf hz
        obtain ⟨hc, hf⟩ := old_cells B5.out
        have hz : w.heap.size < w5.heap.size := by have := z5.out; omega
        go_wp2_with fail
        refine (fto_any b p _).mono ?_
        rintro e w6 ⟨rfl, hb⟩
        have B6 := Lib.hid (B5.out.trans (hb.mono z5.out))
        have T6 := Lib.hid (T5.out.later hb)
        have N6 := Lib.hid (N5.out.later hb)
        have z6 := Lib.hid (Nat.le_trans z5.out hb.size)
        clear hb hc hf hz
        obtain ⟨hc, hf⟩ := old_cells B6.out
        have hz : w.heap.size < w6.heap.size := by have := z6.out; omega
        go_wp2_with fail
        refine (CK.out _ T6.out N6.out).mono ?_
        rintro e w7 ⟨rfl, hb⟩
        have B7 := Lib.hid (B6.out.trans (hb.mono z6.out))
        have T7 := Lib.hid (T6.out.later hb)
        have N7 := Lib.hid (N6.out.later hb)
        have z7 := Lib.hid (Nat.le_trans z6.out hb.size)
        clear hb hc hf hz
        obtain ⟨hc, hf⟩ := old_cells B7.out
        have hz : w.heap.size < w7.heap.size := by have := z7.out; omega
        go_wp2_with fail
        refine (fawake_any _).mono ?_
        rintro e w8 ⟨rfl, hb⟩
        have B8 := Lib.hid (B7.out.trans (hb.mono z7.out))
        have T8 := Lib.hid (T7.out.later hb)
        have N8 := Lib.hid (N7.out.later hb)
        have z8 := Lib.hid (Nat.le_trans z7.out hb.size)
        clear hb hc hf hz
        obtain ⟨hc, hf⟩ := old_cells B8.out
        have hz : w.heap.size < w8.heap.size := by have := z8.out; omega
        go_wp2
        go_ret
        exact ⟨rfl, HB.out.trans (B8.out.mono (by omega))⟩
      | true =>
        have hcs : t < 0 ∨ (0 ≤ t ∧ 1048576 < t) := by
          rw [Ft.asks, hr, Bool.and_true] at ha
          have h1 : ¬ (0 ≤ t ∧ t ≤ 1048576) := fun h => by rw [Sp.asks_iff.2 h] at ha; cases ha
          omega
        rw [hr] at CR CS
        clear ha hr hln hsm
        rcases hcs with i1 | ⟨i1, i2⟩
        all_goals
          go_enter Try.func3, Try.ntmps3
          go_wp2_with fail
          refine (CQ.out _).mono ?_
          rintro e ws ⟨rfl, rfl⟩
          go_wp2_with fail
          refine (fto_any b p _).mono ?_
          rintro e w1 ⟨rfl, hb⟩
          have B1 := Lib.hid (B0.out.trans (hb.mono z0.out))
          have T1 := Lib.hid (T0.out.later hb)
          have N1 := Lib.hid (N0.out.later hb)
          have z1 := Lib.hid (Nat.le_trans z0.out hb.size)
          clear hb
          obtain ⟨hc, hf⟩ := old_cells B1.out
          have hz : w.heap.size < w1.heap.size := by have := z1.out; omega
          go_wp2_with fail
          refine (CF.out _ T1.out N1.out).mono ?_
          rintro e w2 ⟨rfl, hb⟩
          have B2 := Lib.hid (B1.out.trans (hb.mono z1.out))
          have T2 := Lib.hid (T1.out.later hb)
          have N2 := Lib.hid (N1.out.later hb)
          have z2 := Lib.hid (Nat.le_trans z1.out hb.size)
          clear hb hc hf hz
          obtain ⟨hc, hf⟩ := old_cells B2.out
          have hz : w.heap.size < w2.heap.size := by have := z2.out; omega
          go_wp2_with fail
          refine (CS.out _ T2.out N2.out).mono ?_
          rintro e w3 ⟨rfl, hb⟩
          have B3 := Lib.hid (B2.out.trans (hb.mono z2.out))
          have T3 := Lib.hid (T2.out.later hb)
          have N3 := Lib.hid (N2.out.later hb)
          have z3 := Lib.hid (Nat.le_trans z2.out hb.size)
          clear hb hc hf hz
          obtain ⟨hc, hf⟩ := old_cells B3.out
          have hz : w.heap.size < w3.heap.size := by have := z3.out; omega
          go_wp2_with fail
          refine (fto_any b p _).mono ?_
          rintro e w4 ⟨rfl, hb⟩
          have B4 := Lib.hid (B3.out.trans (hb.mono z3.out))
          have T4 := Lib.hid (T3.out.later hb)
          have N4 := Lib.hid (N3.out.later hb)
          have z4 := Lib.hid (Nat.le_trans z3.out hb.size)
          clear hb hc hf hz
          obtain ⟨hc, hf⟩ := old_cells B4.out
          have hz : w.heap.size < w4.heap.size := by have := z4.out; omega
          go_wp2_with fail
          refine (CR.out _ T4.out N4.out).mono ?_
          rintro e w5 ⟨rfl, hb⟩
          have B5 := Lib.hid (B4.out.trans (hb.mono z4.out))
          have T5 := Lib.hid (T4.out.later hb)
          have N5 := Lib.hid (N4.out.later hb)
          have z5 := Lib.hid (Nat.le_trans z4.out hb.size)
          clear hb hc hf hz
          obtain ⟨hc, hf⟩ := old_cells B5.out
          have hz : w.heap.size < w5.heap.size := by have := z5.out; omega
          go_wp2_with fail
          refine (fto_any b p _).mono ?_
          rintro e w6 ⟨rfl, hb⟩
          have B6 := Lib.hid (B5.out.trans (hb.mono z5.out))
          have T6 := Lib.hid (T5.out.later hb)
          have N6 := Lib.hid (N5.out.later hb)
          have z6 := Lib.hid (Nat.le_trans z5.out hb.size)
          clear hb hc hf hz
          obtain ⟨hc, hf⟩ := old_cells B6.out
          have hz : w.heap.size < w6.heap.size := by have := z6.out; omega
          go_wp2_with fail
          refine (CK.out _ T6.out N6.out).mono ?_
          rintro e w7 ⟨rfl, hb⟩
          have B7 := Lib.hid (B6.out.trans (hb.mono z6.out))
          have T7 := Lib.hid (T6.out.later hb)
          have N7 := Lib.hid (N6.out.later hb)
          have z7 := Lib.hid (Nat.le_trans z6.out hb.size)
          clear hb hc hf hz
          obtain ⟨hc, hf⟩ := old_cells B7.out
          have hz : w.heap.size < w7.heap.size := by have := z7.out; omega
          go_wp2_with fail
          refine (fawake_any _).mono ?_
          rintro e w8 ⟨rfl, hb⟩
          have B8 := Lib.hid (B7.out.trans (hb.mono z7.out))
          have T8 := Lib.hid (T7.out.later hb)
          have N8 := Lib.hid (N7.out.later hb)
          have z8 := Lib.hid (Nat.le_trans z7.out hb.size)
          clear hb hc hf hz
          obtain ⟨hc, hf⟩ := old_cells B8.out
          have hz : w.heap.size < w8.heap.size := by have := z8.out; omega
          go_wp2
          go_ret
          exact ⟨rfl, HB.out.trans (B8.out.mono (by omega))⟩
    | true =>
      obtain ⟨⟨ht0, ht1⟩, hall, hwi, hr⟩ := Ft.asks_iff.1 ha
      have Hall := Lib.hid hall
      have Hw := Lib.hid hwi
      obtain ⟨r1, r2, r3⟩ := Sp.right_iff.1 hr
      rw [Ft.right_iff.2 ⟨hall, hwi, hr⟩] at CR CS
      have CI : Hid (∀ w : World, Tks w.heap.size w A l → NumsI w.heap.size w A2 s → _) := fun w h h2 => rfirst_any A n c l A2 m c2 s b p t w hln h hsm h2 Hall Hw (by omega) (by omega) (by omega) r3 ht0 ht1
      have CH : Hid (∀ w : World, Tks w.heap.size w A l → NumsI w.heap.size w A2 s → _) := fun w h h2 => held_any A n c l A2 m c2 s t w hln h hsm h2 hm Hall Hw
      have CG : Hid (∀ w : World, Tks w.heap.size w A l → NumsI w.heap.size w A2 s → _) := fun w h h2 => rheld_any A n c l A2 m c2 s t w hln h hsm h2 Hall Hw
      generalize Ft.held l s t = x at *
      cases hf : Ft.first l s b p t with
      | none =>
        rw [show Ft.firstN l s b p t = 0 by simp [Ft.firstN, ha, hf], show Ft.firstB l s b p t = false by simp [Ft.firstB, ha, hf], show Ft.firstE l s b p t = 0 by simp [Ft.firstE, ha]] at CF
        rw [show Ft.keeps l s b p t = true by simp [Ft.keeps, ha, hf]] at CK
        rw [show Ft.firstI l s b p t = -1 by simp [Ft.firstI, hf]] at CI
        clear ha hf hall hwi hr hln hsm
        go_enter Try.func3, Try.ntmps3
        go_wp2_with fail
        refine (CQ.out _).mono ?_
        rintro e ws ⟨rfl, rfl⟩
        go_wp2_with fail
        refine (fto_any b p _).mono ?_
        rintro e w1 ⟨rfl, hb⟩
        have B1 := Lib.hid (B0.out.trans (hb.mono z0.out))
        have T1 := Lib.hid (T0.out.later hb)
        have N1 := Lib.hid (N0.out.later hb)
        have z1 := Lib.hid (Nat.le_trans z0.out hb.size)
        clear hb
        obtain ⟨hc, hf⟩ := old_cells B1.out
        have hz : w.heap.size < w1.heap.size := by have := z1.out; omega
        go_wp2_with fail
        refine (CF.out _ T1.out N1.out).mono ?_
        rintro e w2 ⟨rfl, hb⟩
        have B2 := Lib.hid (B1.out.trans (hb.mono z1.out))
        have T2 := Lib.hid (T1.out.later hb)
        have N2 := Lib.hid (N1.out.later hb)
        have z2 := Lib.hid (Nat.le_trans z1.out hb.size)
        clear hb hc hf hz
        obtain ⟨hc, hf⟩ := old_cells B2.out
        have hz : w.heap.size < w2.heap.size := by have := z2.out; omega
        go_wp2_with fail
        refine (CS.out _ T2.out N2.out).mono ?_
        rintro e w3 ⟨rfl, hb⟩
        have B3 := Lib.hid (B2.out.trans (hb.mono z2.out))
        have T3 := Lib.hid (T2.out.later hb)
        have N3 := Lib.hid (N2.out.later hb)
        have z3 := Lib.hid (Nat.le_trans z2.out hb.size)
        clear hb hc hf hz
        obtain ⟨hc, hf⟩ := old_cells B3.out
        have hz : w.heap.size < w3.heap.size := by have := z3.out; omega
        go_wp2_with fail
        refine (fto_any b p _).mono ?_
        rintro e w4 ⟨rfl, hb⟩
        have B4 := Lib.hid (B3.out.trans (hb.mono z3.out))
        have T4 := Lib.hid (T3.out.later hb)
        have N4 := Lib.hid (N3.out.later hb)
        have z4 := Lib.hid (Nat.le_trans z3.out hb.size)
        clear hb hc hf hz
        obtain ⟨hc, hf⟩ := old_cells B4.out
        have hz : w.heap.size < w4.heap.size := by have := z4.out; omega
        go_wp2_with fail
        refine (CR.out _ T4.out N4.out).mono ?_
        rintro e w5 ⟨rfl, hb⟩
        have B5 := Lib.hid (B4.out.trans (hb.mono z4.out))
        have T5 := Lib.hid (T4.out.later hb)
        have N5 := Lib.hid (N4.out.later hb)
        have z5 := Lib.hid (Nat.le_trans z4.out hb.size)
        clear hb hc hf hz
        obtain ⟨hc, hf⟩ := old_cells B5.out
        have hz : w.heap.size < w5.heap.size := by have := z5.out; omega
        go_wp2_with fail
        refine (CI.out _ T5.out N5.out).mono ?_
        rintro e w6 ⟨rfl, hb⟩
        have B6 := Lib.hid (B5.out.trans (hb.mono z5.out))
        have T6 := Lib.hid (T5.out.later hb)
        have N6 := Lib.hid (N5.out.later hb)
        have z6 := Lib.hid (Nat.le_trans z5.out hb.size)
        clear hb hc hf hz
        obtain ⟨hc, hf⟩ := old_cells B6.out
        have hz : w.heap.size < w6.heap.size := by have := z6.out; omega
        go_wp2_with fail
        refine (fto_any b p _).mono ?_
        rintro e w7 ⟨rfl, hb⟩
        have B7 := Lib.hid (B6.out.trans (hb.mono z6.out))
        have T7 := Lib.hid (T6.out.later hb)
        have N7 := Lib.hid (N6.out.later hb)
        have z7 := Lib.hid (Nat.le_trans z6.out hb.size)
        clear hb hc hf hz
        obtain ⟨hc, hf⟩ := old_cells B7.out
        have hz : w.heap.size < w7.heap.size := by have := z7.out; omega
        go_wp2_with fail
        refine (CK.out _ T7.out N7.out).mono ?_
        rintro e w8 ⟨rfl, hb⟩
        have B8 := Lib.hid (B7.out.trans (hb.mono z7.out))
        have T8 := Lib.hid (T7.out.later hb)
        have N8 := Lib.hid (N7.out.later hb)
        have z8 := Lib.hid (Nat.le_trans z7.out hb.size)
        clear hb hc hf hz
        obtain ⟨hc, hf⟩ := old_cells B8.out
        have hz : w.heap.size < w8.heap.size := by have := z8.out; omega
        go_wp2_with fail
        refine (CH.out _ T8.out N8.out).mono ?_
        rintro e ws ⟨rfl, rfl⟩
        go_wp2_with fail
        refine (CG.out _ T8.out N8.out).mono ?_
        rintro e ws ⟨rfl, rfl⟩
        go_wp2_with fail
        refine (fawake_any _).mono ?_
        rintro e w9 ⟨rfl, hb⟩
        have B9 := Lib.hid (B8.out.trans (hb.mono z8.out))
        have T9 := Lib.hid (T8.out.later hb)
        have N9 := Lib.hid (N8.out.later hb)
        have z9 := Lib.hid (Nat.le_trans z8.out hb.size)
        clear hb hc hf hz
        obtain ⟨hc, hf⟩ := old_cells B9.out
        have hz : w.heap.size < w9.heap.size := by have := z9.out; omega
        go_wp2
        go_ret
        exact ⟨rfl, HB.out.trans (B9.out.mono (by omega))⟩
      | some y =>
        have hy := Tk.pts_bd (Tk.all_mem hall) y (List.mem_of_find?_eq_some hf)
        rw [show Ft.firstN l s b p t = y by simp [Ft.firstN, ha, hf], show Ft.firstB l s b p t = true by simp [Ft.firstB, ha, hf], show Ft.firstE l s b p t = 0 by simp [Ft.firstE, ha]] at CF
        rw [show Ft.keeps l s b p t = false by simp [Ft.keeps, ha, hf]] at CK
        rw [show Ft.firstI l s b p t = y by simp [Ft.firstI, hf]] at CI
        have hd0 : decide (y < 0) = false := by simp; omega
        clear ha hf hall hwi hr hln hsm
        go_enter Try.func3, Try.ntmps3
        go_wp2_with fail
        refine (CQ.out _).mono ?_
        rintro e ws ⟨rfl, rfl⟩
        go_wp2_with fail
        refine (fto_any b p _).mono ?_
        rintro e w1 ⟨rfl, hb⟩
        have B1 := Lib.hid (B0.out.trans (hb.mono z0.out))
        have T1 := Lib.hid (T0.out.later hb)
        have N1 := Lib.hid (N0.out.later hb)
        have z1 := Lib.hid (Nat.le_trans z0.out hb.size)
        clear hb
        obtain ⟨hc, hf⟩ := old_cells B1.out
        have hz : w.heap.size < w1.heap.size := by have := z1.out; omega
        go_wp2_with fail
        refine (CF.out _ T1.out N1.out).mono ?_
        rintro e w2 ⟨rfl, hb⟩
        have B2 := Lib.hid (B1.out.trans (hb.mono z1.out))
        have T2 := Lib.hid (T1.out.later hb)
        have N2 := Lib.hid (N1.out.later hb)
        have z2 := Lib.hid (Nat.le_trans z1.out hb.size)
        clear hb hc hf hz
        obtain ⟨hc, hf⟩ := old_cells B2.out
        have hz : w.heap.size < w2.heap.size := by have := z2.out; omega
        go_wp2_with fail
        refine (CS.out _ T2.out N2.out).mono ?_
        rintro e w3 ⟨rfl, hb⟩
        have B3 := Lib.hid (B2.out.trans (hb.mono z2.out))
        have T3 := Lib.hid (T2.out.later hb)
        have N3 := Lib.hid (N2.out.later hb)
        have z3 := Lib.hid (Nat.le_trans z2.out hb.size)
        clear hb hc hf hz
        obtain ⟨hc, hf⟩ := old_cells B3.out
        have hz : w.heap.size < w3.heap.size := by have := z3.out; omega
        go_wp2_with fail
        refine (fto_any b p _).mono ?_
        rintro e w4 ⟨rfl, hb⟩
        have B4 := Lib.hid (B3.out.trans (hb.mono z3.out))
        have T4 := Lib.hid (T3.out.later hb)
        have N4 := Lib.hid (N3.out.later hb)
        have z4 := Lib.hid (Nat.le_trans z3.out hb.size)
        clear hb hc hf hz
        obtain ⟨hc, hf⟩ := old_cells B4.out
        have hz : w.heap.size < w4.heap.size := by have := z4.out; omega
        go_wp2_with fail
        refine (CR.out _ T4.out N4.out).mono ?_
        rintro e w5 ⟨rfl, hb⟩
        have B5 := Lib.hid (B4.out.trans (hb.mono z4.out))
        have T5 := Lib.hid (T4.out.later hb)
        have N5 := Lib.hid (N4.out.later hb)
        have z5 := Lib.hid (Nat.le_trans z4.out hb.size)
        clear hb hc hf hz
        obtain ⟨hc, hf⟩ := old_cells B5.out
        have hz : w.heap.size < w5.heap.size := by have := z5.out; omega
        go_wp2_with fail
        refine (CI.out _ T5.out N5.out).mono ?_
        rintro e w6 ⟨rfl, hb⟩
        have B6 := Lib.hid (B5.out.trans (hb.mono z5.out))
        have T6 := Lib.hid (T5.out.later hb)
        have N6 := Lib.hid (N5.out.later hb)
        have z6 := Lib.hid (Nat.le_trans z5.out hb.size)
        clear hb hc hf hz
        obtain ⟨hc, hf⟩ := old_cells B6.out
        have hz : w.heap.size < w6.heap.size := by have := z6.out; omega
        go_wp2_with fail
        refine (fto_any b p _).mono ?_
        rintro e w7 ⟨rfl, hb⟩
        have B7 := Lib.hid (B6.out.trans (hb.mono z6.out))
        have T7 := Lib.hid (T6.out.later hb)
        have N7 := Lib.hid (N6.out.later hb)
        have z7 := Lib.hid (Nat.le_trans z6.out hb.size)
        clear hb hc hf hz
        obtain ⟨hc, hf⟩ := old_cells B7.out
        have hz : w.heap.size < w7.heap.size := by have := z7.out; omega
        go_wp2_with fail
        refine (CK.out _ T7.out N7.out).mono ?_
        rintro e w8 ⟨rfl, hb⟩
        have B8 := Lib.hid (B7.out.trans (hb.mono z7.out))
        have T8 := Lib.hid (T7.out.later hb)
        have N8 := Lib.hid (N7.out.later hb)
        have z8 := Lib.hid (Nat.le_trans z7.out hb.size)
        clear hb hc hf hz
        obtain ⟨hc, hf⟩ := old_cells B8.out
        have hz : w.heap.size < w8.heap.size := by have := z8.out; omega
        go_wp2_with fail
        refine (CH.out _ T8.out N8.out).mono ?_
        rintro e ws ⟨rfl, rfl⟩
        go_wp2_with fail
        refine (CG.out _ T8.out N8.out).mono ?_
        rintro e ws ⟨rfl, rfl⟩
        go_wp2_with fail
        refine (fawake_any _).mono ?_
        rintro e w9 ⟨rfl, hb⟩
        have B9 := Lib.hid (B8.out.trans (hb.mono z8.out))
        have T9 := Lib.hid (T8.out.later hb)
        have N9 := Lib.hid (N8.out.later hb)
        have z9 := Lib.hid (Nat.le_trans z8.out hb.size)
        clear hb hc hf hz
        obtain ⟨hc, hf⟩ := old_cells B9.out
        have hz : w.heap.size < w9.heap.size := by have := z9.out; omega
        go_wp2
        go_ret
        exact ⟨rfl, HB.out.trans (B9.out.mono (by omega))⟩
end Go.Proofs.Ytlpmcmgalodfeaa
