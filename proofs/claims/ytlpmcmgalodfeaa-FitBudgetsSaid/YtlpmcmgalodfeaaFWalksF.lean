/-
  The contract of Budget of package fit: the least budget.
-/
import Derived.Test.YtlpmcmgalodfeaaFWalksD
import Derived.Test.YtlpmcmgalodfeaaSWalksC
namespace Go.Proofs.Ytlpmcmgalodfeaa
open Go.ChangeShapes Go.WideShapes Go.ChangeAt Go.RowKit

set_option maxHeartbeats 1600000 in
theorem budget_any (A : Option Addr) (n c : Nat) (l : List (Int × Int × Int)) (A2 : Option Addr) (m c2 : Nat) (s : List Int) (p t : Int) (w : World) (hln : l.length = n) (hL : Tks w.heap.size w A l) (hsm : s.length = m) (hS : NumsI w.heap.size w A2 s) (hm : m ≤ c2) :
    Calls Try.prog 21 #[.slice A n c, .slice A2 m c2, .int .i64 p, .int .i64 t] w fun e w' => e = .returned (.tuple #[.int .i64 (Ft.budN l s p t), .int .i64 (Ft.budE l s p t)]) ∧ Below w.heap.size w w' := by
  have TL := Lib.hid hL
  have NS := Lib.hid hS
  clear hL hS
  have CA : Hid (∀ w : World, Tks w.heap.size w A l → NumsI w.heap.size w A2 s → _) := fun w h h2 => fspans_any A n c l A2 m c2 s 1 p t w hln h hsm h2
  cases ha : Ft.asks l s 1 p t with
  | false =>
    rw [ha] at CA
    rw [show Ft.budN l s p t = 0 by simp [Ft.budN, ha], show Ft.budE l s p t = 1 by simp [Ft.budE, ha]]
    clear ha hln hsm
    go_enter Try.func21, Try.ntmps21
    go_wp2_with fail
    refine (CA.out _ TL.out NS.out).mono ?_
    rintro e w1 ⟨rfl, hb1⟩
    have hW := Lib.hid hb1
    clear hb1
    go_wp2
    go_ret2
    exact ⟨rfl, hW.out⟩
  | true =>
    rw [ha] at CA
    obtain ⟨⟨ht0, ht1⟩, hall, hwi, hr⟩ := Ft.asks_iff.1 ha
    have Hall := Lib.hid hall
    have Hw := Lib.hid hwi
    obtain ⟨-, r2, r3⟩ := Sp.right_iff.1 hr
    have hsp : Tk.spans l t = true := by simp [Tk.spans, ht0, ht1, hall]
    have CP : Hid (∀ w : World, Tks w.heap.size w A l → _) := fun w h => points_any A n c l t w hln h
    rw [ptsAns_yes hsp] at CP
    have CN : Hid (∀ (x : Int) (w : World), 0 ≤ x → x ≤ 1048576 → Tks w.heap.size w A l → NumsI w.heap.size w A2 s → _) := fun x w h0 h1 h h2 => fneed_any A n c l A2 m c2 s x w hln h hsm h2 hm Hall Hw h0 h1
    have CS : Hid (∀ (y x : Int) (w : World), _) := fun y x w => smallest_any p y x w
    have HP0 : ∀ k, k < (Tk.pts l t).length → 1 ≤ (Tk.pts l t).getD k 0 ∧ (Tk.pts l t).getD k 0 ≤ t := fun k hk => Ft.pts_at hall hk
    have hfew := Ft.pts_few l ht1
    have hN0 : Ft.budN l s p t = if Ft.budOk l s p t = true then Ft.bud l s p t else 0 := by simp [Ft.budN, ha]
    have hE0 : Ft.budE l s p t = if Ft.budOk l s p t = true then 0 else 24 := by simp [Ft.budE, ha]
    rw [Ft.budOk, Ft.bud] at hN0
    rw [Ft.budOk] at hE0
    generalize Ft.budN l s p t = rN at *
    generalize Ft.budE l s p t = rE at *
    have HO : Hid (∀ x, (fun x => Sp.smallOk p (Ft.needs l s x) x) x = Sp.smallOk p (Ft.needs l s x) x) := Lib.hid fun x => rfl
    have HG : Hid (∀ x, (fun x => Sp.smallN p (Ft.needs l s x) x) x = Sp.smallN p (Ft.needs l s x) x) := Lib.hid fun x => rfl
    generalize (fun x => Sp.smallOk p (Ft.needs l s x) x) = ok at *
    generalize (fun x => Sp.smallN p (Ft.needs l s x) x) = g at *
    generalize Tk.pts l t = L at *
    have HP := Lib.hid HP0
    have HN0 := Lib.hid hN0
    have HE0 := Lib.hid hE0
    clear hN0 hE0
    have Hbd : Hid (∀ x, ok x = true → g x ≤ p) := Lib.hid fun x h => by
      rw [HG.out]
      rw [HO.out] at h
      exact (Sp.small_yes h).2.1
    clear ha hall hwi hr hsp hln hsm HP0
    go_enter Try.func21, Try.ntmps21
    go_wp2_with fail
    refine (CA.out _ TL.out NS.out).mono ?_
    rintro e w1 ⟨rfl, hb1⟩
    have T1 := Lib.hid (TL.out.later hb1)
    have N1 := Lib.hid (NS.out.later hb1)
    have B1 := Lib.hid hb1
    clear hb1
    go_wp2_with fail
    refine (CP.out _ T1.out).mono ?_
    rintro e w3 ⟨A3, c3, rfl, hc3, hN, hb3⟩
    have T3 := Lib.hid (T1.out.later hb3)
    have N3 := Lib.hid (N1.out.later hb3)
    have W3 := Lib.hid (B1.out.trans (hb3.mono B1.out.size))
    have NP := Lib.hid hN
    clear hb3 hN
    go_wp2_with fail
    go_loopw [10, 26] (fun u i wr => ∃ (k : Nat) (y : Int), k ≤ L.length ∧ i = .int .i64 k ∧ u = .int .i64 y ∧ 1 ≤ y ∧ y ≤ p ∧ Hid (y = Ft.mostTo g L k) ∧ Hid (∀ j, j < k → ok (L.getD j 0) = true) ∧ Below w3.heap.size w3 wr) (fun _ i _ => (L.length - intOf i).toNat)
    case atStart => exact ⟨0, 1, by omega, rfl, rfl, by omega, r2, Lib.hid rfl, Lib.hid (fun j hj => by omega), Below.refl _ _⟩
    case round =>
      obtain ⟨k, y, hk, rfl, rfl, hy0, hy1, hy, hok, hb⟩ := hrel
      by_cases hlt : k < L.length
      · obtain ⟨b3, o3, rfl, hB3, h3⟩ := NP.out (by omega)
        have hcx := (hb.cell (p := ⟨b3, _, none⟩) hB3).trans (h3 k hlt)
        clear h3
        obtain ⟨hx0, hx1⟩ := HP.out k hlt
        have T4 := Lib.hid (T3.out.later hb)
        have N4 := Lib.hid (N3.out.later hb)
        have hz := hb.size
        have hz3 : b3 < wr.heap.size := by omega
        have hk0 : (0 : Int) ≤ k := by omega
        have hkl : (k : Int) < L.length := by omega
        obtain ⟨x, hx⟩ : ∃ x, L.getD k 0 = x := ⟨_, rfl⟩
        rw [hx] at hcx hx0 hx1
        have Hx := Lib.hid hx
        clear hx
        have CX := Lib.hid (fun w => CN.out x w (by omega) (by omega))
        have CY := Lib.hid (fun w => CS.out (Ft.needs l s x) x w)
        rw [← HO.out x, ← HG.out x] at CY
        generalize Ft.needs l s x = z at *
        have hst : Ft.mostTo g L (k + 1) = max (Ft.mostTo g L k) (g x) := by rw [Ft.mostTo, Hx.out]
        rw [← hy.out] at hst
        have hgx := Hbd.out x
        obtain ⟨v, hv⟩ : ∃ v, g x = v := ⟨_, rfl⟩
        rw [hv] at CY hst hgx
        have Hst := Lib.hid hst
        clear hst hv
        cases hox : ok x with
        | false =>
          rw [hox] at CY
          have Hno : Hid (L.all ok = false) := Lib.hid (Ft.all_no hlt (by rw [Hx.out]; exact hox))
          clear hox hgx
          go_wp2_with fail
          refine (CX.out _ T4.out N4.out).mono ?_
          rintro e w5 ⟨rfl, hb5⟩
          have W5 := Lib.hid (W3.out.trans ((hb.trans (hb5.mono hz)).mono W3.out.size))
          clear hb5 hb
          go_wp2_with fail
          refine (CY.out _).mono ?_
          rintro e w6 ⟨rfl, hb6⟩
          have W6 := Lib.hid (W5.out.trans (hb6.mono W5.out.size))
          clear hb6
          go_wp2
          go_ret2
          exact ⟨two_back (by rw [HN0.out, Hno.out]; rfl) (by rw [HE0.out, Hno.out]; rfl), W6.out⟩
        | true =>
          rw [hox] at CY
          replace hgx := hgx hox
          have Hn : Hid (∀ j, j < k + 1 → ok (L.getD j 0) = true) := Lib.hid (fun j hj => by
            by_cases hjk : j = k
            · rw [hjk, Hx.out]
              exact hox
            · exact hok.out j (by omega))
          clear hox
          by_cases h1 : y < v
          · go_wp2_with fail
            refine (CX.out _ T4.out N4.out).mono ?_
            rintro e w5 ⟨rfl, hb5⟩
            have W5 := Lib.hid (hb.trans (hb5.mono hz))
            clear hb5 hb
            go_wp2_with fail
            refine (CY.out _).mono ?_
            rintro e w6 ⟨rfl, hb6⟩
            have W6 := Lib.hid (W5.out.trans (hb6.mono W5.out.size))
            clear hb6
            go_wp2
            go_roundw
            case rel => exact ⟨k + 1, v, by omega, by go_num, rfl, by omega, hgx, Lib.hid (by rw [Hst.out]; omega), Hn.out, W6.out⟩
            case measure => simp [intOf]; omega
          · go_wp2_with fail
            refine (CX.out _ T4.out N4.out).mono ?_
            rintro e w5 ⟨rfl, hb5⟩
            have W5 := Lib.hid (hb.trans (hb5.mono hz))
            clear hb5 hb
            go_wp2_with fail
            refine (CY.out _).mono ?_
            rintro e w6 ⟨rfl, hb6⟩
            have W6 := Lib.hid (W5.out.trans (hb6.mono W5.out.size))
            clear hb6
            go_wp2
            go_roundw
            case rel => exact ⟨k + 1, y, by omega, by go_num, rfl, by omega, hy1, Lib.hid (by rw [Hst.out]; omega), Hn.out, W6.out⟩
            case measure => simp [intOf]; omega
      · obtain rfl : L.length = k := by omega
        have Hyes : Hid (L.all ok = true) := Lib.hid (Ft.all_at hok.out)
        have W5 := Lib.hid (W3.out.trans (hb.mono W3.out.size))
        go_wp2
        go_ret2
        exact ⟨two_back (by rw [HN0.out, Hyes.out, if_pos rfl, hy.out]) (by rw [HE0.out, Hyes.out]; rfl), W5.out⟩
end Go.Proofs.Ytlpmcmgalodfeaa
