/-
  The law TasksDemand answers true: its walk out of the contracts.
-/
import Derived.Test.YtnchlgdmpjemhaaTWalksC
import Derived.Test.YtnchlgdmpjemhaaTWalksF
import Derived.Test.YtnchlgdmpjemhaaTAwake
namespace Go.Proofs.Ytnchlgdmpjemhaa
open Go.ChangeShapes Go.WideShapes Go.ChangeAt Go.RowKit

theorem demAns_no {l : List (Int × Int × Int)} {t : Int} (h : Tk.spans l t = false) : Tk.demAns l t = 0 := by simp [Tk.demAns, h]
theorem reqAns_no {l : List (Int × Int × Int)} {t : Int} (h : Tk.spans l t = false) : Tk.reqAns l t = 0 := by simp [Tk.reqAns, h]
theorem demAns_yes {l : List (Int × Int × Int)} {t : Int} (h : Tk.spans l t = true) : Tk.demAns l t = Tk.dem l t := by simp [Tk.demAns, h]
theorem reqAns_yes {l : List (Int × Int × Int)} {t : Int} (h : Tk.spans l t = true) : Tk.reqAns l t = Tk.req l t := by simp [Tk.reqAns, h]
theorem ptsAns_yes {l : List (Int × Int × Int)} {t : Int} (h : Tk.spans l t = true) : ptsAns l t = Tk.pts l t := by simp [ptsAns, h]

set_option maxHeartbeats 2000000 in
theorem demands_any (A : Option Addr) (n c : Nat) (l : List (Int × Int × Int)) (t : Int) (w : World) (hln : l.length = n) (hL : Tks w.heap.size w A l) :
    Calls Try.prog 4 #[.slice A n c, .int .i64 t] w fun e w' => e = .returned (.bool true) ∧ Below w.heap.size w w' := by
  have T0 := Lib.hid hL
  have Hl := Lib.hid hln
  clear hL hln
  by_cases hbig : n ≤ 20
  · have hd1 : decide ((20 : Int) < (n : Int)) = false := by simp; omega
    have CA : Hid (∀ w : World, Tks w.heap.size w A l → _) := fun w h => trall_any A n c l w Hl.out (by omega) h
    have CD : Hid (∀ w : World, Tks w.heap.size w A l → _) := fun w h => demand_any A n c l t w Hl.out h
    have CR : Hid (∀ w : World, Tks w.heap.size w A l → _) := fun w h => request_any A n c l t w Hl.out h
    have CP : Hid (∀ w : World, Tks w.heap.size w A l → _) := fun w h => points_any A n c l t w Hl.out h
    cases hsp : Tk.spans l t with
    | false =>
      rw [demAns_no hsp] at CD
      rw [reqAns_no hsp] at CR
      rw [ptsAns_no hsp] at CP
      cases hall : Tk.all l with
      | false =>
        rw [hall] at CA
        clear hall hsp
        go_enter Try.func4, Try.ntmps4
        go_wp2_with fail
        refine (CA.out _ T0.out).mono ?_
        rintro e w1 ⟨rfl, hb1⟩
        have B1 := Lib.hid hb1
        have T1 := Lib.hid (T0.out.later hb1)
        clear hb1
        go_wp2_with fail
        refine (CD.out _ T1.out).mono ?_
        rintro e w2 ⟨rfl, hb2⟩
        have B2 := Lib.hid (below_call (Nat.le_refl _) B1.out hb2)
        have T2 := Lib.hid (T1.out.later hb2)
        clear hb2
        go_wp2_with fail
        refine (CR.out _ T2.out).mono ?_
        rintro e w3 ⟨rfl, hb3⟩
        have B3 := Lib.hid (below_call (Nat.le_refl _) B2.out hb3)
        have T3 := Lib.hid (T2.out.later hb3)
        clear hb3
        go_wp2_with fail
        refine (CP.out _ T3.out).mono ?_
        rintro e w4 ⟨X, cx, rfl, hcx, -, hb4⟩
        have B4 := Lib.hid (below_call (Nat.le_refl _) B3.out hb4)
        clear hb4
        go_wp2_with fail
        refine (tawake_any _).mono ?_
        rintro e w5 ⟨rfl, hb5⟩
        go_wp2
        go_ret
        exact ⟨rfl, below_call (Nat.le_refl _) B4.out hb5⟩
      | true =>
        have hout : t < 0 ∨ 1048576 < t := by
          simp only [Tk.spans, hall, Bool.and_true, Bool.and_eq_false_iff, decide_eq_false_iff_not] at hsp
          omega
        rw [hall] at CA
        clear hall hsp
        by_cases ht0 : t < 0
        all_goals
          go_enter Try.func4, Try.ntmps4
          go_wp2_with fail
          refine (CA.out _ T0.out).mono ?_
          rintro e w1 ⟨rfl, hb1⟩
          have B1 := Lib.hid hb1
          have T1 := Lib.hid (T0.out.later hb1)
          clear hb1
          go_wp2_with fail
          refine (CD.out _ T1.out).mono ?_
          rintro e w2 ⟨rfl, hb2⟩
          have B2 := Lib.hid (below_call (Nat.le_refl _) B1.out hb2)
          have T2 := Lib.hid (T1.out.later hb2)
          clear hb2
          go_wp2_with fail
          refine (CR.out _ T2.out).mono ?_
          rintro e w3 ⟨rfl, hb3⟩
          have B3 := Lib.hid (below_call (Nat.le_refl _) B2.out hb3)
          have T3 := Lib.hid (T2.out.later hb3)
          clear hb3
          go_wp2_with fail
          refine (CP.out _ T3.out).mono ?_
          rintro e w4 ⟨X, cx, rfl, hcx, -, hb4⟩
          have B4 := Lib.hid (below_call (Nat.le_refl _) B3.out hb4)
          clear hb4
          go_wp2_with fail
          refine (tawake_any _).mono ?_
          rintro e w5 ⟨rfl, hb5⟩
          go_wp2
          go_ret
          exact ⟨rfl, below_call (Nat.le_refl _) B4.out hb5⟩
    | true =>
      have hs := hsp
      simp only [Tk.spans, Bool.and_eq_true, decide_eq_true_eq] at hs
      obtain ⟨⟨ht0, ht1⟩, hall⟩ := hs
      have Hall := Lib.hid hall
      rw [hall] at CA
      rw [demAns_yes hsp] at CD
      rw [reqAns_yes hsp] at CR
      rw [ptsAns_yes hsp] at CP
      have ED : Hid (∀ w : World, Tks w.heap.size w A l → _) := fun w h => rdemand_any A n c l t w Hl.out h ht1 Hall
      have ER : Hid (∀ w : World, Tks w.heap.size w A l → _) := fun w h => rrequest_any A n c l t w Hl.out h ht0 ht1 Hall
      have EP : Hid (∀ w : World, Tks w.heap.size w A l → _) := fun w h => rpoints_any A n c l t w Hl.out h ht0 ht1 Hall
      have hlp := Tk.pts_len l t
      obtain ⟨L, hLe⟩ : ∃ L, Tk.pts l t = L := ⟨_, rfl⟩
      obtain ⟨y, hye⟩ : ∃ y, Tk.dem l t = y := ⟨_, rfl⟩
      obtain ⟨z, hze⟩ : ∃ z, Tk.req l t = z := ⟨_, rfl⟩
      rw [hLe] at CP EP hlp
      rw [hye] at CD ED
      rw [hze] at CR ER
      obtain ⟨k, hk⟩ : ∃ k, L.length = k := ⟨_, rfl⟩
      rw [hk] at hlp
      have Hk := Lib.hid hk
      have hyy : (y == y) = true := by simp
      have hzz : (z == z) = true := by simp
      clear hall hsp hLe hye hze hk
      by_cases ht3 : t ≤ 3000
      · go_enter Try.func4, Try.ntmps4
        go_wp2_with fail
        refine (CA.out _ T0.out).mono ?_
        rintro e w1 ⟨rfl, hb1⟩
        have B1 := Lib.hid hb1
        have T1 := Lib.hid (T0.out.later hb1)
        clear hb1
        go_wp2_with fail
        refine (CD.out _ T1.out).mono ?_
        rintro e w2 ⟨rfl, hb2⟩
        have B2 := Lib.hid (below_call (Nat.le_refl _) B1.out hb2)
        have T2 := Lib.hid (T1.out.later hb2)
        clear hb2
        go_wp2_with fail
        refine (ED.out _ T2.out).mono ?_
        rintro e w3 ⟨rfl, rfl⟩
        go_wp2_with fail
        refine (CR.out _ T2.out).mono ?_
        rintro e w3 ⟨rfl, hb3⟩
        have B3 := Lib.hid (below_call (Nat.le_refl _) B2.out hb3)
        have T3 := Lib.hid (T2.out.later hb3)
        clear hb3
        go_wp2_with fail
        refine (ER.out _ T3.out).mono ?_
        rintro e w4 ⟨rfl, rfl⟩
        go_wp2_with fail
        refine (CP.out _ T3.out).mono ?_
        rintro e w4 ⟨X, cx, rfl, hcx, hX, hb4⟩
        have B4 := Lib.hid (below_call (Nat.le_refl _) B3.out hb4)
        have T4 := Lib.hid (T3.out.later hb4)
        have X4 := Lib.hid hX
        clear hb4 hX
        go_wp2_with fail
        refine (EP.out _ T4.out).mono ?_
        rintro e w5 ⟨Y, cy, rfl, hcy, hY, hb5⟩
        have B5 := Lib.hid (below_call (Nat.le_refl _) B4.out hb5)
        have X5 := Lib.hid (X4.out.later hb5)
        have Y5 := Lib.hid hY
        clear hb5 hY
        go_wp2_with fail
        refine (same_yes X Y L.length cx cy L _ rfl (by have := Hk.out; omega) X5.out Y5.out).mono ?_
        rintro e w6 ⟨rfl, hb6⟩
        have B6 := Lib.hid (below_call (Nat.le_refl _) B5.out hb6)
        clear hb6
        go_wp2_with fail
        refine (tawake_any _).mono ?_
        rintro e w7 ⟨rfl, hb7⟩
        go_wp2
        go_ret
        exact ⟨rfl, below_call (Nat.le_refl _) B6.out hb7⟩
      · go_enter Try.func4, Try.ntmps4
        go_wp2_with fail
        refine (CA.out _ T0.out).mono ?_
        rintro e w1 ⟨rfl, hb1⟩
        have B1 := Lib.hid hb1
        clear hb1
        go_wp2_with fail
        refine (tawake_any _).mono ?_
        rintro e w7 ⟨rfl, hb7⟩
        go_wp2
        go_ret
        exact ⟨rfl, below_call (Nat.le_refl _) B1.out hb7⟩
  · have hd1 : decide ((20 : Int) < (n : Int)) = true := by simp; omega
    go_enter Try.func4, Try.ntmps4
    go_wp2_with fail
    refine (tawake_any _).mono ?_
    rintro e w5 ⟨rfl, hb5⟩
    go_wp2
    go_ret
    exact ⟨rfl, hb5⟩
end Go.Proofs.Ytnchlgdmpjemhaa
