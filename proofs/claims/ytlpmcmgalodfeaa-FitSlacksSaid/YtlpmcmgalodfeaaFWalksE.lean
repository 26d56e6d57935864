/-
  Contracts of package fit, more: the worst stretch; the least budget.
-/
import Derived.Test.YtlpmcmgalodfeaaFWalksD
import Derived.Test.YtlpmcmgalodfeaaSWalksC
namespace Go.Proofs.Ytlpmcmgalodfeaa
open Go.ChangeShapes Go.WideShapes Go.ChangeAt Go.RowKit

/-- What Slack tells. -/
def slackAt (l : List (Int × Int × Int)) (s : List Int) (b p t : Int) : Nat := Ft.bestTo (Ft.spare l s b p) (Tk.pts l t) ((Tk.pts l t).length - 1)
def slackN (l : List (Int × Int × Int)) (s : List Int) (b p t : Int) : Int := if Ft.asks l s b p t = true ∧ Tk.pts l t ≠ [] then (Tk.pts l t).getD (slackAt l s b p t) 0 else 0
def slackV (l : List (Int × Int × Int)) (s : List Int) (b p t : Int) : Int := if Ft.asks l s b p t = true ∧ Tk.pts l t ≠ [] then Ft.spare l s b p ((Tk.pts l t).getD (slackAt l s b p t) 0) else 0
def slackE (l : List (Int × Int × Int)) (s : List Int) (b p t : Int) : Int := if Ft.asks l s b p t = true then if Tk.pts l t ≠ [] then 0 else 6 else 1
theorem three_back {a b c d x y : Int} (h : a = b) (h2 : x = y) (h3 : c = d) : Ending.returned (.tuple #[.int .i64 a, .int .i64 x, .int .i64 c]) = .returned (.tuple #[.int .i64 b, .int .i64 y, .int .i64 d]) := by rw [h, h2, h3]

set_option maxHeartbeats 1600000 in
theorem slack_any (A : Option Addr) (n c : Nat) (l : List (Int × Int × Int)) (A2 : Option Addr) (m c2 : Nat) (s : List Int) (b p t : Int) (w : World) (hln : l.length = n) (hL : Tks w.heap.size w A l) (hsm : s.length = m) (hS : NumsI w.heap.size w A2 s) (hm : m ≤ c2) :
    Calls Try.prog 17 #[.slice A n c, .slice A2 m c2, .agg #[.int .i64 b, .int .i64 p], .int .i64 t] w fun e w' => e = .returned (.tuple #[.int .i64 (slackN l s b p t), .int .i64 (slackV l s b p t), .int .i64 (slackE l s b p t)]) ∧ Below w.heap.size w w' := by
  have hbox : Below w.heap.size w (w.alloc (.cells #[.int .i64 b, .int .i64 p] 31)) := by go_grown
  have HB := Lib.hid hbox
  have TL := Lib.hid (hL.later hbox)
  have NS := Lib.hid (hS.later hbox)
  clear hbox hL hS
  have CA : Hid (∀ w : World, Tks w.heap.size w A l → NumsI w.heap.size w A2 s → _) := fun w h h2 => fspans_any A n c l A2 m c2 s b p t w hln h hsm h2
  cases ha : Ft.asks l s b p t with
  | false =>
    rw [ha] at CA
    rw [show slackN l s b p t = 0 by simp [slackN, ha], show slackV l s b p t = 0 by simp [slackV, ha], show slackE l s b p t = 1 by simp [slackE, ha]]
    clear ha hln hsm
    go_enter Try.func17, Try.ntmps17
    go_wp2_with fail
    refine (CA.out _ TL.out NS.out).mono ?_
    rintro e w1 ⟨rfl, hb1⟩
    have hW := Lib.hid (HB.out.trans (hb1.mono (by simp)))
    clear hb1
    go_wp2
    go_ret3
    exact ⟨rfl, hW.out⟩
  | true =>
    rw [ha] at CA
    obtain ⟨⟨ht0, ht1⟩, hall, hwi, hr⟩ := Ft.asks_iff.1 ha
    have Hall := Lib.hid hall
    have Hw := Lib.hid hwi
    have Hr := Lib.hid hr
    have hsp : Tk.spans l t = true := by simp [Tk.spans, ht0, ht1, hall]
    have CP : Hid (∀ w : World, Tks w.heap.size w A l → _) := fun w h => points_any A n c l t w hln h
    rw [ptsAns_yes hsp] at CP
    have CS : Hid (∀ (x : Int) (w : World), 0 ≤ x → x ≤ 1048576 → Tks w.heap.size w A l → NumsI w.heap.size w A2 s → _) := fun x w h0 h1 h h2 => fspare_any A n c l A2 m c2 s b p x w hln h hsm h2 hm Hall Hw Hr h0 h1
    have HP0 : ∀ k, k < (Tk.pts l t).length → 1 ≤ (Tk.pts l t).getD k 0 ∧ (Tk.pts l t).getD k 0 ≤ t := fun k hk => Ft.pts_at hall hk
    have hfew := Ft.pts_few l ht1
    rw [show slackN l s b p t = if Tk.pts l t ≠ [] then (Tk.pts l t).getD (slackAt l s b p t) 0 else 0 by simp [slackN, ha], show slackV l s b p t = if Tk.pts l t ≠ [] then Ft.spare l s b p ((Tk.pts l t).getD (slackAt l s b p t) 0) else 0 by simp [slackV, ha], show slackE l s b p t = if Tk.pts l t ≠ [] then 0 else 6 by simp [slackE, ha], slackAt]
    generalize Ft.spare l s b p = f at *
    generalize Tk.pts l t = L at *
    have HP := Lib.hid HP0
    clear ha hall hwi hr hsp hln hsm HP0
    cases L with
    | nil =>
      go_enter Try.func17, Try.ntmps17
      go_wp2_with fail
      refine (CA.out _ TL.out NS.out).mono ?_
      rintro e w1 ⟨rfl, hb1⟩
      have T1 := Lib.hid (TL.out.later hb1)
      have B1 := Lib.hid (Below.mono hb1 (B' := w.heap.size + 1) (by simp))
      have z1 := Lib.hid (show w.heap.size + 1 ≤ w1.heap.size by have := hb1.size; simpa using this)
      clear hb1
      go_wp2_with fail
      refine (CP.out _ T1.out).mono ?_
      rintro e w3 ⟨A3, c3, rfl, hc3, hN, hb3⟩
      have B3 := Lib.hid (B1.out.trans (hb3.mono z1.out))
      have W3 := Lib.hid (HB.out.trans (B3.out.mono (by omega)))
      clear hb3 hN
      go_wp2
      go_ret3
      exact ⟨rfl, W3.out⟩
    | cons x0 L0 =>
      obtain ⟨L, hLL⟩ : ∃ L, x0 :: L0 = L := ⟨_, rfl⟩
      have hpos : 0 < L.length := by rw [← hLL]; simp
      have hx0 : L.getD 0 0 = x0 := by rw [← hLL]; rfl
      have hne : (if x0 :: L0 ≠ [] then (0 : Int) else 6) = 0 := rfl
      rw [if_pos (by simp), if_pos (by simp), hne]
      rw [hLL] at HP CP hfew ⊢
      have Hx0 := Lib.hid hx0
      clear hLL hne hx0
      have hl0 : ((L.length : Int) == 0) = false := beq_eq_false_iff_ne.2 (by omega)
      have hl1 : (0 : Int) < L.length := by omega
      have hl2 : (1 : Int) ≤ L.length := by omega
      have Hmid : Hid (∀ k, Ft.bestTo f L k ≤ k) := Lib.hid (Ft.bestTo_le f L)
      have hxb := HP.out 0 hpos
      rw [Hx0.out] at hxb
      have CX0 := Lib.hid (fun w => CS.out x0 w (by omega) (by omega))
      go_enter Try.func17, Try.ntmps17
      go_wp2_with fail
      refine (CA.out _ TL.out NS.out).mono ?_
      rintro e w1 ⟨rfl, hb1⟩
      have T1 := Lib.hid (TL.out.later hb1)
      have N1 := Lib.hid (NS.out.later hb1)
      have B1 := Lib.hid (Below.mono hb1 (B' := w.heap.size + 1) (by simp))
      have z1 := Lib.hid (show w.heap.size + 1 ≤ w1.heap.size by have := hb1.size; simpa using this)
      clear hb1
      go_wp2_with fail
      refine (CP.out _ T1.out).mono ?_
      rintro e w3 ⟨A3, c3, rfl, hc3, hN, hb3⟩
      have T3 := Lib.hid (T1.out.later hb3)
      have N3 := Lib.hid (N1.out.later hb3)
      have B3 := Lib.hid (B1.out.trans (hb3.mono z1.out))
      have z3 := Lib.hid (Nat.le_trans z1.out hb3.size)
      have W3 := Lib.hid (HB.out.trans (B3.out.mono (by omega)))
      clear hb3
      obtain ⟨b3, o3, rfl, hB3, h3⟩ := hN hpos
      have NP := Lib.hid h3
      have hcx := h3 0 hpos
      rw [Hx0.out, Nat.add_zero] at hcx
      clear h3 hN
      obtain ⟨hc, hf⟩ := old_cells B3.out
      have hz1 : w.heap.size < w3.heap.size := by have := z3.out; omega
      have hl3 : (1 : Int) ≤ c3 := by omega
      go_wp2_with fail
      refine wp_region_later w3.heap.size w3 (by kernel_rfl) (by kernel_rfl) (Below.refl _ _) ?_
      repeat (go_big_quiet_step (((with_reducible refine Calls.later ?_ (CX0.out _ (T3.out.later (Later.below _)) (N3.out.later (Later.below _)))); exact Nat.le_refl _)))
      refine wpQuiet_nil ?_
      rintro _ ⟨n1, rfl⟩
      have HM := Lib.hid n1.below
      clear hc hf hcx
      by_cases hcc : c3 = 1
      · obtain ⟨k1, hk1⟩ : ∃ k1, k1 = L.length - 1 := ⟨_, rfl⟩
        have hk0 : Hid (k1 = 0) := Lib.hid (by omega)
        have Hk1 := Lib.hid hk1
        have hone : L.length = 1 := by omega
        clear hk1
        go_wp2_with fail
        go_loopw [8, 9, 40] (fun u v i wr => i = .int .i64 0 ∧ u = .int .i64 x0 ∧ v = .int .i64 (f x0) ∧ Below w3.heap.size w3 wr) (fun _ _ i _ => (L.length - intOf i).toNat)
        case atStart => exact ⟨rfl, rfl, rfl, HM.out⟩
        case round =>
          obtain ⟨rfl, rfl, rfl, hb⟩ := hrel
          have W5 := Lib.hid (W3.out.trans (hb.mono W3.out.size))
          go_wp2
          go_ret3
          exact ⟨three_back (by rw [← Hk1.out, hk0.out, Ft.bestTo, Hx0.out]) (by rw [← Hk1.out, hk0.out, Ft.bestTo, Hx0.out]) rfl, W5.out⟩
      · go_wp2_with fail
        go_loopw [8, 9, 40] (fun u v i wr => ∃ k : Nat, k ≤ L.length - 1 ∧ i = .int .i64 k ∧ u = .int .i64 (L.getD (Ft.bestTo f L k) 0) ∧ v = .int .i64 (f (L.getD (Ft.bestTo f L k) 0)) ∧ Below w3.heap.size w3 wr) (fun _ _ i _ => (L.length - intOf i).toNat)
        case atStart => exact ⟨0, by omega, rfl, by rw [Ft.bestTo, Hx0.out], by rw [Ft.bestTo, Hx0.out], HM.out⟩
        case round =>
          obtain ⟨k, hk, rfl, rfl, rfl, hb⟩ := hrel
          obtain ⟨y, hy⟩ : ∃ y, L.getD (Ft.bestTo f L k) 0 = y := ⟨_, rfl⟩
          by_cases hlt : k < L.length - 1
          · have hcx : wr.cell? ⟨b3, o3 + 1 + k, none⟩ = some (.int .i64 (L.getD (k + 1) 0)) := by rw [show o3 + 1 + k = o3 + (k + 1) by omega]; exact (hb.cell (p := ⟨b3, _, none⟩) hB3).trans (NP.out (k + 1) (by omega))
            have hxk := HP.out (k + 1) (by omega)
            obtain ⟨x, hx⟩ : ∃ x, L.getD (k + 1) 0 = x := ⟨_, rfl⟩
            have Hyes := Lib.hid (Ft.bestTo_yes (f := f) hx)
            have Hno := Lib.hid (Ft.bestTo_no (f := f) hx)
            rw [hx] at hcx hxk
            rw [hy] at Hyes Hno ⊢
            have Hx := Lib.hid hx
            have Hy := Lib.hid hy
            clear hx hy
            have T4 := Lib.hid (T3.out.later hb)
            have N4 := Lib.hid (N3.out.later hb)
            have hbw := Lib.hid (B3.out.trans (hb.mono z3.out))
            obtain ⟨hc, hf⟩ := old_cells hbw.out
            have hz := hb.size
            have hz1 : w.heap.size < wr.heap.size := by have := z3.out; omega
            have hz3 : b3 < wr.heap.size := by omega
            have hk0 : (0 : Int) ≤ k := by omega
            have hkl : (k : Int) < L.length - 1 := by omega
            have CX := Lib.hid (fun w => CS.out x w (by omega) (by omega))
            obtain ⟨fx, hfx⟩ : ∃ fx, f x = fx := ⟨_, rfl⟩
            obtain ⟨fy, hfy⟩ : ∃ fy, f y = fy := ⟨_, rfl⟩
            have Hfx := Lib.hid hfx
            have Hfy := Lib.hid hfy
            rw [hfx] at CX
            rw [hfy]
            clear hfx hfy
            by_cases h1 : fx < fy
            · go_wp2_with fail
              refine (CX.out _ T4.out N4.out).mono ?_
              rintro e w5 ⟨rfl, hb5⟩
              have W5 := Lib.hid (hb.trans (hb5.mono hz))
              clear hb5 hb hc hf
              go_wp2
              go_roundw
              case rel => exact ⟨k + 1, by omega, by go_num, by rw [Hyes.out (by rw [Hfx.out, Hfy.out]; exact h1), Hx.out], by rw [Hyes.out (by rw [Hfx.out, Hfy.out]; exact h1), Hx.out, Hfx.out], W5.out⟩
              case measure => simp [intOf]; omega
            · go_wp2_with fail
              refine (CX.out _ T4.out N4.out).mono ?_
              rintro e w5 ⟨rfl, hb5⟩
              have W5 := Lib.hid (hb.trans (hb5.mono hz))
              clear hb5 hb hc hf
              go_wp2
              go_roundw
              case rel => exact ⟨k + 1, by omega, by go_num, by rw [Hno.out (by rw [Hfx.out, Hfy.out]; exact h1), Hy.out], by rw [Hno.out (by rw [Hfx.out, Hfy.out]; exact h1), Hy.out, Hfy.out], W5.out⟩
              case measure => simp [intOf]; omega
          · have hke : Hid (k = L.length - 1) := Lib.hid (by omega)
            have W5 := Lib.hid (W3.out.trans (hb.mono W3.out.size))
            rw [hy]
            have Hy := Lib.hid hy
            clear hy
            go_wp2
            go_ret3
            exact ⟨three_back (by rw [← hke.out, Hy.out]) (by rw [← hke.out, Hy.out]) rfl, W5.out⟩
end Go.Proofs.Ytlpmcmgalodfeaa
