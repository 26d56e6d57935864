/-
  Contracts of package fit, and of the document's answers: which sets may be asked about; what is asked for in a stretch, and what is to spare.
-/
import Derived.Test.YtlpmcmgalodfeaaFWalksA
namespace Go.Proofs.Ytlpmcmgalodfeaa
open Go.ChangeShapes Go.WideShapes Go.ChangeAt Go.RowKit

set_option maxHeartbeats 800000 in
theorem fright_any (A : Option Addr) (n c : Nat) (l : List (Int × Int × Int)) (A2 : Option Addr) (m c2 : Nat) (s : List Int) (b p : Int) (w : World) (hln : l.length = n) (hL : Tks w.heap.size w A l) (hsm : s.length = m) (hS : NumsI w.heap.size w A2 s) :
    Calls Try.prog 12 #[.slice A n c, .slice A2 m c2, .agg #[.int .i64 b, .int .i64 p]] w fun e w' => e = .returned (.bool (Ft.right l s b p)) ∧ Below w.heap.size w w' := by
  have hbox : Below w.heap.size w (w.alloc (.cells #[.int .i64 b, .int .i64 p] 31)) := by go_grown
  have HB := Lib.hid hbox
  have TL := Lib.hid (hL.later hbox)
  have NS := Lib.hid (hS.later hbox)
  clear hbox hL hS
  have CA : Hid (∀ w : World, Tks w.heap.size w A l → _) := fun w h => tall_any A n c l w hln h
  have Hl := Lib.hid hln
  cases ha : Tk.all l with
  | false =>
    rw [ha] at CA
    have hno : Ft.right l s b p = false := by simp [Ft.right, ha]
    rw [hno]
    clear hno ha hln
    go_enter Try.func12, Try.ntmps12
    go_wp2_with fail
    refine (CA.out _ TL.out).mono ?_
    rintro e w1 ⟨rfl, hb1⟩
    have hW := Lib.hid (HB.out.trans (hb1.mono (by simp)))
    clear hb1
    go_wp2
    go_ret
    exact ⟨rfl, hW.out⟩
  | true =>
    rw [ha] at CA
    have hn8 : n ≤ 8 := by rw [← hln]; exact Tk.all_len ha
    have CW : Hid (∀ w : World, Tks w.heap.size w A l → NumsI w.heap.size w A2 s → _) := fun w h h2 => within_any A n c l A2 m c2 s w hln h hsm h2 hn8
    cases hw : Ft.within l s with
    | false =>
      rw [hw] at CW
      have hno : Ft.right l s b p = false := by simp [Ft.right, hw]
      rw [hno]
      clear hno ha hln hw hsm hn8
      go_enter Try.func12, Try.ntmps12
      go_wp2_with fail
      refine (CA.out _ TL.out).mono ?_
      rintro e w1 ⟨rfl, hb1⟩
      have T1 := Lib.hid (TL.out.later hb1)
      have N1 := Lib.hid (NS.out.later hb1)
      have hW := Lib.hid (HB.out.trans (hb1.mono (by simp)))
      clear hb1
      go_wp2_with fail
      refine (CW.out _ T1.out N1.out).mono ?_
      rintro e w2 ⟨rfl, rfl⟩
      go_wp2
      go_ret
      exact ⟨rfl, hW.out⟩
    | true =>
      rw [hw] at CW
      have hyes : Ft.right l s b p = Sp.right b p := by simp [Ft.right, hw, ha]
      rw [hyes]
      have CR : Hid (∀ w : World, _) := fun w => sright_any b p w
      clear hyes ha hln hw hsm hn8
      go_enter Try.func12, Try.ntmps12
      go_wp2_with fail
      refine (CA.out _ TL.out).mono ?_
      rintro e w1 ⟨rfl, hb1⟩
      have T1 := Lib.hid (TL.out.later hb1)
      have N1 := Lib.hid (NS.out.later hb1)
      replace hb1 := Below.mono hb1 (B' := w.heap.size + 1) (by simp)
      have hW := Lib.hid (HB.out.trans (hb1.mono (by simp)))
      obtain ⟨hc, hf⟩ := old_cells hb1
      have hz1 : w.heap.size < w1.heap.size := by have := hb1.size; simp at this; omega
      clear hb1
      go_wp2_with fail
      refine (CW.out _ T1.out N1.out).mono ?_
      rintro e w2 ⟨rfl, rfl⟩
      go_wp2_with fail
      refine (CR.out _).mono ?_
      rintro e w2 ⟨rfl, hb2⟩
      have hW2 := Lib.hid (hW.out.trans (hb2.mono (by omega)))
      clear hb2 hc hf hz1
      go_wp2
      go_ret
      exact ⟨rfl, hW2.out⟩

set_option maxHeartbeats 800000 in
theorem fneed_any (A : Option Addr) (n c : Nat) (l : List (Int × Int × Int)) (A2 : Option Addr) (m c2 : Nat) (s : List Int) (t : Int) (w : World) (hln : l.length = n) (hL : Tks w.heap.size w A l) (hsm : s.length = m) (hS : NumsI w.heap.size w A2 s)
    (hm : m ≤ c2) (Hall : Hid (Tk.all l = true)) (Hw : Hid (Ft.within l s = true)) (ht0 : 0 ≤ t) (ht : t ≤ 1048576) :
    Calls Try.prog 34 #[.slice A n c, .slice A2 m c2, .int .i64 t] w fun e w' => e = .returned (.int .i64 (Ft.needs l s t)) ∧ Below w.heap.size w w' := by
  have CD : Hid (∀ w : World, Tks w.heap.size w A l → _) := fun w h => demand_any A n c l t w hln h
  have CH : Hid (∀ w : World, Tks w.heap.size w A l → NumsI w.heap.size w A2 s → _) := fun w h h2 => held_any A n c l A2 m c2 s t w hln h hsm h2 hm Hall Hw
  have hsp : Tk.spans l t = true := by simp [Tk.spans, ht0, ht, Hall.out]
  rw [Tk.demAns, if_pos hsp] at CD
  have h1 := Ft.held_bd Hall.out Hw.out t s.length (Nat.le_refl _)
  have h2 := Tk.dem_bd (n := t) (Tk.all_len Hall.out) (Tk.all_mem Hall.out) ht
  rw [← Ft.held] at h1
  rw [Ft.needs]
  generalize Ft.held l s t = x at *
  generalize Tk.dem l t = y at *
  have HL := Lib.hid hL
  have HS := Lib.hid hS
  clear hL hS hsp hln hsm
  go_enter Try.func34, Try.ntmps34
  go_wp2_with fail
  refine (CD.out _ HL.out).mono ?_
  rintro e w1 ⟨rfl, hb1⟩
  have T1 := Lib.hid (HL.out.later hb1)
  have N1 := Lib.hid (HS.out.later hb1)
  have hW := Lib.hid hb1
  clear hb1
  go_wp2_with fail
  refine (CH.out _ T1.out N1.out).mono ?_
  rintro e w2 ⟨rfl, rfl⟩
  go_wp2
  go_ret
  exact ⟨rfl, hW.out⟩

set_option maxHeartbeats 800000 in
theorem rneeds_any (A : Option Addr) (n c : Nat) (l : List (Int × Int × Int)) (A2 : Option Addr) (m c2 : Nat) (s : List Int) (t : Int) (w : World) (hln : l.length = n) (hL : Tks w.heap.size w A l) (hsm : s.length = m) (hS : NumsI w.heap.size w A2 s)
    (Hall : Hid (Tk.all l = true)) (Hw : Hid (Ft.within l s = true)) (ht : t ≤ 1048576) :
    Calls Try.prog 20 #[.slice A n c, .slice A2 m c2, .int .i64 t] w fun e w' => e = .returned (.int .i64 (Ft.needs l s t)) ∧ w = w' := by
  have CD : Hid (∀ w : World, Tks w.heap.size w A l → _) := fun w h => rdemand_any A n c l t w hln h ht Hall
  have CH : Hid (∀ w : World, Tks w.heap.size w A l → NumsI w.heap.size w A2 s → _) := fun w h h2 => rheld_any A n c l A2 m c2 s t w hln h hsm h2 Hall Hw
  have h1 := Ft.held_bd Hall.out Hw.out t s.length (Nat.le_refl _)
  have h2 := Tk.dem_bd (n := t) (Tk.all_len Hall.out) (Tk.all_mem Hall.out) ht
  rw [← Ft.held] at h1
  rw [Ft.needs]
  generalize Ft.held l s t = x at *
  generalize Tk.dem l t = y at *
  have HL := Lib.hid hL
  have HS := Lib.hid hS
  clear hL hS hln hsm
  go_enter Try.func20, Try.ntmps20
  go_wp2_with fail
  refine (CD.out _ HL.out).mono ?_
  rintro e w1 ⟨rfl, rfl⟩
  go_wp2_with fail
  refine (CH.out _ HL.out HS.out).mono ?_
  rintro e w2 ⟨rfl, rfl⟩
  go_wp2
  go_ret
  exact ⟨rfl, rfl⟩

set_option maxHeartbeats 800000 in
theorem fspare_any (A : Option Addr) (n c : Nat) (l : List (Int × Int × Int)) (A2 : Option Addr) (m c2 : Nat) (s : List Int) (b p t : Int) (w : World) (hln : l.length = n) (hL : Tks w.heap.size w A l) (hsm : s.length = m) (hS : NumsI w.heap.size w A2 s)
    (hm : m ≤ c2) (Hall : Hid (Tk.all l = true)) (Hw : Hid (Ft.within l s = true)) (Hr : Hid (Sp.right b p = true)) (ht0 : 0 ≤ t) (ht : t ≤ 1048576) :
    Calls Try.prog 26 #[.slice A n c, .slice A2 m c2, .agg #[.int .i64 b, .int .i64 p], .int .i64 t] w fun e w' => e = .returned (.int .i64 (Ft.spare l s b p t)) ∧ Below w.heap.size w w' := by
  have hbox : Below w.heap.size w (w.alloc (.cells #[.int .i64 b, .int .i64 p] 31)) := by go_grown
  have HB := Lib.hid hbox
  have TL := Lib.hid (hL.later hbox)
  have NS := Lib.hid (hS.later hbox)
  clear hbox hL hS
  have CN : Hid (∀ w : World, Tks w.heap.size w A l → NumsI w.heap.size w A2 s → _) := fun w h h2 => fneed_any A n c l A2 m c2 s t w hln h hsm h2 hm Hall Hw ht0 ht
  have CL : Hid (∀ w : World, _) := fun w => least_any b p t w
  rw [Sp.least_yes Hr.out (Sp.asks_iff.2 ⟨ht0, ht⟩)] at CL
  obtain ⟨r1, r2, r3⟩ := Sp.right_iff.1 Hr.out
  have h1 := Sp.give_bd (b := b) (p := p) (t := t) (by omega) (by omega) (by omega) ht
  have h2 := Ft.needs_bd Hall.out Hw.out ht
  rw [Ft.spare]
  generalize Ft.needs l s t = x at *
  generalize Sp.give b p t = y at *
  clear hln hsm
  go_enter Try.func26, Try.ntmps26
  go_wp2_with fail
  refine (CL.out _).mono ?_
  rintro e w1 ⟨rfl, hb1⟩
  have T1 := Lib.hid (TL.out.later hb1)
  have N1 := Lib.hid (NS.out.later hb1)
  have hW := Lib.hid (HB.out.trans (hb1.mono (by simp)))
  clear hb1
  go_wp2_with fail
  refine (CN.out _ T1.out N1.out).mono ?_
  rintro e w2 ⟨rfl, hb2⟩
  have hW2 := Lib.hid (hW.out.trans (hb2.mono hW.out.size))
  clear hb2
  go_wp2
  go_ret
  exact ⟨rfl, hW2.out⟩

set_option maxHeartbeats 800000 in
theorem fspans_any (A : Option Addr) (n c : Nat) (l : List (Int × Int × Int)) (A2 : Option Addr) (m c2 : Nat) (s : List Int) (b p t : Int) (w : World) (hln : l.length = n) (hL : Tks w.heap.size w A l) (hsm : s.length = m) (hS : NumsI w.heap.size w A2 s) :
    Calls Try.prog 24 #[.slice A n c, .slice A2 m c2, .agg #[.int .i64 b, .int .i64 p], .int .i64 t] w fun e w' => e = .returned (.bool (Ft.asks l s b p t)) ∧ Below w.heap.size w w' := by
  have hbox : Below w.heap.size w (w.alloc (.cells #[.int .i64 b, .int .i64 p] 31)) := by go_grown
  have HB := Lib.hid hbox
  have TL := Lib.hid (hL.later hbox)
  have NS := Lib.hid (hS.later hbox)
  clear hbox hL hS
  have CR : Hid (∀ w : World, Tks w.heap.size w A l → NumsI w.heap.size w A2 s → _) := fun w h h2 => fright_any A n c l A2 m c2 s b p w hln h hsm h2
  clear hln hsm
  by_cases h1 : 0 ≤ t
  · by_cases h2 : t ≤ 1048576
    · rw [show Ft.asks l s b p t = Ft.right l s b p by simp [Ft.asks, Sp.asks, h1, h2]]
      go_enter Try.func24, Try.ntmps24
      go_wp2_with fail
      refine (CR.out _ TL.out NS.out).mono ?_
      rintro e w1 ⟨rfl, hb1⟩
      have hW := Lib.hid (HB.out.trans (hb1.mono (by simp)))
      clear hb1
      go_wp2
      go_ret
      exact ⟨rfl, hW.out⟩
    · rw [show Ft.asks l s b p t = false by simp [Ft.asks, Sp.asks, h2]]
      go_enter Try.func24, Try.ntmps24
      go_wp2
      go_ret
      exact ⟨rfl, HB.out⟩
  · rw [show Ft.asks l s b p t = false by simp [Ft.asks, Sp.asks, h1]]
    go_enter Try.func24, Try.ntmps24
    go_wp2
    go_ret
    exact ⟨rfl, HB.out⟩

set_option maxHeartbeats 1600000 in
theorem frright_any (A : Option Addr) (n c : Nat) (l : List (Int × Int × Int)) (A2 : Option Addr) (m c2 : Nat) (s : List Int) (b p : Int) (w : World) (hln : l.length = n) (hL : Tks w.heap.size w A l) (hsm : s.length = m) (hS : NumsI w.heap.size w A2 s) (hn : n ≤ 9223372036854775807) :
    Calls Try.prog 11 #[.slice A n c, .slice A2 m c2, .agg #[.int .i64 b, .int .i64 p]] w fun e w' => e = .returned (.bool (Ft.right l s b p)) ∧ Below w.heap.size w w' := by
  have hbox : Below w.heap.size w (w.alloc (.cells #[.int .i64 b, .int .i64 p] 25)) := by go_grown
  have HB := Lib.hid hbox
  have TL := Lib.hid (hL.later hbox)
  have NS := Lib.hid (hS.later hbox)
  clear hbox hL hS
  have CA : Hid (∀ w : World, Tks w.heap.size w A l → _) := fun w h => trall_any A n c l w hln hn h
  cases ha : Tk.all l with
  | false =>
    rw [ha] at CA
    have hno : Ft.right l s b p = false := by simp [Ft.right, ha]
    rw [hno]
    clear hno ha hln hsm
    go_enter Try.func11, Try.ntmps11
    go_wp2_with fail
    refine (CA.out _ TL.out).mono ?_
    rintro e w1 ⟨rfl, hb1⟩
    have hW := Lib.hid (HB.out.trans (hb1.mono (by simp)))
    clear hb1
    go_wp2
    go_ret
    exact ⟨rfl, hW.out⟩
  | true =>
    rw [ha] at CA
    have hn8 : n ≤ 8 := by rw [← hln]; exact Tk.all_len ha
    by_cases hbig : m ≤ n
    · have hd1 : decide (n < m) = false := by simp; omega
      have CR : Hid (∀ w : World, _) := fun w => srright_any b p w
      cases hr : Sp.right b p with
      | false =>
        rw [hr] at CR
        have hno : Ft.right l s b p = false := by simp [Ft.right, hr]
        rw [hno]
        clear hno ha hln hsm hr
        go_enter Try.func11, Try.ntmps11
        go_wp2_with fail
        refine (CA.out _ TL.out).mono ?_
        rintro e w1 ⟨rfl, hb1⟩
        replace hb1 := Below.mono hb1 (B' := w.heap.size + 1) (by simp)
        have hW := Lib.hid (HB.out.trans (hb1.mono (by simp)))
        obtain ⟨hc, hf⟩ := old_cells hb1
        have hz1 : w.heap.size < w1.heap.size := by have := hb1.size; simp at this; omega
        clear hb1
        go_wp2_with fail
        refine (CR.out _).mono ?_
        rintro e w2 ⟨rfl, hb2⟩
        have hW2 := Lib.hid (hW.out.trans (hb2.mono (by omega)))
        clear hb2 hc hf hz1
        go_wp2
        go_ret
        exact ⟨rfl, hW2.out⟩
      | true =>
        rw [hr] at CR
        have hyes : Ft.right l s b p = Ft.within l s := by simp [Ft.right, hr, ha]
        rw [hyes]
        have Hl := Lib.hid hln
        have Hs := Lib.hid hsm
        clear hyes ha hln hsm hr
        go_enter Try.func11, Try.ntmps11
        go_wp2_with fail
        refine (CA.out _ TL.out).mono ?_
        rintro e w1 ⟨rfl, hb1⟩
        have T1 := Lib.hid (TL.out.later hb1)
        have N1 := Lib.hid (NS.out.later hb1)
        replace hb1 := Below.mono hb1 (B' := w.heap.size + 1) (by simp)
        have hW := Lib.hid (HB.out.trans (hb1.mono (by simp)))
        obtain ⟨hc, hf⟩ := old_cells hb1
        have hz1 : w.heap.size < w1.heap.size := by have := hb1.size; simp at this; omega
        clear hb1
        go_wp2_with fail
        refine (CR.out _).mono ?_
        rintro e w2 ⟨rfl, hb2⟩
        have T2 := Lib.hid (T1.out.later hb2)
        have N2 := Lib.hid (N1.out.later hb2)
        have hW2 := Lib.hid (hW.out.trans (hb2.mono (by omega)))
        clear hb2 hc hf hz1
        go_wp2_with fail
        go_loopw [7] (fun i wr => ∃ k : Nat, k ≤ m ∧ i = .int .i64 k ∧ Hid (Ft.okTo l s k = true) ∧ Below w2.heap.size w2 wr) (fun i _ => (m - intOf i).toNat)
        case atStart => exact ⟨0, by omega, rfl, (rfl : Ft.okTo l s 0 = true), Below.refl _ _⟩
        case round =>
          obtain ⟨k, hk, rfl, hok, hb⟩ := hrel
          by_cases hlt : k < m
          · obtain ⟨ab, ao, rfl, hB, hcell⟩ := T2.out (by rw [Hl.out]; omega)
            obtain ⟨hc1, -, -⟩ := hcell k (by rw [Hl.out]; omega)
            clear hcell
            obtain ⟨b2, o2, rfl, hB2, h2⟩ := N2.out (by rw [Hs.out]; omega)
            have hc2 := h2 k (by rw [Hs.out]; exact hlt)
            clear h2
            obtain ⟨hc, hf⟩ := old_cells hb
            have hz := hb.size
            have hz1 : ab < wr.heap.size := by omega
            have hz2 : b2 < wr.heap.size := by omega
            have hk0 : (0 : Int) ≤ k := by omega
            have hkm : (k : Int) < m := by omega
            have hkn : (k : Int) < n := by omega
            obtain ⟨q, p2, d, hxyz⟩ : ∃ x y z, l.getD k (0, 0, 0) = (x, y, z) := ⟨_, _, _, rfl⟩
            obtain ⟨x, hx⟩ : ∃ x, s.getD k 0 = x := ⟨_, rfl⟩
            have hst := Lib.hid (Ft.okTo_step l s k)
            have hat : Hid (Ft.okAt l s k = (decide (0 ≤ x) && decide (x ≤ q))) := (by rw [Ft.okAt, hx, hxyz] : Ft.okAt l s k = (decide (0 ≤ x) && decide (x ≤ q)))
            have hno := Lib.hid (Ft.ok_no (l := l) (s := s) (show k < s.length by rw [Hs.out]; exact hlt))
            rw [hxyz] at hc1
            rw [hx] at hc2
            clear hxyz hx
            by_cases h1 : 0 ≤ x
            · have hd2 : decide (x < 0) = false := by simp; omega
              by_cases h3 : x ≤ q
              · have hd3 : decide (q < x) = false := by simp; omega
                go_wp2_with fail
                refine wp_region_later wr.heap.size wr (by kernel_rfl) (by kernel_rfl) (Below.refl _ _) ?_
                repeat (go_big_quiet_step (fail))
                refine wpQuiet_nil ?_
                rintro _ ⟨n1, rfl⟩
                go_wp2
                go_roundw
                case rel => exact ⟨k + 1, by omega, by go_num, (by rw [hst.out, hok.out, hat.out]; simp [h1, h3] : Ft.okTo l s (k + 1) = true), hb.trans (n1.below.mono hz)⟩
                case measure => simp [intOf]; omega
              · have hd3 : decide (q < x) = true := by simp; omega
                go_wp2_with fail
                refine wp_region_later wr.heap.size wr (by kernel_rfl) (by kernel_rfl) (Below.refl _ _) ?_
                repeat (go_big_quiet_step (fail))
                refine wpQuiet_nil ?_
                rintro _ ⟨n1, rfl⟩
                go_wp2
                go_ret
                exact ⟨bool_back (by rw [Ft.within, hno.out (by rw [hat.out]; simp; omega), Bool.and_false]), hW2.out.trans ((hb.trans (n1.below.mono hz)).mono hW2.out.size)⟩
            · have hd2 : decide (x < 0) = true := by simp; omega
              go_wp2_with fail
              refine wp_region_later wr.heap.size wr (by kernel_rfl) (by kernel_rfl) (Below.refl _ _) ?_
              repeat (go_big_quiet_step (fail))
              refine wpQuiet_nil ?_
              rintro _ ⟨n1, rfl⟩
              go_wp2
              go_ret
              exact ⟨bool_back (by rw [Ft.within, hno.out (by rw [hat.out]; simp; omega), Bool.and_false]), hW2.out.trans ((hb.trans (n1.below.mono hz)).mono hW2.out.size)⟩
          · obtain rfl : m = k := by omega
            go_wp2
            go_ret
            exact ⟨bool_back (by rw [Ft.within, Hs.out, Hl.out, hok.out]; simp [hbig]), hW2.out.trans (hb.mono hW2.out.size)⟩
    · have hd1 : decide (n < m) = true := by simp; omega
      have hno : Ft.right l s b p = false := by simp [Ft.right, Ft.within, hln, hsm, hbig]
      rw [hno]
      clear hno ha hln hsm
      go_enter Try.func11, Try.ntmps11
      go_wp2_with fail
      refine (CA.out _ TL.out).mono ?_
      rintro e w1 ⟨rfl, hb1⟩
      have hW := Lib.hid (HB.out.trans (hb1.mono (by simp)))
      clear hb1
      go_wp2
      go_ret
      exact ⟨rfl, hW.out⟩
end Go.Proofs.Ytlpmcmgalodfeaa
