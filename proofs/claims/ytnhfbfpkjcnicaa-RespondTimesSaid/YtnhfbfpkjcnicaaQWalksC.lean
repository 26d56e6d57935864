/-
  Contracts of package respond: Time goes up from 0, each time to the wait for what is asked for by then.
-/
import Derived.Test.YtnhfbfpkjcnicaaQWalksB
namespace Go.Proofs.Ytnhfbfpkjcnicaa
open Go.ChangeShapes Go.WideShapes Go.ChangeAt Go.RowKit

set_option maxRecDepth 100000 in
set_option maxHeartbeats 2000000 in
theorem qtime_any (A : Option Addr) (n c0 : Nat) (l : List (Int × Int × Int)) (c q d h b p u : Int) (w : World) (hln : l.length = n) (hL : Tks w.heap.size w A l) :
    Calls Try.prog 5 #[.slice A n c0, .agg #[.int .i64 c, .int .i64 q, .int .i64 d], .int .i64 h, .agg #[.int .i64 b, .int .i64 p], .int .i64 u] w fun e w' => e = .returned (.tuple #[.int .i64 (Rp.timeN l c q d h b p u), .int .i64 (Rp.timeE l c q d h b p u)]) ∧ Below w.heap.size w w' := by
  have hbox : Below w.heap.size w ((w.alloc (.cells #[.int .i64 c, .int .i64 q, .int .i64 d] 24)).alloc (.cells #[.int .i64 b, .int .i64 p] 31)) := by go_grown
  have HB := Lib.hid hbox
  have T0 := Lib.hid (hL.later hbox)
  have B0 : Hid (Below (w.heap.size + 2) ((w.alloc (.cells #[.int .i64 c, .int .i64 q, .int .i64 d] 24)).alloc (.cells #[.int .i64 b, .int .i64 p] 31)) ((w.alloc (.cells #[.int .i64 c, .int .i64 q, .int .i64 d] 24)).alloc (.cells #[.int .i64 b, .int .i64 p] 31))) := Lib.hid (Below.refl _ _)
  have z0 : Hid (w.heap.size + 2 ≤ ((w.alloc (.cells #[.int .i64 c, .int .i64 q, .int .i64 d] 24)).alloc (.cells #[.int .i64 b, .int .i64 p] 31)).heap.size) := Lib.hid (by simp)
  clear hbox hL
  have CA : Hid (∀ w : World, Tks w.heap.size w A l → _) := fun w h => tall_any A n c0 l w hln h
  have CR : Hid (∀ w : World, _) := fun w => tright_any c q d w
  have CH : Hid (∀ w : World, _) := fun w => qspans_any h w
  have CU : Hid (∀ w : World, _) := fun w => qspans_any u w
  have CS : Hid (∀ w : World, _) := fun w => sright_any b p w
  cases hA : Tk.all l with
  | false =>
    rw [hA] at CA
    have ha : Rp.asks l c q d h b p u = false := by simp [Rp.asks, hA]
    rw [show Rp.timeN l c q d h b p u = 0 by simp [Rp.timeN, ha], show Rp.timeE l c q d h b p u = 1 by simp [Rp.timeE, ha]]
    clear ha hA hln
    go_enter Try.func5, Try.ntmps5
    go_wp2_with fail
    refine (CA.out _ T0.out).mono ?_
    rintro e w1 ⟨rfl, hb⟩
    have B1 := Lib.hid (B0.out.trans (hb.mono z0.out))
    have T1 := Lib.hid (T0.out.later hb)
    have z1 := Lib.hid (Nat.le_trans z0.out hb.size)
    clear hb
    obtain ⟨hc, hf⟩ := old_cells B1.out
    have hz0 : w.heap.size < w1.heap.size := by have := z1.out; omega
    have hz1 : w.heap.size + 1 < w1.heap.size := by have := z1.out; omega
    go_wp2
    go_ret2
    exact ⟨rfl, HB.out.trans (B1.out.mono (by omega))⟩
  | true =>
    rw [hA] at CA
    cases hR : Tk.right c q d with
    | false =>
      rw [hR] at CR
      have ha : Rp.asks l c q d h b p u = false := by simp [Rp.asks, hR]
      rw [show Rp.timeN l c q d h b p u = 0 by simp [Rp.timeN, ha], show Rp.timeE l c q d h b p u = 1 by simp [Rp.timeE, ha]]
      clear ha hA hR hln
      go_enter Try.func5, Try.ntmps5
      go_wp2_with fail
      refine (CA.out _ T0.out).mono ?_
      rintro e w1 ⟨rfl, hb⟩
      have B1 := Lib.hid (B0.out.trans (hb.mono z0.out))
      have T1 := Lib.hid (T0.out.later hb)
      have z1 := Lib.hid (Nat.le_trans z0.out hb.size)
      clear hb
      obtain ⟨hc, hf⟩ := old_cells B1.out
      have hz0 : w.heap.size < w1.heap.size := by have := z1.out; omega
      have hz1 : w.heap.size + 1 < w1.heap.size := by have := z1.out; omega
      go_wp2_with fail
      refine (CR.out _).mono ?_
      rintro e w2 ⟨rfl, hb⟩
      have B2 := Lib.hid (B1.out.trans (hb.mono z1.out))
      have T2 := Lib.hid (T1.out.later hb)
      have z2 := Lib.hid (Nat.le_trans z1.out hb.size)
      clear hb
      clear hc hf hz0 hz1
      obtain ⟨hc, hf⟩ := old_cells B2.out
      have hz0 : w.heap.size < w2.heap.size := by have := z2.out; omega
      have hz1 : w.heap.size + 1 < w2.heap.size := by have := z2.out; omega
      go_wp2
      go_ret2
      exact ⟨rfl, HB.out.trans (B2.out.mono (by omega))⟩
    | true =>
      rw [hR] at CR
      cases hH : Sp.asks h with
      | false =>
        rw [hH] at CH
        have ha : Rp.asks l c q d h b p u = false := by simp [Rp.asks, hH]
        rw [show Rp.timeN l c q d h b p u = 0 by simp [Rp.timeN, ha], show Rp.timeE l c q d h b p u = 1 by simp [Rp.timeE, ha]]
        clear ha hA hR hH hln
        go_enter Try.func5, Try.ntmps5
        go_wp2_with fail
        refine (CA.out _ T0.out).mono ?_
        rintro e w1 ⟨rfl, hb⟩
        have B1 := Lib.hid (B0.out.trans (hb.mono z0.out))
        have T1 := Lib.hid (T0.out.later hb)
        have z1 := Lib.hid (Nat.le_trans z0.out hb.size)
        clear hb
        obtain ⟨hc, hf⟩ := old_cells B1.out
        have hz0 : w.heap.size < w1.heap.size := by have := z1.out; omega
        have hz1 : w.heap.size + 1 < w1.heap.size := by have := z1.out; omega
        go_wp2_with fail
        refine (CR.out _).mono ?_
        rintro e w2 ⟨rfl, hb⟩
        have B2 := Lib.hid (B1.out.trans (hb.mono z1.out))
        have T2 := Lib.hid (T1.out.later hb)
        have z2 := Lib.hid (Nat.le_trans z1.out hb.size)
        clear hb
        clear hc hf hz0 hz1
        obtain ⟨hc, hf⟩ := old_cells B2.out
        have hz0 : w.heap.size < w2.heap.size := by have := z2.out; omega
        have hz1 : w.heap.size + 1 < w2.heap.size := by have := z2.out; omega
        go_wp2_with fail
        refine (CH.out _).mono ?_
        rintro e ws ⟨rfl, rfl⟩
        go_wp2
        go_ret2
        exact ⟨rfl, HB.out.trans (B2.out.mono (by omega))⟩
      | true =>
        rw [hH] at CH
        cases hU : Sp.asks u with
        | false =>
          rw [hU] at CU
          have ha : Rp.asks l c q d h b p u = false := by simp [Rp.asks, hU]
          rw [show Rp.timeN l c q d h b p u = 0 by simp [Rp.timeN, ha], show Rp.timeE l c q d h b p u = 1 by simp [Rp.timeE, ha]]
          clear ha hA hR hH hU hln
          go_enter Try.func5, Try.ntmps5
          go_wp2_with fail
          refine (CA.out _ T0.out).mono ?_
          rintro e w1 ⟨rfl, hb⟩
          have B1 := Lib.hid (B0.out.trans (hb.mono z0.out))
          have T1 := Lib.hid (T0.out.later hb)
          have z1 := Lib.hid (Nat.le_trans z0.out hb.size)
          clear hb
          obtain ⟨hc, hf⟩ := old_cells B1.out
          have hz0 : w.heap.size < w1.heap.size := by have := z1.out; omega
          have hz1 : w.heap.size + 1 < w1.heap.size := by have := z1.out; omega
          go_wp2_with fail
          refine (CR.out _).mono ?_
          rintro e w2 ⟨rfl, hb⟩
          have B2 := Lib.hid (B1.out.trans (hb.mono z1.out))
          have T2 := Lib.hid (T1.out.later hb)
          have z2 := Lib.hid (Nat.le_trans z1.out hb.size)
          clear hb
          clear hc hf hz0 hz1
          obtain ⟨hc, hf⟩ := old_cells B2.out
          have hz0 : w.heap.size < w2.heap.size := by have := z2.out; omega
          have hz1 : w.heap.size + 1 < w2.heap.size := by have := z2.out; omega
          go_wp2_with fail
          refine (CH.out _).mono ?_
          rintro e ws ⟨rfl, rfl⟩
          go_wp2_with fail
          refine (CU.out _).mono ?_
          rintro e ws ⟨rfl, rfl⟩
          go_wp2
          go_ret2
          exact ⟨rfl, HB.out.trans (B2.out.mono (by omega))⟩
        | true =>
          rw [hU] at CU
          cases hS : Sp.right b p with
          | false =>
            rw [hS] at CS
            have ha : Rp.asks l c q d h b p u = false := by simp [Rp.asks, hS]
            rw [show Rp.timeN l c q d h b p u = 0 by simp [Rp.timeN, ha], show Rp.timeE l c q d h b p u = 1 by simp [Rp.timeE, ha]]
            clear ha hA hR hH hU hS hln
            go_enter Try.func5, Try.ntmps5
            go_wp2_with fail
            refine (CA.out _ T0.out).mono ?_
            rintro e w1 ⟨rfl, hb⟩
            have B1 := Lib.hid (B0.out.trans (hb.mono z0.out))
            have T1 := Lib.hid (T0.out.later hb)
            have z1 := Lib.hid (Nat.le_trans z0.out hb.size)
            clear hb
            obtain ⟨hc, hf⟩ := old_cells B1.out
            have hz0 : w.heap.size < w1.heap.size := by have := z1.out; omega
            have hz1 : w.heap.size + 1 < w1.heap.size := by have := z1.out; omega
            go_wp2_with fail
            refine (CR.out _).mono ?_
            rintro e w2 ⟨rfl, hb⟩
            have B2 := Lib.hid (B1.out.trans (hb.mono z1.out))
            have T2 := Lib.hid (T1.out.later hb)
            have z2 := Lib.hid (Nat.le_trans z1.out hb.size)
            clear hb
            clear hc hf hz0 hz1
            obtain ⟨hc, hf⟩ := old_cells B2.out
            have hz0 : w.heap.size < w2.heap.size := by have := z2.out; omega
            have hz1 : w.heap.size + 1 < w2.heap.size := by have := z2.out; omega
            go_wp2_with fail
            refine (CH.out _).mono ?_
            rintro e ws ⟨rfl, rfl⟩
            go_wp2_with fail
            refine (CU.out _).mono ?_
            rintro e ws ⟨rfl, rfl⟩
            go_wp2_with fail
            refine (CS.out _).mono ?_
            rintro e w3 ⟨rfl, hb⟩
            have B3 := Lib.hid (B2.out.trans (hb.mono z2.out))
            have T3 := Lib.hid (T2.out.later hb)
            have z3 := Lib.hid (Nat.le_trans z2.out hb.size)
            clear hb
            clear hc hf hz0 hz1
            obtain ⟨hc, hf⟩ := old_cells B3.out
            have hz0 : w.heap.size < w3.heap.size := by have := z3.out; omega
            have hz1 : w.heap.size + 1 < w3.heap.size := by have := z3.out; omega
            go_wp2
            go_ret2
            exact ⟨rfl, HB.out.trans (B3.out.mono (by omega))⟩
          | true =>
            rw [hS] at CS
            have ha : Rp.asks l c q d h b p u = true := by simp [Rp.asks, hA, hR, hH, hU, hS]
            rw [show Rp.timeN l c q d h b p u = if Rp.timeI l c h b p u < 0 then 0 else Rp.timeI l c h b p u by simp [Rp.timeN, ha], show Rp.timeE l c q d h b p u = if Rp.timeI l c h b p u < 0 then 24 else 0 by simp [Rp.timeE, ha]]
            obtain ⟨-, -, ⟨hh0, hh1⟩, ⟨hu0, hu1⟩, -⟩ := Rp.asks_iff.1 ha
            obtain ⟨s1, s2, s3⟩ := Sp.right_iff.1 hS
            obtain ⟨i1, i2, i3, i4⟩ := Tk.right_iff.1 hR
            have Hall := Lib.hid hA
            have Hr := Lib.hid hS
            have hp : 1 ≤ p := by omega
            have CQ : Hid (∀ (x : Int) (w : World), 0 ≤ x → x ≤ 1048576 → Tks w.heap.size w A l → Calls Try.prog 16 #[.slice A n c0, .int .i64 x] w fun e w' => e = .returned (.int .i64 (Tk.req l x)) ∧ Below w.heap.size w w') := Lib.hid fun x w h0 h1 h => by
              have := request_any A n c0 l x w hln h
              rwa [show Tk.reqAns l x = Tk.req l x by simp [Tk.reqAns, Tk.spans, h0, h1, Hall.out]] at this
            have CW : Hid (∀ (x : Int) (w : World), _) := fun x w => wait_any b p x w
            have HN : Hid (∀ x, 0 ≤ x → x ≤ 1048576 → 1 ≤ Rp.need l c h x ∧ Rp.need l c h x ≤ 8796095119360) := Lib.hid fun x h0 h1 => Rp.need_bd Hall.out i1 (by omega) hh0 hh1 h0 h1
            have HQ : Hid (∀ x, 0 ≤ x → x ≤ 1048576 → 0 ≤ Tk.req l x ∧ Tk.req l x ≤ 8796093022208) := Lib.hid fun x h0 h1 => Tk.req_bd (Tk.all_len Hall.out) (Tk.all_mem Hall.out) h0 h1
            have HI : Hid (Rp.timeI l c h b p u = Rp.hit (Rp.due l c h b p) p u) := Lib.hid rfl
            have HD : Hid (∀ x, Rp.due l c h b p x = Rp.by_ b p (Rp.need l c h x)) := Lib.hid fun x => rfl
            have HE : Hid (∀ x, Rp.need l c h x = c + h + Tk.req l x) := Lib.hid fun x => rfl
            have HU : Hid (Rp.Up (Rp.due l c h b p)) := Lib.hid (Rp.due_up Hall.out s1 hp)
            have HF0 : Hid (0 ≤ Rp.due l c h b p 0) := Lib.hid (by rw [HD.out]; exact Rp.by_pos s1 hp (by have := (HN.out 0 (by omega) (by omega)).1; omega))
            generalize Rp.timeI l c h b p u = y at *
            obtain ⟨y1, hy1⟩ : ∃ z, (if y < 0 then 0 else y) = z := ⟨_, rfl⟩
            obtain ⟨y2, hy2⟩ : ∃ z : Int, (if y < 0 then 24 else 0) = z := ⟨_, rfl⟩
            rw [hy1, hy2]
            have HY1 := Lib.hid hy1
            have HY2 := Lib.hid hy2
            clear hy1 hy2
            generalize Rp.due l c h b p = F at *
            generalize Rp.need l c h = G at *
            clear ha hA hR hH hU hS hln
            go_enter Try.func5, Try.ntmps5
            go_wp2_with fail
            refine (CA.out _ T0.out).mono ?_
            rintro e w1 ⟨rfl, hb⟩
            have B1 := Lib.hid (B0.out.trans (hb.mono z0.out))
            have T1 := Lib.hid (T0.out.later hb)
            have z1 := Lib.hid (Nat.le_trans z0.out hb.size)
            clear hb
            obtain ⟨hc, hf⟩ := old_cells B1.out
            have hz0 : w.heap.size < w1.heap.size := by have := z1.out; omega
            have hz1 : w.heap.size + 1 < w1.heap.size := by have := z1.out; omega
            go_wp2_with fail
            refine (CR.out _).mono ?_
            rintro e w2 ⟨rfl, hb⟩
            have B2 := Lib.hid (B1.out.trans (hb.mono z1.out))
            have T2 := Lib.hid (T1.out.later hb)
            have z2 := Lib.hid (Nat.le_trans z1.out hb.size)
            clear hb
            clear hc hf hz0 hz1
            obtain ⟨hc, hf⟩ := old_cells B2.out
            have hz0 : w.heap.size < w2.heap.size := by have := z2.out; omega
            have hz1 : w.heap.size + 1 < w2.heap.size := by have := z2.out; omega
            go_wp2_with fail
            refine (CH.out _).mono ?_
            rintro e ws ⟨rfl, rfl⟩
            go_wp2_with fail
            refine (CU.out _).mono ?_
            rintro e ws ⟨rfl, rfl⟩
            go_wp2_with fail
            refine (CS.out _).mono ?_
            rintro e w3 ⟨rfl, hb⟩
            have B3 := Lib.hid (B2.out.trans (hb.mono z2.out))
            have T3 := Lib.hid (T2.out.later hb)
            have z3 := Lib.hid (Nat.le_trans z2.out hb.size)
            clear hb
            clear hc hf hz0 hz1
            obtain ⟨hc, hf⟩ := old_cells B3.out
            have hz0 : w.heap.size < w3.heap.size := by have := z3.out; omega
            have hz1 : w.heap.size + 1 < w3.heap.size := by have := z3.out; omega
            clear hc hf hz0 hz1
            go_wp2_with fail
            go_loopw [12] (fun i wr => ∃ (k : Nat) (x : Int), i = .int .i64 x ∧ 0 ≤ x ∧ x ≤ u ∧ Hid (x = k * p) ∧ Hid (Rp.At F p u k) ∧ Below (w.heap.size + 2) ((w.alloc (.cells #[.int .i64 c, .int .i64 q, .int .i64 d] 24)).alloc (.cells #[.int .i64 b, .int .i64 p] 31)) wr) (fun i _ => (u - intOf i).toNat)
            case atStart => exact ⟨0, 0, rfl, by omega, by omega, (by simp : (0 : Int) = ((0 : Nat) : Int) * p), Rp.At.start hu0 HF0.out, B3.out⟩
            case round =>
              obtain ⟨k, x, rfl, hx0, hx1, hx, hat, hbw⟩ := hrel
              have T4 := Lib.hid (T0.out.later (hbw.mono (by simp)))
              have hz : w.heap.size + 2 ≤ wr.heap.size := by have := hbw.size; simpa using this
              have B4 := Lib.hid hbw
              have W4 := Lib.hid (HB.out.trans (hbw.mono (by omega)))
              obtain ⟨hce, hf⟩ := old_cells hbw
              have hz1 : w.heap.size < wr.heap.size := by omega
              have hz2 : w.heap.size + 1 < wr.heap.size := by omega
              clear hbw
              have hn := HN.out x hx0 (by omega)
              have hq := HQ.out x hx0 (by omega)
              have CX := Lib.hid (fun w => CQ.out x w hx0 (by omega))
              have CY := Lib.hid (fun w => CW.out (G x) w)
              have Hon := Lib.hid hn.1
              have HFx := Lib.hid (HD.out x)
              rw [HE.out] at CY hn HFx
              have HEx := Lib.hid (HE.out x)
              generalize Tk.req l x = r at *
              cases hok : Sp.waitOk b p (c + h + r) with
              | false =>
                rw [hok] at CY
                have Hy : Hid (y = -1) := Lib.hid (by
                  rw [HI.out]
                  refine hat.out.far HU.out hp ?_
                  rw [← hx.out, HFx.out]
                  have := Rp.wait_far Hr.out hn.1 hok
                  omega)
                generalize Sp.waitN b p (c + h + r) = v at *
                clear hok
                go_wp2_with fail
                refine wp_region_later wr.heap.size wr (by kernel_rfl) (by kernel_rfl) (Below.refl _ _) ?_
                repeat (go_big_quiet_step (first
                  | ((with_reducible refine Calls.later ?_ (CX.out _ (T4.out.later (Later.below _)))); exact Nat.le_refl _)
                  | ((with_reducible refine Calls.later ?_ (CY.out _)); exact Nat.le_refl _)))
                refine wpQuiet_nil ?_
                rintro _ ⟨n1, rfl⟩
                have W5 := Lib.hid (W4.out.trans (n1.below.mono (by omega)))
                go_wp2
                go_ret2
                exact ⟨two_back (by rw [← HY1.out, Hy.out]; rfl) (by rw [← HY2.out, Hy.out]; rfl), W5.out⟩
              | true =>
                rw [hok, Rp.wait_at hok hn.1, ← HFx.out] at CY
                have Hm := Lib.hid (Rp.by_mult (p := p) s1 (show 0 ≤ c + h + r by omega))
                rw [← HFx.out] at Hm
                generalize (Sp.up (c + h + r) b + 1).toNat = k2 at *
                have hv0 : 0 ≤ F x ∧ F x ≤ 1048576 := by
                  have h1 := Sp.wait_yes hok
                  rw [Rp.wait_at hok hn.1, ← HFx.out] at h1
                  exact ⟨h1.1, h1.2.1⟩
                obtain ⟨v, hv⟩ : ∃ v, F x = v := ⟨_, rfl⟩
                rw [hv] at CY Hm hv0
                have Hv := Lib.hid hv
                clear hok hv
                by_cases h1 : v ≤ u
                · by_cases h2 : v = x
                  · have Hy : Hid (y = x) := Lib.hid (by
                      rw [HI.out, hat.out.hits hp (by rw [← hx.out, Hv.out]; exact h2), hx.out])
                    subst h2
                    go_wp2_with fail
                    refine wp_region_later wr.heap.size wr (by kernel_rfl) (by kernel_rfl) (Below.refl _ _) ?_
                    repeat (go_big_quiet_step (first
                      | ((with_reducible refine Calls.later ?_ (CX.out _ (T4.out.later (Later.below _)))); exact Nat.le_refl _)
                      | ((with_reducible refine Calls.later ?_ (CY.out _)); exact Nat.le_refl _)))
                    refine wpQuiet_nil ?_
                    rintro _ ⟨n1, rfl⟩
                    have W5 := Lib.hid (W4.out.trans (n1.below.mono (by omega)))
                    go_wp2
                    go_ret2
                    exact ⟨two_back (by rw [← HY1.out, Hy.out, if_neg (by omega)]) (by rw [← HY2.out, Hy.out, if_neg (by omega)]), W5.out⟩
                  · have hnx := hat.out.next (k' := k2) HU.out hp (by rw [← hx.out, Hv.out]; exact Hm.out) (by rw [← Hm.out]; exact h1) (by rw [← hx.out, Hv.out]; exact h2)
                    rw [← Hm.out, ← hx.out] at hnx
                    have hlt := hnx.2
                    have Hat := Lib.hid hnx.1
                    have hb2 : (v == x) = false := beq_eq_false_iff_ne.2 h2
                    clear hnx h2
                    go_wp2_with fail
                    refine wp_region_later wr.heap.size wr (by kernel_rfl) (by kernel_rfl) (Below.refl _ _) ?_
                    repeat (go_big_quiet_step (first
                      | ((with_reducible refine Calls.later ?_ (CX.out _ (T4.out.later (Later.below _)))); exact Nat.le_refl _)
                      | ((with_reducible refine Calls.later ?_ (CY.out _)); exact Nat.le_refl _)))
                    refine wpQuiet_nil ?_
                    rintro _ ⟨n1, rfl⟩
                    have W5 := Lib.hid (B4.out.trans (n1.below.mono hz))
                    go_wp2
                    go_roundw
                    case rel => exact ⟨k2, v, rfl, by omega, h1, Hm.out, Hat.out, W5.out⟩
                    case measure => simp [intOf]; omega
                · have Hy : Hid (y = -1) := Lib.hid (by
                    rw [HI.out]
                    refine hat.out.far HU.out hp ?_
                    rw [← hx.out, Hv.out]
                    omega)
                  go_wp2_with fail
                  refine wp_region_later wr.heap.size wr (by kernel_rfl) (by kernel_rfl) (Below.refl _ _) ?_
                  repeat (go_big_quiet_step (first
                    | ((with_reducible refine Calls.later ?_ (CX.out _ (T4.out.later (Later.below _)))); exact Nat.le_refl _)
                    | ((with_reducible refine Calls.later ?_ (CY.out _)); exact Nat.le_refl _)))
                  refine wpQuiet_nil ?_
                  rintro _ ⟨n1, rfl⟩
                  have W5 := Lib.hid (W4.out.trans (n1.below.mono (by omega)))
                  go_wp2
                  go_ret2
                  exact ⟨two_back (by rw [← HY1.out, Hy.out]; rfl) (by rw [← HY2.out, Hy.out]; rfl), W5.out⟩
end Go.Proofs.Ytnhfbfpkjcnicaa
