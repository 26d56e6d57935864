/-
  Contracts of package respond: the document's Time, which tries each multiple of the period.
-/
import Derived.Test.YtnhfbfpkjcnicaaQWalksA
namespace Go.Proofs.Ytnhfbfpkjcnicaa
open Go.ChangeShapes Go.WideShapes Go.ChangeAt Go.RowKit

set_option maxHeartbeats 1600000 in
theorem qrtime_any (A : Option Addr) (n c0 : Nat) (l : List (Int × Int × Int)) (c q d h b p u : Int) (w : World) (hln : l.length = n) (hL : Tks w.heap.size w A l)
    (Hall : Hid (Tk.all l = true)) (hc : 1 ≤ c) (hc2 : c ≤ 1048576) (hh : 0 ≤ h) (hh2 : h ≤ 1048576) (hb : 1 ≤ b) (hb2 : b ≤ 1048576) (hp : 1 ≤ p) (hp2 : p ≤ 1048576) (hu0 : 0 ≤ u) (hu : u ≤ 1048576) :
    Calls Try.prog 10 #[.slice A n c0, .agg #[.int .i64 c, .int .i64 q, .int .i64 d], .int .i64 h, .agg #[.int .i64 b, .int .i64 p], .int .i64 u] w fun e w' => e = .returned (.int .i64 (Rp.timeI l c h b p u)) ∧ Below w.heap.size w w' := by
  have hbox : Below w.heap.size w ((w.alloc (.cells #[.int .i64 c, .int .i64 q, .int .i64 d] 24)).alloc (.cells #[.int .i64 b, .int .i64 p] 26)) := by go_grown
  have HB := Lib.hid hbox
  have T0 := Lib.hid (hL.later hbox)
  have B0 : Hid (Below (w.heap.size + 2) ((w.alloc (.cells #[.int .i64 c, .int .i64 q, .int .i64 d] 24)).alloc (.cells #[.int .i64 b, .int .i64 p] 26)) ((w.alloc (.cells #[.int .i64 c, .int .i64 q, .int .i64 d] 24)).alloc (.cells #[.int .i64 b, .int .i64 p] 26))) := Lib.hid (Below.refl _ _)
  clear hbox hL
  have CQ : Hid (∀ (x : Int) (w : World), 0 ≤ x → x ≤ 1048576 → Tks w.heap.size w A l → _) := fun x w h0 h1 h => rrequest_any A n c0 l x w hln h h0 h1 Hall
  have CW : Hid (∀ (x : Int) (w : World), 1 ≤ x → x ≤ 8796095119360 → _) := fun x w h1 h2 => qwait_any b p x u w hb hb2 hp hp2 h1 h2 hu hu0
  have HN : Hid (∀ x, 0 ≤ x → x ≤ 1048576 → 1 ≤ Rp.need l c h x ∧ Rp.need l c h x ≤ 8796095119360) := Lib.hid fun x h0 h1 => Rp.need_bd Hall.out hc hc2 hh hh2 h0 h1
  have HQ : Hid (∀ x, 0 ≤ x → x ≤ 1048576 → 0 ≤ Tk.req l x ∧ Tk.req l x ≤ 8796093022208) := Lib.hid fun x h0 h1 => Tk.req_bd (Tk.all_len Hall.out) (Tk.all_mem Hall.out) h0 h1
  have HI : Hid (Rp.timeI l c h b p u = Rp.hit (Rp.due l c h b p) p u) := Lib.hid rfl
  have HD : Hid (∀ x, Rp.due l c h b p x = Rp.by_ b p (Rp.need l c h x)) := Lib.hid fun x => rfl
  have HE : Hid (∀ x, Rp.need l c h x = c + h + Tk.req l x) := Lib.hid fun x => rfl
  generalize Rp.timeI l c h b p u = y at *
  generalize Rp.due l c h b p = F at *
  generalize Rp.need l c h = G at *
  clear hln
  go_enter Try.func10, Try.ntmps10
  go_wp2_with fail
  go_loopw [11] (fun i wr => ∃ (k : Nat) (x : Int), i = .int .i64 x ∧ 0 ≤ x ∧ x ≤ 2097152 ∧ Hid (x = k * p) ∧ Hid (∀ j : Nat, j < k → F (j * p) ≠ j * p) ∧ Below (w.heap.size + 2) ((w.alloc (.cells #[.int .i64 c, .int .i64 q, .int .i64 d] 24)).alloc (.cells #[.int .i64 b, .int .i64 p] 26)) wr) (fun i _ => (1048577 - intOf i).toNat)
  case atStart => exact ⟨0, 0, rfl, by omega, by omega, (by simp : (0 : Int) = ((0 : Nat) : Int) * p), (fun j hj => by omega : ∀ j : Nat, j < 0 → F (j * p) ≠ j * p), B0.out⟩
  case round =>
    obtain ⟨k, x, rfl, hx0, hx1, hx, hok, hbw⟩ := hrel
    have W4 := Lib.hid (HB.out.trans (hbw.mono (by omega)))
    by_cases hlt : x ≤ u
    · have T4 := Lib.hid (T0.out.later (hbw.mono (by simp)))
      have hz : w.heap.size + 2 ≤ wr.heap.size := by have := hbw.size; simpa using this
      have B4 := Lib.hid hbw
      obtain ⟨hce, hf⟩ := old_cells hbw
      have hz1 : w.heap.size < wr.heap.size := by omega
      have hz2 : w.heap.size + 1 < wr.heap.size := by omega
      clear hbw
      have hn := HN.out x hx0 (by omega)
      have hq := HQ.out x hx0 (by omega)
      have CX := Lib.hid (fun w => CQ.out x w hx0 (by omega))
      have CY := Lib.hid (fun w => CW.out (G x) w hn.1 hn.2)
      have hwe := Rp.wait_eq (b := b) (p := p) (x := G x) hx0 hlt
      rw [← HD.out] at hwe
      rw [HE.out] at CY hn hwe
      generalize Tk.req l x = r at *
      obtain ⟨y2, hy2⟩ : ∃ y2, Rp.waitI b p (c + h + r) u = y2 := ⟨_, rfl⟩
      rw [hy2] at CY hwe
      clear hy2
      by_cases h1 : F x = x
      · rw [decide_eq_true h1] at hwe
        have Hy : Hid (y = x) := Lib.hid (by
          rw [HI.out, hx.out]
          refine Rp.hit_yes hp (by rw [← hx.out]; exact hlt) (by rw [← hx.out]; exact h1) hok.out)
        clear h1
        go_wp2_with fail
        refine wp_region_later wr.heap.size wr (by kernel_rfl) (by kernel_rfl) (Below.refl _ _) ?_
        repeat (go_big_quiet_step (first
          | (with_reducible exact Calls.later_same (CX.out _ (T4.out.later (Later.below _))))
          | ((with_reducible refine Calls.later ?_ (CY.out _)); exact Nat.le_refl _)))
        refine wpQuiet_nil ?_
        rintro _ ⟨n1, rfl⟩
        have W5 := Lib.hid (W4.out.trans (n1.below.mono (by omega)))
        go_wp2
        go_ret
        exact ⟨int_back Hy.out.symm, W5.out⟩
      · rw [decide_eq_false h1] at hwe
        have Hn : Hid (∀ j : Nat, j < k + 1 → F (j * p) ≠ j * p) := (fun j hj => by
          by_cases hjk : j = k
          · rw [hjk, ← hx.out]
            exact h1
          · exact hok.out j (by omega) : ∀ j : Nat, j < k + 1 → F (j * p) ≠ j * p)
        have hnj := Lib.hid (next_job (p := p) k)
        clear h1
        go_wp2_with fail
        refine wp_region_later wr.heap.size wr (by kernel_rfl) (by kernel_rfl) (Below.refl _ _) ?_
        repeat (go_big_quiet_step (first
          | (with_reducible exact Calls.later_same (CX.out _ (T4.out.later (Later.below _))))
          | ((with_reducible refine Calls.later ?_ (CY.out _)); exact Nat.le_refl _)))
        refine wpQuiet_nil ?_
        rintro _ ⟨n1, rfl⟩
        have W5 := Lib.hid (B4.out.trans (n1.below.mono hz))
        go_wp2
        go_roundw
        case rel => exact ⟨k + 1, x + p, rfl, by omega, by omega, (by rw [hnj.out, ← hx.out] : x + p = (k + 1 : Nat) * p), Hn.out, W5.out⟩
        case measure => simp [intOf]; omega
    · have Hy : Hid (y = -1) := Lib.hid (by
        rw [HI.out]
        refine Rp.hit_no hp hu0 fun j hj => ?_
        refine hok.out j ?_
        have := hx.out
        refine Nat.lt_of_not_le fun hkj => ?_
        have := Rp.mul_up hp hkj
        omega)
      clear hbw
      go_wp2
      go_ret
      exact ⟨int_back Hy.out.symm, W4.out⟩
end Go.Proofs.Ytnhfbfpkjcnicaa
