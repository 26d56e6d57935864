/-
  Contracts of package tasks, and of the document's answers: how many ticks a set asks for.
-/
import Derived.Test.YtnhfbfpkjcnicaaTWalksA
import Derived.IntWalk
namespace Go.Proofs.Ytnhfbfpkjcnicaa
open Go.ChangeShapes Go.WideShapes Go.ChangeAt Go.RowKit

theorem zero_back {x : Int} (h : x = 0) : Ending.returned (.int .i64 0) = .returned (.int .i64 x) := by rw [h]


set_option maxHeartbeats 1000000 in
theorem request_any (A : Option Addr) (n c : Nat) (l : List (Int × Int × Int)) (t : Int) (w : World) (hln : l.length = n) (hL : Tks w.heap.size w A l) :
    Calls Try.prog 16 #[.slice A n c, .int .i64 t] w fun e w' => e = .returned (.int .i64 (Tk.reqAns l t)) ∧ Below w.heap.size w w' := by
  have HL := Lib.hid hL
  have Hl := Lib.hid hln
  clear hL hln
  cases hsp : Tk.spans l t with
  | false =>
    have Hsp := Lib.hid hsp
    have C1 := fun w h => spans_any A n c l t w Hl.out h
    rw [hsp] at C1
    clear hsp
    go_enter Try.func16, Try.ntmps16
    go_wp2_with fail
    refine (C1 _ HL.out).mono ?_
    clear C1
    rintro e w1 ⟨rfl, hb⟩
    go_wp2
    go_ret
    exact ⟨zero_back (by simp [Tk.reqAns, Hsp.out]), hb⟩
  | true =>
    have Hsp := Lib.hid hsp
    have C1 := fun w h => spans_any A n c l t w Hl.out h
    rw [hsp] at C1
    have hs := hsp
    simp only [Tk.spans, Bool.and_eq_true, decide_eq_true_eq] at hs
    obtain ⟨⟨ht0, ht1⟩, hall⟩ := hs
    have Hall := Lib.hid hall
    have hn8 : n ≤ 8 := by rw [← Hl.out]; exact Tk.all_len hall
    clear hsp hall
    go_enter Try.func16, Try.ntmps16
    go_wp2_with fail
    refine (C1 _ HL.out).mono ?_
    clear C1
    rintro e w1 ⟨rfl, hb⟩
    go_wp2_with fail
    go_loopw [5, 14] (fun s i wr => ∃ (k : Nat) (x : Int), k ≤ n ∧ i = .int .i64 k ∧ s = .int .i64 x ∧ 0 ≤ x ∧ x ≤ 8796093022208 ∧ Hid (x = Tk.req (l.take k) t) ∧ Below w.heap.size w wr) (fun _ i _ => (n - intOf i).toNat)
    case atStart => exact ⟨0, 0, by omega, rfl, rfl, by omega, by omega, (rfl : (0 : Int) = Tk.req (l.take 0) t), hb⟩
    case round =>
      obtain ⟨k, x, hk, rfl, rfl, hx0, hx1, hx, hb⟩ := hrel
      by_cases hlt : k < n
      · obtain ⟨ab, ao, rfl, hB, hcell⟩ := HL.out (by rw [Hl.out]; omega)
        obtain ⟨hc1, hc2, hc3⟩ := hcell k (by rw [Hl.out]; exact hlt)
        clear hcell
        obtain ⟨hc, hf⟩ := old_cells hb
        have hz := hb.size
        have hz1 : ab < wr.heap.size := by omega
        have hz2 : ab ≤ wr.heap.size := by omega
        have hk0 : (0 : Int) ≤ k := by omega
        have hkn : (k : Int) < n := by omega
        obtain ⟨q, p, d, hxyz⟩ : ∃ x y z, l.getD k (0, 0, 0) = (x, y, z) := ⟨_, _, _, rfl⟩
        have hst := Lib.hid (Tk.req_step (n := t) (show k < l.length by rw [Hl.out]; exact hlt) hxyz)
        obtain ⟨i1, i2, i3, i4⟩ := Tk.all_bd Hall.out (show k < l.length by rw [Hl.out]; exact hlt) hxyz
        have hdb := Lib.hid (Tk.req_bd (n := t) (Tk.len_take Hall.out (k + 1)) (Tk.mem_take_rt Hall.out (k + 1)) ht0 ht1)
        rw [hxyz] at hc1 hc2 hc3
        clear hxyz
        have h6 := Tk.come_bd (n := t) (p := p) ht0 ht1 (by omega)
        have hcn : Hid (Tk.come t p = (t + p - 1) / p) := (rfl : Tk.come t p = (t + p - 1) / p)
        rw [hcn.out] at h6
        have h7 := Tk.mul_bd (a := q) (b := (t + p - 1) / p) (by omega) (by omega) h6.1 h6.2
        have hw0 : IntKind.i64.wrap (t + p) = t + p := IntWalk.i64_in _ (by omega)
        have hw1 : IntKind.i64.wrap (t + p - 1) = t + p - 1 := IntWalk.i64_in _ (by omega)
        have hw2 : IntKind.i64.wrap ((t + p - 1).tdiv p) = (t + p - 1) / p := by
          rw [Int.tdiv_eq_ediv_of_nonneg (by omega)]
          exact IntWalk.i64_in _ (by omega)
        have hw4 : IntKind.i64.wrap (q * ((t + p - 1) / p)) = q * ((t + p - 1) / p) := IntWalk.i64_in _ (by omega)
        have hw5 : IntKind.i64.wrap (x + q * ((t + p - 1) / p)) = x + q * ((t + p - 1) / p) := IntWalk.i64_in _ (by omega)
        have hp0 : p ≠ 0 := by omega
        have Hnx : Hid (x + q * ((t + p - 1) / p) = Tk.req (l.take (k + 1)) t) := (by rw [hst.out, hcn.out, hx.out] : x + q * ((t + p - 1) / p) = Tk.req (l.take (k + 1)) t)
        generalize (t + p - 1) / p = g at *
        obtain ⟨y, hy⟩ : ∃ y, q * g = y := ⟨_, rfl⟩
        rw [hy] at hw4 hw5 Hnx h7
        rw [← hy] at hw4
        replace hw4 := hw4.trans hy
        have Hy := Lib.hid hy
        clear hy
        go_wp2_with fail
        go_quiet (fail)
        go_wp2
        go_roundw
        case rel => exact ⟨k + 1, x + y, by omega, by go_num, rfl, by rw [Hnx.out]; exact hdb.out.1, by rw [Hnx.out]; exact hdb.out.2, Hnx.out, (by (repeat (refine below_drawn ?_)); exact (hb.alloc hz _))⟩
        case measure => simp [intOf]; omega
      · have hkn : Hid (k = n) := (by omega : k = n)
        go_wp2
        go_ret
        refine ⟨int_back ?_, hb⟩
        rw [hx.out, List.take_of_length_le (by rw [Hl.out, hkn.out]; exact Nat.le_refl _), Tk.reqAns, if_pos Hsp.out]
end Go.Proofs.Ytnhfbfpkjcnicaa
