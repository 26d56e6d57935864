/-
  Contracts of Hyper, of package tasks and of the document's answers.
-/
import Derived.Test.YtnchlgdmpjemhaaTWalksA
import Derived.Test.YtnchlgdmpjemhaaTMathC
import Derived.Test.YtnchlgdmpjemhaaWalksD
namespace Go.Proofs.Ytnchlgdmpjemhaa
open Go.ChangeShapes Go.WideShapes Go.ChangeAt Go.RowKit

set_option maxHeartbeats 1000000 in
theorem hyper_no (A : Option Addr) (n c : Nat) (l : List (Int × Int × Int)) (most : Int) (w : World) (hln : l.length = n) (hL : Tks w.heap.size w A l) (h : ¬ (1 ≤ most ∧ most ≤ 1099511627776 ∧ Tk.all l = true)) :
    Calls Try.prog 8 #[.slice A n c, .int .i64 most] w fun e w' => e = .returned (.tuple #[.int .i64 0, .bool false]) ∧ Below w.heap.size w w' := by
  by_cases h1 : 1 ≤ most
  · by_cases h2 : most ≤ 1099511627776
    · have h3 : Tk.all l = false := by
        cases h4 : Tk.all l with
        | false => rfl
        | true => exact absurd ⟨h1, h2, h4⟩ h
      have CA := tall_any A n c l w hln hL
      rw [h3] at CA
      clear h h3
      go_enter Try.func8, Try.ntmps8
      go_wp2_with (go_at_call 11; refine CA.mono ?_; clear CA; rintro e w1 ⟨rfl, hb⟩)
      go_ret2
      exact ⟨rfl, hb⟩
    · clear h
      go_enter Try.func8, Try.ntmps8
      go_wp2_with fail
      go_ret2
      exact ⟨rfl, Below.refl _ _⟩
  · clear h
    go_enter Try.func8, Try.ntmps8
    go_wp2_with fail
    go_ret2
    exact ⟨rfl, Below.refl _ _⟩

set_option maxHeartbeats 1000000 in
theorem hyper_yes (A : Option Addr) (n c : Nat) (l : List (Int × Int × Int)) (most : Int) (w : World) (hln : l.length = n) (hL : Tks w.heap.size w A l) (h1 : 1 ≤ most) (h2 : most ≤ 1099511627776) (Hall : Hid (Tk.all l = true)) :
    Calls Try.prog 8 #[.slice A n c, .int .i64 most] w fun e w' => e = .returned (.tuple #[.int .i64 (Tk.hypTo l most n), .bool (decide (Tk.hypTo l most n ≠ 0))]) ∧ Below w.heap.size w w' := by
  have HL := Lib.hid hL
  have Hl := Lib.hid hln
  clear hL hln
  have hn8 : n ≤ 8 := by rw [← Hl.out]; exact Tk.all_len Hall.out
  have CA : Hid (∀ w : World, Tks w.heap.size w A l → _) := fun w h => tall_any A n c l w Hl.out h
  rw [Hall.out] at CA
  go_enter Try.func8, Try.ntmps8
  go_wp2_with (go_at_call 11; refine (CA.out _ HL.out).mono ?_; rintro e w1 ⟨rfl, hb⟩)
  go_loopw [6, 24] (fun x i wr => ∃ (k : Nat) (y : Int), k ≤ n ∧ i = .int .i64 k ∧ x = .int .i64 y ∧ 1 ≤ y ∧ y ≤ most ∧ Hid (Tk.hypTo l most k = y) ∧ Below w.heap.size w wr) (fun _ i _ => (n - intOf i).toNat)
  case atStart => exact ⟨0, 1, by omega, rfl, rfl, by omega, h1, (rfl : Tk.hypTo l most 0 = 1), hb⟩
  case round =>
    clear hb
    obtain ⟨k, y, hk, rfl, rfl, hy1, hy2, hy, hb⟩ := hrel
    by_cases hlt : k < n
    · obtain ⟨ab, ao, rfl, hB, hcell⟩ := HL.out (by rw [Hl.out]; omega)
      obtain ⟨hc1, hc2, hc3⟩ := hcell k (by rw [Hl.out]; exact hlt)
      clear hcell
      obtain ⟨hc, hf⟩ := old_cells hb
      have hz := hb.size
      have hz1 : ab < wr.heap.size := by omega
      have hz2 : ab ≤ wr.heap.size := by omega
      have hk0 : (0 : Int) ≤ k := by omega
      have hkn : (k : Int) < n := by omega
      obtain ⟨q, p, d, hxyz⟩ : ∃ x y z, l.getD k (0, 0, 0) = (x, y, z) := ⟨_, _, _, rfl⟩
      obtain ⟨i1, i2, i3, i4⟩ := Tk.all_bd Hall.out (show k < l.length by rw [Hl.out]; exact hlt) hxyz
      have hst := Lib.hid (Tk.hypTo_step hy.out hy1 hxyz)
      rw [hxyz] at hc1 hc2 hc3
      clear hxyz
      have hmb := Tk.mult_bd (a := y) (p := p) hy1 (by omega) (by omega) i4
      have CO : Hid (∀ w : World, _) := fun w => of_some y p w (by omega) (by omega) (by omega) (by omega)
      have hm : Hid (Tk.mult y p = y * (p / Rt.gcd y p)) := (rfl : Tk.mult y p = y * (p / Rt.gcd y p))
      obtain ⟨u, hu⟩ : ∃ u, y / Rt.gcd y p = u := ⟨_, rfl⟩
      obtain ⟨v, hv⟩ : ∃ v, p / Rt.gcd y p = v := ⟨_, rfl⟩
      rw [hu, hv] at CO
      rw [hv] at hmb hm
      clear hu hv
      have hmb2 := hmb
      rw [hm.out] at hmb2
      have Hst : Hid (Tk.hypTo l most (k + 1) = if most < y * v then 0 else y * v) := (by rw [hst.out, hm.out] : Tk.hypTo l most (k + 1) = if most < y * v then 0 else y * v)
      clear hst hm hmb
      go_wp2_with fail
      refine (CO.out _).mono ?_
      rintro e w3 ⟨rfl, hb3⟩
      have hb4 := (hb.alloc hz (.cells #[.int .i64 q, .int .i64 p, .int .i64 d] 24)).trans (hb3.mono (by simp; omega))
      clear hb3
      by_cases hmost : most < y * v
      · have hH : Hid (Tk.hypTo l most n = 0) := (Tk.hypTo_far (by rw [Hst.out, if_pos hmost]) n (by omega) : Tk.hypTo l most n = 0)
        go_wp2
        go_ret2
        exact ⟨two_back_b hH.out.symm (by rw [hH.out]; rfl), hb4.alloc hb4.size _⟩
      · have Hst2 : Hid (Tk.hypTo l most (k + 1) = y * v) := (by rw [Hst.out, if_neg hmost] : Tk.hypTo l most (k + 1) = y * v)
        go_wp2
        go_roundw
        case rel => exact ⟨k + 1, y * v, by omega, by go_num, rfl, by omega, by omega, Hst2.out, hb4.alloc hb4.size _⟩
        case measure => simp [intOf]; omega
    · have hkn : Hid (k = n) := (by omega : k = n)
      have hH : Hid (Tk.hypTo l most n = y) := (by rw [← hkn.out]; exact hy.out : Tk.hypTo l most n = y)
      have hnz : Hid (decide (y ≠ 0) = true) := (by simp; omega : decide (y ≠ 0) = true)
      go_wp2
      go_ret2
      exact ⟨two_back_b hH.out.symm (by rw [hH.out, hnz.out]), hb⟩

set_option maxHeartbeats 1000000 in
theorem rhyper_any (A : Option Addr) (n c : Nat) (l : List (Int × Int × Int)) (most : Int) (w : World) (hln : l.length = n) (hL : Tks w.heap.size w A l) (h1 : 1 ≤ most) (h2 : most ≤ 1099511627776) (Hall : Hid (Tk.all l = true)) :
    Calls Try.prog 18 #[.slice A n c, .int .i64 most] w fun e w' => e = .returned (.tuple #[.int .i64 (Tk.hypTo l most n), .bool (decide (Tk.hypTo l most n ≠ 0))]) ∧ w = w' := by
  have HL := Lib.hid hL
  have Hl := Lib.hid hln
  clear hL hln
  have hn8 : n ≤ 8 := by rw [← Hl.out]; exact Tk.all_len Hall.out
  go_enter Try.func18, Try.ntmps18
  go_wp2_with fail
  go_loop [6, 7] (fun x i => ∃ (k : Nat) (y : Int), k ≤ n ∧ i = .int .i64 k ∧ x = .int .u64 y ∧ 1 ≤ y ∧ y ≤ most ∧ Hid (Tk.hypTo l most k = y)) (fun _ i => (n - intOf i).toNat)
  case atStart => exact ⟨0, 1, by omega, rfl, rfl, by omega, h1, (rfl : Tk.hypTo l most 0 = 1)⟩
  case round =>
    obtain ⟨k, y, hk, rfl, rfl, hy1, hy2, hy⟩ := hrel
    by_cases hlt : k < n
    · obtain ⟨ab, ao, rfl, hB, hcell⟩ := HL.out (by rw [Hl.out]; omega)
      obtain ⟨hc1, hc2, hc3⟩ := hcell k (by rw [Hl.out]; exact hlt)
      clear hcell
      have hk0 : (0 : Int) ≤ k := by omega
      have hkn : (k : Int) < n := by omega
      obtain ⟨q, p, d, hxyz⟩ : ∃ x y z, l.getD k (0, 0, 0) = (x, y, z) := ⟨_, _, _, rfl⟩
      obtain ⟨i1, i2, i3, i4⟩ := Tk.all_bd Hall.out (show k < l.length by rw [Hl.out]; exact hlt) hxyz
      have hst := Lib.hid (Tk.hypTo_step hy.out hy1 hxyz)
      rw [hxyz] at hc1 hc2 hc3
      clear hxyz
      have hmb := Tk.mult_bd (a := y) (p := p) hy1 (by omega) (by omega) i4
      have hpw := Tk.part_word (a := y) (p := p) (by omega) (by omega)
      have hmo := Lib.hid (Tk.mult_other (a := y) (p := p) (by omega) (by omega))
      have hgp := Rt.gcd_pos y p (by omega)
      have hgb := Rt.gcd_le y p (by omega)
      have hg0 : Rt.gcd y p ≠ 0 := by omega
      have CC : Hid (∀ w : World, _) := fun w => common_any y p w (by omega) (by omega) (by omega) (by omega)
      obtain ⟨g, hg⟩ : ∃ g, Rt.gcd y p = g := ⟨_, rfl⟩
      rw [hg] at CC hpw hmo hgp hgb hg0
      rw [hg] at hmb
      obtain ⟨mm, hmm⟩ : ∃ mm, Tk.mult y p = mm := ⟨_, rfl⟩
      rw [hmm] at hst hmb hmo
      clear hg hmm
      obtain ⟨-, -, hm1, hm2⟩ := hmb
      have hmo2 := hmo.out
      have hb1 : 0 ≤ y / g * p := by rw [hmo2]; omega
      have hb2 : y / g * p ≤ 1152921504606846976 := by rw [hmo2]; omega
      clear hmo2
      have Hst : Hid (Tk.hypTo l most (k + 1) = if most < y / g * p then 0 else y / g * p) := (by rw [hst.out, hmo.out] : Tk.hypTo l most (k + 1) = if most < y / g * p then 0 else y / g * p)
      have hb3 : 1 ≤ y / g * p := by rw [hmo.out]; omega
      by_cases hmost : most < y / g * p
      · have hH : Hid (Tk.hypTo l most n = 0) := (Tk.hypTo_far (by rw [Hst.out, if_pos hmost]) n (by omega) : Tk.hypTo l most n = 0)
        go_wp2_with (go_at_call 33; refine (CC.out _).mono ?_; rintro e w' ⟨rfl, rfl⟩)
        go_ret2
        exact ⟨two_back_b hH.out.symm (by rw [hH.out]; rfl), rfl⟩
      · have Hst2 : Hid (Tk.hypTo l most (k + 1) = y / g * p) := (by rw [Hst.out, if_neg hmost] : Tk.hypTo l most (k + 1) = y / g * p)
        go_wp2_with (go_at_call 33; refine (CC.out _).mono ?_; rintro e w' ⟨rfl, rfl⟩)
        go_round
        case rel => exact ⟨k + 1, y / g * p, by omega, by go_num, rfl, by omega, by omega, Hst2.out⟩
        case measure => simp [intOf]; omega
    · have hkn : Hid (k = n) := (by omega : k = n)
      have hH : Hid (Tk.hypTo l most n = y) := (by rw [← hkn.out]; exact hy.out : Tk.hypTo l most n = y)
      go_wp2
      go_ret2
      exact ⟨two_back_b hH.out.symm (by rw [hH.out]; simp; omega), rfl⟩
end Go.Proofs.Ytnchlgdmpjemhaa
