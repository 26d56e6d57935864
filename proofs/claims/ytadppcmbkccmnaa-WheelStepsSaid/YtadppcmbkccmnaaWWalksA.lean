/-
  Contracts: bits.Len, level, digit, of; cmp.Compare, cmp.Or, inOrder.
-/
import Derived.Test.YtadppcmbkccmnaaRows
import Derived.Test.YtadppcmbkccmnaaWMath
import Derived.Test.YtadppcmbkccmnaaKit
import Derived.BigRegion
import Derived.IntWalk
namespace Go.Proofs.Ytadppcmbkccmnaa
open Go.ChangeShapes Go.WideShapes Go.ChangeAt Go.RowKit Wh

theorem len_leaf (x y : Int) (s : Nat) (hy : y.toNat = x.toNat / 2 ^ s) (h1 : 1 ≤ y) (h2 : y < 256) (hs : s ≤ 56) : wrap64 ((s : Int) + wrap64 (bitLen y.toNat : Int)) = (bitLen x.toNat : Int) := by
  have h3 := bitLen_le8 y.toNat (by omega)
  have h4 : x.toNat / 2 ^ s ≠ 0 := by
    rw [← hy]
    omega
  have h5 := bitLen_shift x.toNat s h4
  rw [← hy] at h5
  rw [IntWalk.wrap64_in (bitLen y.toNat : Int) ⟨by omega, by omega⟩, IntWalk.wrap64_in _ ⟨by omega, by omega⟩]
  omega

set_option maxRecDepth 1000000 in
set_option maxHeartbeats 1000000 in
theorem len64_any (x : Int) (w : World) (hx : 0 ≤ x) (hx2 : x < 18446744073709551616) :
    Calls Try.prog 43 #[.int .u64 x] w fun e w' => e = .returned (.int .i64 (bitLen x.toNat)) ∧ w = w' := by
  go_enter Try.func43, Try.ntmps43
  go_wp2
  all_goals (go_ret; refine ⟨int_back ?_, rfl⟩; rw [len8tab_get])
  · exact len_leaf x _ 56 (by omega) (by omega) (by omega) (by omega)
  · exact len_leaf x _ 48 (by omega) (by omega) (by omega) (by omega)
  · exact len_leaf x _ 40 (by omega) (by omega) (by omega) (by omega)
  · exact len_leaf x _ 32 (by omega) (by omega) (by omega) (by omega)
  · exact len_leaf x _ 24 (by omega) (by omega) (by omega) (by omega)
  · exact len_leaf x _ 16 (by omega) (by omega) (by omega) (by omega)
  · exact len_leaf x _ 8 (by omega) (by omega) (by omega) (by omega)
  · have h3 := bitLen_le8 x.toNat (by omega)
    rw [IntWalk.wrap64_in (bitLen x.toNat : Int) ⟨by omega, by omega⟩, IntWalk.wrap64_in _ ⟨by omega, by omega⟩]

theorem len_any (n : Nat) (w : World) (hn : n < 16777216) : Calls Try.prog 31 #[.int .u64 (n : Nat)] w fun e w' => e = .returned (.int .i64 (bitLen n : Nat)) ∧ w = w' := by
  have C := fun w => len64_any (n : Int) w (by omega) (by omega)
  go_enter Try.func31, Try.ntmps31
  go_wp2_with (go_at_call 43; refine (C _).mono ?_; rintro e w' ⟨rfl, rfl⟩)
  go_ret
  exact ⟨rfl, rfl⟩

theorem xor_i64 (a b : Nat) (ha : a < 16777216) (hb : b < 16777216) : bits .xor .i64 (a : Int) (b : Int) = ((a ^^^ b : Nat) : Int) := by
  have hx : a ^^^ b < 2 ^ 24 := Nat.xor_lt_two_pow (by omega) (by omega)
  have h1 : (BitVec.ofInt 64 (a : Int)).toNat = a := by
    rw [BitVec.ofInt_natCast, BitVec.toNat_ofNat]; exact Nat.mod_eq_of_lt (by omega)
  have h2 : (BitVec.ofInt 64 (b : Int)).toNat = b := by
    rw [BitVec.ofInt_natCast, BitVec.toNat_ofNat]; exact Nat.mod_eq_of_lt (by omega)
  show IntKind.i64.wrap ((BitVec.ofInt 64 (a : Int) ^^^ BitVec.ofInt 64 (b : Int)).toNat : Int) = _
  rw [BitVec.toNat_xor, h1, h2]
  exact IntWalk.i64_in _ (by omega)

theorem level_any (x y : Nat) (w : World) (hx : x < 16777216) (hy : y < 16777216) : Calls Try.prog 28 #[.int .i64 (x : Nat), .int .i64 (y : Nat)] w fun e w' => e = .returned (.int .i64 (lev x y : Nat)) ∧ w = w' := by
  have hX := xor_i64 x y hx hy
  have hn : x ^^^ y < 16777216 := Nat.xor_lt_two_pow (n := 24) (by omega) (by omega)
  have hL := bits_le hx hy
  have HL := Lib.hid (lev_bits hx hy)
  have C := Lib.hid (fun w => len_any (x ^^^ y) w hn)
  generalize x ^^^ y = n at *
  have hn0 : (0 : Int) ≤ n := by omega
  have hn1 : (n : Int) ≤ 16777216 := by omega
  by_cases h0 : bitLen n = 0
  · have HR : Hid ((0 : Int) = (lev x y : Nat)) := (by rw [← HL.out, h0]; rfl : (0 : Int) = (lev x y : Nat))
    rw [h0] at C
    clear HL hL h0 hx hy hn
    go_enter Try.func28, Try.ntmps28
    go_wp2_with (go_at_call 31; refine (C.out _).mono ?_; rintro e w' ⟨rfl, rfl⟩)
    go_ret
    exact ⟨int_back HR.out, rfl⟩
  · obtain ⟨L, hL2⟩ : ∃ L, bitLen n = L + 1 := ⟨bitLen n - 1, by omega⟩
    rw [hL2] at C HL hL
    have HR : Hid ((L : Int) / 6 = (lev x y : Nat)) := (by rw [← HL.out]; omega : (L : Int) / 6 = (lev x y : Nat))
    have hl0 : (0 : Int) ≤ L := by omega
    have hl1 : (L : Int) ≤ 23 := by omega
    have C2 : Hid (∀ w, Calls Try.prog 31 #[.int .u64 (n : Nat)] w fun e w' => e = .returned (.int .i64 ((L : Int) + 1)) ∧ w = w') := fun w => C.out w
    clear HL hL h0 hx hy hn C hL2
    go_enter Try.func28, Try.ntmps28
    go_wp2_with (go_at_call 31; refine (C2.out _).mono ?_; rintro e w' ⟨rfl, rfl⟩)
    all_goals (go_ret; refine ⟨int_back ?_, rfl⟩; rw [← HR.out]) <;> omega

theorem digit_any (t l : Nat) (w : World) (ht : t < 16777216) (hl : l ≤ 3) : Calls Try.prog 29 #[.int .i64 (t : Nat), .int .i64 (l : Nat)] w fun e w' => e = .returned (.int .i64 (dig t l : Nat)) ∧ w = w' := by
  have HR : Hid (t / 2 ^ (l * 6) % 64 = dig t l) := shr_dig t l hl
  have h0 : (0 : Int) ≤ t := by omega
  have h1 : (t : Int) < 16777216 := by omega
  have l0 : (0 : Int) ≤ l := by omega
  have l1 : (l : Int) ≤ 3 := by omega
  clear ht hl
  go_enter Try.func29, Try.ntmps29
  go_wp2
  go_ret
  refine ⟨int_back ?_, rfl⟩
  rw [← HR.out, Int.tmod_eq_emod_of_nonneg (Int.ediv_nonneg h0 (Int.le_of_lt (Int.pow_pos (by decide))))]
  simp

theorem add_to (g o j : Nat) : (⟨g, o, none⟩ : Addr).add j = ⟨g, o + j, none⟩ := by
  unfold Addr.add
  split <;> simp_all
theorem index_level (h l : Nat) (hl : l ≤ 3) (w : World) : (Instr.indexAt 53 (.pointer (some ⟨h, 0, none⟩)) (.int .i64 (l : Nat))).run Try.prog w = .ok (.pointer (some ⟨h, l * 64, none⟩)) w := by
  refine (run_indexAt_array (P := Try.prog) (w := w) 53 ⟨h, 0, none⟩ .i64 (l : Nat) (by kernel_rfl)).trans ?_
  have hs : (Go.sizeOf (Try.prog.elem 53)).run Try.prog w = .ok 64 w := by kernel_rfl
  have hn : Try.prog.arrayLen 53 = 4 := by kernel_rfl
  rw [hs, hn, if_pos (by omega)]
  simp [Result.andThen, add_to]
theorem index_slot (h o d : Nat) (hd : d < 64) (w : World) : (Instr.indexAt 51 (.pointer (some ⟨h, o, none⟩)) (.int .i64 (d : Nat))).run Try.prog w = .ok (.pointer (some ⟨h, o + d, none⟩)) w := by
  refine (run_indexAt_array (P := Try.prog) (w := w) 51 ⟨h, o, none⟩ .i64 (d : Nat) (by kernel_rfl)).trans ?_
  have hs : (Go.sizeOf (Try.prog.elem 51)).run Try.prog w = .ok 1 w := by kernel_rfl
  have hn : Try.prog.arrayLen 51 = 64 := by kernel_rfl
  rw [hs, hn, if_pos (by omega)]
  simp [Result.andThen, add_to]

/-- A callee that draws nothing, met behind draws. -/
theorem quiet_same {P : Program} {f : FuncId} {args : Array Value} {w : World} {n : Nat} {v : Value} (h : Calls P f args (w.drewN n) fun e w' => e = .returned v ∧ w.drewN n = w') :
    Calls P f args (w.drewN n) fun e w'' => e = .returned v ∧ ∃ m, w'' = w.drewN m := h.mono fun _ _ ⟨he, hm⟩ => ⟨he, n, hm.symm⟩
theorem ptr_back {b i j : Nat} (h : i = j) : Ending.returned (.pointer (some ⟨b, i, none⟩)) = .returned (.pointer (some ⟨b, j, none⟩)) := by rw [h]
/-- Where a timer's slot is. -/
def SlotOf (h now t : Nat) (w : World) (e : Ending) (w' : World) : Prop := e = .returned (.pointer (some ⟨h, slot now t, none⟩)) ∧ ∃ n, w' = w.drewN n
theorem of_any (h now t : Nat) (w : World) (hn : now < 16777216) (ht : t < 16777216) : Calls Try.prog 27 #[.pointer (some ⟨h, 0, none⟩), .int .i64 (now : Nat), .int .i64 (t : Nat)] w (SlotOf h now t w) := by
  have hl := lev_le now t
  have hd := dig_lt t (lev now t)
  have HL := Lib.hid (fun w => level_any now t w hn ht)
  have HD := Lib.hid (fun w => digit_any t (lev now t) w ht hl)
  have hi1 := index_level h (lev now t) hl
  have hi2 := index_slot h (lev now t * 64) (dig t (lev now t)) hd
  have HS : Hid (slot now t = lev now t * 64 + dig t (lev now t)) := (rfl : slot now t = lev now t * 64 + dig t (lev now t))
  generalize lev now t = l at *
  generalize dig t l = d at *
  clear hl hd hn ht
  go_enter Try.func27, Try.ntmps27
  go_wp2_with (go_at_call 28; refine (HL.out _).mono ?_; rintro e w' ⟨rfl, rfl⟩)
  go_quiet ((go_at_call 29; exact quiet_same (HD.out _)))
  go_wp2
  go_ret
  exact ⟨ptr_back HS.out.symm, nq, rfl⟩
end Go.Proofs.Ytadppcmbkccmnaa
