/-
  The law FieldPuts answers true: its walk out of the contracts.
-/
import Derived.Test.YtlnpnflmcgkfoaaWalksB
namespace Go.Proofs.Ytlnpnflmcgkfoaa
open Go.ChangeShapes Go.WideShapes Go.ChangeAt Go.RowKit

set_option maxHeartbeats 1000000 in
theorem puts_any (a s x n : Int) (w : World) (hs1 : -9223372036854775808 ≤ s) (hs : s < 9223372036854775808) (ha1 : -9223372036854775808 ≤ a) (ha : a < 9223372036854775808) (hx1 : 0 ≤ x) (hx2 : x < 18446744073709551616) (hn1 : 0 ≤ n) (hn2 : n < 18446744073709551616) :
    Calls Try.prog 4 #[.agg #[.int .i64 a, .int .i64 s], .int .u64 x, .int .u64 n] w fun e w' => e = .returned (.bool true) ∧ Below w.heap.size w w' := by
  have hpb := Fd.put_bd a s x n hx1 hx2 hn1
  obtain ⟨hpb1, hpb2⟩ := hpb
  go_enter Try.func4, Try.ntmps4
  go_wp2_with fail
  refine (to_any _ _ _).mono ?_
  rintro e w1 ⟨rfl, hb⟩
  replace hb := Below.mono hb (B' := w.heap.size + 1) (by simp)
  obtain ⟨hc, hf⟩ := old_cells hb
  have hz := hb.size
  simp at hz
  go_wp2_with fail
  refine (put_any _ _ _ _ _ hs1 hs ha1 ha hx1 hx2 hn1).mono ?_
  rintro e w2 ⟨rfl, hb2⟩
  replace hb2 := hb.trans (hb2.mono (B' := w.heap.size + 1) hz)
  obtain ⟨hc2, hf2⟩ := old_cells hb2
  have hz2 := hb2.size
  simp at hz2
  clear hc hf
  go_wp2_with fail
  refine (rput_any _ _ _ _ _ hs1 hs ha1 ha hx1 hx2 hn1 hn2).mono ?_
  rintro e w3 ⟨rfl, hb3⟩
  replace hb3 := hb2.trans (hb3.mono (B' := w.heap.size + 1) hz2)
  obtain ⟨hc3, hf3⟩ := old_cells hb3
  have hz3 := hb3.size
  simp at hz3
  clear hc2 hf2
  have hw : Below w.heap.size w w3 := ((Below.refl _ _).alloc (Nat.le_refl _) _).trans (hb3.mono (by simp))
  cases hft : Fd.fits a s n with
  | true =>
    have hgp := Lib.hid (Fd.get_put a s x n hft hx1 hx2 hn1)
    simp only [errOf, if_true]
    go_wp2_with fail
    refine (to_any _ _ _).mono ?_
    rintro e w4 ⟨rfl, hb4⟩
    replace hb4 := hb3.trans (hb4.mono (B' := w.heap.size + 1) hz3)
    have hz4 := hb4.size
    simp at hz4
    go_wp2_with fail
    refine (get_any _ _ _ _ hs1 hs ha1 ha hpb1 hpb2).mono ?_
    rintro e w5 ⟨rfl, hb5⟩
    rw [hgp.out]
    replace hb5 := hb4.trans (hb5.mono (B' := w.heap.size + 1) hz4)
    have hz5 := hb5.size
    simp at hz5
    go_wp2_with fail
    refine (awake_any _).mono ?_
    rintro e w6 ⟨rfl, hb6⟩
    go_wp2
    go_ret
    exact ⟨rfl, (((Below.refl _ _).alloc (Nat.le_refl _) _).trans (hb5.mono (by simp))).trans (hb6.mono (by omega))⟩
  | false =>
    simp only [errOf]
    go_wp2_with fail
    refine (awake_any _).mono ?_
    rintro e w6 ⟨rfl, hb6⟩
    go_wp2
    go_ret
    exact ⟨rfl, hw.trans (hb6.mono (by omega))⟩
end Go.Proofs.Ytlnpnflmcgkfoaa
