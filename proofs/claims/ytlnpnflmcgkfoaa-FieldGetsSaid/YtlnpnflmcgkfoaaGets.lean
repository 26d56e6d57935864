/-
  The law FieldGets answers true: its walk out of the contracts.
-/
import Derived.Test.YtlnpnflmcgkfoaaWalksB
namespace Go.Proofs.Ytlnpnflmcgkfoaa
open Go.ChangeShapes Go.WideShapes Go.ChangeAt Go.RowKit

set_option maxHeartbeats 1000000 in
theorem gets_any (a s x : Int) (w : World) (hs1 : -9223372036854775808 ≤ s) (hs : s < 9223372036854775808) (ha1 : -9223372036854775808 ≤ a) (ha : a < 9223372036854775808) (hx1 : 0 ≤ x) (hx2 : x < 18446744073709551616) :
    Calls Try.prog 3 #[.agg #[.int .i64 a, .int .i64 s], .int .u64 x] w fun e w' => e = .returned (.bool true) ∧ Below w.heap.size w w' := by
  go_enter Try.func3, Try.ntmps3
  go_wp2_with fail
  refine (to_any _ _ _).mono ?_
  rintro e w1 ⟨rfl, hb⟩
  replace hb := Below.mono hb (B' := w.heap.size + 1) (by simp)
  obtain ⟨hc, hf⟩ := old_cells hb
  have hz := hb.size
  simp at hz
  have hz1 : w.heap.size < w1.heap.size := by omega
  have hz2 : w.heap.size ≤ w1.heap.size := by omega
  go_wp2_with fail
  have hb1 : Below (w1.heap.size + 1) (w1.alloc (.cells #[.int .i64 a, .int .i64 s] 25)) (w1.alloc (.cells #[.int .i64 a, .int .i64 s] 25)) := Below.refl _ _
  refine wp_region_later (w1.heap.size + 1) (w1.alloc (.cells #[.int .i64 a, .int .i64 s] 25)) (by kernel_rfl) (by kernel_rfl) hb1 ?_
  repeat (go_big_quiet_step (first
    | (go_at_call 7; refine Calls.later ?_ (right_any _ _ _ hs1 hs ha1 ha); simp)
    | (go_at_call 8; refine Calls.later ?_ (rright_any _ _ _ hs1 hs ha1 ha); simp)
    | (go_at_call 9; refine Calls.later ?_ (most_any _ _ _ hs1 hs ha1 ha); simp)
    | (go_at_call 10; refine Calls.later ?_ (rmost_any _ _ _ hs1 hs ha1 ha); simp)
    | (go_at_call 11; refine Calls.later ?_ (get_any _ _ _ _ hs1 hs ha1 ha hx1 hx2); simp)
    | (go_at_call 12; refine Calls.later ?_ (rget_any _ _ _ _ hs1 hs ha1 ha hx1 hx2); simp)))
  refine wpQuiet_nil ?_
  rintro _ ⟨n2, rfl⟩
  go_wp2_with fail
  refine (rget_any _ _ _ _ hs1 hs ha1 ha hx1 hx2).mono ?_
  rintro e w3 ⟨rfl, hb3⟩
  have hb4 := n2.below.trans (hb3.mono (B' := w1.heap.size + 1) (by have := n2.below.size; simpa using this))
  obtain ⟨hc4, hf4⟩ := old_cells hb4
  have hz4 := hb4.size
  simp at hz4
  go_wp2_with fail
  refine (rright_any _ _ _ hs1 hs ha1 ha).mono ?_
  rintro e w5 ⟨rfl, hb5⟩
  have hb6 := hb4.trans (hb5.mono (B' := w1.heap.size + 1) hz4)
  obtain ⟨hc6, hf6⟩ := old_cells hb6
  have hz6 := hb6.size
  simp at hz6
  clear hc4 hf4 hb5 hb3
  have HGB := Lib.hid (Fd.get_bd a s x hx1 hx2)
  by_cases hr : Fd.right a s = true
  · have hr' := hr
    simp [Fd.right] at hr'
    by_cases hs4 : s < 64
    · go_wp2_with fail
      refine (bit_any _ _ _ hx1 hx2 (by omega) (by omega)).mono ?_
      rintro e w' ⟨rfl, rfl⟩
      by_cases hbt : Fd.bit x (a + s - 1) = true
      · rw [hbt]
        have _HEQ := Lib.hid (by have := Fd.signed_law a s x hr hx1 hx2 hs4 hbt; simp only [IntWalk.i64_left] at this; exact this.symm : Fd.signed a s x = wrap64 (wrap64 (Fd.get a s x) - wrap64 (2 ^ s.toNat)))
        go_wp2_with fail
        refine (signed_any _ _ _ _ hs1 hs ha1 ha hx1 hx2).mono ?_
        rintro e w7 ⟨rfl, hb7⟩
        have hb8 := hb6.trans (hb7.mono (B' := w1.heap.size + 1) hz6)
        have hz8 := hb8.size
        simp at hz8
        go_wp2_with fail
        · refine (awake_any _).mono ?_
          rintro e w9 ⟨rfl, hb9⟩
          go_wp2
          go_ret
          exact ⟨rfl, (((((Below.refl _ _).alloc (Nat.le_refl _) _).trans (hb.mono (by simp))).alloc hz2 _).trans (hb8.mono (by omega))).trans (hb9.mono (by omega))⟩

      · simp at hbt
        rw [hbt]
        have _HEQ := Lib.hid (by have := Fd.signed_law' a s x hx1 hx2 (fun _ _ => hbt); rw [IntWalk.i64_left] at this; exact this.symm : Fd.signed a s x = wrap64 (Fd.get a s x))
        go_wp2_with fail
        refine (signed_any _ _ _ _ hs1 hs ha1 ha hx1 hx2).mono ?_
        rintro e w7 ⟨rfl, hb7⟩
        have hb8 := hb6.trans (hb7.mono (B' := w1.heap.size + 1) hz6)
        have hz8 := hb8.size
        simp at hz8
        go_wp2_with fail
        · refine (awake_any _).mono ?_
          rintro e w9 ⟨rfl, hb9⟩
          go_wp2
          go_ret
          exact ⟨rfl, (((((Below.refl _ _).alloc (Nat.le_refl _) _).trans (hb.mono (by simp))).alloc hz2 _).trans (hb8.mono (by omega))).trans (hb9.mono (by omega))⟩

    · have HEQ := Lib.hid (by have := Fd.signed_law' a s x hx1 hx2 (fun _ h => absurd h hs4); rw [IntWalk.i64_left] at this; exact this.symm : Fd.signed a s x = wrap64 (Fd.get a s x))
      go_wp2_with fail
      refine (signed_any _ _ _ _ hs1 hs ha1 ha hx1 hx2).mono ?_
      rintro e w7 ⟨rfl, hb7⟩
      have hb8 := hb6.trans (hb7.mono (B' := w1.heap.size + 1) hz6)
      have hz8 := hb8.size
      simp at hz8
      go_wp2_with fail
      · refine (awake_any _).mono ?_
        rintro e w9 ⟨rfl, hb9⟩
        go_wp2
        go_ret
        exact ⟨rfl, (((((Below.refl _ _).alloc (Nat.le_refl _) _).trans (hb.mono (by simp))).alloc hz2 _).trans (hb8.mono (by omega))).trans (hb9.mono (by omega))⟩

  · simp at hr
    have _HEQ := Lib.hid (by have := Fd.signed_law' a s x hx1 hx2 (fun h => by simp [hr] at h); rw [IntWalk.i64_left] at this; exact this.symm : Fd.signed a s x = wrap64 (Fd.get a s x))
    go_wp2_with fail
    refine (signed_any _ _ _ _ hs1 hs ha1 ha hx1 hx2).mono ?_
    rintro e w7 ⟨rfl, hb7⟩
    have hb8 := hb6.trans (hb7.mono (B' := w1.heap.size + 1) hz6)
    have hz8 := hb8.size
    simp at hz8
    go_wp2_with fail
    · refine (awake_any _).mono ?_
      rintro e w9 ⟨rfl, hb9⟩
      go_wp2
      go_ret
      exact ⟨rfl, (((((Below.refl _ _).alloc (Nat.le_refl _) _).trans (hb.mono (by simp))).alloc hz2 _).trans (hb8.mono (by omega))).trans (hb9.mono (by omega))⟩

end Go.Proofs.Ytlnpnflmcgkfoaa
