/-
  The law RespondTimes answers true: its walk out of the contracts.
-/
import Derived.Test.YtnhfbfpkjcnicaaQWalksC
namespace Go.Proofs.Ytnhfbfpkjcnicaa
open Go.ChangeShapes Go.WideShapes Go.ChangeAt Go.RowKit

theorem example_time : Rp.timeN [] 1 20 20 0 1 5 20 = 10 ∧ Rp.timeE [] 1 20 20 0 1 5 20 = 0 := by decide +kernel

set_option maxHeartbeats 400000 in
theorem qawake_any (w : World) :
    Calls Try.prog 4 #[] w fun e w' => e = .returned (.bool true) ∧ Below w.heap.size w w' := by
  have CT : Hid (∀ w : World, _) := fun w => qtime_any none 0 0 [] 1 20 20 0 1 5 20 w rfl (fun h => by simp at h)
  rw [example_time.1, example_time.2] at CT
  go_enter Try.func4, Try.ntmps4
  go_wp2_with fail
  refine (CT.out _).mono ?_
  rintro e w1 ⟨rfl, hb1⟩
  have hW := Lib.hid hb1
  clear hb1
  go_wp2
  go_ret
  exact ⟨rfl, hW.out⟩

set_option maxRecDepth 100000 in
set_option maxHeartbeats 4000000 in
theorem qtimes_any (A : Option Addr) (n c0 : Nat) (l : List (Int × Int × Int)) (c q d h b p u : Int) (w : World) (hln : l.length = n) (hL : Tks w.heap.size w A l) :
    Calls Try.prog 3 #[.slice A n c0, .agg #[.int .i64 c, .int .i64 q, .int .i64 d], .int .i64 h, .agg #[.int .i64 b, .int .i64 p], .int .i64 u] w fun e w' => e = .returned (.bool true) ∧ Below w.heap.size w w' := by
  have hbox : Below w.heap.size w ((w.alloc (.cells #[.int .i64 c, .int .i64 q, .int .i64 d] 24)).alloc (.cells #[.int .i64 b, .int .i64 p] 26)) := by go_grown
  have HB := Lib.hid hbox
  have T0 := Lib.hid (hL.later hbox)
  have B0 : Hid (Below (w.heap.size + 2) ((w.alloc (.cells #[.int .i64 c, .int .i64 q, .int .i64 d] 24)).alloc (.cells #[.int .i64 b, .int .i64 p] 26)) ((w.alloc (.cells #[.int .i64 c, .int .i64 q, .int .i64 d] 24)).alloc (.cells #[.int .i64 b, .int .i64 p] 26))) := Lib.hid (Below.refl _ _)
  have z0 : Hid (w.heap.size + 2 ≤ ((w.alloc (.cells #[.int .i64 c, .int .i64 q, .int .i64 d] 24)).alloc (.cells #[.int .i64 b, .int .i64 p] 26)).heap.size) := Lib.hid (by simp)
  clear hbox hL
  by_cases hn : n ≤ 12
  · have d1 : decide ((12 : Int) < n) = false := by simp; omega
    by_cases hu4 : 400 < u ∧ u ≤ 1048576
    · obtain ⟨g1, g2⟩ := hu4
      clear hln
      go_enter Try.func3, Try.ntmps3
      go_wp2_with fail
      refine (qawake_any _).mono ?_
      rintro e w1 ⟨rfl, hb⟩
      have B1 := Lib.hid (B0.out.trans (hb.mono z0.out))
      have T1 := Lib.hid (T0.out.later hb)
      have z1 := Lib.hid (Nat.le_trans z0.out hb.size)
      clear hb
      obtain ⟨hc, hf⟩ := old_cells B1.out
      have hz0 : w.heap.size < w1.heap.size := by have := z1.out; omega
      have hz1 : w.heap.size + 1 < w1.heap.size := by have := z1.out; omega
      go_wp2
      go_ret
      exact ⟨rfl, HB.out.trans (B1.out.mono (by omega))⟩
    · have hu : u ≤ 400 ∨ (400 < u ∧ 1048576 < u) := by omega
      have CT : Hid (∀ w : World, Tks w.heap.size w A l → _) := fun w hh => qtime_any A n c0 l c q d h b p u w hln hh
      have CA : Hid (∀ w : World, Tks w.heap.size w A l → _) := fun w hh => trall_any A n c0 l w hln (by omega) hh
      have CR : Hid (∀ w : World, _) := fun w => trright_any c q d w
      have CS : Hid (∀ w : World, _) := fun w => srright_any b p w
      cases ha : Rp.asks l c q d h b p u with
      | false =>
        rw [show Rp.timeN l c q d h b p u = 0 by simp [Rp.timeN, ha], show Rp.timeE l c q d h b p u = 1 by simp [Rp.timeE, ha]] at CT
        cases hA : Tk.all l with
        | false =>
          rw [hA] at CA
          clear ha hln hu4 hA CR CS
          rcases hu with g1 | ⟨g1, g2⟩
          all_goals
            go_enter Try.func3, Try.ntmps3
            go_wp2_with fail
            refine wp_region_later ((w.alloc (.cells #[.int .i64 c, .int .i64 q, .int .i64 d] 24)).alloc (.cells #[.int .i64 b, .int .i64 p] 26)).heap.size ((w.alloc (.cells #[.int .i64 c, .int .i64 q, .int .i64 d] 24)).alloc (.cells #[.int .i64 b, .int .i64 p] 26)) (by kernel_rfl) (by kernel_rfl) (Below.refl _ _) ?_
            repeat (go_big_quiet_step (first
              | ((with_reducible refine Calls.later ?_ (qto_any b p _)); exact Nat.le_refl _)
              | ((with_reducible refine Calls.later ?_ (CT.out _ (T0.out.later (Later.below _)))); exact Nat.le_refl _)))
            refine wpQuiet_nil ?_
            rintro _ ⟨n1, rfl⟩
            have hb := n1.below
            generalize n1.world = w1 at *
            have B1 := Lib.hid (B0.out.trans (hb.mono z0.out))
            have T1 := Lib.hid (T0.out.later hb)
            have z1 := Lib.hid (Nat.le_trans z0.out hb.size)
            clear hb n1
            obtain ⟨hc, hf⟩ := old_cells B1.out
            have hz0 : w.heap.size < w1.heap.size := by have := z1.out; omega
            have hz1 : w.heap.size + 1 < w1.heap.size := by have := z1.out; omega
            go_wp2_with fail
            refine (CA.out _ T1.out).mono ?_
            rintro e w2 ⟨rfl, hb⟩
            have B2 := Lib.hid (B1.out.trans (hb.mono z1.out))
            have T2 := Lib.hid (T1.out.later hb)
            have z2 := Lib.hid (Nat.le_trans z1.out hb.size)
            clear hb
            clear hc hf hz0 hz1
            obtain ⟨hc, hf⟩ := old_cells B2.out
            have hz0 : w.heap.size < w2.heap.size := by have := z2.out; omega
            have hz1 : w.heap.size + 1 < w2.heap.size := by have := z2.out; omega
            go_wp2_with fail
            refine (qawake_any _).mono ?_
            rintro e w3 ⟨rfl, hb⟩
            have B3 := Lib.hid (B2.out.trans (hb.mono z2.out))
            have T3 := Lib.hid (T2.out.later hb)
            have z3 := Lib.hid (Nat.le_trans z2.out hb.size)
            clear hb
            clear hc hf hz0 hz1
            obtain ⟨hc, hf⟩ := old_cells B3.out
            have hz0 : w.heap.size < w3.heap.size := by have := z3.out; omega
            have hz1 : w.heap.size + 1 < w3.heap.size := by have := z3.out; omega
            go_wp2
            go_ret
            exact ⟨rfl, HB.out.trans (B3.out.mono (by omega))⟩
        | true =>
          rw [hA] at CA
          cases hR : Tk.right c q d with
          | false =>
            rw [hR] at CR
            clear ha hln hu4 hA hR CS
            rcases hu with g1 | ⟨g1, g2⟩
            all_goals
              go_enter Try.func3, Try.ntmps3
              go_wp2_with fail
              refine wp_region_later ((w.alloc (.cells #[.int .i64 c, .int .i64 q, .int .i64 d] 24)).alloc (.cells #[.int .i64 b, .int .i64 p] 26)).heap.size ((w.alloc (.cells #[.int .i64 c, .int .i64 q, .int .i64 d] 24)).alloc (.cells #[.int .i64 b, .int .i64 p] 26)) (by kernel_rfl) (by kernel_rfl) (Below.refl _ _) ?_
              repeat (go_big_quiet_step (first
                | ((with_reducible refine Calls.later ?_ (qto_any b p _)); exact Nat.le_refl _)
                | ((with_reducible refine Calls.later ?_ (CT.out _ (T0.out.later (Later.below _)))); exact Nat.le_refl _)))
              refine wpQuiet_nil ?_
              rintro _ ⟨n1, rfl⟩
              have hb := n1.below
              generalize n1.world = w1 at *
              have B1 := Lib.hid (B0.out.trans (hb.mono z0.out))
              have T1 := Lib.hid (T0.out.later hb)
              have z1 := Lib.hid (Nat.le_trans z0.out hb.size)
              clear hb n1
              obtain ⟨hc, hf⟩ := old_cells B1.out
              have hz0 : w.heap.size < w1.heap.size := by have := z1.out; omega
              have hz1 : w.heap.size + 1 < w1.heap.size := by have := z1.out; omega
              go_wp2_with fail
              refine (CA.out _ T1.out).mono ?_
              rintro e w2 ⟨rfl, hb⟩
              have B2 := Lib.hid (B1.out.trans (hb.mono z1.out))
              have T2 := Lib.hid (T1.out.later hb)
              have z2 := Lib.hid (Nat.le_trans z1.out hb.size)
              clear hb
              clear hc hf hz0 hz1
              obtain ⟨hc, hf⟩ := old_cells B2.out
              have hz0 : w.heap.size < w2.heap.size := by have := z2.out; omega
              have hz1 : w.heap.size + 1 < w2.heap.size := by have := z2.out; omega
              go_wp2_with fail
              refine (CR.out _).mono ?_
              rintro e w3 ⟨rfl, hb⟩
              have B3 := Lib.hid (B2.out.trans (hb.mono z2.out))
              have T3 := Lib.hid (T2.out.later hb)
              have z3 := Lib.hid (Nat.le_trans z2.out hb.size)
              clear hb
              clear hc hf hz0 hz1
              obtain ⟨hc, hf⟩ := old_cells B3.out
              have hz0 : w.heap.size < w3.heap.size := by have := z3.out; omega
              have hz1 : w.heap.size + 1 < w3.heap.size := by have := z3.out; omega
              go_wp2_with fail
              refine (qawake_any _).mono ?_
              rintro e w4 ⟨rfl, hb⟩
              have B4 := Lib.hid (B3.out.trans (hb.mono z3.out))
              have T4 := Lib.hid (T3.out.later hb)
              have z4 := Lib.hid (Nat.le_trans z3.out hb.size)
              clear hb
              clear hc hf hz0 hz1
              obtain ⟨hc, hf⟩ := old_cells B4.out
              have hz0 : w.heap.size < w4.heap.size := by have := z4.out; omega
              have hz1 : w.heap.size + 1 < w4.heap.size := by have := z4.out; omega
              go_wp2
              go_ret
              exact ⟨rfl, HB.out.trans (B4.out.mono (by omega))⟩
          | true =>
            rw [hR] at CR
            by_cases g3 : h < 0
            · skip
              clear ha hln hu4 hA hR CS
              rcases hu with g1 | ⟨g1, g2⟩
              all_goals
                go_enter Try.func3, Try.ntmps3
                go_wp2_with fail
                refine wp_region_later ((w.alloc (.cells #[.int .i64 c, .int .i64 q, .int .i64 d] 24)).alloc (.cells #[.int .i64 b, .int .i64 p] 26)).heap.size ((w.alloc (.cells #[.int .i64 c, .int .i64 q, .int .i64 d] 24)).alloc (.cells #[.int .i64 b, .int .i64 p] 26)) (by kernel_rfl) (by kernel_rfl) (Below.refl _ _) ?_
                repeat (go_big_quiet_step (first
                  | ((with_reducible refine Calls.later ?_ (qto_any b p _)); exact Nat.le_refl _)
                  | ((with_reducible refine Calls.later ?_ (CT.out _ (T0.out.later (Later.below _)))); exact Nat.le_refl _)))
                refine wpQuiet_nil ?_
                rintro _ ⟨n1, rfl⟩
                have hb := n1.below
                generalize n1.world = w1 at *
                have B1 := Lib.hid (B0.out.trans (hb.mono z0.out))
                have T1 := Lib.hid (T0.out.later hb)
                have z1 := Lib.hid (Nat.le_trans z0.out hb.size)
                clear hb n1
                obtain ⟨hc, hf⟩ := old_cells B1.out
                have hz0 : w.heap.size < w1.heap.size := by have := z1.out; omega
                have hz1 : w.heap.size + 1 < w1.heap.size := by have := z1.out; omega
                go_wp2_with fail
                refine (CA.out _ T1.out).mono ?_
                rintro e w2 ⟨rfl, hb⟩
                have B2 := Lib.hid (B1.out.trans (hb.mono z1.out))
                have T2 := Lib.hid (T1.out.later hb)
                have z2 := Lib.hid (Nat.le_trans z1.out hb.size)
                clear hb
                clear hc hf hz0 hz1
                obtain ⟨hc, hf⟩ := old_cells B2.out
                have hz0 : w.heap.size < w2.heap.size := by have := z2.out; omega
                have hz1 : w.heap.size + 1 < w2.heap.size := by have := z2.out; omega
                go_wp2_with fail
                refine (CR.out _).mono ?_
                rintro e w3 ⟨rfl, hb⟩
                have B3 := Lib.hid (B2.out.trans (hb.mono z2.out))
                have T3 := Lib.hid (T2.out.later hb)
                have z3 := Lib.hid (Nat.le_trans z2.out hb.size)
                clear hb
                clear hc hf hz0 hz1
                obtain ⟨hc, hf⟩ := old_cells B3.out
                have hz0 : w.heap.size < w3.heap.size := by have := z3.out; omega
                have hz1 : w.heap.size + 1 < w3.heap.size := by have := z3.out; omega
                go_wp2_with fail
                refine (qawake_any _).mono ?_
                rintro e w4 ⟨rfl, hb⟩
                have B4 := Lib.hid (B3.out.trans (hb.mono z3.out))
                have T4 := Lib.hid (T3.out.later hb)
                have z4 := Lib.hid (Nat.le_trans z3.out hb.size)
                clear hb
                clear hc hf hz0 hz1
                obtain ⟨hc, hf⟩ := old_cells B4.out
                have hz0 : w.heap.size < w4.heap.size := by have := z4.out; omega
                have hz1 : w.heap.size + 1 < w4.heap.size := by have := z4.out; omega
                go_wp2
                go_ret
                exact ⟨rfl, HB.out.trans (B4.out.mono (by omega))⟩
            by_cases g4 : 1048576 < h
            · skip
              clear ha hln hu4 hA hR CS
              rcases hu with g1 | ⟨g1, g2⟩
              all_goals
                go_enter Try.func3, Try.ntmps3
                go_wp2_with fail
                refine wp_region_later ((w.alloc (.cells #[.int .i64 c, .int .i64 q, .int .i64 d] 24)).alloc (.cells #[.int .i64 b, .int .i64 p] 26)).heap.size ((w.alloc (.cells #[.int .i64 c, .int .i64 q, .int .i64 d] 24)).alloc (.cells #[.int .i64 b, .int .i64 p] 26)) (by kernel_rfl) (by kernel_rfl) (Below.refl _ _) ?_
                repeat (go_big_quiet_step (first
                  | ((with_reducible refine Calls.later ?_ (qto_any b p _)); exact Nat.le_refl _)
                  | ((with_reducible refine Calls.later ?_ (CT.out _ (T0.out.later (Later.below _)))); exact Nat.le_refl _)))
                refine wpQuiet_nil ?_
                rintro _ ⟨n1, rfl⟩
                have hb := n1.below
                generalize n1.world = w1 at *
                have B1 := Lib.hid (B0.out.trans (hb.mono z0.out))
                have T1 := Lib.hid (T0.out.later hb)
                have z1 := Lib.hid (Nat.le_trans z0.out hb.size)
                clear hb n1
                obtain ⟨hc, hf⟩ := old_cells B1.out
                have hz0 : w.heap.size < w1.heap.size := by have := z1.out; omega
                have hz1 : w.heap.size + 1 < w1.heap.size := by have := z1.out; omega
                go_wp2_with fail
                refine (CA.out _ T1.out).mono ?_
                rintro e w2 ⟨rfl, hb⟩
                have B2 := Lib.hid (B1.out.trans (hb.mono z1.out))
                have T2 := Lib.hid (T1.out.later hb)
                have z2 := Lib.hid (Nat.le_trans z1.out hb.size)
                clear hb
                clear hc hf hz0 hz1
                obtain ⟨hc, hf⟩ := old_cells B2.out
                have hz0 : w.heap.size < w2.heap.size := by have := z2.out; omega
                have hz1 : w.heap.size + 1 < w2.heap.size := by have := z2.out; omega
                go_wp2_with fail
                refine (CR.out _).mono ?_
                rintro e w3 ⟨rfl, hb⟩
                have B3 := Lib.hid (B2.out.trans (hb.mono z2.out))
                have T3 := Lib.hid (T2.out.later hb)
                have z3 := Lib.hid (Nat.le_trans z2.out hb.size)
                clear hb
                clear hc hf hz0 hz1
                obtain ⟨hc, hf⟩ := old_cells B3.out
                have hz0 : w.heap.size < w3.heap.size := by have := z3.out; omega
                have hz1 : w.heap.size + 1 < w3.heap.size := by have := z3.out; omega
                go_wp2_with fail
                refine (qawake_any _).mono ?_
                rintro e w4 ⟨rfl, hb⟩
                have B4 := Lib.hid (B3.out.trans (hb.mono z3.out))
                have T4 := Lib.hid (T3.out.later hb)
                have z4 := Lib.hid (Nat.le_trans z3.out hb.size)
                clear hb
                clear hc hf hz0 hz1
                obtain ⟨hc, hf⟩ := old_cells B4.out
                have hz0 : w.heap.size < w4.heap.size := by have := z4.out; omega
                have hz1 : w.heap.size + 1 < w4.heap.size := by have := z4.out; omega
                go_wp2
                go_ret
                exact ⟨rfl, HB.out.trans (B4.out.mono (by omega))⟩
            cases hS : Sp.right b p with
            | false =>
              rw [hS] at CS
              clear ha hln hu4 hA hR hS
              rcases hu with g1 | ⟨g1, g2⟩
              all_goals
                go_enter Try.func3, Try.ntmps3
                go_wp2_with fail
                refine wp_region_later ((w.alloc (.cells #[.int .i64 c, .int .i64 q, .int .i64 d] 24)).alloc (.cells #[.int .i64 b, .int .i64 p] 26)).heap.size ((w.alloc (.cells #[.int .i64 c, .int .i64 q, .int .i64 d] 24)).alloc (.cells #[.int .i64 b, .int .i64 p] 26)) (by kernel_rfl) (by kernel_rfl) (Below.refl _ _) ?_
                repeat (go_big_quiet_step (first
                  | ((with_reducible refine Calls.later ?_ (qto_any b p _)); exact Nat.le_refl _)
                  | ((with_reducible refine Calls.later ?_ (CT.out _ (T0.out.later (Later.below _)))); exact Nat.le_refl _)))
                refine wpQuiet_nil ?_
                rintro _ ⟨n1, rfl⟩
                have hb := n1.below
                generalize n1.world = w1 at *
                have B1 := Lib.hid (B0.out.trans (hb.mono z0.out))
                have T1 := Lib.hid (T0.out.later hb)
                have z1 := Lib.hid (Nat.le_trans z0.out hb.size)
                clear hb n1
                obtain ⟨hc, hf⟩ := old_cells B1.out
                have hz0 : w.heap.size < w1.heap.size := by have := z1.out; omega
                have hz1 : w.heap.size + 1 < w1.heap.size := by have := z1.out; omega
                go_wp2_with fail
                refine (CA.out _ T1.out).mono ?_
                rintro e w2 ⟨rfl, hb⟩
                have B2 := Lib.hid (B1.out.trans (hb.mono z1.out))
                have T2 := Lib.hid (T1.out.later hb)
                have z2 := Lib.hid (Nat.le_trans z1.out hb.size)
                clear hb
                clear hc hf hz0 hz1
                obtain ⟨hc, hf⟩ := old_cells B2.out
                have hz0 : w.heap.size < w2.heap.size := by have := z2.out; omega
                have hz1 : w.heap.size + 1 < w2.heap.size := by have := z2.out; omega
                go_wp2_with fail
                refine (CR.out _).mono ?_
                rintro e w3 ⟨rfl, hb⟩
                have B3 := Lib.hid (B2.out.trans (hb.mono z2.out))
                have T3 := Lib.hid (T2.out.later hb)
                have z3 := Lib.hid (Nat.le_trans z2.out hb.size)
                clear hb
                clear hc hf hz0 hz1
                obtain ⟨hc, hf⟩ := old_cells B3.out
                have hz0 : w.heap.size < w3.heap.size := by have := z3.out; omega
                have hz1 : w.heap.size + 1 < w3.heap.size := by have := z3.out; omega
                go_wp2_with fail
                refine (CS.out _).mono ?_
                rintro e w4 ⟨rfl, hb⟩
                have B4 := Lib.hid (B3.out.trans (hb.mono z3.out))
                have T4 := Lib.hid (T3.out.later hb)
                have z4 := Lib.hid (Nat.le_trans z3.out hb.size)
                clear hb
                clear hc hf hz0 hz1
                obtain ⟨hc, hf⟩ := old_cells B4.out
                have hz0 : w.heap.size < w4.heap.size := by have := z4.out; omega
                have hz1 : w.heap.size + 1 < w4.heap.size := by have := z4.out; omega
                go_wp2_with fail
                refine (qawake_any _).mono ?_
                rintro e w5 ⟨rfl, hb⟩
                have B5 := Lib.hid (B4.out.trans (hb.mono z4.out))
                have T5 := Lib.hid (T4.out.later hb)
                have z5 := Lib.hid (Nat.le_trans z4.out hb.size)
                clear hb
                clear hc hf hz0 hz1
                obtain ⟨hc, hf⟩ := old_cells B5.out
                have hz0 : w.heap.size < w5.heap.size := by have := z5.out; omega
                have hz1 : w.heap.size + 1 < w5.heap.size := by have := z5.out; omega
                go_wp2
                go_ret
                exact ⟨rfl, HB.out.trans (B5.out.mono (by omega))⟩
            | true =>
              rw [hS] at CS
              have hcs : u < 0 ∨ (0 ≤ u ∧ 1048576 < u) := by
                have : ¬ (0 ≤ u ∧ u ≤ 1048576) := fun h2 => by rw [Rp.asks_iff.2 ⟨hA, hR, by omega, h2, hS⟩] at ha; cases ha
                omega
              have hu2 : (u ≤ 400 ∧ u < 0) ∨ (400 < u ∧ 0 ≤ u ∧ 1048576 < u) := by omega
              clear ha hln hu4 hu hcs hA hR hS
              rcases hu2 with ⟨g1, g5⟩ | ⟨g1, g5, g2⟩
              all_goals
                go_enter Try.func3, Try.ntmps3
                go_wp2_with fail
                refine wp_region_later ((w.alloc (.cells #[.int .i64 c, .int .i64 q, .int .i64 d] 24)).alloc (.cells #[.int .i64 b, .int .i64 p] 26)).heap.size ((w.alloc (.cells #[.int .i64 c, .int .i64 q, .int .i64 d] 24)).alloc (.cells #[.int .i64 b, .int .i64 p] 26)) (by kernel_rfl) (by kernel_rfl) (Below.refl _ _) ?_
                repeat (go_big_quiet_step (first
                  | ((with_reducible refine Calls.later ?_ (qto_any b p _)); exact Nat.le_refl _)
                  | ((with_reducible refine Calls.later ?_ (CT.out _ (T0.out.later (Later.below _)))); exact Nat.le_refl _)))
                refine wpQuiet_nil ?_
                rintro _ ⟨n1, rfl⟩
                have hb := n1.below
                generalize n1.world = w1 at *
                have B1 := Lib.hid (B0.out.trans (hb.mono z0.out))
                have T1 := Lib.hid (T0.out.later hb)
                have z1 := Lib.hid (Nat.le_trans z0.out hb.size)
                clear hb n1
                obtain ⟨hc, hf⟩ := old_cells B1.out
                have hz0 : w.heap.size < w1.heap.size := by have := z1.out; omega
                have hz1 : w.heap.size + 1 < w1.heap.size := by have := z1.out; omega
                go_wp2_with fail
                refine (CA.out _ T1.out).mono ?_
                rintro e w2 ⟨rfl, hb⟩
                have B2 := Lib.hid (B1.out.trans (hb.mono z1.out))
                have T2 := Lib.hid (T1.out.later hb)
                have z2 := Lib.hid (Nat.le_trans z1.out hb.size)
                clear hb
                clear hc hf hz0 hz1
                obtain ⟨hc, hf⟩ := old_cells B2.out
                have hz0 : w.heap.size < w2.heap.size := by have := z2.out; omega
                have hz1 : w.heap.size + 1 < w2.heap.size := by have := z2.out; omega
                go_wp2_with fail
                refine (CR.out _).mono ?_
                rintro e w3 ⟨rfl, hb⟩
                have B3 := Lib.hid (B2.out.trans (hb.mono z2.out))
                have T3 := Lib.hid (T2.out.later hb)
                have z3 := Lib.hid (Nat.le_trans z2.out hb.size)
                clear hb
                clear hc hf hz0 hz1
                obtain ⟨hc, hf⟩ := old_cells B3.out
                have hz0 : w.heap.size < w3.heap.size := by have := z3.out; omega
                have hz1 : w.heap.size + 1 < w3.heap.size := by have := z3.out; omega
                go_wp2_with fail
                refine (CS.out _).mono ?_
                rintro e w4 ⟨rfl, hb⟩
                have B4 := Lib.hid (B3.out.trans (hb.mono z3.out))
                have T4 := Lib.hid (T3.out.later hb)
                have z4 := Lib.hid (Nat.le_trans z3.out hb.size)
                clear hb
                clear hc hf hz0 hz1
                obtain ⟨hc, hf⟩ := old_cells B4.out
                have hz0 : w.heap.size < w4.heap.size := by have := z4.out; omega
                have hz1 : w.heap.size + 1 < w4.heap.size := by have := z4.out; omega
                go_wp2_with fail
                refine (qawake_any _).mono ?_
                rintro e w5 ⟨rfl, hb⟩
                have B5 := Lib.hid (B4.out.trans (hb.mono z4.out))
                have T5 := Lib.hid (T4.out.later hb)
                have z5 := Lib.hid (Nat.le_trans z4.out hb.size)
                clear hb
                clear hc hf hz0 hz1
                obtain ⟨hc, hf⟩ := old_cells B5.out
                have hz0 : w.heap.size < w5.heap.size := by have := z5.out; omega
                have hz1 : w.heap.size + 1 < w5.heap.size := by have := z5.out; omega
                go_wp2
                go_ret
                exact ⟨rfl, HB.out.trans (B5.out.mono (by omega))⟩
      | true =>
        rw [show Rp.timeN l c q d h b p u = if Rp.timeI l c h b p u < 0 then 0 else Rp.timeI l c h b p u by simp [Rp.timeN, ha], show Rp.timeE l c q d h b p u = if Rp.timeI l c h b p u < 0 then 24 else 0 by simp [Rp.timeE, ha]] at CT
        obtain ⟨hA, hR, ⟨g3, g4⟩, ⟨g5, g6⟩, hS⟩ := Rp.asks_iff.1 ha
        obtain ⟨s1, s2, s3⟩ := Sp.right_iff.1 hS
        obtain ⟨i1, i2, i3, i4⟩ := Tk.right_iff.1 hR
        have hu5 : u ≤ 400 := by omega
        have Hall := Lib.hid hA
        have CD : Hid (∀ w : World, Tks w.heap.size w A l → _) := fun w hh => qrtime_any A n c0 l c q d h b p u w hln hh Hall i1 (by omega) g3 g4 s1 (by omega) (by omega) s3 g5 g6
        have hbd := Rp.hit_bd (F := Rp.due l c h b p) (p := p) (u := u) (by omega) g5
        rw [show Rp.hit (Rp.due l c h b p) p u = Rp.timeI l c h b p u from rfl] at hbd
        rw [hA] at CA
        rw [hR] at CR
        rw [hS] at CS
        generalize Rp.timeI l c h b p u = y at *
        clear ha hA hR hS hln hu hu4 Hall
        by_cases hy : y < 0
        · rw [if_pos hy, if_pos hy] at CT
          go_enter Try.func3, Try.ntmps3
          go_wp2_with fail
          refine wp_region_later ((w.alloc (.cells #[.int .i64 c, .int .i64 q, .int .i64 d] 24)).alloc (.cells #[.int .i64 b, .int .i64 p] 26)).heap.size ((w.alloc (.cells #[.int .i64 c, .int .i64 q, .int .i64 d] 24)).alloc (.cells #[.int .i64 b, .int .i64 p] 26)) (by kernel_rfl) (by kernel_rfl) (Below.refl _ _) ?_
          repeat (go_big_quiet_step (first
            | ((with_reducible refine Calls.later ?_ (qto_any b p _)); exact Nat.le_refl _)
            | ((with_reducible refine Calls.later ?_ (CT.out _ (T0.out.later (Later.below _)))); exact Nat.le_refl _)))
          refine wpQuiet_nil ?_
          rintro _ ⟨n1, rfl⟩
          have hb := n1.below
          generalize n1.world = w1 at *
          have B1 := Lib.hid (B0.out.trans (hb.mono z0.out))
          have T1 := Lib.hid (T0.out.later hb)
          have z1 := Lib.hid (Nat.le_trans z0.out hb.size)
          clear hb n1
          obtain ⟨hc, hf⟩ := old_cells B1.out
          have hz0 : w.heap.size < w1.heap.size := by have := z1.out; omega
          have hz1 : w.heap.size + 1 < w1.heap.size := by have := z1.out; omega
          go_wp2_with fail
          refine (CA.out _ T1.out).mono ?_
          rintro e w2 ⟨rfl, hb⟩
          have B2 := Lib.hid (B1.out.trans (hb.mono z1.out))
          have T2 := Lib.hid (T1.out.later hb)
          have z2 := Lib.hid (Nat.le_trans z1.out hb.size)
          clear hb
          clear hc hf hz0 hz1
          obtain ⟨hc, hf⟩ := old_cells B2.out
          have hz0 : w.heap.size < w2.heap.size := by have := z2.out; omega
          have hz1 : w.heap.size + 1 < w2.heap.size := by have := z2.out; omega
          go_wp2_with fail
          refine (CR.out _).mono ?_
          rintro e w3 ⟨rfl, hb⟩
          have B3 := Lib.hid (B2.out.trans (hb.mono z2.out))
          have T3 := Lib.hid (T2.out.later hb)
          have z3 := Lib.hid (Nat.le_trans z2.out hb.size)
          clear hb
          clear hc hf hz0 hz1
          obtain ⟨hc, hf⟩ := old_cells B3.out
          have hz0 : w.heap.size < w3.heap.size := by have := z3.out; omega
          have hz1 : w.heap.size + 1 < w3.heap.size := by have := z3.out; omega
          go_wp2_with fail
          refine (CS.out _).mono ?_
          rintro e w4 ⟨rfl, hb⟩
          have B4 := Lib.hid (B3.out.trans (hb.mono z3.out))
          have T4 := Lib.hid (T3.out.later hb)
          have z4 := Lib.hid (Nat.le_trans z3.out hb.size)
          clear hb
          clear hc hf hz0 hz1
          obtain ⟨hc, hf⟩ := old_cells B4.out
          have hz0 : w.heap.size < w4.heap.size := by have := z4.out; omega
          have hz1 : w.heap.size + 1 < w4.heap.size := by have := z4.out; omega
          go_wp2_with fail
          refine (CD.out _ T4.out).mono ?_
          rintro e w5 ⟨rfl, hb⟩
          have B5 := Lib.hid (B4.out.trans (hb.mono z4.out))
          have T5 := Lib.hid (T4.out.later hb)
          have z5 := Lib.hid (Nat.le_trans z4.out hb.size)
          clear hb
          clear hc hf hz0 hz1
          obtain ⟨hc, hf⟩ := old_cells B5.out
          have hz0 : w.heap.size < w5.heap.size := by have := z5.out; omega
          have hz1 : w.heap.size + 1 < w5.heap.size := by have := z5.out; omega
          go_wp2_with fail
          refine (qawake_any _).mono ?_
          rintro e w6 ⟨rfl, hb⟩
          have B6 := Lib.hid (B5.out.trans (hb.mono z5.out))
          have T6 := Lib.hid (T5.out.later hb)
          have z6 := Lib.hid (Nat.le_trans z5.out hb.size)
          clear hb
          clear hc hf hz0 hz1
          obtain ⟨hc, hf⟩ := old_cells B6.out
          have hz0 : w.heap.size < w6.heap.size := by have := z6.out; omega
          have hz1 : w.heap.size + 1 < w6.heap.size := by have := z6.out; omega
          go_wp2
          go_ret
          exact ⟨rfl, HB.out.trans (B6.out.mono (by omega))⟩
        · rw [if_neg hy, if_neg hy] at CT
          go_enter Try.func3, Try.ntmps3
          go_wp2_with fail
          refine wp_region_later ((w.alloc (.cells #[.int .i64 c, .int .i64 q, .int .i64 d] 24)).alloc (.cells #[.int .i64 b, .int .i64 p] 26)).heap.size ((w.alloc (.cells #[.int .i64 c, .int .i64 q, .int .i64 d] 24)).alloc (.cells #[.int .i64 b, .int .i64 p] 26)) (by kernel_rfl) (by kernel_rfl) (Below.refl _ _) ?_
          repeat (go_big_quiet_step (first
            | ((with_reducible refine Calls.later ?_ (qto_any b p _)); exact Nat.le_refl _)
            | ((with_reducible refine Calls.later ?_ (CT.out _ (T0.out.later (Later.below _)))); exact Nat.le_refl _)))
          refine wpQuiet_nil ?_
          rintro _ ⟨n1, rfl⟩
          have hb := n1.below
          generalize n1.world = w1 at *
          have B1 := Lib.hid (B0.out.trans (hb.mono z0.out))
          have T1 := Lib.hid (T0.out.later hb)
          have z1 := Lib.hid (Nat.le_trans z0.out hb.size)
          clear hb n1
          obtain ⟨hc, hf⟩ := old_cells B1.out
          have hz0 : w.heap.size < w1.heap.size := by have := z1.out; omega
          have hz1 : w.heap.size + 1 < w1.heap.size := by have := z1.out; omega
          go_wp2_with fail
          refine (CA.out _ T1.out).mono ?_
          rintro e w2 ⟨rfl, hb⟩
          have B2 := Lib.hid (B1.out.trans (hb.mono z1.out))
          have T2 := Lib.hid (T1.out.later hb)
          have z2 := Lib.hid (Nat.le_trans z1.out hb.size)
          clear hb
          clear hc hf hz0 hz1
          obtain ⟨hc, hf⟩ := old_cells B2.out
          have hz0 : w.heap.size < w2.heap.size := by have := z2.out; omega
          have hz1 : w.heap.size + 1 < w2.heap.size := by have := z2.out; omega
          go_wp2_with fail
          refine (CR.out _).mono ?_
          rintro e w3 ⟨rfl, hb⟩
          have B3 := Lib.hid (B2.out.trans (hb.mono z2.out))
          have T3 := Lib.hid (T2.out.later hb)
          have z3 := Lib.hid (Nat.le_trans z2.out hb.size)
          clear hb
          clear hc hf hz0 hz1
          obtain ⟨hc, hf⟩ := old_cells B3.out
          have hz0 : w.heap.size < w3.heap.size := by have := z3.out; omega
          have hz1 : w.heap.size + 1 < w3.heap.size := by have := z3.out; omega
          go_wp2_with fail
          refine (CS.out _).mono ?_
          rintro e w4 ⟨rfl, hb⟩
          have B4 := Lib.hid (B3.out.trans (hb.mono z3.out))
          have T4 := Lib.hid (T3.out.later hb)
          have z4 := Lib.hid (Nat.le_trans z3.out hb.size)
          clear hb
          clear hc hf hz0 hz1
          obtain ⟨hc, hf⟩ := old_cells B4.out
          have hz0 : w.heap.size < w4.heap.size := by have := z4.out; omega
          have hz1 : w.heap.size + 1 < w4.heap.size := by have := z4.out; omega
          go_wp2_with fail
          refine (CD.out _ T4.out).mono ?_
          rintro e w5 ⟨rfl, hb⟩
          have B5 := Lib.hid (B4.out.trans (hb.mono z4.out))
          have T5 := Lib.hid (T4.out.later hb)
          have z5 := Lib.hid (Nat.le_trans z4.out hb.size)
          clear hb
          clear hc hf hz0 hz1
          obtain ⟨hc, hf⟩ := old_cells B5.out
          have hz0 : w.heap.size < w5.heap.size := by have := z5.out; omega
          have hz1 : w.heap.size + 1 < w5.heap.size := by have := z5.out; omega
          go_wp2_with fail
          refine (qawake_any _).mono ?_
          rintro e w6 ⟨rfl, hb⟩
          have B6 := Lib.hid (B5.out.trans (hb.mono z5.out))
          have T6 := Lib.hid (T5.out.later hb)
          have z6 := Lib.hid (Nat.le_trans z5.out hb.size)
          clear hb
          clear hc hf hz0 hz1
          obtain ⟨hc, hf⟩ := old_cells B6.out
          have hz0 : w.heap.size < w6.heap.size := by have := z6.out; omega
          have hz1 : w.heap.size + 1 < w6.heap.size := by have := z6.out; omega
          go_wp2
          go_ret
          exact ⟨rfl, HB.out.trans (B6.out.mono (by omega))⟩
  · have d1 : decide ((12 : Int) < n) = true := by simp; omega
    clear hln
    go_enter Try.func3, Try.ntmps3
    go_wp2_with fail
    refine (qawake_any _).mono ?_
    rintro e w1 ⟨rfl, hb⟩
    have B1 := Lib.hid (B0.out.trans (hb.mono z0.out))
    have T1 := Lib.hid (T0.out.later hb)
    have z1 := Lib.hid (Nat.le_trans z0.out hb.size)
    clear hb
    obtain ⟨hc, hf⟩ := old_cells B1.out
    have hz0 : w.heap.size < w1.heap.size := by have := z1.out; omega
    have hz1 : w.heap.size + 1 < w1.heap.size := by have := z1.out; omega
    go_wp2
    go_ret
    exact ⟨rfl, HB.out.trans (B1.out.mono (by omega))⟩
end Go.Proofs.Ytnhfbfpkjcnicaa
