/-
  The law SupplyGives answers true: its walk out of the contracts.
-/
import Derived.Test.YtbeckgdocnofhaaSWalksB
import Derived.Test.YtbeckgdocnofhaaSWalksD
namespace Go.Proofs.Ytbeckgdocnofhaa
open Go.ChangeShapes Go.WideShapes Go.ChangeAt Go.RowKit

set_option maxRecDepth 100000 in
set_option maxHeartbeats 4000000 in
theorem sgives_any (b p t : Int) (w : World) :
    Calls Try.prog 3 #[.agg #[.int .i64 b, .int .i64 p], .int .i64 t] w fun e w' => e = .returned (.bool true) ∧ Below w.heap.size w w' := by
  have hbox : Below w.heap.size w (w.alloc (.cells #[.int .i64 b, .int .i64 p] 23)) := by go_grown
  have HB := Lib.hid hbox
  clear hbox
  have CR : Hid (∀ w : World, _) := fun w => sright_any b p w
  have CRR : Hid (∀ w : World, _) := fun w => srright_any b p w
  have CL : Hid (∀ w : World, _) := fun w => least_any b p t w
  have CM : Hid (∀ w : World, _) := fun w => most_any b p t w
  have CS : Hid (∀ w : World, _) := fun w => share_any b p w
  obtain ⟨r, hr⟩ : ∃ r, Sp.right b p = r := ⟨_, rfl⟩
  rw [hr] at CR CRR
  have Hr := Lib.hid hr
  clear hr
  have hrr : (r != r) = false := by cases r <;> rfl
  obtain ⟨N, hN⟩ : ∃ N, Sp.shN b p = N := ⟨_, rfl⟩
  obtain ⟨D, hD⟩ : ∃ D, Sp.shD b p = D := ⟨_, rfl⟩
  rw [hN, hD] at CS
  have HN := Lib.hid hN
  have HD := Lib.hid hD
  clear hN hD
  go_enter Try.func3, Try.ntmps3
  go_wp2_with fail
  refine (sto_any b p _).mono ?_
  rintro e w1 ⟨rfl, hb1⟩
  replace hb1 := Below.mono hb1 (B' := w.heap.size + 1) (by simp)
  have hz1 : w.heap.size < w1.heap.size := by have := hb1.size; simp at this; omega
  have hz1' : w.heap.size ≤ w1.heap.size := by omega
  have hW1 : Hid (Below w.heap.size w (w1.alloc (.cells #[.int .i64 b, .int .i64 p] 24))) := ((HB.out.trans (hb1.mono (by simp))).alloc (by omega) _ : Below w.heap.size w _)
  obtain ⟨e1, f1⟩ := old_cells hb1
  clear hb1
  go_wp2_with fail
  refine wp_region_later (w1.heap.size + 1) (w1.alloc (.cells #[.int .i64 b, .int .i64 p] 24)) (by kernel_rfl) (by kernel_rfl) (Below.refl _ _) ?_
  repeat (go_big_quiet_step (first
    | ((with_reducible refine Calls.later ?_ (CR.out _)); simp)
    | ((with_reducible refine Calls.later ?_ (CRR.out _)); simp)))
  refine wpQuiet_nil ?_
  rintro w2 ⟨⟨_, hb2⟩, rfl⟩
  have z2 : Hid (w1.heap.size < w2.heap.size) := (by have := hb2.size; simp at this; omega : w1.heap.size < w2.heap.size)
  have K2 : Hid (w2.cell? ⟨w.heap.size, 0, none⟩ = some (.int .i64 b) ∧ w2.cell? ⟨w.heap.size, 1, none⟩ = some (.int .i64 p) ∧ w2.cell? ⟨w1.heap.size, 0, none⟩ = some (.int .i64 b) ∧ w2.cell? ⟨w1.heap.size, 1, none⟩ = some (.int .i64 p)) := by
    obtain ⟨e2, -⟩ := old_cells hb2
    refine ⟨?_, ?_, ?_, ?_⟩ <;> (rw [e2 _ _ (by omega)]; simp [go_sem, e1, hz1])
  have Hz1 := Lib.hid hz1
  have hW2 := Lib.hid (hW1.out.trans (hb2.mono (by omega)))
  generalize w1.heap.size = x1 at *
  clear e1 f1 hz1 hz1' hb2 hW1
  obtain ⟨k0, k1, k2, k3⟩ := K2.out
  have z3 := z2.out
  have z4 := Nat.lt_trans Hz1.out z2.out
  go_wp2_with fail
  refine (CS.out _).mono ?_
  rintro e w3 ⟨rfl, hb3⟩
  have hz3 := hb3.size
  have HS : Hid (∀ w' : World, Below (w3.heap.size + 1) (w3.alloc (.cells #[.int .u64 N, .int .u64 D] 30)) w' → w'.cell? ⟨w.heap.size, 0, none⟩ = some (.int .i64 b) ∧ w'.cell? ⟨w.heap.size, 1, none⟩ = some (.int .i64 p) ∧ w'.cell? ⟨x1, 0, none⟩ = some (.int .i64 b) ∧ w'.cell? ⟨x1, 1, none⟩ = some (.int .i64 p) ∧ w'.cell? ⟨w3.heap.size, 0, none⟩ = some (.int .u64 N) ∧ w'.cell? ⟨w3.heap.size, 1, none⟩ = some (.int .u64 D) ∧ w.heap.size < w'.heap.size ∧ x1 < w'.heap.size ∧ w3.heap.size < w'.heap.size) := by
    intro w' h
    obtain ⟨e3, -⟩ := old_cells hb3
    obtain ⟨e4, -⟩ := old_cells h
    have hz := h.size
    simp at hz
    have y1 : w.heap.size < w3.heap.size := by omega
    have y2 : x1 < w3.heap.size := by omega
    refine ⟨?_, ?_, ?_, ?_, ?_, ?_, by omega, by omega, by omega⟩
    · rw [e4 _ _ (by omega)]; simp [go_sem, y1, e3, z4, k0]
    · rw [e4 _ _ (by omega)]; simp [go_sem, y1, e3, z4, k1]
    · rw [e4 _ _ (by omega)]; simp [go_sem, y2, e3, z3, k2]
    · rw [e4 _ _ (by omega)]; simp [go_sem, y2, e3, z3, k3]
    · rw [e4 _ _ (by omega)]; simp [go_sem]
    · rw [e4 _ _ (by omega)]; simp [go_sem]
  have hW4 : Hid (Below w.heap.size w (w3.alloc (.cells #[.int .u64 N, .int .u64 D] 30))) := ((hW2.out.trans (hb3.mono (by omega))).alloc (by omega) _ : Below w.heap.size w _)
  have Z3 : Hid (w.heap.size ≤ w3.heap.size + 1) := (by omega : w.heap.size ≤ w3.heap.size + 1)
  clear hb3 hz3 z3 z4 k0 k1 k2 k3 K2 z2 Hz1 hW2
  obtain ⟨k0, k1, -⟩ := HS.out _ (Below.refl _ _)
  go_wp2_with fail
  refine (CRR.out _).mono ?_
  rintro e w5 ⟨rfl, hb5⟩
  replace hb5 := Below.mono hb5 (B' := w3.heap.size + 1) (by simp)
  have B5 := Lib.hid hb5
  clear hb5 k0 k1
  generalize w3.heap.size = x3 at *
  obtain ⟨k0, k1, k2, k3, k4, k5, q0, q1, q2⟩ := HS.out _ B5.out
  cases r with
  | false =>
    have hNo := Lib.hid (Sp.sh_no Hr.out)
    obtain rfl : N = 0 := HN.out.symm.trans hNo.out.1
    obtain rfl : D = 0 := HD.out.symm.trans hNo.out.2
    rw [Sp.least_no (fun h => by have := h.1; rw [Hr.out] at this; cases this)] at CL
    rw [Sp.most_no (fun h => by have := h.1; rw [Hr.out] at this; cases this)] at CM
    have s0 : IntKind.i64.wrap 0 = 0 := rfl
    have Q5 := Lib.hid q2
    go_wp2_with fail
    refine wp_region_later w5.heap.size w5 (by kernel_rfl) (by kernel_rfl) (Below.refl _ _) ?_
    repeat (go_big_quiet_step (first
      | ((with_reducible refine Calls.later ?_ (CL.out _)); exact Nat.le_refl _)
      | ((with_reducible refine Calls.later ?_ (CM.out _)); exact Nat.le_refl _)
      | ((with_reducible refine Calls.later ?_ (sawake_any _)); exact Nat.le_refl _)))
    refine wpQuiet_nil ?_
    rintro _ ⟨n6, rfl⟩
    clear s0
    go_wp2
    go_ret
    exact ⟨rfl, (hW4.out.trans (B5.out.mono Z3.out)).trans (n6.below.mono (by have := Q5.out; have := Z3.out; omega))⟩
  | true =>
    obtain ⟨r1, r2, r3⟩ := Sp.right_iff.1 Hr.out
    have CK : Hid (∀ w : World, _) := fun w => make_any b p w (by omega) (by omega) (by omega) (by omega)
    rw [← (Sp.sh_yes Hr.out).1, ← (Sp.sh_yes Hr.out).2, HN.out, HD.out] at CK
    go_wp2_with fail
    refine (CK.out _).mono ?_
    rintro e w6 ⟨rfl, hb6⟩
    have B6 := Lib.hid (B5.out.trans (hb6.mono q2))
    clear k0 k1 k2 k3 k4 k5 q0 q1 q2 hb6
    obtain ⟨k0, k1, k2, k3, k4, k5, q0, q1, q2⟩ := HS.out _ B6.out
    have q0' : w.heap.size ≤ w6.heap.size := Nat.le_of_lt q0
    have q1' : x1 ≤ w6.heap.size := Nat.le_of_lt q1
    have q2' : x3 ≤ w6.heap.size := Nat.le_of_lt q2
    have hW6 : Hid (Below w.heap.size w (w6.alloc (.cells #[.int .u64 N, .int .u64 D] 33))) := ((hW4.out.trans (B6.out.mono Z3.out)).alloc q0' _ : Below w.heap.size w _)
    have hNN : (N != N) = false := by simp
    have hDD : (D != D) = false := by simp
    have Q6 := Lib.hid q0'
    by_cases h1 : 0 ≤ t
    · by_cases h2 : t ≤ 1048576
      · have CRL : Hid (∀ w : World, _) := fun w => rleast_any b p t w (by omega) (by omega) (by omega) (by omega) h2 (by omega)
        have CRM : Hid (∀ w : World, _) := fun w => rmost_any b p t w (by omega) (by omega) (by omega) (by omega) h2 h1
        rw [Sp.least_yes Hr.out (Sp.asks_iff.2 ⟨h1, h2⟩)] at CL
        rw [Sp.most_yes Hr.out (Sp.asks_iff.2 ⟨h1, h2⟩)] at CM
        generalize Sp.give b p t = G at *
        generalize Sp.take b p t = T at *
        go_wp2_with fail
        refine wp_region_later (w6.heap.size + 1) (w6.alloc (.cells #[.int .u64 N, .int .u64 D] 33)) (by kernel_rfl) (by kernel_rfl) (Below.refl _ _) ?_
        repeat (go_big_quiet_step (first
          | ((with_reducible refine Calls.later ?_ (CL.out _)); simp)
          | ((with_reducible refine Calls.later ?_ (CM.out _)); simp)
          | ((with_reducible refine Calls.later ?_ (CRL.out _)); simp)
          | ((with_reducible refine Calls.later ?_ (CRM.out _)); simp)
          | ((with_reducible refine Calls.later ?_ (sawake_any _)); simp)))
        refine wpQuiet_nil ?_
        rintro _ ⟨n7, rfl⟩
        go_wp2
        go_ret
        exact ⟨rfl, hW6.out.trans (n7.below.mono (Nat.le_succ_of_le Q6.out))⟩
      · rw [Sp.least_no (fun h => h2 (Sp.asks_iff.1 h.2).2)] at CL
        rw [Sp.most_no (fun h => h2 (Sp.asks_iff.1 h.2).2)] at CM
        have s0 : IntKind.i64.wrap 0 = 0 := rfl
        go_wp2_with fail
        refine wp_region_later (w6.heap.size + 1) (w6.alloc (.cells #[.int .u64 N, .int .u64 D] 33)) (by kernel_rfl) (by kernel_rfl) (Below.refl _ _) ?_
        repeat (go_big_quiet_step (first
          | ((with_reducible refine Calls.later ?_ (CL.out _)); simp)
          | ((with_reducible refine Calls.later ?_ (CM.out _)); simp)
          | ((with_reducible refine Calls.later ?_ (sawake_any _)); simp)))
        refine wpQuiet_nil ?_
        rintro _ ⟨n7, rfl⟩
        clear s0
        go_wp2
        go_ret
        exact ⟨rfl, hW6.out.trans (n7.below.mono (Nat.le_succ_of_le Q6.out))⟩
    · rw [Sp.least_no (fun h => h1 (Sp.asks_iff.1 h.2).1)] at CL
      rw [Sp.most_no (fun h => h1 (Sp.asks_iff.1 h.2).1)] at CM
      have s0 : IntKind.i64.wrap 0 = 0 := rfl
      go_wp2_with fail
      refine wp_region_later (w6.heap.size + 1) (w6.alloc (.cells #[.int .u64 N, .int .u64 D] 33)) (by kernel_rfl) (by kernel_rfl) (Below.refl _ _) ?_
      repeat (go_big_quiet_step (first
        | ((with_reducible refine Calls.later ?_ (CL.out _)); simp)
        | ((with_reducible refine Calls.later ?_ (CM.out _)); simp)
        | ((with_reducible refine Calls.later ?_ (sawake_any _)); simp)))
      refine wpQuiet_nil ?_
      rintro _ ⟨n7, rfl⟩
      clear s0
      go_wp2
      go_ret
      exact ⟨rfl, hW6.out.trans (n7.below.mono (Nat.le_succ_of_le Q6.out))⟩
end Go.Proofs.Ytbeckgdocnofhaa
