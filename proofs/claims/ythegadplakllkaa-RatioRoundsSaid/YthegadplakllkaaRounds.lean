/-
  The law RatioRounds answers true: its walk out of the contracts.
-/
import Derived.Test.YthegadplakllkaaWalksK
import Derived.Test.YthegadplakllkaaAwake
namespace Go.Proofs.Ythegadplakllkaa
open Go.ChangeShapes Go.WideShapes Go.ChangeAt Go.RowKit

set_option maxHeartbeats 2000000 in
theorem rounds_none (a p : Int) (w : World) :
    Calls Try.prog 6 #[.agg #[.int .u64 a, .int .u64 0], .int .i64 p] w fun e w' => e = .returned (.bool true) ∧ Below w.heap.size w w' := by
  have HS : Hid (∀ w' : World, Below (w.heap.size + 1) (w.alloc (.cells #[.int .u64 a, .int .u64 0] 24)) w' → w'.cell? ⟨w.heap.size, 0, none⟩ = some (.int .u64 a) ∧ w'.cell? ⟨w.heap.size, 1, none⟩ = some (.int .u64 0) ∧ w.heap.size + 1 ≤ w'.heap.size ∧ Below w.heap.size w w') := by
    intro w' h
    obtain ⟨e1, -⟩ := old_cells h
    refine ⟨?_, ?_, ?_, ?_⟩
    · rw [e1 _ _ (Nat.lt_succ_self _)]; simp [go_sem]
    · rw [e1 _ _ (Nat.lt_succ_self _)]; simp [go_sem]
    · have := h.size
      simpa using this
    · exact ((Below.refl _ _).alloc (Nat.le_refl _) _).trans (h.mono (Nat.le_succ _))
  have HF := Lib.hid (fun w => fixed_bad a 0 p w (Or.inl rfl) (by decide))
  go_enter Try.func6, Try.ntmps6
  go_wp2_with fail
  refine (to_any a 0 _).mono ?_
  rintro _ w1 ⟨rfl, hb1⟩
  have H1 : Hid (Below (w.heap.size + 1) (w.alloc (.cells #[.int .u64 a, .int .u64 0] 24)) w1) := Below.mono hb1 (B' := w.heap.size + 1) (by simp)
  obtain ⟨c0, c1, cz, -⟩ := HS.out _ H1.out
  have cl : w.heap.size < w1.heap.size := cz
  have cm : w.heap.size ≤ w1.heap.size := Nat.le_of_lt cl
  go_wp2_with fail
  refine (HF.out _).mono ?_
  clear c0 c1 cz cl cm hb1
  rintro _ w2 ⟨rfl, hb2⟩
  have H2 := Lib.hid (H1.out.trans (hb2.mono (HS.out _ H1.out).2.2.1))
  obtain ⟨c0, c1, cz, -⟩ := HS.out _ H2.out
  have cl : w.heap.size < w2.heap.size := cz
  have cm : w.heap.size ≤ w2.heap.size := Nat.le_of_lt cl
  go_wp2_with fail
  refine (to_any a 0 _).mono ?_
  clear c0 c1 cz cl cm hb2
  rintro _ w3 ⟨rfl, hb3⟩
  have H3 := Lib.hid (H2.out.trans (hb3.mono (HS.out _ H2.out).2.2.1))
  obtain ⟨c0, c1, cz, -⟩ := HS.out _ H3.out
  have cl : w.heap.size < w3.heap.size := cz
  have cm : w.heap.size ≤ w3.heap.size := Nat.le_of_lt cl
  go_wp2_with fail
  refine (floor_none a _).mono ?_
  clear c0 c1 cz cl cm hb3
  rintro _ w4 ⟨rfl, hb4⟩
  have H4 := Lib.hid (H3.out.trans (hb4.mono (HS.out _ H3.out).2.2.1))
  obtain ⟨c0, c1, cz, -⟩ := HS.out _ H4.out
  have cl : w.heap.size < w4.heap.size := cz
  have cm : w.heap.size ≤ w4.heap.size := Nat.le_of_lt cl
  go_wp2_with fail
  refine (to_any a 0 _).mono ?_
  clear c0 c1 cz cl cm hb4
  rintro _ w5 ⟨rfl, hb5⟩
  have H5 := Lib.hid (H4.out.trans (hb5.mono (HS.out _ H4.out).2.2.1))
  obtain ⟨c0, c1, cz, -⟩ := HS.out _ H5.out
  have cl : w.heap.size < w5.heap.size := cz
  have cm : w.heap.size ≤ w5.heap.size := Nat.le_of_lt cl
  go_wp2_with fail
  refine (ceil_none a _).mono ?_
  clear c0 c1 cz cl cm hb5
  rintro _ w6 ⟨rfl, hb6⟩
  have H6 := Lib.hid (H5.out.trans (hb6.mono (HS.out _ H5.out).2.2.1))
  obtain ⟨c0, c1, cz, -⟩ := HS.out _ H6.out
  have cl : w.heap.size < w6.heap.size := cz
  have cm : w.heap.size ≤ w6.heap.size := Nat.le_of_lt cl
  go_wp2_with fail
  refine (awake_any _).mono ?_
  rintro _ w7 ⟨rfl, hb7⟩
  go_wp2
  go_ret
  exact ⟨rfl, (HS.out _ H6.out).2.2.2.trans (hb7.mono cm)⟩

set_option maxHeartbeats 4000000 in
theorem rounds_out (a b p : Int) (w : World) (ha : 0 ≤ a) (ha2 : a < 18446744073709551616) (hb : 0 ≤ b) (hb2 : b < 18446744073709551616) (hbp : 0 < b) (hp : p < 0 ∨ 63 < p) :
    Calls Try.prog 6 #[.agg #[.int .u64 a, .int .u64 b], .int .i64 p] w fun e w' => e = .returned (.bool true) ∧ Below w.heap.size w w' := by
  have HS : Hid (∀ w' : World, Below (w.heap.size + 1) (w.alloc (.cells #[.int .u64 a, .int .u64 b] 24)) w' → w'.cell? ⟨w.heap.size, 0, none⟩ = some (.int .u64 a) ∧ w'.cell? ⟨w.heap.size, 1, none⟩ = some (.int .u64 b) ∧ w.heap.size + 1 ≤ w'.heap.size ∧ Below w.heap.size w w') := by
    intro w' h
    obtain ⟨e1, -⟩ := old_cells h
    refine ⟨?_, ?_, ?_, ?_⟩
    · rw [e1 _ _ (Nat.lt_succ_self _)]; simp [go_sem]
    · rw [e1 _ _ (Nat.lt_succ_self _)]; simp [go_sem]
    · have := h.size
      simpa using this
    · exact ((Below.refl _ _).alloc (Nat.le_refl _) _).trans (h.mono (Nat.le_succ _))
  have hbf : (b == 0) = false := by
    simp
    omega
  obtain ⟨F, hFe⟩ : ∃ F, F = a / b := ⟨_, rfl⟩
  obtain ⟨G, hGe⟩ : ∃ G, G = F * b := ⟨_, rfl⟩
  have hF := Lib.hid hFe
  have hG := Lib.hid hGe
  obtain ⟨f1, f2⟩ := Rt.part_bd a b ha ha2 hbp
  rw [← hFe] at f1 f2
  have hg1 : 0 ≤ G := by
    rw [hGe]
    exact Int.mul_nonneg f1 hb
  have hg2 : G < 18446744073709551616 := by
    have := Int.ediv_mul_le a (Int.ne_of_gt hbp)
    rw [← hFe, ← hGe] at this
    omega
  have t0 : a / b = F := hFe.symm
  have t1 : IntKind.u64.wrap (a.tdiv b) = F := by rw [Int.tdiv_eq_ediv_of_nonneg ha, ← hFe, IntKind.wrap_u64, Int.emod_eq_of_lt f1 f2]
  have t2 : F * b = G := hGe.symm
  have HFL : Hid (∀ w : World, _) := fun w => floor_any a b w ha ha2 hbp hb2
  rw [← hFe] at HFL
  clear hFe hGe
  have HF := Lib.hid (fun w => fixed_bad a b p w (Or.inr hp) hb)
  by_cases hp1 : p < 0
  · clear hp
    by_cases hgl : G < a
    · have HCE : Hid (∀ w : World, _) := fun w => ceil_any a b w ha ha2 hbp hb2
      rw [(Rt.ceil_up a b F G ha ha2 hbp hF.out hG.out).1 hgl] at HCE
      have hF3 : F + 1 < 18446744073709551616 := (Rt.ceil_up a b F G ha ha2 hbp hF.out hG.out).2.2 hgl
      go_enter Try.func6, Try.ntmps6
      go_wp2_with fail
      refine (to_any a b _).mono ?_
      rintro _ w1 ⟨rfl, hb1⟩
      have H1 : Hid (Below (w.heap.size + 1) (w.alloc (.cells #[.int .u64 a, .int .u64 b] 24)) w1) := Below.mono hb1 (B' := w.heap.size + 1) (by simp)
      obtain ⟨c0, c1, cz, -⟩ := HS.out _ H1.out
      have cl : w.heap.size < w1.heap.size := cz
      have cm : w.heap.size ≤ w1.heap.size := Nat.le_of_lt cl
      go_wp2_with fail
      refine (HF.out _).mono ?_
      clear c0 c1 cz cl cm hb1
      rintro _ w2 ⟨rfl, hb2⟩
      have H2 := Lib.hid (H1.out.trans (hb2.mono (HS.out _ H1.out).2.2.1))
      obtain ⟨c0, c1, cz, -⟩ := HS.out _ H2.out
      have cl : w.heap.size < w2.heap.size := cz
      have cm : w.heap.size ≤ w2.heap.size := Nat.le_of_lt cl
      go_wp2_with fail
      refine wp_region_later w2.heap.size w2 (by kernel_rfl) (by kernel_rfl) (Below.refl _ _) ?_
      repeat (go_big_quiet_step (first
        | ((with_reducible refine Calls.later ?_ (to_any a b _)); exact Nat.le_refl _)
        | ((with_reducible refine Calls.later ?_ (HFL.out _)); exact Nat.le_refl _)
        | ((with_reducible refine Calls.later ?_ (HCE.out _)); exact Nat.le_refl _)))
      refine wpQuiet_nil ?_
      rintro _ ⟨n3, rfl⟩
      have H3 := Lib.hid (H2.out.trans (n3.below.mono cz))
      obtain ⟨-, -, cz3, -⟩ := HS.out _ H3.out
      have cm3 : w.heap.size ≤ n3.world.heap.size := by omega
      go_wp2_with fail
      refine (awake_any _).mono ?_
      rintro _ w9 ⟨rfl, hb9⟩
      go_wp2
      go_ret
      exact ⟨rfl, (HS.out _ H3.out).2.2.2.trans (hb9.mono cm3)⟩
    · have HCE : Hid (∀ w : World, _) := fun w => ceil_any a b w ha ha2 hbp hb2
      rw [(Rt.ceil_up a b F G ha ha2 hbp hF.out hG.out).2.1 hgl] at HCE
      go_enter Try.func6, Try.ntmps6
      go_wp2_with fail
      refine (to_any a b _).mono ?_
      rintro _ w1 ⟨rfl, hb1⟩
      have H1 : Hid (Below (w.heap.size + 1) (w.alloc (.cells #[.int .u64 a, .int .u64 b] 24)) w1) := Below.mono hb1 (B' := w.heap.size + 1) (by simp)
      obtain ⟨c0, c1, cz, -⟩ := HS.out _ H1.out
      have cl : w.heap.size < w1.heap.size := cz
      have cm : w.heap.size ≤ w1.heap.size := Nat.le_of_lt cl
      go_wp2_with fail
      refine (HF.out _).mono ?_
      clear c0 c1 cz cl cm hb1
      rintro _ w2 ⟨rfl, hb2⟩
      have H2 := Lib.hid (H1.out.trans (hb2.mono (HS.out _ H1.out).2.2.1))
      obtain ⟨c0, c1, cz, -⟩ := HS.out _ H2.out
      have cl : w.heap.size < w2.heap.size := cz
      have cm : w.heap.size ≤ w2.heap.size := Nat.le_of_lt cl
      go_wp2_with fail
      refine wp_region_later w2.heap.size w2 (by kernel_rfl) (by kernel_rfl) (Below.refl _ _) ?_
      repeat (go_big_quiet_step (first
        | ((with_reducible refine Calls.later ?_ (to_any a b _)); exact Nat.le_refl _)
        | ((with_reducible refine Calls.later ?_ (HFL.out _)); exact Nat.le_refl _)
        | ((with_reducible refine Calls.later ?_ (HCE.out _)); exact Nat.le_refl _)))
      refine wpQuiet_nil ?_
      rintro _ ⟨n3, rfl⟩
      have H3 := Lib.hid (H2.out.trans (n3.below.mono cz))
      obtain ⟨-, -, cz3, -⟩ := HS.out _ H3.out
      have cm3 : w.heap.size ≤ n3.world.heap.size := by omega
      go_wp2_with fail
      refine (awake_any _).mono ?_
      rintro _ w9 ⟨rfl, hb9⟩
      go_wp2
      go_ret
      exact ⟨rfl, (HS.out _ H3.out).2.2.2.trans (hb9.mono cm3)⟩
  · have hp2 : 63 < p := by omega
    clear hp
    by_cases hgl : G < a
    · have HCE : Hid (∀ w : World, _) := fun w => ceil_any a b w ha ha2 hbp hb2
      rw [(Rt.ceil_up a b F G ha ha2 hbp hF.out hG.out).1 hgl] at HCE
      have hF3 : F + 1 < 18446744073709551616 := (Rt.ceil_up a b F G ha ha2 hbp hF.out hG.out).2.2 hgl
      go_enter Try.func6, Try.ntmps6
      go_wp2_with fail
      refine (to_any a b _).mono ?_
      rintro _ w1 ⟨rfl, hb1⟩
      have H1 : Hid (Below (w.heap.size + 1) (w.alloc (.cells #[.int .u64 a, .int .u64 b] 24)) w1) := Below.mono hb1 (B' := w.heap.size + 1) (by simp)
      obtain ⟨c0, c1, cz, -⟩ := HS.out _ H1.out
      have cl : w.heap.size < w1.heap.size := cz
      have cm : w.heap.size ≤ w1.heap.size := Nat.le_of_lt cl
      go_wp2_with fail
      refine (HF.out _).mono ?_
      clear c0 c1 cz cl cm hb1
      rintro _ w2 ⟨rfl, hb2⟩
      have H2 := Lib.hid (H1.out.trans (hb2.mono (HS.out _ H1.out).2.2.1))
      obtain ⟨c0, c1, cz, -⟩ := HS.out _ H2.out
      have cl : w.heap.size < w2.heap.size := cz
      have cm : w.heap.size ≤ w2.heap.size := Nat.le_of_lt cl
      go_wp2_with fail
      refine wp_region_later w2.heap.size w2 (by kernel_rfl) (by kernel_rfl) (Below.refl _ _) ?_
      repeat (go_big_quiet_step (first
        | ((with_reducible refine Calls.later ?_ (to_any a b _)); exact Nat.le_refl _)
        | ((with_reducible refine Calls.later ?_ (HFL.out _)); exact Nat.le_refl _)
        | ((with_reducible refine Calls.later ?_ (HCE.out _)); exact Nat.le_refl _)))
      refine wpQuiet_nil ?_
      rintro _ ⟨n3, rfl⟩
      have H3 := Lib.hid (H2.out.trans (n3.below.mono cz))
      obtain ⟨-, -, cz3, -⟩ := HS.out _ H3.out
      have cm3 : w.heap.size ≤ n3.world.heap.size := by omega
      go_wp2_with fail
      refine (awake_any _).mono ?_
      rintro _ w9 ⟨rfl, hb9⟩
      go_wp2
      go_ret
      exact ⟨rfl, (HS.out _ H3.out).2.2.2.trans (hb9.mono cm3)⟩
    · have HCE : Hid (∀ w : World, _) := fun w => ceil_any a b w ha ha2 hbp hb2
      rw [(Rt.ceil_up a b F G ha ha2 hbp hF.out hG.out).2.1 hgl] at HCE
      go_enter Try.func6, Try.ntmps6
      go_wp2_with fail
      refine (to_any a b _).mono ?_
      rintro _ w1 ⟨rfl, hb1⟩
      have H1 : Hid (Below (w.heap.size + 1) (w.alloc (.cells #[.int .u64 a, .int .u64 b] 24)) w1) := Below.mono hb1 (B' := w.heap.size + 1) (by simp)
      obtain ⟨c0, c1, cz, -⟩ := HS.out _ H1.out
      have cl : w.heap.size < w1.heap.size := cz
      have cm : w.heap.size ≤ w1.heap.size := Nat.le_of_lt cl
      go_wp2_with fail
      refine (HF.out _).mono ?_
      clear c0 c1 cz cl cm hb1
      rintro _ w2 ⟨rfl, hb2⟩
      have H2 := Lib.hid (H1.out.trans (hb2.mono (HS.out _ H1.out).2.2.1))
      obtain ⟨c0, c1, cz, -⟩ := HS.out _ H2.out
      have cl : w.heap.size < w2.heap.size := cz
      have cm : w.heap.size ≤ w2.heap.size := Nat.le_of_lt cl
      go_wp2_with fail
      refine wp_region_later w2.heap.size w2 (by kernel_rfl) (by kernel_rfl) (Below.refl _ _) ?_
      repeat (go_big_quiet_step (first
        | ((with_reducible refine Calls.later ?_ (to_any a b _)); exact Nat.le_refl _)
        | ((with_reducible refine Calls.later ?_ (HFL.out _)); exact Nat.le_refl _)
        | ((with_reducible refine Calls.later ?_ (HCE.out _)); exact Nat.le_refl _)))
      refine wpQuiet_nil ?_
      rintro _ ⟨n3, rfl⟩
      have H3 := Lib.hid (H2.out.trans (n3.below.mono cz))
      obtain ⟨-, -, cz3, -⟩ := HS.out _ H3.out
      have cm3 : w.heap.size ≤ n3.world.heap.size := by omega
      go_wp2_with fail
      refine (awake_any _).mono ?_
      rintro _ w9 ⟨rfl, hb9⟩
      go_wp2
      go_ret
      exact ⟨rfl, (HS.out _ H3.out).2.2.2.trans (hb9.mono cm3)⟩

set_option maxHeartbeats 4000000 in
theorem rounds_over (a b : Int) (k : Nat) (w : World) (ha : 0 ≤ a) (ha2 : a < 18446744073709551616) (hb : 0 ≤ b) (hb2 : b < 18446744073709551616) (hbp : 0 < b) (hk : k ≤ 63) (hov : 18446744073709551616 ≤ Rt.up a b k) :
    Calls Try.prog 6 #[.agg #[.int .u64 a, .int .u64 b], .int .i64 k] w fun e w' => e = .returned (.bool true) ∧ Below w.heap.size w w' := by
  have hk0 : (0 : Int) ≤ k := by omega
  have hk1 : (k : Int) ≤ 63 := by omega
  have HS : Hid (∀ w' : World, Below (w.heap.size + 1) (w.alloc (.cells #[.int .u64 a, .int .u64 b] 24)) w' → w'.cell? ⟨w.heap.size, 0, none⟩ = some (.int .u64 a) ∧ w'.cell? ⟨w.heap.size, 1, none⟩ = some (.int .u64 b) ∧ w.heap.size + 1 ≤ w'.heap.size ∧ Below w.heap.size w w') := by
    intro w' h
    obtain ⟨e1, -⟩ := old_cells h
    refine ⟨?_, ?_, ?_, ?_⟩
    · rw [e1 _ _ (Nat.lt_succ_self _)]; simp [go_sem]
    · rw [e1 _ _ (Nat.lt_succ_self _)]; simp [go_sem]
    · have := h.size
      simpa using this
    · exact ((Below.refl _ _).alloc (Nat.le_refl _) _).trans (h.mono (Nat.le_succ _))
  have hbf : (b == 0) = false := by
    simp
    omega
  obtain ⟨F, hFe⟩ : ∃ F, F = a / b := ⟨_, rfl⟩
  obtain ⟨G, hGe⟩ : ∃ G, G = F * b := ⟨_, rfl⟩
  have hF := Lib.hid hFe
  have hG := Lib.hid hGe
  obtain ⟨f1, f2⟩ := Rt.part_bd a b ha ha2 hbp
  rw [← hFe] at f1 f2
  have hg1 : 0 ≤ G := by
    rw [hGe]
    exact Int.mul_nonneg f1 hb
  have hg2 : G < 18446744073709551616 := by
    have := Int.ediv_mul_le a (Int.ne_of_gt hbp)
    rw [← hFe, ← hGe] at this
    omega
  have t0 : a / b = F := hFe.symm
  have t1 : IntKind.u64.wrap (a.tdiv b) = F := by rw [Int.tdiv_eq_ediv_of_nonneg ha, ← hFe, IntKind.wrap_u64, Int.emod_eq_of_lt f1 f2]
  have t2 : F * b = G := hGe.symm
  have HFL : Hid (∀ w : World, _) := fun w => floor_any a b w ha ha2 hbp hb2
  rw [← hFe] at HFL
  clear hFe hGe
  have HF : Hid (∀ w : World, _) := fun w => fixed_some a b k w ha ha2 hbp hb2 hk
  rw [(Rt.fix_over hbp hk hov).1, (Rt.fix_over hbp hk hov).2] at HF
  obtain ⟨hP1, hP2⟩ := Rt.pow_bd k hk
  have HX := Lib.hid (Rt.mul_bd a (2 ^ k) ha ha2 (Int.le_of_lt hP1) (by omega))
  have HZ := Lib.hid (Rt.mul_bd 18446744073709551615 b (by decide) (by decide) hb hb2)
  have T1 := Lib.hid (fun w => times_any a (2 ^ k) w ha ha2 (Int.le_of_lt hP1) (by omega))
  have T2 := Lib.hid (fun w => times_any 18446744073709551615 b w (by decide) (by decide) hb hb2)
  have hlt := Rt.up_over a b k hbp hov
  obtain ⟨X, hX⟩ : ∃ X, X = a * 2 ^ k := ⟨_, rfl⟩
  obtain ⟨Z, hZ⟩ : ∃ Z, Z = 18446744073709551615 * b := ⟨_, rfl⟩
  rw [← hX] at HX T1 hlt
  rw [← hZ] at HZ T2 hlt
  have hs2 : decide (Rt.sgn Z X < 0) = true := by
    rw [Rt.sgn_lt hlt]
    decide
  obtain ⟨P, hP⟩ : ∃ P : Int, P = 2 ^ k := ⟨_, rfl⟩
  rw [← hP] at T1
  have HP := Lib.hid hP
  clear hX hZ hP hP1 hP2 hov hlt
  by_cases hgl : G < a
  · have HCE : Hid (∀ w : World, _) := fun w => ceil_any a b w ha ha2 hbp hb2
    rw [(Rt.ceil_up a b F G ha ha2 hbp hF.out hG.out).1 hgl] at HCE
    have hF3 : F + 1 < 18446744073709551616 := (Rt.ceil_up a b F G ha ha2 hbp hF.out hG.out).2.2 hgl
    go_enter Try.func6, Try.ntmps6
    go_wp2_with fail
    refine (to_any a b _).mono ?_
    rintro _ w1 ⟨rfl, hb1⟩
    have H1 : Hid (Below (w.heap.size + 1) (w.alloc (.cells #[.int .u64 a, .int .u64 b] 24)) w1) := Below.mono hb1 (B' := w.heap.size + 1) (by simp)
    obtain ⟨c0, c1, cz, -⟩ := HS.out _ H1.out
    have cl : w.heap.size < w1.heap.size := cz
    have cm : w.heap.size ≤ w1.heap.size := Nat.le_of_lt cl
    go_wp2_with fail
    refine (HF.out _).mono ?_
    clear c0 c1 cz cl cm hb1
    rintro _ w2 ⟨rfl, hb2⟩
    have H2 := Lib.hid (H1.out.trans (hb2.mono (HS.out _ H1.out).2.2.1))
    obtain ⟨c0, c1, cz, -⟩ := HS.out _ H2.out
    have cl : w.heap.size < w2.heap.size := cz
    have cm : w.heap.size ≤ w2.heap.size := Nat.le_of_lt cl
    go_wp2_with fail
    refine wp_region_later w2.heap.size w2 (by kernel_rfl) (by kernel_rfl) (Below.refl _ _) ?_
    repeat (go_big_quiet_step (first
      | ((with_reducible refine Calls.later ?_ (to_any a b _)); exact Nat.le_refl _)
      | ((with_reducible refine Calls.later ?_ (HFL.out _)); exact Nat.le_refl _)
      | ((with_reducible refine Calls.later ?_ (HCE.out _)); exact Nat.le_refl _)))
    refine wpQuiet_nil ?_
    rintro _ ⟨n3, rfl⟩
    have H3 := Lib.hid (H2.out.trans (n3.below.mono cz))
    obtain ⟨-, -, cz3, -⟩ := HS.out _ H3.out
    have cm3 : w.heap.size ≤ n3.world.heap.size := by omega
    go_wp2_with fail
    go_loop [8, 9] (fun t i => ∃ (j : Nat) (Q : Int), j ≤ k ∧ i = .int .i64 j ∧ t = .int .u64 Q ∧ Hid (Q = 2 ^ j)) (fun _ i => (k - intOf i).toNat)
    case atStart => exact ⟨0, 1, by omega, rfl, rfl, (rfl : (1 : Int) = 2 ^ 0)⟩
    case round =>
      obtain ⟨j, Q, hj, rfl, rfl, hQ⟩ := hrel
      by_cases hlt : j < k
      · have hQ2 : Hid (Q * 2 = 2 ^ (j + 1)) := (by rw [hQ.out, Int.pow_succ] : Q * 2 = 2 ^ (j + 1))
        have hj0 : (0 : Int) ≤ j := by omega
        have hjk : (j : Int) < k := by omega
        obtain ⟨z1, z2⟩ : 0 ≤ Q ∧ Q ≤ 9223372036854775808 := by
          have := Rt.pow_bd j (by omega)
          rw [← hQ.out] at this
          omega
        have z3 : Q * 2 < 18446744073709551616 := by
          have := Rt.pow_bd (j + 1) (by omega)
          rw [← hQ2.out] at this
          omega
        go_wp2
        go_round
        case rel => exact ⟨j + 1, Q * 2, by omega, by go_num, rfl, hQ2.out⟩
        case measure => simp [intOf]; omega
      · obtain rfl : j = k := by omega
        obtain rfl : P = Q := HP.out.trans hQ.out.symm
        go_wp2_with fail
        refine wp_region_later w2.heap.size w2 (by kernel_rfl) (by kernel_rfl) n3.below ?_
        repeat (go_big_quiet_step (first
          | ((with_reducible refine Calls.later ?_ (T1.out _)); exact Nat.le_refl _)
          | ((with_reducible refine Calls.later ?_ (T2.out _)); exact Nat.le_refl _)
          | ((with_reducible refine Calls.later ?_ (wcmp_any Z X _ HZ.out.1 (by have := HZ.out.2; omega) HX.out.1 (by have := HX.out.2; omega))); exact Nat.le_refl _)
          | ((with_reducible refine Calls.later ?_ (awake_any _)); exact Nat.le_refl _)))
        refine wpQuiet_nil ?_
        rintro _ ⟨n4, rfl⟩
        go_wp2
        go_ret
        exact ⟨rfl, (HS.out _ (H2.out.trans (n4.below.mono cz))).2.2.2⟩
  · have HCE : Hid (∀ w : World, _) := fun w => ceil_any a b w ha ha2 hbp hb2
    rw [(Rt.ceil_up a b F G ha ha2 hbp hF.out hG.out).2.1 hgl] at HCE
    go_enter Try.func6, Try.ntmps6
    go_wp2_with fail
    refine (to_any a b _).mono ?_
    rintro _ w1 ⟨rfl, hb1⟩
    have H1 : Hid (Below (w.heap.size + 1) (w.alloc (.cells #[.int .u64 a, .int .u64 b] 24)) w1) := Below.mono hb1 (B' := w.heap.size + 1) (by simp)
    obtain ⟨c0, c1, cz, -⟩ := HS.out _ H1.out
    have cl : w.heap.size < w1.heap.size := cz
    have cm : w.heap.size ≤ w1.heap.size := Nat.le_of_lt cl
    go_wp2_with fail
    refine (HF.out _).mono ?_
    clear c0 c1 cz cl cm hb1
    rintro _ w2 ⟨rfl, hb2⟩
    have H2 := Lib.hid (H1.out.trans (hb2.mono (HS.out _ H1.out).2.2.1))
    obtain ⟨c0, c1, cz, -⟩ := HS.out _ H2.out
    have cl : w.heap.size < w2.heap.size := cz
    have cm : w.heap.size ≤ w2.heap.size := Nat.le_of_lt cl
    go_wp2_with fail
    refine wp_region_later w2.heap.size w2 (by kernel_rfl) (by kernel_rfl) (Below.refl _ _) ?_
    repeat (go_big_quiet_step (first
      | ((with_reducible refine Calls.later ?_ (to_any a b _)); exact Nat.le_refl _)
      | ((with_reducible refine Calls.later ?_ (HFL.out _)); exact Nat.le_refl _)
      | ((with_reducible refine Calls.later ?_ (HCE.out _)); exact Nat.le_refl _)))
    refine wpQuiet_nil ?_
    rintro _ ⟨n3, rfl⟩
    have H3 := Lib.hid (H2.out.trans (n3.below.mono cz))
    obtain ⟨-, -, cz3, -⟩ := HS.out _ H3.out
    have cm3 : w.heap.size ≤ n3.world.heap.size := by omega
    go_wp2_with fail
    go_loop [8, 9] (fun t i => ∃ (j : Nat) (Q : Int), j ≤ k ∧ i = .int .i64 j ∧ t = .int .u64 Q ∧ Hid (Q = 2 ^ j)) (fun _ i => (k - intOf i).toNat)
    case atStart => exact ⟨0, 1, by omega, rfl, rfl, (rfl : (1 : Int) = 2 ^ 0)⟩
    case round =>
      obtain ⟨j, Q, hj, rfl, rfl, hQ⟩ := hrel
      by_cases hlt : j < k
      · have hQ2 : Hid (Q * 2 = 2 ^ (j + 1)) := (by rw [hQ.out, Int.pow_succ] : Q * 2 = 2 ^ (j + 1))
        have hj0 : (0 : Int) ≤ j := by omega
        have hjk : (j : Int) < k := by omega
        obtain ⟨z1, z2⟩ : 0 ≤ Q ∧ Q ≤ 9223372036854775808 := by
          have := Rt.pow_bd j (by omega)
          rw [← hQ.out] at this
          omega
        have z3 : Q * 2 < 18446744073709551616 := by
          have := Rt.pow_bd (j + 1) (by omega)
          rw [← hQ2.out] at this
          omega
        go_wp2
        go_round
        case rel => exact ⟨j + 1, Q * 2, by omega, by go_num, rfl, hQ2.out⟩
        case measure => simp [intOf]; omega
      · obtain rfl : j = k := by omega
        obtain rfl : P = Q := HP.out.trans hQ.out.symm
        go_wp2_with fail
        refine wp_region_later w2.heap.size w2 (by kernel_rfl) (by kernel_rfl) n3.below ?_
        repeat (go_big_quiet_step (first
          | ((with_reducible refine Calls.later ?_ (T1.out _)); exact Nat.le_refl _)
          | ((with_reducible refine Calls.later ?_ (T2.out _)); exact Nat.le_refl _)
          | ((with_reducible refine Calls.later ?_ (wcmp_any Z X _ HZ.out.1 (by have := HZ.out.2; omega) HX.out.1 (by have := HX.out.2; omega))); exact Nat.le_refl _)
          | ((with_reducible refine Calls.later ?_ (awake_any _)); exact Nat.le_refl _)))
        refine wpQuiet_nil ?_
        rintro _ ⟨n4, rfl⟩
        go_wp2
        go_ret
        exact ⟨rfl, (HS.out _ (H2.out.trans (n4.below.mono cz))).2.2.2⟩

set_option maxHeartbeats 4000000 in
theorem rounds_fit (a b : Int) (k : Nat) (w : World) (ha : 0 ≤ a) (ha2 : a < 18446744073709551616) (hb : 0 ≤ b) (hb2 : b < 18446744073709551616) (hbp : 0 < b) (hk : k ≤ 63) (hov : Rt.up a b k < 18446744073709551616) :
    Calls Try.prog 6 #[.agg #[.int .u64 a, .int .u64 b], .int .i64 k] w fun e w' => e = .returned (.bool true) ∧ Below w.heap.size w w' := by
  have hk0 : (0 : Int) ≤ k := by omega
  have hk1 : (k : Int) ≤ 63 := by omega
  have HS : Hid (∀ w' : World, Below (w.heap.size + 1) (w.alloc (.cells #[.int .u64 a, .int .u64 b] 24)) w' → w'.cell? ⟨w.heap.size, 0, none⟩ = some (.int .u64 a) ∧ w'.cell? ⟨w.heap.size, 1, none⟩ = some (.int .u64 b) ∧ w.heap.size + 1 ≤ w'.heap.size ∧ Below w.heap.size w w') := by
    intro w' h
    obtain ⟨e1, -⟩ := old_cells h
    refine ⟨?_, ?_, ?_, ?_⟩
    · rw [e1 _ _ (Nat.lt_succ_self _)]; simp [go_sem]
    · rw [e1 _ _ (Nat.lt_succ_self _)]; simp [go_sem]
    · have := h.size
      simpa using this
    · exact ((Below.refl _ _).alloc (Nat.le_refl _) _).trans (h.mono (Nat.le_succ _))
  have hbf : (b == 0) = false := by
    simp
    omega
  obtain ⟨F, hFe⟩ : ∃ F, F = a / b := ⟨_, rfl⟩
  obtain ⟨G, hGe⟩ : ∃ G, G = F * b := ⟨_, rfl⟩
  have hF := Lib.hid hFe
  have hG := Lib.hid hGe
  obtain ⟨f1, f2⟩ := Rt.part_bd a b ha ha2 hbp
  rw [← hFe] at f1 f2
  have hg1 : 0 ≤ G := by
    rw [hGe]
    exact Int.mul_nonneg f1 hb
  have hg2 : G < 18446744073709551616 := by
    have := Int.ediv_mul_le a (Int.ne_of_gt hbp)
    rw [← hFe, ← hGe] at this
    omega
  have t0 : a / b = F := hFe.symm
  have t1 : IntKind.u64.wrap (a.tdiv b) = F := by rw [Int.tdiv_eq_ediv_of_nonneg ha, ← hFe, IntKind.wrap_u64, Int.emod_eq_of_lt f1 f2]
  have t2 : F * b = G := hGe.symm
  have HFL : Hid (∀ w : World, _) := fun w => floor_any a b w ha ha2 hbp hb2
  rw [← hFe] at HFL
  clear hFe hGe
  have HF : Hid (∀ w : World, _) := fun w => fixed_some a b k w ha ha2 hbp hb2 hk
  rw [(Rt.fix_good hbp hk hov).1, (Rt.fix_good hbp hk hov).2] at HF
  have HH := Lib.hid (fun w => holds_any a b (Rt.up a b k) k w ha ha2 hbp hb2 (Rt.up_nonneg a b k ha hbp) hov hk (Rt.up_is a b k hbp).1 (Rt.up_is a b k hbp).2)
  generalize Rt.up a b k = U at *
  clear hov
  by_cases hgl : G < a
  · have HCE : Hid (∀ w : World, _) := fun w => ceil_any a b w ha ha2 hbp hb2
    rw [(Rt.ceil_up a b F G ha ha2 hbp hF.out hG.out).1 hgl] at HCE
    have hF3 : F + 1 < 18446744073709551616 := (Rt.ceil_up a b F G ha ha2 hbp hF.out hG.out).2.2 hgl
    go_enter Try.func6, Try.ntmps6
    go_wp2_with fail
    refine (to_any a b _).mono ?_
    rintro _ w1 ⟨rfl, hb1⟩
    have H1 : Hid (Below (w.heap.size + 1) (w.alloc (.cells #[.int .u64 a, .int .u64 b] 24)) w1) := Below.mono hb1 (B' := w.heap.size + 1) (by simp)
    obtain ⟨c0, c1, cz, -⟩ := HS.out _ H1.out
    have cl : w.heap.size < w1.heap.size := cz
    have cm : w.heap.size ≤ w1.heap.size := Nat.le_of_lt cl
    go_wp2_with fail
    refine (HF.out _).mono ?_
    clear c0 c1 cz cl cm hb1
    rintro _ w2 ⟨rfl, hb2⟩
    have H2 := Lib.hid (H1.out.trans (hb2.mono (HS.out _ H1.out).2.2.1))
    obtain ⟨c0, c1, cz, -⟩ := HS.out _ H2.out
    have cl : w.heap.size < w2.heap.size := cz
    have cm : w.heap.size ≤ w2.heap.size := Nat.le_of_lt cl
    go_wp2_with fail
    refine wp_region_later w2.heap.size w2 (by kernel_rfl) (by kernel_rfl) (Below.refl _ _) ?_
    repeat (go_big_quiet_step (first
      | ((with_reducible refine Calls.later ?_ (to_any a b _)); exact Nat.le_refl _)
      | ((with_reducible refine Calls.later ?_ (HFL.out _)); exact Nat.le_refl _)
      | ((with_reducible refine Calls.later ?_ (HCE.out _)); exact Nat.le_refl _)))
    refine wpQuiet_nil ?_
    rintro _ ⟨n3, rfl⟩
    have H3 := Lib.hid (H2.out.trans (n3.below.mono cz))
    obtain ⟨-, -, cz3, -⟩ := HS.out _ H3.out
    have cm3 : w.heap.size ≤ n3.world.heap.size := by omega
    obtain ⟨d0, d1, -, -⟩ := HS.out _ H3.out
    have cl3 : w.heap.size < n3.world.heap.size := cz3
    go_wp2_with fail
    refine (HH.out _).mono ?_
    rintro _ w8 ⟨rfl, hb8⟩
    have H8 := Lib.hid (H3.out.trans (hb8.mono cz3))
    obtain ⟨-, -, cz8, -⟩ := HS.out _ H8.out
    have cm8 : w.heap.size ≤ w8.heap.size := by omega
    go_wp2_with fail
    refine (awake_any _).mono ?_
    rintro _ w9 ⟨rfl, hb9⟩
    go_wp2
    go_ret
    exact ⟨rfl, (HS.out _ H8.out).2.2.2.trans (hb9.mono cm8)⟩
  · have HCE : Hid (∀ w : World, _) := fun w => ceil_any a b w ha ha2 hbp hb2
    rw [(Rt.ceil_up a b F G ha ha2 hbp hF.out hG.out).2.1 hgl] at HCE
    go_enter Try.func6, Try.ntmps6
    go_wp2_with fail
    refine (to_any a b _).mono ?_
    rintro _ w1 ⟨rfl, hb1⟩
    have H1 : Hid (Below (w.heap.size + 1) (w.alloc (.cells #[.int .u64 a, .int .u64 b] 24)) w1) := Below.mono hb1 (B' := w.heap.size + 1) (by simp)
    obtain ⟨c0, c1, cz, -⟩ := HS.out _ H1.out
    have cl : w.heap.size < w1.heap.size := cz
    have cm : w.heap.size ≤ w1.heap.size := Nat.le_of_lt cl
    go_wp2_with fail
    refine (HF.out _).mono ?_
    clear c0 c1 cz cl cm hb1
    rintro _ w2 ⟨rfl, hb2⟩
    have H2 := Lib.hid (H1.out.trans (hb2.mono (HS.out _ H1.out).2.2.1))
    obtain ⟨c0, c1, cz, -⟩ := HS.out _ H2.out
    have cl : w.heap.size < w2.heap.size := cz
    have cm : w.heap.size ≤ w2.heap.size := Nat.le_of_lt cl
    go_wp2_with fail
    refine wp_region_later w2.heap.size w2 (by kernel_rfl) (by kernel_rfl) (Below.refl _ _) ?_
    repeat (go_big_quiet_step (first
      | ((with_reducible refine Calls.later ?_ (to_any a b _)); exact Nat.le_refl _)
      | ((with_reducible refine Calls.later ?_ (HFL.out _)); exact Nat.le_refl _)
      | ((with_reducible refine Calls.later ?_ (HCE.out _)); exact Nat.le_refl _)))
    refine wpQuiet_nil ?_
    rintro _ ⟨n3, rfl⟩
    have H3 := Lib.hid (H2.out.trans (n3.below.mono cz))
    obtain ⟨-, -, cz3, -⟩ := HS.out _ H3.out
    have cm3 : w.heap.size ≤ n3.world.heap.size := by omega
    obtain ⟨d0, d1, -, -⟩ := HS.out _ H3.out
    have cl3 : w.heap.size < n3.world.heap.size := cz3
    go_wp2_with fail
    refine (HH.out _).mono ?_
    rintro _ w8 ⟨rfl, hb8⟩
    have H8 := Lib.hid (H3.out.trans (hb8.mono cz3))
    obtain ⟨-, -, cz8, -⟩ := HS.out _ H8.out
    have cm8 : w.heap.size ≤ w8.heap.size := by omega
    go_wp2_with fail
    refine (awake_any _).mono ?_
    rintro _ w9 ⟨rfl, hb9⟩
    go_wp2
    go_ret
    exact ⟨rfl, (HS.out _ H8.out).2.2.2.trans (hb9.mono cm8)⟩

theorem rounds_any (a b p : Int) (w : World) (ha : 0 ≤ a) (ha2 : a < 18446744073709551616) (hb : 0 ≤ b) (hb2 : b < 18446744073709551616) :
    Calls Try.prog 6 #[.agg #[.int .u64 a, .int .u64 b], .int .i64 p] w fun e w' => e = .returned (.bool true) ∧ Below w.heap.size w w' := by
  by_cases hb0 : b = 0
  · subst hb0
    exact rounds_none a p w
  · have hbp : 0 < b := by omega
    by_cases hp : p < 0 ∨ 63 < p
    · exact rounds_out a b p w ha ha2 hb hb2 hbp hp
    · obtain ⟨k, rfl⟩ := Int.eq_ofNat_of_zero_le (show 0 ≤ p by omega)
      by_cases hov : Rt.up a b k < 18446744073709551616
      · exact rounds_fit a b k w ha ha2 hb hb2 hbp (by omega) hov
      · exact rounds_over a b k w ha ha2 hb hb2 hbp (by omega) (by omega)
end Go.Proofs.Ythegadplakllkaa
