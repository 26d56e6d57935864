/-
  Contracts of package supply, and of the document's answers: which reservations may be; what one gives at least, and takes at most.
-/
import Derived.Test.YtnhfbfpkjcnicaaRows
import Derived.Test.YtnhfbfpkjcnicaaSMath
import Derived.Test.YtnhfbfpkjcnicaaKit
import Derived.Handy
import Derived.BigRegion
import Derived.IntWalk
namespace Go.Proofs.Ytnhfbfpkjcnicaa
open Go.ChangeShapes Go.WideShapes Go.ChangeAt Go.RowKit

set_option maxHeartbeats 400000 in
theorem sright_any (b p : Int) (w : World) :
    Calls Try.prog 14 #[.agg #[.int .i64 b, .int .i64 p]] w fun e w' => e = .returned (.bool (Sp.right b p)) ∧ Below w.heap.size w w' := by
  by_cases h1 : 1 ≤ b
  · by_cases h2 : b ≤ p
    · by_cases h3 : p ≤ 1048576
      all_goals
        go_enter Try.func14, Try.ntmps14
        go_wp2
        go_ret
        exact ⟨bool_back (by simp [Sp.right, *]), by go_grown⟩
    · go_enter Try.func14, Try.ntmps14
      go_wp2
      go_ret
      exact ⟨bool_back (by simp [Sp.right]; omega), by go_grown⟩
  · go_enter Try.func14, Try.ntmps14
    go_wp2
    go_ret
    exact ⟨bool_back (by simp [Sp.right]; omega), by go_grown⟩

set_option maxHeartbeats 400000 in
theorem srright_any (b p : Int) (w : World) :
    Calls Try.prog 9 #[.agg #[.int .i64 b, .int .i64 p]] w fun e w' => e = .returned (.bool (Sp.right b p)) ∧ Below w.heap.size w w' := by
  by_cases h1 : 1 ≤ b
  · by_cases h2 : b ≤ p
    · by_cases h3 : p ≤ 1048576
      all_goals
        go_enter Try.func9, Try.ntmps9
        go_wp2
        go_ret
        exact ⟨bool_back (by simp [Sp.right, *]), by go_grown⟩
    · go_enter Try.func9, Try.ntmps9
      go_wp2
      go_ret
      exact ⟨bool_back (by simp [Sp.right]; omega), by go_grown⟩
  · go_enter Try.func9, Try.ntmps9
    go_wp2
    go_ret
    exact ⟨bool_back (by simp [Sp.right]; omega), by go_grown⟩

set_option maxHeartbeats 400000 in
theorem sspans_any (t : Int) (w : World) :
    Calls Try.prog 22 #[.int .i64 t] w fun e w' => e = .returned (.bool (Sp.asks t)) ∧ w = w' := by
  by_cases h1 : 0 ≤ t
  · by_cases h2 : t ≤ 1048576
    all_goals
      go_enter Try.func22, Try.ntmps22
      go_wp2
      go_ret
      exact ⟨bool_back (by simp [Sp.asks, *]), rfl⟩
  · go_enter Try.func22, Try.ntmps22
    go_wp2
    go_ret
    exact ⟨bool_back (by simp [Sp.asks]; omega), rfl⟩

set_option maxHeartbeats 400000 in
theorem up_any (n d : Int) (w : World) (hn : 0 ≤ n) (hn2 : n ≤ 4398046511104) (hd : 1 ≤ d) (hd2 : d ≤ 4398046511104) :
    Calls Try.prog 20 #[.int .i64 n, .int .i64 d] w fun e w' => e = .returned (.int .i64 (Sp.up n d)) ∧ w = w' := by
  have hs : 0 ≤ n + d - 1 := by omega
  have hdz : d ≠ 0 := by omega
  go_enter Try.func20, Try.ntmps20
  go_wp2
  go_ret
  exact ⟨int_back (by rw [Sp.up]), rfl⟩

set_option maxHeartbeats 800000 in
theorem least_any (b p t : Int) (w : World) :
    Calls Try.prog 19 #[.agg #[.int .i64 b, .int .i64 p], .int .i64 t] w fun e w' => e = .returned (.int .i64 (Sp.least b p t)) ∧ Below w.heap.size w w' := by
  have CR : Hid (∀ w : World, _) := fun w => sright_any b p w
  have CS : Hid (∀ w : World, _) := fun w => sspans_any t w
  cases hr : Sp.right b p with
  | false =>
    have Hr := Lib.hid hr
    rw [hr] at CR
    clear hr
    go_enter Try.func19, Try.ntmps19
    go_wp2_with fail
    refine (CR.out _).mono ?_
    rintro e w1 ⟨rfl, hb1⟩
    have hW := Lib.hid (((Below.refl _ _).alloc (Nat.le_refl _) _).trans (hb1.mono (by simp)))
    clear hb1
    go_wp2
    go_ret
    exact ⟨int_back (by rw [Sp.least_no]; intro h; rw [Hr.out] at h; exact absurd h.1 (by decide)), hW.out⟩
  | true =>
    have Hr := Lib.hid hr
    rw [hr] at CR
    clear hr
    cases hs : Sp.asks t with
    | false =>
      have Hs := Lib.hid hs
      rw [hs] at CS
      clear hs
      go_enter Try.func19, Try.ntmps19
      go_wp2_with fail
      refine (CR.out _).mono ?_
      rintro e w1 ⟨rfl, hb1⟩
      have hW := Lib.hid (((Below.refl _ _).alloc (Nat.le_refl _) _).trans (hb1.mono (by simp)))
      clear hb1
      go_wp2_with fail
      refine (CS.out _).mono ?_
      rintro e w2 ⟨rfl, rfl⟩
      go_wp2
      go_ret
      exact ⟨int_back (by rw [Sp.least_no]; intro h; rw [Hs.out] at h; exact absurd h.2 (by decide)), hW.out⟩
    | true =>
      have Hs := Lib.hid hs
      rw [hs] at CS
      clear hs
      obtain ⟨r1, r2, r3⟩ := Sp.right_iff.1 Hr.out
      obtain ⟨s1, s2⟩ := Sp.asks_iff.1 Hs.out
      have hdv := Sp.div_bd (show 1 ≤ p by omega) s1
      have hpz : p ≠ 0 := by omega
      have hgv := Sp.give_bd (b := b) (p := p) (t := t) (by omega) (by omega) (by omega) s2
      have hp0 : 0 ≤ p := by omega
      have hD := Lib.hid (show t.tdiv p = t / p from Int.tdiv_eq_ediv_of_nonneg s1)
      go_enter Try.func19, Try.ntmps19
      go_wp2_with fail
      refine (CR.out _).mono ?_
      rintro e w1 ⟨rfl, hb1⟩
      replace hb1 := Below.mono hb1 (B' := w.heap.size + 1) (by simp)
      have hW := Lib.hid (((Below.refl _ _).alloc (Nat.le_refl _) _).trans (hb1.mono (by simp)))
      obtain ⟨hc, hf⟩ := old_cells hb1
      have hz1 : w.heap.size < w1.heap.size := by have := hb1.size; simp at this; omega
      clear hb1
      go_wp2_with fail
      refine (CS.out _).mono ?_
      rintro e w2 ⟨rfl, rfl⟩
      go_wp2_with fail
      go_region
      all_goals go_wp2_with fail
      all_goals go_ret
      all_goals
        refine ⟨int_back ?_, hW.out.drew⟩
        rw [Sp.least_yes Hr.out Hs.out]
        first
          | (rw [IntWalk.wrap64_in 0 (by omega), Sp.give, show max 0 (t / p - 1) = 0 by omega, Int.mul_zero])
          | (have e : Sp.give b p t = b * (t / p - 1) := (by rw [Sp.give, show max 0 (t / p - 1) = t / p - 1 by omega])
             rw [← e, IntWalk.wrap64_in _ (by omega)])

end Go.Proofs.Ytnhfbfpkjcnicaa
