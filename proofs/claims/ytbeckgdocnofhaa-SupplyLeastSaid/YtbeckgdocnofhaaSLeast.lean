/-
  The law SupplyLeast answers true: its walk out of the contracts.
-/
import Derived.Test.YtbeckgdocnofhaaSWalksC
namespace Go.Proofs.Ytbeckgdocnofhaa
open Go.ChangeShapes Go.WideShapes Go.ChangeAt Go.RowKit

set_option maxRecDepth 100000 in
set_option maxHeartbeats 2000000 in
theorem sleast_any (p need t : Int) (w : World) :
    Calls Try.prog 6 #[.int .i64 p, .int .i64 need, .int .i64 t] w fun e w' => e = .returned (.bool true) ∧ Below w.heap.size w w' := by
  have CS : Hid (∀ w : World, _) := fun w => smallest_any p need t w
  by_cases hin : 1 ≤ p ∧ p ≤ 1048576 ∧ 0 ≤ need ∧ 0 ≤ t ∧ t ≤ 1048576
  · obtain ⟨i1, i2, i3, i4, i5⟩ := hin
    have hr : Sp.right p p = true := Sp.right_iff.2 ⟨i1, by omega, i2⟩
    have ha : Sp.asks t = true := Sp.asks_iff.2 ⟨i4, i5⟩
    cases hok : Sp.smallOk p need t with
    | false =>
      have hlt : Sp.give p p t < need := by
        apply Int.not_le.1
        intro h
        have := Sp.small_iff.2 ⟨hr, ha, i3, h⟩
        rw [hok] at this
        cases this
      have CL : Hid (∀ w : World, _) := fun w => rleast_any p p t w (by omega) i2 i1 i2 i5 (by omega)
      rw [Sp.small_no hok, hok] at CS
      generalize Sp.give p p t = G at *
      clear hok hr ha
      go_enter Try.func6, Try.ntmps6
      go_wp2_with fail
      refine (CS.out _).mono ?_
      rintro e w1 ⟨rfl, hb1⟩
      have z1 := Lib.hid hb1.size
      have hW := Lib.hid hb1
      clear hb1
      go_wp2_with fail
      refine (CL.out _).mono ?_
      rintro e w2 ⟨rfl, hb2⟩
      have hW2 := Lib.hid (hW.out.trans (hb2.mono z1.out))
      clear hb2
      go_wp2_with fail
      refine (sawake_any _).mono ?_
      rintro e w3 ⟨rfl, hb3⟩
      have hW3 := Lib.hid (hW2.out.trans (hb3.mono hW2.out.size))
      clear hb3
      go_wp2
      go_ret
      exact ⟨rfl, hW3.out⟩
    | true =>
      obtain ⟨y1, y2, y3, y4⟩ := Sp.small_yes hok
      rw [hok] at CS
      generalize Sp.smallN p need t = B at *
      have CL : Hid (∀ w : World, _) := fun w => rleast_any B p t w (by omega) (by omega) i1 i2 i5 (by omega)
      have CL1 : Hid (∀ w : World, _) := fun w => rleast_any (B - 1) p t w (by omega) (by omega) i1 i2 i5 (by omega)
      generalize Sp.give B p t = G at *
      generalize Sp.give (B - 1) p t = G1 at *
      have hd : decide (need ≤ G) = true := decide_eq_true y3
      clear hok hr ha
      by_cases hB : B = 1
      · subst hB
        clear y4 CL1
        go_enter Try.func6, Try.ntmps6
        go_wp2_with fail
        refine (CS.out _).mono ?_
        rintro e w1 ⟨rfl, hb1⟩
        have z1 := Lib.hid hb1.size
        have hW := Lib.hid hb1
        clear hb1
        go_wp2_with fail
        refine (CL.out _).mono ?_
        rintro e w2 ⟨rfl, hb2⟩
        have hW2 := Lib.hid (hW.out.trans (hb2.mono z1.out))
        clear hb2
        go_wp2_with fail
        refine (sawake_any _).mono ?_
        rintro e w3 ⟨rfl, hb3⟩
        have hW3 := Lib.hid (hW2.out.trans (hb3.mono hW2.out.size))
        clear hb3
        go_wp2
        go_ret
        exact ⟨rfl, hW3.out⟩
      · have hlt := y4 hB
        have hB1 : (B == 1) = false := by simp [hB]
        clear y4 hB
        go_enter Try.func6, Try.ntmps6
        go_wp2_with fail
        refine (CS.out _).mono ?_
        rintro e w1 ⟨rfl, hb1⟩
        have z1 := Lib.hid hb1.size
        have hW := Lib.hid hb1
        clear hb1
        go_wp2_with fail
        refine (CL.out _).mono ?_
        rintro e w2 ⟨rfl, hb2⟩
        have hW2 := Lib.hid (hW.out.trans (hb2.mono z1.out))
        clear hb2
        go_wp2_with fail
        refine (CL1.out _).mono ?_
        rintro e w2b ⟨rfl, hb2⟩
        have hW2b := Lib.hid (hW2.out.trans (hb2.mono hW2.out.size))
        clear hb2
        go_wp2_with fail
        refine (sawake_any _).mono ?_
        rintro e w3 ⟨rfl, hb3⟩
        have hW3 := Lib.hid (hW2b.out.trans (hb3.mono hW2b.out.size))
        clear hb3
        go_wp2
        go_ret
        exact ⟨rfl, hW3.out⟩
  · have hno : Sp.smallOk p need t = false := by
      cases h : Sp.smallOk p need t with
      | false => rfl
      | true =>
        obtain ⟨a, b, c, -⟩ := Sp.small_iff.1 h
        have := Sp.right_iff.1 a
        have := Sp.asks_iff.1 b
        omega
    rw [Sp.small_no hno, hno] at CS
    clear hno
    have hcs : p < 1 ∨ (1 ≤ p ∧ 1048576 < p) ∨ (1 ≤ p ∧ p ≤ 1048576 ∧ need < 0) ∨ (1 ≤ p ∧ p ≤ 1048576 ∧ 0 ≤ need ∧ t < 0) ∨ (1 ≤ p ∧ p ≤ 1048576 ∧ 0 ≤ need ∧ 0 ≤ t ∧ 1048576 < t) := by omega
    clear hin
    rcases hcs with i1 | ⟨i1, i2⟩ | ⟨i1, i2, i3⟩ | ⟨i1, i2, i3, i4⟩ | ⟨i1, i2, i3, i4, i5⟩
    all_goals
      go_enter Try.func6, Try.ntmps6
      go_wp2_with fail
      refine (CS.out _).mono ?_
      rintro e w1 ⟨rfl, hb1⟩
      have hW := Lib.hid hb1
      clear hb1
      go_wp2_with fail
      refine (sawake_any _).mono ?_
      rintro e w3 ⟨rfl, hb3⟩
      have hW3 := Lib.hid (hW.out.trans (hb3.mono hW.out.size))
      clear hb3
      go_wp2
      go_ret
      exact ⟨rfl, hW3.out⟩
end Go.Proofs.Ytbeckgdocnofhaa
