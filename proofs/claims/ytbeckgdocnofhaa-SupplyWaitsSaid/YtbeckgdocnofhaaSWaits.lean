/-
  The law SupplyWaits answers true: its walk out of the contracts.
-/
import Derived.Test.YtbeckgdocnofhaaSWalksC
namespace Go.Proofs.Ytbeckgdocnofhaa
open Go.ChangeShapes Go.WideShapes Go.ChangeAt Go.RowKit

set_option maxHeartbeats 2000000 in
theorem swaits_any (b p need : Int) (w : World) :
    Calls Try.prog 5 #[.agg #[.int .i64 b, .int .i64 p], .int .i64 need] w fun e w' => e = .returned (.bool true) ∧ Below w.heap.size w w' := by
  have hbox : Below w.heap.size w (w.alloc (.cells #[.int .i64 b, .int .i64 p] 23)) := by go_grown
  have HB := Lib.hid hbox
  clear hbox
  have CW : Hid (∀ w : World, _) := fun w => wait_any b p need w
  have CR : Hid (∀ w : World, _) := fun w => srright_any b p w
  cases hr : Sp.right b p with
  | false =>
    have hno : Sp.waitOk b p need = false := by simp [Sp.waitOk, hr]
    rw [Sp.wait_no hno, hno] at CW
    rw [hr] at CR
    clear hno hr
    go_enter Try.func5, Try.ntmps5
    go_wp2_with fail
    refine (sto_any b p _).mono ?_
    rintro e w1 ⟨rfl, hb1⟩
    replace hb1 := Below.mono hb1 (B' := w.heap.size + 1) (by simp)
    have B1 := Lib.hid hb1
    clear hb1
    go_wp2_with fail
    refine (CW.out _).mono ?_
    rintro e w2 ⟨rfl, hb2⟩
    have z1 := Lib.hid (show w.heap.size + 1 ≤ w1.heap.size by have := B1.out.size; simp at this; omega)
    have B2 := Lib.hid (B1.out.trans (hb2.mono z1.out))
    obtain ⟨hc, hf⟩ := old_cells B2.out
    have hz2 : w.heap.size < w2.heap.size := by have := B2.out.size; simp at this; omega
    have hW := Lib.hid (HB.out.trans (B2.out.mono (by omega)))
    clear hb2
    go_wp2_with fail
    refine (CR.out _).mono ?_
    rintro e w3 ⟨rfl, hb3⟩
    have hW3 := Lib.hid (hW.out.trans (hb3.mono (by omega)))
    clear hb3 hc hf hz2
    go_wp2_with fail
    refine (sawake_any _).mono ?_
    rintro e w4 ⟨rfl, hb4⟩
    have hW4 := Lib.hid (hW3.out.trans (hb4.mono hW3.out.size))
    clear hb4
    go_wp2
    go_ret
    exact ⟨rfl, hW4.out⟩
  | true =>
    obtain ⟨r1, r2, r3⟩ := Sp.right_iff.1 hr
    rw [hr] at CR
    by_cases h0 : 0 ≤ need
    · cases hok : Sp.waitOk b p need with
      | false =>
        have hlt : Sp.give b p 1048576 < need := by
          apply Int.not_le.1
          intro h
          have := Sp.wait_iff.2 ⟨hr, h0, h⟩
          rw [hok] at this
          cases this
        have CL : Hid (∀ w : World, _) := fun w => rleast_any b p 1048576 w (by omega) (by omega) (by omega) (by omega) (by omega) (by omega)
        rw [Sp.wait_no hok, hok] at CW
        generalize Sp.give b p 1048576 = G at *
        clear hok hr
        go_enter Try.func5, Try.ntmps5
        go_wp2_with fail
        refine (sto_any b p _).mono ?_
        rintro e w1 ⟨rfl, hb1⟩
        replace hb1 := Below.mono hb1 (B' := w.heap.size + 1) (by simp)
        have B1 := Lib.hid hb1
        clear hb1
        go_wp2_with fail
        refine (CW.out _).mono ?_
        rintro e w2 ⟨rfl, hb2⟩
        have z1 := Lib.hid (show w.heap.size + 1 ≤ w1.heap.size by have := B1.out.size; simp at this; omega)
        have B2 := Lib.hid (B1.out.trans (hb2.mono z1.out))
        obtain ⟨hc, hf⟩ := old_cells B2.out
        have hz2 : w.heap.size < w2.heap.size := by have := B2.out.size; simp at this; omega
        clear hb2
        go_wp2_with fail
        refine (CR.out _).mono ?_
        rintro e w3 ⟨rfl, hb3⟩
        have B3 := Lib.hid (B2.out.trans (hb3.mono hz2))
        clear hb3 hc hf hz2
        obtain ⟨hc, hf⟩ := old_cells B3.out
        have hz2 : w.heap.size < w3.heap.size := by have := B3.out.size; simp at this; omega
        have hW := Lib.hid (HB.out.trans (B3.out.mono (by omega)))
        go_wp2_with fail
        refine (CL.out _).mono ?_
        rintro e w4 ⟨rfl, hb4⟩
        have hW4 := Lib.hid (hW.out.trans (hb4.mono hW.out.size))
        clear hb4 hc hf hz2
        go_wp2_with fail
        refine (sawake_any _).mono ?_
        rintro e w5 ⟨rfl, hb5⟩
        have hW5 := Lib.hid (hW4.out.trans (hb5.mono hW4.out.size))
        clear hb5
        go_wp2
        go_ret
        exact ⟨rfl, hW5.out⟩
      | true =>
        obtain ⟨y1, y2, y3, y4⟩ := Sp.wait_yes hok
        rw [hok] at CW
        generalize Sp.waitN b p need = n at *
        have CL : Hid (∀ w : World, _) := fun w => rleast_any b p n w (by omega) (by omega) (by omega) (by omega) (by omega) (by omega)
        have CL1 : Hid (∀ w : World, _) := fun w => rleast_any b p (n - 1) w (by omega) (by omega) (by omega) (by omega) (by omega) (by omega)
        generalize Sp.give b p n = G at *
        generalize Sp.give b p (n - 1) = G1 at *
        have hd : decide (need ≤ G) = true := decide_eq_true y3
        clear hok hr
        by_cases hn : n = 0
        · subst hn
          clear y4 CL1
          go_enter Try.func5, Try.ntmps5
          go_wp2_with fail
          refine (sto_any b p _).mono ?_
          rintro e w1 ⟨rfl, hb1⟩
          replace hb1 := Below.mono hb1 (B' := w.heap.size + 1) (by simp)
          have B1 := Lib.hid hb1
          clear hb1
          go_wp2_with fail
          refine (CW.out _).mono ?_
          rintro e w2 ⟨rfl, hb2⟩
          have z1 := Lib.hid (show w.heap.size + 1 ≤ w1.heap.size by have := B1.out.size; simp at this; omega)
          have B2 := Lib.hid (B1.out.trans (hb2.mono z1.out))
          obtain ⟨hc, hf⟩ := old_cells B2.out
          have hz2 : w.heap.size < w2.heap.size := by have := B2.out.size; simp at this; omega
          clear hb2
          go_wp2_with fail
          refine (CR.out _).mono ?_
          rintro e w3 ⟨rfl, hb3⟩
          have B3 := Lib.hid (B2.out.trans (hb3.mono hz2))
          clear hb3 hc hf hz2
          obtain ⟨hc, hf⟩ := old_cells B3.out
          have hz2 : w.heap.size < w3.heap.size := by have := B3.out.size; simp at this; omega
          have hW := Lib.hid (HB.out.trans (B3.out.mono (by omega)))
          go_wp2_with fail
          refine (CL.out _).mono ?_
          rintro e w4 ⟨rfl, hb4⟩
          have hW4 := Lib.hid (hW.out.trans (hb4.mono hW.out.size))
          clear hb4 hc hf hz2
          go_wp2_with fail
          refine (sawake_any _).mono ?_
          rintro e w5 ⟨rfl, hb5⟩
          have hW5 := Lib.hid (hW4.out.trans (hb5.mono hW4.out.size))
          clear hb5
          go_wp2
          go_ret
          exact ⟨rfl, hW5.out⟩
        · have hlt := y4 hn
          have hn1 : (n == 0) = false := by simp [hn]
          clear y4 hn
          go_enter Try.func5, Try.ntmps5
          go_wp2_with fail
          refine (sto_any b p _).mono ?_
          rintro e w1 ⟨rfl, hb1⟩
          replace hb1 := Below.mono hb1 (B' := w.heap.size + 1) (by simp)
          have B1 := Lib.hid hb1
          clear hb1
          go_wp2_with fail
          refine (CW.out _).mono ?_
          rintro e w2 ⟨rfl, hb2⟩
          have z1 := Lib.hid (show w.heap.size + 1 ≤ w1.heap.size by have := B1.out.size; simp at this; omega)
          have B2 := Lib.hid (B1.out.trans (hb2.mono z1.out))
          obtain ⟨hc, hf⟩ := old_cells B2.out
          have hz2 : w.heap.size < w2.heap.size := by have := B2.out.size; simp at this; omega
          clear hb2
          go_wp2_with fail
          refine (CR.out _).mono ?_
          rintro e w3 ⟨rfl, hb3⟩
          have B3 := Lib.hid (B2.out.trans (hb3.mono hz2))
          clear hb3 hc hf hz2
          obtain ⟨hc, hf⟩ := old_cells B3.out
          have hz2 : w.heap.size < w3.heap.size := by have := B3.out.size; simp at this; omega
          go_wp2_with fail
          refine (CL.out _).mono ?_
          rintro e w4 ⟨rfl, hb4⟩
          have B4 := Lib.hid (B3.out.trans (hb4.mono hz2))
          clear hb4 hc hf hz2
          obtain ⟨hc, hf⟩ := old_cells B4.out
          have hz2 : w.heap.size < w4.heap.size := by have := B4.out.size; simp at this; omega
          have hW4 := Lib.hid (HB.out.trans (B4.out.mono (by omega)))
          go_wp2_with fail
          refine (CL1.out _).mono ?_
          rintro e w5 ⟨rfl, hb5⟩
          have hW5 := Lib.hid (hW4.out.trans (hb5.mono hW4.out.size))
          clear hb5 hc hf hz2
          go_wp2_with fail
          refine (sawake_any _).mono ?_
          rintro e w6 ⟨rfl, hb6⟩
          have hW6 := Lib.hid (hW5.out.trans (hb6.mono hW5.out.size))
          clear hb6
          go_wp2
          go_ret
          exact ⟨rfl, hW6.out⟩
    · have hno : Sp.waitOk b p need = false := by simp [Sp.waitOk, h0]
      rw [Sp.wait_no hno, hno] at CW
      clear hno hr
      go_enter Try.func5, Try.ntmps5
      go_wp2_with fail
      refine (sto_any b p _).mono ?_
      rintro e w1 ⟨rfl, hb1⟩
      replace hb1 := Below.mono hb1 (B' := w.heap.size + 1) (by simp)
      have B1 := Lib.hid hb1
      clear hb1
      go_wp2_with fail
      refine (CW.out _).mono ?_
      rintro e w2 ⟨rfl, hb2⟩
      have z1 := Lib.hid (show w.heap.size + 1 ≤ w1.heap.size by have := B1.out.size; simp at this; omega)
      have B2 := Lib.hid (B1.out.trans (hb2.mono z1.out))
      obtain ⟨hc, hf⟩ := old_cells B2.out
      have hz2 : w.heap.size < w2.heap.size := by have := B2.out.size; simp at this; omega
      have hW := Lib.hid (HB.out.trans (B2.out.mono (by omega)))
      clear hb2
      go_wp2_with fail
      refine (CR.out _).mono ?_
      rintro e w3 ⟨rfl, hb3⟩
      have hW3 := Lib.hid (hW.out.trans (hb3.mono (by omega)))
      clear hb3 hc hf hz2
      go_wp2_with fail
      refine (sawake_any _).mono ?_
      rintro e w4 ⟨rfl, hb4⟩
      have hW4 := Lib.hid (hW3.out.trans (hb4.mono hW3.out.size))
      clear hb4
      go_wp2
      go_ret
      exact ⟨rfl, hW4.out⟩
end Go.Proofs.Ytbeckgdocnofhaa
