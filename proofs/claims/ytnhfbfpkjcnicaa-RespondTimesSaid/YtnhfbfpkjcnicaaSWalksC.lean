/-
  Contracts of package supply, more: the wait for so many ticks; the least budget that is enough.
-/
import Derived.Test.YtnhfbfpkjcnicaaSWalksB
namespace Go.Proofs.Ytnhfbfpkjcnicaa
open Go.ChangeShapes Go.WideShapes Go.ChangeAt Go.RowKit

set_option maxHeartbeats 800000 in
theorem wait_any (b p need : Int) (w : World) :
    Calls Try.prog 15 #[.agg #[.int .i64 b, .int .i64 p], .int .i64 need] w fun e w' => e = .returned (.tuple #[.int .i64 (Sp.waitN b p need), .bool (Sp.waitOk b p need)]) ∧ Below w.heap.size w w' := by
  have CR : Hid (∀ w : World, _) := fun w => sright_any b p w
  have CL : Hid (∀ w : World, _) := fun w => least_any b p 1048576 w
  have hbox : Below w.heap.size w (w.alloc (.cells #[.int .i64 b, .int .i64 p] 31)) := by go_grown
  have HB := Lib.hid hbox
  clear hbox
  cases hr : Sp.right b p with
  | false =>
    have hno : Sp.waitOk b p need = false := by simp [Sp.waitOk, hr]
    rw [hr] at CR
    rw [Sp.wait_no hno, hno]
    clear hno hr
    go_enter Try.func15, Try.ntmps15
    go_wp2_with fail
    refine (CR.out _).mono ?_
    rintro e w1 ⟨rfl, hb1⟩
    have hW := Lib.hid (HB.out.trans (hb1.mono (by simp)))
    clear hb1
    go_wp2
    go_ret2
    exact ⟨rfl, hW.out⟩
  | true =>
    rw [hr] at CR
    rw [Sp.least_yes hr (by decide)] at CL
    have Hr := Lib.hid hr
    clear hr
    by_cases h1 : 0 ≤ need
    · by_cases h2 : need ≤ Sp.give b p 1048576
      · have hok : Sp.waitOk b p need = true := Sp.wait_iff.2 ⟨Hr.out, h1, h2⟩
        obtain ⟨r1, r2, r3⟩ := Sp.right_iff.1 Hr.out
        have hgb := Sp.give_bd (b := b) (p := p) (t := 1048576) (by omega) (by omega) (by omega) (by omega)
        have hwb := Lib.hid (Sp.wait_yes hok)
        have HN : Hid (Sp.waitN b p need = if need = 0 then 0 else p * (Sp.up need b + 1)) := (by rw [Sp.waitN, if_pos hok] : Sp.waitN b p need = if need = 0 then 0 else p * (Sp.up need b + 1))
        have CU : Hid (∀ w : World, _) := fun w => up_any need b w h1 (by omega) (by omega) (by omega)
        have hub := Sp.up_bd h1 (show 1 ≤ b by omega)
        rw [hok]
        generalize Sp.give b p 1048576 = G at *
        clear hok
        by_cases h0 : need = 0
        · rw [show Sp.waitN b p need = 0 by rw [HN.out, if_pos h0]]
          clear HN hwb CU hub
          subst h0
          go_enter Try.func15, Try.ntmps15
          go_wp2_with fail
          refine (CR.out _).mono ?_
          rintro e w1 ⟨rfl, hb1⟩
          replace hb1 := Below.mono hb1 (B' := w.heap.size + 1) (by simp)
          have hW := Lib.hid (HB.out.trans (hb1.mono (by simp)))
          obtain ⟨hc, hf⟩ := old_cells hb1
          have hz1 : w.heap.size < w1.heap.size := by have := hb1.size; simp at this; omega
          clear hb1
          go_wp2_with fail
          refine (CL.out _).mono ?_
          rintro e w2 ⟨rfl, hb2⟩
          have hz := Lib.hid hz1
          clear hc hf hz1
          go_wp2
          go_ret2
          exact ⟨rfl, hW.out.trans (hb2.mono (by have := hz.out; omega))⟩
        · rw [if_neg h0] at HN
          rw [HN.out] at hwb
          generalize Sp.up need b = U at *
          have hd0 : (need == 0) = false := by simp [h0]
          have E1 := Lib.hid (show IntKind.i64.wrap (U + 1) = U + 1 from IntWalk.i64_in _ (by omega))
          have E2 := Lib.hid (show IntKind.i64.wrap (p * (U + 1)) = p * (U + 1) from IntWalk.i64_in _ (by have := hwb.out; omega))
          rw [HN.out]
          clear h0 HN hwb
          go_enter Try.func15, Try.ntmps15
          go_wp2_with fail
          refine (CR.out _).mono ?_
          rintro e w1 ⟨rfl, hb1⟩
          replace hb1 := Below.mono hb1 (B' := w.heap.size + 1) (by simp)
          have hW := Lib.hid (HB.out.trans (hb1.mono (by simp)))
          obtain ⟨hc, hf⟩ := old_cells hb1
          have hz1 : w.heap.size < w1.heap.size := by have := hb1.size; simp at this; omega
          clear hb1
          go_wp2_with fail
          refine (CL.out _).mono ?_
          rintro e w2 ⟨rfl, hb2⟩
          obtain ⟨hc2, hf2⟩ := old_cells hb2
          have hW2 := Lib.hid (hW.out.trans (hb2.mono (by omega)))
          have hz2 : w.heap.size < w2.heap.size := by have := hb2.size; omega
          clear hb2
          go_wp2_with fail
          have e1 := E1.out
          have e2 := E2.out
          refine wp_region_later w2.heap.size w2 (by kernel_rfl) (by kernel_rfl) (Below.refl _ _) ?_
          repeat (go_big_quiet_step (with_reducible exact Calls.later_same (CU.out _)))
          refine wpQuiet_nil ?_
          rintro _ ⟨n3, rfl⟩
          clear e1 e2
          go_wp2
          go_ret2
          exact ⟨rfl, hW2.out.trans (n3.below.mono (by omega))⟩
      · have hno : Sp.waitOk b p need = false := by simp [Sp.waitOk, h2]
        rw [Sp.wait_no hno, hno]
        clear hno
        generalize Sp.give b p 1048576 = G at *
        go_enter Try.func15, Try.ntmps15
        go_wp2_with fail
        refine (CR.out _).mono ?_
        rintro e w1 ⟨rfl, hb1⟩
        replace hb1 := Below.mono hb1 (B' := w.heap.size + 1) (by simp)
        have hW := Lib.hid (HB.out.trans (hb1.mono (by simp)))
        obtain ⟨hc, hf⟩ := old_cells hb1
        have hz1 : w.heap.size < w1.heap.size := by have := hb1.size; simp at this; omega
        clear hb1
        go_wp2_with fail
        refine (CL.out _).mono ?_
        rintro e w2 ⟨rfl, hb2⟩
        have hz := Lib.hid hz1
        clear hc hf hz1
        go_wp2
        go_ret2
        exact ⟨rfl, hW.out.trans (hb2.mono (by have := hz.out; omega))⟩
    · have hno : Sp.waitOk b p need = false := by simp [Sp.waitOk, h1]
      rw [Sp.wait_no hno, hno]
      clear hno
      go_enter Try.func15, Try.ntmps15
      go_wp2_with fail
      refine (CR.out _).mono ?_
      rintro e w1 ⟨rfl, hb1⟩
      have hW := Lib.hid (HB.out.trans (hb1.mono (by simp)))
      clear hb1
      go_wp2
      go_ret2
      exact ⟨rfl, hW.out⟩

end Go.Proofs.Ytnhfbfpkjcnicaa
