/-
  Contracts of package supply, more: the wait for so many ticks; the least budget that is enough.
-/
import Derived.Test.YtlpmcmgalodfeaaSWalksB
namespace Go.Proofs.Ytlpmcmgalodfeaa
open Go.ChangeShapes Go.WideShapes Go.ChangeAt Go.RowKit


set_option maxHeartbeats 1000000 in
theorem smallest_any (p need t : Int) (w : World) :
    Calls Try.prog 33 #[.int .i64 p, .int .i64 need, .int .i64 t] w fun e w' => e = .returned (.tuple #[.int .i64 (Sp.smallN p need t), .bool (Sp.smallOk p need t)]) ∧ Below w.heap.size w w' := by
  have CR : Hid (∀ w : World, _) := fun w => sright_any p p w
  have CS : Hid (∀ w : World, _) := fun w => sspans_any t w
  have CL : Hid (∀ w : World, _) := fun w => least_any p p t w
  have CL1 : Hid (∀ w : World, _) := fun w => least_any 1 p t w
  have hbox : Below w.heap.size w ((w.alloc (.cells #[.int .i64 1, .int .i64 p] 31)).alloc (.cells #[.int .i64 p, .int .i64 p] 31)) := by go_grown
  have HB := Lib.hid hbox
  clear hbox
  cases hr : Sp.right p p with
  | false =>
    have hno : Sp.smallOk p need t = false := by simp [Sp.smallOk, hr]
    rw [hr] at CR
    rw [Sp.small_no hno, hno]
    clear hno hr
    go_enter Try.func33, Try.ntmps33
    go_wp2_with fail
    refine (CR.out _).mono ?_
    rintro e w1 ⟨rfl, hb1⟩
    have hW := Lib.hid (HB.out.trans (hb1.mono (by simp; omega)))
    clear hb1
    go_wp2
    go_ret2
    exact ⟨rfl, hW.out⟩
  | true =>
    rw [hr] at CR
    have Hr := Lib.hid hr
    clear hr
    cases hs : Sp.asks t with
    | false =>
      have hno : Sp.smallOk p need t = false := by simp [Sp.smallOk, hs]
      rw [hs] at CS
      rw [Sp.small_no hno, hno]
      clear hno hs
      go_enter Try.func33, Try.ntmps33
      go_wp2_with fail
      refine (CR.out _).mono ?_
      rintro e w1 ⟨rfl, hb1⟩
      have hW := Lib.hid (HB.out.trans (hb1.mono (by simp; omega)))
      clear hb1
      go_wp2_with fail
      refine (CS.out _).mono ?_
      rintro e w2 ⟨rfl, rfl⟩
      go_wp2
      go_ret2
      exact ⟨rfl, hW.out⟩
    | true =>
      rw [hs] at CS
      rw [Sp.least_yes Hr.out hs] at CL
      obtain ⟨r1, r2, r3⟩ := Sp.right_iff.1 Hr.out
      rw [Sp.least_yes (Sp.right_iff.2 ⟨by omega, by omega, by omega⟩) hs] at CL1
      have Hs := Lib.hid hs
      clear hs
      by_cases h1 : 0 ≤ need
      · by_cases h2 : need ≤ Sp.give p p t
        · have hok : Sp.smallOk p need t = true := Sp.small_iff.2 ⟨Hr.out, Hs.out, h1, h2⟩
          obtain ⟨s1, s2⟩ := Sp.asks_iff.1 Hs.out
          have hgb := Sp.give_bd (b := p) (p := p) (t := t) (by omega) (by omega) (by omega) (by omega)
          have HN : Hid (Sp.smallN p need t = if need = 0 then 1 else Sp.up need (max 0 (t / p - 1))) := (by rw [Sp.smallN, if_pos hok] : Sp.smallN p need t = if need = 0 then 1 else Sp.up need (max 0 (t / p - 1)))
          rw [hok]
          clear hok
          by_cases h0 : need = 0
          · rw [show Sp.smallN p need t = 1 by rw [HN.out, if_pos h0]]
            generalize Sp.give p p t = G at *
            clear HN CL1
            subst h0
            go_enter Try.func33, Try.ntmps33
            go_wp2_with fail
            refine (CR.out _).mono ?_
            rintro e w1 ⟨rfl, hb1⟩
            replace hb1 := Below.mono hb1 (B' := w.heap.size + 2) (by simp)
            have hW := Lib.hid (HB.out.trans (hb1.mono (by simp)))
            obtain ⟨hc, hf⟩ := old_cells hb1
            have hz1 : w.heap.size + 1 < w1.heap.size := by have := hb1.size; simp at this; omega
            have hz1' : w.heap.size + 1 ≤ w1.heap.size := by omega
            have hz1'' : w.heap.size < w1.heap.size := by omega
            clear hb1
            go_wp2_with fail
            refine (CS.out _).mono ?_
            rintro e w2 ⟨rfl, rfl⟩
            go_wp2_with fail
            refine (CL.out _).mono ?_
            rintro e w2 ⟨rfl, hb2⟩
            obtain ⟨hc2, hf2⟩ := old_cells hb2
            have hW2 := Lib.hid (hW.out.trans (hb2.mono (by omega)))
            have hz2 : w.heap.size < w2.heap.size := by have := hb2.size; omega
            clear hb2
            go_wp2
            go_ret2
            exact ⟨rfl, hW2.out⟩
          · rw [if_neg h0] at HN
            have hL := Sp.small_wide h2 (by omega)
            have hL2 : max 0 (t / p - 1) ≤ 1048576 := by
              have := Sp.div_bd (t := t) (show 1 ≤ p by omega) s1
              omega
            rw [Sp.give, Int.one_mul] at CL1
            have CU : Hid (∀ w : World, _) := fun w => up_any need (max 0 (t / p - 1)) w h1 (by omega) hL (by omega)
            generalize max 0 (t / p - 1) = L at *
            generalize Sp.give p p t = G at *
            have hd0 : (need == 0) = false := by simp [h0]
            rw [HN.out]
            clear h0 HN
            go_enter Try.func33, Try.ntmps33
            go_wp2_with fail
            refine (CR.out _).mono ?_
            rintro e w1 ⟨rfl, hb1⟩
            replace hb1 := Below.mono hb1 (B' := w.heap.size + 2) (by simp)
            have hW := Lib.hid (HB.out.trans (hb1.mono (by simp)))
            obtain ⟨hc, hf⟩ := old_cells hb1
            have hz1 : w.heap.size + 1 < w1.heap.size := by have := hb1.size; simp at this; omega
            have hz1' : w.heap.size + 1 ≤ w1.heap.size := by omega
            have hz1'' : w.heap.size < w1.heap.size := by omega
            clear hb1
            go_wp2_with fail
            refine (CS.out _).mono ?_
            rintro e w2 ⟨rfl, rfl⟩
            go_wp2_with fail
            refine (CL.out _).mono ?_
            rintro e w2 ⟨rfl, hb2⟩
            obtain ⟨hc2, hf2⟩ := old_cells hb2
            have hW2 := Lib.hid (hW.out.trans (hb2.mono (by omega)))
            have hz2 : w.heap.size < w2.heap.size := by have := hb2.size; omega
            clear hb2
            go_wp2_with fail
            refine (CL1.out _).mono ?_
            rintro e w3 ⟨rfl, hb3⟩
            have hW3 := Lib.hid (hW2.out.trans (hb3.mono (by omega)))
            clear hb3
            go_wp2_with fail
            refine (CU.out _).mono ?_
            rintro e w4 ⟨rfl, rfl⟩
            go_wp2
            go_ret2
            exact ⟨rfl, hW3.out⟩
        · have hno : Sp.smallOk p need t = false := by simp [Sp.smallOk, h2]
          rw [Sp.small_no hno, hno]
          clear hno
          generalize Sp.give p p t = G at *
          go_enter Try.func33, Try.ntmps33
          go_wp2_with fail
          refine (CR.out _).mono ?_
          rintro e w1 ⟨rfl, hb1⟩
          replace hb1 := Below.mono hb1 (B' := w.heap.size + 2) (by simp)
          have hW := Lib.hid (HB.out.trans (hb1.mono (by simp)))
          obtain ⟨hc, hf⟩ := old_cells hb1
          have hz1 : w.heap.size + 1 < w1.heap.size := by have := hb1.size; simp at this; omega
          have hz1' : w.heap.size + 1 ≤ w1.heap.size := by omega
          clear hb1
          go_wp2_with fail
          refine (CS.out _).mono ?_
          rintro e w2 ⟨rfl, rfl⟩
          go_wp2_with fail
          refine (CL.out _).mono ?_
          rintro e w2 ⟨rfl, hb2⟩
          have hz := Lib.hid hz1
          clear hc hf hz1 hz1'
          go_wp2
          go_ret2
          exact ⟨rfl, hW.out.trans (hb2.mono (by have := hz.out; omega))⟩
      · have hno : Sp.smallOk p need t = false := by simp [Sp.smallOk, h1]
        rw [Sp.small_no hno, hno]
        clear hno
        go_enter Try.func33, Try.ntmps33
        go_wp2_with fail
        refine (CR.out _).mono ?_
        rintro e w1 ⟨rfl, hb1⟩
        have hW := Lib.hid (HB.out.trans (hb1.mono (by simp; omega)))
        clear hb1
        go_wp2_with fail
        refine (CS.out _).mono ?_
        rintro e w2 ⟨rfl, rfl⟩
        go_wp2
        go_ret2
        exact ⟨rfl, hW.out⟩
end Go.Proofs.Ytlpmcmgalodfeaa
