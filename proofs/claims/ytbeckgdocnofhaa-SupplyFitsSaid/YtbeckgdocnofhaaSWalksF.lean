/-
  The contract of the document's Fits.
-/
import Derived.Test.YtbeckgdocnofhaaSWalksE
import Derived.Test.YtbeckgdocnofhaaWalksG
import Derived.Deep.RegionHeld3
import Derived.Deep.DeepCutAuto
namespace Go.Proofs.Ytbeckgdocnofhaa
open Go.ChangeShapes Go.WideShapes Go.ChangeAt Go.RowKit

/-- What the region leaves that makes a sum: where it lies, and its error. -/
def SumMade (B : Nat) (W : World) (p q e : Int) (x y : Value) (wx : World) : Prop :=
  ∃ b : Nat, x = .pointer (some ⟨b, 0, none⟩) ∧ y = .int .i64 e ∧ Below B W wx ∧ b < wx.heap.size ∧ wx.cell? ⟨b, 0, none⟩ = some (.int .u64 p) ∧ wx.cell? ⟨b, 1, none⟩ = some (.int .u64 q)

set_option maxHeartbeats 4000000 in
theorem rfits_any (A : Option Addr) (n c : Nat) (l : List (Int × Int)) (w : World) (hln : l.length = n) (hl : n ≤ 1000) (hL : Rsv w.heap.size w A l) :
    Calls Try.prog 19 #[.slice A n c] w fun e w' => e = .returned (.bool (Sp.fits l)) ∧ Below w.heap.size w w' := by
  have HL := Lib.hid hL
  have Hl := Lib.hid hln
  clear hL hln
  go_enter Try.func19, Try.ntmps19
  go_wp2_with fail
  go_loopw [4] (fun i wr => ∃ k : Nat, k ≤ n ∧ i = .int .i64 k ∧ Hid ((l.take k).all Sp.rt = true) ∧ Hid (Below (w.heap.size + 1) (w.alloc (.cells #[.int .u64 0, .int .u64 1] 33)) wr)) (fun i _ => (n - intOf i).toNat)
  case atStart => exact ⟨0, by omega, rfl, (rfl : (l.take 0).all Sp.rt = true), (Below.refl _ _ : Below (w.heap.size + 1) _ _)⟩
  case round =>
    obtain ⟨k, hk, rfl, hap, hb⟩ := hrel
    have hbw := Lib.hid (((Below.refl _ _).alloc (Nat.le_refl _) _).trans (hb.out.mono (Nat.le_succ _)) : Below w.heap.size w wr)
    by_cases hlt : k < n
    · obtain ⟨ab, ao, rfl, hB, hcell⟩ := HL.out (by rw [Hl.out]; omega)
      obtain ⟨hc1, hc2⟩ := hcell k (by rw [Hl.out]; exact hlt)
      clear hcell
      obtain ⟨hc, hf⟩ := old_cells hbw.out
      have hz := hbw.out.size
      have hz1 : ab < wr.heap.size := by omega
      have hz2 : ab ≤ wr.heap.size := by omega
      have hk0 : (0 : Int) ≤ k := by omega
      have hkn : (k : Int) < n := by omega
      have hst := Lib.hid (Sp.all_take (l := l) (show k < l.length by rw [Hl.out]; exact hlt))
      have hno := Lib.hid (Sp.all_no (l := l) (show k < l.length by rw [Hl.out]; exact hlt))
      obtain ⟨x, y, hxy⟩ : ∃ x y, l.getD k (0, 0) = (x, y) := ⟨_, _, rfl⟩
      rw [hxy] at hc1 hc2 hst hno
      clear hxy
      go_wp2_with fail
      refine (srright_any x y _).mono ?_
      rintro e w2 ⟨rfl, hb2⟩
      have hb3 := Lib.hid (hb.out.trans (hb2.mono (by have := hb.out.size; simpa using this)))
      clear hb2
      cases hcs : Sp.right x y with
      | true =>
        have hcs2 := Lib.hid hcs
        clear hcs hc hf
        go_wp2
        go_roundw
        case rel => exact ⟨k + 1, by omega, by go_num, (by rw [hst.out, hap.out, Sp.rt, hcs2.out]; rfl : (l.take (k + 1)).all Sp.rt = true), hb3.out⟩
        case measure => simp [intOf]; omega
      | false =>
        have hcs2 := Lib.hid hcs
        clear hcs hc hf
        go_wp2
        go_ret
        exact ⟨bool_back (by rw [Sp.fits, hno.out (by rw [Sp.rt, hcs2.out])]; rfl), ((Below.refl _ _).alloc (Nat.le_refl _) _).trans (hb3.out.mono (Nat.le_succ _))⟩
    · have hall : Hid (l.all Sp.rt = true) := by
        have h1 := hap.out
        rw [List.take_of_length_le (by rw [Hl.out]; omega)] at h1
        exact h1
      obtain ⟨W1, hW1⟩ : ∃ W1, W1 = wr := ⟨_, rfl⟩
      rw [← hW1] at hb hbw ⊢
      clear hW1 hap
      have c1 : W1.cell? ⟨w.heap.size, 0, none⟩ = some (.int .u64 0) := by rw [(old_cells hb.out).1 _ _ (by omega)]; simp [go_sem]
      have c2 : W1.cell? ⟨w.heap.size, 1, none⟩ = some (.int .u64 1) := by rw [(old_cells hb.out).1 _ _ (by omega)]; simp [go_sem]
      have f1 : W1.frozen? ⟨w.heap.size, 0, none⟩ = false := by rw [(old_cells hb.out).2 _ _ (by omega)]; simp [go_sem]
      have f2 : W1.frozen? ⟨w.heap.size, 1, none⟩ = false := by rw [(old_cells hb.out).2 _ _ (by omega)]; simp [go_sem]
      have hzW : w.heap.size < W1.heap.size := by have := hb.out.size; simp at this; omega
      have K1 := Lib.hid (And.intro (And.intro c1 c2) (And.intro f1 (And.intro f2 hzW)))
      clear c1 c2 f1 f2 hzW hb
      go_wp2_with fail
      clear hk hlt
      go_loopw [5] (fun i wr => ∃ (k : Nat) (p q : Int), k ≤ n ∧ i = .int .i64 k ∧ 0 ≤ p ∧ p < 18446744073709551616 ∧ 0 ≤ q ∧ q < 18446744073709551616 ∧ Hid (Rt.sumTo (Sp.shares l) k = (p, q, 0)) ∧ Hid (Below w.heap.size w wr) ∧ w.heap.size < wr.heap.size ∧ wr.cell? ⟨w.heap.size, 0, none⟩ = some (.int .u64 p) ∧ wr.cell? ⟨w.heap.size, 1, none⟩ = some (.int .u64 q) ∧ wr.frozen? ⟨w.heap.size, 0, none⟩ = false ∧ wr.frozen? ⟨w.heap.size, 1, none⟩ = false) (fun i _ => (n - intOf i).toNat)
      case atStart => exact ⟨0, 0, 1, by omega, rfl, by omega, by omega, by omega, by omega, (rfl : Rt.sumTo (Sp.shares l) 0 = (0, 1, 0)), hbw.out, K1.out.2.2.2, K1.out.1.1, K1.out.1.2, K1.out.2.1, K1.out.2.2.1⟩
      case round =>
        obtain ⟨j, p, q, hj, rfl, hp1, hp2, hq1, hq2, hs, hb, hz, hc1, hc2, hf1, hf2⟩ := hrel
        clear K1 hbw
        by_cases hlt : j < n
        · obtain ⟨ab, ao, rfl, hB, hcell⟩ := HL.out (by rw [Hl.out]; omega)
          obtain ⟨ht1, ht2⟩ := hcell j (by rw [Hl.out]; exact hlt)
          clear hcell
          rw [← (old_cells hb.out).1 _ _ hB] at ht1 ht2
          have hk0 : (0 : Int) ≤ j := by omega
          have hkn : (j : Int) < n := by omega
          obtain ⟨y0, y1, hxy⟩ : ∃ x y, l.getD j (0, 0) = (x, y) := ⟨_, _, rfl⟩
          have hrt := Sp.all_at hall.out (show j < l.length by rw [Hl.out]; exact hlt)
          rw [hxy] at hrt
          have hsr : Sp.right y0 y1 = true := hrt
          obtain ⟨i1, i2, i3⟩ := Sp.right_iff.1 hsr
          have hsh := Sp.shares_at (show j < l.length by rw [Hl.out]; exact hlt) hxy
          have hsb := Sp.sh_bd y0 y1
          have CM : Hid (∀ w : World, _) := fun w => make_any y0 y1 w (by omega) (by omega) (by omega) (by omega)
          rw [← (Sp.sh_yes hsr).1, ← (Sp.sh_yes hsr).2] at CM
          rw [hxy] at ht1 ht2
          clear hxy hrt hsr
          have hw1 : IntKind.u64.wrap y0 = y0 := by rw [IntKind.wrap_u64]; omega
          have hw2 : IntKind.u64.wrap y1 = y1 := by rw [IntKind.wrap_u64]; omega
          generalize Sp.shN y0 y1 = s0 at *
          generalize Sp.shD y0 y1 = s1 at *
          have CR : Hid (∀ w : World, _) := fun w => radd_any p q s0 s1 w hp1 hp2 hq1 hq2 hsb.1.1 hsb.1.2 hsb.2.1 hsb.2.2
          have hst := Lib.hid (Rt.sumTo_step hs.out (s0, s1) hsh)
          have hbd := Lib.hid (Rt.add_bd p q s0 s1 hp1 hq1 hsb.1.1 hsb.2.1)
          clear hsh hsb
          simp only at hst
          obtain ⟨P, hP⟩ : ∃ x, Rt.addN p q s0 s1 = x := ⟨_, rfl⟩
          obtain ⟨Q, hQ⟩ : ∃ x, Rt.addD p q s0 s1 = x := ⟨_, rfl⟩
          obtain ⟨E, hE⟩ : ∃ x, Rt.addE p q s0 s1 = x := ⟨_, rfl⟩
          rw [hP, hQ, hE] at hst CR
          rw [hP, hQ] at hbd
          clear hP hQ hE
          have HS : Hid (∀ w' : World, Below (w.heap.size + 1) wr w' → Below (w.heap.size + 1) wr w' ∧ w'.cell? ⟨w.heap.size, 0, none⟩ = some (.int .u64 p) ∧ w'.cell? ⟨w.heap.size, 1, none⟩ = some (.int .u64 q) ∧ w'.cell? ⟨ab, ao + j * 2, none⟩ = some (.int .i64 y0) ∧ w'.cell? ⟨ab, ao + j * 2 + 1, none⟩ = some (.int .i64 y1)) := by
            intro w' h
            obtain ⟨e1, -⟩ := old_cells h
            refine ⟨h, ?_, ?_, ?_, ?_⟩ <;> (rw [e1 _ _ (by omega)]; assumption)
          have HF : Hid (∀ w' : World, Below (w.heap.size + 1) wr w' → w'.frozen? ⟨w.heap.size, 0, none⟩ = false ∧ w'.frozen? ⟨w.heap.size, 1, none⟩ = false) := by
            intro w' h
            obtain ⟨-, f1⟩ := old_cells h
            refine ⟨?_, ?_⟩ <;> (rw [f1 _ _ (by omega)]; assumption)
          have HB : Hid (w.heap.size + 1 ≤ wr.heap.size) := (hz : w.heap.size + 1 ≤ wr.heap.size)
          clear hc1 hc2 hf1 hf2 ht1 ht2
          go_wp2_with fail
          go_cut [6, 7] from 27 to 44 (fun x y wx => SumMade (w.heap.size + 1) wr P Q E x y wx)
          case first =>
            go_region_held3 (fun w' => Below (w.heap.size + 1) wr w' ∧ w'.cell? ⟨w.heap.size, 0, none⟩ = some (.int .u64 p) ∧ w'.cell? ⟨w.heap.size, 1, none⟩ = some (.int .u64 q) ∧ w'.cell? ⟨ab, ao + j * 2, none⟩ = some (.int .i64 y0) ∧ w'.cell? ⟨ab, ao + j * 2 + 1, none⟩ = some (.int .i64 y1))
              ((refine HS.out _ ?_; repeat' (first | with_reducible exact Below.refl _ _ | with_reducible refine Below.drew ?_ | with_reducible exact And.left (by assumption) | with_reducible refine below_new HB.out ?_ _ | with_reducible refine below_call HB.out ?_ (by assumption) | with_reducible refine below_put HB.out ?_ _ ?_)))
              (first
                | (go_at_call 15; with_reducible refine (CM.out _).mono ?_; rintro e w4 ⟨rfl, hb4⟩; obtain ⟨e4, f4⟩ := old_cells hb4; have y4 := below_far hb4; have x4 := below_far_le hb4)
                | (go_at_call 28; with_reducible refine (CR.out _).mono ?_; rintro e w5 ⟨rfl, hb5⟩; obtain ⟨e5, f5⟩ := old_cells hb5; have y5 := below_far hb5; have x5 := below_far_le hb5))
            all_goals (go_wp2_with fail; go_meet)
            all_goals (refine ⟨_, rfl, rfl, And.left (by assumption), ?_, ?_, ?_⟩ <;> simp (maxDischargeDepth := 6) [go_sem, e4, y4, e5, y5])
          case rest =>
            obtain ⟨b6, rfl, rfl, hk6, l6, x1, x2⟩ := hcut
            obtain ⟨-, r1, r2, -, -⟩ := HS.out _ hk6
            obtain ⟨r3, r4⟩ := HF.out _ hk6
            have hz6 := Nat.le_trans HB.out hk6.size
            have hb6 := Lib.hid (hb.out.trans (hk6.mono (Nat.le_succ _)))
            clear hk6
            by_cases he : E = 0
            · subst he
              go_wp2
              go_roundw
              case rel => exact ⟨j + 1, P, Q, by omega, by go_num, hbd.out.1.1, hbd.out.1.2, hbd.out.2.1, hbd.out.2.2, hst.out, ((hb6.out.setCell (Nat.le_refl _) _).setCell (Nat.le_refl _) _ : Below w.heap.size _ _), by simpa [World.setCell] using Nat.lt_of_succ_le hz6, by simp [go_sem, r1], by simp [go_sem, r2], by simp [r3], by simp [r4]⟩
              case measure => simp [intOf]; omega
            · have hed : (E != 0) = true := by simp [he]
              have hfe : Hid (Sp.fits l = false) := by
                refine Sp.fits_error ?_
                have h5 := Rt.sumTo_far hst.out he (Sp.shares l).length (by rw [Sp.shares_len, Hl.out]; omega)
                rw [Rt.sumE, h5]
                exact he
              clear he
              go_wp2
              go_ret
              exact ⟨bool_back hfe.out.symm, hb6.out⟩
        · have hkn : Hid (j = n) := (by omega : j = n)
          have hfi : Hid (Sp.fits l = decide (p ≤ q)) := by
            have h5 : Rt.sumTo (Sp.shares l) (Sp.shares l).length = (p, q, 0) := by rw [Sp.shares_len, Hl.out, ← hkn.out]; exact hs.out
            show Sp.fits l = decide (p ≤ q)
            rw [Sp.fits, hall.out, Rt.sumE, Rt.sumN, Rt.sumD, h5]
            simp
          go_wp2
          go_ret
          exact ⟨bool_back hfi.out.symm, hb.out⟩
end Go.Proofs.Ytbeckgdocnofhaa
