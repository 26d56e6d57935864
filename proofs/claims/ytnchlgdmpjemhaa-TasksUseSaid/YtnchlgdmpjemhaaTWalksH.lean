/-
  The contract of the document's Use.
-/
import Derived.Test.YtnchlgdmpjemhaaTWalksG
import Derived.Test.YtnchlgdmpjemhaaWalksG
import Derived.Deep.RegionHeld3
import Derived.Deep.DeepCutAuto
namespace Go.Proofs.Ytnchlgdmpjemhaa
open Go.ChangeShapes Go.WideShapes Go.ChangeAt Go.RowKit

/-- What the region leaves that makes a sum: where it lies, and its error. -/
def SumMade (B : Nat) (W : World) (p q e : Int) (x y : Value) (wx : World) : Prop :=
  ∃ b : Nat, x = .pointer (some ⟨b, 0, none⟩) ∧ y = .int .i64 e ∧ Below B W wx ∧ b < wx.heap.size ∧ wx.cell? ⟨b, 0, none⟩ = some (.int .u64 p) ∧ wx.cell? ⟨b, 1, none⟩ = some (.int .u64 q)

set_option maxHeartbeats 2000000 in
theorem ruse_any (A : Option Addr) (n c : Nat) (l : List (Int × Int × Int)) (w : World) (hln : l.length = n) (hL : Tks w.heap.size w A l) (Hall : Hid (Tk.all l = true)) :
    Calls Try.prog 17 #[.slice A n c] w fun e w' => e = .returned (.tuple #[.agg #[.int .u64 (useN l), .int .u64 (useD l)], .int .i64 (useE l)]) ∧ Below w.heap.size w w' := by
  have HL := Lib.hid hL
  have Hl := Lib.hid hln
  clear hL hln
  have Hu := Lib.hid (use_yes Hall.out)
  have hn8 : n ≤ 8 := by rw [← Hl.out]; exact Tk.all_len Hall.out
  have h0 : Hid (Below w.heap.size w (w.alloc (.cells #[.int .u64 0, .int .u64 0] 40))) := ((Below.refl _ _).alloc (Nat.le_refl _) _ : Below w.heap.size w _)
  go_enter Try.func17, Try.ntmps17
  go_wp2_with fail
  go_loopw [5] (fun i wr => ∃ (k : Nat) (p q : Int), k ≤ n ∧ i = .int .i64 k ∧ 0 ≤ p ∧ p < 18446744073709551616 ∧ 0 ≤ q ∧ q < 18446744073709551616 ∧ Hid (Rt.sumTo (Tk.shares l) k = (p, q, 0)) ∧ Hid (Below (w.heap.size + 1) (w.alloc (.cells #[.int .u64 0, .int .u64 0] 40)) wr) ∧ w.heap.size + 1 < wr.heap.size ∧ wr.cell? ⟨w.heap.size + 1, 0, none⟩ = some (.int .u64 p) ∧ wr.cell? ⟨w.heap.size + 1, 1, none⟩ = some (.int .u64 q) ∧ wr.frozen? ⟨w.heap.size + 1, 0, none⟩ = false ∧ wr.frozen? ⟨w.heap.size + 1, 1, none⟩ = false) (fun i _ => (n - intOf i).toNat)
  case atStart => exact ⟨0, 0, 1, by omega, rfl, by omega, by omega, by omega, by omega, (rfl : Rt.sumTo (Tk.shares l) 0 = (0, 1, 0)), ((Below.refl _ _).alloc (by simp) _ : Below (w.heap.size + 1) _ _), by simp, by simp [go_sem], by simp [go_sem], by simp [go_sem], by simp [go_sem]⟩
  case round =>
    obtain ⟨k, p, q, hk, rfl, hp1, hp2, hq1, hq2, hs, hb, hz, hc1, hc2, hf1, hf2⟩ := hrel
    by_cases hlt : k < n
    · obtain ⟨ab, ao, rfl, hB, hcell⟩ := HL.out (by rw [Hl.out]; omega)
      obtain ⟨ht1, ht2, -⟩ := hcell k (by rw [Hl.out]; exact hlt)
      clear hcell
      have hbw := h0.out.trans (hb.out.mono (Nat.le_succ _))
      rw [← (old_cells hbw).1 _ _ hB] at ht1 ht2
      have hk0 : (0 : Int) ≤ k := by omega
      have hkn : (k : Int) < n := by omega
      obtain ⟨y0, y1, y2, hxyz⟩ : ∃ x y z, l.getD k (0, 0, 0) = (x, y, z) := ⟨_, _, _, rfl⟩
      obtain ⟨i1, i2, i3, i4⟩ := Tk.all_bd Hall.out (show k < l.length by rw [Hl.out]; exact hlt) hxyz
      have hsh := Tk.shares_at (show k < l.length by rw [Hl.out]; exact hlt) hxyz
      have hsb := Tk.share_bd (c := y0) (p := y1) (by omega) (by omega) (by omega) (by omega)
      have CM : Hid (∀ w : World, _) := fun w => make_any y0 y1 w (by omega) (by omega) (by omega) (by omega)
      rw [hxyz] at ht1 ht2
      clear hxyz
      have hw1 : IntKind.u64.wrap y0 = y0 := by rw [IntKind.wrap_u64]; omega
      have hw2 : IntKind.u64.wrap y1 = y1 := by rw [IntKind.wrap_u64]; omega
      obtain ⟨s0, hs0⟩ : ∃ s, y0 / Rt.gcd y0 y1 = s := ⟨_, rfl⟩
      obtain ⟨s1, hs1⟩ : ∃ s, y1 / Rt.gcd y0 y1 = s := ⟨_, rfl⟩
      rw [hs0, hs1] at hsh hsb CM
      have CR : Hid (∀ w : World, _) := fun w => radd_any p q s0 s1 w hp1 hp2 hq1 hq2 hsb.1 hsb.2.1 hsb.2.2.1 hsb.2.2.2
      have hst := Lib.hid (Rt.sumTo_step hs.out (s0, s1) hsh)
      have hbd := Lib.hid (Rt.add_bd p q s0 s1 hp1 hq1 hsb.1 hsb.2.2.1)
      have hki := Lib.hid (Rt.add_kinds p q s0 s1)
      have hca := Lib.hid (Rt.add_cases p q s0 s1)
      clear hs0 hs1 hsh hsb
      simp only at hst
      obtain ⟨P, hP⟩ : ∃ x, Rt.addN p q s0 s1 = x := ⟨_, rfl⟩
      obtain ⟨Q, hQ⟩ : ∃ x, Rt.addD p q s0 s1 = x := ⟨_, rfl⟩
      obtain ⟨E, hE⟩ : ∃ x, Rt.addE p q s0 s1 = x := ⟨_, rfl⟩
      rw [hP, hQ, hE] at hst hca CR
      rw [hP, hQ] at hbd
      rw [hE] at hki
      clear hP hQ hE
      have HS : Hid (∀ w' : World, Below (w.heap.size + 2) wr w' → Below (w.heap.size + 2) wr w' ∧ w'.cell? ⟨w.heap.size + 1, 0, none⟩ = some (.int .u64 p) ∧ w'.cell? ⟨w.heap.size + 1, 1, none⟩ = some (.int .u64 q) ∧ w'.cell? ⟨ab, ao + k * 3, none⟩ = some (.int .i64 y0) ∧ w'.cell? ⟨ab, ao + k * 3 + 1, none⟩ = some (.int .i64 y1)) := by
        intro w' h
        obtain ⟨e1, -⟩ := old_cells h
        refine ⟨h, ?_, ?_, ?_, ?_⟩ <;> (rw [e1 _ _ (by omega)]; assumption)
      have HF : Hid (∀ w' : World, Below (w.heap.size + 2) wr w' → w'.frozen? ⟨w.heap.size + 1, 0, none⟩ = false ∧ w'.frozen? ⟨w.heap.size + 1, 1, none⟩ = false) := by
        intro w' h
        obtain ⟨-, f1⟩ := old_cells h
        refine ⟨?_, ?_⟩ <;> (rw [f1 _ _ (by omega)]; assumption)
      have HB : Hid (w.heap.size + 2 ≤ wr.heap.size) := (hz : w.heap.size + 2 ≤ wr.heap.size)
      clear hbw hc1 hc2 hf1 hf2 ht1 ht2
      go_wp2_with fail
      go_cut [6, 7] from 15 to 32 (fun x y wx => SumMade (w.heap.size + 2) wr P Q E x y wx)
      case first =>
        go_region_held3 (fun w' => Below (w.heap.size + 2) wr w' ∧ w'.cell? ⟨w.heap.size + 1, 0, none⟩ = some (.int .u64 p) ∧ w'.cell? ⟨w.heap.size + 1, 1, none⟩ = some (.int .u64 q) ∧ w'.cell? ⟨ab, ao + k * 3, none⟩ = some (.int .i64 y0) ∧ w'.cell? ⟨ab, ao + k * 3 + 1, none⟩ = some (.int .i64 y1))
          ((refine HS.out _ ?_; repeat' (first | with_reducible exact Below.refl _ _ | with_reducible refine Below.drew ?_ | with_reducible exact And.left (by assumption) | with_reducible refine below_new HB.out ?_ _ | with_reducible refine below_call HB.out ?_ (by assumption) | with_reducible refine below_put HB.out ?_ _ ?_)))
          (first
            | (go_at_call 32; with_reducible refine (CM.out _).mono ?_; rintro e w4 ⟨rfl, hb4⟩; obtain ⟨e4, f4⟩ := old_cells hb4; have y4 := below_far hb4; have x4 := below_far_le hb4)
            | (go_at_call 31; with_reducible refine (CR.out _).mono ?_; rintro e w5 ⟨rfl, hb5⟩; obtain ⟨e5, f5⟩ := old_cells hb5; have y5 := below_far hb5; have x5 := below_far_le hb5))
        all_goals (go_wp2_with fail; go_meet)
        all_goals (refine ⟨_, rfl, rfl, And.left (by assumption), ?_, ?_, ?_⟩ <;> simp (maxDischargeDepth := 6) [go_sem, e4, y4, e5, y5])
      case rest =>
        obtain ⟨b6, rfl, rfl, hk6, l6, x1, x2⟩ := hcut
        have H6 := Lib.hid hk6
        obtain ⟨-, r1, r2, -, -⟩ := HS.out _ hk6
        obtain ⟨r3, r4⟩ := HF.out _ hk6
        have hz6 := Nat.le_trans HB.out hk6.size
        have hz7 := Nat.lt_of_lt_of_le (show w.heap.size + 1 < w.heap.size + 2 by omega) hz6
        have hz8 := Nat.lt_of_lt_of_le (show w.heap.size < w.heap.size + 2 by omega) hz6
        have hb6 := Lib.hid (hb.out.trans (hk6.mono (Nat.le_succ _)))
        obtain ⟨e1, f1⟩ := old_cells hb6.out
        clear hk6
        rcases hki.out with he | he | he
        · subst he
          go_wp2
          go_roundw
          case rel => exact ⟨k + 1, P, Q, by omega, by go_num, hbd.out.1.1, hbd.out.1.2, hbd.out.2.1, hbd.out.2.2, hst.out, ((hb6.out.setCell (Nat.le_refl _) _).setCell (Nat.le_refl _) _ : Below (w.heap.size + 1) _ _), by simpa [World.setCell] using hz7, by simp [go_sem, r1], by simp [go_sem, r2], by simp [r3], by simp [r4]⟩
          case measure => simp [intOf]; omega
        · subst he
          have hE : Hid (useN l = 0 ∧ useD l = 0 ∧ useE l = 1) := by
            obtain ⟨u1, u2, u3⟩ := Hu.out
            rcases hca.out with h2 | ⟨-, h2, h3⟩
            · exact absurd h2 (by decide)
            have h4 := hst.out
            rw [h2, h3] at h4
            have h5 := Rt.sumTo_far h4 (by decide) (Tk.shares l).length (by rw [Tk.shares_len, Hl.out]; omega)
            show useN l = 0 ∧ useD l = 0 ∧ useE l = 1
            rw [u1, u2, u3, Rt.sumN, Rt.sumD, Rt.sumE, h5]
            exact ⟨rfl, rfl, rfl⟩
          go_wp2
          refine bodyPost_ret (v := .tuple #[.agg #[.int .u64 0, .int .u64 0], .int .i64 1]) (by simp [results, Try.results17, go_sem, e1]) rfl ⟨?_, ?_⟩
          · obtain ⟨u1, u2, u3⟩ := hE.out
            exact three_back u1.symm u2.symm u3.symm
          · exact (h0.out.trans (hb6.out.mono (Nat.le_succ _))).trans (by go_grown)
        · subst he
          have hE : Hid (useN l = 0 ∧ useD l = 0 ∧ useE l = 24) := by
            obtain ⟨u1, u2, u3⟩ := Hu.out
            rcases hca.out with h2 | ⟨-, h2, h3⟩
            · exact absurd h2 (by decide)
            have h4 := hst.out
            rw [h2, h3] at h4
            have h5 := Rt.sumTo_far h4 (by decide) (Tk.shares l).length (by rw [Tk.shares_len, Hl.out]; omega)
            show useN l = 0 ∧ useD l = 0 ∧ useE l = 24
            rw [u1, u2, u3, Rt.sumN, Rt.sumD, Rt.sumE, h5]
            exact ⟨rfl, rfl, rfl⟩
          go_wp2
          refine bodyPost_ret (v := .tuple #[.agg #[.int .u64 0, .int .u64 0], .int .i64 24]) (by simp [results, Try.results17, go_sem, e1]) rfl ⟨?_, ?_⟩
          · obtain ⟨u1, u2, u3⟩ := hE.out
            exact three_back u1.symm u2.symm u3.symm
          · exact (h0.out.trans (hb6.out.mono (Nat.le_succ _))).trans (by go_grown)
    · have hkn : Hid (k = n) := (by omega : k = n)
      obtain ⟨e1, f1⟩ := old_cells hb.out
      have hz8 : w.heap.size < wr.heap.size := by omega
      go_wp2
      refine bodyPost_ret (v := .tuple #[.agg #[.int .u64 p, .int .u64 q], .int .i64 0]) (by simp [results, Try.results17, go_sem, e1]) rfl ⟨?_, ?_⟩
      · obtain ⟨u1, u2, u3⟩ := Hu.out
        have h5 : Rt.sumTo (Tk.shares l) (Tk.shares l).length = (p, q, 0) := by rw [Tk.shares_len, Hl.out, ← hkn.out]; exact hs.out
        exact three_back (by rw [u1, Rt.sumN, h5]) (by rw [u2, Rt.sumD, h5]) (by rw [u3, Rt.sumE, h5])
      · exact (h0.out.trans (hb.out.mono (Nat.le_succ _))).trans (by go_grown)
end Go.Proofs.Ytnchlgdmpjemhaa
