/-
  The law RatioAdds answers true: its walk out of the contracts.
-/
import Derived.Test.YthegadplakllkaaWalksG
import Derived.Test.YthegadplakllkaaAwake
namespace Go.Proofs.Ythegadplakllkaa
open Go.ChangeShapes Go.WideShapes Go.ChangeAt Go.RowKit

/-- A fraction's two cells, kept. -/
structure Frac (B : Nat) (W : World) (b5 : Nat) (N D : Int) (wx : World) : Prop where
  below : Below B W wx
  l5 : b5 < wx.heap.size
  x : wx.cell? ⟨b5, 0, none⟩ = some (.int .u64 N)
  y : wx.cell? ⟨b5, 1, none⟩ = some (.int .u64 D)
theorem Frac.call {B : Nat} {W : World} {b5 : Nat} {N D : Int} {w w' : World} (h : Frac B W b5 N D w) (hB : B ≤ W.heap.size) (hb : Below w.heap.size w w') : Frac B W b5 N D w' := by
  obtain ⟨e, -⟩ := old_cells hb
  exact ⟨below_call hB h.below hb, Nat.lt_of_lt_of_le h.l5 hb.size, (e _ _ h.l5).trans h.x, (e _ _ h.l5).trans h.y⟩
/-- What the region leaves that makes a fraction and an error. -/
def OneFrac (B : Nat) (W : World) (N D E : Int) (p q : Value) (wx : World) : Prop :=
  ∃ b5 : Nat, p = .pointer (some ⟨b5, 0, none⟩) ∧ q = .int .i64 E ∧ Frac B W b5 N D wx

set_option maxHeartbeats 2000000 in
theorem adds_any (a b c d : Int) (w : World) (ha : 0 ≤ a) (ha2 : a < 18446744073709551616) (hb : 0 ≤ b) (hb2 : b < 18446744073709551616) (hc : 0 ≤ c) (hc2 : c < 18446744073709551616) (hd : 0 ≤ d) (hd2 : d < 18446744073709551616) :
    Calls Try.prog 4 #[.agg #[.int .u64 a, .int .u64 b], .agg #[.int .u64 c, .int .u64 d]] w fun e w' => e = .returned (.bool true) ∧ Below w.heap.size w w' := by
  obtain ⟨W3, hW3⟩ : ∃ W3, W3 = ((w.alloc (.cells #[.int .u64 a, .int .u64 b] 24)).alloc (.cells #[.int .u64 c, .int .u64 d] 24)) := ⟨_, rfl⟩
  have h0 : Below w.heap.size w W3 := by
    rw [hW3]
    go_grown
  have hz : w.heap.size + 2 = W3.heap.size := by
    rw [hW3]
    simp
  have HS : Hid (∀ w' : World, Below (w.heap.size + 2) W3 w' → Below (w.heap.size + 2) W3 w' ∧ w'.cell? ⟨w.heap.size, 0, none⟩ = some (.int .u64 a) ∧ w'.cell? ⟨w.heap.size, 1, none⟩ = some (.int .u64 b) ∧ w'.cell? ⟨w.heap.size + 1, 0, none⟩ = some (.int .u64 c) ∧ w'.cell? ⟨w.heap.size + 1, 1, none⟩ = some (.int .u64 d)) := by
    intro w' h
    obtain ⟨e1, -⟩ := old_cells h
    refine ⟨h, ?_, ?_, ?_, ?_⟩ <;> (rw [e1 _ _ (by omega), hW3]; simp [go_sem])
  have H0 := Lib.hid h0
  have HB := Lib.hid (Nat.le_of_eq hz)
  have HW3 := Lib.hid hW3
  have HA := Lib.hid (fun w => add_any a b c d w ha ha2 hb hb2 hc hc2 hd hd2)
  have HR := Lib.hid (fun w => radd_any a b c d w ha ha2 hb hb2 hc hc2 hd hd2)
  clear h0 hz hW3
  obtain ⟨N, hN⟩ : ∃ N, N = Rt.addN a b c d := ⟨_, rfl⟩
  obtain ⟨D, hD⟩ : ∃ D, D = Rt.addD a b c d := ⟨_, rfl⟩
  obtain ⟨E, hE⟩ : ∃ E, E = Rt.addE a b c d := ⟨_, rfl⟩
  rw [← hN, ← hD, ← hE] at HA HR
  clear hN hD hE
  go_enter Try.func4, Try.ntmps4
  go_upto_region 1 with fail
  rw [← HW3.out]
  go_cut [5, 6] from 9 to 16 (fun p q wx => OneFrac (w.heap.size + 2) W3 N D E p q wx)
  case first =>
    go_region_held3 (fun w' => Below (w.heap.size + 2) W3 w' ∧ w'.cell? ⟨w.heap.size, 0, none⟩ = some (.int .u64 a) ∧ w'.cell? ⟨w.heap.size, 1, none⟩ = some (.int .u64 b) ∧ w'.cell? ⟨w.heap.size + 1, 0, none⟩ = some (.int .u64 c) ∧ w'.cell? ⟨w.heap.size + 1, 1, none⟩ = some (.int .u64 d))
      ((refine HS.out _ ?_; repeat' (first | with_reducible exact Below.refl _ _ | with_reducible refine Below.drew ?_ | with_reducible exact And.left (by assumption) | with_reducible refine below_new HB.out ?_ _ | with_reducible refine below_call HB.out ?_ (by assumption) | with_reducible refine below_put HB.out ?_ _ ?_ | with_reducible refine below_put1 HB.out ?_ _ ?_)))
      (first
        | (go_at_call 8; with_reducible refine (to_any a b _).mono ?_; rintro e w4 ⟨rfl, hb4⟩; obtain ⟨e4, f4⟩ := old_cells hb4; have y4 := below_far hb4; have x4 := below_far_le hb4)
        | (go_at_call 8; with_reducible refine (to_any c d _).mono ?_; rintro e w5 ⟨rfl, hb5⟩; obtain ⟨e5, f5⟩ := old_cells hb5; have y5 := below_far hb5; have x5 := below_far_le hb5; have v5 := fun k h => y5 k (Nat.lt_of_lt_of_le (y4 k h) (by first | (simp; done) | (simp; omega))); have u5 := fun k h => x5 k (Nat.lt_of_lt_of_le (y4 k h) (by first | (simp; done) | (simp; omega))))
        | (go_at_call 16; with_reducible refine (HA.out _).mono ?_; rintro e w6 ⟨rfl, hb6⟩; obtain ⟨e6, f6⟩ := old_cells hb6; have y6 := below_far hb6; have x6 := below_far_le hb6; have v6 := fun k h => y6 k (Nat.lt_of_lt_of_le (v5 k h) (by first | (simp; done) | (simp; omega))); have u6 := fun k h => y6 k (Nat.lt_of_lt_of_le (y5 k h) (by first | (simp; done) | (simp; omega)))))
    all_goals (go_wp2_with fail; go_meet)
    all_goals (refine ⟨_, rfl, rfl, And.left (by assumption), ?_, ?_, ?_⟩ <;> simp (maxDischargeDepth := 8) [go_sem, e4, y4, e5, y5, e6, y6])
  case rest =>
    obtain ⟨b5, rfl, rfl, hk⟩ := hcut
    have Hk := Lib.hid hk
    obtain ⟨hbl, l5, x0, x1⟩ := hk
    obtain ⟨-, ca, cb, cc, cd⟩ := HS.out _ hbl
    clear hbl
    go_wp2_with fail
    refine (HR.out _).mono ?_
    rintro e w6 ⟨rfl, hb6⟩
    have hk := Hk.out.call HB.out hb6
    clear l5 x0 x1 ca cb cc cd hb6
    have H6 := Lib.hid hk
    obtain ⟨-, l5, x0, x1⟩ := hk
    have l6 : b5 ≤ w6.heap.size := by omega
    go_wp2_with fail
    refine wp_region_later (w6.heap.size + 1) (w6.alloc (.cells #[.int .u64 N, .int .u64 D] 24)) (by kernel_rfl) (by kernel_rfl) (Below.refl _ _) ?_
    repeat (go_big_quiet_step (first
      | ((with_reducible refine Calls.later ?_ (to_any N D _)); simp)
      | ((with_reducible refine Calls.later ?_ (awake_any _)); simp)))
    refine wpQuiet_nil ?_
    rintro _ ⟨n1, rfl⟩
    go_wp2
    go_ret
    exact ⟨rfl, ((H0.out.trans (H6.out.below.mono (by omega))).alloc (Nat.le_trans (by have := HB.out; omega) (size_kept HB.out H6.out.below)) _).trans (n1.below.mono (Nat.le_trans (by have := HB.out; omega) (Nat.le_succ_of_le (size_kept HB.out H6.out.below))))⟩
end Go.Proofs.Ythegadplakllkaa
