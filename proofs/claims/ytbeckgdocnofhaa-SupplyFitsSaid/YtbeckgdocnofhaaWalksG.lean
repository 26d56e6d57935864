/-
  The contract of the document's Add.
-/
import Derived.Test.YtbeckgdocnofhaaWalksC
import Derived.Test.YtbeckgdocnofhaaWalksF
import Derived.Deep.RegionHeld3
import Derived.Deep.DeepCutAuto
import Derived.Deep.CutRange
namespace Go.Proofs.Ytbeckgdocnofhaa
open Go.ChangeShapes Go.WideShapes Go.ChangeAt Go.RowKit

/-- At b a number's four digits lie. -/
def Wide (w : World) (b : Nat) (n : Int) : Prop := w.cell? ⟨b, 0, none⟩ = some (.int .u64 (Rt.d0 n)) ∧ w.cell? ⟨b, 1, none⟩ = some (.int .u64 (Rt.d1 n)) ∧ w.cell? ⟨b, 2, none⟩ = some (.int .u64 (Rt.d2 n)) ∧ w.cell? ⟨b, 3, none⟩ = some (.int .u64 (Rt.d3 n))
/-- Two numbers' digits, kept. -/
structure Kept (B : Nat) (W : World) (b7 b8 : Nat) (X Y : Int) (wx : World) : Prop where
  below : Below B W wx
  l7 : b7 < wx.heap.size
  l8 : b8 < wx.heap.size
  x : Wide wx b7 X
  y : Wide wx b8 Y
theorem Wide.call {w w' : World} {b : Nat} {n : Int} (h : Wide w b n) (hl : b < w.heap.size) (hb : Below w.heap.size w w') : Wide w' b n := by
  obtain ⟨e, -⟩ := old_cells hb
  obtain ⟨h0, h1, h2, h3⟩ := h
  exact ⟨(e _ _ hl).trans h0, (e _ _ hl).trans h1, (e _ _ hl).trans h2, (e _ _ hl).trans h3⟩
theorem Kept.call {B : Nat} {W : World} {b7 b8 : Nat} {X Y : Int} {w w' : World} (h : Kept B W b7 b8 X Y w) (hB : B ≤ W.heap.size) (hb : Below w.heap.size w w') : Kept B W b7 b8 X Y w' :=
  ⟨below_call hB h.below hb, Nat.lt_of_lt_of_le h.l7 hb.size, Nat.lt_of_lt_of_le h.l8 hb.size, h.x.call h.l7 hb, h.y.call h.l8 hb⟩
/-- What the region leaves that makes two products. -/
def TwoWide (B : Nat) (W : World) (X Y : Int) (p q : Value) (wx : World) : Prop :=
  ∃ b7 b8 : Nat, p = .pointer (some ⟨b7, 0, none⟩) ∧ q = .pointer (some ⟨b8, 0, none⟩) ∧ Kept B W b7 b8 X Y wx

set_option maxHeartbeats 4000000 in
theorem radd_any (a b c d : Int) (w : World) (ha : 0 ≤ a) (ha2 : a < 18446744073709551616) (hb : 0 ≤ b) (hb2 : b < 18446744073709551616) (hc : 0 ≤ c) (hc2 : c < 18446744073709551616) (hd : 0 ≤ d) (hd2 : d < 18446744073709551616) :
    Calls Try.prog 28 #[.agg #[.int .u64 a, .int .u64 b], .agg #[.int .u64 c, .int .u64 d]] w fun e w' => e = .returned (.tuple #[.agg #[.int .u64 (Rt.addN a b c d), .int .u64 (Rt.addD a b c d)], .int .i64 (Rt.addE a b c d)]) ∧ Below w.heap.size w w' := by
  obtain ⟨W3, hW3⟩ : ∃ W3, W3 = (((w.alloc (.cells #[.int .u64 a, .int .u64 b] 33)).alloc (.cells #[.int .u64 c, .int .u64 d] 33)).alloc (.cells #[.int .u64 0, .int .u64 0] 33)) := ⟨_, rfl⟩
  have h0 : Below w.heap.size w W3 := by
    rw [hW3]
    go_grown
  have hz : w.heap.size + 3 = W3.heap.size := by
    rw [hW3]
    simp
  have HS : Hid (∀ w' : World, Below (w.heap.size + 3) W3 w' → Below (w.heap.size + 3) W3 w' ∧ w'.cell? ⟨w.heap.size, 0, none⟩ = some (.int .u64 a) ∧ w'.cell? ⟨w.heap.size, 1, none⟩ = some (.int .u64 b) ∧ w'.cell? ⟨w.heap.size + 1, 0, none⟩ = some (.int .u64 c) ∧ w'.cell? ⟨w.heap.size + 1, 1, none⟩ = some (.int .u64 d)) := by
    intro w' h
    obtain ⟨e1, -⟩ := old_cells h
    refine ⟨h, ?_, ?_, ?_, ?_⟩ <;> (rw [e1 _ _ (by omega), hW3]; simp [go_sem])
  have HR : Hid (∀ w' : World, Below (w.heap.size + 3) W3 w' → w'.cell? ⟨w.heap.size + 1 + 1, 0, none⟩ = some (.int .u64 0) ∧ w'.cell? ⟨w.heap.size + 1 + 1, 1, none⟩ = some (.int .u64 0) ∧ w'.frozen? ⟨w.heap.size + 1 + 1, 0, none⟩ = false ∧ w'.frozen? ⟨w.heap.size + 1 + 1, 1, none⟩ = false ∧ w.heap.size + 3 ≤ w'.heap.size) := by
    intro w' h
    obtain ⟨e1, f1⟩ := old_cells h
    refine ⟨?_, ?_, ?_, ?_, ?_⟩
    · rw [e1 _ _ (by omega), hW3]; simp [go_sem]
    · rw [e1 _ _ (by omega), hW3]; simp [go_sem]
    · rw [f1 _ _ (by omega), hW3]; simp [go_sem]
    · rw [f1 _ _ (by omega), hW3]; simp [go_sem]
    · have := h.size
      omega
  have H0 := Lib.hid h0
  have HB := Lib.hid (Nat.le_of_eq hz)
  have HW3 := Lib.hid hW3
  clear h0 hz hW3
  go_enter Try.func28, Try.ntmps28
  cases hab : Rt.ok a b with
  | false =>
    have Hbad : Hid (Rt.bad a b c d = true) := (by simp [Rt.bad, hab] : Rt.bad a b c d = true)
    have C1 := fun w => rright_any a b w ha ha2 hb hb2
    rw [hab] at C1
    have HC1 : Hid (∀ w : World, _) := C1
    clear C1 hab
    go_wp2_with fail
    refine (HC1.out _).mono ?_
    rintro e w' ⟨rfl, rfl⟩
    go_wp2
    refine bodyPost_ret (v := .tuple #[.agg #[.int .u64 0, .int .u64 0], .int .i64 1]) (by simp [results, Try.results28, go_sem]) rfl ⟨?_, ?_⟩
    · obtain ⟨x1, x2, x3⟩ := Rt.add_bad Hbad.out
      exact three_back x2.symm x3.symm x1.symm
    · go_grown
  | true =>
    have Hab := Lib.hid hab
    cases hcd : Rt.ok c d with
    | false =>
      have Hbad : Hid (Rt.bad a b c d = true) := (by simp [Rt.bad, hcd] : Rt.bad a b c d = true)
      have C1 := fun w => rright_any a b w ha ha2 hb hb2
      have C2 := fun w => rright_any c d w hc hc2 hd hd2
      rw [hab] at C1
      rw [hcd] at C2
      have HC1 : Hid (∀ w : World, _) := C1
      have HC2 : Hid (∀ w : World, _) := C2
      clear C1 C2 hab hcd
      go_wp2_with fail
      refine (HC1.out _).mono ?_
      rintro e w' ⟨rfl, rfl⟩
      go_wp2_with fail
      refine (HC2.out _).mono ?_
      rintro e w' ⟨rfl, rfl⟩
      go_wp2
      refine bodyPost_ret (v := .tuple #[.agg #[.int .u64 0, .int .u64 0], .int .i64 1]) (by simp [results, Try.results28, go_sem]) rfl ⟨?_, ?_⟩
      · obtain ⟨x1, x2, x3⟩ := Rt.add_bad Hbad.out
        exact three_back x2.symm x3.symm x1.symm
      · go_grown
    | true =>
      have Hbad : Hid (Rt.bad a b c d = false) := (by simp [Rt.bad, hcd, Hab.out] : Rt.bad a b c d = false)
      have hbp := Rt.ok_pos hab
      have hdp := Rt.ok_pos hcd
      have hg := Rt.gcd_pos b d hdp
      have hg0 : Rt.gcd b d ≠ 0 := by omega
      obtain ⟨p1, p2⟩ := Rt.part_bd d _ hd hd2 hg
      obtain ⟨q1, q2⟩ := Rt.part_bd b _ hb hb2 hg
      have t1 : IntKind.u64.wrap (d.tdiv (Rt.gcd b d)) = d / Rt.gcd b d := by
        rw [Int.tdiv_eq_ediv_of_nonneg hd, IntKind.wrap_u64, Int.emod_eq_of_lt p1 p2]
      have t2 : IntKind.u64.wrap (b.tdiv (Rt.gcd b d)) = b / Rt.gcd b d := by
        rw [Int.tdiv_eq_ediv_of_nonneg hb, IntKind.wrap_u64, Int.emod_eq_of_lt q1 q2]
      have HX := Lib.hid (Rt.mul_bd a _ ha ha2 p1 p2)
      have HY := Lib.hid (Rt.mul_bd c _ hc hc2 q1 q2)
      have HT := Lib.hid (Rt.mul_bd _ d q1 q2 hd hd2)
      have P1 := fun w => times_any a (d / Rt.gcd b d) w ha ha2 p1 p2
      have P2 := fun w => times_any c (b / Rt.gcd b d) w hc hc2 q1 q2
      have P3 := fun w => times_any (b / Rt.gcd b d) d w q1 q2 hd hd2
      obtain ⟨X, hX⟩ : ∃ X, X = a * (d / Rt.gcd b d) := ⟨_, rfl⟩
      obtain ⟨Y, hY⟩ : ∃ Y, Y = c * (b / Rt.gcd b d) := ⟨_, rfl⟩
      obtain ⟨T, hT⟩ : ∃ T, T = b / Rt.gcd b d * d := ⟨_, rfl⟩
      rw [← hX] at P1 HX
      rw [← hY] at P2 HY
      rw [← hT] at P3 HT
      have HP1 : Hid (∀ w : World, _) := P1
      have HP2 : Hid (∀ w : World, _) := P2
      have HP3 : Hid (∀ w : World, _) := P3
      have HXe := Lib.hid hX
      have HYe := Lib.hid hY
      have HTe := Lib.hid hT
      clear P1 P2 P3 hX hY hT
      have C1 := fun w => rright_any a b w ha ha2 hb hb2
      have C2 := fun w => rright_any c d w hc hc2 hd hd2
      rw [hab] at C1
      rw [hcd] at C2
      have HC1 : Hid (∀ w : World, _) := C1
      have HC2 : Hid (∀ w : World, _) := C2
      clear C1 C2 hab hcd Hab
      go_upto_region 4 with (first
        | (go_at_call 34; with_reducible refine (HC1.out _).mono ?_; rintro e w' ⟨rfl, rfl⟩)
        | (go_at_call 34; with_reducible refine (HC2.out _).mono ?_; rintro e w' ⟨rfl, rfl⟩)
        | (go_at_call 25; refine (common_any b d _ hb hb2 hd hd2).mono ?_; rintro e w' ⟨rfl, rfl⟩))
      rw [← HW3.out]
      go_cut [7, 8] from 37 to 50 (fun p q wx => TwoWide (w.heap.size + 3) W3 X Y p q wx)
      case first =>
        go_region_held3 (fun w' => Below (w.heap.size + 3) W3 w' ∧ w'.cell? ⟨w.heap.size, 0, none⟩ = some (.int .u64 a) ∧ w'.cell? ⟨w.heap.size, 1, none⟩ = some (.int .u64 b) ∧ w'.cell? ⟨w.heap.size + 1, 0, none⟩ = some (.int .u64 c) ∧ w'.cell? ⟨w.heap.size + 1, 1, none⟩ = some (.int .u64 d))
          ((refine HS.out _ ?_; repeat' (first | with_reducible exact Below.refl _ _ | with_reducible refine Below.drew ?_ | with_reducible exact And.left (by assumption) | with_reducible refine below_new HB.out ?_ _ | with_reducible refine below_call HB.out ?_ (by assumption) | with_reducible refine below_put HB.out ?_ _ ?_ | with_reducible refine below_put1 HB.out ?_ _ ?_)))
          (first
            | (go_at_call 35; with_reducible refine (HP1.out _).mono ?_; rintro e w4 ⟨rfl, hb4⟩; obtain ⟨e4, f4⟩ := old_cells hb4; have y4 := below_far hb4; have x4 := below_far_le hb4; have d4 : W3.heap.size ≤ w4.heap.size := Nat.le_trans (by first | (simp; done) | (simp; omega)) hb4.size; have c4 := y4 W3.heap.size; simp [two_more] at c4; have g4 := y4 (W3.heap.size + 1); simp at g4)
            | (go_at_call 35; with_reducible refine (HP2.out _).mono ?_; rintro e w5 ⟨rfl, hb5⟩; obtain ⟨e5, f5⟩ := old_cells hb5; have y5 := below_far hb5; have x5 := below_far_le hb5; have v5 := fun k h => y5 k (Nat.lt_of_lt_of_le (y4 k h) (by first | (simp; done) | (simp; omega))); have u5 := fun k h => x5 k (Nat.lt_of_lt_of_le (y4 k h) (by first | (simp; done) | (simp; omega)))))
        all_goals (go_wp2_with fail; go_meet)
        all_goals (refine ⟨_, _, rfl, rfl, And.left (by assumption), ?_, ?_, ⟨?_, ?_, ?_, ?_⟩, ⟨?_, ?_, ?_, ?_⟩⟩ <;> simp (maxDischargeDepth := 6) [go_sem, e4, y4, e5, y5])
      case rest =>
        obtain ⟨b7, b8, rfl, rfl, hk⟩ := hcut
        have Hk := Lib.hid hk
        obtain ⟨-, l7, l8, ⟨x0, x1, x2, x3⟩, ⟨y0, y1, y2, y3⟩⟩ := hk
        go_wp2_with fail
        refine (word_any X _ HX.out.1 (by have := HX.out.2; omega)).mono ?_
        rintro e w6 ⟨rfl, hb6⟩
        have hk := Hk.out.call HB.out hb6
        have H6 := Lib.hid hk
        clear l7 l8 x0 x1 x2 x3 y0 y1 y2 y3 hb6 Hk
        obtain ⟨-, l7, l8, ⟨x0, x1, x2, x3⟩, ⟨y0, y1, y2, y3⟩⟩ := hk
        go_wp2_with fail
        refine (word_any Y _ HY.out.1 (by have := HY.out.2; omega)).mono ?_
        rintro e w7 ⟨rfl, hb7⟩
        have hk := H6.out.call HB.out hb7
        have H7 := Lib.hid hk
        clear l7 l8 x0 x1 x2 x3 y0 y1 y2 y3 hb7 H6
        obtain ⟨-, l7, l8, ⟨x0, x1, x2, x3⟩, ⟨y0, y1, y2, y3⟩⟩ := hk
        go_wp2_with fail
        refine (plus_any X Y _ HX.out.1 (by have := HX.out.2; omega) HY.out.1 (by have := HY.out.2; omega)).mono ?_
        rintro e w8 ⟨rfl, hb8⟩
        have h8 := below_call HB.out H7.out.below hb8
        clear l7 l8 x0 x1 x2 x3 y0 y1 y2 y3 hb8 H7
        obtain ⟨S, hS⟩ : ∃ S, S = (X + Y) % 340282366920938463463374607431768211456 := ⟨_, rfl⟩
        rw [← hS]
        have hS1 : 0 ≤ S := by omega
        have hS2 : S < 340282366920938463463374607431768211456 := by omega
        have HSe := Lib.hid hS
        clear hS
        go_wp2_with fail
        refine (word_any S _ hS1 hS2).mono ?_
        rintro e w9 ⟨rfl, hb9⟩
        have h9 := below_call HB.out h8 hb9
        clear hb9 h8
        have H9 := Lib.hid h9
        obtain ⟨-, ca, cb, cc, cd⟩ := HS.out _ h9
        obtain ⟨r1, r2, r3, r4, r5⟩ := HR.out _ h9
        clear h9
        have lc1 : w.heap.size < w9.heap.size := by omega
        have lc2 : w.heap.size + 1 < w9.heap.size := by omega
        have lc3 : w.heap.size + 1 + 1 < w9.heap.size := by omega
        go_wp2
        refine wp_region_later w9.heap.size w9 (by kernel_rfl) (by kernel_rfl) (Below.refl _ _) ?_
        repeat (go_big_quiet_step (first
          | ((with_reducible refine Calls.later ?_ (HP3.out _)); exact Nat.le_refl _)
          | ((with_reducible refine Calls.later ?_ (word_any T _ HT.out.1 (by have := HT.out.2; omega))); exact Nat.le_refl _)))
        refine wpQuiet_nil ?_
        rintro _ ⟨n1, rfl⟩
        have hfin : Hid (Below w.heap.size w n1.world) := (H0.out.trans ((below_call HB.out H9.out n1.below).mono (by omega)) : Below w.heap.size w n1.world)
        have HOV : Hid (Rt.over a b c d = !(decide (X < 18446744073709551616) && decide (Y < 18446744073709551616) && decide (X + Y < 18446744073709551616) && decide (T < 18446744073709551616))) := (by rw [Rt.over, ← HXe.out, ← HYe.out, ← HTe.out] : Rt.over a b c d = !(decide (X < 18446744073709551616) && decide (Y < 18446744073709551616) && decide (X + Y < 18446744073709551616) && decide (T < 18446744073709551616)))
        by_cases v1 : X < 18446744073709551616
        · by_cases v2 : Y < 18446744073709551616
          · have eS : Hid (S = X + Y) := (by have := HSe.out; have := HX.out.1; have := HY.out.1; omega : S = X + Y)
            by_cases v4 : S < 18446744073709551616
            · by_cases v3 : T < 18446744073709551616
              · have Hover : Hid (Rt.over a b c d = false) := (by rw [HOV.out, ← eS.out]; simp [v1, v2, v3, v4] : Rt.over a b c d = false)
                have tp : 0 < T := by
                  rw [HTe.out]
                  exact Int.mul_pos (Rt.by_gcd_pos b d hbp hdp).1 hdp
                rw [Int.emod_eq_of_lt hS1 v4, Int.emod_eq_of_lt (Int.le_of_lt tp) v3]
                go_wp2_with fail
                refine (make_any S T _ hS1 v4 tp v3).mono ?_
                rintro e w10 ⟨rfl, hb10⟩
                have h10 := below_call HB.out (below_call HB.out H9.out n1.below) hb10
                obtain ⟨g1, g2, g3, g4, g5⟩ := HR.out _ h10
                obtain ⟨z1, z2, z3⟩ := Rt.add_good Hbad.out Hover.out
                rw [← HXe.out, ← HYe.out, ← HTe.out, ← eS.out] at z2 z3
                have Z1 := Lib.hid z1
                have Z2 := Lib.hid z2
                have Z3 := Lib.hid z3
                clear z1 z2 z3
                go_wp2
                refine bodyPost_ret (v := .tuple #[.agg #[.int .u64 (S / Rt.gcd S T), .int .u64 (T / Rt.gcd S T)], .int .i64 0]) (by simp [results, Try.results28, go_sem, g1, g2]) rfl ⟨?_, ?_⟩
                · exact three_back Z2.out.symm Z3.out.symm Z1.out.symm
                · exact (H0.out.trans (h10.mono (by omega))).trans (by go_grown)
              · have Hover : Hid (Rt.over a b c d = true) := (by rw [HOV.out]; simp [v3] : Rt.over a b c d = true)
                go_wp2
                refine bodyPost_ret (v := .tuple #[.agg #[.int .u64 0, .int .u64 0], .int .i64 24]) (by simp [results, Try.results28, go_sem, r1, r2, lc3]) rfl ⟨?_, ?_⟩
                · obtain ⟨x1, x2, x3⟩ := Rt.add_over Hbad.out Hover.out
                  exact three_back x2.symm x3.symm x1.symm
                · exact hfin.out.trans (by go_grown)
            · have Hover : Hid (Rt.over a b c d = true) := (by rw [HOV.out, ← eS.out]; simp [v4] : Rt.over a b c d = true)
              go_wp2
              refine bodyPost_ret (v := .tuple #[.agg #[.int .u64 0, .int .u64 0], .int .i64 24]) (by simp [results, Try.results28, go_sem, r1, r2, lc3]) rfl ⟨?_, ?_⟩
              · obtain ⟨x1, x2, x3⟩ := Rt.add_over Hbad.out Hover.out
                exact three_back x2.symm x3.symm x1.symm
              · exact hfin.out.trans (by go_grown)
          · have Hover : Hid (Rt.over a b c d = true) := (by rw [HOV.out]; simp [v2] : Rt.over a b c d = true)
            go_wp2
            refine bodyPost_ret (v := .tuple #[.agg #[.int .u64 0, .int .u64 0], .int .i64 24]) (by simp [results, Try.results28, go_sem, r1, r2, lc3]) rfl ⟨?_, ?_⟩
            · obtain ⟨x1, x2, x3⟩ := Rt.add_over Hbad.out Hover.out
              exact three_back x2.symm x3.symm x1.symm
            · exact hfin.out.trans (by go_grown)
        · have Hover : Hid (Rt.over a b c d = true) := (by rw [HOV.out]; simp [v1] : Rt.over a b c d = true)
          go_wp2
          refine bodyPost_ret (v := .tuple #[.agg #[.int .u64 0, .int .u64 0], .int .i64 24]) (by simp [results, Try.results28, go_sem, r1, r2, lc3]) rfl ⟨?_, ?_⟩
          · obtain ⟨x1, x2, x3⟩ := Rt.add_over Hbad.out Hover.out
            exact three_back x2.symm x3.symm x1.symm
          · exact hfin.out.trans (by go_grown)
end Go.Proofs.Ytbeckgdocnofhaa
