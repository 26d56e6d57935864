/-
  The contract of Add of package ratio.
-/
import Derived.Test.YtbeckgdocnofhaaWalksD
import Derived.Test.YtbeckgdocnofhaaMathB
namespace Go.Proofs.Ytbeckgdocnofhaa
open Go.ChangeShapes Go.WideShapes Go.ChangeAt Go.RowKit

theorem three_back {k : IntKind} {a b c d x y : Int} (h1 : a = b) (h2 : c = d) (h3 : x = y) : Ending.returned (.tuple #[.agg #[.int .u64 a, .int .u64 c], .int k x]) = .returned (.tuple #[.agg #[.int .u64 b, .int .u64 d], .int k y]) := by rw [h1, h2, h3]

set_option maxHeartbeats 1000000 in
theorem add_any (a b c d : Int) (w : World) (ha : 0 ≤ a) (ha2 : a < 18446744073709551616) (hb : 0 ≤ b) (hb2 : b < 18446744073709551616) (hc : 0 ≤ c) (hc2 : c < 18446744073709551616) (hd : 0 ≤ d) (hd2 : d < 18446744073709551616) :
    Calls Try.prog 30 #[.agg #[.int .u64 a, .int .u64 b], .agg #[.int .u64 c, .int .u64 d]] w fun e w' => e = .returned (.tuple #[.agg #[.int .u64 (Rt.addN a b c d), .int .u64 (Rt.addD a b c d)], .int .i64 (Rt.addE a b c d)]) ∧ Below w.heap.size w w' := by
  have h0 : Below w.heap.size w (((w.alloc (.cells #[.int .u64 a, .int .u64 b] 30)).alloc (.cells #[.int .u64 c, .int .u64 d] 30)).alloc (.cells #[.int .u64 0, .int .u64 0] 30)) := by go_grown
  go_enter Try.func30, Try.ntmps30
  go_wp2_with fail
  refine (right_any a b _ ha ha2 hb hb2).mono ?_
  rintro e w1 ⟨rfl, hb1⟩
  replace hb1 := Below.mono hb1 (B' := w.heap.size + 3) (by simp)
  have h1 := h0.trans (hb1.mono (by simp))
  have hz1 := hb1.size
  simp at hz1
  obtain ⟨e1, f1⟩ := old_cells hb1
  cases hab : Rt.ok a b with
  | false =>
    have Hbad : Hid (Rt.bad a b c d = true) := (by simp [Rt.bad, hab] : Rt.bad a b c d = true)
    clear hab
    go_wp2
    refine bodyPost_ret (v := .tuple #[.agg #[.int .u64 0, .int .u64 0], .int .i64 1]) (by simp [results, Try.results30, go_sem, e1]) rfl ⟨?_, ?_⟩
    · obtain ⟨x1, x2, x3⟩ := Rt.add_bad Hbad.out
      exact three_back x2.symm x3.symm x1.symm
    · exact h1.trans (by go_grown)
  | true =>
    have Hab := Lib.hid hab
    clear hab
    go_wp2_with fail
    refine (right_any c d _ hc hc2 hd hd2).mono ?_
    rintro e w2 ⟨rfl, hb2'⟩
    have hb3 := hb1.trans (hb2'.mono (B' := w.heap.size + 3) hz1)
    have h2 := h0.trans (hb3.mono (by simp))
    have hz3 := hb3.size
    simp at hz3
    clear e1 f1 hb1 h1 hb2' hz1
    obtain ⟨e1, f1⟩ := old_cells hb3
    cases hcd : Rt.ok c d with
    | false =>
      have Hbad : Hid (Rt.bad a b c d = true) := (by simp [Rt.bad, hcd] : Rt.bad a b c d = true)
      clear hcd
      go_wp2
      refine bodyPost_ret (v := .tuple #[.agg #[.int .u64 0, .int .u64 0], .int .i64 1]) (by simp [results, Try.results30, go_sem, e1]) rfl ⟨?_, ?_⟩
      · obtain ⟨x1, x2, x3⟩ := Rt.add_bad Hbad.out
        exact three_back x2.symm x3.symm x1.symm
      · exact h2.trans (by go_grown)
    | true =>
      have Hbad : Hid (Rt.bad a b c d = false) := (by simp [Rt.bad, hcd, Hab.out] : Rt.bad a b c d = false)
      have hbp := Rt.ok_pos Hab.out
      have hdp := Rt.ok_pos hcd
      clear hcd Hab
      go_wp2_with fail
      refine (divisor_any b d _ hb hb2 hd hd2).mono ?_
      rintro e w3 ⟨rfl, hb4⟩
      have hb5 := hb3.trans (hb4.mono (B' := w.heap.size + 3) hz3)
      have h3 := h0.trans (hb5.mono (by simp))
      have hz5 := hb5.size
      simp at hz5
      clear e1 f1 hb3 h2 hb4 hz3
      obtain ⟨e1, f1⟩ := old_cells hb5
      have hg := Rt.gcd_pos b d hdp
      have hg0 : Rt.gcd b d ≠ 0 := by omega
      obtain ⟨p1, p2⟩ := Rt.part_bd d _ hd hd2 hg
      obtain ⟨q1, q2⟩ := Rt.part_bd b _ hb hb2 hg
      have HX := Lib.hid (Rt.mul_bd a _ ha ha2 p1 p2)
      have HY := Lib.hid (Rt.mul_bd c _ hc hc2 q1 q2)
      have HT := Lib.hid (Rt.mul_bd _ d q1 q2 hd hd2)
      have hz6 : w.heap.size < w3.heap.size := by omega
      have hz7 : w.heap.size + 1 < w3.heap.size := by omega
      have hz8 : w.heap.size + 1 + 1 < w3.heap.size := by omega
      have P1 := fun w => product_any a (d / Rt.gcd b d) w ha ha2 p1 p2
      have P2 := fun w => product_any c (b / Rt.gcd b d) w hc hc2 q1 q2
      have P3 := fun w => product_any (b / Rt.gcd b d) d w q1 q2 hd hd2
      obtain ⟨X, hX⟩ : ∃ X, X = a * (d / Rt.gcd b d) := ⟨_, rfl⟩
      obtain ⟨Y, hY⟩ : ∃ Y, Y = c * (b / Rt.gcd b d) := ⟨_, rfl⟩
      obtain ⟨T, hT⟩ : ∃ T, T = b / Rt.gcd b d * d := ⟨_, rfl⟩
      rw [← hX] at P1 HX
      rw [← hY] at P2 HY
      rw [← hT] at P3 HT
      have HP1 : Hid (∀ w : World, _) := P1
      have HP2 : Hid (∀ w : World, _) := P2
      have HP3 : Hid (∀ w : World, _) := P3
      have HXe := Lib.hid hX
      have HYe := Lib.hid hY
      have HTe := Lib.hid hT
      clear P1 P2 P3 hX hY hT
      go_wp2
      refine wp_region_later w3.heap.size w3 (by kernel_rfl) (by kernel_rfl) (Below.refl _ _) ?_
      repeat (go_big_quiet_step ((with_reducible exact Calls.later_same (HP1.out _))))
      refine wpQuiet_nil ?_
      rintro _ ⟨n1, rfl⟩
      go_wp2
      refine wp_region_later w3.heap.size w3 (by kernel_rfl) (by kernel_rfl) n1.below ?_
      repeat (go_big_quiet_step ((with_reducible exact Calls.later_same (HP2.out _))))
      refine wpQuiet_nil ?_
      rintro _ ⟨n2, rfl⟩
      go_wp2
      refine wp_region_later w3.heap.size w3 (by kernel_rfl) (by kernel_rfl) n2.below ?_
      repeat (go_big_quiet_step ((with_reducible exact Calls.later_same (HP3.out _))))
      refine wpQuiet_nil ?_
      rintro _ ⟨n3, rfl⟩
      have h6 := h3.trans (n3.below.mono (by omega))
      have am1 : 0 ≤ X % 18446744073709551616 := Int.emod_nonneg _ (by decide)
      have am2 : 0 ≤ Y % 18446744073709551616 := Int.emod_nonneg _ (by decide)
      obtain ⟨gx1, gx2⟩ := HX.out
      obtain ⟨gy1, gy2⟩ := HY.out
      obtain ⟨gt1, gt2⟩ := HT.out
      have HOV : Hid (Rt.over a b c d = !(decide (X < 18446744073709551616) && decide (Y < 18446744073709551616) && decide (X + Y < 18446744073709551616) && decide (T < 18446744073709551616))) := (by rw [Rt.over, ← HXe.out, ← HYe.out, ← HTe.out] : Rt.over a b c d = !(decide (X < 18446744073709551616) && decide (Y < 18446744073709551616) && decide (X + Y < 18446744073709551616) && decide (T < 18446744073709551616)))
      by_cases x1 : X < 18446744073709551616
      · by_cases x2 : Y < 18446744073709551616
        · rw [Int.emod_eq_of_lt gx1 x1, Int.emod_eq_of_lt gy1 x2]
          by_cases x3 : T < 18446744073709551616
          · rw [Int.emod_eq_of_lt gt1 x3]
            by_cases x4 : X + Y < 18446744073709551616
            · have Hover : Hid (Rt.over a b c d = false) := (by rw [HOV.out]; simp [x1, x2, x3, x4] : Rt.over a b c d = false)
              have s1 : (X + Y) / 18446744073709551616 = 0 := by omega
              have s2 : (X + Y) % 18446744073709551616 = X + Y := by omega
              have tp : 0 < T := by
                rw [HTe.out]
                exact Int.mul_pos (Rt.by_gcd_pos b d hbp hdp).1 hdp
              have sp : 0 ≤ X + Y := by omega
              go_wp2_with (simp only [add64_now _ _ gx1 gy1])
              refine (of_some (X + Y) T _ sp x4 tp x3).mono ?_
              rintro e w4 ⟨rfl, hb7⟩
              have h7 := h6.trans (hb7.mono (by have := n3.below.size; omega))
              have hz9 : w3.heap.size ≤ n3.world.heap.size := n3.below.size
              have hz10 : w.heap.size + 1 + 1 < n3.world.heap.size := by omega
              obtain ⟨e2, f2⟩ := old_cells hb7
              obtain ⟨y1, y2, y3⟩ := Rt.add_good Hbad.out Hover.out
              rw [← HXe.out, ← HYe.out, ← HTe.out] at y2 y3
              have Y1 := Lib.hid y1
              have Y2 := Lib.hid y2
              have Y3 := Lib.hid y3
              clear y1 y2 y3
              go_wp2
              refine bodyPost_ret (v := .tuple #[.agg #[.int .u64 ((X + Y) / Rt.gcd (X + Y) T), .int .u64 (T / Rt.gcd (X + Y) T)], .int .i64 0]) (by simp [results, Try.results30, go_sem, e2, e1, hz8, hz10]) rfl ⟨?_, ?_⟩
              · exact three_back Y2.out.symm Y3.out.symm Y1.out.symm
              · exact h7.trans (by go_grown)
            · have Hover : Hid (Rt.over a b c d = true) := (by rw [HOV.out]; simp [x4] : Rt.over a b c d = true)
              have s1 : (X + Y) / 18446744073709551616 = 1 := by omega
              go_wp2_with (simp only [add64_now _ _ gx1 gy1])
              refine bodyPost_ret (v := .tuple #[.agg #[.int .u64 0, .int .u64 0], .int .i64 24]) (by simp [results, Try.results30, go_sem, e1, hz8]) rfl ⟨?_, ?_⟩
              · obtain ⟨x1, x2, x3⟩ := Rt.add_over Hbad.out Hover.out
                exact three_back x2.symm x3.symm x1.symm
              · exact h6.trans (by go_grown)
          · have Hover : Hid (Rt.over a b c d = true) := (by rw [HOV.out]; simp [x3] : Rt.over a b c d = true)
            go_wp2_with (simp only [add64_now _ _ gx1 gy1])
            refine bodyPost_ret (v := .tuple #[.agg #[.int .u64 0, .int .u64 0], .int .i64 24]) (by simp [results, Try.results30, go_sem, e1, hz8]) rfl ⟨?_, ?_⟩
            · obtain ⟨x1, x2, x3⟩ := Rt.add_over Hbad.out Hover.out
              exact three_back x2.symm x3.symm x1.symm
            · exact h6.trans (by go_grown)
        · have Hover : Hid (Rt.over a b c d = true) := (by rw [HOV.out]; simp [x2] : Rt.over a b c d = true)
          go_wp2_with (simp only [add64_now _ _ am1 am2])
          refine bodyPost_ret (v := .tuple #[.agg #[.int .u64 0, .int .u64 0], .int .i64 24]) (by simp [results, Try.results30, go_sem, e1, hz8]) rfl ⟨?_, ?_⟩
          · obtain ⟨x1, x2, x3⟩ := Rt.add_over Hbad.out Hover.out
            exact three_back x2.symm x3.symm x1.symm
          · exact h6.trans (by go_grown)
      · have Hover : Hid (Rt.over a b c d = true) := (by rw [HOV.out]; simp [x1] : Rt.over a b c d = true)
        go_wp2_with (simp only [add64_now _ _ am1 am2])
        refine bodyPost_ret (v := .tuple #[.agg #[.int .u64 0, .int .u64 0], .int .i64 24]) (by simp [results, Try.results30, go_sem, e1, hz8]) rfl ⟨?_, ?_⟩
        · obtain ⟨x1, x2, x3⟩ := Rt.add_over Hbad.out Hover.out
          exact three_back x2.symm x3.symm x1.symm
        · exact h6.trans (by go_grown)
end Go.Proofs.Ytbeckgdocnofhaa
