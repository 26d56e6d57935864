/-
  Contracts: which reservations may be, of both; their shares, of both; the statements' to.
-/
import Derived.Test.YtcofehmgnpmecaaABook
import Derived.IntWalk
namespace Go.Proofs.Ytcofehmgnpmecaa
open Go.ChangeShapes Go.WideShapes Go.ChangeAt Go.RowKit Ap

set_option maxHeartbeats 400000 in
theorem aright_any (b p : Int) (w : World) :
    Calls Try.prog 23 #[.agg #[.int .i64 b, .int .i64 p]] w fun e w' => e = .returned (.bool (rightB b p)) ∧ Below w.heap.size w w' := by
  have hb : Below w.heap.size w (w.alloc (.cells #[.int .i64 b, .int .i64 p] 41 (0, 0))) := (Below.refl _ _).alloc (Nat.le_refl _) _
  by_cases h1 : 1 ≤ b
  · by_cases h2 : b ≤ p
    · by_cases h3 : p ≤ 1048576
      all_goals
        go_enter Try.func23, Try.ntmps23
        go_wp2
        go_ret
        exact ⟨bool_back (by simp [rightB, *]), hb⟩
    · go_enter Try.func23, Try.ntmps23
      go_wp2
      go_ret
      exact ⟨bool_back (by simp [rightB]; omega), hb⟩
  · go_enter Try.func23, Try.ntmps23
    go_wp2
    go_ret
    exact ⟨bool_back (by simp [rightB]; omega), hb⟩

set_option maxHeartbeats 400000 in
theorem arright_any (b p : Int) (w : World) :
    Calls Try.prog 6 #[.agg #[.int .i64 b, .int .i64 p]] w fun e w' => e = .returned (.bool (rightB b p)) ∧ Below w.heap.size w w' := by
  have hb : Below w.heap.size w (w.alloc (.cells #[.int .i64 b, .int .i64 p] 35 (0, 0))) := (Below.refl _ _).alloc (Nat.le_refl _) _
  by_cases h1 : 1 ≤ b
  · by_cases h2 : b ≤ p
    · by_cases h3 : p ≤ 1048576
      all_goals
        go_enter Try.func6, Try.ntmps6
        go_wp2
        go_ret
        exact ⟨bool_back (by simp [rightB, *]), hb⟩
    · go_enter Try.func6, Try.ntmps6
      go_wp2
      go_ret
      exact ⟨bool_back (by simp [rightB]; omega), hb⟩
  · go_enter Try.func6, Try.ntmps6
    go_wp2
    go_ret
    exact ⟨bool_back (by simp [rightB]; omega), hb⟩

set_option maxHeartbeats 400000 in
theorem ato_any (a b : Int) (w : World) :
    Calls Try.prog 9 #[.agg #[.int .i64 a, .int .i64 b]] w fun e w' => e = .returned (.agg #[.int .i64 a, .int .i64 b]) ∧ Below w.heap.size w w' := by
  have hb : ∀ o o' : Obj, Below w.heap.size w ((w.alloc o).alloc o') := fun o o' => ((Below.refl _ _).alloc (Nat.le_refl _) o).alloc (by simp) o'
  go_enter Try.func9, Try.ntmps9
  go_wp2
  exact bodyPost_ret (v := .agg #[.int .i64 a, .int .i64 b]) (by simp [results, Try.results9, go_sem]) rfl ⟨rfl, hb _ _⟩

/-- A share, as the document reckons it. -/
theorem shr_ref {b p : Int} (h : rightB b p = true) : (if b * 4294967296 / p * p < b * 4294967296 then b * 4294967296 / p + 1 else b * 4294967296 / p) = shr b p := by
  obtain ⟨h1, h2, h3⟩ := rightB_iff.1 h
  have hp : 0 < p := by omega
  unfold shr
  rw [Int.mul_comm b]
  generalize 4294967296 * b = n at *
  have e1 : n / p * p ≤ n := (Int.le_ediv_iff_mul_le hp).1 (Int.le_refl _)
  have e2 : n < (n / p + 1) * p := (Int.ediv_lt_iff_lt_mul hp).1 (by omega)
  rw [Int.add_mul, Int.one_mul] at e2
  have key : ∀ k : Int, k * p ≤ n + p - 1 → n + p - 1 < (k + 1) * p → k = (n + p - 1) / p := fun k h5 h6 => by
    have h7 := (Int.le_ediv_iff_mul_le hp).2 h5
    have h8 := (Int.ediv_lt_iff_lt_mul hp).2 h6
    omega
  generalize n / p = q at *
  split
  · refine key _ ?_ ?_
    · rw [Int.add_mul, Int.one_mul]
      omega
    · rw [Int.add_mul, Int.add_mul, Int.one_mul]
      omega
  · refine key _ ?_ ?_
    · omega
    · rw [Int.add_mul, Int.one_mul]
      omega

set_option maxHeartbeats 400000 in
theorem ashare_any (b p : Int) (w : World) :
    Calls Try.prog 8 #[.agg #[.int .i64 b, .int .i64 p]] w fun e w' => e = .returned (.int .u64 (shr0 b p)) ∧ Below w.heap.size w w' := by
  have HC : Hid (∀ w : World, _) := Lib.hid (aright_any b p)
  have hbx : Hid (Below w.heap.size w (w.alloc (.cells #[.int .i64 b, .int .i64 p] 41 (0, 0)))) := Lib.hid ((Below.refl _ _).alloc (Nat.le_refl _) _)
  have HX : Hid (∀ w' : World, Below (w.alloc (.cells #[.int .i64 b, .int .i64 p] 41 (0, 0))).heap.size (w.alloc (.cells #[.int .i64 b, .int .i64 p] 41 (0, 0))) w' → Hid (Below w.heap.size w w') ∧ w'.cell? ⟨w.heap.size, 0, none⟩ = some (.int .i64 b) ∧ w'.cell? ⟨w.heap.size, 1, none⟩ = some (.int .i64 p)) := Lib.hid fun w' hb => by
    have hc := (old_cells hb).1
    refine ⟨Lib.hid (hbx.out.trans (hb.mono (by simp))), ?_, ?_⟩
    · rw [hc _ _ (by simp)]; simp [go_sem]
    · rw [hc _ _ (by simp)]; simp [go_sem]
  cases hr : rightB b p with
  | false =>
    have hs : Hid (0 = shr0 b p) := Lib.hid (by rw [shr0, hr]; rfl)
    rw [hr] at HC
    clear hr
    go_enter Try.func8, Try.ntmps8
    go_wp2_with (go_at_call 23; refine (HC.out _).mono ?_; rintro e w1 ⟨rfl, hb1⟩; obtain ⟨HB, -, -⟩ := HX.out w1 hb1; clear hb1)
    go_ret
    exact ⟨int_back hs.out, HB.out⟩
  | true =>
    obtain ⟨r1, r2, r3⟩ := rightB_iff.1 hr
    have hs : Hid ((4294967296 * b + p - 1) / p = shr0 b p) := Lib.hid (by rw [shr0, hr]; rfl)
    have w1 : IntKind.u64.wrap b = b := IntWalk.u64_in _ (by omega)
    have w2 : IntKind.u64.wrap p = p := IntWalk.u64_in _ (by omega)
    have w3 : IntKind.u64.wrap (4294967296 * b) = 4294967296 * b := IntWalk.u64_in _ (by omega)
    have w4 : IntKind.u64.wrap (4294967296 * b + p) = 4294967296 * b + p := IntWalk.u64_in _ (by omega)
    have w5 : IntKind.u64.wrap (4294967296 * b + p - 1) = 4294967296 * b + p - 1 := IntWalk.u64_in _ (by omega)
    have hp0 : p ≠ 0 := by omega
    rw [hr] at HC
    clear hr
    go_enter Try.func8, Try.ntmps8
    go_wp2_with (go_at_call 23; refine (HC.out _).mono ?_; rintro e w1 ⟨rfl, hb1⟩; obtain ⟨HB, x0, x1⟩ := HX.out w1 hb1; clear hb1)
    go_ret
    exact ⟨int_back hs.out, HB.out⟩

set_option maxHeartbeats 400000 in
theorem rshare_any (b p : Int) (w : World) (hr : rightB b p = true) :
    Calls Try.prog 7 #[.agg #[.int .i64 b, .int .i64 p]] w fun e w' => e = .returned (.int .u64 (shr b p)) ∧ Below w.heap.size w w' := by
  have hbx : Hid (Below w.heap.size w (w.alloc (.cells #[.int .i64 b, .int .i64 p] 35 (0, 0)))) := Lib.hid ((Below.refl _ _).alloc (Nat.le_refl _) _)
  have hs := Lib.hid (shr_ref hr)
  obtain ⟨r1, r2, r3⟩ := rightB_iff.1 hr
  have hbd := Lib.hid (shr_bd hr)
  have hp : 0 < p := by omega
  have hp0 : p ≠ 0 := by omega
  have q1 : b * 4294967296 / p * p ≤ b * 4294967296 := (Int.le_ediv_iff_mul_le hp).1 (Int.le_refl _)
  have q2 : 0 ≤ b * 4294967296 / p := Int.ediv_nonneg (by omega) (by omega)
  have q3 : b * 4294967296 / p < 4294967297 := by
    rw [Int.ediv_lt_iff_lt_mul hp]
    omega
  have q4 : 0 ≤ b * 4294967296 / p * p := Int.mul_nonneg q2 (by omega)
  have w1 : IntKind.u64.wrap b = b := IntWalk.u64_in _ (by omega)
  have w2 : IntKind.u64.wrap p = p := IntWalk.u64_in _ (by omega)
  have w3 : IntKind.u64.wrap (b * 4294967296) = b * 4294967296 := IntWalk.u64_in _ (by omega)
  have w4 : IntKind.u64.wrap (b * 4294967296 / p * p) = b * 4294967296 / p * p := IntWalk.u64_in _ (by omega)
  have w5 : IntKind.u64.wrap (b * 4294967296 / p + 1) = b * 4294967296 / p + 1 := IntWalk.u64_in _ (by omega)
  by_cases hlt : b * 4294967296 / p * p < b * 4294967296
  · rw [if_pos hlt] at hs
    clear hr q1 q4
    go_enter Try.func7, Try.ntmps7
    go_wp2
    go_ret
    exact ⟨int_back hs.out, hbx.out⟩
  · rw [if_neg hlt] at hs
    clear hr q1 q4
    go_enter Try.func7, Try.ntmps7
    go_wp2
    go_ret
    exact ⟨int_back hs.out, hbx.out⟩
end Go.Proofs.Ytcofehmgnpmecaa
