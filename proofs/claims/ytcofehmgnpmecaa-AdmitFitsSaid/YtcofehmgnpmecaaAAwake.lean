/-
  The statements' awake: the chapter's example.
-/
import Derived.Test.YtcofehmgnpmecaaAAt
namespace Go.Proofs.Ytcofehmgnpmecaa
open Go.ChangeShapes Go.WideShapes Go.ChangeAt Go.RowKit Ap

def aw1 : List En := admL [] 1 1 2
def aw2 : List En := admL aw1 2 1 2
theorem aw_e1 : admE [] 1 1 2 = 0 := by decide
theorem aw_e2 : admE aw1 2 1 2 = 0 := by decide
theorem aw_e3 : admE aw2 3 1 1000000 = 24 := by decide
theorem aw_l3 : admL aw2 3 1 1000000 = aw2 := by rw [admL, aw_e3]; rfl
theorem aw_u : used aw2 = 4294967296 := by decide
theorem in64 {q : Int} (h : -9223372036854775808 ≤ q) (h2 : q < 9223372036854775808) : In64 q := ⟨h, h2⟩

set_option maxHeartbeats 1000000 in
theorem awake_any (w : World) : Calls Try.prog 5 #[] w fun e w' => e = .returned (.bool true) ∧ Below w.heap.size w w' := by
  obtain ⟨W, hW⟩ : ∃ W, (w.alloc (bObj (.map none) (.slice none 0 0) (.int .u64 0) (.int .i64 0))).alloc (.cells #[.int .i64 1, .int .i64 2] 41 (0, 0)) = W := ⟨_, rfl⟩
  have hs : (w.alloc (bObj (.map none) (.slice none 0 0) (.int .u64 0) (.int .i64 0))).heap.size = w.heap.size + 1 := by simp
  have H0 : Bs w w.heap.size 0 (· = w.heap.size + 1) [] 0 W := by
    rw [← hW]
    refine (bs_new w).more ((Below.refl _ _).alloc (Nat.le_refl _) _) fun k hk => Or.inr ?_
    subst hk
    rw [hs]
    exact ⟨Nat.le_refl _, by simp⟩
  have hr : W.heap[w.heap.size + 1]? = some (.cells #[.int .i64 1, .int .i64 2] 41 (0, 0)) := by
    rw [← hW, ← hs]
    exact heap_alloc_new _ _
  have X1 : Hid (Calls Try.prog 14 #[.pointer (some ⟨w.heap.size, 0, none⟩), .int .i64 1, .agg #[.int .i64 1, .int .i64 2]] W fun e w' => e = .returned (.int .i64 0) ∧ Bs w w.heap.size 1 (· = w.heap.size + 1) aw1 0 w' ∧ w'.heap[w.heap.size + 1]? = some (.cells #[.int .i64 1, .int .i64 2] 41 (0, 0))) := Lib.hid ((bs_admit H0 (by omega) (in64 (q := 1) (by omega) (by omega)) 1 2).mono fun e w' ⟨h1, h2, h3, h4⟩ => ⟨by rw [h1, aw_e1], h2, (h3 _ rfl).trans hr⟩)
  have X2 : Hid (∀ w1, Bs w w.heap.size 1 (· = w.heap.size + 1) aw1 0 w1 → Calls Try.prog 14 #[.pointer (some ⟨w.heap.size, 0, none⟩), .int .i64 2, .agg #[.int .i64 1, .int .i64 2]] w1 fun e w' => e = .returned (.int .i64 0) ∧ Bs w w.heap.size 2 (· = w.heap.size + 1) aw2 0 w') := Lib.hid fun w1 H1 => (bs_admit H1 (by omega) (in64 (q := 2) (by omega) (by omega)) 1 2).mono fun e w' ⟨h1, h2, h3, h4⟩ => ⟨by rw [h1, aw_e2], h2⟩
  have X3 : Hid (∀ w1, Bs w w.heap.size 2 (· = w.heap.size + 1) aw2 0 w1 → Calls Try.prog 14 #[.pointer (some ⟨w.heap.size, 0, none⟩), .int .i64 3, .agg #[.int .i64 1, .int .i64 1000000]] w1 fun e w' => e = .returned (.int .i64 24) ∧ Bs w w.heap.size 3 (· = w.heap.size + 1) aw2 0 w') := Lib.hid fun w1 H1 => (bs_admit H1 (by omega) (in64 (q := 3) (by omega) (by omega)) 1 1000000).mono fun e w' ⟨h1, h2, h3, h4⟩ => ⟨by rw [h1, aw_e3], by rw [aw_l3] at h2; exact h2⟩
  have X4 : Hid (∀ w1, Bs w w.heap.size 3 (· = w.heap.size + 1) aw2 0 w1 → Calls Try.prog 16 #[.pointer (some ⟨w.heap.size, 0, none⟩)] w1 fun e w' => e = .returned (.int .u64 4294967296) ∧ w1 = w') := Lib.hid fun w1 H1 => by
    have := bs_used H1
    rwa [aw_u] at this
  have HW := Lib.hid hW
  unfold bObj at HW
  clear H0 hr hW hs
  go_enter Try.func5, Try.ntmps5
  go_wp2_with fail
  rw [HW.out]
  refine X1.out.mono ?_
  rintro e w1 ⟨rfl, s1, hr1⟩
  obtain ⟨c0, -⟩ := bx_cell (j := 0) hr1 rfl
  obtain ⟨c1, -⟩ := bx_cell (j := 1) hr1 rfl
  have S1 := Lib.hid s1
  clear s1 hr1 X1
  go_wp2_with fail
  refine (X2.out _ S1.out).mono ?_
  rintro e w2 ⟨rfl, s2⟩
  have S2 := Lib.hid s2
  clear s2 X2
  go_wp2_with fail
  refine (X3.out _ S2.out).mono ?_
  rintro e w3 ⟨rfl, s3⟩
  have S3 := Lib.hid s3
  clear s3 X3
  go_wp2_with fail
  refine (X4.out _ S3.out).mono ?_
  rintro e w4 ⟨rfl, rfl⟩
  go_wp2
  go_ret
  exact ⟨rfl, S3.out.below⟩
end Go.Proofs.Ytcofehmgnpmecaa
