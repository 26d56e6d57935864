/-
  The law SupplyGrows answers true: its walk out of the contracts.
-/
import Derived.Test.YtbeckgdocnofhaaSWalksB
namespace Go.Proofs.Ytbeckgdocnofhaa
open Go.ChangeShapes Go.WideShapes Go.ChangeAt Go.RowKit

set_option maxHeartbeats 2000000 in
theorem sgrows_any (b p n m : Int) (w : World) (hn : 0 ≤ n) (hn2 : n < 65536) (hm : 0 ≤ m) (hm2 : m < 65536) :
    Calls Try.prog 7 #[.agg #[.int .i64 b, .int .i64 p], .int .u16 n, .int .u16 m] w fun e w' => e = .returned (.bool true) ∧ Below w.heap.size w w' := by
  have h0 : Below w.heap.size w (w.alloc (.cells #[.int .i64 b, .int .i64 p] 23)) := by go_grown
  have CL1 : Hid (∀ w : World, _) := fun w => least_any b p n w
  have CL2 : Hid (∀ w : World, _) := fun w => least_any b p (n + m) w
  have CM1 : Hid (∀ w : World, _) := fun w => most_any b p n w
  have CM2 : Hid (∀ w : World, _) := fun w => most_any b p (n + m) w
  obtain ⟨g1, g2, g3⟩ := Sp.grows (b := b) (p := p) hn hn2 hm hm2
  generalize Sp.least b p n = L1 at *
  generalize Sp.least b p (n + m) = L2 at *
  generalize Sp.most b p n = M1 at *
  generalize Sp.most b p (n + m) = M2 at *
  have d1 : decide (L1 ≤ L2) = true := decide_eq_true g1
  have d2 : decide (M1 ≤ M2) = true := decide_eq_true g2
  have d3 : decide (L1 ≤ M1) = true := decide_eq_true g3
  go_enter Try.func7, Try.ntmps7
  go_wp2_with fail
  refine (sto_any b p _).mono ?_
  rintro e w1 ⟨rfl, hb1⟩
  replace hb1 := Below.mono hb1 (B' := w.heap.size + 1) (by simp)
  have hz : w.heap.size < w1.heap.size := by have := hb1.size; simp at this; omega
  have hW : Hid (Below w.heap.size w (w1.alloc (.cells #[.int .i64 b, .int .i64 p] 24))) := ((h0.trans (hb1.mono (by simp))).alloc (by omega) _ : Below w.heap.size w _)
  have hl : Hid (w.heap.size ≤ w1.heap.size + 1) := (by omega : w.heap.size ≤ w1.heap.size + 1)
  clear h0 hb1
  have s1 : IntKind.i64.wrap (n + m) = n + m := IntWalk.i64_in _ (by omega)
  go_wp2_with fail
  refine wp_region_later (w1.heap.size + 1) (w1.alloc (.cells #[.int .i64 b, .int .i64 p] 24)) (by kernel_rfl) (by kernel_rfl) (Below.refl _ _) ?_
  repeat (go_big_quiet_step (first
    | ((with_reducible refine Calls.later ?_ (CL1.out _)); simp)
    | ((with_reducible refine Calls.later ?_ (CL2.out _)); simp)
    | ((with_reducible refine Calls.later ?_ (CM1.out _)); simp)
    | ((with_reducible refine Calls.later ?_ (CM2.out _)); simp)
    | ((with_reducible refine Calls.later ?_ (sawake_any _)); simp)))
  refine wpQuiet_nil ?_
  rintro _ ⟨n3, rfl⟩
  clear s1
  go_wp2
  go_ret
  exact ⟨rfl, hW.out.trans (n3.below.mono hl.out)⟩
end Go.Proofs.Ytbeckgdocnofhaa
