/-
  Contracts of the queue: Len, Less, Swap, first; its methods as an interface.
-/
import Derived.Test.YtcofehmgnpmecaaRows
import Derived.Test.YtcofehmgnpmecaaAMem
import Derived.Test.YtcofehmgnpmecaaMethod
import Derived.BigRegion
import Derived.Outline
import Derived.StillTailTactics
namespace Go.Proofs.Ytcofehmgnpmecaa
open Go.ChangeShapes Go.WideShapes Go.ChangeAt Go.RowKit Ap

theorem qlen_any (A : Option Addr) (n c : Nat) (w : World) : Calls Try.prog 46 #[.slice A n c] w fun e w' => e = .returned (.int .i64 n) ∧ w = w' := by
  go_enter Try.func46, Try.ntmps46
  go_wp2
  go_ret
  exact ⟨rfl, rfl⟩

set_option maxHeartbeats 400000 in
theorem less_any {w : World} {B g n c i j : Nat} {xs : List Gv} (H : QIs w B g n c xs) (_hm : n ≤ 1000000) (hi : i < n) (hj : j < n) :
    Calls Try.prog 47 #[.slice (some ⟨g, 0, none⟩) n c, .int .i64 i, .int .i64 j] w fun e w' => e = .returned (.bool (lead (at_ xs i) (at_ xs j))) ∧ Below w.heap.size w w' := by
  have hi0 : (0 : Int) ≤ i := by omega
  have hi1 : (i : Int) < n := by omega
  have hj0 : (0 : Int) ≤ j := by omega
  have hj1 : (j : Int) < n := by omega
  have c1 := (H.cell hi).1
  have c2 := (H.cell hj).1
  have hlt := H.lt.2
  have hr : Hid (decide ((at_ xs i).till < (at_ xs j).till) = lead (at_ xs i) (at_ xs j)) := Lib.hid rfl
  generalize (at_ xs i).till = a at *
  generalize (at_ xs j).till = b at *
  generalize lead (at_ xs i) (at_ xs j) = r at *
  clear H
  go_enter Try.func47, Try.ntmps47
  go_wp2
  refine wp_region_later w.heap.size w (by kernel_rfl) (by kernel_rfl) (Below.refl _ _) ?_
  repeat (go_big_quiet_step (fail))
  refine wpQuiet_nil ?_
  rintro _ ⟨n1, rfl⟩
  go_wp2
  go_ret
  exact ⟨bool_back hr.out, n1.below⟩

theorem size_given : (Try.prog.info? 65).map (·.size) = some 2 := by kernel_rfl
/-- An exchange of two places. -/
def Exchanged (B g n c : Nat) (xs : List Gv) (i j : Nat) (w : World) (e : Ending) (w' : World) : Prop := e = .returned (.tuple #[]) ∧ QIs w' B g n c (swp xs i j) ∧ Only (· = g) w w'
set_option maxHeartbeats 400000 in
theorem swap_any {w : World} {B g n c i j : Nat} {xs : List Gv} (H : QIs w B g n c xs) (_hm : n ≤ 1000000) (hi : i < n) (hj : j < n) :
    Calls Try.prog 48 #[.slice (some ⟨g, 0, none⟩) n c, .int .i64 i, .int .i64 j] w (Exchanged B g n c xs i j w) := by
  have hi0 : (0 : Int) ≤ i := by omega
  have hi1 : (i : Int) < n := by omega
  have hj0 : (0 : Int) ≤ j := by omega
  have hj1 : (j : Int) < n := by omega
  have c1 := H.cell hi
  have c2 := H.cell hj
  have HE : Hid (Exchanged B g n c xs i j w (.returned (.tuple #[])) (swapped w.drew g i j (at_ xs i) (at_ xs j))) := Lib.hid ⟨rfl, H.drew.swap, (Only.of_below (S := (· = g)) (Below.refl _ _).drew).trans (only_swapped _ _ _ _ _ _) (fun _ h => Or.inl h)⟩
  have f1 := H.free (i * 2)
  have f2 := H.free (i * 2 + 1)
  have f3 := H.free (j * 2)
  have f4 := H.free (j * 2 + 1)
  unfold swapped at HE
  simp only [gone, World.setCells] at HE
  generalize at_ xs i = x at *
  generalize at_ xs j = y at *
  obtain ⟨xt, xv⟩ := x
  obtain ⟨yt, yv⟩ := y
  obtain ⟨c11, c12⟩ := c1
  obtain ⟨c21, c22⟩ := c2
  clear H
  by_cases hij : i = j
  · subst hij
    go_enter Try.func48, Try.ntmps48
    go_wp2
    go_region
    go_end0
    rw [c11] at c21
    rw [c12] at c22
    simp only [Option.some.injEq, Value.int.injEq, true_and] at c21 c22
    subst c21 c22
    exact HE.out
  · have e1 : i * 2 ≠ j * 2 + 1 := by omega
    have e2 : j * 2 ≠ i * 2 + 1 := by omega
    have e3 : i * 2 ≠ j * 2 := by omega
    go_enter Try.func48, Try.ntmps48
    go_wp2
    go_region
    go_end0
    exact HE.out

theorem first_any {w : World} {B g n c : Nat} {xs : List Gv} (H : QIs w B g n c xs) (hn : 0 < n) (hm : n ≤ 1000000) :
    Calls Try.prog 26 #[.slice (some ⟨g, 0, none⟩) n c] w fun e w' => e = .returned (.agg #[.int .i64 (at_ xs 0).till, .int .u64 (at_ xs 0).sh]) ∧ Below w.heap.size w w' := by
  have hi1 : (0 : Int) < n := by omega
  obtain ⟨c1, c2⟩ := H.cell hn
  have hlt := H.lt.2
  generalize at_ xs 0 = x at *
  obtain ⟨xt, xv⟩ := x
  clear H
  go_enter Try.func26, Try.ntmps26
  go_wp2
  refine bodyPost_ret (v := .agg #[.int .i64 xt, .int .u64 xv]) (by simp [results, Try.results26, go_sem]) rfl ⟨rfl, ?_⟩
  exact (Below.refl _ _).alloc (Nat.le_refl _) _

/-- The methods that a queue's address has as an interface. -/
theorem flat_queue (w : World) : (isAgg 27).run Try.prog w = .ok false w := by kernel_rfl
theorem method_less (b : Nat) (v : Value) (w : World) (h : w.cell? ⟨b, 1, none⟩ = some v) : (method 195 63 (.pointer (some ⟨b, 1, none⟩)) "Less").run Try.prog w = .ok (47, v) w :=
  method_by_value (E := 27) (by kernel_rfl) (by kernel_rfl) 194 _ w v (flat_queue w) h
theorem method_swap (b : Nat) (v : Value) (w : World) (h : w.cell? ⟨b, 1, none⟩ = some v) : (method 195 63 (.pointer (some ⟨b, 1, none⟩)) "Swap").run Try.prog w = .ok (48, v) w :=
  method_by_value (E := 27) (by kernel_rfl) (by kernel_rfl) 194 _ w v (flat_queue w) h
theorem method_len (b : Nat) (v : Value) (w : World) (h : w.cell? ⟨b, 1, none⟩ = some v) : (method 195 63 (.pointer (some ⟨b, 1, none⟩)) "Len").run Try.prog w = .ok (46, v) w :=
  method_by_value (E := 27) (by kernel_rfl) (by kernel_rfl) 194 _ w v (flat_queue w) h
theorem method_push (v : Value) (w : World) : (method 195 63 v "Push").run Try.prog w = .ok (50, v) w :=
  method_by_pointer (E := 27) (by kernel_rfl) (by kernel_rfl) 194 v w
theorem method_pop (v : Value) (w : World) : (method 195 63 v "Pop").run Try.prog w = .ok (49, v) w :=
  method_by_pointer (E := 27) (by kernel_rfl) (by kernel_rfl) 194 v w
theorem nil_less (b : Nat) (w : World) : (nilAhead 195 63 (.pointer (some ⟨b, 1, none⟩)) "Less").run Try.prog w = .ok (some false) w := by kernel_rfl
theorem nil_swap (b : Nat) (w : World) : (nilAhead 195 63 (.pointer (some ⟨b, 1, none⟩)) "Swap").run Try.prog w = .ok (some false) w := by kernel_rfl
theorem nil_len (b : Nat) (w : World) : (nilAhead 195 63 (.pointer (some ⟨b, 1, none⟩)) "Len").run Try.prog w = .ok (some false) w := by kernel_rfl
theorem nil_push (b : Nat) (w : World) : (nilAhead 195 63 (.pointer (some ⟨b, 1, none⟩)) "Push").run Try.prog w = .ok (some false) w := by kernel_rfl
theorem nil_pop (b : Nat) (w : World) : (nilAhead 195 63 (.pointer (some ⟨b, 1, none⟩)) "Pop").run Try.prog w = .ok (some false) w := by kernel_rfl
end Go.Proofs.Ytcofehmgnpmecaa
