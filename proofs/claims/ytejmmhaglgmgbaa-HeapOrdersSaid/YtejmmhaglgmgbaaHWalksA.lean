/-
  Contracts: which of two things is ahead; of two places; how many there are.
-/
import Derived.Test.YtejmmhaglgmgbaaRows
import Derived.Test.YtejmmhaglgmgbaaHMath
import Derived.Test.YtejmmhaglgmgbaaKit
import Derived.BigRegion
import Derived.Outline
namespace Go.Proofs.Ytejmmhaglgmgbaa
open Go.ChangeShapes Go.WideShapes Go.ChangeAt Go.RowKit

set_option maxHeartbeats 400000 in
theorem ahead_any (a b : Nat) (ka ta kb tb : Int) (r : Bool) (w : World) (ha : a < w.heap.size) (hb : b < w.heap.size) (h1 : w.cell? ⟨a, 0, none⟩ = some (.int .i64 ka)) (h2 : w.cell? ⟨a, 3, none⟩ = some (.int .i64 ta)) (h3 : w.cell? ⟨b, 0, none⟩ = some (.int .i64 kb)) (h4 : w.cell? ⟨b, 3, none⟩ = some (.int .i64 tb))
    (hr : decide (ka < kb ∨ ka = kb ∧ ta < tb) = r) :
    Calls Try.prog 39 #[.pointer (some ⟨a, 0, none⟩), .pointer (some ⟨b, 0, none⟩)] w fun e w' => e = .returned (.bool r) ∧ Below w.heap.size w w' := by
  by_cases he : ka = kb
  · subst he
    have hne : (ka != ka) = false := by simp
    have hd : Hid (decide (ta < tb) = r) := (by simpa using hr : decide (ta < tb) = r)
    clear hr
    go_enter Try.func39, Try.ntmps39
    go_wp2
    refine wp_region_later w.heap.size w (by kernel_rfl) (by kernel_rfl) (Below.refl _ _) ?_
    repeat (go_big_quiet_step (fail))
    refine wpQuiet_nil ?_
    rintro _ ⟨n1, rfl⟩
    go_wp2
    refine wp_region_later w.heap.size w (by kernel_rfl) (by kernel_rfl) n1.below ?_
    repeat (go_big_quiet_step (fail))
    refine wpQuiet_nil ?_
    rintro _ ⟨n2, rfl⟩
    go_wp2
    go_ret
    exact ⟨bool_back hd.out, n2.below⟩
  · have hne : (ka != kb) = true := by simpa using he
    have hd : Hid (decide (ka < kb) = r) := (by simpa [he] using hr : decide (ka < kb) = r)
    clear hr he
    go_enter Try.func39, Try.ntmps39
    go_wp2
    refine wp_region_later w.heap.size w (by kernel_rfl) (by kernel_rfl) (Below.refl _ _) ?_
    repeat (go_big_quiet_step (fail))
    refine wpQuiet_nil ?_
    rintro _ ⟨n1, rfl⟩
    go_wp2
    refine wp_region_later w.heap.size w (by kernel_rfl) (by kernel_rfl) n1.below ?_
    repeat (go_big_quiet_step (fail))
    refine wpQuiet_nil ?_
    rintro _ ⟨n2, rfl⟩
    go_wp2
    go_ret
    exact ⟨bool_back hd.out, n2.below⟩

/-- Less of two places, of a row whose cells are known. -/
theorem less_any (g n c i j a b : Nat) (ka ta kb tb : Int) (r : Bool) (w : World) (hi : i < n) (hj : j < n) (_hn : n ≤ 1000000) (hg : g < w.heap.size) (ha : a < w.heap.size) (hb : b < w.heap.size)
    (hgi : w.cell? ⟨g, i, none⟩ = some (.pointer (some ⟨a, 0, none⟩))) (hgj : w.cell? ⟨g, j, none⟩ = some (.pointer (some ⟨b, 0, none⟩)))
    (h1 : w.cell? ⟨a, 0, none⟩ = some (.int .i64 ka)) (h2 : w.cell? ⟨a, 3, none⟩ = some (.int .i64 ta)) (h3 : w.cell? ⟨b, 0, none⟩ = some (.int .i64 kb)) (h4 : w.cell? ⟨b, 3, none⟩ = some (.int .i64 tb))
    (hr : decide (ka < kb ∨ ka = kb ∧ ta < tb) = r) :
    Calls Try.prog 37 #[.slice (some ⟨g, 0, none⟩) n c, .int .i64 i, .int .i64 j] w fun e w' => e = .returned (.bool r) ∧ Below w.heap.size w w' := by
  have hi0 : (0 : Int) ≤ i := by omega
  have hi1 : (i : Int) < n := by omega
  have hj0 : (0 : Int) ≤ j := by omega
  have hj1 : (j : Int) < n := by omega
  have HC : Hid (∀ w' : World, Below w.heap.size w w' → Calls Try.prog 39 #[.pointer (some ⟨a, 0, none⟩), .pointer (some ⟨b, 0, none⟩)] w' fun e w'' => e = .returned (.bool r) ∧ Below w'.heap.size w' w'') := fun w' hw =>
    ahead_any a b ka ta kb tb r w' (Nat.lt_of_lt_of_le ha hw.size) (Nat.lt_of_lt_of_le hb hw.size) (((old_cells hw).1 a 0 ha).trans h1) (((old_cells hw).1 a 3 ha).trans h2) (((old_cells hw).1 b 0 hb).trans h3) (((old_cells hw).1 b 3 hb).trans h4) hr
  clear h1 h2 h3 h4 hr
  go_enter Try.func37, Try.ntmps37
  go_wp2
  refine wp_region_later w.heap.size w (by kernel_rfl) (by kernel_rfl) (Below.refl _ _) ?_
  repeat (go_big_quiet_step (first
    | (go_at_call 39; (with_reducible refine Calls.later ?_ (HC.out _ (Later.below _))); exact Nat.le_refl _)))
  refine wpQuiet_nil ?_
  rintro _ ⟨n1, rfl⟩
  go_wp2
  go_ret
  exact ⟨rfl, n1.below⟩

theorem len_any (A : Option Addr) (n c : Nat) (w : World) : Calls Try.prog 36 #[.slice A n c] w fun e w' => e = .returned (.int .i64 n) ∧ w = w' := by
  go_enter Try.func36, Try.ntmps36
  go_wp2
  go_ret
  exact ⟨rfl, rfl⟩
end Go.Proofs.Ytejmmhaglgmgbaa
