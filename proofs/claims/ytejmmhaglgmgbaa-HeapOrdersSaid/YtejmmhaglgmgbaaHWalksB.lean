/-
  Contracts: two places exchanged; Less and Swap of a pile.
-/
import Derived.Test.YtejmmhaglgmgbaaHWalksA
import Derived.Test.YtejmmhaglgmgbaaHPile
import Derived.Test.YtejmmhaglgmgbaaMethod
namespace Go.Proofs.Ytejmmhaglgmgbaa
open Go.ChangeShapes Go.WideShapes Go.ChangeAt Go.RowKit Hp

set_option maxHeartbeats 400000 in
theorem swap_any (g n c i j a b : Nat) (u v : Value) (w : World) (hi : i < n) (hj : j < n) (hij : i ≠ j) (_hn : n ≤ 1000000) (_hga : g ≠ a) (_hgb : g ≠ b) (_hab : a ≠ b)
    (hgi : w.cell? ⟨g, i, none⟩ = some (.pointer (some ⟨a, 0, none⟩))) (hgj : w.cell? ⟨g, j, none⟩ = some (.pointer (some ⟨b, 0, none⟩)))
    (hfi : w.frozen? ⟨g, i, none⟩ = false) (hfj : w.frozen? ⟨g, j, none⟩ = false)
    (h1 : w.cell? ⟨a, 4, none⟩ = some u) (h2 : w.cell? ⟨b, 4, none⟩ = some v) (h3 : w.frozen? ⟨a, 4, none⟩ = false) (h4 : w.frozen? ⟨b, 4, none⟩ = false) :
    Calls Try.prog 38 #[.slice (some ⟨g, 0, none⟩) n c, .int .i64 i, .int .i64 j] w fun e w' => e = .returned (.tuple #[]) ∧ w' = (swapped w g i j a b).drew.drew := by
  have hi0 : (0 : Int) ≤ i := by omega
  have hi1 : (i : Int) < n := by omega
  have hj0 : (0 : Int) ≤ j := by omega
  have hj1 : (j : Int) < n := by omega
  go_enter Try.func38, Try.ntmps38
  go_wp2
  go_region
  go_wp2
  go_region
  go_end0
  exact ⟨rfl, rfl⟩

/-- An exchange of two places of a pile. -/
def Exchanged (B : Nat) (v : Value) (xs : List Th) (i j : Nat) (w : World) (e : Ending) (w' : World) : Prop := e = .returned (.tuple #[]) ∧ PileIs w' B v (swp xs i j) ∧ Only (Own v xs) w w'

theorem swap_pile {w : World} {B g n c : Nat} {xs : List Th} (h : PileIs w B (.slice (some ⟨g, 0, none⟩) n c) xs) (hn : xs.length = n) (hm : n ≤ 1000000) {i j : Nat} (hi : i < n) (hj : j < n) (hij : i ≠ j) :
    Calls Try.prog 38 #[.slice (some ⟨g, 0, none⟩) n c, .int .i64 i, .int .i64 j] w (Exchanged B (.slice (some ⟨g, 0, none⟩) n c) xs i j w) := by
  subst hn
  have bi := h.thingAt hi
  have bj := h.thingAt hj
  refine (swap_any g _ c i j (at_ xs i).b (at_ xs j).b (.int .i64 (i : Nat)) (.int .i64 (j : Nat)) w hi hj hij hm (h.off_at rfl hi) (h.off_at rfl hj) (h.apart_b hi hj hij) (h.rowCell rfl hi) (h.rowCell rfl hj) (h.rowFree rfl i) (h.rowFree rfl j)
    (th_cell bi rfl) (th_cell bj rfl) (th_free bi) (th_free bj)).mono ?_
  rintro e w' ⟨rfl, rfl⟩
  obtain ⟨h1, h2⟩ := h.swap hi hj hij
  exact ⟨rfl, h1.drew.drew, h2.drew.drew⟩

theorem less_pile {w : World} {B g n c : Nat} {xs : List Th} (h : PileIs w B (.slice (some ⟨g, 0, none⟩) n c) xs) (hn : xs.length = n) (hm : n ≤ 1000000) {i j : Nat} (hi : i < n) (hj : j < n) :
    Calls Try.prog 37 #[.slice (some ⟨g, 0, none⟩) n c, .int .i64 i, .int .i64 j] w fun e w' => e = .returned (.bool (lead (at_ xs i) (at_ xs j))) ∧ Below w.heap.size w w' := by
  subst hn
  have bi := h.thingAt hi
  have bj := h.thingAt hj
  exact less_any g _ c i j (at_ xs i).b (at_ xs j).b _ _ _ _ _ w hi hj hm (h.own_lt (Or.inl rfl)).2 (lt_of_block bi) (lt_of_block bj) (h.rowCell rfl hi) (h.rowCell rfl hj) (th_cell bi rfl) (th_cell bi rfl) (th_cell bj rfl) (th_cell bj rfl) rfl

/-- The methods that a pile's address has as an interface. -/
theorem load_pile (b : Nat) (v : Value) (w : World) (h : w.cell? ⟨b, 0, none⟩ = some v) : (loadVar 34 ⟨b, 0, none⟩).run Try.prog w = .ok v w := by
  have hu := Try.underlying34
  go_simp
theorem flat_pile (w : World) : (isAgg 34).run Try.prog w = .ok false w := by kernel_rfl
theorem method_less (b : Nat) (v : Value) (w : World) (h : w.cell? ⟨b, 0, none⟩ = some v) : (method 174 47 (.pointer (some ⟨b, 0, none⟩)) "Less").run Try.prog w = .ok (37, v) w :=
  method_by_value (E := 34) (by kernel_rfl) (by kernel_rfl) 173 _ w v (flat_pile w) h
theorem method_swap (b : Nat) (v : Value) (w : World) (h : w.cell? ⟨b, 0, none⟩ = some v) : (method 174 47 (.pointer (some ⟨b, 0, none⟩)) "Swap").run Try.prog w = .ok (38, v) w :=
  method_by_value (E := 34) (by kernel_rfl) (by kernel_rfl) 173 _ w v (flat_pile w) h
theorem method_len (b : Nat) (v : Value) (w : World) (h : w.cell? ⟨b, 0, none⟩ = some v) : (method 174 47 (.pointer (some ⟨b, 0, none⟩)) "Len").run Try.prog w = .ok (36, v) w :=
  method_by_value (E := 34) (by kernel_rfl) (by kernel_rfl) 173 _ w v (flat_pile w) h
theorem method_push (v : Value) (w : World) : (method 174 47 v "Push").run Try.prog w = .ok (41, v) w :=
  method_by_pointer (E := 34) (by kernel_rfl) (by kernel_rfl) 173 v w
theorem method_pop (v : Value) (w : World) : (method 174 47 v "Pop").run Try.prog w = .ok (40, v) w :=
  method_by_pointer (E := 34) (by kernel_rfl) (by kernel_rfl) 173 v w
theorem nil_less (b : Nat) (w : World) : (nilAhead 174 47 (.pointer (some ⟨b, 0, none⟩)) "Less").run Try.prog w = .ok (some false) w := by kernel_rfl
theorem nil_swap (b : Nat) (w : World) : (nilAhead 174 47 (.pointer (some ⟨b, 0, none⟩)) "Swap").run Try.prog w = .ok (some false) w := by kernel_rfl
theorem nil_len (b : Nat) (w : World) : (nilAhead 174 47 (.pointer (some ⟨b, 0, none⟩)) "Len").run Try.prog w = .ok (some false) w := by kernel_rfl
theorem nil_push (b : Nat) (w : World) : (nilAhead 174 47 (.pointer (some ⟨b, 0, none⟩)) "Push").run Try.prog w = .ok (some false) w := by kernel_rfl
theorem nil_pop (b : Nat) (w : World) : (nilAhead 174 47 (.pointer (some ⟨b, 0, none⟩)) "Pop").run Try.prog w = .ok (some false) w := by kernel_rfl
end Go.Proofs.Ytejmmhaglgmgbaa
