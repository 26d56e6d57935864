/-
  Contracts: within, Right, the document's Right, to, there, find.
-/
import Derived.Test.YtbidioonojnagaaBMem
import Derived.Test.YtbidioonojnagaaKit
namespace Go.Proofs.Ytbidioonojnagaa
open Go.ChangeShapes Go.WideShapes Go.ChangeAt Go.RowKit

theorem within_any (n m : Int) (w : World) : Calls Try.prog 13 #[.int .i64 n, .int .i64 m] w fun e w' => e = .returned (.bool (decide (0 ≤ n) && decide (n ≤ m))) ∧ w = w' := by
  by_cases h0 : (0 : Int) ≤ n
  · have e1 : (decide (0 ≤ n) && decide (n ≤ m)) = decide (n ≤ m) := by simp [h0]
    rw [e1]
    go_enter Try.func13, Try.ntmps13
    go_wp2
    go_ret
    exact ⟨rfl, rfl⟩
  · have e1 : (decide (0 ≤ n) && decide (n ≤ m)) = false := by simp [h0]
    rw [e1]
    go_enter Try.func13, Try.ntmps13
    go_wp2
    go_ret
    exact ⟨rfl, rfl⟩
theorem right_parts (x : En) : x.right = ((decide (0 ≤ x.en) && decide (x.en ≤ 7)) && (decide (0 ≤ x.pg) && decide (x.pg ≤ 65535)) && (decide (0 ≤ x.fr) && decide (x.fr ≤ 31))) := by
  simp only [En.right, Bool.and_assoc]
set_option maxHeartbeats 1000000 in
theorem right_any (x : En) (w : World) : Calls Try.prog 9 #[.agg (ecells x).toArray] w fun e w' => e = .returned (.bool x.right) ∧ Below w.heap.size w w' := by
  rw [right_parts]
  obtain ⟨en, pg, fr, wr⟩ := x
  have hbl : ∀ o, Below w.heap.size w (w.alloc o) := fun o => (Below.refl _ _).alloc (Nat.le_refl _) o
  have HA : ∀ w, _ := within_any en 7
  have HB : ∀ w, _ := within_any pg 65535
  have HC : ∀ w, _ := within_any fr 31
  simp only [ecells]
  generalize (decide (0 ≤ en) && decide (en ≤ 7)) = a at *
  generalize (decide (0 ≤ pg) && decide (pg ≤ 65535)) = b at *
  generalize (decide (0 ≤ fr) && decide (fr ≤ 31)) = c at *
  cases a with
  | false =>
    go_enter Try.func9, Try.ntmps9
    go_wp2_with fail
    refine (HA _).mono ?_
    rintro e w' ⟨rfl, rfl⟩
    go_wp2
    go_ret
    exact ⟨rfl, hbl _⟩
  | true =>
    cases b with
    | false =>
      go_enter Try.func9, Try.ntmps9
      go_wp2_with fail
      refine (HA _).mono ?_
      rintro e w' ⟨rfl, rfl⟩
      go_wp2_with fail
      refine (HB _).mono ?_
      rintro e w' ⟨rfl, rfl⟩
      go_wp2
      go_ret
      exact ⟨rfl, hbl _⟩
    | true =>
      go_enter Try.func9, Try.ntmps9
      go_wp2_with fail
      refine (HA _).mono ?_
      rintro e w' ⟨rfl, rfl⟩
      go_wp2_with fail
      refine (HB _).mono ?_
      rintro e w' ⟨rfl, rfl⟩
      go_wp2_with fail
      refine (HC _).mono ?_
      rintro e w' ⟨rfl, rfl⟩
      go_wp2
      go_ret
      exact ⟨rfl, hbl _⟩
set_option maxHeartbeats 1000000 in
theorem rright_any (x : En) (w : World) : Calls Try.prog 5 #[.agg (ecells x).toArray] w fun e w' => e = .returned (.bool x.right) ∧ Below w.heap.size w w' := by
  obtain ⟨r, hr⟩ : ∃ r, x.right = r := ⟨_, rfl⟩
  rw [hr]
  unfold En.right at hr
  obtain ⟨en, pg, fr, wr⟩ := x
  have hbl : ∀ o, Below w.heap.size w (w.alloc o) := fun o => (Below.refl _ _).alloc (Nat.le_refl _) o
  simp only [ecells]
  dsimp only at hr
  by_cases h1 : (0 : Int) ≤ en
  · by_cases h2 : en ≤ 7
    · by_cases h3 : (0 : Int) ≤ pg
      · by_cases h4 : pg ≤ 65535
        · by_cases h5 : (0 : Int) ≤ fr
          · have HR : Hid (decide (fr ≤ 31) = r) := Lib.hid (by simpa [h1, h2, h3, h4, h5] using hr)
            clear hr
            go_enter Try.func5, Try.ntmps5
            go_wp2
            go_ret
            exact ⟨bool_back HR.out, hbl _⟩
          · obtain rfl : false = r := by simpa [h1, h2, h3, h4, h5] using hr
            clear hr
            go_enter Try.func5, Try.ntmps5
            go_wp2
            go_ret
            exact ⟨rfl, hbl _⟩
        · obtain rfl : false = r := by simpa [h1, h2, h3, h4] using hr
          clear hr
          go_enter Try.func5, Try.ntmps5
          go_wp2
          go_ret
          exact ⟨rfl, hbl _⟩
      · obtain rfl : false = r := by simpa [h1, h2, h3] using hr
        clear hr
        go_enter Try.func5, Try.ntmps5
        go_wp2
        go_ret
        exact ⟨rfl, hbl _⟩
    · obtain rfl : false = r := by simpa [h1, h2] using hr
      clear hr
      go_enter Try.func5, Try.ntmps5
      go_wp2
      go_ret
      exact ⟨rfl, hbl _⟩
  · obtain rfl : false = r := by simpa [h1] using hr
    clear hr
    go_enter Try.func5, Try.ntmps5
    go_wp2
    go_ret
    exact ⟨rfl, hbl _⟩
theorem to_any (x : En) (w : World) : Calls Try.prog 7 #[.agg (ecells x).toArray] w fun e w' => e = .returned (.agg (ecells x).toArray) ∧ Below w.heap.size w w' := by
  obtain ⟨en, pg, fr, wr⟩ := x
  simp only [ecells]
  go_enter Try.func7, Try.ntmps7
  go_wp2
  refine bodyPost_ret (v := .agg #[.int .i64 en, .int .i64 pg, .int .i64 fr, .bool wr]) (by simp [results, Try.results7, go_sem]) rfl ?_
  refine ⟨rfl, ?_⟩
  repeat' (first | exact Below.refl _ _ | (refine Below.setCell ?_ ?_ _) | (refine Below.alloc ?_ ?_ _))
  all_goals simp

/-! find. -/
theorem of_any {A B : Nat} (x : En) (e p : Int) (w : World) (hA : w.cell? ⟨A, 0, none⟩ = some (.int .i64 e)) (hB : w.cell? ⟨B, 0, none⟩ = some (.int .i64 p)) (lA : A < w.heap.size) (lB : B < w.heap.size) :
    Calls Try.prog 16 #[.agg (ecells x).toArray, .pointer (some ⟨A, 0, none⟩), .pointer (some ⟨B, 0, none⟩)] w fun e' w' => e' = .returned (.bool (x.of_ e p)) ∧ Below w.heap.size w w' := by
  obtain ⟨en, pg, fr, wr⟩ := x
  have hbl : ∀ o, Below w.heap.size w (w.alloc o) := fun o => (Below.refl _ _).alloc (Nat.le_refl _) o
  have nA : A ≠ w.heap.size := by omega
  have nB : B ≠ w.heap.size := by omega
  obtain ⟨r, hr⟩ : ∃ r, En.of_ ⟨en, pg, fr, wr⟩ e p = r := ⟨_, rfl⟩
  rw [hr]
  unfold En.of_ at hr
  dsimp only at hr
  simp only [ecells]
  by_cases h1 : en = e
  · have HR : Hid (decide (pg = p) = r) := Lib.hid (by simpa [h1] using hr)
    subst h1
    clear hr
    go_enter Try.func16, Try.ntmps16
    go_wp2
    go_ret
    exact ⟨bool_back HR.out, hbl _⟩
  · obtain rfl : false = r := by simpa [h1] using hr
    clear hr
    go_enter Try.func16, Try.ntmps16
    go_wp2
    go_ret
    exact ⟨rfl, hbl _⟩
end Go.Proofs.Ytbidioonojnagaa
