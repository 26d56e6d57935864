/-
  The document's answers: Index, Upto; what compares lists of timers.
-/
import Derived.Test.YtadppcmbkccmnaaWOnly
import Derived.Test.YtadppcmbkccmnaaLater
import Derived.Laws.StructEq
import Derived.BigQuiet
import Derived.LoopTactic
namespace Go.Proofs.Ytadppcmbkccmnaa
open Go.ChangeShapes Go.WideShapes Go.ChangeAt Go.RowKit

theorem due_eql (a b c x y z : Int) (w : World) : (binOp .eql 48 (.agg #[.int .i64 a, .int .i64 b, .int .i64 c]) (.agg #[.int .i64 x, .int .i64 y, .int .i64 z])).run Try.prog w = .ok (.bool (decide (a = x ∧ b = y ∧ c = z))) w := by
  have u3 := Try.underlying3
  have a3 := Try.isAgg3
  have z3 := Try.sizeOf3
  have hS : Try.prog.underlying 48 = some (.struct (Try.prog.fieldsOf 48)) := by kernel_rfl
  have hp : Try.prog.stoodInHeld 48 = false := by kernel_rfl
  rw [run_eql_struct, show (10000 : Nat) = 9999 + 1 from rfl, run_equalIn_agg w 9999 48 _ _ hS hp]
  simp only [Program.fieldsOf, Try.underlying48]
  go_simp
  by_cases h1 : a = x <;> by_cases h2 : b = y <;> by_cases h3 : c = z <;> simp [h1, h2, h3]
theorem due_neq (a b c x y z : Int) (w : World) : (binOp .neq 48 (.agg #[.int .i64 a, .int .i64 b, .int .i64 c]) (.agg #[.int .i64 x, .int .i64 y, .int .i64 z])).run Try.prog w = .ok (.bool (!decide (a = x ∧ b = y ∧ c = z))) w := by
  have u3 := Try.underlying3
  have a3 := Try.isAgg3
  have z3 := Try.sizeOf3
  have hS : Try.prog.underlying 48 = some (.struct (Try.prog.fieldsOf 48)) := by kernel_rfl
  have hp : Try.prog.stoodInHeld 48 = false := by kernel_rfl
  rw [run_neq_struct, show (10000 : Nat) = 9999 + 1 from rfl, run_equalIn_agg w 9999 48 _ _ hS hp]
  simp only [Program.fieldsOf, Try.underlying48]
  go_simp
  by_cases h1 : a = x <;> by_cases h2 : b = y <;> by_cases h3 : c = z <;> simp [h1, h2, h3]

/-- Place i of a list. -/
def nth (r : List Du) (i : Nat) : Du := r.getD i (0, 0, 0)
theorem nth_mem {r : List Du} {i : Nat} (h : i < r.length) : nth r i ∈ r := by
  unfold nth
  rw [List.getD_eq_getElem?_getD, List.getElem?_eq_getElem h]
  exact List.getElem_mem h
theorem Dus.cells {T : Nat → Prop} {w : World} {A : Option Addr} {r : List Du} (h : Dus T w A r) (hn : 0 < r.length) : ∃ b o, A = some ⟨b, o, none⟩ ∧ T b ∧ ∀ i, i < r.length → w.cell? ⟨b, o + i * 3, none⟩ = some (.int .i64 (nth r i).1) ∧ w.cell? ⟨b, o + i * 3 + 1, none⟩ = some (.int .i64 (nth r i).2.1) ∧ w.cell? ⟨b, o + i * 3 + 2, none⟩ = some (.int .i64 (nth r i).2.2) := h.at_ hn

section
variable {T : Nat → Prop} {w : World} {A : Option Addr} {n c : Nat} {r : List Du}
theorem index_hit (hr : Dus T w A r) (hn : r.length = n) (hm : n ≤ 1000000) (q : Int) (i : Nat) (hi : i < n) (hq : (nth r i).2.1 = q) (hf : ∀ j, j < i → (nth r j).2.1 ≠ q) :
    Calls Try.prog 7 #[.slice A n c, .int .i64 q] w fun e w' => e = .returned (.int .i64 (i : Nat)) ∧ w = w' := by
  obtain ⟨b, o, rfl, -, hcell⟩ := hr.cells (by omega)
  have Hn := Lib.hid hn
  have HC := Lib.hid hcell
  have Hq := Lib.hid hq
  have Hf := Lib.hid hf
  clear hr hn hcell hq hf
  have hn1 : (n : Int) ≤ 1000000 := by omega
  go_enter Try.func7, Try.ntmps7
  go_wp2
  go_loop [5] (fun u => ∃ k : Nat, k ≤ i ∧ u = .int .i64 (k : Nat)) (fun u => n - (intOf u).toNat)
  case atStart => exact ⟨0, Nat.zero_le _, rfl⟩
  case round =>
    obtain ⟨k, hk, rfl⟩ := hrel
    have k0 : (0 : Int) ≤ k := by omega
    have k1 : (k : Int) < n := by omega
    obtain ⟨-, c1, -⟩ := HC.out k (by rw [Hn.out]; omega)
    by_cases hki : k = i
    · subst hki
      rw [Hq.out] at c1
      have hqq : (q == q) = true := by simp
      go_wp2
      go_ret
      exact ⟨rfl, rfl⟩
    · have hne : ((nth r k).2.1 == q) = false := by simpa using Hf.out k (by omega)
      generalize (nth r k).2.1 = y at *
      go_wp2
      go_round
      case rel => exact ⟨k + 1, by omega, by go_num⟩
      case measure => simp [intOf]; omega
theorem index_miss (hr : Dus T w A r) (hn : r.length = n) (hm : n ≤ 1000000) (q : Int) (hf : ∀ j, j < n → (nth r j).2.1 ≠ q) :
    Calls Try.prog 7 #[.slice A n c, .int .i64 q] w fun e w' => e = .returned (.int .i64 (-1)) ∧ w = w' := by
  have HR := Lib.hid hr
  have Hn := Lib.hid hn
  have Hf := Lib.hid hf
  clear hr hn hf
  have hn1 : (n : Int) ≤ 1000000 := by omega
  go_enter Try.func7, Try.ntmps7
  go_wp2
  go_loop [5] (fun u => ∃ k : Nat, k ≤ n ∧ u = .int .i64 (k : Nat)) (fun u => n - (intOf u).toNat)
  case atStart => exact ⟨0, Nat.zero_le _, rfl⟩
  case round =>
    obtain ⟨k, hk, rfl⟩ := hrel
    by_cases hlt : k < n
    · obtain ⟨b, o, rfl, -, hcell⟩ := HR.out.cells (by rw [Hn.out]; omega)
      have k0 : (0 : Int) ≤ k := by omega
      have k1 : (k : Int) < n := by omega
      obtain ⟨-, c1, -⟩ := hcell k (by rw [Hn.out]; omega)
      have hne : ((nth r k).2.1 == q) = false := by simpa using Hf.out k (by omega)
      generalize (nth r k).2.1 = y at *
      clear hcell
      go_wp2
      go_round
      case rel => exact ⟨k + 1, by omega, by go_num⟩
      case measure => simp [intOf]; omega
    · go_wp2
      go_ret
      exact ⟨rfl, rfl⟩
theorem upto_any (hr : Dus T w A r) (hn : r.length = n) (hm : n ≤ 1000000) (to : Int) (i : Nat) (hi : i ≤ n) (hq : i < n → to < (nth r i).1) (hf : ∀ j, j < i → (nth r j).1 ≤ to) :
    Calls Try.prog 11 #[.slice A n c, .int .i64 to] w fun e w' => e = .returned (.int .i64 (i : Nat)) ∧ w = w' := by
  have HR := Lib.hid hr
  have Hn := Lib.hid hn
  have Hq := Lib.hid hq
  have Hf := Lib.hid hf
  clear hr hn hq hf
  have hn1 : (n : Int) ≤ 1000000 := by omega
  go_enter Try.func11, Try.ntmps11
  go_wp2
  go_loop [5] (fun u => ∃ k : Nat, k ≤ i ∧ u = .int .i64 (k : Nat)) (fun u => n - (intOf u).toNat)
  case atStart => exact ⟨0, Nat.zero_le _, rfl⟩
  case round =>
    obtain ⟨k, hk, rfl⟩ := hrel
    by_cases hlt : k < n
    · obtain ⟨b, o, rfl, -, hcell⟩ := HR.out.cells (by rw [Hn.out]; omega)
      have k0 : (0 : Int) ≤ k := by omega
      have k1 : (k : Int) < n := by omega
      obtain ⟨c1, -, -⟩ := hcell k (by rw [Hn.out]; omega)
      by_cases hki : k = i
      · subst hki
        have hlt2 := Hq.out hlt
        clear hcell
        generalize (nth r k).1 = y at *
        go_wp2
        go_ret
        exact ⟨rfl, rfl⟩
      · have hle := Hf.out k (by omega)
        clear hcell
        generalize (nth r k).1 = y at *
        go_wp2
        go_round
        case rel => exact ⟨k + 1, by omega, by go_num⟩
        case measure => simp [intOf]; omega
    · obtain rfl : k = i := by omega
      go_wp2
      go_ret
      exact ⟨rfl, rfl⟩
end
end Go.Proofs.Ytadppcmbkccmnaa
