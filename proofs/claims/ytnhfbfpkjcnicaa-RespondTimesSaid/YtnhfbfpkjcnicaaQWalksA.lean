/-
  Contracts of package respond: how long a job takes at most.
-/
import Derived.Test.YtnhfbfpkjcnicaaQMath
import Derived.Test.YtnhfbfpkjcnicaaTWalksC
import Derived.Test.YtnhfbfpkjcnicaaSWalksC
namespace Go.Proofs.Ytnhfbfpkjcnicaa
open Go.ChangeShapes Go.WideShapes Go.ChangeAt Go.RowKit

set_option maxHeartbeats 400000 in
theorem qspans_any (t : Int) (w : World) :
    Calls Try.prog 13 #[.int .i64 t] w fun e w' => e = .returned (.bool (Sp.asks t)) ∧ w = w' := by
  by_cases h1 : 0 ≤ t
  · by_cases h2 : t ≤ 1048576
    all_goals
      go_enter Try.func13, Try.ntmps13
      go_wp2
      go_ret
      exact ⟨bool_back (by simp [Sp.asks, *]), rfl⟩
  · go_enter Try.func13, Try.ntmps13
    go_wp2
    go_ret
    exact ⟨bool_back (by simp [Sp.asks]; omega), rfl⟩

set_option maxHeartbeats 400000 in
theorem qto_any (a b : Int) (w : World) :
    Calls Try.prog 6 #[.agg #[.int .i64 a, .int .i64 b]] w fun e w' => e = .returned (.agg #[.int .i64 a, .int .i64 b]) ∧ Below w.heap.size w w' := by
  go_enter Try.func6, Try.ntmps6
  go_wp2
  exact bodyPost_ret (v := .agg #[.int .i64 a, .int .i64 b]) (by simp [results, Try.results6, go_sem]) rfl ⟨rfl, by go_grown⟩

set_option maxHeartbeats 800000 in
theorem qwait_any (b p x u : Int) (w : World) (hb : 1 ≤ b) (hb2 : b ≤ 1048576) (hp : 1 ≤ p) (hp2 : p ≤ 1048576) (hx : 1 ≤ x) (hx2 : x ≤ 8796095119360) (hu : u ≤ 1048576) (hu0 : 0 ≤ u) :
    Calls Try.prog 17 #[.agg #[.int .i64 b, .int .i64 p], .int .i64 x, .int .i64 u] w fun e w' => e = .returned (.int .i64 (Rp.waitI b p x u)) ∧ Below w.heap.size w w' := by
  have hx0 : (x == 0) = false := beq_eq_false_iff_ne.2 (by omega)
  go_enter Try.func17, Try.ntmps17
  go_wp2_with fail
  go_loop [7, 8] (fun n a => ∃ (k : Nat) (N A : Int), n = .int .i64 N ∧ a = .int .i64 A ∧ 0 ≤ N ∧ N ≤ 8796095119360 ∧ 0 ≤ A ∧ A ≤ 2097152 ∧ Hid (Rp.AtW b p x u k N A)) (fun _ a => (1048577 - intOf a).toNat)
  case atStart => exact ⟨0, 0, 2 * p, rfl, rfl, by omega, by omega, by omega, by omega, Rp.AtW.start hx⟩
  case round =>
    obtain ⟨k, N, A, rfl, rfl, hN, hN2, hA, hA2, hat⟩ := hrel
    by_cases hlt : A ≤ u
    · by_cases hge : x ≤ N + b
      · have hdn := Lib.hid (hat.out.hits hb hlt hge)
        go_wp2
        go_ret
        exact ⟨int_back hdn.out.symm, by go_grown⟩
      · have hst := Lib.hid (hat.out.step hlt (by omega))
        have hbd := Lib.hid (hst.out.bd (by omega) hp hp2 hu)
        go_wp2
        go_round
        case rel => exact ⟨k + 1, N + b, A + p, rfl, rfl, hbd.out.1.1, by have := hbd.out.1.2; omega, hbd.out.2.1, hbd.out.2.2, hst.out⟩
        case measure => simp [intOf]; omega
    · have hdn := Lib.hid (hat.out.far hb hp (by omega))
      go_wp2
      go_ret
      exact ⟨int_back hdn.out.symm, by go_grown⟩
end Go.Proofs.Ytnhfbfpkjcnicaa
