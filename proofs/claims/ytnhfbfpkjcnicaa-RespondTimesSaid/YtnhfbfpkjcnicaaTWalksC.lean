/-
  Contracts of the document's answers: how many ticks a set asks for, job by job.
-/
import Derived.Test.YtnhfbfpkjcnicaaTWalksB
namespace Go.Proofs.Ytnhfbfpkjcnicaa
open Go.ChangeShapes Go.WideShapes Go.ChangeAt Go.RowKit

theorem next_job {p : Int} (j : Nat) : ((j + 1 : Nat) : Int) * p = j * p + p := by
  rw [Int.natCast_add, Int.add_mul]
  omega


set_option maxHeartbeats 1000000 in
theorem rrequest_any (A : Option Addr) (n c : Nat) (l : List (Int × Int × Int)) (t : Int) (w : World) (hln : l.length = n) (hL : Tks w.heap.size w A l) (ht0 : 0 ≤ t) (ht : t ≤ 1048576) (Hall : Hid (Tk.all l = true)) :
    Calls Try.prog 18 #[.slice A n c, .int .i64 t] w fun e w' => e = .returned (.int .i64 (Tk.req l t)) ∧ w = w' := by
  have HL := Lib.hid hL
  have Hl := Lib.hid hln
  clear hL hln
  have hn8 : n ≤ 8 := by rw [← Hl.out]; exact Tk.all_len Hall.out
  go_enter Try.func18, Try.ntmps18
  go_wp2_with fail
  go_loop [5, 6] (fun s i => ∃ (k : Nat) (x : Int), k ≤ n ∧ i = .int .i64 k ∧ s = .int .i64 x ∧ 0 ≤ x ∧ x ≤ 8796093022208 ∧ Hid (x = Tk.req (l.take k) t)) (fun _ i => (n - intOf i).toNat)
  case atStart => exact ⟨0, 0, by omega, rfl, rfl, by omega, by omega, (rfl : (0 : Int) = Tk.req (l.take 0) t)⟩
  case round =>
    obtain ⟨k, x, hk, rfl, rfl, hx0, hx1, hx⟩ := hrel
    by_cases hlt : k < n
    · obtain ⟨ab, ao, rfl, hB, hcell⟩ := HL.out (by rw [Hl.out]; omega)
      obtain ⟨hc1, hc2, hc3⟩ := hcell k (by rw [Hl.out]; exact hlt)
      clear hcell
      have hk0 : (0 : Int) ≤ k := by omega
      have hkn : (k : Int) < n := by omega
      obtain ⟨q, p, d, hxyz⟩ : ∃ x y z, l.getD k (0, 0, 0) = (x, y, z) := ⟨_, _, _, rfl⟩
      have hst := Lib.hid (Tk.req_step (n := t) (show k < l.length by rw [Hl.out]; exact hlt) hxyz)
      obtain ⟨i1, i2, i3, i4⟩ := Tk.all_bd Hall.out (show k < l.length by rw [Hl.out]; exact hlt) hxyz
      have hdb := Lib.hid (Tk.req_bd (n := t) (Tk.len_take Hall.out (k + 1)) (Tk.mem_take_rt Hall.out (k + 1)) ht0 ht)
      have hcb := Lib.hid (Tk.come_bd (n := t) (p := p) ht0 ht (by omega))
      rw [hxyz] at hc1 hc2 hc3
      clear hxyz
      have HR : Hid (∀ j : Nat, (j : Int) ≤ Tk.come t p → 0 ≤ (j : Int) * q ∧ (j : Int) * q ≤ 1099511627776) := fun j hj => Tk.mul_bd (by omega) (by have := hcb.out; omega) (by omega) (by omega)
      go_wp2_with fail
      go_loop [5, 7] (fun s u => ∃ (j : Nat) (y a : Int), s = .int .i64 y ∧ u = .int .i64 a ∧ 0 ≤ a ∧ a ≤ 1048576 + p ∧ x ≤ y ∧ y ≤ x + 1099511627776 ∧ Hid (a = j * p) ∧ Hid (y = x + j * q) ∧ Hid ((j : Int) ≤ Tk.come t p)) (fun _ u => (t - intOf u).toNat)
      case atStart => exact ⟨0, x, 0, rfl, rfl, by omega, by omega, by omega, by omega, (by simp : 0 = ((0 : Nat) : Int) * p), (by simp : x = x + ((0 : Nat) : Int) * q), (hcb.out.1 : ((0 : Nat) : Int) ≤ Tk.come t p)⟩
      case round =>
        obtain ⟨j, y, a, rfl, rfl, ha0, ha1, hy0, hy1, ha, hy, hj⟩ := hrel
        by_cases hat : a < t
        · have hj2 := Lib.hid (Tk.come_more (n := t) (j := j) (show 1 ≤ p by omega) (by rw [← ha.out]; exact hat))
          have hnj := Lib.hid (next_job (p := p) j)
          have hnq := Lib.hid (next_job (p := q) j)
          have hbd := Lib.hid (HR.out (j + 1) (by have := hj2.out; omega))
          go_wp2
          go_round
          case rel => exact ⟨j + 1, y + q, a + p, rfl, rfl, by omega, by omega, by omega, by have := hy.out; have := hbd.out; have := hnq.out; omega, (by rw [hnj.out, ha.out] : a + p = (j + 1 : Nat) * p), (by rw [hnq.out, hy.out]; omega : y + q = x + (j + 1 : Nat) * q), (by have := hj2.out; omega : ((j + 1 : Nat) : Int) ≤ Tk.come t p)⟩
          case measure => simp [intOf]; omega
        · have hj2 := Lib.hid (Tk.come_end (n := t) (j := j) (show 1 ≤ p by omega) hj.out (by rw [← ha.out]; exact hat))
          have Hnx : Hid (y = Tk.req (l.take (k + 1)) t) := (by rw [hst.out, hy.out, hx.out, ← hj2.out, Int.mul_comm] : y = Tk.req (l.take (k + 1)) t)
          go_wp2
          go_round
          case rel => exact ⟨k + 1, y, by omega, by go_num, rfl, by omega, by rw [Hnx.out]; exact hdb.out.2, Hnx.out⟩
          case measure => simp [intOf]; omega
    · have hkn : Hid (k = n) := (by omega : k = n)
      go_wp2
      go_ret
      refine ⟨int_back ?_, rfl⟩
      rw [hx.out, List.take_of_length_le (by rw [Hl.out, hkn.out]; exact Nat.le_refl _)]
end Go.Proofs.Ytnhfbfpkjcnicaa
