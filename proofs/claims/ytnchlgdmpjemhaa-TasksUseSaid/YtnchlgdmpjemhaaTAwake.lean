/-
  Contracts of what the statements' own text has: the same numbers; the chapter's example.
-/
import Derived.Test.YtnchlgdmpjemhaaTWalksE
namespace Go.Proofs.Ytnchlgdmpjemhaa
open Go.ChangeShapes Go.WideShapes Go.ChangeAt Go.RowKit

set_option maxHeartbeats 400000 in
theorem same_yes (A A2 : Option Addr) (n c c2 : Nat) (L : List Int) (w : World) (hln : L.length = n) (hn : n ≤ 9223372036854775807) (hA : NumsI w.heap.size w A L) (hB : NumsI w.heap.size w A2 L) :
    Calls Try.prog 13 #[.slice A n c, .slice A2 n c2] w fun e w' => e = .returned (.bool true) ∧ Below w.heap.size w w' := by
  have HA := Lib.hid hA
  have HB := Lib.hid hB
  have Hl := Lib.hid hln
  clear hA hB hln
  have hnn : ((n : Int) == (n : Int)) = true := by simp
  go_enter Try.func13, Try.ntmps13
  go_wp2_with fail
  go_loopw [5] (fun i wr => ∃ k : Nat, k ≤ n ∧ i = .int .i64 k ∧ Below w.heap.size w wr) (fun i _ => (n - intOf i).toNat)
  case atStart => exact ⟨0, by omega, rfl, Below.refl _ _⟩
  case round =>
    obtain ⟨k, hk, rfl, hb⟩ := hrel
    by_cases hlt : k < n
    · obtain ⟨b1, o1, rfl, hB1, h1⟩ := HA.out (by rw [Hl.out]; omega)
      obtain ⟨b2, o2, rfl, hB2, h2⟩ := HB.out (by rw [Hl.out]; omega)
      have c1 := h1 k (by rw [Hl.out]; exact hlt)
      have c2 := h2 k (by rw [Hl.out]; exact hlt)
      clear h1 h2
      obtain ⟨hc, hf⟩ := old_cells hb
      have hz := hb.size
      have hz1 : b1 < wr.heap.size := by omega
      have hz2 : b2 < wr.heap.size := by omega
      have hk0 : (0 : Int) ≤ k := by omega
      have hkn : (k : Int) < n := by omega
      obtain ⟨x, hx⟩ : ∃ x, L.getD k 0 = x := ⟨_, rfl⟩
      rw [hx] at c1 c2
      clear hx
      have hxx : (x != x) = false := by simp
      go_wp2_with fail
      refine wp_region_later wr.heap.size wr (by kernel_rfl) (by kernel_rfl) (Below.refl _ _) ?_
      repeat (go_big_quiet_step (fail))
      refine wpQuiet_nil ?_
      rintro _ ⟨n1, rfl⟩
      go_wp2
      go_roundw
      case rel => exact ⟨k + 1, by omega, by go_num, hb.trans (n1.below.mono hz)⟩
      case measure => simp [intOf]; omega
    · go_wp2
      go_ret
      exact ⟨rfl, hb⟩

theorem example_dem : Tk.demAns [(2, 5, 4)] 9 = 4 := by decide +kernel
theorem example_all : Tk.all [(2, 5, 4)] = true := by decide +kernel
theorem example_pts : ptsAns [(2, 5, 4)] 9 = [4, 9] := by decide +kernel

set_option maxHeartbeats 400000 in
theorem tawake_any (w : World) :
    Calls Try.prog 6 #[] w fun e w' => e = .returned (.bool true) ∧ Below w.heap.size w w' := by
  have T0 : Hid (Tks (w.heap.size + 1) (w.alloc (.cells #[.int .i64 2, .int .i64 5, .int .i64 4] 24)) (some ⟨w.heap.size, 0, none⟩) [(2, 5, 4)]) := (fun _ => ⟨w.heap.size, 0, rfl, Nat.lt_succ_self _, fun i hi => by
    obtain rfl : i = 0 := by simp at hi; omega
    exact ⟨by simp [go_sem], by simp [go_sem], by simp [go_sem]⟩⟩ : Tks (w.heap.size + 1) (w.alloc (.cells #[.int .i64 2, .int .i64 5, .int .i64 4] 24)) (some ⟨w.heap.size, 0, none⟩) [(2, 5, 4)])
  have h0 : Hid (Below w.heap.size w (w.alloc (.cells #[.int .i64 2, .int .i64 5, .int .i64 4] 24))) := ((Below.refl _ _).alloc (Nat.le_refl _) _ : Below w.heap.size w _)
  go_enter Try.func6, Try.ntmps6
  go_wp2_with fail
  refine (demand_any _ 1 _ [(2, 5, 4)] 9 _ rfl (by simpa using T0.out)).mono ?_
  rw [example_dem]
  rintro e w1 ⟨rfl, hb1⟩
  replace hb1 := Lib.hid hb1
  have T1 : Hid (Tks w1.heap.size w1 (some ⟨w.heap.size, 0, none⟩) [(2, 5, 4)]) := Tks.later (w := w.alloc (.cells #[.int .i64 2, .int .i64 5, .int .i64 4] 24)) (by simpa using T0.out) hb1.out
  go_wp2_with fail
  refine (tall_any _ 1 _ [(2, 5, 4)] _ rfl T1.out).mono ?_
  rw [example_all]
  rintro e w2 ⟨rfl, hb2⟩
  replace hb2 := Lib.hid hb2
  have T2 := Lib.hid (T1.out.later hb2.out)
  go_wp2_with fail
  refine (points_any _ 1 _ [(2, 5, 4)] 9 _ rfl T2.out).mono ?_
  rw [example_pts]
  rintro e w3 ⟨A, c, rfl, hc, -, hb3⟩
  replace hb3 := Lib.hid hb3
  go_wp2
  go_ret
  exact ⟨rfl, h0.out.trans ((hb1.out.trans ((hb2.out.trans (hb3.out.mono hb2.out.size)).mono hb1.out.size)).mono (by simp))⟩
end Go.Proofs.Ytnchlgdmpjemhaa
