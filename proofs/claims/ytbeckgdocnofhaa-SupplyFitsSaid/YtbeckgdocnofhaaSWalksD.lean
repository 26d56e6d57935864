/-
  The contract of Share: what part of the processor a reservation is.
-/
import Derived.Test.YtbeckgdocnofhaaSWalksA
import Derived.Test.YtbeckgdocnofhaaWalksD
namespace Go.Proofs.Ytbeckgdocnofhaa
open Go.ChangeShapes Go.WideShapes Go.ChangeAt Go.RowKit

/-- A reservation's share; of one that may not be 0 by 0. -/
def Sp.shN (b p : Int) : Int := if Sp.right b p = true then b / Rt.gcd b p else 0
def Sp.shD (b p : Int) : Int := if Sp.right b p = true then p / Rt.gcd b p else 0
theorem Sp.sh_yes {b p : Int} (h : Sp.right b p = true) : Sp.shN b p = b / Rt.gcd b p ∧ Sp.shD b p = p / Rt.gcd b p := ⟨if_pos h, if_pos h⟩
theorem Sp.sh_no {b p : Int} (h : Sp.right b p = false) : Sp.shN b p = 0 ∧ Sp.shD b p = 0 := by simp [Sp.shN, Sp.shD, h]
theorem Sp.sh_bd (b p : Int) : (0 ≤ Sp.shN b p ∧ Sp.shN b p < 18446744073709551616) ∧ 0 ≤ Sp.shD b p ∧ Sp.shD b p < 18446744073709551616 := by
  cases h : Sp.right b p with
  | false => rw [(Sp.sh_no h).1, (Sp.sh_no h).2]; omega
  | true =>
    rw [(Sp.sh_yes h).1, (Sp.sh_yes h).2]
    obtain ⟨r1, r2, r3⟩ := Sp.right_iff.1 h
    have hg := Rt.gcd_pos b p (by omega)
    exact ⟨Rt.part_bd b _ (by omega) (by omega) hg, Rt.part_bd p _ (by omega) (by omega) hg⟩

set_option maxHeartbeats 800000 in
theorem share_any (b p : Int) (w : World) :
    Calls Try.prog 11 #[.agg #[.int .i64 b, .int .i64 p]] w fun e w' => e = .returned (.agg #[.int .u64 (Sp.shN b p), .int .u64 (Sp.shD b p)]) ∧ Below w.heap.size w w' := by
  have CR : Hid (∀ w : World, _) := fun w => sright_any b p w
  obtain ⟨W0, hW0⟩ : ∃ W0, W0 = ((w.alloc (.cells #[.int .i64 b, .int .i64 p] 24)).alloc (.cells #[.int .u64 0, .int .u64 0] 30)) := ⟨_, rfl⟩
  have HB : Hid (Below w.heap.size w W0) := by
    rw [hW0]
    have : Below w.heap.size w ((w.alloc (.cells #[.int .i64 b, .int .i64 p] 24)).alloc (.cells #[.int .u64 0, .int .u64 0] 30)) := by go_grown
    exact this
  have hz0 : W0.heap.size = w.heap.size + 2 := by
    rw [hW0]
    simp
  have HS : Hid (∀ w' : World, Below (w.heap.size + 2) W0 w' → w'.cell? ⟨w.heap.size, 0, none⟩ = some (.int .i64 b) ∧ w'.cell? ⟨w.heap.size, 1, none⟩ = some (.int .i64 p) ∧ w'.cell? ⟨w.heap.size + 1, 0, none⟩ = some (.int .u64 0) ∧ w'.cell? ⟨w.heap.size + 1, 1, none⟩ = some (.int .u64 0) ∧ w'.frozen? ⟨w.heap.size + 1, 0, none⟩ = false ∧ w'.frozen? ⟨w.heap.size + 1, 1, none⟩ = false ∧ w.heap.size + 1 < w'.heap.size) := by
    intro w' h
    obtain ⟨e1, f1⟩ := old_cells h
    refine ⟨?_, ?_, ?_, ?_, ?_, ?_, ?_⟩
    · rw [e1 _ _ (by omega), hW0]; simp [go_sem]
    · rw [e1 _ _ (by omega), hW0]; simp [go_sem]
    · rw [e1 _ _ (by omega), hW0]; simp [go_sem]
    · rw [e1 _ _ (by omega), hW0]; simp [go_sem]
    · rw [f1 _ _ (by omega), hW0]; simp [go_sem]
    · rw [f1 _ _ (by omega), hW0]; simp [go_sem]
    · have := h.size
      omega
  have HW0 := Lib.hid hW0
  have HZ := Lib.hid hz0
  clear hW0 hz0
  cases hr : Sp.right b p with
  | false =>
    rw [(Sp.sh_no hr).1, (Sp.sh_no hr).2]
    rw [hr] at CR
    clear hr
    go_enter Try.func11, Try.ntmps11
    go_wp2_with fail
    rw [← HW0.out]
    refine (CR.out _).mono ?_
    rintro e w1 ⟨rfl, hb1⟩
    replace hb1 := Below.mono hb1 (B' := w.heap.size + 2) (by rw [HZ.out]; exact Nat.le_refl _)
    have hW := Lib.hid (HB.out.trans (hb1.mono (by omega)))
    obtain ⟨-, -, c3, c4, f3, f4, z1⟩ := HS.out _ hb1
    clear hb1
    go_wp2
    refine bodyPost_ret (v := .agg #[.int .u64 0, .int .u64 0]) (by simp [results, Try.results11, go_sem, c3, c4]) rfl ⟨rfl, ?_⟩
    exact (hW.out.setCell (by simp) _).setCell (by simp) _
  | true =>
    obtain ⟨r1, r2, r3⟩ := Sp.right_iff.1 hr
    have CO : Hid (∀ w : World, _) := fun w => of_some b p w (by omega) (by omega) (by omega) (by omega)
    rw [(Sp.sh_yes hr).1, (Sp.sh_yes hr).2]
    rw [hr] at CR
    clear hr
    generalize b / Rt.gcd b p = N at *
    generalize p / Rt.gcd b p = D at *
    go_enter Try.func11, Try.ntmps11
    go_wp2_with fail
    rw [← HW0.out]
    refine (CR.out _).mono ?_
    rintro e w1 ⟨rfl, hb1⟩
    replace hb1 := Below.mono hb1 (B' := w.heap.size + 2) (by rw [HZ.out]; exact Nat.le_refl _)
    have B1 := Lib.hid hb1
    obtain ⟨c1, c2, -, -, -, -, z1⟩ := HS.out _ hb1
    have z1' : w.heap.size < w1.heap.size := by omega
    clear hb1
    go_wp2_with fail
    refine (CO.out _).mono ?_
    rintro e w2 ⟨rfl, hb2⟩
    have B2 := Lib.hid (B1.out.trans (hb2.mono z1))
    have z2 := Lib.hid (Nat.lt_of_lt_of_le z1 hb2.size)
    clear c1 c2 z1 z1' hb2
    obtain ⟨-, -, c3, c4, f3, f4, z3⟩ := HS.out _ B2.out
    have hW := Lib.hid (HB.out.trans (B2.out.mono (by omega)))
    have z4 : w.heap.size + 1 ≤ w2.heap.size := by omega
    go_wp2
    refine bodyPost_ret (v := .agg #[.int .u64 N, .int .u64 D]) (by simp [results, Try.results11, go_sem, c3, c4, z3]) rfl ⟨rfl, ?_⟩
    exact ((hW.out.setCell (by simp) _).setCell (by simp) _).alloc (by simp [World.setCell]; omega) _
end Go.Proofs.Ytbeckgdocnofhaa
