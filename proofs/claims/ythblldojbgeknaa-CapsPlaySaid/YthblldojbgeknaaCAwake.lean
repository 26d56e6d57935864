/-
  A new forest; the statement's awake.
-/
import Derived.Test.YthblldojbgeknaaCLMath
namespace Go.Proofs.Ythblldojbgeknaa
open Go.ChangeShapes Go.WideShapes Go.ChangeAt Go.RowKit
open Go.Shelf Go.Sort

/-- The cells of a new one. -/
def zcells : Array Value := Array.replicate 641 (.int .i64 0)
theorem zero_forest : ∀ w : World, (zeroValue 32).run Try.prog w = .ok (.agg zcells) w := fun w => by kernel_rfl
theorem hcells_none : ∀ j, j < 5 → (hcells none)[j]? = some (.int .i64 0)
  | 0, _ => rfl
  | 1, _ => rfl
  | 2, _ => rfl
  | 3, _ => rfl
  | 4, _ => rfl
theorem zcells_at {j : Nat} (h : j < 641) : zcells[j]? = some (.int .i64 0) := by
  unfold zcells
  rw [Array.getElem?_replicate, if_pos h]
theorem zcells_size : zcells.size = 641 := by
  unfold zcells
  exact Array.size_replicate
theorem new_is (w : World) : FoIs (w.alloc (.cells zcells 32 (0, 0))) w.heap.size ⟨[], 0⟩ := by
  refine ⟨⟨zcells, heap_alloc_new w _, zcells_size, fun e s he hs j hj => ?_, zcells_at (by omega)⟩, Wf.empty⟩
  rw [zcells_at (by omega)]
  exact (hcells_none j hj).symm
def exA : Fo := ⟨[⟨1, 0, 0, 0, 1, 3, 15⟩], 1⟩
def exB : Fo := ⟨[⟨1, 0, 0, 0, 1, 3, 15⟩, ⟨2, 1, 1, 2, 1, 3, 1⟩], 2⟩
theorem ex_root : rootF ⟨[], 0⟩ 0 0 1 3 15 = exA ∧ rootE ⟨[], 0⟩ 0 0 1 3 15 = 0 := ⟨rfl, rfl⟩
theorem ex_give : brF exA 0 0 1 2 1 4 = exB ∧ brE exA 0 0 1 2 1 4 = 0 := ⟨rfl, rfl⟩
theorem ex_find : findV exB.l 1 1 3 = 1 := rfl
theorem ex_rev : fd exB.l 0 0 = some ⟨1, 0, 0, 0, 1, 3, 15⟩ ∧ mayB 15 8 = true ∧ (tkW (ofB ⟨1, 0, 0, 0, 1, 3, 15⟩) exB).length = 1 ∧ findV (tkF (ofB ⟨1, 0, 0, 0, 1, 3, 15⟩) exB).l 1 1 3 = 0 := ⟨rfl, rfl, rfl, rfl⟩
set_option maxRecDepth 10000 in
set_option maxHeartbeats 2000000 in
theorem awake_any (w : World) : Calls Try.prog 5 #[] w fun e w' => e = .returned (.bool true) ∧ Below w.heap.size w w' := by
  obtain ⟨W, hW⟩ : ∃ W, w.alloc (.cells zcells 32 (0, 0)) = W := ⟨_, rfl⟩
  obtain ⟨h, hh⟩ : ∃ h, w.heap.size = h := ⟨_, rfl⟩
  have H0 : FoIs W h ⟨[], 0⟩ := by
    rw [← hW, ← hh]
    exact new_is w
  have hbW : Below w.heap.size w W := by
    rw [← hW]
    exact (Below.refl _ _).alloc (Nat.le_refl _) _
  have HB : Hid (∀ w', Only (· = h) W w' → Below w.heap.size w w') := Lib.hid fun w' ho => hbW.trans (ho.below hbW.size fun k hk => by subst hk; exact Nat.le_of_eq hh)
  have HR := Lib.hid (root_any H0 (by decide) 0 0 1 3 15)
  rw [ex_root.1, ex_root.2] at HR
  have HG : Hid (∀ w2, FoIs w2 h exA → Calls Try.prog 18 #[.pointer (some ⟨h, 0, none⟩), .int .i64 0, .int .i64 0, .int .i64 1, .int .i64 2, .int .i64 1] w2 (Turned h exB (.int .i64 0) w2)) := Lib.hid fun w2 h2 => by
    have := give_any h2 (by decide) 0 0 1 2 (R := 1) (by decide)
    rwa [ex_give.1, ex_give.2] at this
  have HF : Hid (∀ w2, FoIs w2 h exB → Calls Try.prog 11 #[.pointer (some ⟨h, 0, none⟩), .int .i64 1, .int .i64 1, .int .i64 3] w2 fun r w' => r = .returned (.int .i64 1) ∧ Below w2.heap.size w2 w') := Lib.hid fun w2 h2 => by
    have := find_any h2 1 1 3
    rwa [ex_find] at this
  have HV : Hid (∀ w2, FoIs w2 h exB → Calls Try.prog 19 #[.pointer (some ⟨h, 0, none⟩), .int .i64 0, .int .i64 0] w2 fun r w' => ∃ A c, r = .returned (.tuple #[.slice A 1 c, .int .i64 0]) ∧ FoIs w' h (tkF (ofB ⟨1, 0, 0, 0, 1, 3, 15⟩) exB) ∧ Only (· = h) w2 w') := Lib.hid fun w2 h2 => by
    refine (revoke_hit h2 ex_rev.1 ex_rev.2.1).mono ?_
    rintro r w' ⟨A, n, c, rfl, h1, -, -, h4, h5⟩
    rw [ex_rev.2.2.1] at h1
    subst h1
    exact ⟨A, c, rfl, h4, h5⟩
  have HF2 : Hid (∀ w2, FoIs w2 h (tkF (ofB ⟨1, 0, 0, 0, 1, 3, 15⟩) exB) → Calls Try.prog 11 #[.pointer (some ⟨h, 0, none⟩), .int .i64 1, .int .i64 1, .int .i64 3] w2 fun r w' => r = .returned (.int .i64 0) ∧ Below w2.heap.size w2 w') := Lib.hid fun w2 h2 => by
    have := find_any h2 1 1 3
    rwa [ex_rev.2.2.2] at this
  generalize tkF (ofB ⟨1, 0, 0, 0, 1, 3, 15⟩) exB = exC at *
  generalize exA = A1 at *
  generalize exB = B1 at *
  have hZ := zero_forest
  have HW := Lib.hid hW
  have Hh := Lib.hid hh
  generalize zcells = Z at *
  clear hW hh H0 hbW
  go_enter Try.func5, Try.ntmps5
  go_wp2_with fail
  rw [show w.alloc (.cells Z 32 (0, 0)) = W from HW.out, Hh.out]
  refine HR.out.mono ?_
  rintro e w1 ⟨rfl, t1, o1⟩
  have T1 := Lib.hid t1
  have O1 := Lib.hid o1
  clear t1 o1 hZ
  go_wp2_with fail
  refine (HG.out _ T1.out).mono ?_
  rintro e w2 ⟨rfl, t2, o2⟩
  have T2 := Lib.hid t2
  have O2 := Lib.hid (O1.out.trans o2 fun _ h => Or.inl h)
  clear t2 o2
  go_wp2_with fail
  refine (HF.out _ T2.out).mono ?_
  rintro e w3 ⟨rfl, b3⟩
  have T3 := Lib.hid (T2.out.below b3)
  have O3 := Lib.hid (O2.out.trans (Only.of_below (S := (· = h)) b3) fun _ h => Or.inl h)
  clear b3
  go_wp2_with fail
  refine (HV.out _ T3.out).mono ?_
  rintro e w4 ⟨A, c, rfl, t4, o4⟩
  have T4 := Lib.hid t4
  have O4 := Lib.hid (O3.out.trans o4 fun _ h => Or.inl h)
  clear t4 o4
  go_wp2_with fail
  refine (HF2.out _ T4.out).mono ?_
  rintro e w5 ⟨rfl, b5⟩
  have O5 := Lib.hid (HB.out _ (O4.out.trans (Only.of_below (S := (· = h)) b5) fun _ h => Or.inl h))
  clear b5
  go_wp2
  go_ret
  exact ⟨rfl, O5.out⟩
end Go.Proofs.Ythblldojbgeknaa
