/-
  A new buffer; the statement's awake.
-/
import Derived.Test.YtbidioonojnagaaBWalksF
namespace Go.Proofs.Ytbidioonojnagaa
open Go.ChangeShapes Go.WideShapes Go.ChangeAt Go.RowKit

/-- The cells of a new one. -/
def ncells : Array Value := (tcells (List.replicate 16 noEn) 0 0 0).toArray
theorem zero_tlb : ∀ w : World, (zeroValue 31).run Try.prog w = .ok (.agg ncells) w := fun w => by kernel_rfl
theorem new_is (w : World) : TbIs (w.alloc (.cells ncells 31 (0, 0))) w.heap.size [] 0 0 := by
  refine ⟨⟨List.replicate 16 noEn, ?_, by simp⟩⟩
  have := heap_alloc_new w (.cells ncells 31 (0, 0))
  exact this
set_option maxHeartbeats 1000000 in
theorem awake_any (w : World) : Calls Try.prog 4 #[] w fun e w' => e = .returned (.bool true) ∧ Below w.heap.size w w' := by
  obtain ⟨W, hW⟩ : ∃ W, w.alloc (.cells ncells 31 (0, 0)) = W := ⟨_, rfl⟩
  obtain ⟨h, hh⟩ : ∃ h, w.heap.size = h := ⟨_, rfl⟩
  have H0 : TbIs W h [] 0 0 := by
    rw [← hW, ← hh]
    exact new_is w
  have hbW : Below w.heap.size w W := by
    rw [← hW]
    exact (Below.refl _ _).alloc (Nat.le_refl _) _
  have hB : ∀ w', Only (· = h) W w' → Below w.heap.size w w' := fun w' ho => hbW.trans (ho.below hbW.size fun k hk => by subst hk; exact Nat.le_of_eq hh)
  have HB := Lib.hid hB
  have HL := Lib.hid (load_any H0 ⟨1, 5, 3, false⟩)
  have e1 : loadL [] ⟨1, 5, 3, false⟩ = [⟨1, 5, 3, false⟩] := rfl
  have e2 : loadG [] ⟨1, 5, 3, false⟩ = noEn := rfl
  have e3 : loadB [] ⟨1, 5, 3, false⟩ = false := rfl
  have e4 : loadE ⟨1, 5, 3, false⟩ = 0 := rfl
  rw [e1, e2, e3, e4] at HL
  obtain ⟨h1, hh1⟩ : ∃ h1, lookH [⟨1, 5, 3, false⟩] 1 5 false 0 = h1 := ⟨_, rfl⟩
  obtain ⟨m1, hm1⟩ : ∃ m1, lookM [⟨1, 5, 3, false⟩] 1 5 false 0 = m1 := ⟨_, rfl⟩
  have HK : Hid (∀ w2, TbIs w2 h [⟨1, 5, 3, false⟩] 0 0 → Calls Try.prog 8 #[.pointer (some ⟨h, 0, none⟩), .int .i64 1, .int .i64 5, .bool false] w2 (Turned h [⟨1, 5, 3, false⟩] h1 m1 (.tuple #[.int .i64 3, .int .i64 0]) w2)) := Lib.hid fun w2 h2 => by
    rw [← hh1, ← hm1]
    exact look_any h2 1 5 false
  have HK2 : Hid (∀ w2, TbIs w2 h [⟨1, 5, 3, false⟩] h1 m1 → Calls Try.prog 8 #[.pointer (some ⟨h, 0, none⟩), .int .i64 1, .int .i64 5, .bool true] w2 (Turned h [⟨1, 5, 3, false⟩] (lookH [⟨1, 5, 3, false⟩] 1 5 true h1) (lookM [⟨1, 5, 3, false⟩] 1 5 true m1) (.tuple #[.int .i64 0, .int .i64 23]) w2)) := Lib.hid fun w2 h2 => look_any h2 1 5 true
  generalize lookH [⟨1, 5, 3, false⟩] 1 5 true h1 = h2 at *
  generalize lookM [⟨1, 5, 3, false⟩] 1 5 true m1 = m2 at *
  have hZ := zero_tlb
  have HW := Lib.hid hW
  have Hh := Lib.hid hh
  simp only [ecells, noEn] at HL
  generalize ncells = Z at *
  clear hW hh H0 hbW hB e1 e2 e3 e4 hh1 hm1
  go_enter Try.func4, Try.ntmps4
  go_wp2_with fail
  rw [show w.alloc (.cells Z 31 (0, 0)) = W from HW.out, Hh.out]
  refine HL.out.mono ?_
  rintro e w1 ⟨rfl, t1, o1⟩
  have T1 : Hid (TbIs (w1.alloc (.cells #[.int .i64 0, .int .i64 0, .int .i64 0, .bool false] 28 (0, 0))) h [⟨1, 5, 3, false⟩] 0 0) := Lib.hid (t1.below ((Below.refl _ _).alloc (Nat.le_refl _) _))
  have O1 : Hid (Only (· = h) W (w1.alloc (.cells #[.int .i64 0, .int .i64 0, .int .i64 0, .bool false] 28 (0, 0)))) := Lib.hid (o1.new _)
  clear t1 o1 hZ
  go_wp2_with fail
  refine (HK.out _ T1.out).mono ?_
  rintro e w2 ⟨rfl, t2, o2⟩
  have T2 := Lib.hid t2
  have O2 := Lib.hid (O1.out.trans o2 fun _ h => Or.inl h)
  clear t2 o2
  go_wp2_with fail
  refine (HK2.out _ T2.out).mono ?_
  rintro e w3 ⟨rfl, t3, o3⟩
  have O3 := Lib.hid (HB.out _ (O2.out.trans o3 fun _ h => Or.inl h))
  clear t3 o3
  go_wp2
  go_ret
  exact ⟨rfl, O3.out⟩
end Go.Proofs.Ytbidioonojnagaa
