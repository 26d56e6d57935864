/-
  Contracts: within, isSlot, may, to, there, at, Get, Has, Right, the law's to.
-/
import Derived.Test.YthblldojbgeknaaCMem
import Derived.Test.YthblldojbgeknaaKit
import Derived.Deep.RegionHeld3
import Derived.Sort.Grow
namespace Go.Proofs.Ythblldojbgeknaa
open Go.ChangeShapes Go.WideShapes Go.ChangeAt Go.RowKit
open Go.Sort

theorem grow_alloc (w : World) (A : Obj) : w.alloc A = grow (w.drewN 0) #[A] := alloc_eq_grow _ _
theorem below_grow {w w' : World} (h : ∃ q os', w' = grow (w.drewN q) os') : Below w.heap.size w w' := by
  obtain ⟨q, os, rfl⟩ := h
  exact ⟨rfl, rfl, rfl, by simp [grow], fun k hk => heap_grow_old _ _ (by simpa using hk)⟩
theorem within_any (n m : Int) (w : World) : Calls Try.prog 21 #[.int .i64 n, .int .i64 m] w fun e w' => e = .returned (.bool (decide (0 ≤ n) && decide (n ≤ m))) ∧ w = w' := by
  by_cases h0 : (0 : Int) ≤ n
  · have e1 : (decide (0 ≤ n) && decide (n ≤ m)) = decide (n ≤ m) := by simp [h0]
    rw [e1]
    go_enter Try.func21, Try.ntmps21
    go_wp2
    go_ret
    exact ⟨rfl, rfl⟩
  · have e1 : (decide (0 ≤ n) && decide (n ≤ m)) = false := by simp [h0]
    rw [e1]
    go_enter Try.func21, Try.ntmps21
    go_wp2
    go_ret
    exact ⟨rfl, rfl⟩
theorem slot_any (e s : Int) (w : World) : Calls Try.prog 46 #[.int .i64 e, .int .i64 s] w fun r w' => r = .returned (.bool (inS e s)) ∧ w = w' := by
  have HA : ∀ w, _ := within_any e 7
  have HB : ∀ w, _ := within_any s 15
  unfold inS
  generalize (decide (0 ≤ e) && decide (e ≤ 7)) = a at *
  generalize (decide (0 ≤ s) && decide (s ≤ 15)) = b at *
  cases a with
  | false =>
    go_enter Try.func46, Try.ntmps46
    go_wp2_with fail
    refine (HA _).mono ?_
    rintro r w' ⟨rfl, rfl⟩
    go_wp2
    go_ret
    exact ⟨rfl, rfl⟩
  | true =>
    go_enter Try.func46, Try.ntmps46
    go_wp2_with fail
    refine (HA _).mono ?_
    rintro r w' ⟨rfl, rfl⟩
    go_wp2_with fail
    refine (HB _).mono ?_
    rintro r w' ⟨rfl, rfl⟩
    go_wp2
    go_ret
    exact ⟨rfl, rfl⟩
theorem may_any (k o r R : Int) (w : World) : Calls Try.prog 33 #[.agg #[.int .i64 k, .int .i64 o, .int .i64 r], .int .i64 R] w fun e w' => e = .returned (.bool (mayB r R)) ∧ Below w.heap.size w w' := by
  have hbl : ∀ o, Below w.heap.size w (w.alloc o) := fun o => (Below.refl _ _).alloc (Nat.le_refl _) o
  have HM : Hid (decide (bits .and .i64 r R = R) = mayB r R) := Lib.hid rfl
  go_enter Try.func33, Try.ntmps33
  go_wp2
  go_ret
  exact ⟨bool_back HM.out, hbl _⟩
theorem to_any (k o r K O : Int) (w : World) : Calls Try.prog 32 #[.agg #[.int .i64 k, .int .i64 o, .int .i64 r], .int .i64 K, .int .i64 O] w fun e w' => e = .returned (.bool (decide (k = K) && decide (o = O))) ∧ Below w.heap.size w w' := by
  have hbl : ∀ o, Below w.heap.size w (w.alloc o) := fun o => (Below.refl _ _).alloc (Nat.le_refl _) o
  by_cases h0 : k = K
  · have e1 : (decide (k = K) && decide (o = O)) = decide (o = O) := by simp [h0]
    rw [e1]
    subst h0
    go_enter Try.func32, Try.ntmps32
    go_wp2
    go_ret
    exact ⟨rfl, hbl _⟩
  · have e1 : (decide (k = K) && decide (o = O)) = false := by simp [h0]
    rw [e1]
    go_enter Try.func32, Try.ntmps32
    go_wp2
    go_ret
    exact ⟨rfl, hbl _⟩
theorem there_any (k o r t u : Int) (w : World) : Calls Try.prog 37 #[.agg #[.int .i64 k, .int .i64 o, .int .i64 r, .int .i64 t, .int .i64 u]] w fun e w' => e = .returned (.bool (decide (0 < t))) ∧ Below w.heap.size w w' := by
  have hbl : ∀ o, Below w.heap.size w (w.alloc o) := fun o => (Below.refl _ _).alloc (Nat.le_refl _) o
  go_enter Try.func37, Try.ntmps37
  go_wp2
  go_ret
  exact ⟨rfl, hbl _⟩
theorem lto_any (k o r : Int) (w : World) : Calls Try.prog 6 #[.agg #[.int .i64 k, .int .i64 o, .int .i64 r]] w fun e w' => e = .returned (.agg #[.int .i64 k, .int .i64 o, .int .i64 r]) ∧ Below w.heap.size w w' := by
  go_enter Try.func6, Try.ntmps6
  go_wp2
  refine bodyPost_ret (v := .agg #[.int .i64 k, .int .i64 o, .int .i64 r]) (by simp [results, Try.results6, go_sem]) rfl ?_
  refine ⟨rfl, ?_⟩
  repeat' (first | exact Below.refl _ _ | (refine Below.setCell ?_ ?_ _) | (refine Below.alloc ?_ ?_ _))
  all_goals simp
section
variable {w : World} {b : Nat} {F : Fo}
theorem at_any (H : FoIs w b F) (e s : Int) : Calls Try.prog 36 #[.pointer (some ⟨b, 0, none⟩), .int .i64 e, .int .i64 s] w fun r w' => r = .returned (.agg (hcells (fd F.l e s)).toArray) ∧ ∃ q os', w' = grow (w.drewN q) os' := by
  have HS := Lib.hid (slot_any e s)
  cases hs : inS e s with
  | false =>
    rw [H.wf.fd_out hs]
    rw [hs] at HS
    simp only [hcells, hk, ho, hr, hi, hu]
    clear hs H
    go_enter Try.func36, Try.ntmps36
    go_wp2_with (go_at_call 46; refine (HS.out _).mono ?_; rintro r w' ⟨rfl, rfl⟩)
    refine bodyPost_ret (v := .agg #[.int .i64 0, .int .i64 0, .int .i64 0, .int .i64 0, .int .i64 0]) (by simp [results, Try.results36, go_sem]) rfl ?_
    exact ⟨rfl, 0, _, grow_alloc _ _⟩
  | true =>
    obtain ⟨⟨h0, h1⟩, h2, h3⟩ := inS_iff.1 hs
    obtain ⟨a, rfl⟩ : ∃ a : Nat, e = a := ⟨e.toNat, by omega⟩
    obtain ⟨c, rfl⟩ : ∃ c : Nat, s = c := ⟨s.toNat, by omega⟩
    rw [hs] at HS
    obtain ⟨c0, c1, c2, c3, c4⟩ := H.at_ (e := a) (s := c) (by omega) (by omega)
    have hlt := H.lt
    simp only [hcells]
    have h4 : (a : Int) < 8 := by omega
    have h5 : (c : Int) < 16 := by omega
    clear h1 h3
    generalize hk (fd F.l a c) = xk at *
    generalize ho (fd F.l a c) = xo at *
    generalize hr (fd F.l a c) = xr at *
    generalize hi (fd F.l a c) = xi at *
    generalize hu (fd F.l a c) = xu at *
    clear hs H
    go_enter Try.func36, Try.ntmps36
    go_wp2_with (go_at_call 46; refine (HS.out _).mono ?_; rintro r w' ⟨rfl, rfl⟩)
    refine bodyPost_ret (v := .agg #[.int .i64 xk, .int .i64 xo, .int .i64 xr, .int .i64 xi, .int .i64 xu]) (by simp [results, Try.results36, go_sem]) rfl ?_
    exact ⟨rfl, 0, _, grow_alloc _ _⟩
end
end Go.Proofs.Ythblldojbgeknaa
