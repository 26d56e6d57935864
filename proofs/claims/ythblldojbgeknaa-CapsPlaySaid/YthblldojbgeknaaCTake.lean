/-
  Contracts: what Revoke, Drop and Purge ask for (closures), and take with each of them (typed by tools/gen_ctake.py).
-/
import Derived.Test.YthblldojbgeknaaCTk
namespace Go.Proofs.Ythblldojbgeknaa
open Go.ChangeShapes Go.WideShapes Go.ChangeAt Go.RowKit
open Go.Shelf Go.Sort

theorem askR_any {Z : Nat} {t : Int} (k o r i u : Int) (w : World) (hZ : w.cell? ⟨Z, 3, none⟩ = some (.int .i64 t)) (lZ : Z < w.heap.size) : Calls Try.prog 39 #[.agg #[.int .i64 k, .int .i64 o, .int .i64 r, .int .i64 i, .int .i64 u], .pointer (some ⟨Z, 0, none⟩)] w fun e w' => e = .returned (.bool (decide (u = t))) ∧ Below w.heap.size w w' := by
  have hbl : ∀ o, Below w.heap.size w (w.alloc o) := fun o => (Below.refl _ _).alloc (Nat.le_refl _) o
  have nZ : Z ≠ w.heap.size := by omega
  go_enter Try.func39, Try.ntmps39
  go_wp2
  go_ret
  exact ⟨rfl, hbl _⟩
theorem askD_any {Z : Nat} {t : Int} (k o r i u : Int) (w : World) (hZ : w.cell? ⟨Z, 3, none⟩ = some (.int .i64 t)) (lZ : Z < w.heap.size) : Calls Try.prog 42 #[.agg #[.int .i64 k, .int .i64 o, .int .i64 r, .int .i64 i, .int .i64 u], .pointer (some ⟨Z, 0, none⟩)] w fun e w' => e = .returned (.bool (decide (i = t))) ∧ Below w.heap.size w w' := by
  have hbl : ∀ o, Below w.heap.size w (w.alloc o) := fun o => (Below.refl _ _).alloc (Nat.le_refl _) o
  have nZ : Z ≠ w.heap.size := by omega
  go_enter Try.func42, Try.ntmps42
  go_wp2
  go_ret
  exact ⟨rfl, hbl _⟩
theorem askP_any {Z Z' : Nat} {K O : Int} (k o r i u : Int) (w : World) (hZ : w.cell? ⟨Z, 0, none⟩ = some (.int .i64 K)) (lZ : Z < w.heap.size) (hZ' : w.cell? ⟨Z', 0, none⟩ = some (.int .i64 O)) (lZ' : Z' < w.heap.size) : Calls Try.prog 43 #[.agg #[.int .i64 k, .int .i64 o, .int .i64 r, .int .i64 i, .int .i64 u], .pointer (some ⟨Z, 0, none⟩), .pointer (some ⟨Z', 0, none⟩)] w fun e w' => e = .returned (.bool (decide (k = K) && decide (o = O))) ∧ Below w.heap.size w w' := by
  have nZ : Z ≠ w.heap.size := by omega
  have nZ' : Z' ≠ w.heap.size := by omega
  have HT : Hid (∀ w, _) := Lib.hid fun w => to_any k o r K O w
  have HB : Hid (∀ (X : Obj) (w2 : World), Below (w.alloc X).heap.size (w.alloc X) w2 → Below w.heap.size w w2) := Lib.hid fun X w2 h => (below_new (Nat.le_refl _) (Below.refl _ w) X).trans (h.mono (below_new (Nat.le_refl _) (Below.refl _ w) X).size)
  generalize (decide (k = K) && decide (o = O)) = q at *
  go_enter Try.func43, Try.ntmps43
  go_wp2_with (go_at_call 32; refine (HT.out _).mono ?_; rintro e w2 ⟨rfl, hb⟩; have HB2 := Lib.hid (HB.out _ w2 hb); clear hb)
  go_ret
  exact ⟨rfl, HB2.out⟩

/-- What went is told; the forest is left without it. -/
def Gone (b : Nat) (F : Fo) (q : Nd → Bool) (w : World) (e : Ending) (w' : World) : Prop := ∃ A n c, e = .returned (.slice A n c) ∧ n = (tkW q F).length ∧ n ≤ 1000000 ∧ w'.ownsRow w.heap.size 74 5 (.slice A n c) n (scells (tkW q F)) ∧ FoIs w' b (tkF q F) ∧ Only (· = b) w w'
theorem fin_take {q : Nd → Bool} {L K W R : List Nd} {x : Nd} {T : List Nat} (h : takeGo q [] L = (K ++ (takeGo q T (x :: R)).1, W ++ (takeGo q T (x :: R)).2)) (hc : (q x || T.contains x.up) = true) : takeGo q [] L = (K ++ (takeGo q (T ++ [x.id]) R).1, (W ++ [x]) ++ (takeGo q (T ++ [x.id]) R).2) := by
  rw [h, takeGo, if_pos hc]
  simp
theorem fin_keep {q : Nd → Bool} {L K W R : List Nd} {x : Nd} {T : List Nat} (h : takeGo q [] L = (K ++ (takeGo q T (x :: R)).1, W ++ (takeGo q T (x :: R)).2)) (hc : (q x || T.contains x.up) = false) : takeGo q [] L = ((K ++ [x]) ++ (takeGo q T R).1, W ++ (takeGo q T R).2) := by
  rw [h, takeGo, if_neg (by rw [hc]; simp)]
  simp
end Go.Proofs.Ythblldojbgeknaa
