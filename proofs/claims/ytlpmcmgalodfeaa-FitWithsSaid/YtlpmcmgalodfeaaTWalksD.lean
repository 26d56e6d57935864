/-
  Contracts of slices.Min and of Points of package tasks.
-/
import Derived.Test.YtlpmcmgalodfeaaTWalksB
import Derived.Test.YtlpmcmgalodfeaaTMathB
import Derived.OwnWalk
import Derived.Laws.MakeOwn
import Derived.Test.YtlpmcmgalodfeaaInts
import Derived.WalkLawsBesides
import Derived.RegionTactic
namespace Go.Proofs.Ytlpmcmgalodfeaa
open Go.ChangeShapes Go.WideShapes Go.ChangeAt Go.RowKit

/-- The least of the first k + 1 numbers. -/
def minTo (f : Nat → Int) : Nat → Int
  | 0 => f 0
  | k + 1 => min (minTo f k) (f (k + 1))
theorem leastTo_min (l : List (Int × Int × Int)) (m : Int) (k : Nat) : minTo (fun i => Tk.nxt (l.getD i (0, 0, 0)).2.1 (l.getD i (0, 0, 0)).2.2 m) k = Tk.leastTo l m k := by
  induction k with
  | zero => rfl
  | succ k ih => rw [minTo, Tk.leastTo, ih]

set_option maxHeartbeats 400000 in
theorem min_any (f : Nat → Int) (b n m c : Nat) (w : World) (hn : n = m + 1) (hn2 : n ≤ 9223372036854775807) (hc : ∀ i, i < n → w.cell? ⟨b, i, none⟩ = some (.int .i64 (f i))) :
    Calls Try.prog 37 #[.slice (some ⟨b, 0, none⟩) n c] w fun e w' => e = .returned (.int .i64 (minTo f m)) ∧ w = w' := by
  have HC := Lib.hid hc
  have c0 := hc 0 (by omega)
  have Hf : Hid (f 0 = minTo f 0) := (rfl : f 0 = minTo f 0)
  obtain ⟨x0, hx0⟩ : ∃ x, f 0 = x := ⟨_, rfl⟩
  rw [hx0] at c0 Hf
  clear hc hx0
  have h0 : (0 : Int) < n := by omega
  have h1 : (1 : Int) ≤ n := by omega
  go_enter Try.func37, Try.ntmps37
  go_wp2_with fail
  go_loop [3, 4] (fun x i => ∃ (k : Nat) (y : Int), k < n ∧ i = .int .i64 ((k + 1 : Nat) : Int) ∧ x = .int .i64 y ∧ Hid (y = minTo f k)) (fun _ i => (n - intOf i).toNat)
  case atStart => exact ⟨0, x0, by omega, rfl, rfl, Hf⟩
  case round =>
    obtain ⟨k, y, hk, rfl, rfl, hy⟩ := hrel
    by_cases hlt : k + 1 < n
    · have c1 := HC.out (k + 1) hlt
      have Hs : Hid (minTo f (k + 1) = min (minTo f k) (f (k + 1))) := (rfl : minTo f (k + 1) = min (minTo f k) (f (k + 1)))
      obtain ⟨z, hz⟩ : ∃ z, f (k + 1) = z := ⟨_, rfl⟩
      rw [hz] at c1 Hs
      clear hz
      have hkn : (k : Int) + 1 < n := by omega
      have hk0 : (0 : Int) ≤ k := by omega
      go_wp2
      go_round
      case rel => exact ⟨k + 1, if z < y then z else y, by omega, by go_num, rfl, (by rw [Hs.out, ← hy.out, Int.min_def]; split <;> split <;> omega : (if z < y then z else y) = minTo f (k + 1))⟩
      case measure => simp [intOf]; omega
    · have hkn : Hid (k = m) := (by omega : k = m)
      go_wp2
      go_ret
      exact ⟨int_back (by rw [hy.out, hkn.out]), rfl⟩

/-- Each task's next point from m on; the first k tasks' from q + 1 on. -/
def stage (l : List (Int × Int × Int)) (m q : Int) (k i : Nat) : Int := Tk.nxt (l.getD i (0, 0, 0)).2.1 (l.getD i (0, 0, 0)).2.2 (if i < k then q + 1 else m)
theorem stage_zero (l : List (Int × Int × Int)) (m q : Int) : stage l m q 0 = fun i => Tk.nxt (l.getD i (0, 0, 0)).2.1 (l.getD i (0, 0, 0)).2.2 m := by
  funext i
  simp [stage]
theorem stage_end (l : List (Int × Int × Int)) (m q : Int) (n : Nat) : nrow (stage l m q n) n = nrow (fun i => Tk.nxt (l.getD i (0, 0, 0)).2.1 (l.getD i (0, 0, 0)).2.2 (q + 1)) n := nrow_same fun i hi => by simp [stage, hi]
theorem stage_at {l : List (Int × Int × Int)} {m q c p d : Int} {k : Nat} (ht : l.getD k (0, 0, 0) = (c, p, d)) : stage l m q k k = Tk.nxt p d m := by rw [stage, ht, if_neg (Nat.lt_irrefl k)]
theorem stage_next {l : List (Int × Int × Int)} {m q c p d : Int} {k : Nat} (ht : l.getD k (0, 0, 0) = (c, p, d)) : stage l m q (k + 1) k = Tk.nxt p d (q + 1) := by rw [stage, ht, if_pos (Nat.lt_succ_self k)]
theorem stage_else {l : List (Int × Int × Int)} {m q : Int} {k i : Nat} (h : i ≠ k) : stage l m q k i = stage l m q (k + 1) i := by
  have : i < k ↔ i < k + 1 := by omega
  simp [stage, this]

/-- The answer: nothing of what may not be. -/
def ptsAns (l : List (Int × Int × Int)) (t : Int) : List Int := if Tk.spans l t = true then Tk.pts l t else []
theorem ptsAns_no {l : List (Int × Int × Int)} {t : Int} (h : Tk.spans l t = false) : ptsAns l t = [] := by simp [ptsAns, h]
theorem ptsAns_nil (t : Int) : ptsAns [] t = [] := by
  unfold ptsAns
  split
  · simp [Tk.pts, Tk.isPt]
  · rfl
end Go.Proofs.Ytlpmcmgalodfeaa
