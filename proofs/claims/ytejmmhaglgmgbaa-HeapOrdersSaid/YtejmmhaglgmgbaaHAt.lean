/-
  A heap as a list of things, whatever their order; Push and Pop of it; calls on no heap, and on one that nobody made.
-/
import Derived.Test.YtejmmhaglgmgbaaHWalksH
namespace Go.Proofs.Ytejmmhaglgmgbaa
open Go.ChangeShapes Go.WideShapes Go.ChangeAt Go.RowKit Hp

/-- Block h is a heap of these things; it lies in none of the blocks F. -/
def AtHeap (w : World) (B h m : Nat) (L : List Th) (k t : Nat) (F : Nat → Prop) : Prop := ∃ v xs, HeapIs w B h m v xs k t ∧ xs.Perm L ∧ ∀ i, F i → ¬ Mine h m v xs i

section
variable {w w' : World} {B h m k t : Nat} {L : List Th} {F : Nat → Prop}
theorem AtHeap.below (H : AtHeap w B h m L k t F) (hb : Below w.heap.size w w') : AtHeap w' B h m L k t F := by
  obtain ⟨v, xs, h1, h2, h3⟩ := H
  exact ⟨v, xs, h1.below hb, h2, h3⟩
theorem AtHeap.more (H : AtHeap w B h m L k t F) {G : Nat → Prop} (hG : ∀ i, G i → F i ∨ w.heap.size ≤ i) : AtHeap w B h m L k t G := by
  obtain ⟨v, xs, h1, h2, h3⟩ := H
  refine ⟨v, xs, h1, h2, fun i hi hm => ?_⟩
  rcases hG i hi with h4 | h4
  · exact h3 i h4 hm
  · have := (h1.mine_lt hm).2
    omega
theorem AtHeap.put (H : AtHeap w B h m L k t F) {q o : Nat} (u : Value) (hq : F q) : AtHeap (w.setCell ⟨q, o, none⟩ u) B h m L k t F := by
  obtain ⟨v, xs, h1, h2, h3⟩ := H
  refine ⟨v, xs, h1.kept fun i hi => Below.heap_setCell _ _ _ _ (fun e => h3 q hq (by simp only at e; rw [← e]; exact hi)), h2, h3⟩
theorem AtHeap.size (H : AtHeap w B h m L k t F) : h < w.heap.size := by
  obtain ⟨v, xs, h1, _, _⟩ := H
  exact lt_of_block h1.obj
theorem AtHeap.perm (H : AtHeap w B h m L k t F) {R : List Th} (hp : L.Perm R) : AtHeap w B h m R k t F := by
  obtain ⟨v, xs, h1, h2, h3⟩ := H
  exact ⟨v, xs, h1, h2.trans hp, h3⟩
end

/-- One thing more. -/
def More (B h m : Nat) (L : List Th) (k t : Nat) (key what : Int) (F : Nat → Prop) (w : World) (e : Ending) (w' : World) : Prop :=
  e = .returned (.int .i64 ((k : Int) + 1)) ∧ (∃ b, AtHeap w' B h m (⟨b, key, what, (k : Int) + 1, (t : Int) + 1⟩ :: L) (k + 1) (t + 1) F) ∧ Below B w w' ∧ ∀ i, F i → w'.heap[i]? = w.heap[i]?

theorem push_at {w : World} {B h m k t : Nat} {L : List Th} {F : Nat → Prop} (key what : Int) (H : AtHeap w B h m L k t F) (hk : k ≤ 900000) (ht : t ≤ 900000) (hlen : L.length ≤ 900000) (hB : B ≤ w.heap.size) (hF : ∀ i, F i → i < w.heap.size) :
    Calls Try.prog 6 #[.pointer (some ⟨h, 0, none⟩), .agg #[.int .i64 key, .int .i64 what]] w (More B h m L k t key what F w) := by
  obtain ⟨v, xs, h1, h2, h3⟩ := H
  refine (push_any key what h1 hk ht (by rw [h2.length_eq]; exact hlen) hB).mono ?_
  rintro e w' ⟨rfl, v', ys, b, h4, h5, h6, h7⟩
  refine ⟨rfl, ⟨b, v', ys, h4, h5.trans (h2.cons _), fun i hi hm => ?_⟩, h6.below hB (fun i hi => (h1.mine_lt hi).1), fun i hi => h6.block i (hF i hi) (h3 i hi)⟩
  rcases h7 i hm with h8 | h8
  · exact h3 i hi h8
  · have := hF i hi
    omega

/-- The thing that is ahead of all others is told, and is there no more. -/
def Less1 (B h m : Nat) (L : List Th) (k t : Nat) (F : Nat → Prop) (w : World) (e : Ending) (w' : World) : Prop :=
  ∃ x R, e = .returned (.tuple #[.agg #[.int .i64 x.key, .int .i64 x.what], .bool true]) ∧ L.Perm (x :: R) ∧ (∀ y, y ∈ R → lead y x = false) ∧ AtHeap w' B h m R k t F ∧ Below B w w' ∧ ∀ i, F i → w'.heap[i]? = w.heap[i]?

theorem pop_at {w : World} {B h m k t : Nat} {L : List Th} {F : Nat → Prop} (H : AtHeap w B h m L k t F) (hk : k ≤ 900000) (hlen : L.length ≤ 900000) (hne : 0 < L.length) (hB : B ≤ w.heap.size) (hF : ∀ i, F i → i < w.heap.size) :
    Calls Try.prog 7 #[.pointer (some ⟨h, 0, none⟩)] w (Less1 B h m L k t F w) := by
  obtain ⟨v, xs, h1, h2, h3⟩ := H
  refine (pop_any h1 hk (by rw [h2.length_eq]; exact hlen) (by rw [h2.length_eq]; exact hne)).mono ?_
  rintro e w' ⟨rfl, v', ys, h4, h5, h6, h7⟩
  refine ⟨at_ xs 0, ys, rfl, h2.symm.trans h5.symm, fun y hy => heap_least h1.order (h5.mem_iff.1 (List.mem_cons_of_mem _ hy)), ⟨v', ys, h4, List.Perm.refl _, fun i hi hm => h3 i hi (h7 i hm)⟩, h6.below hB (fun i hi => (h1.mine_lt hi).1), fun i hi => h6.block i (hF i hi) (h3 i hi)⟩

/-- .. a thing that is known to be ahead. -/
def LessOf (B h m : Nat) (x : Th) (R : List Th) (k t : Nat) (F : Nat → Prop) (w : World) (e : Ending) (w' : World) : Prop :=
  e = .returned (.tuple #[.agg #[.int .i64 x.key, .int .i64 x.what], .bool true]) ∧ AtHeap w' B h m R k t F ∧ Below B w w' ∧ ∀ i, F i → w'.heap[i]? = w.heap[i]?
theorem pop_of {w : World} {B h m k t : Nat} {L R : List Th} {x : Th} {F : Nat → Prop} (H : AtHeap w B h m L k t F) (hL : L.Perm (x :: R)) (hx : ∀ y, y ∈ R → lead x y = true) (hk : k ≤ 900000) (hlen : L.length ≤ 900000) (hB : B ≤ w.heap.size) (hF : ∀ i, F i → i < w.heap.size) :
    Calls Try.prog 7 #[.pointer (some ⟨h, 0, none⟩)] w (LessOf B h m x R k t F w) := by
  refine (pop_at H hk hlen (by rw [hL.length_eq]; simp) hB hF).mono ?_
  rintro e w' ⟨y, S, rfl, h2, h3, h4, h5, h6⟩
  have h7 := hL.symm.trans h2
  have hxy : y = x := by
    rcases List.mem_cons.1 (h7.mem_iff.2 List.mem_cons_self) with h8 | h8
    · exact h8
    · rcases List.mem_cons.1 (h7.mem_iff.1 List.mem_cons_self) with h9 | h9
      · exact h9.symm
      · have := h3 x h9
        rw [hx y h8] at this
        cases this
  subst hxy
  exact ⟨rfl, h4.perm (List.Perm.cons_inv h7.symm), h5, h6⟩

theorem len_at {w : World} {B h m k t : Nat} {L : List Th} {F : Nat → Prop} (H : AtHeap w B h m L k t F) : Calls Try.prog 10 #[.pointer (some ⟨h, 0, none⟩)] w fun e w' => e = .returned (.int .i64 L.length) ∧ w = w' := by
  obtain ⟨v, xs, h1, h2, h3⟩ := H
  rw [← h2.length_eq]
  exact hlen_any h1

/-- New, in blocks from B on. -/
def NewAt (B : Nat) (w : World) (e : Ending) (w' : World) : Prop := ∃ h m, e = .returned (.pointer (some ⟨h, 0, none⟩)) ∧ AtHeap w' B h m [] 0 0 (fun i => i < w.heap.size) ∧ Below w.heap.size w w' ∧ w.heap.size < w'.heap.size
theorem new_at (w : World) (B : Nat) (hB : B ≤ w.heap.size) : Calls Try.prog 5 #[] w (NewAt B w) := by
  refine (new_any w).mono ?_
  rintro e w' ⟨rfl, rfl⟩
  refine ⟨_, _, rfl, ⟨_, _, made_heap w B hB, List.Perm.refl _, fun i hi hm => ?_⟩, ((Below.refl _ _).alloc (Nat.le_refl _) _).alloc (by simp) _, by simp; omega⟩
  rcases hm with h1 | h1 | h1 | ⟨x, hx, _⟩
  · omega
  · omega
  · simp [Value.ownBlock] at h1
  · simp at hx

/-! Calls on no heap, and on one that nobody made. -/
theorem push_none (a b : Int) (w : World) : Calls Try.prog 6 #[.pointer none, .agg #[.int .i64 a, .int .i64 b]] w fun e w' => e = .returned (.int .i64 0) ∧ Below w.heap.size w w' := by
  go_enter Try.func6, Try.ntmps6
  go_wp2
  go_ret
  exact ⟨rfl, (Below.refl _ _).alloc (Nat.le_refl _) _⟩
theorem push_zero (h : Nat) (a b : Int) (w : World) (hlt : h < w.heap.size) (hc : w.cell? ⟨h, 1, none⟩ = some (.map none)) : Calls Try.prog 6 #[.pointer (some ⟨h, 0, none⟩), .agg #[.int .i64 a, .int .i64 b]] w fun e w' => e = .returned (.int .i64 0) ∧ Below w.heap.size w w' := by
  have qm : ∀ w : World, (binOp .eql 35 (.map none) (.map none)).run Try.prog w = .ok (.bool true) w := fun w => by kernel_rfl
  have hne := Nat.ne_of_gt hlt
  have hle := Nat.le_of_lt hlt
  go_enter Try.func6, Try.ntmps6
  go_wp2
  go_ret
  exact ⟨rfl, (Below.refl _ _).alloc (Nat.le_refl _) _⟩
theorem get_zero (h : Nat) (w : World) (hlt : h < w.heap.size) (hc : w.cell? ⟨h, 1, none⟩ = some (.map none)) : Calls Try.prog 9 #[.pointer (some ⟨h, 0, none⟩), .int .i64 1] w (Told 0 0 (.bool false) w) := by
  have hne := Nat.ne_of_gt hlt
  have hle := Nat.le_of_lt hlt
  have HF : Hid (∀ o : Obj, Calls Try.prog 15 #[.pointer (some ⟨h, 0, none⟩), .int .i64 1] (w.alloc o) fun e w' => e = .returned (.pointer none) ∧ w.alloc o = w') := fun o => find_zero h _ (((Below.refl _ _).alloc (Nat.le_refl _) o : Below w.heap.size w (w.alloc o)).cell (p := ⟨h, 1, none⟩) hlt ▸ hc)
  go_enter Try.func9, Try.ntmps9
  go_wp2_with (go_at_call 15; refine (HF.out _).mono ?_; rintro e w' ⟨rfl, rfl⟩)
  exact bodyPost_ret (v := .tuple #[.agg #[.int .i64 0, .int .i64 0], .bool false]) (by simp [results, Try.results9, go_sem]) rfl ⟨rfl, (Below.refl _ _).alloc (Nat.le_refl _) _⟩
end Go.Proofs.Ytejmmhaglgmgbaa
