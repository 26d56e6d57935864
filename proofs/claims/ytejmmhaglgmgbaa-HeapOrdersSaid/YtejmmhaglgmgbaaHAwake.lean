/-
  The chapter's example, walked.
-/
import Derived.Test.YtejmmhaglgmgbaaHAt
namespace Go.Proofs.Ytejmmhaglgmgbaa
open Go.ChangeShapes Go.WideShapes Go.ChangeAt Go.RowKit Hp

def noF : Nat → Prop := fun _ => False
theorem no_lt {w : World} : ∀ i, noF i → i < w.heap.size := fun _ h => h.elim
def three (b1 b2 b3 : Nat) : List Th := [⟨b3, 5, 2, 3, 3⟩, ⟨b2, 3, 0, 2, 2⟩, ⟨b1, 5, 1, 1, 1⟩]
def two (b1 b3 : Nat) : List Th := [⟨b3, 5, 2, 3, 3⟩, ⟨b1, 5, 1, 1, 1⟩]

/-- A heap that is being filled. -/
def Step (B h m : Nat) (n : Nat) (L : List Nat → List Th) (w0 : World) (w : World) : Prop := ∃ bs : List Nat, AtHeap w B h m (L bs) n n noF ∧ Below B w0 w ∧ B ≤ w.heap.size

/-- The first of the three; the second one. -/
theorem pop_first {w : World} {B h m b1 b2 b3 : Nat} {F : Nat → Prop} (H : AtHeap w B h m (three b1 b2 b3) 3 3 F) (hB : B ≤ w.heap.size) (hF : ∀ i, F i → i < w.heap.size) :
    Calls Try.prog 7 #[.pointer (some ⟨h, 0, none⟩)] w fun e w' => e = .returned (.tuple #[.agg #[.int .i64 3, .int .i64 0], .bool true]) ∧ AtHeap w' B h m (two b1 b3) 3 3 F ∧ Below B w w' ∧ ∀ i, F i → w'.heap[i]? = w.heap[i]? :=
  pop_of (x := ⟨b2, 3, 0, 2, 2⟩) H (List.Perm.swap _ _ _) (fun y hy => by
    rcases List.mem_cons.1 hy with rfl | hy
    · rfl
    · rcases List.mem_cons.1 hy with rfl | hy
      · rfl
      · cases hy) (by decide) (by simp [three]) hB hF
theorem pop_second {w : World} {B h m b1 b3 : Nat} {F : Nat → Prop} (H : AtHeap w B h m (two b1 b3) 3 3 F) (hB : B ≤ w.heap.size) (hF : ∀ i, F i → i < w.heap.size) :
    Calls Try.prog 7 #[.pointer (some ⟨h, 0, none⟩)] w fun e w' => e = .returned (.tuple #[.agg #[.int .i64 5, .int .i64 1], .bool true]) ∧ AtHeap w' B h m [⟨b3, 5, 2, 3, 3⟩] 3 3 F ∧ Below B w w' ∧ ∀ i, F i → w'.heap[i]? = w.heap[i]? :=
  pop_of (x := ⟨b1, 5, 1, 1, 1⟩) H (List.Perm.swap _ _ _) (fun y hy => by
    rcases List.mem_cons.1 hy with rfl | hy
    · rfl
    · cases hy) (by decide) (by simp [two]) hB hF

theorem push_one {w : World} {B h m : Nat} (H : AtHeap w B h m [] 0 0 noF) (hB : B ≤ w.heap.size) :
    Calls Try.prog 6 #[.pointer (some ⟨h, 0, none⟩), .agg #[.int .i64 5, .int .i64 1]] w fun e w' => e = .returned (.int .i64 1) ∧ (∃ b, AtHeap w' B h m [⟨b, 5, 1, 1, 1⟩] 1 1 noF) ∧ Below B w w' ∧ B ≤ w'.heap.size :=
  (push_at 5 1 H (by decide) (by decide) (by simp) hB no_lt).mono fun _ _ ⟨h1, h2, h3, _⟩ => ⟨h1, h2, h3, Nat.le_trans hB h3.size⟩
theorem push_two {w : World} {B h m b1 : Nat} (H : AtHeap w B h m [⟨b1, 5, 1, 1, 1⟩] 1 1 noF) (hB : B ≤ w.heap.size) :
    Calls Try.prog 6 #[.pointer (some ⟨h, 0, none⟩), .agg #[.int .i64 3, .int .i64 0]] w fun e w' => e = .returned (.int .i64 2) ∧ (∃ b, AtHeap w' B h m [⟨b, 3, 0, 2, 2⟩, ⟨b1, 5, 1, 1, 1⟩] 2 2 noF) ∧ Below B w w' ∧ B ≤ w'.heap.size :=
  (push_at 3 0 H (by decide) (by decide) (by simp) hB no_lt).mono fun _ _ ⟨h1, h2, h3, _⟩ => ⟨h1, h2, h3, Nat.le_trans hB h3.size⟩
theorem push_three {w : World} {B h m b1 b2 : Nat} (H : AtHeap w B h m [⟨b2, 3, 0, 2, 2⟩, ⟨b1, 5, 1, 1, 1⟩] 2 2 noF) (hB : B ≤ w.heap.size) :
    Calls Try.prog 6 #[.pointer (some ⟨h, 0, none⟩), .agg #[.int .i64 5, .int .i64 2]] w fun e w' => e = .returned (.int .i64 3) ∧ (∃ b, AtHeap w' B h m (three b1 b2 b) 3 3 noF) ∧ Below B w w' ∧ B ≤ w'.heap.size :=
  (push_at 5 2 H (by decide) (by decide) (by simp) hB no_lt).mono fun _ _ ⟨h1, h2, h3, _⟩ => ⟨h1, h2, h3, Nat.le_trans hB h3.size⟩
theorem new_one (w : World) : Calls Try.prog 5 #[] w fun e w' => ∃ h m, e = .returned (.pointer (some ⟨h, 0, none⟩)) ∧ AtHeap w' w.heap.size h m [] 0 0 noF ∧ Below w.heap.size w w' ∧ w.heap.size ≤ w'.heap.size :=
  (new_at w w.heap.size (Nat.le_refl _)).mono fun _ _ ⟨h, m, h1, h2, h3, h4⟩ => ⟨h, m, h1, h2.more (fun _ hi => hi.elim), h3, Nat.le_of_lt h4⟩

/-- A box behind a call. -/
theorem at_box {w : World} {B h m k t : Nat} {L : List Th} {F : Nat → Prop} (H : AtHeap w B h m L k t F) (o : Obj) : AtHeap (w.alloc o) B h m L k t fun i => F i ∨ i = w.heap.size :=
  (H.more (G := fun i => F i ∨ i = w.heap.size) (fun _ hi => hi.imp id (fun e => Nat.le_of_eq e.symm))).below ((Below.refl _ _).alloc (Nat.le_refl _) o)

/-- An item in a box, read where a later world keeps the box. -/
theorem box_cell {w w' : World} {x y : Value} (h : w'.heap[w.heap.size]? = (w.alloc (.cells #[x, y] 28 (0, 0))).heap[w.heap.size]?) : w'.cell? ⟨w.heap.size, 0, none⟩ = some x ∧ w'.cell? ⟨w.heap.size, 1, none⟩ = some y := by
  have h1 := h.trans (heap_alloc_new w _)
  exact ⟨by simp [World.cell?, h1], by simp [World.cell?, h1]⟩
theorem second_boxed {w : World} {B h m b1 b3 : Nat} (H : AtHeap w B h m (two b1 b3) 3 3 noF) (hB : B ≤ w.heap.size) :
    Calls Try.prog 7 #[.pointer (some ⟨h, 0, none⟩)] (w.alloc (.cells #[.int .i64 3, .int .i64 0] 28 (0, 0))) fun e w' => e = .returned (.tuple #[.agg #[.int .i64 5, .int .i64 1], .bool true]) ∧ AtHeap w' B h m [⟨b3, 5, 2, 3, 3⟩] 3 3 (fun i => noF i ∨ i = w.heap.size) ∧ Below B w w' ∧ w.heap.size < w'.heap.size ∧ w'.cell? ⟨w.heap.size, 0, none⟩ = some (.int .i64 3) := by
  refine (pop_second (at_box H _) (by simp; omega) (fun i hi => ?_)).mono ?_
  · rcases hi with hi | rfl
    · exact hi.elim
    · simp
  · rintro e w' ⟨rfl, h2, h3, h4⟩
    have := h3.size
    simp at this
    exact ⟨rfl, h2, ((Below.refl _ _).alloc hB _).trans h3, by omega, (box_cell (h4 _ (Or.inr rfl))).1⟩

set_option maxHeartbeats 1000000 in
theorem awake_any (w : World) : Calls Try.prog 4 #[] w fun e w' => e = .returned (.bool true) ∧ Below w.heap.size w w' := by
  obtain ⟨B, hB⟩ : ∃ B, w.heap.size = B := ⟨_, rfl⟩
  have HBq := Lib.hid hB
  have HN := Lib.hid (new_one w)
  rw [hB] at HN ⊢
  clear hB
  go_enter Try.func4, Try.ntmps4
  go_wp2_with (first
    | (go_at_call 5; refine HN.out.mono ?_; rintro e w1 ⟨h, m, rfl, a0, l0, s0⟩; have A0 := Lib.hid a0; have L0 := Lib.hid l0; have S0 := Lib.hid s0; clear a0 l0 s0)
    | (go_at_call 6; (with_reducible refine (push_one A0.out S0.out).mono ?_); rintro e w2 ⟨rfl, ⟨b1, a1⟩, l1, s1⟩; have A1 := Lib.hid a1; have L1 := Lib.hid (L0.out.trans l1); have S1 := Lib.hid s1; clear a1 l1 s1)
    | (go_at_call 6; (with_reducible refine (push_two A1.out S1.out).mono ?_); rintro e w3 ⟨rfl, ⟨b2, a2⟩, l2, s2⟩; have A2 := Lib.hid a2; have L2 := Lib.hid (L1.out.trans l2); have S2 := Lib.hid s2; clear a2 l2 s2)
    | (go_at_call 6; (with_reducible refine (push_three A2.out S2.out).mono ?_); rintro e w4 ⟨rfl, ⟨b3, a3⟩, l3, s3⟩; have A3 := Lib.hid a3; have L3 := Lib.hid (L2.out.trans l3); have S3 := Lib.hid s3; clear a3 l3 s3)
    | (go_at_call 7; (with_reducible refine (pop_first A3.out S3.out no_lt).mono ?_); rintro e w5 ⟨rfl, a4, l4, f4⟩; have A4 := Lib.hid a4; have L4 := Lib.hid (L3.out.trans l4); have S4 := Lib.hid (Nat.le_trans S3.out l4.size); clear a4 l4 f4)
    | (go_at_call 7; (with_reducible refine (second_boxed A4.out S4.out).mono ?_); rintro e w6 ⟨rfl, a5, l5, s5, c5⟩; have HL := Lib.hid fun o => len_at (a5.below ((Below.refl _ _).alloc (Nat.le_refl _) o)); have L5 := Lib.hid (L4.out.trans l5); have s6 := Nat.le_of_lt s5; have s7 := Nat.ne_of_lt s5; have S5 := Lib.hid (Nat.le_trans S4.out s6); clear a5 l5)
    | (go_at_call 10; refine (HL.out _).mono ?_; rintro e w7 ⟨rfl, rfl⟩))
  go_ret
  exact ⟨rfl, L5.out.alloc S5.out _⟩
end Go.Proofs.Ytejmmhaglgmgbaa
