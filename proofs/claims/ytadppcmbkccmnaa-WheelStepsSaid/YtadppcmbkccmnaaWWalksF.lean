/-
  A wheel in memory; contracts: New, made, find, Now, Len, Get, Next, and of no wheel.
-/
import Derived.Test.YtadppcmbkccmnaaWWalksE
import Derived.Deep.RegionHeld3
import Derived.StillTailTactics
namespace Go.Proofs.Ytadppcmbkccmnaa
open Go.ChangeShapes Go.WideShapes Go.ChangeAt Go.RowKit Wh

/-- Block h is a wheel of these timers at this tick; k handles were told. -/
structure WheelIs (w : World) (B h m : Nat) (S : Nat → Value) (X : Nat → List Tm) (L : List Tm) (k now : Nat) : Prop where
  slots : Slots w B S X
  cells : WCells w h S (.map (some m)) now k
  mem : ∀ x, x ∈ L ↔ ∃ i, x ∈ X i
  place : ∀ (i : Nat) (x : Tm), x ∈ X i → i = slot now x.tick ∧ now < x.tick ∧ x.tick ≤ 2097152
  once : L.Pairwise fun x y => x.handle ≠ y.handle
  handles : ∀ x, x ∈ L → 1 ≤ x.handle ∧ x.handle ≤ k
  map : MapIs w m k L
  base : B ≤ h ∧ B ≤ m
  off : ¬ SOwn S X h ∧ ¬ SOwn S X m ∧ h ≠ m
  low : now ≤ 1048576

/-- The blocks that a wheel is in. -/
def Mine (h m : Nat) (S : Nat → Value) (X : Nat → List Tm) (j : Nat) : Prop := j = h ∨ j = m ∨ SOwn S X j

section
variable {w w' : World} {B h m k now : Nat} {S : Nat → Value} {X : Nat → List Tm} {L : List Tm}
theorem WheelIs.mine_lt (H : WheelIs w B h m S X L k now) {b : Nat} (hb : Mine h m S X b) : B ≤ b ∧ b < w.heap.size := by
  rcases hb with rfl | rfl | hb
  · exact ⟨H.base.1, H.cells.lt⟩
  · exact ⟨H.base.2, H.map.lt⟩
  · exact H.slots.own_lt hb
theorem WheelIs.kept (H : WheelIs w B h m S X L k now) (hb : ∀ b, Mine h m S X b → w'.heap[b]? = w.heap[b]?) : WheelIs w' B h m S X L k now :=
  ⟨H.slots.kept fun b hb2 => hb b (Or.inr (Or.inr hb2)), H.cells.kept (hb h (Or.inl rfl)), H.mem, H.place, H.once, H.handles, H.map.kept (hb m (Or.inr (Or.inl rfl))), H.base, H.off, H.low⟩
theorem WheelIs.below (H : WheelIs w B h m S X L k now) (hb : Below w.heap.size w w') : WheelIs w' B h m S X L k now := H.kept fun b ho => hb.block b (H.mine_lt ho).2
theorem WheelIs.thing (H : WheelIs w B h m S X L k now) {x : Tm} (hx : x ∈ L) : ∃ i j, (X i)[j]? = some x ∧ w.heap[x.b]? = some (tmObj x j) := by
  obtain ⟨i, hi⟩ := (H.mem x).1 hx
  obtain ⟨j, hj⟩ := H.slots.block hi
  exact ⟨i, j, hj⟩
theorem WheelIs.tick (H : WheelIs w B h m S X L k now) {x : Tm} (hx : x ∈ L) : now < x.tick ∧ x.tick ≤ 2097152 := by
  obtain ⟨i, hi⟩ := (H.mem x).1 hx
  exact (H.place i x hi).2
end

theorem two_back_p {b : Nat} {e : Int} : Ending.returned (.tuple #[.pointer (some ⟨b, 0, none⟩), .int .i64 e]) = .returned (.tuple #[.pointer (some ⟨b, 0, none⟩), .int .i64 e]) := rfl

/-! Calls on no wheel, and on one that nobody made. -/
theorem find_none (n : Int) (w : World) : Calls Try.prog 20 #[.pointer none, .int .i64 n] w fun e w' => e = .returned (.pointer none) ∧ w = w' := by
  go_enter Try.func20, Try.ntmps20
  go_wp2
  go_ret
  exact ⟨rfl, rfl⟩
theorem len_none (w : World) : Calls Try.prog 19 #[.pointer none] w fun e w' => e = .returned (.int .i64 0) ∧ w = w' := by
  go_enter Try.func19, Try.ntmps19
  go_wp2
  go_ret
  exact ⟨rfl, rfl⟩
theorem now_none (w : World) : Calls Try.prog 16 #[.pointer none] w fun e w' => e = .returned (.int .i64 0) ∧ w = w' := by
  go_enter Try.func16, Try.ntmps16
  go_wp2
  go_ret
  exact ⟨rfl, rfl⟩
theorem made_none (w : World) : Calls Try.prog 22 #[.pointer none] w fun e w' => e = .returned (.bool false) ∧ w = w' := by
  go_enter Try.func22, Try.ntmps22
  go_wp2
  go_ret
  exact ⟨rfl, rfl⟩
theorem made_zero (h : Nat) (w : World) (hc : w.cell? ⟨h, 256, none⟩ = some (.map none)) : Calls Try.prog 22 #[.pointer (some ⟨h, 0, none⟩)] w fun e w' => e = .returned (.bool false) ∧ w = w' := by
  have qm : ∀ w : World, (binOp .neq 54 (.map none) (.map none)).run Try.prog w = .ok (.bool false) w := fun w => by kernel_rfl
  go_enter Try.func22, Try.ntmps22
  go_wp2
  go_ret
  exact ⟨rfl, rfl⟩
theorem made_any (h m : Nat) (w : World) (hc : w.cell? ⟨h, 256, none⟩ = some (.map (some m))) : Calls Try.prog 22 #[.pointer (some ⟨h, 0, none⟩)] w fun e w' => e = .returned (.bool true) ∧ w = w' := by
  have qm : ∀ w : World, (binOp .neq 54 (.map (some m)) (.map none)).run Try.prog w = .ok (.bool true) w := fun w => by kernel_rfl
  go_enter Try.func22, Try.ntmps22
  go_wp2
  go_ret
  exact ⟨rfl, rfl⟩
theorem set_none (a b : Int) (w : World) : Calls Try.prog 13 #[.pointer none, .int .i64 a, .int .i64 b] w fun e w' => e = .returned (.tuple #[.int .i64 0, .int .i64 3]) ∧ w = w' := by
  go_enter Try.func13, Try.ntmps13
  go_wp2_with (go_at_call 22; refine (made_none _).mono ?_; rintro e w' ⟨rfl, rfl⟩)
  go_ret2
  exact ⟨rfl, rfl⟩
theorem set_zero (h : Nat) (a b : Int) (w : World) (hc : w.cell? ⟨h, 256, none⟩ = some (.map none)) : Calls Try.prog 13 #[.pointer (some ⟨h, 0, none⟩), .int .i64 a, .int .i64 b] w fun e w' => e = .returned (.tuple #[.int .i64 0, .int .i64 3]) ∧ w = w' := by
  go_enter Try.func13, Try.ntmps13
  go_wp2_with (go_at_call 22; refine (made_zero h _ hc).mono ?_; rintro e w' ⟨rfl, rfl⟩)
  go_ret2
  exact ⟨rfl, rfl⟩
theorem advance_none (a : Int) (w : World) : Calls Try.prog 10 #[.pointer none, .int .i64 a] w fun e w' => e = .returned (.tuple #[.slice none 0 0, .int .i64 3]) ∧ w = w' := by
  go_enter Try.func10, Try.ntmps10
  go_wp2_with (go_at_call 22; refine (made_none _).mono ?_; rintro e w' ⟨rfl, rfl⟩)
  go_ret2
  exact ⟨rfl, rfl⟩
theorem advance_zero (h : Nat) (a : Int) (w : World) (hc : w.cell? ⟨h, 256, none⟩ = some (.map none)) : Calls Try.prog 10 #[.pointer (some ⟨h, 0, none⟩), .int .i64 a] w fun e w' => e = .returned (.tuple #[.slice none 0 0, .int .i64 3]) ∧ w = w' := by
  go_enter Try.func10, Try.ntmps10
  go_wp2_with (go_at_call 22; refine (made_zero h _ hc).mono ?_; rintro e w' ⟨rfl, rfl⟩)
  go_ret2
  exact ⟨rfl, rfl⟩
theorem cancel_none (a : Int) (w : World) : Calls Try.prog 8 #[.pointer none, .int .i64 a] w fun e w' => e = .returned (.bool false) ∧ w = w' := by
  go_enter Try.func8, Try.ntmps8
  go_wp2_with (go_at_call 20; refine (find_none _ _).mono ?_; rintro e w' ⟨rfl, rfl⟩)
  go_ret
  exact ⟨rfl, rfl⟩
theorem next_none (w : World) : Calls Try.prog 18 #[.pointer none] w fun e w' => e = .returned (.tuple #[.int .i64 0, .bool false]) ∧ w = w' := by
  go_enter Try.func18, Try.ntmps18
  go_wp2_with (go_at_call 19; refine (len_none _).mono ?_; rintro e w' ⟨rfl, rfl⟩)
  go_ret2
  exact ⟨rfl, rfl⟩
/-- What tells a timer. -/
def Told (t hd what : Int) (ok : Bool) (w : World) (e : Ending) (w' : World) : Prop := e = .returned (.tuple #[.agg #[.int .i64 t, .int .i64 hd, .int .i64 what], .bool ok]) ∧ Below w.heap.size w w'
theorem get_none (a : Int) (w : World) : Calls Try.prog 17 #[.pointer none, .int .i64 a] w (Told 0 0 0 false w) := by
  go_enter Try.func17, Try.ntmps17
  go_wp2_with (go_at_call 20; refine (find_none _ _).mono ?_; rintro e w' ⟨rfl, rfl⟩)
  exact bodyPost_ret (v := .tuple #[.agg #[.int .i64 0, .int .i64 0, .int .i64 0], .bool false]) (by simp [results, Try.results17, go_sem]) rfl ⟨rfl, (Below.refl _ _).alloc (Nat.le_refl _) _⟩

section
variable {w : World} {B h m k now : Nat} {S : Nat → Value} {X : Nat → List Tm} {L : List Tm}
theorem now_any (H : WheelIs w B h m S X L k now) : Calls Try.prog 16 #[.pointer (some ⟨h, 0, none⟩)] w fun e w' => e = .returned (.int .i64 (now : Nat)) ∧ w = w' := by
  have hc := H.cells.tick
  clear H
  go_enter Try.func16, Try.ntmps16
  go_wp2
  go_ret
  exact ⟨rfl, rfl⟩
theorem len_any2 (H : WheelIs w B h m S X L k now) : Calls Try.prog 19 #[.pointer (some ⟨h, 0, none⟩)] w fun e w' => e = .returned (.int .i64 (L.length : Nat)) ∧ w = w' := by
  have hc := H.cells.map
  have hl := fun ty => H.map.len ty
  clear H
  generalize L.length = n at *
  go_enter Try.func19, Try.ntmps19
  go_wp2
  go_ret
  exact ⟨rfl, rfl⟩
theorem find_cell (h m : Nat) (p : Option Addr) (n : Int) (w : World) (hc : w.cell? ⟨h, 256, none⟩ = some (.map (some m))) (hl : (Instr.lookup 54 (.map (some m)) (.int .i64 n) false).run Try.prog w = .ok (.pointer p) w) :
    Calls Try.prog 20 #[.pointer (some ⟨h, 0, none⟩), .int .i64 n] w fun e w' => e = .returned (.pointer p) ∧ w = w' := by
  go_enter Try.func20, Try.ntmps20
  go_wp2
  go_ret
  exact ⟨rfl, rfl⟩
theorem find_hit (H : WheelIs w B h m S X L k now) (hk : k ≤ 900000) {x : Tm} (hx : x ∈ L) : Calls Try.prog 20 #[.pointer (some ⟨h, 0, none⟩), .int .i64 (x.handle : Nat)] w fun e w' => e = .returned (.pointer (some ⟨x.b, 0, none⟩)) ∧ w = w' :=
  find_cell h m _ _ w H.cells.map (H.map.hit hx (by have := H.handles x hx; omega))
theorem find_miss (H : WheelIs w B h m S X L k now) {q : Int} (h0 : -9223372036854775808 ≤ q) (h1 : q < 9223372036854775808) (hq : ∀ x, x ∈ L → (x.handle : Int) ≠ q) : Calls Try.prog 20 #[.pointer (some ⟨h, 0, none⟩), .int .i64 q] w fun e w' => e = .returned (.pointer none) ∧ w = w' :=
  find_cell h m _ _ w H.cells.map (H.map.miss h0 h1 hq)
theorem get_miss (H : WheelIs w B h m S X L k now) {q : Int} (h0 : -9223372036854775808 ≤ q) (h1 : q < 9223372036854775808) (hq : ∀ x, x ∈ L → (x.handle : Int) ≠ q) : Calls Try.prog 17 #[.pointer (some ⟨h, 0, none⟩), .int .i64 q] w (Told 0 0 0 false w) := by
  have HF : Hid (∀ o : Obj, Calls Try.prog 20 #[.pointer (some ⟨h, 0, none⟩), .int .i64 q] (w.alloc o) fun e w' => e = .returned (.pointer none) ∧ w.alloc o = w') := fun o => find_miss (H.below ((Below.refl _ _).alloc (Nat.le_refl _) o)) h0 h1 hq
  clear H hq
  go_enter Try.func17, Try.ntmps17
  go_wp2_with (go_at_call 20; refine (HF.out _).mono ?_; rintro e w' ⟨rfl, rfl⟩)
  exact bodyPost_ret (v := .tuple #[.agg #[.int .i64 0, .int .i64 0, .int .i64 0], .bool false]) (by simp [results, Try.results17, go_sem]) rfl ⟨rfl, (Below.refl _ _).alloc (Nat.le_refl _) _⟩
theorem get_hit (H : WheelIs w B h m S X L k now) (hk : k ≤ 900000) {x : Tm} (hx : x ∈ L) : Calls Try.prog 17 #[.pointer (some ⟨h, 0, none⟩), .int .i64 (x.handle : Nat)] w (Told (x.tick : Nat) (x.handle : Nat) x.what true w) := by
  have HF : Hid (∀ o : Obj, Calls Try.prog 20 #[.pointer (some ⟨h, 0, none⟩), .int .i64 (x.handle : Nat)] (w.alloc o) fun e w' => e = .returned (.pointer (some ⟨x.b, 0, none⟩)) ∧ w.alloc o = w') := fun o => find_hit (H.below ((Below.refl _ _).alloc (Nat.le_refl _) o)) hk hx
  obtain ⟨i, j, _, hx1⟩ := H.thing hx
  have a0 : w.cell? ⟨x.b, 0, none⟩ = some (.int .i64 (x.tick : Nat)) := tm_cell (j := 0) hx1 rfl
  have a1 : w.cell? ⟨x.b, 1, none⟩ = some (.int .i64 (x.handle : Nat)) := tm_cell (j := 1) hx1 rfl
  have a2 : w.cell? ⟨x.b, 2, none⟩ = some (.int .i64 x.what) := tm_cell (j := 2) hx1 rfl
  have hlt := lt_of_block hx1
  have hne := Nat.ne_of_gt hlt
  have hle := Nat.le_of_lt hlt
  clear H hx hx1
  generalize x.tick = t at *
  generalize x.what = wh at *
  generalize x.handle = hd at *
  generalize x.b = b at *
  go_enter Try.func17, Try.ntmps17
  go_wp2_with (go_at_call 20; refine (HF.out _).mono ?_; rintro e w' ⟨rfl, rfl⟩)
  exact bodyPost_ret (v := .tuple #[.agg #[.int .i64 (t : Nat), .int .i64 (hd : Nat), .int .i64 wh], .bool true]) (by simp [results, Try.results17, go_sem]) rfl ⟨rfl, (Below.refl _ _).alloc (Nat.le_refl _) _⟩
end
end Go.Proofs.Ytadppcmbkccmnaa
