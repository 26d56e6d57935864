/-
  Contract: Revoke.
-/
import Derived.Test.YthblldojbgeknaaCTakeR
namespace Go.Proofs.Ythblldojbgeknaa
open Go.ChangeShapes Go.WideShapes Go.ChangeAt Go.RowKit
open Go.Shelf Go.Sort

/-- What comes of one, by one step. -/
def ofB (x : Nd) (y : Nd) : Bool := decide (y.up = x.id)
/-- What went is told, and no error. -/
def Gone2 (b : Nat) (F : Fo) (q : Nd → Bool) (w : World) (e : Ending) (w' : World) : Prop := ∃ A n c, e = .returned (.tuple #[.slice A n c, .int .i64 0]) ∧ n = (tkW q F).length ∧ n ≤ 1000000 ∧ w'.ownsRow w.heap.size 74 5 (.slice A n c) n (scells (tkW q F)) ∧ FoIs w' b (tkF q F) ∧ Only (· = b) w w'
section
variable {w : World} {b : Nat} {F : Fo}
set_option maxHeartbeats 1000000 in
theorem revoke_none (H : FoIs w b F) {e s : Int} (hn : fd F.l e s = none) : Calls Try.prog 19 #[.pointer (some ⟨b, 0, none⟩), .int .i64 e, .int .i64 s] w fun r w' => r = .returned (.tuple #[.slice none 0 0, .int .i64 23]) ∧ Below w.heap.size w w' := by
  have HA := Lib.hid (at_any H e s)
  rw [hn] at HA
  simp only [hcells, hk, ho, hr, hi, hu] at HA
  have HT : Hid (∀ w, _) := Lib.hid fun w => there_any 0 0 0 0 0 w
  rw [show decide ((0 : Int) < 0) = false from rfl] at HT
  have HL : Hid (∀ (w2 : World) (o : Obj) (w3 : World), Below w.heap.size w w2 → Below (w2.alloc o).heap.size (w2.alloc o) w3 → Below w.heap.size w w3) := Lib.hid fun w2 o w3 h h2 => (below_new (Nat.le_refl _) h o).trans (h2.mono (below_new (Nat.le_refl _) h o).size)
  clear H hn
  go_enter Try.func19, Try.ntmps19
  go_wp2_with (first
    | (go_at_call 36; refine HA.out.mono ?_; rintro r w2 ⟨rfl, hg⟩; have HB := Lib.hid (below_grow hg); clear hg)
    | (go_at_call 37; refine (HT.out _).mono ?_; rintro r w3 ⟨rfl, hb3⟩; have HB3 := Lib.hid (HL.out w2 _ w3 HB.out hb3); clear hb3))
  go_ret2
  exact ⟨rfl, HB3.out⟩
/-- A box of what a slot has, behind calls. -/
theorem held_box {w w2 w3 : World} {k o r i u : Int} (h : Below w.heap.size w w2) (h2 : Below (w2.alloc (.cells #[.int .i64 k, .int .i64 o, .int .i64 r, .int .i64 i, .int .i64 u] 28 (0, 0))).heap.size (w2.alloc (.cells #[.int .i64 k, .int .i64 o, .int .i64 r, .int .i64 i, .int .i64 u] 28 (0, 0))) w3) :
    Hid (Below w.heap.size w w3) ∧ w2.heap.size < w3.heap.size ∧ w3.cell? ⟨w2.heap.size, 0, none⟩ = some (.int .i64 k) ∧ w3.cell? ⟨w2.heap.size, 1, none⟩ = some (.int .i64 o) ∧ w3.cell? ⟨w2.heap.size, 2, none⟩ = some (.int .i64 r) ∧ w3.cell? ⟨w2.heap.size, 3, none⟩ = some (.int .i64 i) := by
  have hs : (w2.alloc (.cells #[.int .i64 k, .int .i64 o, .int .i64 r, .int .i64 i, .int .i64 u] 28 (0, 0))).heap.size = w2.heap.size + 1 := by simp
  have hs2 := h2.size
  have hh := (h2.block w2.heap.size (by omega)).trans (heap_alloc_new w2 _)
  refine ⟨Lib.hid ((below_new (Nat.le_refl _) h _).trans (h2.mono (below_new (Nat.le_refl _) h _).size)), by omega, ?_, ?_, ?_, ?_⟩ <;> (simp only [World.cell?, hh]; rfl)
set_option maxHeartbeats 1000000 in
theorem revoke_not (H : FoIs w b F) {e s : Int} {x : Nd} (hx : fd F.l e s = some x) (hm : mayB x.r 8 = false) : Calls Try.prog 19 #[.pointer (some ⟨b, 0, none⟩), .int .i64 e, .int .i64 s] w fun r w' => r = .returned (.tuple #[.slice none 0 0, .int .i64 23]) ∧ Below w.heap.size w w' := by
  have HA := Lib.hid (at_any H e s)
  rw [hx] at HA
  simp only [hcells, hk, ho, hr, hi, hu] at HA
  obtain ⟨r0, r1, r2, r3, r4, r5⟩ := H.wf.rng x (fd_mem hx).1
  have HT : Hid (∀ w, _) := Lib.hid fun w => there_any x.k x.o (x.r : Nat) (x.id : Nat) (x.up : Nat) w
  rw [show decide ((0 : Int) < (x.id : Nat)) = true from decide_eq_true (by omega)] at HT
  have HM : Hid (∀ w, _) := Lib.hid fun w => may_any x.k x.o (x.r : Nat) 8 w
  rw [hm] at HM
  clear H hx hm r0 r1 r2 r3 r4 r5
  go_enter Try.func19, Try.ntmps19
  go_wp2_with (first
    | (go_at_call 36; refine HA.out.mono ?_; rintro r w2 ⟨rfl, hg⟩; have HB := Lib.hid (below_grow hg); clear hg)
    | (go_at_call 37; refine (HT.out _).mono ?_; rintro r w3 ⟨rfl, hb3⟩; obtain ⟨HB3, l3, k0, k1, k2, k3⟩ := held_box HB.out hb3; clear hb3)
    | (go_at_call 33; refine (HM.out _).mono ?_; rintro r w4 ⟨rfl, hb4⟩; have HB4 := Lib.hid (HB3.out.trans (hb4.mono HB3.out.size)); clear hb4))
  go_ret2
  exact ⟨rfl, HB4.out⟩
set_option maxHeartbeats 2000000 in
theorem revoke_hit (H : FoIs w b F) {e s : Int} {x : Nd} (hx : fd F.l e s = some x) (hm : mayB x.r 8 = true) : Calls Try.prog 19 #[.pointer (some ⟨b, 0, none⟩), .int .i64 e, .int .i64 s] w (Gone2 b F (ofB x) w) := by
  have HA := Lib.hid (at_any H e s)
  rw [hx] at HA
  simp only [hcells, hk, ho, hr, hi, hu] at HA
  obtain ⟨r0, r1, r2, r3, r4, r5⟩ := H.wf.rng x (fd_mem hx).1
  have HT : Hid (∀ w, _) := Lib.hid fun w => there_any x.k x.o (x.r : Nat) (x.id : Nat) (x.up : Nat) w
  rw [show decide ((0 : Int) < (x.id : Nat)) = true from decide_eq_true (by omega)] at HT
  have HM : Hid (∀ w, _) := Lib.hid fun w => may_any x.k x.o (x.r : Nat) 8 w
  rw [hm] at HM
  have Hblt := Lib.hid H.lt
  have HP : Hid (∀ (Z : Nat) (w4 : World), Below w.heap.size w w4 → w.heap.size ≤ Z → Z < w4.heap.size → w4.cell? ⟨Z, 3, none⟩ = some (.int .i64 (x.id : Nat)) → Calls Try.prog 38 #[.pointer (some ⟨b, 0, none⟩), .func (.func 39) #[] #[.pointer (some ⟨Z, 0, none⟩)]] w4 fun r w5 => ∃ A n c, r = .returned (.slice A n c) ∧ Hid (Gone2 b F (ofB x) w (.returned (.tuple #[.slice A n c, .int .i64 0])) w5)) := Lib.hid fun Z w4 h4 hZ hZ4 hc => by
    have hblt := Hblt.out
    refine (take_rev (Z := Z) (H.below h4) (ofB x) (fun w' y hO => ?_)).mono ?_
    · have := askR_any y.k y.o (y.r : Nat) (y.id : Nat) (y.up : Nat) w' ((hO.cell hZ4 (by show ¬ Z = b; omega) 3).trans hc) (Nat.lt_of_lt_of_le hZ4 hO.size)
      have e1 : decide (((y.up : Nat) : Int) = (x.id : Nat)) = ofB x y := by
        unfold ofB
        congr 1
        simp only [eq_iff_iff]
        omega
      rwa [e1] at this
    · rintro r w5 ⟨A, n, c, rfl, h1, h2, h3, h4', h5⟩
      exact ⟨A, n, c, rfl, Lib.hid ⟨A, n, c, rfl, h1, h2, own_lower h3 h4.size, h4', (Only.of_below (S := (· = b)) h4).trans h5 (fun _ h => Or.inl h)⟩⟩
  clear H hx hm r0 r1 r2 r3 r4 r5
  go_enter Try.func19, Try.ntmps19
  go_wp2_with (first
    | (go_at_call 36; refine HA.out.mono ?_; rintro r w2 ⟨rfl, hg⟩; have HB := Lib.hid (below_grow hg); clear hg)
    | (go_at_call 37; refine (HT.out _).mono ?_; rintro r w3 ⟨rfl, hb3⟩; obtain ⟨HB3, l3, k0, k1, k2, k3⟩ := held_box HB.out hb3; clear hb3)
    | (go_at_call 33; refine (HM.out _).mono ?_; rintro r w4 ⟨rfl, hb4⟩; have HB4 := Lib.hid (HB3.out.trans (hb4.mono HB3.out.size)); have HQ := Lib.hid (HP.out w2.heap.size w4 HB4.out HB.out.size (Nat.lt_of_lt_of_le l3 hb4.size) ((hb4.cell (p := ⟨w2.heap.size, 3, none⟩) l3).trans k3)); clear hb4)
    | (go_at_call 38; refine HQ.out.mono ?_; rintro r w5 ⟨A, n, c, rfl, HF⟩))
  go_ret2
  exact HF.out
end
end Go.Proofs.Ythblldojbgeknaa
