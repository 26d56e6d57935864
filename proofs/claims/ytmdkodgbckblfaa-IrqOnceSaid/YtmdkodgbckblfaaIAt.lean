/-
  What the statements compare with (is); a controller and the document's list of lines, side by side: what each call makes of them; the statements' awake.
-/
import Derived.Test.YtmdkodgbckblfaaIWalksC
import Derived.Test.YtmdkodgbckblfaaIRefC
import Derived.Laws.StructEq
namespace Go.Proofs.Ytmdkodgbckblfaa
open Go.ChangeShapes Go.WideShapes Go.ChangeAt Go.RowKit

theorem state_eql (a b c : Bool) (d : Int) (x y z : Bool) (t : Int) (w : World) : (binOp .eql 34 (.agg #[.bool a, .bool b, .bool c, .int .i64 d]) (.agg #[.bool x, .bool y, .bool z, .int .i64 t])).run Try.prog w = .ok (.bool (decide (a = x ∧ b = y ∧ c = z ∧ d = t))) w := by
  have u3 := Try.underlying3
  have a3 := Try.isAgg3
  have z3 := Try.sizeOf3
  have u4 := Try.underlying4
  have a4 := Try.isAgg4
  have z4 := Try.sizeOf4
  have hS : Try.prog.underlying 34 = some (.struct (Try.prog.fieldsOf 34)) := by kernel_rfl
  have hp : Try.prog.stoodInHeld 34 = false := by kernel_rfl
  rw [run_eql_struct, show (10000 : Nat) = 9999 + 1 from rfl, run_equalIn_agg w 9999 34 _ _ hS hp]
  simp only [Program.fieldsOf, Try.underlying34]
  go_simp
  by_cases h1 : a = x <;> by_cases h2 : b = y <;> by_cases h3 : c = z <;> by_cases h4 : d = t <;> simp [h1, h2, h3, h4]
theorem state_neq (a b c : Bool) (d : Int) (x y z : Bool) (t : Int) (w : World) : (binOp .neq 34 (.agg #[.bool a, .bool b, .bool c, .int .i64 d]) (.agg #[.bool x, .bool y, .bool z, .int .i64 t])).run Try.prog w = .ok (.bool (!decide (a = x ∧ b = y ∧ c = z ∧ d = t))) w := by
  have u3 := Try.underlying3
  have a3 := Try.isAgg3
  have z3 := Try.sizeOf3
  have u4 := Try.underlying4
  have a4 := Try.isAgg4
  have z4 := Try.sizeOf4
  have hS : Try.prog.underlying 34 = some (.struct (Try.prog.fieldsOf 34)) := by kernel_rfl
  have hp : Try.prog.stoodInHeld 34 = false := by kernel_rfl
  rw [run_neq_struct, show (10000 : Nat) = 9999 + 1 from rfl, run_equalIn_agg w 9999 34 _ _ hS hp]
  simp only [Program.fieldsOf, Try.underlying34]
  go_simp
  by_cases h1 : a = x <;> by_cases h2 : b = y <;> by_cases h3 : c = z <;> by_cases h4 : d = t <;> simp [h1, h2, h3, h4]
theorem is_any (x : Ln) (w : World) : Calls Try.prog 18 #[.agg (lcells x).toArray, .agg (lcells x).toArray] w fun e w' => e = .returned (.bool true) ∧ Below w.heap.size w w' := by
  obtain ⟨ra, ma, se, d⟩ := x
  simp only [lcells]
  have hbl : ∀ o o' : Obj, Below w.heap.size w ((w.alloc o).alloc o') := fun o o' => ((Below.refl _ _).alloc (Nat.le_refl _) o).alloc (by simp) o'
  have e4 : ∀ w : World, (binOp .eql 34 (.agg #[.bool ra, .bool ma, .bool se, .int .i64 d]) (.agg #[.bool ra, .bool ma, .bool se, .int .i64 d])).run Try.prog w = .ok (.bool true) w := fun w => by
    have := state_eql ra ma se d ra ma se d w
    simpa using this
  go_enter Try.func18, Try.ntmps18
  go_wp2
  go_ret
  exact ⟨rfl, hbl _ _⟩

/-- Block h is a controller with the lines L in block g, block r has the lines M as a row. -/
structure Two (w : World) (h g r n c : Nat) (L M : List Ln) (wr : World) : Prop where
  mem : IqIs wr h g L
  doc : Rw wr r M
  len : L.length = n
  lem : M.length = n
  base : w.heap.size ≤ g
  off : r ≠ g
  rlt : r < wr.heap.size
  cap : n ≤ c
  c63 : c ≤ 9223372036854775807
  below : Below w.heap.size w wr
/-- An act's box, that is none of the lines'. -/
structure Bx (p : Nat) (k i : Int) (b : Bool) (g : Nat) (wr : World) : Prop where
  b0 : wr.cell? ⟨p, 0, none⟩ = some (.int .i64 k)
  b1 : wr.cell? ⟨p, 1, none⟩ = some (.int .i64 i)
  b2 : wr.cell? ⟨p, 2, none⟩ = some (.bool b)
  lt : p < wr.heap.size
  off : p ≠ g

section
variable {w wr w2 : World} {h g r n c p : Nat} {L M : List Ln} {k i : Int} {b : Bool}
theorem Two.few (H : Two w h g r n c L M wr) : 1 ≤ n ∧ n ≤ 8 := by
  have := H.mem.low
  rw [H.len] at this
  exact this
theorem Two.size (H : Two w h g r n c L M wr) : w.heap.size ≤ wr.heap.size := H.below.size
theorem Two.later (H : Two w h g r n c L M wr) (hb : Below wr.heap.size wr w2) : Two w h g r n c L M w2 :=
  ⟨H.mem.below hb, H.doc.below H.rlt hb, H.len, H.lem, H.base, H.off, Nat.lt_of_lt_of_le H.rlt hb.size, H.cap, H.c63, H.below.trans (hb.mono H.size)⟩
theorem Bx.later (X : Bx p k i b g wr) (hb : Below wr.heap.size wr w2) : Bx p k i b g w2 :=
  ⟨(hb.cell (p := ⟨p, 0, none⟩) X.lt).trans X.b0, (hb.cell (p := ⟨p, 1, none⟩) X.lt).trans X.b1, (hb.cell (p := ⟨p, 2, none⟩) X.lt).trans X.b2, Nat.lt_of_lt_of_le X.lt hb.size, X.off⟩
/-- The lines have changed. -/
theorem Two.turn {L' : List Ln} (H : Two w h g r n c L M wr) (h1 : IqIs w2 h g L') (h2 : Only (· = g) wr w2) (hl : L'.length = L.length) : Two w h g r n c L' M w2 :=
  ⟨h1, H.doc.kept (h2.block r H.rlt H.off), hl.trans H.len, H.lem, H.base, H.off, Nat.lt_of_lt_of_le H.rlt h2.size, H.cap, H.c63, H.below.trans (h2.below H.size fun k hk => by subst hk; exact H.base)⟩
theorem Bx.turn (X : Bx p k i b g wr) (h2 : Only (· = g) wr w2) : Bx p k i b g w2 :=
  ⟨(h2.cell X.lt X.off 0).trans X.b0, (h2.cell X.lt X.off 1).trans X.b1, (h2.cell X.lt X.off 2).trans X.b2, Nat.lt_of_lt_of_le X.lt h2.size, X.off⟩
/-- The list is another one. -/
theorem Two.next {M' : List Ln} {r' c' : Nat} (H : Two w h g r n c L M wr) (h1 : Next wr w2 r r' n c' M') (hl : M'.length = M.length) : Two w h g r' n c' L M' w2 := by
  have H2 := H.later h1.below
  refine ⟨H2.mem, h1.rw_, H2.len, hl.trans H.lem, H2.base, ?_, h1.lt, h1.cap, h1.c63, H2.below⟩
  rcases h1.at_ with h2 | h2
  · rw [h2]
    exact H.off
  · have := H.mem.glt
    omega

/-! The calls. -/
theorem two_raise (H : Two w h g r n c L M wr) (X : Bx p k i b g wr) (j : Int) : Calls Try.prog 9 #[.pointer (some ⟨h, 0, none⟩), .int .i64 j] wr fun e w2 => e = .returned (.int .i64 (raiseE L j)) ∧ Two w h g r n c (raiseL L j) M w2 ∧ Bx p k i b g w2 :=
  (raise_any H.mem j).mono fun _ _ ⟨he, h1, h2⟩ => ⟨he, H.turn h1 h2 (raiseL_len L j), X.turn h2⟩
theorem two_mask (H : Two w h g r n c L M wr) (X : Bx p k i b g wr) (j : Int) (v : Bool) : Calls Try.prog 10 #[.pointer (some ⟨h, 0, none⟩), .int .i64 j, .bool v] wr fun e w2 => e = .returned (.int .i64 (maskE L j)) ∧ Two w h g r n c (maskL L j v) M w2 ∧ Bx p k i b g w2 :=
  (mask_any H.mem j v).mono fun _ _ ⟨he, h1, h2⟩ => ⟨he, H.turn h1 h2 (maskL_len L j v), X.turn h2⟩
theorem two_ack (H : Two w h g r n c L M wr) (X : Bx p k i b g wr) (j : Int) : Calls Try.prog 11 #[.pointer (some ⟨h, 0, none⟩), .int .i64 j] wr fun e w2 => e = .returned (.int .i64 (ackE L j)) ∧ Two w h g r n c (ackL L j) M w2 ∧ Bx p k i b g w2 :=
  (ack_any H.mem j).mono fun _ _ ⟨he, h1, h2⟩ => ⟨he, H.turn h1 h2 (ackL_len L j), X.turn h2⟩
theorem two_next (H : Two w h g r n c L M wr) (X : Bx p k i b g wr) : Calls Try.prog 7 #[.pointer (some ⟨h, 0, none⟩)] wr fun e w2 => e = .returned (.tuple #[.int .i64 (nextN L), .bool (nextB L)]) ∧ Two w h g r n c (nextL L) M w2 ∧ Bx p k i b g w2 :=
  (next_any H.mem).mono fun _ _ ⟨he, h1, h2⟩ => ⟨he, H.turn h1 h2 (nextL_len L), X.turn h2⟩
theorem two_rraise (H : Two w h g r n c L M wr) (X : Bx p k i b g wr) (j : Int) : Calls Try.prog 17 #[.slice (some ⟨r, 0, none⟩) n c, .int .i64 j] wr fun e w2 => ∃ r' c', e = .returned (.tuple #[.slice (some ⟨r', 0, none⟩) n c', .int .i64 (raiseE M j)]) ∧ Two w h g r' n c' L (raiseL M j) w2 ∧ Bx p k i b g w2 :=
  (rraise_any H.doc H.rlt H.lem H.few.2 H.cap H.c63 j).mono fun _ _ ⟨r', c', he, h1⟩ => ⟨r', c', he, H.next h1 (raiseL_len M j), X.later h1.below⟩
theorem two_rmask (H : Two w h g r n c L M wr) (X : Bx p k i b g wr) (j : Int) (v : Bool) : Calls Try.prog 14 #[.slice (some ⟨r, 0, none⟩) n c, .int .i64 j, .bool v] wr fun e w2 => ∃ r' c', e = .returned (.tuple #[.slice (some ⟨r', 0, none⟩) n c', .int .i64 (maskE M j)]) ∧ Two w h g r' n c' L (maskL M j v) w2 ∧ Bx p k i b g w2 :=
  (rmask_any H.doc H.rlt H.lem H.few.2 H.cap H.c63 j v).mono fun _ _ ⟨r', c', he, h1⟩ => ⟨r', c', he, H.next h1 (maskL_len M j v), X.later h1.below⟩
theorem two_rack (H : Two w h g r n c L M wr) (X : Bx p k i b g wr) (j : Int) : Calls Try.prog 16 #[.slice (some ⟨r, 0, none⟩) n c, .int .i64 j] wr fun e w2 => ∃ r' c', e = .returned (.tuple #[.slice (some ⟨r', 0, none⟩) n c', .int .i64 (ackE M j)]) ∧ Two w h g r' n c' L (ackL M j) w2 ∧ Bx p k i b g w2 :=
  (rack_any H.doc H.rlt H.lem H.few.2 H.cap H.c63 j).mono fun _ _ ⟨r', c', he, h1⟩ => ⟨r', c', he, H.next h1 (ackL_len M j), X.later h1.below⟩
theorem two_rnext (H : Two w h g r n c L M wr) (X : Bx p k i b g wr) : Calls Try.prog 15 #[.slice (some ⟨r, 0, none⟩) n c] wr fun e w2 => ∃ r' c', e = .returned (.tuple #[.slice (some ⟨r', 0, none⟩) n c', .int .i64 (nextR M)]) ∧ Two w h g r' n c' L (nextL M) w2 ∧ Bx p k i b g w2 :=
  (rnext_any H.doc H.rlt H.lem H.few.2 H.cap H.c63).mono fun _ _ ⟨r', c', he, h1⟩ => ⟨r', c', he, H.next h1 (nextL_len M), X.later h1.below⟩
end

/-! awake. -/
/-- What stands between awake's calls. -/
structure Up1 (w wr : World) (h g : Nat) (L : List Ln) : Prop where
  mem : IqIs wr h g L
  base : w.heap.size ≤ g
  below : Below w.heap.size w wr
theorem Up1.turn {w wr w2 : World} {h g : Nat} {L L' : List Ln} {v : Value} {e : Ending} (H : Up1 w wr h g L) (h1 : Turned h g L' v wr e w2) : e = .returned v ∧ Up1 w w2 h g L' :=
  ⟨h1.1, h1.2.1, H.base, H.below.trans (h1.2.2.below H.below.size fun k hk => by subst hk; exact H.base)⟩
def l3 : List Ln := List.replicate 3 dark
set_option maxHeartbeats 1000000 in
theorem awake_any (w : World) : Calls Try.prog 5 #[] w fun e w' => e = .returned (.bool true) ∧ Below w.heap.size w w' := by
  have H0 : Hid (Calls Try.prog 6 #[.int .i64 3] w fun e w1 => ∃ h, e = .returned (.tuple #[.pointer (some ⟨h, 0, none⟩), .int .i64 0]) ∧ Up1 w w1 h w.heap.size l3) := Lib.hid ((new_any 3 w (by omega) (by omega)).mono fun e w1 ⟨h, h1, h2, _, h3⟩ => ⟨h, h1, h2, Nat.le_refl _, h3⟩)
  have H1 : Hid (∀ h g w1, Up1 w w1 h g l3 → Calls Try.prog 9 #[.pointer (some ⟨h, 0, none⟩), .int .i64 1] w1 fun e w2 => e = .returned (.int .i64 0) ∧ Up1 w w2 h g (raiseL l3 1)) := Lib.hid fun h g w1 H => (raise_any H.mem 1).mono fun e w2 h2 => H.turn h2
  have H2 : Hid (∀ h g w1, Up1 w w1 h g (raiseL l3 1) → Calls Try.prog 7 #[.pointer (some ⟨h, 0, none⟩)] w1 fun e w2 => e = .returned (.tuple #[.int .i64 0, .bool false]) ∧ Up1 w w2 h g (nextL (raiseL l3 1))) := Lib.hid fun h g w1 H => (next_any H.mem).mono fun e w2 h2 => H.turn h2
  have H3 : Hid (∀ h g w1, Up1 w w1 h g (nextL (raiseL l3 1)) → Calls Try.prog 10 #[.pointer (some ⟨h, 0, none⟩), .int .i64 1, .bool false] w1 fun e w2 => e = .returned (.int .i64 0) ∧ Up1 w w2 h g (maskL (nextL (raiseL l3 1)) 1 false)) := Lib.hid fun h g w1 H => (mask_any H.mem 1 false).mono fun e w2 h2 => H.turn h2
  have H4 : Hid (∀ h g w1, Up1 w w1 h g (maskL (nextL (raiseL l3 1)) 1 false) → Calls Try.prog 7 #[.pointer (some ⟨h, 0, none⟩)] w1 fun e w2 => e = .returned (.tuple #[.int .i64 1, .bool true]) ∧ Up1 w w2 h g (nextL (maskL (nextL (raiseL l3 1)) 1 false))) := Lib.hid fun h g w1 H => (next_any H.mem).mono fun e w2 h2 => H.turn h2
  go_enter Try.func5, Try.ntmps5
  go_wp2_with fail
  refine H0.out.mono ?_
  rintro e w1 ⟨h, rfl, s1⟩
  have S1 := Lib.hid s1
  clear s1
  generalize w.heap.size = g at S1
  go_wp2_with fail
  refine (H1.out _ _ _ S1.out).mono ?_
  rintro e w2 ⟨rfl, s2⟩
  have S2 := Lib.hid s2
  clear s2
  go_wp2_with fail
  refine (H2.out _ _ _ S2.out).mono ?_
  rintro e w3 ⟨rfl, s3⟩
  have S3 := Lib.hid s3
  clear s3
  go_wp2_with fail
  refine (H3.out _ _ _ S3.out).mono ?_
  rintro e w4 ⟨rfl, s4⟩
  have S4 := Lib.hid s4
  clear s4
  go_wp2_with fail
  refine (H4.out _ _ _ S4.out).mono ?_
  rintro e w5 ⟨rfl, s5⟩
  have S5 := Lib.hid s5
  clear s5
  go_wp2
  go_ret
  exact ⟨rfl, S5.out.below⟩
end Go.Proofs.Ytmdkodgbckblfaa
