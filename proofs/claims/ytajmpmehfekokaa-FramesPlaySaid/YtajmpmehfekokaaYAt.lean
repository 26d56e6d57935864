/-
  A memory and the document's list of frames, side by side: what each call makes of them; the statement's awake.
-/
import Derived.Test.YtajmpmehfekokaaYSame
namespace Go.Proofs.Ytajmpmehfekokaa
open Go.ChangeShapes Go.WideShapes Go.ChangeAt Go.RowKit

/-- Block h is a memory of the frames L, block g has the frames M as a row. -/
structure Two (w : World) (h g n c : Nat) (L M : List Fr) (wr : World) : Prop where
  mem : FrIs wr h L
  doc : Rw wr g M
  len : L.length = n
  lem : M.length = n
  base : w.heap.size ≤ h
  off : g ≠ h
  glt : g < wr.heap.size
  cap : n ≤ c
  c63 : c ≤ 9223372036854775807
  below : Below w.heap.size w wr
/-- An act's box, that is none of the memory's. -/
structure Bx (p : Nat) (k i a : Int) (b : UInt8) (h : Nat) (wr : World) : Prop where
  b0 : wr.cell? ⟨p, 0, none⟩ = some (.int .i64 k)
  b1 : wr.cell? ⟨p, 1, none⟩ = some (.int .i64 i)
  b2 : wr.cell? ⟨p, 2, none⟩ = some (.int .i64 a)
  b3 : wr.cell? ⟨p, 3, none⟩ = some (.int .u8 (b.toNat : Int))
  lt : p < wr.heap.size
  off : p ≠ h

section
variable {w wr w2 : World} {h g n c p : Nat} {L M : List Fr} {k i a : Int} {b : UInt8}
theorem Two.few (H : Two w h g n c L M wr) : 1 ≤ n ∧ n ≤ 32 := by
  have := H.mem.low
  rw [H.len] at this
  exact this
theorem Two.size (H : Two w h g n c L M wr) : w.heap.size ≤ wr.heap.size := H.below.size
theorem Two.later (H : Two w h g n c L M wr) (hb : Below wr.heap.size wr w2) : Two w h g n c L M w2 :=
  ⟨H.mem.below hb, H.doc.below H.glt hb, H.len, H.lem, H.base, H.off, Nat.lt_of_lt_of_le H.glt hb.size, H.cap, H.c63, H.below.trans (hb.mono H.size)⟩
theorem Bx.later (X : Bx p k i a b h wr) (hb : Below wr.heap.size wr w2) : Bx p k i a b h w2 :=
  ⟨(hb.cell (p := ⟨p, 0, none⟩) X.lt).trans X.b0, (hb.cell (p := ⟨p, 1, none⟩) X.lt).trans X.b1, (hb.cell (p := ⟨p, 2, none⟩) X.lt).trans X.b2, (hb.cell (p := ⟨p, 3, none⟩) X.lt).trans X.b3, Nat.lt_of_lt_of_le X.lt hb.size, X.off⟩
/-- The memory has changed. -/
theorem Two.turn {L' : List Fr} (H : Two w h g n c L M wr) (h1 : FrIs w2 h L') (h2 : Only (· = h) wr w2) (hl : L'.length = L.length) : Two w h g n c L' M w2 :=
  ⟨h1, H.doc.kept (h2.block g H.glt H.off), hl.trans H.len, H.lem, H.base, H.off, Nat.lt_of_lt_of_le H.glt h2.size, H.cap, H.c63, H.below.trans (h2.below H.size fun k hk => by subst hk; exact H.base)⟩
theorem Bx.turn (X : Bx p k i a b h wr) (h2 : Only (· = h) wr w2) : Bx p k i a b h w2 :=
  ⟨(h2.cell X.lt X.off 0).trans X.b0, (h2.cell X.lt X.off 1).trans X.b1, (h2.cell X.lt X.off 2).trans X.b2, (h2.cell X.lt X.off 3).trans X.b3, Nat.lt_of_lt_of_le X.lt h2.size, X.off⟩
/-- The list is another one. -/
theorem Two.next {M' : List Fr} {g' c' : Nat} (H : Two w h g n c L M wr) (h1 : Next wr w2 g g' n c' M') (hl : M'.length = M.length) : Two w h g' n c' L M' w2 := by
  have H2 := H.later h1.below
  refine ⟨H2.mem, h1.rw_, H2.len, hl.trans H.lem, H2.base, ?_, h1.lt, h1.cap, h1.c63, H2.below⟩
  rcases h1.at_ with h2 | h2
  · rw [h2]
    exact H.off
  · have := H.mem.lt
    omega

/-! The calls. -/
theorem two_free (H : Two w h g n c L M wr) (X : Bx p k i a b h wr) (j : Int) : Calls Try.prog 7 #[.pointer (some ⟨h, 0, none⟩), .int .i64 j] wr fun e w2 => e = .returned (.int .i64 (giveE L j)) ∧ Two w h g n c (giveL L j) M w2 ∧ Bx p k i a b h w2 :=
  (free_any H.mem j).mono fun _ _ ⟨he, h1, h2⟩ => ⟨he, H.turn h1 h2 (giveL_len L j), X.turn h2⟩
theorem two_write (H : Two w h g n c L M wr) (X : Bx p k i a b h wr) (j t : Int) (v : UInt8) : Calls Try.prog 11 #[.pointer (some ⟨h, 0, none⟩), .int .i64 j, .int .i64 t, .int .u8 (v.toNat : Int)] wr fun e w2 => e = .returned (.int .i64 (rwE L j t)) ∧ Two w h g n c (writeL L j t v) M w2 ∧ Bx p k i a b h w2 :=
  (write_any H.mem j t v).mono fun _ _ ⟨he, h1, h2⟩ => ⟨he, H.turn h1 h2 (writeL_len L j t v), X.turn h2⟩
theorem two_take (H : Two w h g n c L M wr) (X : Bx p k i a b h wr) : Calls Try.prog 13 #[.pointer (some ⟨h, 0, none⟩)] wr fun e w2 => e = .returned (.tuple #[.int .i64 (takeN L), .int .i64 (takeE L)]) ∧ Two w h g n c (takeL L) M w2 ∧ Bx p k i a b h w2 :=
  (take_any H.mem).mono fun _ _ ⟨he, h1, h2⟩ => ⟨he, H.turn h1 h2 (takeL_len L), X.turn h2⟩
theorem two_give (H : Two w h g n c L M wr) (X : Bx p k i a b h wr) (j : Int) : Calls Try.prog 8 #[.slice (some ⟨g, 0, none⟩) n c, .int .i64 j] wr fun e w2 => ∃ g' c', e = .returned (.tuple #[.slice (some ⟨g', 0, none⟩) n c', .int .i64 (giveE M j)]) ∧ Two w h g' n c' L (giveL M j) w2 ∧ Bx p k i a b h w2 :=
  (give_any H.doc H.glt H.lem H.few.2 H.cap H.c63 j).mono fun _ _ ⟨g', c', he, h1⟩ => ⟨g', c', he, H.next h1 (giveL_len M j), X.later h1.below⟩
theorem two_rwrite (H : Two w h g n c L M wr) (X : Bx p k i a b h wr) (j t : Int) (v : UInt8) : Calls Try.prog 12 #[.slice (some ⟨g, 0, none⟩) n c, .int .i64 j, .int .i64 t, .int .u8 (v.toNat : Int)] wr fun e w2 => ∃ g' c', e = .returned (.tuple #[.slice (some ⟨g', 0, none⟩) n c', .int .i64 (rwE M j t)]) ∧ Two w h g' n c' L (writeL M j t v) w2 ∧ Bx p k i a b h w2 :=
  (rwrite_any H.doc H.glt H.lem H.few.2 H.cap H.c63 j t v).mono fun _ _ ⟨g', c', he, h1⟩ => ⟨g', c', he, H.next h1 (writeL_len M j t v), X.later h1.below⟩
theorem two_rtake (H : Two w h g n c L M wr) (X : Bx p k i a b h wr) : Calls Try.prog 14 #[.slice (some ⟨g, 0, none⟩) n c] wr fun e w2 => ∃ g' c', e = .returned (.tuple #[.slice (some ⟨g', 0, none⟩) n c', .int .i64 (takeN M), .int .i64 (takeE M)]) ∧ Two w h g' n c' L (takeL M) w2 ∧ Bx p k i a b h w2 :=
  (rtake_any H.doc H.glt H.lem H.few.2 H.cap H.c63).mono fun _ _ ⟨g', c', he, h1⟩ => ⟨g', c', he, H.next h1 (takeL_len M), X.later h1.below⟩
end

/-! awake. -/
/-- What stands between awake's calls. -/
structure Up1 (w wr : World) (h : Nat) (L : List Fr) : Prop where
  mem : FrIs wr h L
  base : w.heap.size ≤ h
  below : Below w.heap.size w wr
theorem Up1.turn {w wr w2 : World} {h : Nat} {L L' : List Fr} {v : Value} {e : Ending} (H : Up1 w wr h L) (h1 : Turned h L' v wr e w2) : e = .returned v ∧ Up1 w w2 h L' :=
  ⟨h1.1, h1.2.1, H.base, H.below.trans (h1.2.2.below H.below.size fun k hk => by subst hk; exact H.base)⟩
theorem awake_any (w : World) : Calls Try.prog 4 #[] w fun e w' => e = .returned (.bool true) ∧ Below w.heap.size w w' := by
  have H0 : Hid (Calls Try.prog 5 #[.int .i64 4] w fun e w1 => e = .returned (.tuple #[.pointer (some ⟨w.heap.size, 0, none⟩), .int .i64 0]) ∧ Up1 w w1 w.heap.size (blank 4)) := Lib.hid ((new_any 4 w (by omega) (by omega)).mono fun e w1 ⟨h1, h2, h3⟩ => ⟨h1, h2, Nat.le_refl _, h3⟩)
  have H1 : Hid (∀ w1, Up1 w w1 w.heap.size (blank 4) → Calls Try.prog 13 #[.pointer (some ⟨w.heap.size, 0, none⟩)] w1 fun e w2 => e = .returned (.tuple #[.int .i64 0, .int .i64 0]) ∧ Up1 w w2 w.heap.size (takeL (blank 4))) := Lib.hid fun w1 h => (take_any h.mem).mono fun e w2 h2 => h.turn h2
  have H2 : Hid (∀ w1, Up1 w w1 w.heap.size (takeL (blank 4)) → Calls Try.prog 13 #[.pointer (some ⟨w.heap.size, 0, none⟩)] w1 fun e w2 => e = .returned (.tuple #[.int .i64 1, .int .i64 0]) ∧ Up1 w w2 w.heap.size (takeL (takeL (blank 4)))) := Lib.hid fun w1 h => (take_any h.mem).mono fun e w2 h2 => h.turn h2
  have H3 : Hid (∀ w1, Up1 w w1 w.heap.size (takeL (takeL (blank 4))) → Calls Try.prog 7 #[.pointer (some ⟨w.heap.size, 0, none⟩), .int .i64 0] w1 fun e w2 => e = .returned (.int .i64 0) ∧ Up1 w w2 w.heap.size (giveL (takeL (takeL (blank 4))) 0)) := Lib.hid fun w1 h => (free_any h.mem 0).mono fun e w2 h2 => h.turn h2
  have H4 : Hid (∀ w1, Up1 w w1 w.heap.size (giveL (takeL (takeL (blank 4))) 0) → Calls Try.prog 13 #[.pointer (some ⟨w.heap.size, 0, none⟩)] w1 fun e w2 => e = .returned (.tuple #[.int .i64 0, .int .i64 0]) ∧ Up1 w w2 w.heap.size (takeL (giveL (takeL (takeL (blank 4))) 0))) := Lib.hid fun w1 h => (take_any h.mem).mono fun e w2 h2 => h.turn h2
  go_enter Try.func4, Try.ntmps4
  go_wp2_with fail
  refine H0.out.mono ?_
  rintro e w1 ⟨rfl, s1⟩
  have S1 := Lib.hid s1
  clear s1
  go_wp2_with fail
  refine (H1.out _ S1.out).mono ?_
  rintro e w2 ⟨rfl, s2⟩
  have S2 := Lib.hid s2
  clear s2
  go_wp2_with fail
  refine (H2.out _ S2.out).mono ?_
  rintro e w3 ⟨rfl, s3⟩
  have S3 := Lib.hid s3
  clear s3
  go_wp2_with fail
  refine (H3.out _ S3.out).mono ?_
  rintro e w4 ⟨rfl, s4⟩
  have S4 := Lib.hid s4
  clear s4
  go_wp2_with fail
  refine (H4.out _ S4.out).mono ?_
  rintro e w5 ⟨rfl, s5⟩
  have S5 := Lib.hid s5
  clear s5
  go_wp2
  go_ret
  exact ⟨rfl, S5.out.below⟩
end Go.Proofs.Ytajmpmehfekokaa
