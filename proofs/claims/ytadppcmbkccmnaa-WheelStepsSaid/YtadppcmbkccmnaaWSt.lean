/-
  A wheel and the document's list, side by side: what each call makes of both.
-/
import Derived.Test.YtadppcmbkccmnaaWAwake
import Derived.Test.YtadppcmbkccmnaaWSame
import Derived.Test.YtadppcmbkccmnaaWRefB
namespace Go.Proofs.Ytadppcmbkccmnaa
open Go.ChangeShapes Go.WideShapes Go.ChangeAt Go.RowKit Wh

/-- The block of a slice. -/
def RowOf (A : Option Addr) (j : Nat) : Prop := ∃ o, A = some ⟨j, o, none⟩
/-- A wheel, and a slice that reads as the list r. -/
structure St (w : World) (h m : Nat) (L : List Tm) (k nw : Nat) (O : Nat → Prop) (r : List Du) (A : Option Addr) (n c : Nat) (wr : World) : Prop where
  at_ : AtWheel wr w.heap.size h m L k nw O
  below : Below w.heap.size w wr
  len : r.length = n
  cap : n ≤ c
  c63 : c ≤ 9223372036854775807
  nil : A = none → n = 0 ∧ c = 0
  form : A = none ∨ ∃ g o, A = some ⟨g, o, none⟩
  reads : Dus (RowOf A) wr A r
  apart : ∀ j, RowOf A j → j < wr.heap.size ∧ ¬ O j
/-- A box of three numbers that is none of the wheel's. -/
structure Bx (p : Nat) (x y z : Int) (O : Nat → Prop) (wr : World) : Prop where
  b0 : wr.cell? ⟨p, 0, none⟩ = some (.int .i64 x)
  b1 : wr.cell? ⟨p, 1, none⟩ = some (.int .i64 y)
  b2 : wr.cell? ⟨p, 2, none⟩ = some (.int .i64 z)
  lt : p < wr.heap.size
  off : ¬ O p

section
variable {w wr w2 : World} {h m k nw n c p : Nat} {L : List Tm} {O O' : Nat → Prop} {r : List Du} {A : Option Addr} {x y z : Int}
theorem St.size (H : St w h m L k nw O r A n c wr) : w.heap.size ≤ wr.heap.size := H.below.size
theorem St.later (H : St w h m L k nw O r A n c wr) (hb : Below wr.heap.size wr w2) : St w h m L k nw O r A n c w2 :=
  ⟨H.at_.below hb, H.below.trans (hb.mono H.size), H.len, H.cap, H.c63, H.nil, H.form, H.reads.kept fun j hj => hb.block j (H.apart j hj).1, fun j hj => ⟨Nat.lt_of_lt_of_le (H.apart j hj).1 hb.size, (H.apart j hj).2⟩⟩
theorem Bx.later (X : Bx p x y z O wr) (hb : Below wr.heap.size wr w2) : Bx p x y z O w2 :=
  ⟨(hb.cell (p := ⟨p, 0, none⟩) X.lt).trans X.b0, (hb.cell (p := ⟨p, 1, none⟩) X.lt).trans X.b1, (hb.cell (p := ⟨p, 2, none⟩) X.lt).trans X.b2, Nat.lt_of_lt_of_le X.lt hb.size, X.off⟩
theorem St.drawn (H : St w h m L k nw O r A n c wr) (q : Nat) : St w h m L k nw O r A n c (wr.drewN q) := H.later (below_drawn (Below.refl _ _))
theorem Bx.drawn (X : Bx p x y z O wr) (q : Nat) : Bx p x y z O (wr.drewN q) := X.later (below_drawn (Below.refl _ _))
theorem St.low (H : St w h m L k nw O r A n c wr) : Dus (· < wr.heap.size) wr A r := H.reads.mono fun j hj => (H.apart j hj).1
/-- The wheel has changed. -/
theorem St.turn {L' : List Tm} {k' nw' : Nat} (H : St w h m L k nw O r A n c wr) (h1 : AtWheel w2 w.heap.size h m L' k' nw' O') (h2 : Only O wr w2) (h3 : ∀ j, O' j → O j ∨ wr.heap.size ≤ j) : St w h m L' k' nw' O' r A n c w2 :=
  ⟨h1, H.below.trans (only_below H.at_ h2 H.size), H.len, H.cap, H.c63, H.nil, H.form, H.reads.kept fun j hj => h2.block j (H.apart j hj).1 (H.apart j hj).2, fun j hj => ⟨Nat.lt_of_lt_of_le (H.apart j hj).1 h2.size, fun ho => (h3 j ho).elim (H.apart j hj).2 (fun h4 => by have := (H.apart j hj).1; omega)⟩⟩
theorem Bx.turn (X : Bx p x y z O wr) (h2 : Only O wr w2) (h3 : ∀ j, O' j → O j ∨ wr.heap.size ≤ j) : Bx p x y z O' w2 :=
  ⟨(h2.cell X.lt X.off 0).trans X.b0, (h2.cell X.lt X.off 1).trans X.b1, (h2.cell X.lt X.off 2).trans X.b2, Nat.lt_of_lt_of_le X.lt h2.size, fun ho => (h3 p ho).elim X.off (fun h4 => by have := X.lt; omega)⟩
/-- The list is another one, in new memory. -/
theorem St.list {r' : List Du} {A' : Option Addr} {n' c' : Nat} (H : St w h m L k nw O r A n c wr) (hlen : r'.length = n') (hrow : w2.ownsRow wr.heap.size 42 3 (.slice A' n' c') n' (dcells r')) (hb : Below wr.heap.size wr w2) : St w h m L k nw O r' A' n' c' w2 := by
  have H2 := H.later hb
  obtain ⟨A0, c0, hv, h1, h2⟩ := own_shape hrow
  simp only [Value.slice.injEq, true_and] at hv
  obtain ⟨rfl, rfl⟩ := hv
  have hlt := hrow.lt
  refine ⟨H2.at_, H2.below, hlen, h1, h2, fun e => ?_, ?_, (Dus.own hrow).mono fun j hj => ?_, fun j ⟨o, hj⟩ => ?_⟩
  · subst e
    rcases hrow.2 with ⟨h3, h4⟩ | ⟨g, cap, cur, h3, _⟩
    · simp only [Value.slice.injEq, true_and] at h3
      exact ⟨h4, h3.2⟩
    · simp at h3
  · rcases hrow.2 with ⟨h3, h4⟩ | ⟨g, cap, cur, h3, _⟩
    · simp only [Value.slice.injEq] at h3
      exact Or.inl h3.1
    · simp only [Value.slice.injEq] at h3
      exact Or.inr ⟨g, 0, h3.1⟩
  · rcases hrow.2 with ⟨h3, h4⟩ | ⟨g, cap, cur, h3, _⟩
    · rw [h3] at hj
      simp [Value.ownBlock] at hj
    · simp only [Value.slice.injEq] at h3
      rw [h3.1] at hj
      simp only [Value.ownBlock, Option.some.injEq] at hj
      subst hj
      exact ⟨0, h3.1⟩
  · have hj2 : (Value.slice A' n' c').ownBlock = some j := by rw [hj]; rfl
    have h4 := hlt j hj2
    exact ⟨h4.2, fun ho => by have := (H.at_.lt ho).2; omega⟩
/-- The list's end. -/
theorem St.cut {g o i : Nat} (H : St w h m L k nw O r (some ⟨g, o, none⟩) n c wr) (hi : i ≤ n) : St w h m L k nw O (r.drop i) (if c = i then some ⟨g, o, none⟩ else some ⟨g, o + i * 3, none⟩) (n - i) (c - i) wr := by
  have hrow : ∀ j, RowOf (if c = i then some ⟨g, o, none⟩ else some ⟨g, o + i * 3, none⟩) j → j = g := fun j ⟨o2, hj⟩ => by
    split at hj
    all_goals
      simp only [Option.some.injEq, Addr.mk.injEq] at hj
      exact hj.1.symm
  have hg := H.apart g ⟨o, rfl⟩
  refine ⟨H.at_, H.below, by rw [List.length_drop, H.len], by have := H.cap; omega, by have := H.c63; omega, fun e => ?_, ?_, ?_, fun j hj => ?_⟩
  · split at e <;> cases e
  · split
    · exact Or.inr ⟨g, o, rfl⟩
    · exact Or.inr ⟨g, _, rfl⟩
  · refine (dus_cut (k := i) (H.reads) (by rw [H.len]; exact H.cap)).mono fun j ⟨o2, hj⟩ => ?_
    simp only [Option.some.injEq, Addr.mk.injEq] at hj
    rw [← hj.1]
    unfold RowOf
    split
    · exact ⟨o, rfl⟩
    · exact ⟨_, rfl⟩
  · rw [hrow j hj]
    exact hg

/-! The calls. -/
theorem st_same (H : St w h m L k nw O r A n c wr) (X : Bx p x y z O wr) (hk : k ≤ 900000) (hm : n ≤ 1000000) (hp : r.Perm (L.map du)) (hS : Srt r) {q : Int} (q0 : -9223372036854775808 ≤ q) (q1 : q < 9223372036854775808) :
    Calls Try.prog 15 #[.pointer (some ⟨h, 0, none⟩), .slice A n c, .int .i64 (nw : Nat), .int .i64 q] wr fun e w2 => e = .returned (.bool true) ∧ St w h m L k nw O r A n c w2 ∧ Bx p x y z O w2 :=
  (same_at H.at_ hk H.low H.len hm hp hS q0 q1).mono fun _ _ ⟨he, hb⟩ => ⟨he, H.later hb, X.later hb⟩
theorem st_cancel {L' : List Tm} {t : Tm} (H : St w h m L k nw O r A n c wr) (X : Bx p x y z O wr) (hk : k ≤ 900000) (hlen : L.length ≤ 900000) (hL : L.Perm (t :: L')) :
    Calls Try.prog 8 #[.pointer (some ⟨h, 0, none⟩), .int .i64 (t.handle : Nat)] wr fun e w2 => e = .returned (.bool true) ∧ ∃ O', St w h m L' k nw O' r A n c w2 ∧ Bx p x y z O' w2 :=
  (cancel_at H.at_ hk hlen hL).mono fun _ _ ⟨he, O', h1, h2, h3⟩ => ⟨he, O', H.turn h1 h2 (fun j hj => Or.inl (h3 j hj)), X.turn h2 (fun j hj => Or.inl (h3 j hj))⟩
theorem st_set (H : St w h m L k nw O r A n c wr) (X : Bx p x y z O wr) (hk : k ≤ 900000) (hlen : L.length ≤ 900000) (t : Nat) (what : Int) (ht : nw < t) (ht2 : t ≤ 2097152) :
    Calls Try.prog 13 #[.pointer (some ⟨h, 0, none⟩), .int .i64 (t : Nat), .int .i64 what] wr fun e w2 => e = .returned (.tuple #[.int .i64 ((k : Int) + 1), .int .i64 0]) ∧ ∃ b O', St w h m (⟨b, t, k + 1, what⟩ :: L) (k + 1) nw O' r A n c w2 ∧ Bx p x y z O' w2 :=
  (seton_at H.at_ hk hlen H.size t what ht ht2).mono fun _ _ ⟨he, b, O', h1, h2, h3⟩ => ⟨he, b, O', H.turn h1 h2 h3, X.turn h2 h3⟩
theorem st_drop {i : Nat} (H : St w h m L k nw O r A n c wr) (X : Bx p x y z O wr) (hm : n ≤ 900000) (hi : i < n) :
    Calls Try.prog 9 #[.slice A n c, .int .i64 (i : Nat)] wr fun e w2 => ∃ A' n' c', e = .returned (.slice A' n' c') ∧ St w h m L k nw O (r.take i ++ r.drop (i + 1)) A' n' c' w2 ∧ Bx p x y z O w2 := by
  rcases H.form with h1 | ⟨g, o, rfl⟩
  · have := H.nil h1
    omega
  · exact (rdrop_any H.low H.len hm H.cap H.c63 hi).mono fun _ _ ⟨A', n', c', he, h1, h2, h3⟩ => ⟨A', n', c', he, H.list h1 h2 h3, X.later h3⟩
theorem st_put (H : St w h m L k nw O r A n c wr) (X : Bx p x y z O wr) (hm : n ≤ 900000) (d : Du) :
    Calls Try.prog 14 #[.slice A n c, .agg #[.int .i64 d.1, .int .i64 d.2.1, .int .i64 d.2.2]] wr fun e w2 => ∃ A' n' c', e = .returned (.slice A' n' c') ∧ St w h m L k nw O (r.take (spot d r) ++ d :: r.drop (spot d r)) A' n' c' w2 ∧ Bx p x y z O w2 := by
  by_cases h0 : n = 0
  · have hr : r = [] := List.eq_nil_of_length_eq_zero (by rw [H.len, h0])
    have := H.len
    subst h0
    subst hr
    refine (rput_none A c (fun e => (H.nil e).2) H.c63 d wr).mono ?_
    rintro e w2 ⟨A', n', c', he, h1, h2, h3⟩
    exact ⟨A', n', c', he, H.list h1 h2 h3, X.later h3⟩
  · rcases H.form with h1 | ⟨g, o, rfl⟩
    · have := H.nil h1
      omega
    · obtain ⟨s1, s2⟩ := spot_is d r
      have s3 := spot_le d r
      refine (rput_any (i := spot d r) H.low H.len hm H.cap H.c63 d (by have := H.len; omega) (fun hlt => s2 (by rw [H.len]; exact hlt)) s1).mono ?_
      rintro e w2 ⟨A', n', c', he, h1, h2, h3⟩
      exact ⟨A', n', c', he, H.list h1 h2 h3, X.later h3⟩
theorem nodup_of {L : List Tm} (h : L.Pairwise fun x y => x.handle ≠ y.handle) : L.Nodup := h.imp fun hne e => hne (congrArg Tm.handle e)
theorem st_advance (H : St w h m L k nw O r A n c wr) (X : Bx p x y z O wr) (hk : k ≤ 900000) (hlen : L.length ≤ 900000) (to : Nat) (hle : nw ≤ to) (hto : to ≤ 1048576) (hp : r.Perm (L.map du)) (hS : Srt r) :
    Calls Try.prog 10 #[.pointer (some ⟨h, 0, none⟩), .int .i64 (to : Nat)] wr fun e w2 => ∃ Ag cg, e = .returned (.tuple #[.slice Ag (upto to r) cg, .int .i64 0]) ∧ ∃ O' L', St w h m L' k to O' r A n c w2 ∧ Bx p x y z O' w2 ∧
      Dus (fun _ => True) w2 Ag (r.take (upto to r)) ∧ (r.drop (upto to r)).Perm (L'.map du) ∧ L'.length ≤ L.length := by
  refine (advance_at H.at_ hk hlen H.size to hle hto).mono ?_
  rintro e w2 ⟨Ag, ng, cg, O', L', D, rfl, a1, a2, a3, a4, a5, a6, a7, a8, a9⟩
  obtain ⟨f1, f2, -⟩ := H.at_.facts
  obtain ⟨c1, c2, -, -⟩ := srt_cut (to : Int) hS
  have hd : D = r.take (upto to r) := by
    refine srt_one (a3.trans ?_) a4 (hS.sublist (List.take_sublist _ _))
    rw [c1]
    refine List.Perm.symm ((hp.filter _).trans (List.Perm.of_eq ?_))
    rw [List.filter_map, dues]
    congr 1
    refine List.filter_congr fun t _ => ?_
    simp [du]
  have hlen2 : (r.take (upto to r)).length = upto to r := by
    have := upto_le (to : Int) r
    rw [List.length_take]
    omega
  subst hd
  obtain rfl : ng = upto to r := by omega
  have hL' : L'.Perm (L.filter fun t => decide (to < t.tick)) := by
    refine perm_of_mem (nodup_of a1.facts.1) ((nodup_of f1).filter _) fun t => ?_
    rw [a2 t, List.mem_filter]
    simp
  refine ⟨Ag, cg, rfl, O', L', H.turn a1 a9 a8, X.turn a9 a8, (Dus.own a6).mono fun _ _ => trivial, ?_, ?_⟩
  · rw [c2]
    refine (hp.filter _).trans ?_
    rw [List.filter_map]
    refine (List.Perm.of_eq ?_).trans (hL'.symm.map du)
    congr 1
    refine List.filter_congr fun t _ => ?_
    simp [du]
  · rw [hL'.length_eq]
    exact List.length_filter_le _ _
end
end Go.Proofs.Ytadppcmbkccmnaa
