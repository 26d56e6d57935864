/-
  Two wheels apart; a wheel, what was due at once, and what was due in stages.
-/
import Derived.Test.YtadppcmbkccmnaaWSt
namespace Go.Proofs.Ytadppcmbkccmnaa
open Go.ChangeShapes Go.WideShapes Go.ChangeAt Go.RowKit Wh

theorem own_kept {w w' : World} {base : Nat} {e : TypeId} {size : Nat} {v : Value} {n : Nat} {xs : List Value} (h : w.ownsRow base e size v n xs) (hb : ∀ j, v.ownBlock = some j → w'.heap[j]? = w.heap[j]?) : w'.ownsRow base e size v n xs :=
  ⟨h.1, h.2.imp id fun ⟨g, cap, cur, hv, hg, hh, r⟩ => ⟨g, cap, cur, hv, hg, (hb g (by rw [hv]; rfl)).trans hh, r⟩⟩

/-- Two wheels apart. -/
structure Pair (w : World) (h m : Nat) (L : List Tm) (k nw : Nat) (O : Nat → Prop) (h2 m2 : Nat) (L2 : List Tm) (k2 nw2 : Nat) (O2 : Nat → Prop) (wr : World) : Prop where
  a : AtWheel wr w.heap.size h m L k nw O
  b : AtWheel wr w.heap.size h2 m2 L2 k2 nw2 O2
  apart : ∀ j, O j → ¬ O2 j
  below : Below w.heap.size w wr
section
variable {w wr w2 : World} {h m k nw h2 m2 k2 nw2 : Nat} {L L2 : List Tm} {O O2 : Nat → Prop}
theorem Pair.swap (P : Pair w h m L k nw O h2 m2 L2 k2 nw2 O2 wr) : Pair w h2 m2 L2 k2 nw2 O2 h m L k nw O wr := ⟨P.b, P.a, fun j h1 h2 => P.apart j h2 h1, P.below⟩
theorem Pair.turn {L' : List Tm} {k' nw' : Nat} {O' : Nat → Prop} (P : Pair w h m L k nw O h2 m2 L2 k2 nw2 O2 wr) (h1 : AtWheel w2 w.heap.size h m L' k' nw' O') (ho : Only O wr w2) (h3 : ∀ j, O' j → O j ∨ wr.heap.size ≤ j) : Pair w h m L' k' nw' O' h2 m2 L2 k2 nw2 O2 w2 :=
  ⟨h1, P.b.only ho (fun j hj ho => P.apart j ho hj), fun j hj h6 => (h3 j hj).elim (fun h7 => P.apart j h7 h6) (fun h7 => by have := (P.b.lt h6).2; omega), P.below.trans (only_below P.a ho P.below.size)⟩
theorem pair_set1 (P : Pair w h m L k nw O h2 m2 L2 k2 nw2 O2 wr) (hk : k ≤ 900000) (hlen : L.length ≤ 900000) (t : Nat) (what : Int) (ht : nw < t) (ht2 : t ≤ 2097152) :
    Calls Try.prog 13 #[.pointer (some ⟨h, 0, none⟩), .int .i64 (t : Nat), .int .i64 what] wr fun e w' => e = .returned (.tuple #[.int .i64 ((k : Int) + 1), .int .i64 0]) ∧ ∃ b O', Pair w h m (⟨b, t, k + 1, what⟩ :: L) (k + 1) nw O' h2 m2 L2 k2 nw2 O2 w' :=
  (seton_at P.a hk hlen P.below.size t what ht ht2).mono fun _ _ ⟨he, b, O', a1, a2, a3⟩ => ⟨he, b, O', P.turn a1 a2 a3⟩
theorem pair_set2 (P : Pair w h m L k nw O h2 m2 L2 k2 nw2 O2 wr) (hk : k2 ≤ 900000) (hlen : L2.length ≤ 900000) (t : Nat) (what : Int) (ht : nw2 < t) (ht2 : t ≤ 2097152) :
    Calls Try.prog 13 #[.pointer (some ⟨h2, 0, none⟩), .int .i64 (t : Nat), .int .i64 what] wr fun e w' => e = .returned (.tuple #[.int .i64 ((k2 : Int) + 1), .int .i64 0]) ∧ ∃ b O', Pair w h m L k nw O h2 m2 (⟨b, t, k2 + 1, what⟩ :: L2) (k2 + 1) nw2 O' w' :=
  (pair_set1 P.swap hk hlen t what ht ht2).mono fun _ _ ⟨he, b, O', a1⟩ => ⟨he, b, O', a1.swap⟩

/-- Advance, told by the document's list. -/
theorem adv_list {B to : Nat} {r : List Du} (H : AtWheel wr B h m L k nw O) (hk : k ≤ 900000) (hlen : L.length ≤ 900000) (hB : B ≤ wr.heap.size) (hle : nw ≤ to) (hto : to ≤ 1048576) (hp : r.Perm (L.map du)) (hS : Srt r) :
    Calls Try.prog 10 #[.pointer (some ⟨h, 0, none⟩), .int .i64 (to : Nat)] wr fun e w2 => ∃ Ag cg, e = .returned (.tuple #[.slice Ag (upto to r) cg, .int .i64 0]) ∧ ∃ O' L', AtWheel w2 B h m L' k to O' ∧
      w2.ownsRow wr.heap.size 48 3 (.slice Ag (upto to r) cg) (upto to r) (dcells (r.take (upto to r))) ∧ (∀ j, (Value.slice Ag (upto to r) cg).ownBlock = some j → ¬ O' j) ∧ (∀ j, O' j → O j ∨ wr.heap.size ≤ j) ∧ Only O wr w2 ∧ (r.drop (upto to r)).Perm (L'.map du) ∧ L'.length ≤ L.length := by
  refine (advance_at H hk hlen hB to hle hto).mono ?_
  rintro e w2 ⟨Ag, ng, cg, O', L', D, rfl, a1, a2, a3, a4, a5, a6, a7, a8, a9⟩
  obtain ⟨f1, f2, -⟩ := H.facts
  obtain ⟨c1, c2, -, -⟩ := srt_cut (to : Int) hS
  have hd : D = r.take (upto to r) := by
    refine srt_one (a3.trans ?_) a4 (hS.sublist (List.take_sublist _ _))
    rw [c1]
    refine List.Perm.symm ((hp.filter _).trans (List.Perm.of_eq ?_))
    rw [List.filter_map, dues]
    congr 1
    refine List.filter_congr fun t _ => ?_
    simp [du]
  have hlen2 : (r.take (upto to r)).length = upto to r := by
    have := upto_le (to : Int) r
    rw [List.length_take]
    omega
  subst hd
  obtain rfl : ng = upto to r := by omega
  have hL' : L'.Perm (L.filter fun t => decide (to < t.tick)) := by
    refine perm_of_mem (nodup_of a1.facts.1) ((nodup_of f1).filter _) fun t => ?_
    rw [a2 t, List.mem_filter]
    simp
  refine ⟨Ag, cg, rfl, O', L', a1, a6, a7, a8, a9, ?_, ?_⟩
  · rw [c2]
    refine (hp.filter _).trans ?_
    rw [List.filter_map]
    refine (List.Perm.of_eq ?_).trans (hL'.symm.map du)
    congr 1
    refine List.filter_congr fun t _ => ?_
    simp [du]
  · rw [hL'.length_eq]
    exact List.length_filter_le _ _

/-- A wheel; what was due at once; what was due in stages. -/
structure Cuts (w : World) (h m : Nat) (L : List Tm) (k nw : Nat) (O : Nat → Prop) (xs : List Du) (X : Option Addr) (ys : List Du) (Y : Option Addr) (n c B : Nat) (wr : World) : Prop where
  at_ : AtWheel wr w.heap.size h m L k nw O
  below : Below w.heap.size w wr
  xr : Dus (RowOf X) wr X xs
  xo : ∀ j, RowOf X j → j < B ∧ ¬ O j
  y : wr.ownsRow B 48 3 (.slice Y n c) n (dcells ys)
  yo : ∀ j, (Value.slice Y n c).ownBlock = some j → ¬ O j
  len : ys.length = n
  low : w.heap.size ≤ B
  size : B ≤ wr.heap.size

theorem pair_advance {to : Nat} {r : List Du} (P : Pair w h m L k nw O h2 m2 L2 k2 nw2 O2 wr) (hk : k ≤ 900000) (hlen : L.length ≤ 900000) (hle : nw ≤ to) (hto : to ≤ 1048576) (hp : r.Perm (L.map du)) (hS : Srt r) :
    Calls Try.prog 10 #[.pointer (some ⟨h, 0, none⟩), .int .i64 (to : Nat)] wr fun e w' => ∃ X cx, e = .returned (.tuple #[.slice X (upto to r) cx, .int .i64 0]) ∧ Cuts w h2 m2 L2 k2 nw2 O2 (r.take (upto to r)) X [] none 0 0 w'.heap.size w' := by
  refine (adv_list P.a hk hlen P.below.size hle hto hp hS).mono ?_
  rintro e w' ⟨X, cx, rfl, O', L', a1, a2, a3, a4, a5, -, -⟩
  have P2 := P.turn a1 a5 a4
  have hrow : ∀ j, RowOf X j → (Value.slice X (upto to r) cx).ownBlock = some j := fun j ⟨o, hj⟩ => by rw [hj]; rfl
  refine ⟨X, cx, rfl, P2.b, P2.below, (Dus.own a2).mono fun j hj => ?_, fun j hj => ⟨(a2.lt j (hrow j hj)).2, fun ho => ?_⟩, World.ownsRow_nil _ _ _ _, fun j hj => by simp [Value.ownBlock] at hj, rfl, P2.below.size, Nat.le_refl _⟩
  · rcases a2.2 with ⟨h3, h4⟩ | ⟨g, cap, cur, h3, _⟩
    · rw [h3] at hj
      simp [Value.ownBlock] at hj
    · simp only [Value.slice.injEq] at h3
      rw [h3.1] at hj
      simp only [Value.ownBlock, Option.some.injEq] at hj
      subst hj
      exact ⟨0, h3.1⟩
  · have h5 := (a2.lt j (hrow j hj)).1
    have h6 := (P.b.lt ho).2
    omega
end

section
variable {w wr w2 : World} {h m k nw n c B : Nat} {L : List Tm} {O : Nat → Prop} {xs ys : List Du} {X Y : Option Addr}
theorem Cuts.later (C : Cuts w h m L k nw O xs X ys Y n c B wr) (hb : Below wr.heap.size wr w2) : Cuts w h m L k nw O xs X ys Y n c B w2 :=
  ⟨C.at_.below hb, C.below.trans (hb.mono (Nat.le_trans C.low C.size)), C.xr.kept fun j hj => hb.block j (Nat.lt_of_lt_of_le (C.xo j hj).1 C.size), C.xo, own_kept C.y fun j hj => hb.block j (C.y.lt j hj).2, C.yo, C.len, C.low, Nat.le_trans C.size hb.size⟩
theorem Cuts.drawn (C : Cuts w h m L k nw O xs X ys Y n c B wr) (q : Nat) : Cuts w h m L k nw O xs X ys Y n c B (wr.drewN q) := C.later (below_drawn (Below.refl _ _))
theorem Cuts.reads (C : Cuts w h m L k nw O xs X ys Y n c B wr) : Dus (fun _ => True) wr Y ys := (Dus.own C.y).mono fun _ _ => trivial
theorem cuts_advance {to : Nat} {r : List Du} (C : Cuts w h m L k nw O xs X ys Y n c B wr) (hk : k ≤ 900000) (hlen : L.length ≤ 900000) (hle : nw ≤ to) (hto : to ≤ 1048576) (hp : r.Perm (L.map du)) (hS : Srt r) :
    Calls Try.prog 10 #[.pointer (some ⟨h, 0, none⟩), .int .i64 (to : Nat)] wr fun e w' => ∃ Z cz, e = .returned (.tuple #[.slice Z (upto to r) cz, .int .i64 0]) ∧ ∃ O' L', Cuts w h m L' k to O' xs X ys Y n c B w' ∧
      Dus (fun _ => True) w' Z (r.take (upto to r)) ∧ (Z = none → upto to r = 0 ∧ cz = 0) ∧ (r.drop (upto to r)).Perm (L'.map du) ∧ L'.length ≤ L.length := by
  have hsz := C.size
  refine (adv_list C.at_ hk hlen (Nat.le_trans C.low C.size) hle hto hp hS).mono ?_
  rintro e w' ⟨Z, cz, rfl, O', L', a1, a2, a3, a4, a5, a6, a7⟩
  refine ⟨Z, cz, rfl, O', L', ⟨a1, C.below.trans (only_below C.at_ a5 (Nat.le_trans C.low C.size)), C.xr.kept fun j hj => a5.block j (Nat.lt_of_lt_of_le (C.xo j hj).1 C.size) (C.xo j hj).2, fun j hj => ⟨(C.xo j hj).1, fun ho => ?_⟩, own_kept C.y fun j hj => a5.block j (C.y.lt j hj).2 (C.yo j hj), fun j hj ho => ?_, C.len, C.low, Nat.le_trans C.size a5.size⟩, (Dus.own a2).mono fun _ _ => trivial, fun hz => ?_, a6, a7⟩
  · rcases a4 j ho with h6 | h6
    · exact (C.xo j hj).2 h6
    · have := (C.xo j hj).1
      omega
  · have h7 := (C.y.lt j hj).2
    rcases a4 j ho with h6 | h6
    · exact C.yo j hj h6
    · omega
  · rcases a2.2 with ⟨h3, h4⟩ | ⟨g, cap, cur, h3, _⟩
    · simp only [Value.slice.injEq] at h3
      exact h3.2
    · rw [hz] at h3
      simp at h3
/-- append of what was due. -/
theorem wpList_onto {w0 : World} {ops : Array Oper} {rest : List Oper} {o : Oper} {a : Act} {Q : Exit → Act → World → Prop} (hgd : o.guard = none) (s x : Operand)
    (ho : o.op = .call { callee := .builtin .append, args := #[s, x], argTypes := #[34, 34] })
    (C : Cuts w0 h m L k nw O xs X ys Y n c B w) (hs : a.eval s = .slice Y n c) {Z : Option Addr} {p cz N : Nat} {zs : List Du} (hx : a.eval x = .slice Z p cz) (hz : Dus (fun _ => True) w Z zs) (hl : zs.length = p) (hnone : Z = none → p = 0 ∧ cz = 0) (hm : n + p ≤ 1000000) (hN : n + p = N)
    (hh : ∀ Y' c' w', Cuts w0 h m L k nw O xs X (ys ++ zs) Y' N c' B w' → wpList Try.prog ops Q rest (a.put o.dst (.slice Y' N c')) w') : wpList Try.prog ops Q (o :: rest) a w := by
  subst hN
  obtain ⟨i0, hi, hz0, hz1, hz2⟩ := info_parts info_due
  refine wpList_append_all w hgd s x _ ho B 48 i0 (.agg #[.int .i64 0, .int .i64 0, .int .i64 0]) 3 24 Try.underlying34 hi hz0 hz1 hz2 rfl (by decide) _ n _ hs C.y Z p cz (dcells zs) hx hnone (by rw [dcells_len, hl]) hz.news (dcells_one _) (by unfold maxLen; omega) (by omega) C.size w.heap.size rfl ?_
  intro Y' c' w' h1 h2 h3
  have ho2 : Only (fun j => (Value.slice Y n c).ownBlock = some j) w w' := Only.grow h2 fun j hj => hj
  refine hh Y' c' w' ⟨C.at_.kept fun j hj => ho2.block j (C.at_.lt hj).2 fun e => C.yo j e hj, C.below.trans ((ho2.below C.size fun j hj => (C.y.lt j hj).1).mono C.low), C.xr.kept fun j hj => ho2.block j (Nat.lt_of_lt_of_le (C.xo j hj).1 C.size) fun e => ?_, C.xo, by rw [dcells_two]; exact h1, fun j hj hO => ?_, by rw [List.length_append, C.len, hl], C.low, Nat.le_trans C.size ho2.size⟩
  · have h4 := (C.y.lt j e).1
    have h5 := (C.xo j hj).1
    omega
  · rcases h3 with h3 | h3
    · rw [h3] at hj
      exact C.yo j hj hO
    · rw [h3] at hj
      simp only [Option.some.injEq] at hj
      have := (C.at_.lt hO).2
      omega
end

/-! How many are due, in stages. -/
theorem upto_mono : ∀ {a b : Int} (r : List Du), a ≤ b → upto a r ≤ upto b r
  | _, _, [], _ => by simp [upto]
  | a, b, x :: l, h => by
    have ih := upto_mono l h
    unfold upto at *
    by_cases h1 : x.1 ≤ a
    · have h2 : x.1 ≤ b := by omega
      simp [h1, h2]
      exact ih
    · simp [h1]
theorem upto_drop (e : Int) : ∀ (r : List Du) (u : Nat), u ≤ upto e r → u + upto e (r.drop u) = upto e r
  | r, 0, _ => by simp
  | [], u + 1, h => by simp [upto] at h
  | x :: l, u + 1, h => by
    by_cases h1 : x.1 ≤ e
    · have h2 : upto e (x :: l) = upto e l + 1 := by simp [upto, h1]
      rw [h2] at h ⊢
      have := upto_drop e l u (by omega)
      simp only [List.drop_succ_cons]
      omega
    · have h2 : upto e (x :: l) = 0 := by simp [upto, h1]
      omega
theorem upto_stage {k e : Int} {r : List Du} {u : Nat} (hu : u ≤ upto e r) (hk : k ≤ e) : u + upto k (r.drop u) ≤ upto e r := by
  have h1 := upto_drop e r u hu
  have h2 := upto_mono (r.drop u) hk
  omega
theorem take_stage (r : List Du) (u p : Nat) : r.take u ++ (r.drop u).take p = r.take (u + p) := List.take_add.symm
theorem drop_stage (r : List Du) (u p : Nat) : (r.drop u).drop p = r.drop (u + p) := by rw [List.drop_drop]
end Go.Proofs.Ytadppcmbkccmnaa
