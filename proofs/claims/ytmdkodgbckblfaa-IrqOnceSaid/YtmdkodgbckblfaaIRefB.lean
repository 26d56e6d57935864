/-
  The document's answers: Raise, Mask, Ack (typed by tools/gen_irefb.py).
-/
import Derived.Test.YtmdkodgbckblfaaIRef
namespace Go.Proofs.Ytmdkodgbckblfaa
open Go.ChangeShapes Go.WideShapes Go.ChangeAt Go.RowKit

section
variable {w : World} {g n c : Nat} {L : List Ln}
theorem next_same (H : Rw w g L) (hg : g < w.heap.size) (hc : n ≤ c) (hc63 : c ≤ 9223372036854775807) : Next w w g g n c L := ⟨H, Or.inl rfl, hg, hc, hc63, Below.refl _ _⟩
/-- What a call that makes a row tells beside it. -/
def Told2 (w : World) (g n : Nat) (L' : List Ln) (v : Value → Value) (e : Ending) (w' : World) : Prop := ∃ g' c', e = .returned (v (.slice (some ⟨g', 0, none⟩) n c')) ∧ Next w w' g g' n c' L'
theorem next_later {w1 w' : World} {g' c' : Nat} {L' : List Ln} (h : Next w1 w' g g' n c' L') (hb : Below w.heap.size w w1) : Next w w' g g' n c' L' :=
  ⟨h.rw_, h.at_.elim Or.inl (fun h2 => Or.inr (Nat.le_trans hb.size h2)), h.lt, h.cap, h.c63, hb.trans (h.below.mono hb.size)⟩
set_option maxHeartbeats 1000000 in
theorem rmask_any (H : Rw w g L) (hg : g < w.heap.size) (hn : L.length = n) (hm : n ≤ 8) (hc : n ≤ c) (hc63 : c ≤ 9223372036854775807) (i : Int) (b : Bool) : Calls Try.prog 14 #[.slice (some ⟨g, 0, none⟩) n c, .int .i64 i, .bool b] w (Told2 w g n (maskL L i b) fun v => .tuple #[v, .int .i64 (maskE L i)]) := by
  have HT := Lib.hid (rhas_any hn (c := c) (some ⟨g, 0, none⟩) i w)
  cases hb : hasL L i with
  | false =>
    have hE : maskE L i = 1 := by simp [maskE, hb]
    have hL : maskL L i b = L := by simp [maskL, hb]
    rw [hE, hL]
    rw [hb] at HT
    have HN := Lib.hid (next_same H hg hc hc63)
    clear H hE hL hb
    go_enter Try.func14, Try.ntmps14
    go_wp2_with (go_at_call 19; refine HT.out.mono ?_; rintro e w' ⟨rfl, rfl⟩)
    go_ret2
    exact ⟨g, c, rfl, HN.out⟩
  | true =>
    obtain ⟨k, hk, hlt, hx⟩ := hasL_hit hb
    have hk2 : i.toNat = k := by omega
    obtain ⟨c0, c1, c2, c3⟩ := H.at_ hx
    have i0 : (0 : Int) ≤ k := by omega
    have i1 : (k : Int) < n := by omega
    have hE : maskE L i = 0 := by simp [maskE, hb]
    rw [hE]
    rw [hb] at HT
    have HW : Hid (∀ w1, Below w.heap.size w w1 → Calls Try.prog 22 #[.slice (some ⟨g, 0, none⟩) n c, .int .i64 (k : Nat), .agg #[.bool (lnAt L i).ra, .bool b, .bool (lnAt L i).se, .int .i64 (lnAt L i).dr]] w1 fun e w' => ∃ g' c', e = .returned (.slice (some ⟨g', 0, none⟩) n c') ∧ Next w w' g g' n c' (maskL L i b)) := Lib.hid fun w1 hbl => by
      have hL : maskL L i b = L.set k ⟨(lnAt L i).ra, b, (lnAt L i).se, (lnAt L i).dr⟩ := by
        unfold maskL
        rw [if_pos hb, hk2]
      rw [hL]
      refine (with_any (H.below hg hbl) (Nat.lt_of_lt_of_le hg hbl.size) hn hm (by omega) ⟨(lnAt L i).ra, b, (lnAt L i).se, (lnAt L i).dr⟩).mono ?_
      rintro e w' ⟨g', c', rfl, h1⟩
      exact ⟨g', c', rfl, next_later h1 hbl⟩
    have HBl : Hid (∀ o, Below w.heap.size w (w.alloc o)) := Lib.hid fun o => (Below.refl _ _).alloc (Nat.le_refl _) o
    clear hE
    subst hk
    generalize maskL L (k : Int) b = L' at *
    generalize (lnAt L (k : Int)).ra = ra at *
    generalize (lnAt L (k : Int)).ma = ma at *
    generalize (lnAt L (k : Int)).se = se at *
    generalize (lnAt L (k : Int)).dr = d at *
    clear H hb hx hk2 hn
    go_enter Try.func14, Try.ntmps14
    go_wp2_with (first
      | (go_at_call 19; refine HT.out.mono ?_; rintro e w' ⟨rfl, rfl⟩)
      | (go_at_call 22; refine (HW.out _ (HBl.out _)).mono ?_; rintro e w2 ⟨g2, c2, rfl, h2⟩; have H2 := Lib.hid h2; clear h2))
    go_ret2
    exact ⟨g2, c2, rfl, H2.out⟩
set_option maxHeartbeats 1000000 in
theorem rack_any (H : Rw w g L) (hg : g < w.heap.size) (hn : L.length = n) (hm : n ≤ 8) (hc : n ≤ c) (hc63 : c ≤ 9223372036854775807) (i : Int) : Calls Try.prog 16 #[.slice (some ⟨g, 0, none⟩) n c, .int .i64 i] w (Told2 w g n (ackL L i) fun v => .tuple #[v, .int .i64 (ackE L i)]) := by
  have HT := Lib.hid (rhas_any hn (c := c) (some ⟨g, 0, none⟩) i w)
  cases hb : hasL L i with
  | false =>
    have hE : ackE L i = 1 := by simp [ackE, hb]
    have hL : ackL L i = L := by simp [ackL, hb]
    rw [hE, hL]
    rw [hb] at HT
    have HN := Lib.hid (next_same H hg hc hc63)
    clear H hE hL hb
    go_enter Try.func16, Try.ntmps16
    go_wp2_with (go_at_call 19; refine HT.out.mono ?_; rintro e w' ⟨rfl, rfl⟩)
    go_ret2
    exact ⟨g, c, rfl, HN.out⟩
  | true =>
    obtain ⟨k, hk, hlt, hx⟩ := hasL_hit hb
    have hk2 : i.toNat = k := by omega
    obtain ⟨c0, c1, c2, c3⟩ := H.at_ hx
    have i0 : (0 : Int) ≤ k := by omega
    have i1 : (k : Int) < n := by omega
    rw [hb] at HT
    cases hr : (lnAt L i).se with
    | true =>
      have hE : ackE L i = 0 := by simp [ackE, hb, hr]
      rw [hE]
      have HW : Hid (∀ w1, Below w.heap.size w w1 → Calls Try.prog 22 #[.slice (some ⟨g, 0, none⟩) n c, .int .i64 (k : Nat), .agg #[.bool (lnAt L i).ra, .bool (lnAt L i).ma, .bool false, .int .i64 (lnAt L i).dr]] w1 fun e w' => ∃ g' c', e = .returned (.slice (some ⟨g', 0, none⟩) n c') ∧ Next w w' g g' n c' (ackL L i)) := Lib.hid fun w1 hbl => by
        have hL : ackL L i = L.set k ⟨(lnAt L i).ra, (lnAt L i).ma, false, (lnAt L i).dr⟩ := by
          unfold ackL
          rw [if_pos hb, if_pos hr, hk2]
        rw [hL]
        refine (with_any (H.below hg hbl) (Nat.lt_of_lt_of_le hg hbl.size) hn hm (by omega) ⟨(lnAt L i).ra, (lnAt L i).ma, false, (lnAt L i).dr⟩).mono ?_
        rintro e w' ⟨g', c', rfl, h1⟩
        exact ⟨g', c', rfl, next_later h1 hbl⟩
      have HBl : Hid (∀ o, Below w.heap.size w (w.alloc o)) := Lib.hid fun o => (Below.refl _ _).alloc (Nat.le_refl _) o
      clear hE
      rw [hr] at c2
      clear hr
      subst hk
      generalize ackL L (k : Int) = L' at *
      generalize (lnAt L (k : Int)).ra = ra at *
      generalize (lnAt L (k : Int)).ma = ma at *
      generalize (lnAt L (k : Int)).se = se at *
      generalize (lnAt L (k : Int)).dr = d at *
      clear H hb hx hk2 hn
      go_enter Try.func16, Try.ntmps16
      go_wp2_with (first
        | (go_at_call 19; refine HT.out.mono ?_; rintro e w' ⟨rfl, rfl⟩)
        | (go_at_call 22; refine (HW.out _ (HBl.out _)).mono ?_; rintro e w2 ⟨g2, c2, rfl, h2⟩; have H2 := Lib.hid h2; clear h2))
      go_ret2
      exact ⟨g2, c2, rfl, H2.out⟩
    | false =>
      have hE : ackE L i = 25 := by simp [ackE, hb, hr]
      have hL : ackL L i = L := by simp [ackL, hb, hr]
      have HNx : Hid (∀ o, Next w (w.alloc o) g g n c (ackL L i)) := Lib.hid fun o => by
        rw [hL]
        have hbl : Below w.heap.size w (w.alloc o) := (Below.refl _ _).alloc (Nat.le_refl _) o
        exact ⟨H.below hg hbl, Or.inl rfl, Nat.lt_of_lt_of_le hg hbl.size, hc, hc63, hbl⟩
      rw [hE]
      rw [hr] at c2
      subst hk
      generalize ackL L (k : Int) = L' at *
      generalize (lnAt L (k : Int)).ra = ra at *
      generalize (lnAt L (k : Int)).ma = ma at *
      generalize (lnAt L (k : Int)).se = se at *
      generalize (lnAt L (k : Int)).dr = d at *
      clear H hb hx hk2 hE hL hr hn
      go_enter Try.func16, Try.ntmps16
      go_wp2_with (go_at_call 19; refine HT.out.mono ?_; rintro e w' ⟨rfl, rfl⟩)
      go_ret2
      exact ⟨g, c, rfl, HNx.out _⟩
set_option maxHeartbeats 1000000 in
theorem rraise_any (H : Rw w g L) (hg : g < w.heap.size) (hn : L.length = n) (hm : n ≤ 8) (hc : n ≤ c) (hc63 : c ≤ 9223372036854775807) (i : Int) : Calls Try.prog 17 #[.slice (some ⟨g, 0, none⟩) n c, .int .i64 i] w (Told2 w g n (raiseL L i) fun v => .tuple #[v, .int .i64 (raiseE L i)]) := by
  have HT := Lib.hid (rhas_any hn (c := c) (some ⟨g, 0, none⟩) i w)
  cases hb : hasL L i with
  | false =>
    have hE : raiseE L i = 1 := by simp [raiseE, hb]
    have hL : raiseL L i = L := by simp [raiseL, hb]
    rw [hE, hL]
    rw [hb] at HT
    have HN := Lib.hid (next_same H hg hc hc63)
    clear H hE hL hb
    go_enter Try.func17, Try.ntmps17
    go_wp2_with (go_at_call 19; refine HT.out.mono ?_; rintro e w' ⟨rfl, rfl⟩)
    go_ret2
    exact ⟨g, c, rfl, HN.out⟩
  | true =>
    obtain ⟨k, hk, hlt, hx⟩ := hasL_hit hb
    have hk2 : i.toNat = k := by omega
    obtain ⟨c0, c1, c2, c3⟩ := H.at_ hx
    have i0 : (0 : Int) ≤ k := by omega
    have i1 : (k : Int) < n := by omega
    rw [hb] at HT
    cases hr : (lnAt L i).ra with
    | true =>
      have hE : raiseE L i = 7 := by simp [raiseE, hb, hr]
      rw [hE]
      obtain ⟨d', hd⟩ : ∃ d', IntKind.i64.wrap ((lnAt L i).dr + 1) = d' := ⟨_, rfl⟩
      have HW : Hid (∀ w1, Below w.heap.size w w1 → Calls Try.prog 22 #[.slice (some ⟨g, 0, none⟩) n c, .int .i64 (k : Nat), .agg #[.bool true, .bool (lnAt L i).ma, .bool (lnAt L i).se, .int .i64 d']] w1 fun e w' => ∃ g' c', e = .returned (.slice (some ⟨g', 0, none⟩) n c') ∧ Next w w' g g' n c' (raiseL L i)) := Lib.hid fun w1 hbl => by
        have hL : raiseL L i = L.set k ⟨true, (lnAt L i).ma, (lnAt L i).se, d'⟩ := by
          unfold raiseL
          rw [if_pos hb, if_pos hr, hk2, ← hd, ← hr]
          rfl
        rw [hL]
        refine (with_any (H.below hg hbl) (Nat.lt_of_lt_of_le hg hbl.size) hn hm (by omega) ⟨true, (lnAt L i).ma, (lnAt L i).se, d'⟩).mono ?_
        rintro e w' ⟨g', c', rfl, h1⟩
        exact ⟨g', c', rfl, next_later h1 hbl⟩
      have HBl : Hid (∀ o, Below w.heap.size w (w.alloc o)) := Lib.hid fun o => (Below.refl _ _).alloc (Nat.le_refl _) o
      clear hE
      rw [hr] at c0
      clear hr
      subst hk
      generalize raiseL L (k : Int) = L' at *
      generalize (lnAt L (k : Int)).ra = ra at *
      generalize (lnAt L (k : Int)).ma = ma at *
      generalize (lnAt L (k : Int)).se = se at *
      generalize (lnAt L (k : Int)).dr = d at *
      clear H hb hx hk2 hn
      go_enter Try.func17, Try.ntmps17
      go_wp2_with (first
        | (go_at_call 19; refine HT.out.mono ?_; rintro e w' ⟨rfl, rfl⟩)
        | (go_at_call 22; refine (HW.out _ (HBl.out _)).mono ?_; rintro e w2 ⟨g2, c2, rfl, h2⟩; have H2 := Lib.hid h2; clear h2))
      go_ret2
      exact ⟨g2, c2, rfl, H2.out⟩
    | false =>
      have hE : raiseE L i = 0 := by simp [raiseE, hb, hr]
      rw [hE]
      have hr2 : ¬ (lnAt L i).ra = true := by rw [hr]; decide
      have HW : Hid (∀ w1, Below w.heap.size w w1 → Calls Try.prog 22 #[.slice (some ⟨g, 0, none⟩) n c, .int .i64 (k : Nat), .agg #[.bool true, .bool (lnAt L i).ma, .bool (lnAt L i).se, .int .i64 (lnAt L i).dr]] w1 fun e w' => ∃ g' c', e = .returned (.slice (some ⟨g', 0, none⟩) n c') ∧ Next w w' g g' n c' (raiseL L i)) := Lib.hid fun w1 hbl => by
        have hL : raiseL L i = L.set k ⟨true, (lnAt L i).ma, (lnAt L i).se, (lnAt L i).dr⟩ := by
          unfold raiseL
          rw [if_pos hb, if_neg hr2, hk2]
        rw [hL]
        refine (with_any (H.below hg hbl) (Nat.lt_of_lt_of_le hg hbl.size) hn hm (by omega) ⟨true, (lnAt L i).ma, (lnAt L i).se, (lnAt L i).dr⟩).mono ?_
        rintro e w' ⟨g', c', rfl, h1⟩
        exact ⟨g', c', rfl, next_later h1 hbl⟩
      have HBl : Hid (∀ o, Below w.heap.size w (w.alloc o)) := Lib.hid fun o => (Below.refl _ _).alloc (Nat.le_refl _) o
      clear hE
      rw [hr] at c0
      clear hr hr2
      subst hk
      generalize raiseL L (k : Int) = L' at *
      generalize (lnAt L (k : Int)).ra = ra at *
      generalize (lnAt L (k : Int)).ma = ma at *
      generalize (lnAt L (k : Int)).se = se at *
      generalize (lnAt L (k : Int)).dr = d at *
      clear H hb hx hk2 hn
      go_enter Try.func17, Try.ntmps17
      go_wp2_with (first
        | (go_at_call 19; refine HT.out.mono ?_; rintro e w' ⟨rfl, rfl⟩)
        | (go_at_call 22; refine (HW.out _ (HBl.out _)).mono ?_; rintro e w2 ⟨g2, c2, rfl, h2⟩; have H2 := Lib.hid h2; clear h2))
      go_ret2
      exact ⟨g2, c2, rfl, H2.out⟩
end
end Go.Proofs.Ytmdkodgbckblfaa
