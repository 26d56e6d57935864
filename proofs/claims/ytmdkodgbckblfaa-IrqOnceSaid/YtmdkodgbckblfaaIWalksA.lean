/-
  Contracts: Len, has, Raise, Mask, Ack; of no controller, too.
-/
import Derived.Test.YtmdkodgbckblfaaIMem
import Derived.Test.YtmdkodgbckblfaaKit
namespace Go.Proofs.Ytmdkodgbckblfaa
open Go.ChangeShapes Go.WideShapes Go.ChangeAt Go.RowKit

section
variable {w : World} {h g : Nat} {L : List Ln}
theorem len_any (H : IqIs w h g L) : Calls Try.prog 8 #[.pointer (some ⟨h, 0, none⟩)] w fun e w' => e = .returned (.int .i64 (L.length : Nat)) ∧ w = w' := by
  have hc := H.lines
  clear H
  generalize L.length = n at *
  go_enter Try.func8, Try.ntmps8
  go_wp2
  go_ret
  exact ⟨rfl, rfl⟩
theorem len_nil (w : World) : Calls Try.prog 8 #[.pointer none] w fun e w' => e = .returned (.int .i64 0) ∧ w = w' := by
  go_enter Try.func8, Try.ntmps8
  go_wp2
  go_ret
  exact ⟨rfl, rfl⟩
theorem has_any (H : IqIs w h g L) (i : Int) : Calls Try.prog 21 #[.pointer (some ⟨h, 0, none⟩), .int .i64 i] w fun e w' => e = .returned (.bool (hasL L i)) ∧ w = w' := by
  have HLe := Lib.hid (len_any H)
  by_cases h0 : i < 0
  · rw [hasL_out (Or.inl h0)]
    have h1 : ¬ (0 : Int) ≤ i := by omega
    clear H HLe
    go_enter Try.func21, Try.ntmps21
    go_wp2
    go_ret
    exact ⟨rfl, rfl⟩
  · have h1 : (0 : Int) ≤ i := by omega
    obtain ⟨b, hb⟩ : ∃ b, hasL L i = b := ⟨_, rfl⟩
    rw [hb]
    have h2 : decide (i < (L.length : Int)) = b := by
      rw [← hb, hasL]
      simp [h1]
    generalize L.length = n at *
    clear H hb h0
    go_enter Try.func21, Try.ntmps21
    go_wp2_with (go_at_call 8; refine HLe.out.mono ?_; rintro e w' ⟨rfl, rfl⟩)
    go_ret
    exact ⟨rfl, rfl⟩
theorem has_nil (w : World) : Calls Try.prog 21 #[.pointer none, .int .i64 0] w fun e w' => e = .returned (.bool false) ∧ w = w' := by
  go_enter Try.func21, Try.ntmps21
  go_wp2_with (go_at_call 8; refine (len_nil _).mono ?_; rintro e w' ⟨rfl, rfl⟩)
  go_ret
  exact ⟨rfl, rfl⟩
theorem raise_nil (w : World) : Calls Try.prog 9 #[.pointer none, .int .i64 0] w fun e w' => e = .returned (.int .i64 1) ∧ w = w' := by
  go_enter Try.func9, Try.ntmps9
  go_wp2_with (go_at_call 21; refine (has_nil _).mono ?_; rintro e w' ⟨rfl, rfl⟩)
  go_ret
  exact ⟨rfl, rfl⟩
theorem mask_nil (w : World) : Calls Try.prog 10 #[.pointer none, .int .i64 0, .bool true] w fun e w' => e = .returned (.int .i64 1) ∧ w = w' := by
  go_enter Try.func10, Try.ntmps10
  go_wp2_with (go_at_call 21; refine (has_nil _).mono ?_; rintro e w' ⟨rfl, rfl⟩)
  go_ret
  exact ⟨rfl, rfl⟩
theorem ack_nil (w : World) : Calls Try.prog 11 #[.pointer none, .int .i64 0] w fun e w' => e = .returned (.int .i64 1) ∧ w = w' := by
  go_enter Try.func11, Try.ntmps11
  go_wp2_with (go_at_call 21; refine (has_nil _).mono ?_; rintro e w' ⟨rfl, rfl⟩)
  go_ret
  exact ⟨rfl, rfl⟩

/-- The lines have changed, and nothing else. -/
def Turned (h g : Nat) (L' : List Ln) (v : Value) (w : World) (e : Ending) (w' : World) : Prop := e = .returned v ∧ IqIs w' h g L' ∧ Only (· = g) w w'
theorem turned_same (H : IqIs w h g L) (v : Value) : Turned h g L v w (.returned v) w := ⟨rfl, H, Only.refl _ _⟩
theorem turned_put (H : IqIs w h g L) {i j : Nat} {x y : Ln} {u : Value} (hx : L[i]? = some x) (hj : j < 4) (hs : (lcells x).set j u = lcells y) (v : Value) : Turned h g (L.set i y) v w (.returned v) (w.setCell ⟨g, i * 4 + j, none⟩ u) :=
  ⟨rfl, H.put hx hj hs, (Only.refl (· = g) w).put (p := ⟨g, i * 4 + j, none⟩) (Or.inl rfl) _⟩
theorem turned_put0 (H : IqIs w h g L) {i : Nat} {x y : Ln} {u : Value} (hx : L[i]? = some x) (hs : (lcells x).set 0 u = lcells y) (v : Value) : Turned h g (L.set i y) v w (.returned v) (w.setCell ⟨g, i * 4, none⟩ u) := turned_put (j := 0) H hx (by omega) hs v
set_option maxHeartbeats 1000000 in
theorem raise_any (H : IqIs w h g L) (i : Int) : Calls Try.prog 9 #[.pointer (some ⟨h, 0, none⟩), .int .i64 i] w (Turned h g (raiseL L i) (.int .i64 (raiseE L i)) w) := by
  have HT := Lib.hid (has_any H i)
  cases hb : hasL L i with
  | false =>
    have hE : raiseE L i = 1 := by simp [raiseE, hb]
    have hL : raiseL L i = L := by simp [raiseL, hb]
    rw [hE, hL]
    rw [hb] at HT
    have HE := Lib.hid (turned_same H (.int .i64 1))
    clear H hb hE hL
    go_enter Try.func9, Try.ntmps9
    go_wp2_with (go_at_call 21; refine HT.out.mono ?_; rintro e w' ⟨rfl, rfl⟩)
    go_ret
    exact HE.out
  | true =>
    obtain ⟨k, hk, hlt, hx⟩ := hasL_hit hb
    have hk2 : i.toNat = k := by omega
    obtain ⟨c0, c1, c2, c3⟩ := H.at_ hx
    have hc := H.lines
    have hf := H.free
    have hl := H.low.2
    rw [hb] at HT
    cases hr : (lnAt L i).ra with
    | true =>
      obtain ⟨d', hd⟩ : ∃ d', IntKind.i64.wrap ((lnAt L i).dr + 1) = d' := ⟨_, rfl⟩
      have hE : raiseE L i = 7 := by simp [raiseE, hb, hr]
      have HE : Hid (Turned h g (raiseL L i) (.int .i64 7) w (.returned (.int .i64 7)) (w.setCell ⟨g, k * 4 + 3, none⟩ (.int .i64 d'))) := Lib.hid (by
        unfold raiseL
        rw [if_pos hb, if_pos hr, hk2]
        refine turned_put H hx (by omega) ?_ _
        rw [← hd]
        rfl)
      rw [hE]
      rw [hr] at c0
      subst hk
      generalize raiseL L (k : Int) = L' at *
      generalize (lnAt L (k : Int)).ma = ma at *
      generalize (lnAt L (k : Int)).se = se at *
      generalize (lnAt L (k : Int)).dr = d at *
      generalize L.length = n at *
      have h0 : (0 : Int) ≤ k := by omega
      have h1 : (k : Int) < n := by omega
      clear H hb hE hx hr hk2
      go_enter Try.func9, Try.ntmps9
      go_wp2_with (go_at_call 21; refine HT.out.mono ?_; rintro e w' ⟨rfl, rfl⟩)
      go_ret
      exact HE.out
    | false =>
      have hE : raiseE L i = 0 := by simp [raiseE, hb, hr]
      have HE : Hid (Turned h g (raiseL L i) (.int .i64 0) w (.returned (.int .i64 0)) (w.setCell ⟨g, k * 4, none⟩ (.bool true))) := Lib.hid (by
        have hr2 : ¬ (lnAt L i).ra = true := by rw [hr]; decide
        unfold raiseL
        rw [if_pos hb, if_neg hr2, hk2]
        refine turned_put0 H hx ?_ _
        rfl)
      rw [hE]
      rw [hr] at c0
      subst hk
      generalize raiseL L (k : Int) = L' at *
      generalize (lnAt L (k : Int)).ma = ma at *
      generalize (lnAt L (k : Int)).se = se at *
      generalize (lnAt L (k : Int)).dr = d at *
      generalize L.length = n at *
      have h0 : (0 : Int) ≤ k := by omega
      have h1 : (k : Int) < n := by omega
      clear H hb hE hx hr hk2
      go_enter Try.func9, Try.ntmps9
      go_wp2_with (go_at_call 21; refine HT.out.mono ?_; rintro e w' ⟨rfl, rfl⟩)
      go_ret
      exact HE.out
set_option maxHeartbeats 1000000 in
theorem mask_any (H : IqIs w h g L) (i : Int) (b : Bool) : Calls Try.prog 10 #[.pointer (some ⟨h, 0, none⟩), .int .i64 i, .bool b] w (Turned h g (maskL L i b) (.int .i64 (maskE L i)) w) := by
  have HT := Lib.hid (has_any H i)
  cases hb : hasL L i with
  | false =>
    have hE : maskE L i = 1 := by simp [maskE, hb]
    have hL : maskL L i b = L := by simp [maskL, hb]
    rw [hE, hL]
    rw [hb] at HT
    have HE := Lib.hid (turned_same H (.int .i64 1))
    clear H hb hE hL
    go_enter Try.func10, Try.ntmps10
    go_wp2_with (go_at_call 21; refine HT.out.mono ?_; rintro e w' ⟨rfl, rfl⟩)
    go_ret
    exact HE.out
  | true =>
    obtain ⟨k, hk, hlt, hx⟩ := hasL_hit hb
    have hk2 : i.toNat = k := by omega
    obtain ⟨c0, c1, c2, c3⟩ := H.at_ hx
    have hc := H.lines
    have hf := H.free
    have hl := H.low.2
    rw [hb] at HT
    have hE : maskE L i = 0 := by simp [maskE, hb]
    have HE : Hid (Turned h g (maskL L i b) (.int .i64 0) w (.returned (.int .i64 0)) (w.setCell ⟨g, k * 4 + 1, none⟩ (.bool b))) := Lib.hid (by
      unfold maskL
      rw [if_pos hb, hk2]
      exact turned_put H hx (by omega) rfl _)
    rw [hE]
    subst hk
    generalize maskL L (k : Int) b = L' at *
    generalize (lnAt L (k : Int)).ra = ra at *
    generalize (lnAt L (k : Int)).ma = ma at *
    generalize (lnAt L (k : Int)).se = se at *
    generalize (lnAt L (k : Int)).dr = d at *
    generalize L.length = n at *
    have h0 : (0 : Int) ≤ k := by omega
    have h1 : (k : Int) < n := by omega
    clear H hb hE hx hk2
    go_enter Try.func10, Try.ntmps10
    go_wp2_with (go_at_call 21; refine HT.out.mono ?_; rintro e w' ⟨rfl, rfl⟩)
    go_ret
    exact HE.out
set_option maxHeartbeats 1000000 in
theorem ack_any (H : IqIs w h g L) (i : Int) : Calls Try.prog 11 #[.pointer (some ⟨h, 0, none⟩), .int .i64 i] w (Turned h g (ackL L i) (.int .i64 (ackE L i)) w) := by
  have HT := Lib.hid (has_any H i)
  cases hb : hasL L i with
  | false =>
    have hE : ackE L i = 1 := by simp [ackE, hb]
    have hL : ackL L i = L := by simp [ackL, hb]
    rw [hE, hL]
    rw [hb] at HT
    have HE := Lib.hid (turned_same H (.int .i64 1))
    clear H hb hE hL
    go_enter Try.func11, Try.ntmps11
    go_wp2_with (go_at_call 21; refine HT.out.mono ?_; rintro e w' ⟨rfl, rfl⟩)
    go_ret
    exact HE.out
  | true =>
    obtain ⟨k, hk, hlt, hx⟩ := hasL_hit hb
    have hk2 : i.toNat = k := by omega
    obtain ⟨c0, c1, c2, c3⟩ := H.at_ hx
    have hc := H.lines
    have hf := H.free
    have hl := H.low.2
    rw [hb] at HT
    cases hr : (lnAt L i).se with
    | true =>
      have hE : ackE L i = 0 := by simp [ackE, hb, hr]
      have HE : Hid (Turned h g (ackL L i) (.int .i64 0) w (.returned (.int .i64 0)) (w.setCell ⟨g, k * 4 + 2, none⟩ (.bool false))) := Lib.hid (by
        unfold ackL
        rw [if_pos hb, if_pos hr, hk2]
        exact turned_put H hx (by omega) rfl _)
      rw [hE]
      rw [hr] at c2
      subst hk
      generalize ackL L (k : Int) = L' at *
      generalize (lnAt L (k : Int)).ra = ra at *
      generalize (lnAt L (k : Int)).ma = ma at *
      generalize (lnAt L (k : Int)).dr = d at *
      generalize L.length = n at *
      have h0 : (0 : Int) ≤ k := by omega
      have h1 : (k : Int) < n := by omega
      clear H hb hE hx hr hk2
      go_enter Try.func11, Try.ntmps11
      go_wp2_with (go_at_call 21; refine HT.out.mono ?_; rintro e w' ⟨rfl, rfl⟩)
      go_ret
      exact HE.out
    | false =>
      have hE : ackE L i = 25 := by simp [ackE, hb, hr]
      have hL : ackL L i = L := by simp [ackL, hb, hr]
      rw [hE, hL]
      have HE := Lib.hid (turned_same H (.int .i64 25))
      rw [hr] at c2
      subst hk
      generalize (lnAt L (k : Int)).ra = ra at *
      generalize (lnAt L (k : Int)).ma = ma at *
      generalize (lnAt L (k : Int)).dr = d at *
      generalize hn : L.length = n at *
      have h0 : (0 : Int) ≤ k := by omega
      have h1 : (k : Int) < n := by omega
      clear H hb hE hx hr hk2 hL hn
      go_enter Try.func11, Try.ntmps11
      go_wp2_with (go_at_call 21; refine HT.out.mono ?_; rintro e w' ⟨rfl, rfl⟩)
      go_ret
      exact HE.out
end
end Go.Proofs.Ytmdkodgbckblfaa
