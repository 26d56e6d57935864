/-
  Contracts: waits, Next, Of, New.
-/
import Derived.Test.YtmdkodgbckblfaaIWalksA
import Derived.Deep.WholeRow
namespace Go.Proofs.Ytmdkodgbckblfaa
open Go.ChangeShapes Go.WideShapes Go.ChangeAt Go.RowKit

section
variable {w : World} {h g : Nat} {L : List Ln}
set_option maxHeartbeats 1000000 in
theorem waits_any (x : Ln) (w : World) : Calls Try.prog 20 #[.agg (lcells x).toArray] w fun e w' => e = .returned (.bool x.rdy) ∧ Below w.heap.size w w' := by
  obtain ⟨ra, ma, se, d⟩ := x
  have hb : ∀ o, Below w.heap.size w (w.alloc o) := fun o => (Below.refl _ _).alloc (Nat.le_refl _) o
  simp only [lcells, Ln.rdy]
  cases ra <;> cases ma <;> cases se <;>
  · go_enter Try.func20, Try.ntmps20
    go_wp2
    go_ret
    exact ⟨rfl, hb _⟩
theorem next_nil (w : World) : Calls Try.prog 7 #[.pointer none] w fun e w' => e = .returned (.tuple #[.int .i64 0, .bool false]) ∧ w = w' := by
  go_enter Try.func7, Try.ntmps7
  go_wp2_with (go_at_call 8; refine (len_nil _).mono ?_; rintro e w' ⟨rfl, rfl⟩)
  go_loopw [7] (fun u7 wr => u7 = .int .i64 0 ∧ w = wr) (fun _ _ => 0)
  case atStart => exact ⟨rfl, rfl⟩
  case round =>
    obtain ⟨rfl, rfl⟩ := hrel
    go_wp2
    go_ret2
    exact ⟨rfl, rfl⟩
set_option maxHeartbeats 1000000 in
theorem next_any (H : IqIs w h g L) : Calls Try.prog 7 #[.pointer (some ⟨h, 0, none⟩)] w (Turned h g (nextL L) (.tuple #[.int .i64 (nextN L), .bool (nextB L)]) w) := by
  obtain ⟨n, hn⟩ : ∃ n, L.length = n := ⟨_, rfl⟩
  have HLe := Lib.hid (len_any H)
  have hl := H.low
  have HH := Lib.hid H
  rw [hn] at hl HLe
  have Hn := Lib.hid hn
  have h0 : (0 : Int) ≤ n := by omega
  have h1 : (n : Int) ≤ 8 := by omega
  clear H hn hl
  go_enter Try.func7, Try.ntmps7
  go_wp2_with (go_at_call 8; refine HLe.out.mono ?_; rintro e w' ⟨rfl, rfl⟩)
  go_loopw [7] (fun u7 wr => ∃ i : Nat, i ≤ n ∧ i ≤ nx L ∧ u7 = .int .i64 (i : Nat) ∧ Below w.heap.size w wr) (fun u7 _ => n - (intOf u7).toNat)
  case atStart => exact ⟨0, Nat.zero_le _, Nat.zero_le _, rfl, Below.refl _ _⟩
  case round =>
    obtain ⟨i, hi, hif, rfl, hb⟩ := hrel
    have HB := Lib.hid hb
    by_cases hlt : i < n
    · obtain ⟨x, hx⟩ : ∃ x, L[i]? = some x := ⟨_, List.getElem?_eq_getElem (by rw [Hn.out]; exact hlt)⟩
      have hI := HH.out.below hb
      obtain ⟨c0, c1, c2, c3⟩ := hI.at_ hx
      have hc := hI.lines
      rw [Hn.out] at hc
      have i0 : (0 : Int) ≤ i := by omega
      have i1 : (i : Int) < n := by omega
      have HWt := Lib.hid (waits_any x wr)
      by_cases hr : x.rdy = true
      · have hni : nx L = i := by
          refine Nat.le_antisymm ?_ hif
          refine Nat.le_of_not_lt fun h3 => ?_
          obtain ⟨y, hy, hyt⟩ := nx_lt L i h3
          rw [hx] at hy
          cases hy
          rw [hr] at hyt
          cases hyt
        have hflt : nx L < L.length := by rw [hni, Hn.out]; exact hlt
        have HE : Hid (∀ w2, Below wr.heap.size wr w2 → (∀ j, w2.frozen? ⟨g, j, none⟩ = false) ∧ w2.cell? ⟨h, 0, none⟩ = some (.slice (some ⟨g, 0, none⟩) n n) ∧ w2.cell? ⟨g, i * 4, none⟩ = some (.bool x.ra) ∧ w2.cell? ⟨g, i * 4 + 2, none⟩ = some (.bool x.se) ∧ h ≠ g ∧ Turned h g (nextL L) (.tuple #[.int .i64 (i : Nat), .bool true]) w (.returned (.tuple #[.int .i64 (i : Nat), .bool true])) ((w2.setCell ⟨g, i * 4, none⟩ (.bool false)).setCell ⟨g, i * 4 + 2, none⟩ (.bool true))) := Lib.hid fun w2 hb2 => by
          have hI2 := hI.below hb2
          have hb3 : Below w.heap.size w w2 := hb.trans (hb2.mono hb.size)
          refine ⟨hI2.free, by rw [hI2.lines, Hn.out], (hI2.at_ hx).1, (hI2.at_ hx).2.2.1, hI2.off, ?_⟩
          have p1 := hI2.put (j := 0) (y := ⟨false, x.ma, x.se, x.dr⟩) (v := .bool false) hx (by omega) rfl
          have p2 := p1.put (i := i) (j := 2) (x := ⟨false, x.ma, x.se, x.dr⟩) (y := told x) (v := .bool true) (by rw [List.getElem?_set, if_pos rfl, if_pos (by rw [Hn.out]; exact hlt)]) (by omega) rfl
          rw [List.set_set] at p2
          have hL : nextL L = L.set i (told x) := by
            unfold nextL
            rw [if_pos hflt, hni, lnAt_in hx]
          rw [hL]
          exact ⟨rfl, p2, ((Only.of_below (S := (· = g)) hb3).put (p := ⟨g, i * 4, none⟩) (Or.inl rfl) _).put (p := ⟨g, i * 4 + 2, none⟩) (Or.inl rfl) _⟩
        have hN : nextN L = (i : Int) := by rw [nextN, if_pos hflt, hni]
        have hE : nextB L = true := by simp [nextB, hflt]
        rw [hN, hE]
        rw [hr] at HWt
        generalize nextL L = L' at *
        simp only [lcells] at HWt
        generalize x.ra = ra at *
        generalize x.ma = ma at *
        generalize x.se = se at *
        generalize x.dr = d at *
        clear hx hif hni hflt hN hE hr hI hb
        go_wp2_with (go_at_call 20; refine HWt.out.mono ?_; rintro e w2 ⟨rfl, hb2⟩; obtain ⟨f1, f2, f3, f4, f5, he⟩ := HE.out _ hb2; have Hend := Lib.hid he; clear he hb2)
        go_ret2
        exact Hend.out
      · have hne : i ≠ nx L := fun e => by
          obtain ⟨y, hy, hyt⟩ := nx_at L (by rw [Hn.out, ← e]; exact hlt)
          rw [← e, hx] at hy
          cases hy
          exact hr hyt
        have Hi : Hid (i + 1 ≤ nx L) := Lib.hid (by omega)
        rw [Bool.not_eq_true] at hr
        rw [hr] at HWt
        have HE : Hid (∀ w2, Below wr.heap.size wr w2 → Below w.heap.size w w2) := Lib.hid fun w2 hb2 => hb.trans (hb2.mono hb.size)
        simp only [lcells] at HWt
        generalize x.ra = ra at *
        generalize x.ma = ma at *
        generalize x.se = se at *
        generalize x.dr = d at *
        clear hx hif hne hr hI hb
        go_wp2_with (go_at_call 20; refine HWt.out.mono ?_; rintro e w2 ⟨rfl, hb2⟩; have Hend := Lib.hid (HE.out _ hb2); clear hb2)
        go_roundw
        case rel => exact ⟨i + 1, by omega, Hi.out, by go_num, Hend.out⟩
        case measure => simp [intOf]; omega
    · obtain rfl : i = n := by omega
      have HE : Hid (Turned h g (nextL L) (.tuple #[.int .i64 (nextN L), .bool (nextB L)]) w (.returned (.tuple #[.int .i64 0, .bool false])) wr) := Lib.hid (by
        have h2 : ¬ nx L < L.length := by rw [Hn.out]; omega
        have hN : nextN L = 0 := if_neg h2
        have hB : nextB L = false := by simp [nextB, h2]
        have hL : nextL L = L := if_neg h2
        rw [hN, hB, hL]
        exact ⟨rfl, HH.out.below hb, Only.of_below hb⟩)
      generalize nextL L = L' at *
      generalize nextN L = a' at *
      generalize nextB L = e' at *
      clear hb
      go_wp2
      go_ret2
      exact HE.out

/-- How a line is. -/
theorem of_any (H : IqIs w h g L) (i : Int) : Calls Try.prog 12 #[.pointer (some ⟨h, 0, none⟩), .int .i64 i] w fun e w' => e = .returned (.agg (lcells (lnAt L i)).toArray) ∧ Below w.heap.size w w' := by
  have HT : Hid (∀ o, Calls Try.prog 21 #[.pointer (some ⟨h, 0, none⟩), .int .i64 i] (w.alloc o) fun e w' => e = .returned (.bool (hasL L i)) ∧ w.alloc o = w') := Lib.hid fun o => has_any (H.below ((Below.refl _ _).alloc (Nat.le_refl _) o)) i
  have hbl : ∀ o, Below w.heap.size w (w.alloc o) := fun o => (Below.refl _ _).alloc (Nat.le_refl _) o
  cases hb : hasL L i with
  | false =>
    rw [hb] at HT
    rw [lnAt_miss hb]
    clear H hb
    go_enter Try.func12, Try.ntmps12
    go_wp2_with (go_at_call 21; refine (HT.out _).mono ?_; rintro e w' ⟨rfl, rfl⟩)
    refine bodyPost_ret (v := .agg #[.bool false, .bool false, .bool false, .int .i64 0]) (by simp [results, Try.results12, go_sem]) rfl ?_
    exact ⟨rfl, hbl _⟩
  | true =>
    obtain ⟨k, hk, hlt, hx⟩ := hasL_hit hb
    have hk2 : i.toNat = k := by omega
    obtain ⟨c0, c1, c2, c3⟩ := H.at_ hx
    have hc := H.lines
    have hl := H.low.2
    have hh := H.hlt
    have hg := H.glt
    rw [hb] at HT
    subst hk
    simp only [lcells]
    generalize (lnAt L (k : Int)).ra = ra at *
    generalize (lnAt L (k : Int)).ma = ma at *
    generalize (lnAt L (k : Int)).se = se at *
    generalize (lnAt L (k : Int)).dr = d at *
    generalize L.length = n at *
    have h0 : (0 : Int) ≤ k := by omega
    have h1 : (k : Int) < n := by omega
    clear H hb hx hk2
    go_enter Try.func12, Try.ntmps12
    go_wp2_with (go_at_call 21; refine (HT.out _).mono ?_; rintro e w' ⟨rfl, rfl⟩)
    refine bodyPost_ret (v := .agg #[.bool ra, .bool ma, .bool se, .int .i64 d]) (by simp [results, Try.results12, go_sem]) rfl ?_
    exact ⟨rfl, hbl _⟩
theorem of_nil (w : World) : Calls Try.prog 12 #[.pointer none, .int .i64 0] w fun e w' => e = .returned (.agg (lcells bare).toArray) ∧ Below w.heap.size w w' := by
  have hbl : ∀ o, Below w.heap.size w (w.alloc o) := fun o => (Below.refl _ _).alloc (Nat.le_refl _) o
  go_enter Try.func12, Try.ntmps12
  go_wp2_with (go_at_call 21; refine (has_nil _).mono ?_; rintro e w' ⟨rfl, rfl⟩)
  refine bodyPost_ret (v := .agg #[.bool false, .bool false, .bool false, .int .i64 0]) (by simp [results, Try.results12, go_sem]) rfl ?_
  exact ⟨rfl, hbl _⟩
end

/-! New. -/
theorem new_bad (n : Int) (w : World) (h1 : n < 1 ∨ 8 < n) : Calls Try.prog 6 #[.int .i64 n] w fun e w' => e = .returned (.tuple #[.pointer none, .int .i64 1]) ∧ w = w' := by
  by_cases h : n < 1
  · clear h1
    go_enter Try.func6, Try.ntmps6
    go_wp2
    go_ret2
    exact ⟨rfl, rfl⟩
  · have h2 : 8 < n := by omega
    clear h1
    go_enter Try.func6, Try.ntmps6
    go_wp2
    go_ret2
    exact ⟨rfl, rfl⟩
end Go.Proofs.Ytmdkodgbckblfaa
