/-
  The document's answers: Next, New.
-/
import Derived.Test.YtmdkodgbckblfaaIRefB
namespace Go.Proofs.Ytmdkodgbckblfaa
open Go.ChangeShapes Go.WideShapes Go.ChangeAt Go.RowKit

section
variable {w : World} {g n c : Nat} {L : List Ln}
set_option maxHeartbeats 1000000 in
theorem rnext_any (H : Rw w g L) (hg : g < w.heap.size) (hn : L.length = n) (hm : n ≤ 8) (hc : n ≤ c) (hc63 : c ≤ 9223372036854775807) : Calls Try.prog 15 #[.slice (some ⟨g, 0, none⟩) n c] w (Told2 w g n (nextL L) fun v => .tuple #[v, .int .i64 (nextR L)]) := by
  have HH := Lib.hid H
  have Hn := Lib.hid hn
  have Hg := Lib.hid hg
  have Hc := Lib.hid hc
  have Hc63 := Lib.hid hc63
  have h1 : (n : Int) ≤ 8 := by omega
  clear H hn hg hc hc63
  go_enter Try.func15, Try.ntmps15
  go_wp2
  go_loopw [4] (fun u4 wr => ∃ (i : Nat), i ≤ n ∧ i ≤ nx L ∧ u4 = .int .i64 (i : Nat) ∧ Below w.heap.size w wr) (fun u4 _ => n - (intOf u4).toNat)
  case atStart => exact ⟨0, Nat.zero_le _, Nat.zero_le _, rfl, Below.refl _ _⟩
  case round =>
    obtain ⟨i, hi, hif, rfl, hb⟩ := hrel
    have HB := Lib.hid hb
    by_cases hlt : i < n
    · obtain ⟨x, hx⟩ : ∃ x, L[i]? = some x := ⟨_, List.getElem?_eq_getElem (by rw [Hn.out]; exact hlt)⟩
      obtain ⟨c0, c1, c2, c3⟩ := (HH.out.below Hg.out hb).at_ hx
      have HBl : Hid (∀ o, Below w.heap.size w (wr.alloc o)) := Lib.hid fun o => below_new (Nat.le_refl _) hb o
      have i0 : (0 : Int) ≤ i := by omega
      have i1 : (i : Int) < n := by omega
      by_cases hr : x.rdy = true
      · have hni : nx L = i := by
          refine Nat.le_antisymm ?_ hif
          refine Nat.le_of_not_lt fun h3 => ?_
          obtain ⟨y, hy, hyt⟩ := nx_lt L i h3
          rw [hx] at hy
          cases hy
          rw [hr] at hyt
          cases hyt
        have hflt : nx L < L.length := by rw [hni, Hn.out]; exact hlt
        obtain ⟨ra, ma, se, d⟩ := x
        obtain ⟨rfl, rfl, rfl⟩ : ra = true ∧ ma = false ∧ se = false := by
          simp only [Ln.rdy, Bool.and_eq_true, Bool.not_eq_true'] at hr
          exact ⟨hr.1.1, hr.1.2, hr.2⟩
        dsimp only at c0 c1 c2 c3
        have HW : Hid (∀ w1, Below w.heap.size w w1 → Calls Try.prog 22 #[.slice (some ⟨g, 0, none⟩) n c, .int .i64 (i : Nat), .agg #[.bool false, .bool false, .bool true, .int .i64 d]] w1 fun e w' => ∃ g' c', e = .returned (.slice (some ⟨g', 0, none⟩) n c') ∧ Next w w' g g' n c' (nextL L)) := Lib.hid fun w1 hbl => by
          have hL : nextL L = L.set i (told ⟨true, false, false, d⟩) := by
            unfold nextL
            rw [if_pos hflt, hni, lnAt_in hx]
          rw [hL]
          refine (with_any (HH.out.below Hg.out hbl) (Nat.lt_of_lt_of_le Hg.out hbl.size) Hn.out hm hlt (told ⟨true, false, false, d⟩)).mono ?_
          rintro e w' ⟨g', c', rfl, h1⟩
          exact ⟨g', c', rfl, next_later h1 hbl⟩
        have hN : nextR L = (i : Int) := by rw [nextR, if_pos hflt, hni]
        have HF : Hid (∀ g2 c2 w2, Next w w2 g g2 n c2 (nextL L) → Told2 w g n (nextL L) (fun v => .tuple #[v, .int .i64 (nextR L)]) (.returned (.tuple #[.slice (some ⟨g2, 0, none⟩) n c2, .int .i64 (i : Nat)])) w2) := Lib.hid fun g2 c2 w2 h2 => by
          rw [hN]
          exact ⟨g2, c2, rfl, h2⟩
        clear hx hif hni hflt hN hr hb
        go_wp2_with (go_at_call 22; refine (HW.out _ (HBl.out _)).mono ?_; rintro e w2 ⟨g2, c2, rfl, h2⟩; have H2 := Lib.hid h2; clear h2)
        go_ret2
        exact HF.out _ _ _ H2.out
      · have hne : i ≠ nx L := fun e => by
          obtain ⟨y, hy, hyt⟩ := nx_at L (by rw [Hn.out, ← e]; exact hlt)
          rw [← e, hx] at hy
          cases hy
          exact hr hyt
        have Hi : Hid (i + 1 ≤ nx L) := Lib.hid (by omega)
        obtain ⟨ra, ma, se, d⟩ := x
        dsimp only at c0 c1 c2 c3
        have hr3 : ra = false ∨ (ra = true ∧ ma = true) ∨ (ra = true ∧ ma = false ∧ se = true) := by
          revert hr
          cases ra <;> cases ma <;> cases se <;> simp [Ln.rdy]
        clear hx hif hne hr hb
        rcases hr3 with rfl | ⟨rfl, rfl⟩ | ⟨rfl, rfl, rfl⟩ <;>
        · go_wp2
          go_roundw
          case rel => exact ⟨i + 1, by omega, Hi.out, by go_num, HBl.out _⟩
          case measure => simp [intOf]; omega
    · obtain rfl : i = n := by omega
      have HF : Hid (Told2 w g i (nextL L) (fun v => .tuple #[v, .int .i64 (nextR L)]) (.returned (.tuple #[.slice (some ⟨g, 0, none⟩) i c, .int .i64 (-1)])) wr) := Lib.hid (by
        have h2 : ¬ nx L < L.length := by rw [Hn.out]; omega
        have hN : nextR L = -1 := if_neg h2
        have hL : nextL L = L := if_neg h2
        rw [hN, hL]
        exact ⟨g, c, rfl, HH.out.below Hg.out hb, Or.inl rfl, Nat.lt_of_lt_of_le Hg.out hb.size, Hc.out, Hc63.out, hb⟩)
      clear hb
      go_wp2
      go_ret2
      exact HF.out
end

/-! New. -/
theorem cells_new (w : World) (cs : List Value) (t : TypeId) : ∀ j u, cs[j]? = some u → (w.alloc (.cells cs.toArray t)).cell? ((⟨w.heap.size, 0, none⟩ : Addr).add j) = some u := fun j u hu => by
  rw [Addr.add_mid, Nat.zero_add, World.cell?_alloc_new]
  simpa using hu
theorem dark_snoc (k : Nat) : rcells (List.replicate k dark) ++ lcells dark = rcells (List.replicate (k + 1) dark) := by
  rw [List.replicate_succ', rcells_two]
  simp [rcells]
/-- The document's list is made. -/
def MadeR (n : Nat) (w : World) (e : Ending) (w' : World) : Prop :=
  ∃ g c, e = .returned (.slice (some ⟨g, 0, none⟩) n c) ∧ Rw w' g (List.replicate n dark) ∧ w.heap.size ≤ g ∧ g < w'.heap.size ∧ n ≤ c ∧ c ≤ 9223372036854775807 ∧ Below w.heap.size w w'
set_option maxHeartbeats 1000000 in
theorem rnew_any (n : Nat) (w : World) (h1 : 1 ≤ n) (h2 : n ≤ 8) : Calls Try.prog 13 #[.int .i64 (n : Nat)] w (MadeR n w) := by
  obtain ⟨i0, hi, hz0, hz1, hz2⟩ := info_parts info_line
  have h3 : (1 : Int) ≤ n := by omega
  have h4 : (n : Int) ≤ 8 := by omega
  have H1 := Lib.hid h1
  clear h1
  go_enter Try.func13, Try.ntmps13
  go_wp2_with fail
  go_loopw [3, 4] (fun x i wr => ∃ (k : Nat) (X : Option Addr) (cx : Nat), k ≤ n ∧ i = .int .i64 k ∧ x = .slice X k cx ∧ k ≤ cx ∧ Hid (wr.ownsRow w.heap.size 45 4 (.slice X k cx) k (rcells (List.replicate k dark))) ∧ Hid (Below w.heap.size w wr)) (fun _ i _ => (n - intOf i).toNat)
  case atStart => exact ⟨0, none, 0, by omega, rfl, rfl, by omega, World.ownsRow_nil _ _ _ _, (Below.refl _ _ : Below w.heap.size w w)⟩
  case round =>
    obtain ⟨k, X, cx, hk, rfl, rfl, hkc, hown, hb⟩ := hrel
    by_cases hlt : k < n
    · have hk0 : (0 : Int) ≤ k := by omega
      have hkn : (k : Int) < n := by omega
      have hz := hb.out.size
      have hown2 := Lib.hid (hown.out.alloc (.cells #[.bool false, .bool true, .bool false, .int .i64 0] 45))
      have HC := Lib.hid (cells_new wr [.bool false, .bool true, .bool false, .int .i64 0] 45)
      go_wp2_with (at_builtin; refine wpList_append_own _ rfl (.tmp 10) (.tmp 12) 36 rfl w.heap.size 45 i0 _ 4 16 Try.underlying36 hi hz0 hz1 hz2 rfl (by decide) (.slice X k cx) k (rcells (List.replicate k dark)) rfl hown2.out ⟨wr.heap.size, 0, none⟩ 1 1 [.bool false, .bool true, .bool false, .int .i64 0] rfl rfl HC.out (by simp [Value.oneCell']) (by unfold maxLen; omega) (by omega) (by simp; omega) ?_; intro v' w3 hown3 hgrow3 hnn3)
      have hb4 := Lib.hid ((hb.out.alloc hz _).grown hgrow3 (by simp; omega) (own_base hown2.out))
      obtain ⟨X', cx', rfl, hkc', _⟩ := own_shape hown3
      have Hown3 : Hid (w3.ownsRow w.heap.size 45 4 (.slice X' (k + 1) cx') (k + 1) (rcells (List.replicate (k + 1) dark))) := (by rw [← dark_snoc]; exact hown3 : w3.ownsRow w.heap.size _ 4 (.slice X' (k + 1) cx') (k + 1) (rcells (List.replicate (k + 1) dark)))
      clear hown3 hgrow3 hnn3
      go_wp2
      go_roundw
      case rel => exact ⟨k + 1, X', cx', by omega, by go_num, rfl, hkc', Hown3.out, hb4.out⟩
      case measure => simp [intOf]; omega
    · obtain rfl : k = n := by omega
      have HF : Hid (MadeR k w (.returned (.slice X k cx)) wr) := Lib.hid (by
        obtain ⟨gr, rfl⟩ := own_some hown.out (by have := H1.out; omega)
        have hlt2 := hown.out.lt gr rfl
        obtain ⟨A', c', hv, e1, e2⟩ := own_shape hown.out
        simp only [Value.slice.injEq, true_and] at hv
        exact ⟨gr, cx, rfl, Rw.own hown.out, hlt2.1, hlt2.2, hkc, by rw [hv.2]; exact e2, hb.out⟩)
      go_wp2
      go_ret
      exact HF.out
end Go.Proofs.Ytmdkodgbckblfaa
