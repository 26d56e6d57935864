/-
  The document's answers: New, Give, Read, Write, Take.
-/
import Derived.Test.YtajmpmehfekokaaYRef
namespace Go.Proofs.Ytajmpmehfekokaa
open Go.ChangeShapes Go.WideShapes Go.ChangeAt Go.RowKit

theorem made_blank (n : Nat) : (madeCells (Value.agg (fcells ⟨false, noughts⟩).toArray).cells (n * 17)).toList = rcells (blank n) := by
  apply List.ext_getElem?
  intro j
  by_cases hj : j < n * 17
  · obtain ⟨i, r, hr, rfl⟩ : ∃ i r, r < 17 ∧ j = i * 17 + r := ⟨j / 17, j % 17, by omega, by omega⟩
    have hi : i < n := by omega
    rw [rcells_at (blank n) i r ⟨false, noughts⟩ (by simp [blank, hi]) hr]
    have hm : (i * 17 + r) % 17 = r := by omega
    have h17 : (fcells ⟨false, noughts⟩).length = 17 := fcells_len _
    have hr2 : r < (fcells ⟨false, noughts⟩).length := by rw [h17]; exact hr
    rw [List.getElem?_eq_getElem hr2]
    simp [madeCells, Value.cells, h17]
    refine ⟨i * 17 + r, List.getElem?_range hj, ?_⟩
    rw [hm, List.getElem?_eq_getElem hr2]
    rfl
  · rw [List.getElem?_eq_none (by simp [madeCells]; omega), List.getElem?_eq_none (by rw [rcells_len]; simp [blank]; omega)]
theorem rnew_any (n : Nat) (w : World) (h1 : 1 ≤ n) (h2 : n ≤ 32) : Calls Try.prog 6 #[.int .i64 (n : Nat)] w fun e w' => e = .returned (.slice (some ⟨w.heap.size, 0, none⟩) n n) ∧ Rw w' w.heap.size (blank n) ∧ w.heap.size < w'.heap.size ∧ Below w.heap.size w w' := by
  obtain ⟨i0, hi, hz0, hz1, hz2⟩ := info_parts info_frame
  have HE : Hid (∀ w' : World, w'.ownsRow w.heap.size 55 17 (.slice (some ⟨w.heap.size, 0, none⟩) n n) n (madeCells (Value.agg (fcells ⟨false, noughts⟩).toArray).cells (n * 17)).toList → w.grownBy w' none → Rw w' w.heap.size (blank n) ∧ w.heap.size < w'.heap.size ∧ Below w.heap.size w w') := Lib.hid fun w' hrow hgr => by
    rw [made_blank] at hrow
    exact ⟨Rw.own hrow, (hrow.lt _ rfl).2, (Below.refl _ _).grown hgr (Nat.le_refl _) (fun k hk => by cases hk)⟩
  have h3 : (1 : Int) ≤ n := by omega
  have h4 : (n : Int) ≤ 32 := by omega
  generalize Value.agg (fcells ⟨false, noughts⟩).toArray = z at *
  go_enter Try.func6, Try.ntmps6
  go_wp2_with (refine wpList_make_full w rfl (.tmp 3) (.tmp 3) 28 rfl w.heap.size 55 i0 z 17 Try.underlying28 hi hz0 hz1 .i64 .i64 n n n rfl rfl rfl rfl (by rw [hz2]; omega) (by unfold maxLen; omega) (Nat.le_refl _) ?_; intro w1 hown hgrow; have Hfin := Lib.hid (HE.out _ hown hgrow); clear hown hgrow)
  go_ret
  exact ⟨rfl, Hfin.out⟩

section
variable {w : World} {g n c : Nat} {L : List Fr}
theorem next_same (H : Rw w g L) (hg : g < w.heap.size) (hc : n ≤ c) (hc63 : c ≤ 9223372036854775807) : Next w w g g n c L := ⟨H, Or.inl rfl, hg, hc, hc63, Below.refl _ _⟩
/-- What a call that makes a row tells beside it. -/
def Told2 (w : World) (g n : Nat) (L' : List Fr) (v : Value → Value) (e : Ending) (w' : World) : Prop := ∃ g' c', e = .returned (v (.slice (some ⟨g', 0, none⟩) n c')) ∧ Next w w' g g' n c' L'
theorem next_later {w1 w' : World} {g' c' : Nat} {L' : List Fr} (h : Next w1 w' g g' n c' L') (hb : Below w.heap.size w w1) : Next w w' g g' n c' L' :=
  ⟨h.rw_, h.at_.elim Or.inl (fun h2 => Or.inr (Nat.le_trans hb.size h2)), h.lt, h.cap, h.c63, hb.trans (h.below.mono hb.size)⟩

theorem rread_any (H : Rw w g L) (hn : L.length = n) (i a : Int) : Calls Try.prog 10 #[.slice (some ⟨g, 0, none⟩) n c, .int .i64 i, .int .i64 a] w fun e w' => e = .returned (.tuple #[.int .u8 (readV L i a), .int .i64 (rwE L i a)]) ∧ w = w' := by
  have HT := Lib.hid (is_any (c := c) H hn i)
  by_cases ht : tkAt L i = true
  · by_cases ha : 0 ≤ a ∧ a < 16
    · have hr : rwE L i a = 0 := by rw [rwE, if_pos ht, if_pos ha]
      obtain ⟨k, j, hk, hj, hj16, hx⟩ := rwE_hit hr
      have hb := H.byte hx hj16
      have hv : readV L i a = (((frAt L i).by_ j).toNat : Int) := by
        unfold readV
        rw [if_pos hr, hj]
        rfl
      rw [ht] at HT
      rw [hv, hr]
      have hlt := (List.getElem?_eq_some_iff.1 hx).1
      generalize (((frAt L i).by_ j).toNat : Int) = v at *
      subst hk hj
      have h1 : (k : Int) < n := by omega
      have h0 : (0 : Int) ≤ k := by omega
      have h2 : (j : Int) < 16 := by omega
      have h3 : (0 : Int) ≤ j := by omega
      have h4 : ¬ (15 : Int) < j := by omega
      have hb2 : w.cell? ⟨g, k * 17 + 1 + j, none⟩ = some (.int .u8 v) := by
        rw [← hb]
        congr 2
        omega
      clear H hx hr hv hlt hj16 ht ha hb
      go_enter Try.func10, Try.ntmps10
      go_wp2_with (go_at_call 17; refine HT.out.mono ?_; rintro e w' ⟨rfl, rfl⟩)
      go_ret2
      exact ⟨rfl, rfl⟩
    · have hr : rwE L i a = 1 := by rw [rwE, if_pos ht, if_neg ha]
      have hv : readV L i a = 0 := by
        unfold readV
        rw [if_neg (by omega)]
      rw [hv, hr]
      rw [ht] at HT
      by_cases h0 : a < 0
      · clear H ha hr hv ht
        go_enter Try.func10, Try.ntmps10
        go_wp2_with (go_at_call 17; refine HT.out.mono ?_; rintro e w' ⟨rfl, rfl⟩)
        go_ret2
        exact ⟨rfl, rfl⟩
      · have h1 : 15 < a := by omega
        clear H ha hr hv ht
        go_enter Try.func10, Try.ntmps10
        go_wp2_with (go_at_call 17; refine HT.out.mono ?_; rintro e w' ⟨rfl, rfl⟩)
        go_ret2
        exact ⟨rfl, rfl⟩
  · have hr : rwE L i a = 6 := by rw [rwE, if_neg ht]
    have hv : readV L i a = 0 := by
      unfold readV
      rw [if_neg (by omega)]
    rw [hv, hr]
    rw [Bool.not_eq_true] at ht
    rw [ht] at HT
    clear H hr hv ht
    go_enter Try.func10, Try.ntmps10
    go_wp2_with (go_at_call 17; refine HT.out.mono ?_; rintro e w' ⟨rfl, rfl⟩)
    go_ret2
    exact ⟨rfl, rfl⟩

set_option maxHeartbeats 1000000 in
theorem give_any (H : Rw w g L) (hg : g < w.heap.size) (hn : L.length = n) (hm : n ≤ 32) (hc : n ≤ c) (hc63 : c ≤ 9223372036854775807) (i : Int) : Calls Try.prog 8 #[.slice (some ⟨g, 0, none⟩) n c, .int .i64 i] w (Told2 w g n (giveL L i) fun v => .tuple #[v, .int .i64 (giveE L i)]) := by
  have HT := Lib.hid (is_any (c := c) H hn i)
  by_cases ht : tkAt L i = true
  · obtain ⟨i0, i1, hx, htk⟩ := tkAt_hit ht
    obtain ⟨k, hk⟩ : ∃ k : Nat, i = k := ⟨i.toNat, by omega⟩
    have hk2 : i.toNat = k := by omega
    have hL : giveL L i = L.set k ⟨false, (frAt L i).by_⟩ := by
      unfold giveL
      rw [if_pos ht, hk2]
    have hE : giveE L i = 0 := if_pos ht
    rw [hk2] at hx
    have HX := Lib.hid (H k _ hx)
    have HC : Hid ((fcells (frAt L i)).set 0 (.bool false) = fcells ⟨false, (frAt L i).by_⟩) := Lib.hid rfl
    have HLen : Hid ((fcells (frAt L i)).length = 17) := Lib.hid (fcells_len _)
    have HOne : Hid (∀ u ∈ fcells (frAt L i), u.oneCell' = true) := Lib.hid (fcells_one _)
    have HW : Hid (∀ w1, Below w.heap.size w w1 → Calls Try.prog 18 #[.slice (some ⟨g, 0, none⟩) n c, .int .i64 (k : Nat), .agg (fcells ⟨false, (frAt L i).by_⟩).toArray] w1 fun e w' => ∃ g' c', e = .returned (.slice (some ⟨g', 0, none⟩) n c') ∧ Next w w' g g' n c' (giveL L i)) := Lib.hid fun w1 hb => by
      rw [hL]
      refine (with_any (H.below hg hb) (Nat.lt_of_lt_of_le hg hb.size) hn hm (by omega) _).mono ?_
      rintro e w' ⟨g', c', rfl, h1⟩
      exact ⟨g', c', rfl, next_later h1 hb⟩
    rw [hE]
    rw [ht] at HT
    generalize giveL L i = L' at *
    have hi1 : (k : Int) < n := by omega
    have hi0 : (0 : Int) ≤ k := by omega
    subst hk
    generalize fcells ⟨false, (frAt L (k : Int)).by_⟩ = ds at *
    generalize fcells (frAt L (k : Int)) = cs at *
    have hcell : ∀ w1 : World, (w1.alloc (.cells cs.toArray 55)).cell? ⟨w1.heap.size, 0, none⟩ = some (cs[0]'(by rw [HLen.out]; omega)) := fun w1 => by
      rw [World.cell?_alloc_new]
      simp [HLen.out]
    clear H hx ht hE hL htk hk2 i1
    go_enter Try.func8, Try.ntmps8
    go_wp2_with (first
      | (go_at_call 17; refine HT.out.mono ?_; rintro e w' ⟨rfl, rfl⟩)
      | (refine wpList_load_mid rfl 55 (.tmp 14) rfl g (k * 17) rfl cs _ HX.out Try.underlying55 rfl (size_frame.trans (by simp [HLen.out])) ?_)
      | (refine wpList_store_row rfl 55 (.tmp 6) (.tmp 15) rfl w.heap.size cs.toArray rfl rfl 55 (fcells ⟨false, noughts⟩).toArray (heap_alloc_new w _) (size_frame.trans (by simp [HLen.out])) (by simp [HLen.out, fcells_len]) (all_oneCell_toArray HOne.out) ?_; rw [World.setRow_alloc_new])
      | (refine wpList_load_row rfl 55 (.tmp 6) rfl w.heap.size rfl 55 (cs.set 0 (.bool false)).toArray (0, 0) _ (heap_alloc_new w _) Try.underlying55 rfl (size_frame.trans (by simp [HLen.out])) ?_; rw [HC.out])
      | (go_at_call 18; refine (HW.out _ ((Below.refl _ _).alloc (Nat.le_refl _) _)).mono ?_; rintro e w2 ⟨g2, c2, rfl, h2⟩; have H2 := Lib.hid h2; clear h2))
    go_ret2
    exact ⟨g2, c2, rfl, H2.out⟩
  · have hL : giveL L i = L := if_neg ht
    have hE : giveE L i = 6 := if_neg ht
    rw [hE, hL]
    rw [Bool.not_eq_true] at ht
    rw [ht] at HT
    have HN := Lib.hid (next_same H hg hc hc63)
    clear H ht hE hL
    go_enter Try.func8, Try.ntmps8
    go_wp2_with (go_at_call 17; refine HT.out.mono ?_; rintro e w' ⟨rfl, rfl⟩)
    go_ret2
    exact ⟨g, c, rfl, HN.out⟩

theorem fcells_put (x : Fr) (j : Nat) (b : UInt8) : (fcells x).set (1 + j) (.int .u8 (b.toNat : Int)) = fcells ⟨x.tk, put8 x.by_ j b⟩ := by
  apply List.ext_getElem?
  intro r
  rw [List.getElem?_set]
  by_cases h17 : r < 17
  · cases r with
    | zero =>
      rw [if_neg (by omega)]
      rfl
    | succ r =>
      rw [fcells_at _ (by omega), fcells_at _ (by omega), fcells_len, put8_cells]
      by_cases e : r = j
      · rw [if_pos (by omega), if_pos (by omega), if_pos e]
      · rw [if_neg (by omega), if_neg e]
  · rw [fcells_len, List.getElem?_eq_none (l := fcells _) (by rw [fcells_len]; omega), List.getElem?_eq_none (l := fcells _) (by rw [fcells_len]; omega)]
    split
    · rw [if_neg (by omega)]
    · rfl
set_option maxHeartbeats 1000000 in
theorem rwrite_any (H : Rw w g L) (hg : g < w.heap.size) (hn : L.length = n) (hm : n ≤ 32) (hc : n ≤ c) (hc63 : c ≤ 9223372036854775807) (i a : Int) (b : UInt8) : Calls Try.prog 12 #[.slice (some ⟨g, 0, none⟩) n c, .int .i64 i, .int .i64 a, .int .u8 (b.toNat : Int)] w (Told2 w g n (writeL L i a b) fun v => .tuple #[v, .int .i64 (rwE L i a)]) := by
  have HT := Lib.hid (rread_any (c := c) H hn i a)
  by_cases hr : rwE L i a = 0
  · obtain ⟨k, j, hk, hj, hj16, hx⟩ := rwE_hit hr
    have hL : writeL L i a b = L.set k ⟨(frAt L i).tk, put8 (frAt L i).by_ j b⟩ := by
      unfold writeL
      rw [if_pos hr, hj, hk]
      rfl
    have hlt := (List.getElem?_eq_some_iff.1 hx).1
    have HX := Lib.hid (H k _ hx)
    have HC := Lib.hid (fcells_put (frAt L i) j b)
    have HLen : Hid ((fcells (frAt L i)).length = 17) := Lib.hid (fcells_len _)
    have HOne : Hid (∀ u ∈ fcells (frAt L i), u.oneCell' = true) := Lib.hid (fcells_one _)
    have HW : Hid (∀ w1, Below w.heap.size w w1 → Calls Try.prog 18 #[.slice (some ⟨g, 0, none⟩) n c, .int .i64 (k : Nat), .agg (fcells ⟨(frAt L i).tk, put8 (frAt L i).by_ j b⟩).toArray] w1 fun e w' => ∃ g' c', e = .returned (.slice (some ⟨g', 0, none⟩) n c') ∧ Next w w' g g' n c' (writeL L i a b)) := Lib.hid fun w1 hb => by
      rw [hL]
      refine (with_any (H.below hg hb) (Nat.lt_of_lt_of_le hg hb.size) hn hm (by omega) _).mono ?_
      rintro e w' ⟨g', c', rfl, h1⟩
      exact ⟨g', c', rfl, next_later h1 hb⟩
    rw [hr]
    rw [hr] at HT
    generalize writeL L i a b = L' at *
    generalize readV L i a = rv at *
    generalize fcells ⟨(frAt L i).tk, put8 (frAt L i).by_ j b⟩ = ds at *
    generalize fcells (frAt L i) = cs at *
    generalize (b.toNat : Int) = B at *
    have hi1 : (k : Int) < n := by omega
    have hi0 : (0 : Int) ≤ k := by omega
    have hj1 : (j : Int) < 16 := by omega
    have hj0 : (0 : Int) ≤ j := by omega
    have hcell : ∀ w1 : World, (w1.alloc (.cells cs.toArray 55)).cell? ⟨w1.heap.size, 1 + j, none⟩ = some (cs[1 + j]'(by rw [HLen.out]; omega)) := fun w1 => by
      rw [World.cell?_alloc_new]
      simp
    clear hr hL hx hlt
    subst hk hj
    clear H
    go_enter Try.func12, Try.ntmps12
    go_wp2_with (first
      | (go_at_call 10; refine HT.out.mono ?_; rintro e w' ⟨rfl, rfl⟩)
      | (refine wpList_load_mid rfl 55 (.tmp 26) rfl g (k * 17) rfl cs _ HX.out Try.underlying55 rfl (size_frame.trans (by simp [HLen.out])) ?_)
      | (refine wpList_store_row rfl 55 (.tmp 12) (.tmp 27) rfl w.heap.size cs.toArray rfl rfl 55 (fcells ⟨false, noughts⟩).toArray (heap_alloc_new w _) (size_frame.trans (by simp [HLen.out])) (by simp [HLen.out, fcells_len]) (all_oneCell_toArray HOne.out) ?_; rw [World.setRow_alloc_new])
      | (refine wpList_load_row rfl 55 (.tmp 12) rfl w.heap.size rfl 55 (cs.set (1 + j) (.int .u8 B)).toArray (0, 0) _ (heap_alloc_new w _) Try.underlying55 rfl (size_frame.trans (by simp [HLen.out])) ?_; rw [HC.out])
      | (go_at_call 18; refine (HW.out _ ((Below.refl _ _).alloc (Nat.le_refl _) _)).mono ?_; rintro e w2 ⟨g2, c2, rfl, h2⟩; have H2 := Lib.hid h2; clear h2))
    go_ret2
    exact ⟨g2, c2, rfl, H2.out⟩
  · have hL : writeL L i a b = L := by
      unfold writeL
      rw [if_neg hr]
    rw [hL]
    have HN := Lib.hid (next_same H hg hc hc63)
    generalize readV L i a = rv at *
    generalize rwE L i a = r at *
    generalize (b.toNat : Int) = B at *
    clear H hL
    go_enter Try.func12, Try.ntmps12
    go_wp2_with (go_at_call 10; refine HT.out.mono ?_; rintro e w' ⟨rfl, rfl⟩)
    go_ret2
    exact ⟨g, c, rfl, HN.out⟩

set_option maxHeartbeats 1000000 in
theorem rtake_any (H : Rw w g L) (hg : g < w.heap.size) (hn : L.length = n) (hm : n ≤ 32) (hc : n ≤ c) (hc63 : c ≤ 9223372036854775807) : Calls Try.prog 14 #[.slice (some ⟨g, 0, none⟩) n c] w (Told2 w g n (takeL L) fun v => .tuple #[v, .int .i64 (takeN L), .int .i64 (takeE L)]) := by
  have HT : Hid (∀ i x, L[i]? = some x → w.cell? ⟨g, i * 17, none⟩ = some (.bool x.tk)) := Lib.hid fun i x hx => H.taken hx
  have HH := Lib.hid H
  have Hn := Lib.hid hn
  have h1 : (n : Int) ≤ 32 := by omega
  clear H hn
  go_enter Try.func14, Try.ntmps14
  go_wp2
  go_loopw [5] (fun u5 wr => ∃ (i : Nat), i ≤ n ∧ i ≤ fst_ L ∧ u5 = .int .i64 (i : Nat) ∧ w = wr) (fun u5 _ => n - (intOf u5).toNat)
  case atStart => exact ⟨0, Nat.zero_le _, Nat.zero_le _, rfl, rfl⟩
  case round =>
    obtain ⟨i, hi, hif, rfl, rfl⟩ := hrel
    by_cases hlt : i < n
    · obtain ⟨x, hx⟩ : ∃ x, L[i]? = some x := ⟨_, List.getElem?_eq_getElem (by rw [Hn.out]; exact hlt)⟩
      have hct := HT.out i _ hx
      have i0 : (0 : Int) ≤ i := by omega
      have i1 : (i : Int) < n := by omega
      by_cases ht : x.tk = true
      · have hne : i ≠ fst_ L := fun e => by
          obtain ⟨y, hy, hyt⟩ := fst_at L (by rw [Hn.out, ← e]; exact hlt)
          rw [← e, hx] at hy
          cases hy
          rw [ht] at hyt
          cases hyt
        have Hi : Hid (i + 1 ≤ fst_ L) := Lib.hid (by omega)
        rw [ht] at hct
        clear hx hif hne ht
        go_wp2
        go_roundw
        case rel => exact ⟨i + 1, by omega, Hi.out, by go_num, trivial⟩
        case measure => simp [intOf]; omega
      · have hfi : fst_ L = i := by
          refine Nat.le_antisymm ?_ hif
          refine Nat.le_of_not_lt fun h3 => ?_
          obtain ⟨y, hy, hyt⟩ := fst_lt L i h3
          rw [hx] at hy
          cases hy
          exact ht hyt
        have hflt : fst_ L < L.length := by rw [hfi, Hn.out]; exact hlt
        have HW : Hid (Calls Try.prog 18 #[.slice (some ⟨g, 0, none⟩) n c, .int .i64 (i : Nat), .agg (fcells ⟨true, noughts⟩).toArray] w fun e w' => ∃ g' c', e = .returned (.slice (some ⟨g', 0, none⟩) n c') ∧ Next w w' g g' n c' (takeL L)) := Lib.hid (by
          have hL : takeL L = L.set i ⟨true, noughts⟩ := by rw [takeL, if_pos hflt, hfi]
          rw [hL]
          exact with_any HH.out hg Hn.out hm hlt _)
        have hN : takeN L = (i : Int) := by rw [takeN, if_pos hflt, hfi]
        have hE : takeE L = 0 := if_pos hflt
        have HF : Hid (∀ g2 c2 w2, Next w w2 g g2 n c2 (takeL L) → Told2 w g n (takeL L) (fun v => .tuple #[v, .int .i64 (takeN L), .int .i64 (takeE L)]) (.returned (.tuple #[.slice (some ⟨g2, 0, none⟩) n c2, .int .i64 (i : Nat), .int .i64 0])) w2) := Lib.hid fun g2 c2 w2 h2 => by
          rw [hN, hE]
          exact ⟨g2, c2, rfl, h2⟩
        rw [Bool.not_eq_true] at ht
        rw [ht] at hct
        clear hx hif ht hfi hflt hN hE
        go_wp2_with (go_at_call 18; refine HW.out.mono ?_; rintro e w2 ⟨g2, c2, rfl, h2⟩; have H2 := Lib.hid h2; clear h2)
        go_ret3
        exact HF.out _ _ _ H2.out
    · obtain rfl : i = n := by omega
      have HE : Hid (takeL L = L ∧ takeN L = 0 ∧ takeE L = 20) := Lib.hid (by
        have h2 : ¬ fst_ L < L.length := by rw [Hn.out]; omega
        exact ⟨if_neg h2, if_neg h2, if_neg h2⟩)
      have HF : Hid (Told2 w g i (takeL L) (fun v => .tuple #[v, .int .i64 (takeN L), .int .i64 (takeE L)]) (.returned (.tuple #[.slice (some ⟨g, 0, none⟩) i c, .int .i64 0, .int .i64 20])) w) := Lib.hid (by
        obtain ⟨e1, e2, e3⟩ := HE.out
        rw [e1, e2, e3]
        exact ⟨g, c, rfl, next_same HH.out hg hc hc63⟩)
      go_wp2
      go_ret3
      exact HF.out
end
end Go.Proofs.Ytajmpmehfekokaa
