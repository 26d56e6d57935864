/-
  The contract of Fits.
-/
import Derived.Test.YtbeckgdocnofhaaSMathB
import Derived.Test.YtbeckgdocnofhaaWalksE
import Derived.OwnWalk
import Derived.Laws.MakeOwn
namespace Go.Proofs.Ytbeckgdocnofhaa
open Go.ChangeShapes Go.WideShapes Go.ChangeAt Go.RowKit

/-- A slice of reservations at A, below block B, reads as the list l. -/
def Rsv (B : Nat) (w : World) (A : Option Addr) (l : List (Int × Int)) : Prop :=
  0 < l.length → ∃ b o, A = some ⟨b, o, none⟩ ∧ b < B ∧ ∀ i, i < l.length → w.cell? ⟨b, o + i * 2, none⟩ = some (.int .i64 (l.getD i (0, 0)).1) ∧ w.cell? ⟨b, o + i * 2 + 1, none⟩ = some (.int .i64 (l.getD i (0, 0)).2)
theorem Rsv.below {B : Nat} {w w' : World} {A : Option Addr} {l : List (Int × Int)} (h : Rsv B w A l) (hb : Below B w w') : Rsv B w' A l := fun hn => by
  obtain ⟨b, o, e, hB, hc⟩ := h hn
  exact ⟨b, o, e, hB, fun i hi => ⟨(hb.cell (p := ⟨b, _, none⟩) hB).trans (hc i hi).1, (hb.cell (p := ⟨b, _, none⟩) hB).trans (hc i hi).2⟩⟩
theorem Rsv.mono {B B' : Nat} {w : World} {A : Option Addr} {l : List (Int × Int)} (h : Rsv B w A l) (hB : B ≤ B') : Rsv B' w A l := fun hn => by
  obtain ⟨b, o, e, hb, hc⟩ := h hn
  exact ⟨b, o, e, by omega, hc⟩
theorem Rsv.later {w w' : World} {A : Option Addr} {l : List (Int × Int)} (h : Rsv w.heap.size w A l) (hb : Below w.heap.size w w') : Rsv w'.heap.size w' A l := (h.below hb).mono hb.size

theorem info_ratio : (Try.prog.info? 30).map (fun i => (i.zero, i.size, i.bytes)) = some (some (.agg #[.int .u64 0, .int .u64 0]), 2, 16) := by kernel_rfl

set_option maxHeartbeats 2000000 in
theorem fits_any (A : Option Addr) (n c : Nat) (l : List (Int × Int)) (w : World) (hln : l.length = n) (hl : n ≤ 1000) (hL : Rsv w.heap.size w A l) :
    Calls Try.prog 18 #[.slice A n c] w fun e w' => e = .returned (.bool (Sp.fits l)) ∧ Below w.heap.size w w' := by
  have HL := Lib.hid hL
  have Hl := Lib.hid hln
  clear hL hln
  obtain ⟨i0, hi, hz0, hz1, hz2⟩ := info_parts info_ratio
  go_enter Try.func18, Try.ntmps18
  go_wp2_with (refine wpList_make_full w rfl (.tmp 9) (.tmp 9) 53 rfl w.heap.size 30 i0 (.agg #[.int .u64 0, .int .u64 0]) 2 Try.underlying53 hi hz0 hz1 .i64 .i64 n n n rfl rfl rfl rfl (by rw [hz2]; omega) (by unfold maxLen; omega) (Nat.le_refl _) ?_; intro w2 hown hgrow)
  have hb2 : Hid (Below w.heap.size w w2) := ((Below.refl _ _).grown hgrow (Nat.le_refl _) (fun _ h => by cases h) : Below w.heap.size w w2)
  have hlen : Hid ((madeCells (Value.agg #[.int .u64 0, .int .u64 0]).cells (n * 2)).toList.length = n * 2) := (hown.1 : (madeCells (Value.agg #[.int .u64 0, .int .u64 0]).cells (n * 2)).toList.length = n * 2)
  generalize (madeCells (Value.agg #[.int .u64 0, .int .u64 0]).cells (n * 2)).toList = xs0 at hown hlen
  have Hown := Lib.hid hown
  obtain ⟨G, hG⟩ : ∃ G, w.heap.size = G := ⟨_, rfl⟩
  have HG := Lib.hid hG
  rw [hG] at Hown ⊢
  clear hown hgrow hG
  go_loopw [13] (fun i wr => ∃ (k : Nat) (xs : List Value), k ≤ n ∧ i = .int .i64 k ∧ Hid (xs.length = n * 2) ∧ Hid (wr.ownsRow G 30 2 (.slice (some ⟨G, 0, none⟩) n n) n xs) ∧ Hid (∀ j, j < k → xs[j * 2]? = some (.int .u64 ((Sp.shares l).getD j (0, 0)).1) ∧ xs[j * 2 + 1]? = some (.int .u64 ((Sp.shares l).getD j (0, 0)).2)) ∧ Hid (Below w.heap.size w wr)) (fun i _ => (n - intOf i).toNat)
  case atStart => exact ⟨0, xs0, by omega, rfl, hlen, Hown, (fun j hj => by omega : ∀ j, j < 0 → _), hb2⟩
  case round =>
    obtain ⟨k, xs, hk, rfl, hxs, hown, hdone, hb⟩ := hrel
    by_cases hlt : k < n
    · obtain ⟨ab, ao, rfl, hB, hcell⟩ := HL.out (by rw [Hl.out]; omega)
      obtain ⟨hc1, hc2⟩ := hcell k (by rw [Hl.out]; exact hlt)
      clear hcell
      have hbw := hb.out
      obtain ⟨hc, hf⟩ := old_cells hbw
      have hz := hbw.size
      have hz1 : ab < wr.heap.size := by omega
      have hz2 : ab ≤ wr.heap.size := by omega
      have hk0 : (0 : Int) ≤ k := by omega
      have hkn : (k : Int) < n := by omega
      obtain ⟨q, p, hxyz⟩ : ∃ x y, l.getD k (0, 0) = (x, y) := ⟨_, _, rfl⟩
      have hsh := Lib.hid (Sp.shares_at (show k < l.length by rw [Hl.out]; exact hlt) hxyz)
      rw [hxyz] at hc1 hc2
      clear hxyz hbw
      go_wp2_with fail
      refine (share_any q p _).mono ?_
      rintro e w3 ⟨rfl, hb3⟩
      have hb4 := Lib.hid ((hb.out.alloc hz (.cells #[.int .i64 q, .int .i64 p] 24)).trans (hb3.mono (by simp; omega)))
      have hown4 := Lib.hid (own_call (hown.out.alloc (.cells #[.int .i64 q, .int .i64 p] 24)) hb3)
      clear hb3 hc hf
      have hc4 := hown4.out.cellAt (k * 2) (by omega)
      have hc5 := hown4.out.cellAt (k * 2 + 1) (by omega)
      obtain ⟨u0, hu0⟩ : ∃ u, xs[k * 2]? = some u := ⟨_, List.getElem?_eq_getElem (by rw [hxs.out]; omega)⟩
      obtain ⟨u1, hu1⟩ : ∃ u, xs[k * 2 + 1]? = some u := ⟨_, List.getElem?_eq_getElem (by rw [hxs.out]; omega)⟩
      rw [hu0] at hc4
      rw [hu1] at hc5
      have hfz := hown4.out.frozenAt (k * 2)
      have hfz2 := hown4.out.frozenAt (k * 2 + 1)
      clear hu0 hu1
      generalize Sp.shN q p = s0 at *
      generalize Sp.shD q p = s1 at *
      have hst := Lib.hid ((hown4.out.stored (k * 2) (.int .u64 s0)).1.stored (k * 2 + 1) (.int .u64 s1)).1
      go_wp2
      go_roundw
      case rel =>
        refine ⟨k + 1, _, by omega, by go_num, (by rw [List.length_set, List.length_set]; exact hxs.out : ((xs.set (k * 2) (.int .u64 s0)).set (k * 2 + 1) (.int .u64 s1)).length = n * 2), hst.out, (fun j hj => ?_ : ∀ j, j < k + 1 → _), ((hb4.out.setCell (Nat.le_of_eq HG.out) _).setCell (Nat.le_of_eq HG.out) _ : Below w.heap.size _ _)⟩
        rw [List.getElem?_set, List.getElem?_set, List.getElem?_set, List.getElem?_set]
        by_cases hjk : k = j
        · subst hjk
          rw [if_neg (by omega), if_pos rfl, if_pos (by rw [hxs.out]; omega), if_pos rfl, if_pos (by rw [List.length_set, hxs.out]; omega), hsh.out]
          exact ⟨rfl, rfl⟩
        · rw [if_neg (by omega), if_neg (by omega), if_neg (by omega), if_neg (by omega)]
          exact hdone.out j (by omega)
      case measure => simp [intOf]; omega
    · obtain rfl : n = k := by omega
      have hF : Hid (Fracs wr.heap.size wr (some ⟨G, 0, none⟩) (Sp.shares l)) := (fun _ => ⟨G, 0, rfl, (hown.out.lt G rfl).2, fun i hi => by
        rw [Sp.shares_len, Hl.out] at hi
        have h1 := hdone.out i hi
        rw [Nat.zero_add, hown.out.cellAt _ (by omega), hown.out.cellAt _ (by omega)]
        exact h1⟩ : Fracs wr.heap.size wr (some ⟨G, 0, none⟩) (Sp.shares l))
      have HE := Lib.hid (Sp.fits_error (l := l))
      have HS := Lib.hid (Sp.fits_sum (l := l))
      have CS : Hid (∀ w : World, Fracs w.heap.size w (some ⟨G, 0, none⟩) (Sp.shares l) → _) := fun w h => sum_any (some ⟨G, 0, none⟩) n n (Sp.shares l) w (by rw [Sp.shares_len, Hl.out]) (by omega) h (Sp.shares_words l)
      have hnb := Rt.sumN_bd (l := Sp.shares l) (fun i => (Sp.shares_words l i).1) (fun i => (Sp.shares_words l i).2.2.1)
      generalize Rt.sumN (Sp.shares l) = P at *
      generalize Rt.sumD (Sp.shares l) = Q at *
      generalize Rt.sumE (Sp.shares l) = E at *
      have CC : Hid (∀ w : World, _) := fun w => compare_any P Q 1 1 w hnb.1.1 hnb.1.2 hnb.2.1 hnb.2.2 (by decide) (by decide) (by decide) (by decide)
      generalize Rt.cmpR P Q 1 1 = R at *
      have Hnb := Lib.hid hnb
      clear hnb
      go_wp2_with fail
      refine (CS.out _ hF.out).mono ?_
      rintro e w5 ⟨rfl, hb5⟩
      have hb6 := Lib.hid (hb.out.trans (hb5.mono hb.out.size))
      have hz6 := Lib.hid hb6.out.size
      clear hb5
      by_cases he : E = 0
      · have hf := Lib.hid (HS.out he)
        have hed : (E == 0) = true := by simp [he]
        clear he
        go_wp2_with fail
        refine (CC.out _).mono ?_
        rintro e w7 ⟨rfl, hb7⟩
        have hb8 := Lib.hid ((hb6.out.alloc hz6.out _).trans (hb7.mono (by simp; have := hz6.out; omega)))
        clear hb7
        go_wp2
        go_ret
        exact ⟨bool_back hf.out.symm, hb8.out⟩
      · have hf := Lib.hid (HE.out he)
        have hed : (E == 0) = false := by simp [he]
        clear he
        go_wp2
        go_ret
        exact ⟨bool_back hf.out.symm, hb6.out.alloc hz6.out _⟩
end Go.Proofs.Ytbeckgdocnofhaa
