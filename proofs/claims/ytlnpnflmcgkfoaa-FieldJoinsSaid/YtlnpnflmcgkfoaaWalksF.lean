/-
  Contracts of what goes through lists of fields, the last: Split.
-/
import Derived.Test.YtlnpnflmcgkfoaaWalksE
import Derived.OwnWalk
import Derived.Laws.MakeOwn
namespace Go.Proofs.Ytlnpnflmcgkfoaa
open Go.ChangeShapes Go.WideShapes Go.ChangeAt Go.RowKit

theorem info_word : (Try.prog.info? 24).map (fun i => (i.zero, i.size, i.bytes)) = some (some (.int .u64 0), 1, 8) := by kernel_rfl

theorem below_grows {a w : World} (h : Below a.heap.size a w) (row : Option Nat) : a.grownBy w row where
  os := h.os
  tape := h.tape
  output := h.output
  size := h.size
  block k hk _ := h.block k hk

set_option maxHeartbeats 1000000 in
theorem split_any (A : Option Addr) (n c : Nat) (l : List (Int × Int)) (x : Int) (w : World) (hln : l.length = n) (hl : n ≤ 1000) (hL : Flds w.heap.size w A l) (hI : Hid (InInts l)) (hx1 : 0 ≤ x) (hx2 : x < 18446744073709551616) :
    Calls Try.prog 22 #[.slice A n c, .int .u64 x] w fun e w' => e = .returned (.slice (some ⟨w.heap.size, 0, none⟩) n n) ∧ Below w.heap.size w w' ∧ w.heap.size < w'.heap.size ∧ ∀ i, i < n → w'.cell? ⟨w.heap.size, i, none⟩ = some (.int .u64 (Fd.get (l.getD i (0, 0)).1 (l.getD i (0, 0)).2 x)) := by
  have HL := Lib.hid hL
  have Hl := Lib.hid hln
  clear hL hln
  obtain ⟨i0, hi, hz0, hz1, hz2⟩ := info_parts info_word
  go_enter Try.func22, Try.ntmps22
  go_wp2_with (refine wpList_make_full w rfl (.tmp 9) (.tmp 9) 44 rfl w.heap.size 24 i0 (.int .u64 0) 1 Try.underlying44 hi hz0 hz1 .i64 .i64 n n n rfl rfl rfl rfl (by rw [hz2]; omega) (by unfold maxLen; omega) (Nat.le_refl _) ?_; intro w1 hown hgrow)
  have hb1 : Below w.heap.size w w1 := (Below.refl _ _).grown hgrow (Nat.le_refl _) (fun _ h => by cases h)
  have hlen : Hid ((madeCells (Value.int .u64 0).cells (n * 1)).toList.length = n) := (by have := hown.1; omega : (madeCells (Value.int .u64 0).cells (n * 1)).toList.length = n)
  generalize (madeCells (Value.int .u64 0).cells (n * 1)).toList = xs0 at hown hlen
  have Hown := Lib.hid hown
  clear hown hgrow
  go_loopw [13] (fun i wr => ∃ (k : Nat) (xs : List Value), k ≤ n ∧ i = .int .i64 k ∧ Hid (xs.length = n) ∧ Hid (wr.ownsRow w.heap.size 24 1 (.slice (some ⟨w.heap.size, 0, none⟩) n n) n xs) ∧ Hid (∀ j, j < k → xs[j]? = some (.int .u64 (Fd.get (l.getD j (0, 0)).1 (l.getD j (0, 0)).2 x))) ∧ Below w.heap.size w wr) (fun i _ => (n - intOf i).toNat)
  case atStart => exact ⟨0, xs0, by omega, rfl, hlen, Hown, (fun j hj => by omega : ∀ j, j < 0 → _), hb1⟩
  case round =>
    obtain ⟨k, xs, hk, rfl, hxs, hown, hdone, hb⟩ := hrel
    have hlt0 := (hown.out.lt w.heap.size rfl).2
    by_cases hlt : k < n
    · obtain ⟨ab, ao, hA, hB, hcell⟩ := HL.out (by rw [Hl.out]; omega)
      subst hA
      obtain ⟨hc1, hc2⟩ := hcell k (by rw [Hl.out]; exact hlt)
      clear hcell
      obtain ⟨hc, hf⟩ := old_cells hb
      have hz1' : ab < wr.heap.size := by omega
      have hz3 : ab ≤ wr.heap.size := by omega
      have hk0 : (0 : Int) ≤ k := by omega
      have hkn : (k : Int) < n := by omega
      obtain ⟨i1, i2, i3, i4⟩ := hI.out k
      obtain ⟨p, q, hpq⟩ : ∃ p q, l.getD k (0, 0) = (p, q) := ⟨_, _, rfl⟩
      rw [hpq] at hc1 hc2 i1 i2 i3 i4
      have Hpq := Lib.hid hpq
      clear hpq
      go_wp2_with fail
      refine (get_any _ _ _ _ i3 i4 i1 i2 hx1 hx2).mono ?_
      rintro e w2 ⟨rfl, hb2⟩
      have hown2 := (hown.out.alloc (.cells #[.int .i64 p, .int .i64 q] 25)).kept (below_grows hb2 none) (Or.inr (by simp [Value.ownBlock]))
      have hb3 := (hb.alloc (by omega) (.cells #[.int .i64 p, .int .i64 q] 25)).trans (hb2.mono (by simp; omega))
      have hcell := hown2.cellAt k (by omega)
      obtain ⟨u, hu⟩ : ∃ u, xs[k]? = some u := ⟨_, List.getElem?_eq_getElem (by rw [hxs.out]; exact hlt)⟩
      rw [hu] at hcell
      have hfz := hown2.frozenAt k
      have hst := Lib.hid (hown2.stored k (.int .u64 (Fd.get p q x)))
      clear hown2 hu
      go_wp2
      go_roundw
      case rel =>
        refine ⟨k + 1, _, by omega, by go_num, (by rw [List.length_set]; exact hxs.out : (xs.set k _).length = n), hst.out.1, (fun j hj => ?_ : ∀ j, j < k + 1 → _), hb3.setCell (Nat.le_refl _) _⟩
        rw [List.getElem?_set]
        by_cases hjk : k = j
        · rw [if_pos hjk, if_pos (by rw [hxs.out]; omega), ← hjk, Hpq.out]
        · rw [if_neg hjk]
          exact hdone.out j (by omega)
      case measure => simp [intOf]; omega
    · go_wp2
      go_ret
      refine ⟨rfl, hb, hlt0, fun i hi => ?_⟩
      rw [hown.out.cellAt i (by omega)]
      exact hdone.out i (by omega)
end Go.Proofs.Ytlnpnflmcgkfoaa
