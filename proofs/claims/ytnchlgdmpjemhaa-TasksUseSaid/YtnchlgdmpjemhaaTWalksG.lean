/-
  Contracts of Use of package tasks.
-/
import Derived.Test.YtnchlgdmpjemhaaTWalksA
import Derived.Test.YtnchlgdmpjemhaaTMathC
import Derived.Test.YtnchlgdmpjemhaaWalksH
import Derived.OwnWalk
import Derived.Laws.MakeOwn
namespace Go.Proofs.Ytnchlgdmpjemhaa
open Go.ChangeShapes Go.WideShapes Go.ChangeAt Go.RowKit

theorem info_ratio : (Try.prog.info? 28).map (fun i => (i.zero, i.size, i.bytes)) = some (some (.agg #[.int .u64 0, .int .u64 0]), 2, 16) := by kernel_rfl

/-- All shares are of words. -/
theorem shares_words {l : List (Int × Int × Int)} (h : Tk.all l = true) : InWords (Tk.shares l) := fun i => by
  by_cases hi : i < l.length
  · obtain ⟨c, p, d, hx⟩ : ∃ c p d, l.getD i (0, 0, 0) = (c, p, d) := ⟨_, _, _, rfl⟩
    have h1 := Tk.all_bd h hi hx
    rw [Tk.shares_at hi hx]
    exact Tk.share_bd (by omega) (by omega) (by omega) (by omega)
  · rw [Tk.shares_far (by omega)]
    decide

def useN (l : List (Int × Int × Int)) : Int := if Tk.all l = true then Rt.sumN (Tk.shares l) else 0
def useD (l : List (Int × Int × Int)) : Int := if Tk.all l = true then Rt.sumD (Tk.shares l) else 0
def useE (l : List (Int × Int × Int)) : Int := if Tk.all l = true then Rt.sumE (Tk.shares l) else 1
theorem use_no {l : List (Int × Int × Int)} (h : Tk.all l = false) : useN l = 0 ∧ useD l = 0 ∧ useE l = 1 := by simp [useN, useD, useE, h]
theorem use_yes {l : List (Int × Int × Int)} (h : Tk.all l = true) : useN l = Rt.sumN (Tk.shares l) ∧ useD l = Rt.sumD (Tk.shares l) ∧ useE l = Rt.sumE (Tk.shares l) := by simp [useN, useD, useE, h]

set_option maxHeartbeats 1000000 in
theorem tuse_any (A : Option Addr) (n c : Nat) (l : List (Int × Int × Int)) (w : World) (hln : l.length = n) (hL : Tks w.heap.size w A l) :
    Calls Try.prog 7 #[.slice A n c] w fun e w' => e = .returned (.tuple #[.agg #[.int .u64 (useN l), .int .u64 (useD l)], .int .i64 (useE l)]) ∧ Below w.heap.size w w' := by
  have HL := Lib.hid hL
  have Hl := Lib.hid hln
  clear hL hln
  have h0 : Hid (Below w.heap.size w (w.alloc (.cells #[.int .u64 0, .int .u64 0] 28))) := ((Below.refl _ _).alloc (Nat.le_refl _) _ : Below w.heap.size w _)
  have CA : Hid (∀ w : World, Tks w.heap.size w A l → _) := fun w h => tall_any A n c l w Hl.out h
  have T0 : Hid (Tks (w.alloc (.cells #[.int .u64 0, .int .u64 0] 28)).heap.size (w.alloc (.cells #[.int .u64 0, .int .u64 0] 28)) A l) := HL.out.later h0.out
  cases hall : Tk.all l with
  | false =>
    rw [hall] at CA
    have Hu := Lib.hid (use_no hall)
    clear hall
    go_enter Try.func7, Try.ntmps7
    go_wp2_with fail
    refine (CA.out _ T0.out).mono ?_
    rintro e w1 ⟨rfl, hb1⟩
    replace hb1 := Below.mono hb1 (B' := w.heap.size + 1) (by simp)
    obtain ⟨e1, f1⟩ := old_cells hb1
    have hz1 := hb1.size
    simp at hz1
    go_wp2
    refine bodyPost_ret (v := .tuple #[.agg #[.int .u64 0, .int .u64 0], .int .i64 1]) (by simp [results, Try.results7, go_sem, e1]) rfl ⟨?_, ?_⟩
    · obtain ⟨u1, u2, u3⟩ := Hu.out
      exact three_back u1.symm u2.symm u3.symm
    · exact (h0.out.trans (hb1.mono (by omega))).trans (by go_grown)
  | true =>
    rw [hall] at CA
    have Hall := Lib.hid hall
    have Hu := Lib.hid (use_yes hall)
    have hn8 : n ≤ 8 := by rw [← Hl.out]; exact Tk.all_len hall
    obtain ⟨i0, hi, hz0, hz1, hz2⟩ := info_parts info_ratio
    clear hall
    go_enter Try.func7, Try.ntmps7
    go_wp2_with (first
      | (go_at_call 11; refine (CA.out _ T0.out).mono ?_; rintro e w1 ⟨rfl, hb1⟩)
      | (refine wpList_make_full w1 rfl (.tmp 12) (.tmp 12) 49 rfl w1.heap.size 28 i0 (.agg #[.int .u64 0, .int .u64 0]) 2 Try.underlying49 hi hz0 hz1 .i64 .i64 n n n rfl rfl rfl rfl (by rw [hz2]; omega) (by unfold maxLen; omega) (Nat.le_refl _) ?_; intro w2 hown hgrow))
    replace hb1 := Below.mono hb1 (B' := w.heap.size + 1) (by simp)
    have hz1' := hb1.size
    simp at hz1'
    have hb2 : Hid (Below (w.heap.size + 1) (w.alloc (.cells #[.int .u64 0, .int .u64 0] 28)) w2) := (hb1.grown hgrow (by omega) (fun _ h => by cases h) : Below (w.heap.size + 1) (w.alloc (.cells #[.int .u64 0, .int .u64 0] 28)) w2)
    have hlen : Hid ((madeCells (Value.agg #[.int .u64 0, .int .u64 0]).cells (n * 2)).toList.length = n * 2) := (hown.1 : (madeCells (Value.agg #[.int .u64 0, .int .u64 0]).cells (n * 2)).toList.length = n * 2)
    generalize (madeCells (Value.agg #[.int .u64 0, .int .u64 0]).cells (n * 2)).toList = xs0 at hown hlen
    have Hown := Lib.hid hown
    have HG : Hid (w.heap.size + 1 ≤ w1.heap.size) := (hz1' : w.heap.size + 1 ≤ w1.heap.size)
    clear hown hgrow hb1 hz1'
    generalize w1.heap.size = G at *
    go_loopw [16] (fun i wr => ∃ (k : Nat) (xs : List Value), k ≤ n ∧ i = .int .i64 k ∧ Hid (xs.length = n * 2) ∧ Hid (wr.ownsRow G 28 2 (.slice (some ⟨G, 0, none⟩) n n) n xs) ∧ Hid (∀ j, j < k → xs[j * 2]? = some (.int .u64 ((Tk.shares l).getD j (0, 0)).1) ∧ xs[j * 2 + 1]? = some (.int .u64 ((Tk.shares l).getD j (0, 0)).2)) ∧ Hid (Below (w.heap.size + 1) (w.alloc (.cells #[.int .u64 0, .int .u64 0] 28)) wr)) (fun i _ => (n - intOf i).toNat)
    case atStart => exact ⟨0, xs0, by omega, rfl, hlen, Hown, (fun j hj => by omega : ∀ j, j < 0 → _), hb2⟩
    case round =>
      obtain ⟨k, xs, hk, rfl, hxs, hown, hdone, hb⟩ := hrel
      by_cases hlt : k < n
      · obtain ⟨ab, ao, rfl, hB, hcell⟩ := HL.out (by rw [Hl.out]; omega)
        obtain ⟨hc1, hc2, hc3⟩ := hcell k (by rw [Hl.out]; exact hlt)
        clear hcell
        have hbw := h0.out.trans (hb.out.mono (Nat.le_succ _))
        obtain ⟨hc, hf⟩ := old_cells hbw
        have hz := hbw.size
        have hz1 : ab < wr.heap.size := by omega
        have hz2 : ab ≤ wr.heap.size := by omega
        have hk0 : (0 : Int) ≤ k := by omega
        have hkn : (k : Int) < n := by omega
        obtain ⟨q, p, d, hxyz⟩ : ∃ x y z, l.getD k (0, 0, 0) = (x, y, z) := ⟨_, _, _, rfl⟩
        obtain ⟨i1, i2, i3, i4⟩ := Tk.all_bd Hall.out (show k < l.length by rw [Hl.out]; exact hlt) hxyz
        have hsh := Lib.hid (Tk.shares_at (show k < l.length by rw [Hl.out]; exact hlt) hxyz)
        rw [hxyz] at hc1 hc2 hc3
        clear hxyz
        go_wp2_with fail
        refine (of_some q p _ (by omega) (by omega) (by omega) (by omega)).mono ?_
        rintro e w3 ⟨rfl, hb3⟩
        have hb4 := Lib.hid ((hb.out.alloc (by have := hb.out.size; simpa using this) (.cells #[.int .i64 q, .int .i64 p, .int .i64 d] 24)).trans (hb3.mono (by have := hb.out.size; simp at this ⊢; omega)))
        have hown4 := Lib.hid (own_call (hown.out.alloc (.cells #[.int .i64 q, .int .i64 p, .int .i64 d] 24)) hb3)
        clear hb3 hc hf
        have hc4 := hown4.out.cellAt (k * 2) (by omega)
        have hc5 := hown4.out.cellAt (k * 2 + 1) (by omega)
        obtain ⟨u0, hu0⟩ : ∃ u, xs[k * 2]? = some u := ⟨_, List.getElem?_eq_getElem (by rw [hxs.out]; omega)⟩
        obtain ⟨u1, hu1⟩ : ∃ u, xs[k * 2 + 1]? = some u := ⟨_, List.getElem?_eq_getElem (by rw [hxs.out]; omega)⟩
        rw [hu0] at hc4
        rw [hu1] at hc5
        have hfz := hown4.out.frozenAt (k * 2)
        have hfz2 := hown4.out.frozenAt (k * 2 + 1)
        clear hu0 hu1
        obtain ⟨s0, hs0⟩ : ∃ s, q / Rt.gcd q p = s := ⟨_, rfl⟩
        obtain ⟨s1, hs1⟩ : ∃ s, p / Rt.gcd q p = s := ⟨_, rfl⟩
        rw [hs0, hs1] at hsh ⊢
        have hst := Lib.hid ((hown4.out.stored (k * 2) (.int .u64 s0)).1.stored (k * 2 + 1) (.int .u64 s1)).1
        clear hs0 hs1
        go_wp2
        go_roundw
        case rel =>
          refine ⟨k + 1, _, by omega, by go_num, (by rw [List.length_set, List.length_set]; exact hxs.out : ((xs.set (k * 2) (.int .u64 s0)).set (k * 2 + 1) (.int .u64 s1)).length = n * 2), hst.out, (fun j hj => ?_ : ∀ j, j < k + 1 → _), ((hb4.out.setCell HG.out _).setCell HG.out _ : Below (w.heap.size + 1) _ _)⟩
          rw [List.getElem?_set, List.getElem?_set, List.getElem?_set, List.getElem?_set]
          by_cases hjk : k = j
          · subst hjk
            rw [if_neg (by omega), if_pos rfl, if_pos (by rw [hxs.out]; omega), if_pos rfl, if_pos (by rw [List.length_set, hxs.out]; omega), hsh.out]
            exact ⟨rfl, rfl⟩
          · rw [if_neg (by omega), if_neg (by omega), if_neg (by omega), if_neg (by omega)]
            exact hdone.out j (by omega)
        case measure => simp [intOf]; omega
      · obtain rfl : n = k := by omega
        have hF : Hid (Fracs wr.heap.size wr (some ⟨G, 0, none⟩) (Tk.shares l)) := (fun _ => ⟨G, 0, rfl, (hown.out.lt G rfl).2, fun i hi => by
          rw [Tk.shares_len, Hl.out] at hi
          have h1 := hdone.out i hi
          rw [Nat.zero_add, hown.out.cellAt _ (by omega), hown.out.cellAt _ (by omega)]
          exact h1⟩ : Fracs wr.heap.size wr (some ⟨G, 0, none⟩) (Tk.shares l))
        go_wp2_with fail
        refine (sum_any (some ⟨G, 0, none⟩) n n (Tk.shares l) _ (by rw [Tk.shares_len, Hl.out]) (by omega) hF.out (shares_words Hall.out)).mono ?_
        obtain ⟨P, hP⟩ : ∃ P, Rt.sumN (Tk.shares l) = P := ⟨_, rfl⟩
        obtain ⟨Q, hQ⟩ : ∃ Q, Rt.sumD (Tk.shares l) = Q := ⟨_, rfl⟩
        obtain ⟨E, hE⟩ : ∃ E, Rt.sumE (Tk.shares l) = E := ⟨_, rfl⟩
        rw [hP, hQ, hE] at Hu ⊢
        clear hP hQ hE
        rintro e w5 ⟨rfl, hb5⟩
        have hb6 := hb.out.trans (hb5.mono (by have := hb.out.size; simpa using this))
        obtain ⟨e1, f1⟩ := old_cells hb6
        have hz6 := hb6.size
        simp at hz6
        have HB6 := Lib.hid hb6
        clear hb5 hb6
        go_wp2
        refine bodyPost_ret (v := .tuple #[.agg #[.int .u64 P, .int .u64 Q], .int .i64 E]) (by simp [results, Try.results7, go_sem, e1]) rfl ⟨?_, ?_⟩
        · obtain ⟨u1, u2, u3⟩ := Hu.out
          exact three_back u1.symm u2.symm u3.symm
        · exact (h0.out.trans (HB6.out.mono (Nat.le_succ _))).trans (by go_grown)
end Go.Proofs.Ytnchlgdmpjemhaa
