/-
  The contract of Points of package tasks.
-/
import Derived.Test.YtlpmcmgalodfeaaTWalksD
import Derived.BigRegion
namespace Go.Proofs.Ytlpmcmgalodfeaa
open Go.ChangeShapes Go.WideShapes Go.ChangeAt Go.RowKit

set_option maxHeartbeats 2000000 in
theorem points_any (A : Option Addr) (n c : Nat) (l : List (Int × Int × Int)) (t : Int) (w : World) (hln : l.length = n) (hL : Tks w.heap.size w A l) :
    Calls Try.prog 25 #[.slice A n c, .int .i64 t] w fun e w' => NumsBack (ptsAns l t) w e w' := by
  have HL := Lib.hid hL
  have Hl := Lib.hid hln
  clear hL hln
  cases hsp : Tk.spans l t with
  | false =>
    have Hsp := Lib.hid (ptsAns_no hsp)
    have C1 := fun w h => spans_any A n c l t w Hl.out h
    rw [hsp] at C1
    clear hsp
    go_enter Try.func25, Try.ntmps25
    go_wp2_with (go_at_call 36; refine (C1 _ HL.out).mono ?_; clear C1; rintro e w1 ⟨rfl, hb⟩)
    go_ret
    rw [Hsp.out]
    exact nums_none hb
  | true =>
    have Hsp := Lib.hid hsp
    have C1 := fun w h => spans_any A n c l t w Hl.out h
    rw [hsp] at C1
    have hs := hsp
    simp only [Tk.spans, Bool.and_eq_true, decide_eq_true_eq] at hs
    obtain ⟨⟨ht0, ht1⟩, hall⟩ := hs
    have Hall := Lib.hid hall
    have hn8 : n ≤ 8 := by rw [← Hl.out]; exact Tk.all_len hall
    clear hsp hall
    have HC1 : Hid (∀ w : World, _ → _) := C1
    clear C1
    by_cases h0 : n = 0
    · have Hp : Hid (ptsAns l t = []) := (by rw [List.eq_nil_of_length_eq_zero (Hl.out.trans h0)]; exact ptsAns_nil t : ptsAns l t = [])
      subst h0
      go_enter Try.func25, Try.ntmps25
      go_wp2_with (go_at_call 36; refine (HC1.out _ HL.out).mono ?_; rintro e w1 ⟨rfl, hb⟩)
      go_ret
      rw [Hp.out]
      exact nums_none hb
    · obtain ⟨r, hr⟩ : ∃ r, n = r + 1 := ⟨n - 1, by omega⟩
      have hn0 : ((n : Int) == 0) = false := by simp; omega
      obtain ⟨i0, hi, hz0, hz1, hz2⟩ := info_parts info_int
      have Hr := Lib.hid hr
      clear hr
      go_enter Try.func25, Try.ntmps25
      go_wp2_with (first
        | (go_at_call 36; refine (HC1.out _ HL.out).mono ?_; rintro e w1 ⟨rfl, hb⟩)
        | (refine wpList_make_full w1 rfl (.tmp 22) (.tmp 22) 23 rfl w1.heap.size 3 i0 (.int .i64 0) 1 Try.underlying23 hi hz0 hz1 .i64 .i64 n n n rfl rfl rfl rfl (by rw [hz2]; omega) (by unfold maxLen; omega) (Nat.le_refl _) ?_; intro w2 hown hgrow))
      have hb1 : Below w.heap.size w w2 := hb.grown hgrow hb.size (fun _ h => by cases h)
      have hlen : Hid ((madeCells (Value.int .i64 0).cells (n * 1)).toList.length = n) := (by have := hown.1; omega : (madeCells (Value.int .i64 0).cells (n * 1)).toList.length = n)
      generalize (madeCells (Value.int .i64 0).cells (n * 1)).toList = xs0 at hown hlen
      have Hown := Lib.hid hown
      have HG : Hid (w.heap.size ≤ w1.heap.size) := (hb.size : w.heap.size ≤ w1.heap.size)
      clear hown hgrow
      generalize w1.heap.size = G at *
      clear hb
      go_loopw [26] (fun i wr => ∃ (k : Nat) (xs : List Value), k ≤ n ∧ i = .int .i64 k ∧ Hid (xs.length = n) ∧ Hid (wr.ownsRow G 3 1 (.slice (some ⟨G, 0, none⟩) n n) n xs) ∧ Hid (∀ j, j < k → xs[j]? = some (.int .i64 (l.getD j (0, 0, 0)).2.2)) ∧ Below w.heap.size w wr) (fun i _ => (n - intOf i).toNat)
      case atStart => exact ⟨0, xs0, by omega, rfl, hlen, Hown, (fun j hj => by omega : ∀ j, j < 0 → _), hb1⟩
      case round =>
        obtain ⟨k, xs, hk, rfl, hxs, hown, hdone, hb⟩ := hrel
        by_cases hlt : k < n
        · obtain ⟨ab, ao, rfl, hB, hcell⟩ := HL.out (by rw [Hl.out]; omega)
          obtain ⟨hc1, hc2, hc3⟩ := hcell k (by rw [Hl.out]; exact hlt)
          clear hcell
          obtain ⟨hc, hf⟩ := old_cells hb
          have hz := hb.size
          have hz1 : ab < wr.heap.size := by omega
          have hz2 : ab ≤ wr.heap.size := by omega
          have hk0 : (0 : Int) ≤ k := by omega
          have hkn : (k : Int) < n := by omega
          have hG := (hown.out.lt G rfl).2
          have hG2 : G ≤ wr.heap.size := Nat.le_of_lt hG
          obtain ⟨q, p, d, hxyz⟩ : ∃ x y z, l.getD k (0, 0, 0) = (x, y, z) := ⟨_, _, _, rfl⟩
          rw [hxyz] at hc1 hc2 hc3
          have Hx := Lib.hid hxyz
          clear hxyz
          have hcell := hown.out.cellAt k (by omega)
          obtain ⟨u, hu⟩ : ∃ u, xs[k]? = some u := ⟨_, List.getElem?_eq_getElem (by rw [hxs.out]; exact hlt)⟩
          rw [hu] at hcell
          have hfz := hown.out.frozenAt k
          have hst := Lib.hid ((hown.out.stored k (.int .i64 d)).1.alloc (.cells #[.int .i64 q, .int .i64 p, .int .i64 d] 48))
          clear hu
          go_wp2
          go_roundw
          case rel =>
            refine ⟨k + 1, _, by omega, by go_num, (by rw [List.length_set]; exact hxs.out : (xs.set k _).length = n), hst.out, (fun j hj => ?_ : ∀ j, j < k + 1 → _), (hb.setCell HG.out _).alloc (by simpa [World.setCell] using hz) _⟩
            rw [List.getElem?_set]
            by_cases hjk : k = j
            · rw [if_pos hjk, if_pos (by rw [hxs.out]; omega), ← hjk, Hx.out]
            · rw [if_neg hjk]
              exact hdone.out j (by omega)
          case measure => simp [intOf]; omega
        · obtain rfl : n = k := by omega
          have Hmem : Hid (∀ t ∈ l, Tk.rt t = true) := (Tk.all_mem Hall.out : ∀ t ∈ l, Tk.rt t = true)
          have Hper : Hid (∀ k x p d, k < n → l.getD k (0, 0, 0) = (x, p, d) → 1 ≤ p ∧ p ≤ 1048576 ∧ 1 ≤ d ∧ d ≤ p) := (fun k x p d hk h => by
            have := Tk.all_bd Hall.out (show k < l.length by rw [Hl.out]; exact hk) h
            omega : ∀ k x p d, k < n → l.getD k (0, 0, 0) = (x, p, d) → 1 ≤ p ∧ p ≤ 1048576 ∧ 1 ≤ d ∧ d ≤ p)
          have Hn1 : Hid (∀ m : Int, Tk.isPt l (Tk.leastTo l m r) = true ∧ m ≤ Tk.leastTo l m r ∧ ∀ x, m ≤ x → x < Tk.leastTo l m r → Tk.isPt l x = false) := fun m => Tk.least_pt Hmem.out (by rw [Hl.out]; exact Hr.out.symm) m
          have Hlb : Hid (∀ m : Int, 1 ≤ m → Tk.leastTo l m r ≤ m + 1048576) := (fun m hm => by
            have h1 := Tk.leastTo_le l m r 0 (Nat.zero_le _)
            obtain ⟨q, p, d, hx⟩ : ∃ x y z, l.getD 0 (0, 0, 0) = (x, y, z) := ⟨_, _, _, rfl⟩
            have h2 := Hper.out 0 q p d (by omega) hx
            rw [hx] at h1
            simp only at h1
            have h3 := (Tk.nxt_bd (p := p) (d := d) (m := m) h2.1 h2.2.2.2 hm).2
            omega : ∀ m : Int, 1 ≤ m → Tk.leastTo l m r ≤ m + 1048576)
          have hrow0 : Hid (wr.ownsRow G 3 1 (.slice (some ⟨G, 0, none⟩) n n) n (nrow (fun i => Tk.nxt (l.getD i (0, 0, 0)).2.1 (l.getD i (0, 0, 0)).2.2 1) n)) := by
            have e : xs = nrow (fun i => Tk.nxt (l.getD i (0, 0, 0)).2.1 (l.getD i (0, 0, 0)).2.2 1) n := nrow_is hxs.out fun i hi => by
              rw [hdone.out i hi, Tk.nxt_start]
              exact (Hper.out i _ _ _ hi rfl).2.2.1
            rw [← e]
            exact hown.out
          clear hown hdone hxs
          have Hlt := Lib.hid (hrow0.out.lt G rfl).2
          have HCr : Hid (∀ i, i < n → wr.cell? ⟨G, i, none⟩ = some (.int .i64 (Tk.nxt (l.getD i (0, 0, 0)).2.1 (l.getD i (0, 0, 0)).2.2 1))) := (fun i hi => by
            rw [hrow0.out.cellAt i (by omega), nrow_at _ hi] : ∀ i, i < n → wr.cell? ⟨G, i, none⟩ = some (.int .i64 (Tk.nxt (l.getD i (0, 0, 0)).2.1 (l.getD i (0, 0, 0)).2.2 1)))
          have hq0 := Hn1.out 1
          have hq1 := Hlb.out 1 (by omega)
          obtain ⟨q0, hq⟩ : ∃ q, q = Tk.leastTo l 1 r := ⟨_, rfl⟩
          rw [← hq] at hq0 hq1
          have Hq := Lib.hid hq
          clear hq
          obtain ⟨-, hq2, -⟩ := hq0
          go_wp2_with fail
          refine (min_any _ G n r n _ Hr.out (by omega) HCr.out).mono ?_
          rw [leastTo_min, ← Hq.out]
          rintro e w4 ⟨rfl, rfl⟩
          go_wp2_with fail
          obtain ⟨wo, rfl⟩ : ∃ wo : World, wo = wr := ⟨_, rfl⟩
          go_loopw [8, 9] (fun v u wr => ∃ (m q : Int) (L : List Int) (X : Option Addr) (k2 cx : Nat), 1 ≤ m ∧ m ≤ t + 1 ∧ m ≤ q ∧ q ≤ m + 1048576 ∧ v = .slice X k2 cx ∧ u = .int .i64 q ∧ k2 ≤ cx ∧ k2 ≤ 1048577 ∧ Hid (L.length = k2) ∧ Hid (q = Tk.leastTo l m r) ∧ Hid (Tk.PtsTo l m L) ∧
            Hid (wr.ownsRow (G + 1) 3 1 (.slice X k2 cx) k2 (ncells L)) ∧ Hid (wr.ownsRow G 3 1 (.slice (some ⟨G, 0, none⟩) n n) n (nrow (fun i => Tk.nxt (l.getD i (0, 0, 0)).2.1 (l.getD i (0, 0, 0)).2.2 m) n)) ∧ Below w.heap.size w wr) (fun _ u _ => (t + 1 - intOf u).toNat)
          case atStart => exact ⟨1, q0, [], none, 0, 0, by omega, by omega, hq2, hq1, rfl, rfl, by omega, by omega, (rfl : ([] : List Int).length = 0), Hq.out, Tk.PtsTo.start Hmem.out, World.ownsRow_nil _ _ _ _, hrow0.out, hb⟩
          case round =>
            clear hb hrow0 HCr Hlt
            obtain ⟨m, q, L, X, k2, cx, hm1, hm2, hmq, hqm, rfl, rfl, hkc, hk2, hLl, hq, hP, hpr, hnr, hb⟩ := hrel
            by_cases hqt : q ≤ t
            · have hz := hb.size
              have hG := (hnr.out.lt G rfl).2
              have HP2 : Hid (Tk.PtsTo l (q + 1) (L ++ [q])) := by
                obtain ⟨a1, a2, a3⟩ := Hn1.out m
                rw [← hq.out] at a1 a2 a3
                exact hP.out.next a1 a2 a3
              have hk3 : k2 + 1 ≤ 1048577 := by
                have := HP2.out.len Hmem.out
                rw [List.length_append, hLl.out] at this
                simp at this
                omega
              go_wp2_with (at_builtin; refine wpList_append_own _ rfl (.tmp 44) (.tmp 46) 23 rfl (G + 1) 3 i0 (.int .i64 0) 1 8 Try.underlying23 hi hz0 hz1 hz2 rfl (by decide) (.slice X k2 cx) k2 (ncells L) rfl (hpr.out.alloc _) ⟨wr.heap.size, 0, none⟩ 1 1 [.int .i64 q] rfl rfl (cell_one_new _ _ _) (by simp [Value.oneCell']) (by unfold maxLen; omega) (by omega) (by simp; omega) ?_; intro v' w3 hown3 hgrow3 hnn3)
              obtain ⟨X', cx', rfl, hkc', _⟩ := own_shape hown3
              have hnr3 : Hid (w3.ownsRow G 3 1 (.slice (some ⟨G, 0, none⟩) n n) n (nrow (stage l m q 0) n)) := by
                rw [stage_zero]
                refine (hnr.out.alloc _).kept hgrow3 (Or.inr fun h => ?_)
                have := (hpr.out.lt G h.symm).1
                omega
              have hpr3 : Hid (w3.ownsRow (G + 1) 3 1 (.slice X' (k2 + 1) cx') (k2 + 1) (ncells (L ++ [q]))) := by
                rw [ncells_snoc]
                exact hown3
              have hb3 : Below w.heap.size w w3 := (hb.alloc hz _).grown hgrow3 (by simp; omega) (fun k hk => by
                have := (hpr.out.lt k hk).1
                have := HG.out
                omega)
              clear hown3 hgrow3 hnn3 hnr hpr hb hz hG
              go_loopw [50] (fun i wr => ∃ k : Nat, k ≤ n ∧ i = .int .i64 k ∧ Hid (wr.ownsRow G 3 1 (.slice (some ⟨G, 0, none⟩) n n) n (nrow (stage l m q k) n)) ∧ Hid (wr.ownsRow (G + 1) 3 1 (.slice X' (k2 + 1) cx') (k2 + 1) (ncells (L ++ [q]))) ∧ Below w.heap.size w wr) (fun i _ => (n - intOf i).toNat)
              case atStart => exact ⟨0, by omega, rfl, hnr3, hpr3, hb3⟩
              case round =>
                clear hnr3 hpr3 hb3
                obtain ⟨k, hk, rfl, hnr, hpr, hb⟩ := hrel
                have hz := hb.size
                have hG := (hnr.out.lt G rfl).2
                have hG2 := Nat.le_of_lt hG
                by_cases hlt2 : k < n
                · obtain ⟨ab, ao, rfl, hB, hcell⟩ := HL.out (by rw [Hl.out]; omega)
                  obtain ⟨hc1, hc2, hc3⟩ := hcell k (by rw [Hl.out]; exact hlt2)
                  clear hcell
                  obtain ⟨hc, hf⟩ := old_cells hb
                  have hz1 : ab < wr.heap.size := by omega
                  have hz2 : ab ≤ wr.heap.size := by omega
                  have hk0 : (0 : Int) ≤ k := by omega
                  have hkn : (k : Int) < n := by omega
                  obtain ⟨x, p, d, hxyz⟩ : ∃ x y z, l.getD k (0, 0, 0) = (x, y, z) := ⟨_, _, _, rfl⟩
                  obtain ⟨i1, i2, i3, i4⟩ := Hper.out k x p d hlt2 hxyz
                  have hlq := Tk.leastTo_le l m r k (by have := Hr.out; omega)
                  rw [hxyz, ← hq.out] at hlq
                  rw [hxyz] at hc1 hc2 hc3
                  have hcz := hnr.out.cellAt k (by omega)
                  rw [nrow_at _ hlt2, stage_at hxyz] at hcz
                  have hfz := hnr.out.frozenAt k
                  have hzb := Tk.nxt_bd (p := p) (d := d) (m := m) i1 i4 hm1
                  have hon := Lib.hid (Tk.nxt_on (p := p) (d := d) (m := m) (q := q) i1 hmq hlq)
                  have Hx := Lib.hid hxyz
                  clear hxyz
                  obtain ⟨z, hze⟩ : ∃ z, z = Tk.nxt p d m := ⟨_, rfl⟩
                  rw [← hze] at hcz hlq hzb hon
                  have Hz := Lib.hid hze
                  clear hze
                  by_cases hzq : z = q
                  · have hbz : (z == q) = true := by simp [hzq]
                    have hw1 : IntKind.i64.wrap (z + p) = z + p := IntWalk.i64_in _ (by omega)
                    have hst := Lib.hid ((hnr.out.stored k (.int .i64 (z + p))).1)
                    have hnr4 : Hid ((wr.setCell ⟨G, k, none⟩ (.int .i64 (z + p))).ownsRow G 3 1 (.slice (some ⟨G, 0, none⟩) n n) n (nrow (stage l m q (k + 1)) n)) := by
                      have h1 := hst.out
                      rw [nrow_set (g := stage l m q (k + 1)) (by rw [stage_next Hx.out, hon.out, if_pos hzq]) fun i hi => stage_else hi] at h1
                      exact h1
                    have Hzq := Lib.hid hzq
                    clear hzq hst
                    go_wp2_with fail
                    go_region
                    go_wp2
                    go_roundw
                    case rel =>
                      refine ⟨k + 1, by omega, by go_num, own_drew (hnr4.out.alloc _), own_drew ((ownsRow_setCell_below hpr.out (Nat.lt_succ_self G) _).alloc _), ?_⟩
                      exact ((hb.setCell HG.out _).alloc (by simpa [World.setCell] using hz) _).drew
                    case measure => simp [intOf]; omega
                  · have hbz : (z == q) = false := by simp [hzq]
                    have hnr4 : Hid (wr.ownsRow G 3 1 (.slice (some ⟨G, 0, none⟩) n n) n (nrow (stage l m q (k + 1)) n)) := by
                      have h1 := hnr.out
                      rw [nrow_same (g := stage l m q (k + 1)) fun i hi => ?_] at h1
                      · exact h1
                      · by_cases hik : i = k
                        · rw [hik, stage_next Hx.out, hon.out, if_neg hzq, stage_at Hx.out, Hz.out]
                        · exact stage_else hik
                    clear hzq
                    go_wp2
                    go_roundw
                    case rel => exact ⟨k + 1, by omega, by go_num, hnr4.out.alloc _, hpr.out.alloc _, hb.alloc hz _⟩
                    case measure => simp [intOf]; omega
                · obtain rfl : n = k := by omega
                  have hnr5 : Hid (wr.ownsRow G 3 1 (.slice (some ⟨G, 0, none⟩) n n) n (nrow (fun i => Tk.nxt (l.getD i (0, 0, 0)).2.1 (l.getD i (0, 0, 0)).2.2 (q + 1)) n)) := by
                    rw [← stage_end l m]
                    exact hnr.out
                  have HCr : Hid (∀ i, i < n → wr.cell? ⟨G, i, none⟩ = some (.int .i64 (Tk.nxt (l.getD i (0, 0, 0)).2.1 (l.getD i (0, 0, 0)).2.2 (q + 1)))) := (fun i hi => by
                    rw [hnr5.out.cellAt i (by omega), nrow_at _ hi] : ∀ i, i < n → wr.cell? ⟨G, i, none⟩ = some (.int .i64 (Tk.nxt (l.getD i (0, 0, 0)).2.1 (l.getD i (0, 0, 0)).2.2 (q + 1))))
                  have hq0 := Hn1.out (q + 1)
                  have hq1 := Hlb.out (q + 1) (by omega)
                  obtain ⟨q2, hqe⟩ : ∃ q2, q2 = Tk.leastTo l (q + 1) r := ⟨_, rfl⟩
                  rw [← hqe] at hq0 hq1
                  have Hq2 := Lib.hid hqe
                  clear hqe
                  obtain ⟨-, hq2, -⟩ := hq0
                  go_wp2_with fail
                  refine (min_any _ G n r n _ Hr.out (by omega) HCr.out).mono ?_
                  rw [leastTo_min, ← Hq2.out]
                  rintro e w4 ⟨rfl, rfl⟩
                  go_wp2
                  go_roundw
                  case rel => exact ⟨q + 1, q2, L ++ [q], X', k2 + 1, cx', by omega, by omega, hq2, hq1, rfl, rfl, hkc', hk3, (by rw [List.length_append, hLl.out]; rfl : (L ++ [q]).length = k2 + 1), Hq2.out, HP2.out, hpr.out, hnr5.out, hb⟩
                  case measure => simp [intOf]; omega
            · have HLe : Hid (L = ptsAns l t) := by
                obtain ⟨a1, a2, a3⟩ := Hn1.out m
                rw [← hq.out] at a1 a2 a3
                have h1 := hP.out.over (n := t + 1) hm2 fun x h2 h3 => a3 x h2 (by omega)
                show L = ptsAns l t
                rw [ptsAns, if_pos Hsp.out, Tk.pts_eq Hmem.out h1]
              go_wp2
              go_ret
              rw [← HLe.out]
              exact nums_back hb hLl.out.symm hpr.out
end Go.Proofs.Ytlpmcmgalodfeaa
