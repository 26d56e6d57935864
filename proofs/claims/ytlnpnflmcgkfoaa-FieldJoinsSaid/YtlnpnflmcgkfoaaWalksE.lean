/-
  Contracts of what goes through lists of fields, more: the document's Join.
-/
import Derived.Test.YtlnpnflmcgkfoaaWalksD
namespace Go.Proofs.Ytlnpnflmcgkfoaa
open Go.ChangeShapes Go.WideShapes Go.ChangeAt Go.RowKit

theorem take_take_apart {f : Int × Int} {l : List (Int × Int)} {m k : Nat} (hm : m < k) (hk : k ≤ l.length) (h : Fd.apart f.1 f.2 (l.getD m (0, 0)).1 (l.getD m (0, 0)).2 = false) : Fd.allApart f (l.take k) = false := by
  refine allApart_no (k := m) (by rw [List.length_take]; omega) ?_
  have e1 : (l.take k).getD m (0, 0) = l.getD m (0, 0) := by
    rw [List.getD_eq_getElem?_getD, List.getD_eq_getElem?_getD, List.getElem?_take, if_pos (by omega)]
  rw [e1]; exact h

set_option maxHeartbeats 1000000 in
theorem rjoin_any (A A2 : Option Addr) (n c c2 : Nat) (l : List (Int × Int)) (ns : List Int) (w : World) (hln : l.length = n) (hnn : ns.length = n) (hl : n ≤ 9223372036854775807) (hL : Flds w.heap.size w A l) (hN : Nums w.heap.size w A2 ns) (hI : Hid (InInts l)) (hW : Hid (InWords ns)) :
    Calls Try.prog 21 #[.slice A n c, .slice A2 n c2] w fun e w' => e = .returned (.tuple #[.int .u64 ((Fd.joinTo l ns n).getD 0), .bool (Fd.joinTo l ns n).isSome]) ∧ Below w.heap.size w w' := by
  have HL := Lib.hid hL
  have HN := Lib.hid hN
  have Hl := Lib.hid hln
  have Hn := Lib.hid hnn
  clear hL hN hln hnn
  go_enter Try.func21, Try.ntmps21
  go_wp2_with fail
  go_loopw [6, 7] (fun x i wr => ∃ (k : Nat) (v : Int), k ≤ n ∧ i = .int .i64 k ∧ x = .int .u64 v ∧ 0 ≤ v ∧ v < 18446744073709551616 ∧ Hid (Fd.joinTo l ns k = some v) ∧ Below w.heap.size w wr) (fun _ i _ => (n - intOf i).toNat)
  case atStart => exact ⟨0, 0, by omega, rfl, rfl, by omega, by omega, (rfl : Fd.joinTo l ns 0 = some 0), Below.refl _ _⟩
  case round =>
    obtain ⟨k, v, hk, rfl, rfl, hv1, hv2, hj, hb⟩ := hrel
    by_cases hlt : k < n
    · obtain ⟨ab, ao, hA, hB, hcell⟩ := HL.out (by rw [Hl.out]; omega)
      obtain ⟨ab2, ao2, hA2, hB2, hcell2⟩ := HN.out (by rw [Hn.out]; omega)
      subst hA hA2
      have Hcell := Lib.hid hcell
      obtain ⟨hc1, hc2⟩ := hcell k (by rw [Hl.out]; exact hlt)
      have hc3 := hcell2 k (by rw [Hn.out]; exact hlt)
      clear hcell hcell2
      have hz := hb.size
      have hk0 : (0 : Int) ≤ k := by omega
      have hkn : (k : Int) < n := by omega
      obtain ⟨i1, i2, i3, i4⟩ := hI.out k
      obtain ⟨j1, j2⟩ := hW.out k
      obtain ⟨p, q, hpq⟩ : ∃ p q, l.getD k (0, 0) = (p, q) := ⟨_, _, rfl⟩
      obtain ⟨y, hy⟩ : ∃ y, ns.getD k 0 = y := ⟨_, rfl⟩
      have hst := Lib.hid (Fd.joinTo_step hj.out hpq hy)
      rw [hpq] at hc1 hc2 i1 i2 i3 i4
      rw [hy] at hc3 j1 j2
      clear hpq hy
      go_wp2_with fail
      obtain ⟨wo, rfl⟩ : ∃ wo : World, wo = wr := ⟨_, rfl⟩
      go_loopw [8] (fun i wr => ∃ m : Nat, m ≤ k ∧ i = .int .i64 m ∧ Hid (Fd.allApart (p, q) (l.take m) = true) ∧ Below w.heap.size w wr) (fun i _ => (k - intOf i).toNat)
      case atStart => exact ⟨0, by omega, rfl, (rfl : Fd.allApart (p, q) (l.take 0) = true), hb⟩
      case round =>
        obtain ⟨m, hm, rfl, hap, hbi⟩ := hrel
        obtain ⟨hc, hf⟩ := old_cells hbi
        have hzi := hbi.size
        have hz1 : ab < wr.heap.size := by omega
        have hz2 : ab2 < wr.heap.size := by omega
        have hz3 : ab ≤ wr.heap.size := by omega
        have hz4 : ab2 ≤ wr.heap.size := by omega
        have hm0 : (0 : Int) ≤ m := by omega
        have hmn : (m : Int) < n := by omega
        by_cases hmk : m < k
        · obtain ⟨hd1, hd2⟩ := Hcell.out m (by rw [Hl.out]; omega)
          obtain ⟨e1, e2, e3, e4⟩ := hI.out m
          have hta := Lib.hid (take_take_apart (f := (p, q)) hmk (by rw [Hl.out]; omega))
          have hts := Lib.hid (allApart_take (f := (p, q)) (show m < l.length by rw [Hl.out]; omega))
          obtain ⟨p2, q2, hpq2⟩ : ∃ p q, l.getD m (0, 0) = (p, q) := ⟨_, _, rfl⟩
          rw [hpq2] at hd1 hd2 e1 e2 e3 e4 hta hts
          clear hpq2
          go_wp2_with fail
          refine wp_region_later wr.heap.size wr (by kernel_rfl) (by kernel_rfl) (Below.refl _ _) ?_
          repeat (go_big_quiet_step (fail))
          go_big_quiet_want
          go_big_quiet_op
          apply Exists.intro
          refine ⟨fun _ => ?_, ?_⟩
          · exact Calls.later (Nat.le_refl _) (rapart_any p q p2 q2 _ i3 i4 i1 i2 e3 e4 e1 e2)
          go_big_quiet_on
          repeat (go_big_quiet_step (fail))
          refine wpQuiet_nil ?_
          rintro _ ⟨n1, rfl⟩
          have hbn : Below w.heap.size w n1.world := hbi.trans (n1.below.mono hzi)
          cases hac : Fd.apart p q p2 q2 with
          | true =>
            have Hac := Lib.hid hac
            clear hac
            go_wp2
            go_roundw
            case rel => exact ⟨m + 1, by omega, by go_num, (by rw [hts.out, hap.out, Hac.out]; rfl : Fd.allApart (p, q) (l.take (m + 1)) = true), hbn⟩
            case measure => simp [intOf]; omega
          | false =>
            have hno : Hid (Fd.joinTo l ns n = none) := (Fd.joinTo_none (by rw [hst.out, hta.out hac]; rfl) n (by omega) : Fd.joinTo l ns n = none)
            clear hac
            go_wp2
            go_ret2
            exact ⟨by rw [hno.out]; rfl, hbn⟩
        · have hapk : Hid (Fd.allApart (p, q) (l.take k) = true) := (by rw [← show m = k by omega]; exact hap.out : Fd.allApart (p, q) (l.take k) = true)
          clear hap
          go_wp2_with fail
          refine wp_region_later wr.heap.size wr (by kernel_rfl) (by kernel_rfl) (Below.refl _ _) ?_
          repeat (go_big_quiet_step (fail))
          go_big_quiet_want
          go_big_quiet_op
          apply Exists.intro
          refine ⟨fun _ => ?_, ?_⟩
          · exact Calls.later (Nat.le_refl _) (rput_any p q v y _ i3 i4 i1 i2 hv1 hv2 j1 j2)
          go_big_quiet_on
          repeat (go_big_quiet_step (fail))
          refine wpQuiet_nil ?_
          rintro _ ⟨n1, rfl⟩
          have hbn : Below w.heap.size w n1.world := hbi.trans (n1.below.mono hzi)
          have hpb := Lib.hid (Fd.put_bd p q v y hv1 hv2 j1)
          cases hft : Fd.fits p q y with
          | true =>
            have Hft := Lib.hid hft
            clear hft
            go_wp2
            go_roundw
            case rel => exact ⟨k + 1, _, by omega, by go_num, rfl, hpb.out.1, hpb.out.2, (by rw [hst.out, hapk.out, Hft.out]; rfl : Fd.joinTo l ns (k + 1) = some (Fd.put p q v y)), hbn⟩
            case measure => simp [intOf]; omega
          | false =>
            have hno : Hid (Fd.joinTo l ns n = none) := (Fd.joinTo_none (by rw [hst.out, hapk.out, hft]; rfl) n (by omega) : Fd.joinTo l ns n = none)
            clear hft
            go_wp2
            go_ret2
            exact ⟨by rw [hno.out]; rfl, hbn⟩
    · have hkn : Hid (k = n) := (by omega : k = n)
      go_wp2
      go_ret2
      exact ⟨by rw [← hkn.out, hj.out]; rfl, hb⟩
end Go.Proofs.Ytlnpnflmcgkfoaa
