/-
  Contracts of what goes through lists of fields: apartFromAll.
-/
import Derived.Test.YtlnpnflmcgkfoaaWalksC
namespace Go.Proofs.Ytlnpnflmcgkfoaa
open Go.ChangeShapes Go.WideShapes Go.ChangeAt Go.RowKit

/-- A slice of fields at A, below block B, reads as the list l. -/
def Flds (B : Nat) (w : World) (A : Option Addr) (l : List (Int × Int)) : Prop :=
  0 < l.length → ∃ b o, A = some ⟨b, o, none⟩ ∧ b < B ∧ ∀ i, i < l.length → w.cell? ⟨b, o + i * 2, none⟩ = some (.int .i64 (l.getD i (0, 0)).1) ∧ w.cell? ⟨b, o + i * 2 + 1, none⟩ = some (.int .i64 (l.getD i (0, 0)).2)
/-- All of a list's fields are of ints. -/
def InInts (l : List (Int × Int)) : Prop := ∀ i, -9223372036854775808 ≤ (l.getD i (0, 0)).1 ∧ (l.getD i (0, 0)).1 < 9223372036854775808 ∧ -9223372036854775808 ≤ (l.getD i (0, 0)).2 ∧ (l.getD i (0, 0)).2 < 9223372036854775808

theorem Flds.below {B : Nat} {w w' : World} {A : Option Addr} {l : List (Int × Int)} (h : Flds B w A l) (hb : Below B w w') : Flds B w' A l := fun hn => by
  obtain ⟨b, o, e, hB, hc⟩ := h hn
  exact ⟨b, o, e, hB, fun i hi => ⟨(hb.cell (p := ⟨b, _, none⟩) hB).trans (hc i hi).1, (hb.cell (p := ⟨b, _, none⟩) hB).trans (hc i hi).2⟩⟩
theorem Flds.mono {B B' : Nat} {w : World} {A : Option Addr} {l : List (Int × Int)} (h : Flds B w A l) (hB : B ≤ B') : Flds B' w A l := fun hn => by
  obtain ⟨b, o, e, hb, hc⟩ := h hn
  exact ⟨b, o, e, by omega, hc⟩
theorem Flds.take {B : Nat} {w : World} {A : Option Addr} {l : List (Int × Int)} (h : Flds B w A l) (k : Nat) : Flds B w A (l.take k) := fun hn => by
  rw [List.length_take] at hn
  obtain ⟨b, o, e, hb, hc⟩ := h (by omega)
  refine ⟨b, o, e, hb, fun i hi => ?_⟩
  rw [List.length_take] at hi
  have e1 : (l.take k).getD i (0, 0) = l.getD i (0, 0) := by
    rw [List.getD_eq_getElem?_getD, List.getD_eq_getElem?_getD, List.getElem?_take, if_pos (by omega)]
  rw [e1]
  exact hc i (by omega)

theorem allApart_take {f : Int × Int} {l : List (Int × Int)} {k : Nat} (hk : k < l.length) : Fd.allApart f (l.take (k + 1)) = (Fd.allApart f (l.take k) && Fd.apart f.1 f.2 (l.getD k (0, 0)).1 (l.getD k (0, 0)).2) := by
  simp only [Fd.allApart, List.take_succ_eq_append_getElem hk, List.all_append, List.getD_eq_getElem?_getD, List.getElem?_eq_getElem hk, List.all_cons, List.all_nil, Bool.and_true, Option.getD_some]
theorem allApart_no {f : Int × Int} {l : List (Int × Int)} {k : Nat} (hk : k < l.length) (h : Fd.apart f.1 f.2 (l.getD k (0, 0)).1 (l.getD k (0, 0)).2 = false) : Fd.allApart f l = false := by
  have h1 := allApart_take (f := f) hk
  rw [h, Bool.and_false] at h1
  rw [Fd.allApart, List.all_eq_false] at h1 ⊢
  obtain ⟨x, hx, hp⟩ := h1
  exact ⟨x, List.mem_of_mem_take hx, hp⟩

set_option maxHeartbeats 800000 in
theorem apartAll_any (a s : Int) (A : Option Addr) (n c : Nat) (l : List (Int × Int)) (w : World) (hn : l.length = n) (hs1 : -9223372036854775808 ≤ s) (hs : s < 9223372036854775808) (ha1 : -9223372036854775808 ≤ a) (ha : a < 9223372036854775808) (hl : n ≤ 9223372036854775807) (hL : Flds w.heap.size w A l) (hI : Hid (InInts l)) :
    Calls Try.prog 25 #[.agg #[.int .i64 a, .int .i64 s], .slice A n c] w fun e w' => e = .returned (.bool (Fd.allApart (a, s) l)) ∧ Below w.heap.size w w' := by
  subst hn
  have HL := Lib.hid hL
  clear hL
  go_enter Try.func25, Try.ntmps25
  go_wp2_with fail
  go_loopw [9] (fun i wr => ∃ k : Nat, k ≤ l.length ∧ i = .int .i64 k ∧ Hid (Fd.allApart (a, s) (l.take k) = true) ∧ Below (w.heap.size + 1) (w.alloc (.cells #[.int .i64 a, .int .i64 s] 25)) wr) (fun i _ => (l.length - intOf i).toNat)
  case atStart => exact ⟨0, by omega, rfl, (rfl : Fd.allApart (a, s) (l.take 0) = true), Below.refl _ _⟩
  case round =>
    obtain ⟨k, hk, rfl, hap, hb⟩ := hrel
    obtain ⟨hc, hf⟩ := old_cells hb
    have hz := hb.size
    simp at hz
    by_cases hlt : k < l.length
    · obtain ⟨ab, ao, rfl, hB, hcell⟩ := HL.out (by omega)
      obtain ⟨hc1, hc2⟩ := hcell k hlt
      clear hcell
      have hz1 : w.heap.size < wr.heap.size := by omega
      have hlt2 : ab < w.heap.size + 1 := by omega
      have hlt3 : ab ≤ w.heap.size := by omega
      have hI1 := hI.out k
      obtain ⟨i1, i2, i3, i4⟩ := hI1
      have hst := Lib.hid (allApart_take (f := (a, s)) hlt)
      have hno := Lib.hid (allApart_no (f := (a, s)) hlt)
      obtain ⟨p, q, hpq⟩ : ∃ p q, l.getD k (0, 0) = (p, q) := ⟨_, _, rfl⟩
      rw [hpq] at hc1 hc2 i1 i2 i3 i4 hst hno
      clear hpq
      go_wp2_with fail
      refine (apart_any _ _ _ _ _ hs1 hs ha1 ha i3 i4 i1 i2).mono ?_
      rintro e w2 ⟨rfl, hb2⟩
      have hb3 := (hb.alloc (by omega) (.cells #[.int .i64 p, .int .i64 q] 25)).trans (hb2.mono (by simp; omega))
      have hz3 := hb3.size
      simp at hz3
      cases hcs : Fd.apart a s p q with
      | true =>
        go_wp2
        go_roundw
        case rel => exact ⟨k + 1, by omega, by go_num, (by rw [hst.out, hap.out, hcs]; rfl : Fd.allApart (a, s) (l.take (k + 1)) = true), hb3⟩
        case measure => simp [intOf]; omega
      | false =>
        have hcs2 := Lib.hid hcs
        clear hcs
        go_wp2
        go_ret
        exact ⟨bool_back (hno.out hcs2.out).symm, ((Below.refl _ _).alloc (Nat.le_refl _) _).trans (hb3.mono (by simp))⟩
    · go_wp2
      go_ret
      exact ⟨bool_back (by rw [← hap.out, List.take_of_length_le (by omega)]), ((Below.refl _ _).alloc (Nat.le_refl _) _).trans (hb.mono (by simp))⟩

/-- A slice of words at A, below block B, reads as the list n. -/
def Nums (B : Nat) (w : World) (A : Option Addr) (n : List Int) : Prop :=
  0 < n.length → ∃ b o, A = some ⟨b, o, none⟩ ∧ b < B ∧ ∀ i, i < n.length → w.cell? ⟨b, o + i, none⟩ = some (.int .u64 (n.getD i 0))
def InWords (n : List Int) : Prop := ∀ i, 0 ≤ n.getD i 0 ∧ n.getD i 0 < 18446744073709551616
theorem Nums.below {B : Nat} {w w' : World} {A : Option Addr} {n : List Int} (h : Nums B w A n) (hb : Below B w w') : Nums B w' A n := fun hn => by
  obtain ⟨b, o, e, hB, hc⟩ := h hn
  exact ⟨b, o, e, hB, fun i hi => (hb.cell (p := ⟨b, _, none⟩) hB).trans (hc i hi)⟩
theorem InInts.take {l : List (Int × Int)} (h : InInts l) (k : Nat) : InInts (l.take k) := fun i => by
  rw [List.getD_eq_getElem?_getD, List.getElem?_take]
  split
  · rw [← List.getD_eq_getElem?_getD]; exact h i
  · simp

set_option maxHeartbeats 800000 in
theorem join_any (A A2 : Option Addr) (n c c2 : Nat) (l : List (Int × Int)) (ns : List Int) (w : World) (hln : l.length = n) (hnn : ns.length = n) (hl : n ≤ 9223372036854775807) (hcap : n ≤ c) (hL : Flds w.heap.size w A l) (hN : Nums w.heap.size w A2 ns) (hI : Hid (InInts l)) (hW : Hid (InWords ns)) :
    Calls Try.prog 20 #[.slice A n c, .slice A2 n c2] w fun e w' => e = .returned (.tuple #[.int .u64 ((Fd.joinTo l ns n).getD 0), .int .i64 (errOf (Fd.joinTo l ns n).isSome)]) ∧ Below w.heap.size w w' := by
  have HL := Lib.hid hL
  have HN := Lib.hid hN
  have Hl := Lib.hid hln
  have Hn := Lib.hid hnn
  clear hL hN hln hnn
  go_enter Try.func20, Try.ntmps20
  go_wp2_with fail
  go_loopw [6, 17] (fun x i wr => ∃ (k : Nat) (v : Int), k ≤ n ∧ i = .int .i64 k ∧ x = .int .u64 v ∧ 0 ≤ v ∧ v < 18446744073709551616 ∧ Hid (Fd.joinTo l ns k = some v) ∧ Below w.heap.size w wr) (fun _ i _ => (n - intOf i).toNat)
  case atStart => exact ⟨0, 0, by omega, rfl, rfl, by omega, by omega, (rfl : Fd.joinTo l ns 0 = some 0), Below.refl _ _⟩
  case round =>
    obtain ⟨k, v, hk, rfl, rfl, hv1, hv2, hj, hb⟩ := hrel
    by_cases hlt : k < n
    · obtain ⟨ab, ao, hA, hB, hcell⟩ := HL.out (by rw [Hl.out]; omega)
      obtain ⟨ab2, ao2, hA2, hB2, hcell2⟩ := HN.out (by rw [Hn.out]; omega)
      subst hA hA2
      obtain ⟨hc1, hc2⟩ := hcell k (by rw [Hl.out]; exact hlt)
      have hc3 := hcell2 k (by rw [Hn.out]; exact hlt)
      clear hcell hcell2
      obtain ⟨hc, hf⟩ := old_cells hb
      have hz := hb.size
      have hz1 : ab < wr.heap.size := by omega
      have hz2 : ab2 < wr.heap.size := by omega
      have hz3 : ab ≤ wr.heap.size := by omega
      have hz4 : ab2 ≤ wr.heap.size := by omega
      have hk0 : (0 : Int) ≤ k := by omega
      have hkc : (k : Int) ≤ c := by omega
      have hkn : (k : Int) < n := by omega
      obtain ⟨i1, i2, i3, i4⟩ := hI.out k
      obtain ⟨j1, j2⟩ := hW.out k
      have hlk : Hid ((l.take k).length = k) := (by rw [List.length_take, Hl.out]; omega : (l.take k).length = k)
      obtain ⟨p, q, hpq⟩ : ∃ p q, l.getD k (0, 0) = (p, q) := ⟨_, _, rfl⟩
      obtain ⟨y, hy⟩ : ∃ y, ns.getD k 0 = y := ⟨_, rfl⟩
      have hst := Lib.hid (Fd.joinTo_step hj.out hpq hy)
      rw [hpq] at hc1 hc2 i1 i2 i3 i4
      rw [hy] at hc3 j1 j2
      clear hpq hy
      have HF : Hid (∀ m : Later (wr.heap.size + 1) (wr.alloc (.cells #[.int .i64 p, .int .i64 q] 25)), Flds m.world.heap.size m.world (some ⟨ab, ao, none⟩) (l.take k)) := fun m =>
        (((HL.out.take k).below hb).below (((Below.refl _ _).alloc hz _).trans (m.below.mono (by omega)))).mono (by have := m.below.size; simp at this; omega)
      have hIt : Hid (InInts (l.take k)) := hI.out.take k
      go_wp2_with fail
      refine wp_region_later (wr.heap.size + 1) (wr.alloc (.cells #[.int .i64 p, .int .i64 q] 25)) (by kernel_rfl) (by kernel_rfl) (Below.refl _ _) ?_
      repeat (go_big_quiet_step (fail))
      go_big_quiet_want
      go_big_quiet_op
      apply Exists.intro
      refine ⟨fun _ => ?_, ?_⟩
      · refine Calls.later ?_ (apartAll_any p q _ k c (l.take k) _ hlk.out i3 i4 i1 i2 (by omega) (HF.out _) hIt)
        simp
      go_big_quiet_on
      repeat (go_big_quiet_step (fail))
      refine wpQuiet_nil ?_
      rintro _ ⟨n1, rfl⟩
      have hbn : Below w.heap.size w n1.world := (hb.alloc hz _).trans (n1.below.mono (by omega))
      cases hap : Fd.allApart (p, q) (l.take k) with
      | true =>
        have Hap := Lib.hid hap
        clear hap
        go_wp2_with fail
        refine wp_region_later (wr.heap.size + 1) n1.world (by kernel_rfl) (by kernel_rfl) (Below.refl _ _) ?_
        repeat (go_big_quiet_step (fail))
        go_big_quiet_want
        go_big_quiet_op
        apply Exists.intro
        refine ⟨fun _ => ?_, ?_⟩
        · refine Calls.later ?_ (put_any p q v y _ i3 i4 i1 i2 hv1 hv2 j1)
          have := n1.below.size
          simpa using this
        go_big_quiet_on
        repeat (go_big_quiet_step (fail))
        refine wpQuiet_nil ?_
        rintro _ ⟨n3, rfl⟩
        have hbm : Below w.heap.size w n3.world := hbn.trans (n3.below.mono (by omega))
        have hpb := Lib.hid (Fd.put_bd p q v y hv1 hv2 j1)
        cases hft : Fd.fits p q y with
        | true =>
          have Hft := Lib.hid hft
          clear hft
          simp only [errOf, if_true]
          go_wp2
          go_roundw
          case rel => exact ⟨k + 1, _, by omega, by go_num, rfl, hpb.out.1, hpb.out.2, (by rw [hst.out, Hap.out, Hft.out]; rfl : Fd.joinTo l ns (k + 1) = some (Fd.put p q v y)), hbm⟩
          case measure => simp [intOf]; omega
        | false =>
          have Hft := Lib.hid hft
          clear hft
          have hno : Hid (Fd.joinTo l ns n = none) := (Fd.joinTo_none (by rw [hst.out, Hap.out, Hft.out]; rfl) n (by omega) : Fd.joinTo l ns n = none)
          simp only [errOf]
          go_wp2
          go_ret2
          exact ⟨by rw [hno.out]; rfl, hbm⟩
      | false =>
        have Hap := Lib.hid hap
        clear hap
        have hno : Hid (Fd.joinTo l ns n = none) := (Fd.joinTo_none (by rw [hst.out, Hap.out]; rfl) n (by omega) : Fd.joinTo l ns n = none)
        go_wp2
        go_ret2
        exact ⟨by rw [hno.out]; rfl, hbn⟩
    · have hkn : Hid (k = n) := (by omega : k = n)
      go_wp2
      go_ret2
      exact ⟨by rw [← hkn.out, hj.out]; rfl, hb⟩
end Go.Proofs.Ytlnpnflmcgkfoaa
