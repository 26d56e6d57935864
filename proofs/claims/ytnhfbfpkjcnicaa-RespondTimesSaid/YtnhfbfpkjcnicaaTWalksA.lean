/-
  Contracts of package tasks, and of the document's answers: which tasks, and sets, may be.
-/
import Derived.Test.YtnhfbfpkjcnicaaRows
import Derived.Test.YtnhfbfpkjcnicaaTMath
import Derived.Test.YtnhfbfpkjcnicaaKit
import Derived.Handy
namespace Go.Proofs.Ytnhfbfpkjcnicaa
open Go.ChangeShapes Go.WideShapes Go.ChangeAt Go.RowKit

/-- A slice of tasks at A, below block B, reads as the list l. -/
def Tks (B : Nat) (w : World) (A : Option Addr) (l : List (Int × Int × Int)) : Prop :=
  0 < l.length → ∃ b o, A = some ⟨b, o, none⟩ ∧ b < B ∧ ∀ i, i < l.length → w.cell? ⟨b, o + i * 3, none⟩ = some (.int .i64 (l.getD i (0, 0, 0)).1) ∧ w.cell? ⟨b, o + i * 3 + 1, none⟩ = some (.int .i64 (l.getD i (0, 0, 0)).2.1) ∧ w.cell? ⟨b, o + i * 3 + 2, none⟩ = some (.int .i64 (l.getD i (0, 0, 0)).2.2)
theorem Tks.below {B : Nat} {w w' : World} {A : Option Addr} {l : List (Int × Int × Int)} (h : Tks B w A l) (hb : Below B w w') : Tks B w' A l := fun hn => by
  obtain ⟨b, o, e, hB, hc⟩ := h hn
  exact ⟨b, o, e, hB, fun i hi => ⟨(hb.cell (p := ⟨b, _, none⟩) hB).trans (hc i hi).1, (hb.cell (p := ⟨b, _, none⟩) hB).trans (hc i hi).2.1, (hb.cell (p := ⟨b, _, none⟩) hB).trans (hc i hi).2.2⟩⟩
theorem Tks.mono {B B' : Nat} {w : World} {A : Option Addr} {l : List (Int × Int × Int)} (h : Tks B w A l) (hB : B ≤ B') : Tks B' w A l := fun hn => by
  obtain ⟨b, o, e, hb, hc⟩ := h hn
  exact ⟨b, o, e, by omega, hc⟩
theorem Tks.later {w w' : World} {A : Option Addr} {l : List (Int × Int × Int)} (h : Tks w.heap.size w A l) (hb : Below w.heap.size w w') : Tks w'.heap.size w' A l := (h.below hb).mono hb.size

set_option maxHeartbeats 400000 in
theorem tright_any (c p d : Int) (w : World) :
    Calls Try.prog 12 #[.agg #[.int .i64 c, .int .i64 p, .int .i64 d]] w fun e w' => e = .returned (.bool (Tk.right c p d)) ∧ Below w.heap.size w w' := by
  by_cases h1 : 1 ≤ c
  · by_cases h2 : c ≤ d
    · by_cases h3 : d ≤ p
      · by_cases h4 : p ≤ 1048576
        all_goals
          go_enter Try.func12, Try.ntmps12
          go_wp2
          go_ret
          exact ⟨bool_back (by simp [Tk.right, *]), by go_grown⟩
      · go_enter Try.func12, Try.ntmps12
        go_wp2
        go_ret
        exact ⟨bool_back (by simp [Tk.right]; omega), by go_grown⟩
    · go_enter Try.func12, Try.ntmps12
      go_wp2
      go_ret
      exact ⟨bool_back (by simp [Tk.right]; omega), by go_grown⟩
  · go_enter Try.func12, Try.ntmps12
    go_wp2
    go_ret
    exact ⟨bool_back (by simp [Tk.right]; omega), by go_grown⟩

set_option maxHeartbeats 400000 in
theorem trright_any (c p d : Int) (w : World) :
    Calls Try.prog 8 #[.agg #[.int .i64 c, .int .i64 p, .int .i64 d]] w fun e w' => e = .returned (.bool (Tk.right c p d)) ∧ Below w.heap.size w w' := by
  by_cases h1 : 1 ≤ c
  · by_cases h2 : c ≤ d
    · by_cases h3 : d ≤ p
      · by_cases h4 : p ≤ 1048576
        all_goals
          go_enter Try.func8, Try.ntmps8
          go_wp2
          go_ret
          exact ⟨bool_back (by simp [Tk.right, *]), by go_grown⟩
      · go_enter Try.func8, Try.ntmps8
        go_wp2
        go_ret
        exact ⟨bool_back (by simp [Tk.right]; omega), by go_grown⟩
    · go_enter Try.func8, Try.ntmps8
      go_wp2
      go_ret
      exact ⟨bool_back (by simp [Tk.right]; omega), by go_grown⟩
  · go_enter Try.func8, Try.ntmps8
    go_wp2
    go_ret
    exact ⟨bool_back (by simp [Tk.right]; omega), by go_grown⟩

set_option maxHeartbeats 800000 in
theorem tall_any (A : Option Addr) (n c : Nat) (l : List (Int × Int × Int)) (w : World) (hln : l.length = n) (hL : Tks w.heap.size w A l) :
    Calls Try.prog 11 #[.slice A n c] w fun e w' => e = .returned (.bool (Tk.all l)) ∧ Below w.heap.size w w' := by
  have HL := Lib.hid hL
  have Hl := Lib.hid hln
  clear hL hln
  by_cases hbig : n ≤ 8
  · have hd1 : decide ((8 : Int) < (n : Int)) = false := by simp; omega
    go_enter Try.func11, Try.ntmps11
    go_wp2_with fail
    go_loopw [10] (fun i wr => ∃ k : Nat, k ≤ n ∧ i = .int .i64 k ∧ Hid ((l.take k).all Tk.rt = true) ∧ Below w.heap.size w wr) (fun i _ => (n - intOf i).toNat)
    case atStart => exact ⟨0, by omega, rfl, (rfl : (l.take 0).all Tk.rt = true), Below.refl _ _⟩
    case round =>
      obtain ⟨k, hk, rfl, hap, hb⟩ := hrel
      by_cases hlt : k < n
      · obtain ⟨ab, ao, rfl, hB, hcell⟩ := HL.out (by rw [Hl.out]; omega)
        obtain ⟨hc1, hc2, hc3⟩ := hcell k (by rw [Hl.out]; exact hlt)
        clear hcell
        obtain ⟨hc, hf⟩ := old_cells hb
        have hz := hb.size
        have hz1 : ab < wr.heap.size := by omega
        have hz2 : ab ≤ wr.heap.size := by omega
        have hk0 : (0 : Int) ≤ k := by omega
        have hkn : (k : Int) < n := by omega
        have hst := Lib.hid (Tk.all_take (l := l) (show k < l.length by rw [Hl.out]; exact hlt))
        have hno := Lib.hid (Tk.all_no (l := l) (show k < l.length by rw [Hl.out]; exact hlt))
        obtain ⟨x, y, z, hxyz⟩ : ∃ x y z, l.getD k (0, 0, 0) = (x, y, z) := ⟨_, _, _, rfl⟩
        rw [hxyz] at hc1 hc2 hc3 hst hno
        clear hxyz
        go_wp2_with fail
        refine (tright_any x y z _).mono ?_
        rintro e w2 ⟨rfl, hb2⟩
        have hb3 := (hb.alloc (by omega) (.cells #[.int .i64 x, .int .i64 y, .int .i64 z] 24)).trans (hb2.mono (by simp; omega))
        cases hcs : Tk.right x y z with
        | true =>
          have hcs2 := Lib.hid hcs
          clear hcs
          go_wp2
          go_roundw
          case rel => exact ⟨k + 1, by omega, by go_num, (by rw [hst.out, hap.out, Tk.rt, hcs2.out]; rfl : (l.take (k + 1)).all Tk.rt = true), hb3⟩
          case measure => simp [intOf]; omega
        | false =>
          have hcs2 := Lib.hid hcs
          clear hcs
          go_wp2
          go_ret
          exact ⟨bool_back (by rw [Tk.all, hno.out (by rw [Tk.rt, hcs2.out]), Bool.and_false]), hb3⟩
      · have hkn : Hid (k = n) := (by omega : k = n)
        go_wp2
        go_ret
        refine ⟨bool_back ?_, hb⟩
        have h1 := hap.out
        rw [List.take_of_length_le (by rw [Hl.out, hkn.out]; exact Nat.le_refl _)] at h1
        rw [Tk.all, h1, Hl.out]
        simp [hbig]
  · have hd1 : decide ((8 : Int) < (n : Int)) = true := by simp; omega
    go_enter Try.func11, Try.ntmps11
    go_wp2_with fail
    go_ret
    exact ⟨bool_back (by rw [Tk.all, Hl.out]; simp [hbig]), Below.refl _ _⟩

set_option maxHeartbeats 800000 in
theorem trall_any (A : Option Addr) (n c : Nat) (l : List (Int × Int × Int)) (w : World) (hln : l.length = n) (hl : n ≤ 9223372036854775807) (hL : Tks w.heap.size w A l) :
    Calls Try.prog 7 #[.slice A n c] w fun e w' => e = .returned (.bool (Tk.all l)) ∧ Below w.heap.size w w' := by
  have HL := Lib.hid hL
  have Hl := Lib.hid hln
  clear hL hln
  go_enter Try.func7, Try.ntmps7
  go_wp2_with fail
  go_loopw [3] (fun i wr => ∃ k : Nat, k ≤ n ∧ k ≤ 9 ∧ i = .int .i64 k ∧ Hid ((l.take k).all Tk.rt = true) ∧ Below w.heap.size w wr) (fun i _ => (n - intOf i).toNat)
  case atStart => exact ⟨0, by omega, by omega, rfl, (rfl : (l.take 0).all Tk.rt = true), Below.refl _ _⟩
  case round =>
    obtain ⟨k, hk, hk9, rfl, hap, hb⟩ := hrel
    by_cases hlt : k < n
    · by_cases hlt9 : k < 9
      · obtain ⟨ab, ao, rfl, hB, hcell⟩ := HL.out (by rw [Hl.out]; omega)
        obtain ⟨hc1, hc2, hc3⟩ := hcell k (by rw [Hl.out]; exact hlt)
        clear hcell
        obtain ⟨hc, hf⟩ := old_cells hb
        have hz := hb.size
        have hz1 : ab < wr.heap.size := by omega
        have hz2 : ab ≤ wr.heap.size := by omega
        have hk0 : (0 : Int) ≤ k := by omega
        have hkn : (k : Int) < n := by omega
        have hst := Lib.hid (Tk.all_take (l := l) (show k < l.length by rw [Hl.out]; exact hlt))
        have hno := Lib.hid (Tk.all_no (l := l) (show k < l.length by rw [Hl.out]; exact hlt))
        obtain ⟨x, y, z, hxyz⟩ : ∃ x y z, l.getD k (0, 0, 0) = (x, y, z) := ⟨_, _, _, rfl⟩
        rw [hxyz] at hc1 hc2 hc3 hst hno
        clear hxyz
        go_wp2_with fail
        refine (trright_any x y z _).mono ?_
        rintro e w2 ⟨rfl, hb2⟩
        have hb3 := hb.trans (hb2.mono hz)
        cases hcs : Tk.right x y z with
        | true =>
          have hcs2 := Lib.hid hcs
          clear hcs
          go_wp2
          go_roundw
          case rel => exact ⟨k + 1, by omega, by omega, by go_num, (by rw [hst.out, hap.out, Tk.rt, hcs2.out]; rfl : (l.take (k + 1)).all Tk.rt = true), hb3⟩
          case measure => simp [intOf]; omega
        | false =>
          have hcs2 := Lib.hid hcs
          clear hcs
          go_wp2
          go_ret
          exact ⟨bool_back (by rw [Tk.all, hno.out (by rw [Tk.rt, hcs2.out]), Bool.and_false]), hb3⟩
      · have h8 : ¬ n ≤ 8 := by omega
        have h9 : ¬ (n : Int) < 9 := by omega
        go_wp2
        go_ret
        exact ⟨bool_back (by rw [Tk.all, Hl.out]; simp [h8]), hb⟩
    · have hkn : Hid (k = n) := (by omega : k = n)
      by_cases h9 : (n : Int) < 9
      all_goals
        go_wp2
        go_ret
        refine ⟨bool_back ?_, hb⟩
        have h1 := hap.out
        rw [List.take_of_length_le (by rw [Hl.out, hkn.out]; exact Nat.le_refl _)] at h1
        rw [Tk.all, h1, Hl.out]
        simp
        omega

set_option maxHeartbeats 400000 in
theorem spans_any (A : Option Addr) (n c : Nat) (l : List (Int × Int × Int)) (t : Int) (w : World) (hln : l.length = n) (hL : Tks w.heap.size w A l) :
    Calls Try.prog 21 #[.slice A n c, .int .i64 t] w fun e w' => e = .returned (.bool (Tk.spans l t)) ∧ Below w.heap.size w w' := by
  by_cases h1 : 0 ≤ t
  · by_cases h2 : t ≤ 1048576
    · go_enter Try.func21, Try.ntmps21
      go_wp2_with (go_at_call 11; refine (tall_any A n c l _ hln hL).mono ?_; rintro e w1 ⟨rfl, hb⟩)
      go_ret
      exact ⟨bool_back (by simp [Tk.spans, h1, h2]), hb⟩
    · go_enter Try.func21, Try.ntmps21
      go_wp2_with fail
      go_ret
      exact ⟨bool_back (by simp [Tk.spans]; intros; omega), Below.refl _ _⟩
  · go_enter Try.func21, Try.ntmps21
    go_wp2_with fail
    go_ret
    exact ⟨bool_back (by simp [Tk.spans]; intros; omega), Below.refl _ _⟩
end Go.Proofs.Ytnhfbfpkjcnicaa
