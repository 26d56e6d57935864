/-
  Contracts of package fit, and of the document's answers: which sections may be; how long a job may be held up; what is asked for.
-/
import Derived.Test.YtlpmcmgalodfeaaFMath
import Derived.Test.YtlpmcmgalodfeaaTWalksB
import Derived.Test.YtlpmcmgalodfeaaTWalksC
import Derived.Test.YtlpmcmgalodfeaaSWalksB
import Derived.Test.YtlpmcmgalodfeaaInts
namespace Go.Proofs.Ytlpmcmgalodfeaa
open Go.ChangeShapes Go.WideShapes Go.ChangeAt Go.RowKit

set_option maxHeartbeats 800000 in
theorem within_any (A : Option Addr) (n c : Nat) (l : List (Int × Int × Int)) (A2 : Option Addr) (m c2 : Nat) (s : List Int) (w : World) (hln : l.length = n) (hL : Tks w.heap.size w A l) (hsm : s.length = m) (hS : NumsI w.heap.size w A2 s) (hn8 : n ≤ 8) :
    Calls Try.prog 30 #[.slice A n c, .slice A2 m c2] w fun e w' => e = .returned (.bool (Ft.within l s)) ∧ w = w' := by
  have HL := Lib.hid hL
  have Hl := Lib.hid hln
  have HS := Lib.hid hS
  have Hs := Lib.hid hsm
  clear hL hln hS hsm
  by_cases hbig : m ≤ n
  · have hd1 : decide (n < m) = false := by simp; omega
    go_enter Try.func30, Try.ntmps30
    go_wp2_with fail
    go_loop [14] (fun i => ∃ k : Nat, k ≤ m ∧ i = .int .i64 k ∧ Hid (Ft.okTo l s k = true)) (fun i => (m - intOf i).toNat)
    case atStart => exact ⟨0, by omega, rfl, (rfl : Ft.okTo l s 0 = true)⟩
    case round =>
      obtain ⟨k, hk, rfl, hok⟩ := hrel
      by_cases hlt : k < m
      · obtain ⟨ab, ao, rfl, hB, hcell⟩ := HL.out (by rw [Hl.out]; omega)
        obtain ⟨hc1, -, -⟩ := hcell k (by rw [Hl.out]; omega)
        clear hcell
        obtain ⟨b2, o2, rfl, hB2, h2⟩ := HS.out (by rw [Hs.out]; omega)
        have hc2 := h2 k (by rw [Hs.out]; exact hlt)
        clear h2
        have hk0 : (0 : Int) ≤ k := by omega
        have hkm : (k : Int) < m := by omega
        have hkn : (k : Int) < n := by omega
        obtain ⟨q, p, d, hxyz⟩ : ∃ x y z, l.getD k (0, 0, 0) = (x, y, z) := ⟨_, _, _, rfl⟩
        obtain ⟨x, hx⟩ : ∃ x, s.getD k 0 = x := ⟨_, rfl⟩
        have hst := Lib.hid (Ft.okTo_step l s k)
        have hat : Hid (Ft.okAt l s k = (decide (0 ≤ x) && decide (x ≤ q))) := (by rw [Ft.okAt, hx, hxyz] : Ft.okAt l s k = (decide (0 ≤ x) && decide (x ≤ q)))
        have hno := Lib.hid (Ft.ok_no (l := l) (s := s) (show k < s.length by rw [Hs.out]; exact hlt))
        rw [hxyz] at hc1
        rw [hx] at hc2
        clear hxyz hx
        by_cases h1 : 0 ≤ x
        · by_cases h3 : x ≤ q
          · go_wp2_with fail
            go_round
            case rel => exact ⟨k + 1, by omega, by go_num, (by rw [hst.out, hok.out, hat.out]; simp [h1, h3] : Ft.okTo l s (k + 1) = true)⟩
            case measure => simp [intOf]; omega
          · go_wp2_with fail
            go_ret
            exact ⟨bool_back (by rw [Ft.within, hno.out (by rw [hat.out]; simp; omega), Bool.and_false]), rfl⟩
        · go_wp2_with fail
          go_ret
          exact ⟨bool_back (by rw [Ft.within, hno.out (by rw [hat.out]; simp; omega), Bool.and_false]), rfl⟩
      · obtain rfl : m = k := by omega
        go_wp2_with fail
        go_ret
        exact ⟨bool_back (by rw [Ft.within, Hs.out, Hl.out, hok.out]; simp [hbig]), rfl⟩
  · have hd1 : decide (n < m) = true := by simp; omega
    go_enter Try.func30, Try.ntmps30
    go_wp2_with fail
    go_ret
    exact ⟨bool_back (by rw [Ft.within, Hs.out, Hl.out]; simp [hbig]), rfl⟩

set_option maxHeartbeats 800000 in
theorem held_any (A : Option Addr) (n c : Nat) (l : List (Int × Int × Int)) (A2 : Option Addr) (m c2 : Nat) (s : List Int) (t : Int) (w : World) (hln : l.length = n) (hL : Tks w.heap.size w A l) (hsm : s.length = m) (hS : NumsI w.heap.size w A2 s)
    (hm : m ≤ c2) (Hall : Hid (Tk.all l = true)) (Hw : Hid (Ft.within l s = true)) :
    Calls Try.prog 15 #[.slice A n c, .slice A2 m c2, .int .i64 t] w fun e w' => e = .returned (.int .i64 (Ft.held l s t)) ∧ w = w' := by
  have HL := Lib.hid hL
  have Hl := Lib.hid hln
  have HS := Lib.hid hS
  have Hs := Lib.hid hsm
  have hmn : m ≤ n := by rw [← hln, ← hsm]; exact Ft.within_len Hw.out
  have hn8 : n ≤ 8 := by rw [← hln]; exact Tk.all_len Hall.out
  clear hL hln hS hsm
  go_enter Try.func15, Try.ntmps15
  go_wp2_with fail
  go_loop [7, 18] (fun x i => ∃ (k : Nat) (y : Int), k ≤ m ∧ i = .int .i64 k ∧ x = .int .i64 y ∧ 0 ≤ y ∧ y ≤ 1048576 ∧ Hid (y = Ft.heldTo l s t k)) (fun _ i => (m - intOf i).toNat)
  case atStart => exact ⟨0, 0, by omega, rfl, rfl, by omega, by omega, (rfl : (0 : Int) = Ft.heldTo l s t 0)⟩
  case round =>
    obtain ⟨k, y, hk, rfl, rfl, hy0, hy1, hy⟩ := hrel
    by_cases hlt : k < m
    · obtain ⟨ab, ao, rfl, hB, hcell⟩ := HL.out (by rw [Hl.out]; omega)
      obtain ⟨hc1, -, hc3⟩ := hcell k (by rw [Hl.out]; omega)
      clear hcell
      obtain ⟨b2, o2, rfl, hB2, h2⟩ := HS.out (by rw [Hs.out]; omega)
      have hc2 := h2 k (by rw [Hs.out]; exact hlt)
      clear h2
      have hk0 : (0 : Int) ≤ k := by omega
      have hkm : (k : Int) < m := by omega
      have hkn : (k : Int) < n := by omega
      obtain ⟨q, p, d, hxyz⟩ : ∃ x y z, l.getD k (0, 0, 0) = (x, y, z) := ⟨_, _, _, rfl⟩
      obtain ⟨x, hx⟩ : ∃ x, s.getD k 0 = x := ⟨_, rfl⟩
      have hyes := Lib.hid (Ft.heldTo_yes (s := s) (t := t) hxyz)
      have hno := Lib.hid (Ft.heldTo_no (s := s) (t := t) hxyz)
      have hbd := Lib.hid (Ft.held_bd Hall.out Hw.out t (k + 1) (by rw [Hs.out]; omega))
      have hin := Ft.within_at Hw.out (show k < s.length by rw [Hs.out]; exact hlt)
      rw [hxyz, hx] at hin
      rw [hxyz] at hc1 hc3
      rw [hx] at hc2 hyes
      clear hxyz hx
      by_cases h1 : t < d
      · have hmin : min x q = x := by omega
        have Hn := Lib.hid (hyes.out h1)
        by_cases h3 : y < x
        · have hmax : max y x = x := by omega
          have Hx : Hid (x = Ft.heldTo l s t (k + 1)) := (by rw [Hn.out, ← hy.out, hmax] : x = Ft.heldTo l s t (k + 1))
          go_wp2_with fail
          go_round
          case rel => exact ⟨k + 1, x, by omega, by go_num, rfl, by omega, by rw [Hx.out]; exact hbd.out.2, Hx.out⟩
          case measure => simp [intOf]; omega
        · have hmax : max y x = y := by omega
          have Hx : Hid (y = Ft.heldTo l s t (k + 1)) := (by rw [Hn.out, ← hy.out, hmax] : y = Ft.heldTo l s t (k + 1))
          go_wp2_with fail
          go_round
          case rel => exact ⟨k + 1, y, by omega, by go_num, rfl, by omega, by omega, Hx.out⟩
          case measure => simp [intOf]; omega
      · have Hx : Hid (y = Ft.heldTo l s t (k + 1)) := (by rw [hno.out h1, ← hy.out] : y = Ft.heldTo l s t (k + 1))
        go_wp2_with fail
        go_round
        case rel => exact ⟨k + 1, y, by omega, by go_num, rfl, by omega, by omega, Hx.out⟩
        case measure => simp [intOf]; omega
    · obtain rfl : m = k := by omega
      go_wp2_with fail
      go_ret
      exact ⟨int_back (by rw [hy.out, Ft.held, Hs.out]), rfl⟩

set_option maxHeartbeats 800000 in
theorem rheld_any (A : Option Addr) (n c : Nat) (l : List (Int × Int × Int)) (A2 : Option Addr) (m c2 : Nat) (s : List Int) (t : Int) (w : World) (hln : l.length = n) (hL : Tks w.heap.size w A l) (hsm : s.length = m) (hS : NumsI w.heap.size w A2 s)
    (Hall : Hid (Tk.all l = true)) (Hw : Hid (Ft.within l s = true)) :
    Calls Try.prog 16 #[.slice A n c, .slice A2 m c2, .int .i64 t] w fun e w' => e = .returned (.int .i64 (Ft.held l s t)) ∧ w = w' := by
  have HL := Lib.hid hL
  have Hl := Lib.hid hln
  have HS := Lib.hid hS
  have Hs := Lib.hid hsm
  have hmn : m ≤ n := by rw [← hln, ← hsm]; exact Ft.within_len Hw.out
  have hn8 : n ≤ 8 := by rw [← hln]; exact Tk.all_len Hall.out
  clear hL hln hS hsm
  go_enter Try.func16, Try.ntmps16
  go_wp2_with fail
  go_loop [7, 8] (fun x i => ∃ (k : Nat) (y : Int), k ≤ m ∧ i = .int .i64 k ∧ x = .int .i64 y ∧ 0 ≤ y ∧ y ≤ 1048576 ∧ Hid (y = Ft.heldTo l s t k)) (fun _ i => (m - intOf i).toNat)
  case atStart => exact ⟨0, 0, by omega, rfl, rfl, by omega, by omega, (rfl : (0 : Int) = Ft.heldTo l s t 0)⟩
  case round =>
    obtain ⟨k, y, hk, rfl, rfl, hy0, hy1, hy⟩ := hrel
    by_cases hlt : k < m
    · obtain ⟨ab, ao, rfl, hB, hcell⟩ := HL.out (by rw [Hl.out]; omega)
      obtain ⟨-, -, hc3⟩ := hcell k (by rw [Hl.out]; omega)
      clear hcell
      obtain ⟨b2, o2, rfl, hB2, h2⟩ := HS.out (by rw [Hs.out]; omega)
      have hc2 := h2 k (by rw [Hs.out]; exact hlt)
      clear h2
      have hk0 : (0 : Int) ≤ k := by omega
      have hkm : (k : Int) < m := by omega
      have hkn : (k : Int) < n := by omega
      obtain ⟨q, p, d, hxyz⟩ : ∃ x y z, l.getD k (0, 0, 0) = (x, y, z) := ⟨_, _, _, rfl⟩
      obtain ⟨x, hx⟩ : ∃ x, s.getD k 0 = x := ⟨_, rfl⟩
      have hyes := Lib.hid (Ft.heldTo_yes (s := s) (t := t) hxyz)
      have hno := Lib.hid (Ft.heldTo_no (s := s) (t := t) hxyz)
      have hbd := Lib.hid (Ft.held_bd Hall.out Hw.out t (k + 1) (by rw [Hs.out]; omega))
      rw [hxyz] at hc3
      rw [hx] at hc2 hyes
      clear hxyz hx
      by_cases h1 : t < d
      · have Hn := Lib.hid (hyes.out h1)
        by_cases h3 : y < x
        · have Hx : Hid (x = Ft.heldTo l s t (k + 1)) := (by rw [Hn.out, ← hy.out]; omega : x = Ft.heldTo l s t (k + 1))
          go_wp2_with fail
          go_round
          case rel => exact ⟨k + 1, x, by omega, by go_num, rfl, by omega, by rw [Hx.out]; exact hbd.out.2, Hx.out⟩
          case measure => simp [intOf]; omega
        · have Hx : Hid (y = Ft.heldTo l s t (k + 1)) := (by rw [Hn.out, ← hy.out]; omega : y = Ft.heldTo l s t (k + 1))
          go_wp2_with fail
          go_round
          case rel => exact ⟨k + 1, y, by omega, by go_num, rfl, by omega, by omega, Hx.out⟩
          case measure => simp [intOf]; omega
      · have Hx : Hid (y = Ft.heldTo l s t (k + 1)) := (by rw [hno.out h1, ← hy.out] : y = Ft.heldTo l s t (k + 1))
        go_wp2_with fail
        go_round
        case rel => exact ⟨k + 1, y, by omega, by go_num, rfl, by omega, by omega, Hx.out⟩
        case measure => simp [intOf]; omega
    · obtain rfl : m = k := by omega
      go_wp2_with fail
      go_ret
      exact ⟨int_back (by rw [hy.out, Ft.held, Hs.out]), rfl⟩
end Go.Proofs.Ytlpmcmgalodfeaa
