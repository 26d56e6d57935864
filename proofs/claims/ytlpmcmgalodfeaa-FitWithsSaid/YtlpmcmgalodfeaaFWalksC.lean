/-
  Contracts of package fit, and of the document's answers: the first bad stretch; whether a set keeps its deadlines.
-/
import Derived.Test.YtlpmcmgalodfeaaFWalksB
import Derived.Test.YtlpmcmgalodfeaaTWalksE
import Derived.Test.YtlpmcmgalodfeaaTWalksF
namespace Go.Proofs.Ytlpmcmgalodfeaa
open Go.ChangeShapes Go.WideShapes Go.ChangeAt Go.RowKit

theorem first_back {a b : Int} {x y : Bool} {c d : Int} (h : a = b) (h2 : x = y) (h3 : c = d) : Ending.returned (.tuple #[.int .i64 a, .bool x, .int .i64 c]) = .returned (.tuple #[.int .i64 b, .bool y, .int .i64 d]) := by rw [h, h2, h3]
theorem ptsAns_yes {l : List (Int × Int × Int)} {t : Int} (h : Tk.spans l t = true) : ptsAns l t = Tk.pts l t := by simp [ptsAns, h]

set_option maxHeartbeats 1600000 in
theorem first_any (A : Option Addr) (n c : Nat) (l : List (Int × Int × Int)) (A2 : Option Addr) (m c2 : Nat) (s : List Int) (b p t : Int) (w : World) (hln : l.length = n) (hL : Tks w.heap.size w A l) (hsm : s.length = m) (hS : NumsI w.heap.size w A2 s) (hm : m ≤ c2) :
    Calls Try.prog 9 #[.slice A n c, .slice A2 m c2, .agg #[.int .i64 b, .int .i64 p], .int .i64 t] w fun e w' => e = .returned (.tuple #[.int .i64 (Ft.firstN l s b p t), .bool (Ft.firstB l s b p t), .int .i64 (Ft.firstE l s b p t)]) ∧ Below w.heap.size w w' := by
  have hbox : Below w.heap.size w (w.alloc (.cells #[.int .i64 b, .int .i64 p] 31)) := by go_grown
  have HB := Lib.hid hbox
  have TL := Lib.hid (hL.later hbox)
  have NS := Lib.hid (hS.later hbox)
  clear hbox hL hS
  have CA : Hid (∀ w : World, Tks w.heap.size w A l → NumsI w.heap.size w A2 s → _) := fun w h h2 => fspans_any A n c l A2 m c2 s b p t w hln h hsm h2
  cases ha : Ft.asks l s b p t with
  | false =>
    rw [ha] at CA
    rw [show Ft.firstN l s b p t = 0 by simp [Ft.firstN, ha], show Ft.firstB l s b p t = false by simp [Ft.firstB, ha], show Ft.firstE l s b p t = 1 by simp [Ft.firstE, ha]]
    clear ha hln hsm
    go_enter Try.func9, Try.ntmps9
    go_wp2_with fail
    refine (CA.out _ TL.out NS.out).mono ?_
    rintro e w1 ⟨rfl, hb1⟩
    have hW := Lib.hid (HB.out.trans (hb1.mono (by simp)))
    clear hb1
    go_wp2
    go_ret3
    exact ⟨rfl, hW.out⟩
  | true =>
    rw [ha] at CA
    have HA := Lib.hid ha
    obtain ⟨⟨ht0, ht1⟩, hall, hwi, hr⟩ := Ft.asks_iff.1 ha
    have Hall := Lib.hid hall
    have Hw := Lib.hid hwi
    have Hr := Lib.hid hr
    have hsp : Tk.spans l t = true := by simp [Tk.spans, ht0, ht1, hall]
    have CP : Hid (∀ w : World, Tks w.heap.size w A l → _) := fun w h => points_any A n c l t w hln h
    rw [ptsAns_yes hsp] at CP
    have CS : Hid (∀ (x : Int) (w : World), 0 ≤ x → x ≤ 1048576 → Tks w.heap.size w A l → NumsI w.heap.size w A2 s → _) := fun x w h0 h1 h h2 => fspare_any A n c l A2 m c2 s b p x w hln h hsm h2 hm Hall Hw Hr h0 h1
    obtain ⟨L, hLe⟩ : ∃ L, Tk.pts l t = L := ⟨_, rfl⟩
    have HP : Hid (∀ k, k < L.length → 1 ≤ L.getD k 0 ∧ L.getD k 0 ≤ t) := (fun k hk => by rw [← hLe] at hk ⊢; exact Ft.pts_at hall hk : ∀ k, k < L.length → 1 ≤ L.getD k 0 ∧ L.getD k 0 ≤ t)
    have hfew : L.length ≤ 1048577 := by rw [← hLe]; exact Ft.pts_few l ht1
    have HF : Hid (Ft.first l s b p t = L.find? (Ft.bad l s b p)) := (by rw [Ft.first, hLe] : Ft.first l s b p t = L.find? (Ft.bad l s b p))
    rw [hLe] at CP
    clear ha hall hwi hr hsp hLe hln hsm
    go_enter Try.func9, Try.ntmps9
    go_wp2_with fail
    refine (CA.out _ TL.out NS.out).mono ?_
    rintro e w1 ⟨rfl, hb1⟩
    have T1 := Lib.hid (TL.out.later hb1)
    have N1 := Lib.hid (NS.out.later hb1)
    have B1 := Lib.hid (Below.mono hb1 (B' := w.heap.size + 1) (by simp))
    have z1 := Lib.hid (show w.heap.size + 1 ≤ w1.heap.size by have := hb1.size; simpa using this)
    clear hb1
    go_wp2_with fail
    refine (CP.out _ T1.out).mono ?_
    rintro e w3 ⟨A3, c3, rfl, hc3, hN, hb3⟩
    have T3 := Lib.hid (T1.out.later hb3)
    have N3 := Lib.hid (N1.out.later hb3)
    have B3 := Lib.hid (B1.out.trans (hb3.mono z1.out))
    have z3 := Lib.hid (Nat.le_trans z1.out hb3.size)
    have NP := Lib.hid hN
    have W3 := Lib.hid (HB.out.trans (B3.out.mono (by omega)))
    clear hb3 hN
    go_wp2_with fail
    go_loopw [23] (fun i wr => ∃ k : Nat, k ≤ L.length ∧ i = .int .i64 k ∧ Hid (∀ j, j < k → Ft.bad l s b p (L.getD j 0) = false) ∧ Below w3.heap.size w3 wr) (fun i _ => (L.length - intOf i).toNat)
    case atStart => exact ⟨0, by omega, rfl, (fun j hj => by omega : ∀ j, j < 0 → Ft.bad l s b p (L.getD j 0) = false), Below.refl _ _⟩
    case round =>
      obtain ⟨k, hk, rfl, hok, hb⟩ := hrel
      by_cases hlt : k < L.length
      · obtain ⟨b3, o3, rfl, hB3, h3⟩ := NP.out (by omega)
        have hcx := (hb.cell (p := ⟨b3, _, none⟩) hB3).trans (h3 k hlt)
        clear h3
        obtain ⟨hx0, hx1⟩ := HP.out k hlt
        have T4 := Lib.hid (T3.out.later hb)
        have N4 := Lib.hid (N3.out.later hb)
        have hbw := Lib.hid (B3.out.trans (hb.mono z3.out))
        obtain ⟨hc, hf⟩ := old_cells hbw.out
        have hz := hb.size
        have hz1 : w.heap.size < wr.heap.size := by have := z3.out; omega
        have hz3 : b3 < wr.heap.size := by omega
        have hk0 : (0 : Int) ≤ k := by omega
        have hkl : (k : Int) < L.length := by omega
        obtain ⟨x, hx⟩ : ∃ x, L.getD k 0 = x := ⟨_, rfl⟩
        rw [hx] at hcx hx0 hx1
        have Hx := Lib.hid hx
        clear hx
        have CX := Lib.hid (fun w => CS.out x w (by omega) (by omega))
        have hbad : Ft.bad l s b p x = decide (Ft.spare l s b p x < 0) := by
          rw [Ft.bad, Ft.spare]
          congr 1
          exact propext ⟨fun h => by omega, fun h => by omega⟩
        obtain ⟨y, hy⟩ : ∃ y, Ft.spare l s b p x = y := ⟨_, rfl⟩
        rw [hy] at hbad CX
        clear hy
        have Hbad := Lib.hid hbad
        clear hbad
        by_cases h1 : y < 0
        · have Hf : Hid (Ft.first l s b p t = some x) := (by rw [HF.out, Ft.find_at hlt hok.out (by rw [Hx.out, Hbad.out]; exact decide_eq_true h1), Hx.out] : Ft.first l s b p t = some x)
          go_wp2_with fail
          refine (CX.out _ T4.out N4.out).mono ?_
          rintro e w5 ⟨rfl, hb5⟩
          have W5 := Lib.hid (W3.out.trans ((hb.trans (hb5.mono hz)).mono W3.out.size))
          clear hb5 hb hc hf
          go_wp2
          go_ret3
          exact ⟨first_back (by rw [Ft.firstN, if_pos HA.out, Hf.out]; rfl) (by rw [Ft.firstB, HA.out, Hf.out]; rfl) (by rw [Ft.firstE, if_pos HA.out]), W5.out⟩
        · have Hn : Hid (∀ j, j < k + 1 → Ft.bad l s b p (L.getD j 0) = false) := (fun j hj => by
            by_cases hjk : j = k
            · rw [hjk, Hx.out, Hbad.out]
              exact decide_eq_false h1
            · exact hok.out j (by omega) : ∀ j, j < k + 1 → Ft.bad l s b p (L.getD j 0) = false)
          go_wp2_with fail
          refine (CX.out _ T4.out N4.out).mono ?_
          rintro e w5 ⟨rfl, hb5⟩
          have W5 := Lib.hid (hb.trans (hb5.mono hz))
          clear hb5 hb hc hf
          go_wp2
          go_roundw
          case rel => exact ⟨k + 1, by omega, by go_num, Hn.out, W5.out⟩
          case measure => simp [intOf]; omega
      · obtain rfl : L.length = k := by omega
        have Hf : Hid (Ft.first l s b p t = none) := (by rw [HF.out, Ft.find_none hok.out] : Ft.first l s b p t = none)
        have W5 := Lib.hid (W3.out.trans (hb.mono W3.out.size))
        go_wp2
        go_ret3
        exact ⟨first_back (by rw [Ft.firstN, if_pos HA.out, Hf.out]; rfl) (by rw [Ft.firstB, HA.out, Hf.out]; rfl) (by rw [Ft.firstE, if_pos HA.out]), W5.out⟩

theorem keeps_is (l : List (Int × Int × Int)) (s : List Int) (b p t : Int) : Ft.keeps l s b p t = (decide (Ft.firstE l s b p t = 0) && !Ft.firstB l s b p t) := by
  rw [Ft.keeps, Ft.firstE, Ft.firstB]
  cases Ft.asks l s b p t <;> cases Ft.first l s b p t <;> rfl

set_option maxHeartbeats 800000 in
theorem keeps_any (A : Option Addr) (n c : Nat) (l : List (Int × Int × Int)) (A2 : Option Addr) (m c2 : Nat) (s : List Int) (b p t : Int) (w : World) (hln : l.length = n) (hL : Tks w.heap.size w A l) (hsm : s.length = m) (hS : NumsI w.heap.size w A2 s) (hm : m ≤ c2) :
    Calls Try.prog 13 #[.slice A n c, .slice A2 m c2, .agg #[.int .i64 b, .int .i64 p], .int .i64 t] w fun e w' => e = .returned (.bool (Ft.keeps l s b p t)) ∧ Below w.heap.size w w' := by
  have hbox : Below w.heap.size w (w.alloc (.cells #[.int .i64 b, .int .i64 p] 31)) := by go_grown
  have HB := Lib.hid hbox
  have TL := Lib.hid (hL.later hbox)
  have NS := Lib.hid (hS.later hbox)
  clear hbox hL hS
  have CF : Hid (∀ w : World, Tks w.heap.size w A l → NumsI w.heap.size w A2 s → _) := fun w h h2 => first_any A n c l A2 m c2 s b p t w hln h hsm h2 hm
  rw [keeps_is]
  generalize Ft.firstN l s b p t = x at *
  generalize Ft.firstB l s b p t = y at *
  generalize Ft.firstE l s b p t = z at *
  clear hln hsm
  by_cases hz : z = 0
  · subst hz
    go_enter Try.func13, Try.ntmps13
    go_wp2_with fail
    refine (CF.out _ TL.out NS.out).mono ?_
    rintro e w1 ⟨rfl, hb1⟩
    have hW := Lib.hid (HB.out.trans (hb1.mono (by simp)))
    clear hb1
    go_wp2
    go_ret
    exact ⟨bool_back (by simp), hW.out⟩
  · have hd : (z == 0) = false := by simp [hz]
    have Hz := Lib.hid hz
    clear hz
    go_enter Try.func13, Try.ntmps13
    go_wp2_with fail
    refine (CF.out _ TL.out NS.out).mono ?_
    rintro e w1 ⟨rfl, hb1⟩
    have hW := Lib.hid (HB.out.trans (hb1.mono (by simp)))
    clear hb1
    go_wp2
    go_ret
    exact ⟨bool_back (by simp [Hz.out]), hW.out⟩
end Go.Proofs.Ytlpmcmgalodfeaa
