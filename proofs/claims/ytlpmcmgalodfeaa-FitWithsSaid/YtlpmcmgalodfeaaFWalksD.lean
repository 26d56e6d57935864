/-
  Contracts of the document's answers of package fit: the first bad stretch; and of the statements' own text.
-/
import Derived.Test.YtlpmcmgalodfeaaFWalksC
namespace Go.Proofs.Ytlpmcmgalodfeaa
open Go.ChangeShapes Go.WideShapes Go.ChangeAt Go.RowKit

set_option maxHeartbeats 1600000 in
theorem rfirst_any (A : Option Addr) (n c : Nat) (l : List (Int × Int × Int)) (A2 : Option Addr) (m c2 : Nat) (s : List Int) (b p t : Int) (w : World) (hln : l.length = n) (hL : Tks w.heap.size w A l) (hsm : s.length = m) (hS : NumsI w.heap.size w A2 s)
    (Hall : Hid (Tk.all l = true)) (Hw : Hid (Ft.within l s = true)) (hb0 : 0 ≤ b) (hb1 : b ≤ 1048576) (hp0 : 1 ≤ p) (hp1 : p ≤ 1048576) (ht0 : 0 ≤ t) (ht1 : t ≤ 1048576) :
    Calls Try.prog 14 #[.slice A n c, .slice A2 m c2, .agg #[.int .i64 b, .int .i64 p], .int .i64 t] w fun e w' => e = .returned (.int .i64 (Ft.firstI l s b p t)) ∧ Below w.heap.size w w' := by
  have hbox : Below w.heap.size w (w.alloc (.cells #[.int .i64 b, .int .i64 p] 25)) := by go_grown
  have HB := Lib.hid hbox
  have TL := Lib.hid (hL.later hbox)
  have NS := Lib.hid (hS.later hbox)
  clear hbox hL hS
  have CP : Hid (∀ w : World, Tks w.heap.size w A l → _) := fun w h => rpoints_any A n c l t w hln h ht0 ht1 Hall
  have CN : Hid (∀ (x : Int) (w : World), x ≤ 1048576 → Tks w.heap.size w A l → NumsI w.heap.size w A2 s → _) := fun x w h1 h h2 => rneeds_any A n c l A2 m c2 s x w hln h hsm h2 Hall Hw h1
  have CG : Hid (∀ (x : Int) (w : World), 0 ≤ x → x ≤ 1048576 → _) := fun x w h0 h1 => rleast_any b p x w hb0 hb1 hp0 hp1 h1 (by omega)
  obtain ⟨L, hLe⟩ : ∃ L, Tk.pts l t = L := ⟨_, rfl⟩
  have HP : Hid (∀ k, k < L.length → 1 ≤ L.getD k 0 ∧ L.getD k 0 ≤ t) := (fun k hk => by rw [← hLe] at hk ⊢; exact Ft.pts_at Hall.out hk : ∀ k, k < L.length → 1 ≤ L.getD k 0 ∧ L.getD k 0 ≤ t)
  have hfew : L.length ≤ 1048577 := by rw [← hLe]; exact Ft.pts_few l ht1
  have HF : Hid (Ft.first l s b p t = L.find? (Ft.bad l s b p)) := (by rw [Ft.first, hLe] : Ft.first l s b p t = L.find? (Ft.bad l s b p))
  rw [hLe] at CP
  clear hLe hln hsm
  go_enter Try.func14, Try.ntmps14
  go_wp2_with fail
  refine (CP.out _ TL.out).mono ?_
  rintro e w3 ⟨A3, c3, rfl, hc3, hN, hb3⟩
  have T3 := Lib.hid (TL.out.later hb3)
  have N3 := Lib.hid (NS.out.later hb3)
  have B3 := Lib.hid (Below.mono hb3 (B' := w.heap.size + 1) (by simp))
  have z3 := Lib.hid (show w.heap.size + 1 ≤ w3.heap.size by have := hb3.size; simpa using this)
  have NP := Lib.hid hN
  have W3 := Lib.hid (HB.out.trans (B3.out.mono (by omega)))
  clear hb3 hN
  go_wp2_with fail
  go_loopw [10] (fun i wr => ∃ k : Nat, k ≤ L.length ∧ i = .int .i64 k ∧ Hid (∀ j, j < k → Ft.bad l s b p (L.getD j 0) = false) ∧ Below w3.heap.size w3 wr) (fun i _ => (L.length - intOf i).toNat)
  case atStart => exact ⟨0, by omega, rfl, (fun j hj => by omega : ∀ j, j < 0 → Ft.bad l s b p (L.getD j 0) = false), Below.refl _ _⟩
  case round =>
    obtain ⟨k, hk, rfl, hok, hb⟩ := hrel
    by_cases hlt : k < L.length
    · obtain ⟨b3, o3, rfl, hB3, h3⟩ := NP.out (by omega)
      have hcx := (hb.cell (p := ⟨b3, _, none⟩) hB3).trans (h3 k hlt)
      clear h3
      obtain ⟨hx0, hx1⟩ := HP.out k hlt
      have T4 := Lib.hid (T3.out.later hb)
      have N4 := Lib.hid (N3.out.later hb)
      have hbw := Lib.hid (B3.out.trans (hb.mono z3.out))
      obtain ⟨hc, hf⟩ := old_cells hbw.out
      have hz := hb.size
      have hz1 : w.heap.size < wr.heap.size := by have := z3.out; omega
      have hz3 : b3 < wr.heap.size := by omega
      have hk0 : (0 : Int) ≤ k := by omega
      have hkl : (k : Int) < L.length := by omega
      obtain ⟨x, hx⟩ : ∃ x, L.getD k 0 = x := ⟨_, rfl⟩
      rw [hx] at hcx hx0 hx1
      have Hx := Lib.hid hx
      clear hx
      have CX := Lib.hid (fun w => CN.out x w (by omega))
      have CY := Lib.hid (fun w => CG.out x w (by omega) (by omega))
      have hbad : Ft.bad l s b p x = decide (Sp.give b p x < Ft.needs l s x) := rfl
      obtain ⟨y, hy⟩ : ∃ y, Ft.needs l s x = y := ⟨_, rfl⟩
      obtain ⟨g, hg⟩ : ∃ g, Sp.give b p x = g := ⟨_, rfl⟩
      rw [hy] at hbad CX
      rw [hg] at hbad CY
      clear hy hg
      have Hbad := Lib.hid hbad
      clear hbad
      go_wp2_with fail
      refine wp_region_later wr.heap.size wr (by kernel_rfl) (by kernel_rfl) (Below.refl _ _) ?_
      repeat (go_big_quiet_step (first
        | (with_reducible exact Calls.later_same (CX.out _ (T4.out.later (Later.below _)) (N4.out.later (Later.below _))))
        | ((with_reducible refine Calls.later ?_ (CY.out _)); exact Nat.le_refl _)))
      refine wpQuiet_nil ?_
      rintro _ ⟨n1, rfl⟩
      have W5 := Lib.hid (hb.trans (n1.below.mono hz))
      by_cases h1 : g < y
      · have Hf : Hid (Ft.first l s b p t = some x) := (by rw [HF.out, Ft.find_at hlt hok.out (by rw [Hx.out, Hbad.out]; exact decide_eq_true h1), Hx.out] : Ft.first l s b p t = some x)
        go_wp2
        go_ret
        exact ⟨int_back (by rw [Ft.firstI, Hf.out]; rfl), W3.out.trans (W5.out.mono W3.out.size)⟩
      · have Hn : Hid (∀ j, j < k + 1 → Ft.bad l s b p (L.getD j 0) = false) := (fun j hj => by
          by_cases hjk : j = k
          · rw [hjk, Hx.out, Hbad.out]
            exact decide_eq_false h1
          · exact hok.out j (by omega) : ∀ j, j < k + 1 → Ft.bad l s b p (L.getD j 0) = false)
        go_wp2
        go_roundw
        case rel => exact ⟨k + 1, by omega, by go_num, Hn.out, W5.out⟩
        case measure => simp [intOf]; omega
    · obtain rfl : L.length = k := by omega
      have Hf : Hid (Ft.first l s b p t = none) := (by rw [HF.out, Ft.find_none hok.out] : Ft.first l s b p t = none)
      have W5 := Lib.hid (W3.out.trans (hb.mono W3.out.size))
      go_wp2
      go_ret
      exact ⟨int_back (by rw [Ft.firstI, Hf.out]; rfl), W5.out⟩

theorem firstI_neg {l : List (Int × Int × Int)} {s : List Int} {b p t : Int} (ha : Tk.all l = true) : decide (Ft.firstI l s b p t < 0) = (Ft.first l s b p t).isNone := by
  rw [Ft.firstI]
  cases h : Ft.first l s b p t with
  | none => rfl
  | some x =>
    have := Tk.pts_bd (Tk.all_mem ha) x (List.mem_of_find?_eq_some h)
    simp
    omega

set_option maxHeartbeats 400000 in
theorem lkeeps_any (A : Option Addr) (n c : Nat) (l : List (Int × Int × Int)) (A2 : Option Addr) (m c2 : Nat) (s : List Int) (b p t : Int) (w : World) (hln : l.length = n) (hL : Tks w.heap.size w A l) (hsm : s.length = m) (hS : NumsI w.heap.size w A2 s)
    (Hall : Hid (Tk.all l = true)) (Hw : Hid (Ft.within l s = true)) (hb0 : 0 ≤ b) (hb1 : b ≤ 1048576) (hp0 : 1 ≤ p) (hp1 : p ≤ 1048576) (ht0 : 0 ≤ t) (ht1 : t ≤ 1048576) :
    Calls Try.prog 22 #[.slice A n c, .slice A2 m c2, .int .i64 b, .int .i64 p, .int .i64 t] w fun e w' => e = .returned (.bool (Ft.first l s b p t).isNone) ∧ Below w.heap.size w w' := by
  have HL := Lib.hid hL
  have HS := Lib.hid hS
  have CF : Hid (∀ w : World, Tks w.heap.size w A l → NumsI w.heap.size w A2 s → _) := fun w h h2 => rfirst_any A n c l A2 m c2 s b p t w hln h hsm h2 Hall Hw hb0 hb1 hp0 hp1 ht0 ht1
  rw [← firstI_neg Hall.out]
  generalize Ft.firstI l s b p t = x at *
  clear hL hS hln hsm
  go_enter Try.func22, Try.ntmps22
  go_wp2_with fail
  refine (CF.out _ HL.out HS.out).mono ?_
  rintro e w1 ⟨rfl, hb1⟩
  have hW := Lib.hid hb1
  clear hb1
  go_wp2
  go_ret
  exact ⟨rfl, hW.out⟩

set_option maxHeartbeats 400000 in
theorem fto_any (a b : Int) (w : World) :
    Calls Try.prog 10 #[.agg #[.int .i64 a, .int .i64 b]] w fun e w' => e = .returned (.agg #[.int .i64 a, .int .i64 b]) ∧ Below w.heap.size w w' := by
  go_enter Try.func10, Try.ntmps10
  go_wp2
  exact bodyPost_ret (v := .agg #[.int .i64 a, .int .i64 b]) (by simp [results, Try.results10, go_sem]) rfl ⟨rfl, by go_grown⟩

theorem example_keeps : Ft.keeps [(1, 10, 10)] [] 1 5 100 = true := by decide +kernel

set_option maxHeartbeats 400000 in
theorem fawake_any (w : World) :
    Calls Try.prog 8 #[] w fun e w' => e = .returned (.bool true) ∧ Below w.heap.size w w' := by
  have T0 : Hid (Tks (w.heap.size + 1) (w.alloc (.cells #[.int .i64 1, .int .i64 10, .int .i64 10] 48)) (some ⟨w.heap.size, 0, none⟩) [(1, 10, 10)]) := (fun _ => ⟨w.heap.size, 0, rfl, Nat.lt_succ_self _, fun i hi => by
    obtain rfl : i = 0 := by simp at hi; omega
    exact ⟨by simp [go_sem], by simp [go_sem], by simp [go_sem]⟩⟩ : Tks (w.heap.size + 1) (w.alloc (.cells #[.int .i64 1, .int .i64 10, .int .i64 10] 48)) (some ⟨w.heap.size, 0, none⟩) [(1, 10, 10)])
  have h0 : Hid (Below w.heap.size w (w.alloc (.cells #[.int .i64 1, .int .i64 10, .int .i64 10] 48))) := ((Below.refl _ _).alloc (Nat.le_refl _) _ : Below w.heap.size w _)
  have CK : Hid (∀ (c : Nat) (w : World) (A : Option Addr), Tks w.heap.size w A [(1, 10, 10)] → _) := fun c w A h => keeps_any A 1 c [(1, 10, 10)] none 0 0 [] 1 5 100 w rfl h rfl (fun h => by simp at h) (Nat.le_refl _)
  rw [example_keeps] at CK
  go_enter Try.func8, Try.ntmps8
  go_wp2_with fail
  refine (CK.out _ _ _ (by simpa using T0.out)).mono ?_
  rintro e w1 ⟨rfl, hb1⟩
  have hW := Lib.hid (h0.out.trans (hb1.mono (by simp)))
  clear hb1
  go_wp2
  go_ret
  exact ⟨rfl, hW.out⟩

/-- Is it not too much for a statement? -/
def fewB (n m : Nat) (t : Int) : Bool := decide (n ≤ 12) && decide (m ≤ 12) && (decide (t ≤ 1000) || decide (1048576 < t))
set_option maxHeartbeats 400000 in
theorem few_any (A : Option Addr) (n c : Nat) (A2 : Option Addr) (m c2 : Nat) (t : Int) (w : World) :
    Calls Try.prog 7 #[.slice A n c, .slice A2 m c2, .int .i64 t] w fun e w' => e = .returned (.bool (fewB n m t)) ∧ w = w' := by
  by_cases h1 : n ≤ 12
  · have d1 : decide ((n : Int) ≤ 12) = true := by simp; omega
    by_cases h2 : m ≤ 12
    · have d2 : decide ((m : Int) ≤ 12) = true := by simp; omega
      by_cases h3 : t ≤ 1000
      · go_enter Try.func7, Try.ntmps7
        go_wp2
        go_ret
        exact ⟨bool_back (by simp [fewB, h1, h2, h3]), rfl⟩
      · by_cases h4 : 1048576 < t
        all_goals
          go_enter Try.func7, Try.ntmps7
          go_wp2
          go_ret
          exact ⟨bool_back (by simp [fewB, h1, h2, h3, h4]), rfl⟩
    · have d2 : decide ((m : Int) ≤ 12) = false := by simp; omega
      go_enter Try.func7, Try.ntmps7
      go_wp2
      go_ret
      exact ⟨bool_back (by simp [fewB, h2]), rfl⟩
  · have d1 : decide ((n : Int) ≤ 12) = false := by simp; omega
    go_enter Try.func7, Try.ntmps7
    go_wp2
    go_ret
    exact ⟨bool_back (by simp [fewB, h1]), rfl⟩
end Go.Proofs.Ytlpmcmgalodfeaa
