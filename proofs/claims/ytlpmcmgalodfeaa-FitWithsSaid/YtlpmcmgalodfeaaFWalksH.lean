/-
  The contract of With of package fit: a set with one task more.
-/
import Derived.Test.YtlpmcmgalodfeaaFWalksC
import Derived.Test.YtlpmcmgalodfeaaFWalksG
import Derived.Test.YtlpmcmgalodfeaaCopy
import Derived.Deep.RegionHeld3
import Derived.Deep.DrawnRows
import Derived.Deep.DeepCutAuto
import Derived.Deep.CutRange
namespace Go.Proofs.Ytlpmcmgalodfeaa
open Go.ChangeShapes Go.WideShapes Go.ChangeAt Go.RowKit

/-- Sections, made as many as there are tasks, and one more. -/
def heldL (s : List Int) (n : Nat) (x : Int) : List Int := s ++ List.replicate (n - s.length) 0 ++ [x]
theorem heldL_len {s : List Int} {n : Nat} (x : Int) (h : s.length ≤ n) : (heldL s n x).length = n + 1 := by
  simp [heldL]
  omega

/-- What is not in block g reads as it did. -/
theorem Tks.aside {w w' : World} {g : Nat} {A : Option Addr} {l : List (Int × Int × Int)} (h : Tks w.heap.size w A l) (hne : ∀ b o, A = some ⟨b, o, none⟩ → b ≠ g) (hc : ∀ b o, b ≠ g → w'.cell? ⟨b, o, none⟩ = w.cell? ⟨b, o, none⟩) (hz : w.heap.size ≤ w'.heap.size) : Tks w'.heap.size w' A l := fun hn => by
  obtain ⟨b, o, e, hB, h1⟩ := h hn
  have hb := hne b o e
  exact ⟨b, o, e, by omega, fun i hi => ⟨(hc b _ hb).trans (h1 i hi).1, (hc b _ hb).trans (h1 i hi).2.1, (hc b _ hb).trans (h1 i hi).2.2⟩⟩
/-- A row of n + 1 numbers, all 0, and a list of tasks beside it. -/
def TwoMade (B : Nat) (W : World) (L : List (Int × Int × Int)) (k : Nat) (Z : Array Value) (n : Nat) (p q : Value) (w : World) : Prop :=
  ∃ A c g, p = .slice A k c ∧ q = .slice (some ⟨g, 0, none⟩) n n ∧ Below B W w ∧ B ≤ g ∧ w.heap[g]? = some (.cells Z 3 (0, 0)) ∧ Tks w.heap.size w A L ∧ ∀ b o, A = some ⟨b, o, none⟩ → b ≠ g

/-- What Concat is handed lies: a row of two slices, the second one a task's. -/
def Laid (W w' : World) (A : Option Addr) (n c : Nat) (tc tp td : Int) (x g : Nat) : Prop :=
  Below W.heap.size W w' ∧ x < w'.heap.size ∧ g < w'.heap.size ∧ w'.cell? ⟨x, 0, none⟩ = some (.slice A n c) ∧ w'.cell? ⟨x, 1, none⟩ = some (.slice (some ⟨g, 0, none⟩) 1 1) ∧ w'.cell? ⟨g, 0, none⟩ = some (.int .i64 tc) ∧ w'.cell? ⟨g, 1, none⟩ = some (.int .i64 tp) ∧ w'.cell? ⟨g, 2, none⟩ = some (.int .i64 td)

theorem heap_new_at {w : World} {o : Obj} {g : Nat} (h : g = w.heap.size) : (w.alloc o).heap[g]? = some o := by
  rw [h]
  exact heap_alloc_new w o
theorem heap_old_at {w : World} {o x : Obj} {g : Nat} (h : w.heap[g]? = some x) : (w.alloc o).heap[g]? = some x := by
  rw [heap_alloc_old w o (Array.getElem?_eq_some_iff.1 h).1]
  exact h
theorem heap_drew_at {w : World} {x : Obj} {g : Nat} (h : w.heap[g]? = some x) : w.drew.heap[g]? = some x := h
theorem heap_kept {w w' : World} (h : Below w.heap.size w w') {g : Nat} {o : Obj} (hg : w.heap[g]? = some o) : w'.heap[g]? = some o := by
  rw [h.block g (Array.getElem?_eq_some_iff.1 hg).1]
  exact hg

theorem zeros_are (n size : Nat) (hs : size = 1) : (madeCells (Value.int .i64 0).cells (n * size)).toList = List.replicate n (Value.int .i64 0) := by
  subst hs
  refine List.ext_getElem (by simp [madeCells]) fun i h1 h2 => ?_
  simp [madeCells, Value.cells, Nat.mod_one]
theorem held_row (s : List Int) (n : Nat) (x : Int) (h : s.length ≤ n) : (ncells s ++ (List.replicate (n + 1) (Value.int .i64 0)).drop s.length).set n (.int .i64 x) = ncells (heldL s n x) := by
  rw [List.drop_replicate, show n + 1 - s.length = (n - s.length) + 1 by omega, List.replicate_succ', ← List.append_assoc]
  have hl : (ncells s ++ List.replicate (n - s.length) (Value.int .i64 0)).length = n := by simp [ncells]; omega
  rw [List.set_append_right _ _ (by omega), hl, Nat.sub_self]
  simp [ncells, heldL]

set_option maxHeartbeats 4000000 in
theorem with_any (A : Option Addr) (n c : Nat) (l : List (Int × Int × Int)) (A2 : Option Addr) (m c2 : Nat) (s : List Int) (tc tp td x b p t : Int) (w : World) (hln : l.length = n) (hL : Tks w.heap.size w A l) (hsm : s.length = m) (hS : NumsI w.heap.size w A2 s)
    (hA : A = none → n = 0 ∧ c = 0) (hn12 : n ≤ 12) (hmn : m ≤ n) :
    Calls Try.prog 23 #[.slice A n c, .slice A2 m c2, .agg #[.int .i64 tc, .int .i64 tp, .int .i64 td], .int .i64 x, .agg #[.int .i64 b, .int .i64 p], .int .i64 t] w fun e w' => e = .returned (.bool (Ft.keeps (l ++ [(tc, tp, td)]) (heldL s n x) b p t)) ∧ Below w.heap.size w w' := by
  obtain ⟨W, hW⟩ : ∃ W, W = (w.alloc (.cells #[.int .i64 tc, .int .i64 tp, .int .i64 td] 48)).alloc (.cells #[.int .i64 b, .int .i64 p] 31) := ⟨_, rfl⟩
  have hbox : Below w.heap.size w W := by rw [hW]; go_grown
  have HB := Lib.hid hbox
  have T0 := Lib.hid (hL.later hbox)
  have N0 := Lib.hid (hS.later hbox)
  have hsz : W.heap.size = w.heap.size + 2 := by rw [hW]; simp
  have k0 : W.cell? ⟨w.heap.size, 0, none⟩ = some (.int .i64 tc) := by rw [hW]; simp [go_sem]
  have k1 : W.cell? ⟨w.heap.size, 1, none⟩ = some (.int .i64 tp) := by rw [hW]; simp [go_sem]
  have k2 : W.cell? ⟨w.heap.size, 2, none⟩ = some (.int .i64 td) := by rw [hW]; simp [go_sem]
  have r0 : W.cell? ⟨w.heap.size + 1, 0, none⟩ = some (.int .i64 b) := by rw [hW]; simp [go_sem]
  have r1 : W.cell? ⟨w.heap.size + 1, 1, none⟩ = some (.int .i64 p) := by rw [hW]; simp [go_sem]
  have hz0 : w.heap.size < W.heap.size := by omega
  have hz1 : w.heap.size + 1 < W.heap.size := by omega
  have HW := Lib.hid hW
  have R0 := Lib.hid (And.intro r0 r1)
  have Hsz := Lib.hid hsz
  have Hl := Lib.hid hln
  have Hs := Lib.hid hsm
  have HA := Lib.hid hA
  have hd1 : decide (n < m) = false := by simp; omega
  obtain ⟨i0, hi, hi0, hi1, hi2⟩ := info_parts info_int
  have hmk0 := fun w => run_make (P := Try.prog) w 23 3 i0 (.int .i64 0) Try.underlying23 hi hi0 .i64 .i64 (n + 1) (n + 1) (by omega) (by omega) (by rw [hi2]; omega) (by omega)
  obtain ⟨Z, hZ⟩ : ∃ Z, Z = madeCells (Value.int .i64 0).cells ((n + 1 : Int).toNat * i0.size) := ⟨_, rfl⟩
  rw [← hZ, show (n + 1 : Int).toNat = n + 1 by omega] at hmk0
  have HZ := Lib.hid hZ
  have e1 : IntKind.i64.wrap ((n : Int) + 1) = (n : Int) + 1 := IntWalk.i64_in _ (by omega)
  clear hbox hL hS hW r0 r1 hsz hln hsm hA hZ
  have CC : Hid (∀ (w' : World) (x g : Nat), Laid W w' A n c tc tp td x g → _) :=
    Lib.hid fun w' x g ⟨hb, hx, hg, h0, h1, h2, h3, h4⟩ => concat_any A (some ⟨g, 0, none⟩) n c 1 1 l [(tc, tp, td)] x w' Hl.out rfl (T0.out.later hb) (tks_one w' g tc tp td hg h2 h3 h4) HA.out (fun h => by cases h) hx h0 h1 (by omega) (by omega)
  have HS : Hid (∀ w' : World, Below W.heap.size W w' → Below W.heap.size W w' ∧ w'.cell? ⟨w.heap.size, 0, none⟩ = some (.int .i64 tc) ∧ w'.cell? ⟨w.heap.size, 1, none⟩ = some (.int .i64 tp) ∧ w'.cell? ⟨w.heap.size, 2, none⟩ = some (.int .i64 td)) := Lib.hid fun w' h => by
    obtain ⟨e1, -⟩ := old_cells h
    exact ⟨h, (e1 _ _ hz0).trans k0, (e1 _ _ hz0).trans k1, (e1 _ _ hz0).trans k2⟩
  obtain ⟨ans, hans⟩ : ∃ ans, Ft.keeps (l ++ [(tc, tp, td)]) (heldL s n x) b p t = ans := ⟨_, rfl⟩
  rw [hans]
  have Hans := Lib.hid hans
  clear hans
  go_enter Try.func23, Try.ntmps23
  go_upto_region 3 with (fail)
  rw [← HW.out]
  go_cut [13, 14] from 20 to 28 (fun p q wx => TwoMade W.heap.size W (l ++ [(tc, tp, td)]) (l.length + 1) Z (n + 1) p q wx)
  case first =>
    go_region_held3 (fun w' => Below W.heap.size W w' ∧ w'.cell? ⟨w.heap.size, 0, none⟩ = some (.int .i64 tc) ∧ w'.cell? ⟨w.heap.size, 1, none⟩ = some (.int .i64 tp) ∧ w'.cell? ⟨w.heap.size, 2, none⟩ = some (.int .i64 td))
      ((refine HS.out _ ?_; repeat' (first | with_reducible exact Below.refl _ _ | with_reducible refine Below.drew ?_ | with_reducible exact And.left (by assumption) | with_reducible refine below_new (Nat.le_refl _) ?_ _ | with_reducible refine below_call (Nat.le_refl _) ?_ (by assumption))))
      (first
        | (go_at_call 35; refine Calls.mono (CC.out _ _ W.heap.size ?_) ?_; (focus (refine ⟨?_, ?_, ?_, ?_, ?_, ?_, ?_, ?_⟩ <;> first | ((repeat' (first | with_reducible exact Below.refl _ _ | with_reducible refine Below.drew ?_ | with_reducible refine below_new (Nat.le_refl _) ?_ _)); done) | (simp [go_sem]; done))); rintro e w4 ⟨A4, n4, c4, rfl, rfl, hT4, hA4, hb4⟩)
        | (go_at_call 35; refine Calls.mono (CC.out _ _ (W.heap.size + 1) ?_) ?_; (focus (refine ⟨?_, ?_, ?_, ?_, ?_, ?_, ?_, ?_⟩ <;> first | ((repeat' (first | with_reducible exact Below.refl _ _ | with_reducible refine Below.drew ?_ | with_reducible refine below_new (Nat.le_refl _) ?_ _)); done) | (simp [go_sem]; done))); rintro e w4 ⟨A4, n4, c4, rfl, rfl, hT4, hA4, hb4⟩))
    all_goals (go_wp2_with fail; go_meet)
    all_goals
      have hsz4 := hb4.size
      simp at hsz4
      refine ⟨A4, c4, _, rfl, rfl, ?_, ?_, ?_, ?_, ?_⟩
      · repeat' (first | with_reducible exact Below.refl _ _ | with_reducible refine Below.drew ?_ | with_reducible refine below_new (Nat.le_refl _) ?_ _ | with_reducible refine below_call (Nat.le_refl _) ?_ hb4)
      · omega
      · first
          | exact heap_alloc_new w4 _
          | (refine heap_kept hb4 ?_; (repeat' (first | (refine heap_new_at ?_; simp; done) | refine heap_drew_at ?_ | refine heap_old_at ?_)); done)
      · first
          | exact hT4
          | exact hT4.later ((Below.refl _ _).alloc (Nat.le_refl _) _)
      · intro b' o' e' hbg
        have h1 := hA4 b' o' e'
        obtain ⟨b2, o2, e2, hB2, -⟩ := hT4 (by simp)
        rw [e'] at e2
        cases e2
        simp at h1
        omega
  case rest =>
    obtain ⟨A4, c4, g, rfl, rfl, hb, hBg, hhp, hT, hne⟩ := hcut
    have T4 := Lib.hid hT
    have NE := Lib.hid hne
    have Hb := Lib.hid hb
    have N4 := Lib.hid (N0.out.later hb)
    have hgz : g < wc.heap.size := (Array.getElem?_eq_some_iff.1 hhp).1
    have hZl : Z.toList = List.replicate (n + 1) (Value.int .i64 0) := by rw [HZ.out]; exact zeros_are (n + 1) i0.size hi1
    have hZs : Z.size = n + 1 := by
      have := congrArg List.length hZl
      simpa using this
    have HHP := Lib.hid hhp
    have HZl := Lib.hid hZl
    have HZs := Lib.hid hZs
    have Hi1 := Lib.hid hi1
    have hLL : (l ++ [(tc, tp, td)]).length = l.length + 1 := by simp
    have HLL := Lib.hid hLL
    have CK : Hid (∀ w' : World, Tks w'.heap.size w' A4 (l ++ [(tc, tp, td)]) → NumsI w'.heap.size w' (some ⟨g, 0, none⟩) (heldL s n x) → _) := Lib.hid fun w' h h2 => keeps_any A4 (l.length + 1) c4 (l ++ [(tc, tp, td)]) (some ⟨g, 0, none⟩) (n + 1) (n + 1) (heldL s n x) b p t w' hLL h (heldL_len x (by rw [Hs.out]; exact hmn)) h2 (Nat.le_refl _)
    have hrow := held_row s n x (by rw [Hs.out]; exact hmn)
    have Hrow := Lib.hid hrow
    rw [Hans.out] at CK
    clear hT hne hb hhp hZl hZs hLL hrow hmk0 e1 k0 k1 k2 CC HS hi1
    have Hi := Lib.hid hi
    clear hi hi2
    have hne1 : ¬ g = w.heap.size + 1 := by have := Hsz.out; omega
    have hne2 : ¬ w.heap.size + 1 = g := fun h => hne1 h.symm
    have HKp : Hid (∀ w5 : World, Below W.heap.size W w5 → w5.cell? ⟨w.heap.size + 1, 0, none⟩ = some (.int .i64 b) ∧ w5.cell? ⟨w.heap.size + 1, 1, none⟩ = some (.int .i64 p)) := Lib.hid fun w5 h => by
      obtain ⟨e1, -⟩ := old_cells h
      exact ⟨(e1 _ _ hz1).trans R0.out.1, (e1 _ _ hz1).trans R0.out.2⟩
    have hn0 : (0 : Int) ≤ n := by omega
    have hn1 : (n : Int) < n + 1 := by omega
    go_wp2_with (refine wpList_copy_ints rfl (.tmp 29) (.tmp 30) rfl g (n + 1) m c2 A2 s Z W.heap.size W rfl rfl Hs.out N4.out (by omega) HHP.out HZs.out Hb.out hBg (by omega) ?_; intro w5 F5; obtain ⟨b5, own5, far5, z5⟩ := F5; obtain ⟨u, hu⟩ : ∃ u, (ncells s ++ Z.toList.drop m)[n]? = some u := ⟨_, List.getElem?_eq_getElem (by have := own5.1; omega)⟩; have hc5 := own5.cellAt n (by omega); have hf5 := own5.frozenAt n; rw [hu] at hc5; have O5 := Lib.hid own5; have B5 := Lib.hid b5; have X5 := Lib.hid far5; have z5h := Lib.hid z5; obtain ⟨q0, q1⟩ := HKp.out w5 b5; have hz5 : w.heap.size + 1 < w5.heap.size := (by omega); have hz6 : g < w5.heap.size := (by omega); clear own5 b5 far5 z5 hu)
    have hst := (O5.out.stored n (.int .i64 x)).1
    have hxs : (ncells s ++ Z.toList.drop m).set n (.int .i64 x) = ncells (heldL s n x) := by
      rw [HZl.out, ← Hs.out]
      exact Hrow.out
    rw [hxs] at hst
    refine (CK.out _ (Tks.aside T4.out NE.out (fun b o hbg => (World.cell?_setCell_far _ _ _ _ (Ne.symm hbg)).trans (X5.out b o hbg)) (by simpa using z5h.out)) (NumsI.own hst)).mono ?_
    rintro e w7 ⟨rfl, hb7⟩
    have W7 := Lib.hid (HB.out.trans ((below_call (Nat.le_refl _) (B5.out.setCell hBg _) hb7).mono HB.out.size))
    clear hb7 hst hxs q0 q1 hc5 hf5
    go_wp2
    go_ret
    exact ⟨rfl, W7.out⟩

set_option maxHeartbeats 400000 in
theorem with_no (A : Option Addr) (n c : Nat) (A2 : Option Addr) (m c2 : Nat) (tc tp td x b p t : Int) (w : World) (hmn : n < m) :
    Calls Try.prog 23 #[.slice A n c, .slice A2 m c2, .agg #[.int .i64 tc, .int .i64 tp, .int .i64 td], .int .i64 x, .agg #[.int .i64 b, .int .i64 p], .int .i64 t] w fun e w' => e = .returned (.bool false) ∧ Below w.heap.size w w' := by
  have hd1 : decide (n < m) = true := by simp; omega
  go_enter Try.func23, Try.ntmps23
  go_wp2
  go_ret
  exact ⟨rfl, by go_grown⟩
end Go.Proofs.Ytlpmcmgalodfeaa
