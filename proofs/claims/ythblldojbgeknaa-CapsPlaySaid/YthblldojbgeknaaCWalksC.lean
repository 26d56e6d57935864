/-
  Contracts: Get, List, Find.
-/
import Derived.Test.YthblldojbgeknaaCWalksB
import Derived.Test.YthblldojbgeknaaAppend
namespace Go.Proofs.Ythblldojbgeknaa
open Go.ChangeShapes Go.WideShapes Go.ChangeAt Go.RowKit
open Go.Sort

def capV (h : Option Nd) : Value := .agg #[.int .i64 (hk h), .int .i64 (ho h), .int .i64 (hr h)]
/-- Only block r has changed since, which holds a capability. -/
def Till (w3 : World) (r : Nat) (w' : World) : Prop := Only (· = r) w3 w' ∧ ∃ x y z, w'.heap[r]? = some (.cells #[x, y, z] 26 (0, 0))
theorem Till.drew {w3 w' : World} {r : Nat} (h : Till w3 r w') : Till w3 r w'.drew := ⟨h.1.drew, h.2⟩
theorem Till.call {w3 w' w4 : World} {r : Nat} (hr : r < w3.heap.size) (h : Till w3 r w') (hb : Below w'.heap.size w' w4) : Till w3 r w4 := ⟨h.1.trans (Only.of_below (S := (· = r)) hb) (fun i hi => Or.inl hi), by
  obtain ⟨x, y, z, e⟩ := h.2
  exact ⟨x, y, z, (hb.block r (Nat.lt_of_lt_of_le hr h.1.size)).trans e⟩⟩
theorem Till.put {w3 w' : World} {r : Nat} (h : Till w3 r w') (j : Nat) (v : Value) : Till w3 r (w'.setCell ⟨r, j, none⟩ v) := ⟨h.1.put (p := ⟨r, j, none⟩) (Or.inl rfl) v, by
  obtain ⟨x, y, z, e⟩ := h.2
  rw [heap_setCell_same w' r j _ _ v e]
  match j with
  | 0 => exact ⟨v, y, z, rfl⟩
  | 1 => exact ⟨x, v, z, rfl⟩
  | 2 => exact ⟨x, y, v, rfl⟩
  | j + 3 => exact ⟨x, y, z, rfl⟩⟩
theorem cap_cells {w' : World} {r : Nat} {x y z : Value} (e : w'.heap[r]? = some (.cells #[x, y, z] 26 (0, 0))) : w'.cell? ⟨r, 0, none⟩ = some x ∧ w'.cell? ⟨r, 1, none⟩ = some y ∧ w'.cell? ⟨r, 2, none⟩ = some z := by
  refine ⟨?_, ?_, ?_⟩ <;> (simp only [World.cell?, e]; rfl)
theorem Till.cells {w3 w' : World} {r : Nat} (h : Till w3 r w') : (∃ x y z, Hid (w'.heap[r]? = some (.cells #[x, y, z] 26 (0, 0))) ∧ w'.cell? ⟨r, 0, none⟩ = some x ∧ w'.cell? ⟨r, 1, none⟩ = some y ∧ w'.cell? ⟨r, 2, none⟩ = some z) ∧ ∀ j, w'.frozen? ⟨r, j, none⟩ = false := by
  obtain ⟨x, y, z, e⟩ := h.2
  refine ⟨⟨x, y, z, Lib.hid e, cap_cells e⟩, fun j => ?_⟩
  simp only [World.frozen?, e]
  rfl
section
variable {w : World} {b : Nat} {F : Fo}
set_option maxHeartbeats 2000000 in
theorem get_any (H : FoIs w b F) (e s : Int) : Calls Try.prog 30 #[.pointer (some ⟨b, 0, none⟩), .int .i64 e, .int .i64 s] w fun r w' => r = .returned (.tuple #[capV (fd F.l e s), .bool (fd F.l e s).isSome]) ∧ Below w.heap.size w w' := by
  obtain ⟨W, hW⟩ : ∃ W, w.alloc (.cells #[.int .i64 0, .int .i64 0, .int .i64 0] 26 (0, 0)) = W := ⟨_, rfl⟩
  have hbW : Below w.heap.size w W := by
    rw [← hW]
    exact (Below.refl _ _).alloc (Nat.le_refl _) _
  have hWs : w.heap.size < W.heap.size := by
    rw [← hW]
    simp
  have hWh : W.heap[w.heap.size]? = some (.cells #[.int .i64 0, .int .i64 0, .int .i64 0] 26 (0, 0)) := by
    rw [← hW]
    exact heap_alloc_new w _
  have HA := Lib.hid (at_any (H.below hbW) e s)
  rw [← H.wf.there]
  simp only [hcells] at HA
  unfold capV
  generalize hk (fd F.l e s) = xk at *
  generalize ho (fd F.l e s) = xo at *
  generalize hr (fd F.l e s) = xr at *
  generalize hi (fd F.l e s) = xi at *
  generalize hu (fd F.l e s) = xu at *
  have HT : Hid (∀ w, _) := Lib.hid fun w => there_any xk xo xr xi xu w
  generalize decide (0 < xi) = t at *
  have HC : Hid (∀ w2 : World, Below W.heap.size W w2 → ∃ p w3, w2.heap.size = p ∧ w2.alloc (.cells #[.int .i64 xk, .int .i64 xo, .int .i64 xr, .int .i64 xi, .int .i64 xu] 28 (0, 0)) = w3 ∧ Hid (Below w.heap.size w w3) ∧ p < w3.heap.size ∧ w.heap.size < p ∧
      (w3.cell? ⟨p, 0, none⟩ = some (.int .i64 xk) ∧ w3.cell? ⟨p, 1, none⟩ = some (.int .i64 xo) ∧ w3.cell? ⟨p, 2, none⟩ = some (.int .i64 xr) ∧ w3.cell? ⟨p, 3, none⟩ = some (.int .i64 xi) ∧ w3.cell? ⟨p, 4, none⟩ = some (.int .i64 xu)) ∧
      Hid (Till w3 w.heap.size w3)) := Lib.hid fun w2 h => by
    have hp : w.heap.size < w2.heap.size := Nat.lt_of_lt_of_le hWs h.size
    have hh := heap_alloc_new w2 (.cells #[.int .i64 xk, .int .i64 xo, .int .i64 xr, .int .i64 xi, .int .i64 xu] 28 (0, 0))
    have hr := (Below.heap_alloc w2 (.cells #[.int .i64 xk, .int .i64 xo, .int .i64 xr, .int .i64 xi, .int .i64 xu] 28 (0, 0)) _ hp).trans ((h.block _ hWs).trans hWh)
    refine ⟨_, _, rfl, rfl, Lib.hid (below_new (Nat.le_refl _) (hbW.trans (h.mono hbW.size)) _), by simp, hp, ⟨?_, ?_, ?_, ?_, ?_⟩, Lib.hid ⟨Only.refl _ _, _, _, _, hr⟩⟩
    iterate 5 (simp only [World.cell?, hh]; rfl)
  have HK : Hid (∀ (p : Nat) (w3 w4 : World), p < w3.heap.size → (∀ k, k < w3.heap.size → w4.heap[k]? = w3.heap[k]?) → ∀ j v, w3.cell? ⟨p, j, none⟩ = some v → w4.cell? ⟨p, j, none⟩ = some v) := Lib.hid fun p w3 w4 h h2 j v hv => (World.cell?_of_block (a := ⟨p, j, none⟩) (h2 p h)).trans hv
  have HW := Lib.hid hW
  clear H hW hWh hbW
  go_enter Try.func30, Try.ntmps30
  go_wp2_with fail
  rw [show w.alloc (.cells #[.int .i64 0, .int .i64 0, .int .i64 0] 26 (0, 0)) = W from HW.out]
  refine HA.out.mono ?_
  rintro r w2 ⟨rfl, hg⟩
  have HB := Lib.hid (below_grow hg)
  clear hg
  obtain ⟨p, w3, d1, d2, HB3, l3, lr, ⟨e0, e1, e2, e3, e4⟩, HT3⟩ := HC.out w2 HB.out
  have HS : Hid (∀ w', Till w3 w.heap.size w' → Till w3 w.heap.size w' ∧ w'.cell? ⟨p, 0, none⟩ = some (.int .i64 xk) ∧ w'.cell? ⟨p, 1, none⟩ = some (.int .i64 xo) ∧ w'.cell? ⟨p, 2, none⟩ = some (.int .i64 xr) ∧ w'.cell? ⟨p, 3, none⟩ = some (.int .i64 xi) ∧ w'.cell? ⟨p, 4, none⟩ = some (.int .i64 xu)) := Lib.hid fun w' h => by
    have hk := fun j => h.1.cell l3 (show ¬ p = w.heap.size by omega) j
    exact ⟨h, (hk 0).trans e0, (hk 1).trans e1, (hk 2).trans e2, (hk 3).trans e3, (hk 4).trans e4⟩
  have Hl := Lib.hid (Nat.lt_trans lr l3)
  go_wp2
  go_region_held3 (fun w' => Till w3 w.heap.size w' ∧ w'.cell? ⟨p, 0, none⟩ = some (.int .i64 xk) ∧ w'.cell? ⟨p, 1, none⟩ = some (.int .i64 xo) ∧ w'.cell? ⟨p, 2, none⟩ = some (.int .i64 xr) ∧ w'.cell? ⟨p, 3, none⟩ = some (.int .i64 xi) ∧ w'.cell? ⟨p, 4, none⟩ = some (.int .i64 xu))
    ((refine HS.out _ ?_; repeat' (first | with_reducible exact HT3.out | with_reducible refine Till.drew ?_ | with_reducible exact And.left (by assumption) | with_reducible refine Till.call Hl.out ?_ (by assumption) | with_reducible refine Till.put ?_ _ _)))
    (first
      | (go_at_call 37; with_reducible refine (HT.out _).mono ?_; rintro r w4 ⟨rfl, hb4⟩; obtain ⟨⟨x0, x1, x2, HX4, g0, g1, g2⟩, gz⟩ := Till.cells (Till.call Hl.out (And.left (by assumption)) hb4)))
  have hT : Till w3 w.heap.size (((w4.setCell ⟨w.heap.size, 0, none⟩ (.int .i64 xk)).setCell ⟨w.heap.size, 1, none⟩ (.int .i64 xo)).setCell ⟨w.heap.size, 2, none⟩ (.int .i64 xr)) := And.left (by assumption)
  have HF := Lib.hid (HB3.out.trans (hT.1.below HB3.out.size fun k e => Nat.le_of_eq e.symm))
  obtain ⟨q0, q1, q2⟩ := cap_cells (heap_setCell_same _ w.heap.size 2 _ _ (.int .i64 xr) (heap_setCell_same _ w.heap.size 1 _ _ (.int .i64 xo) (heap_setCell_same w4 w.heap.size 0 _ _ (.int .i64 xk) HX4.out)))
  generalize ((w4.setCell ⟨w.heap.size, 0, none⟩ (.int .i64 xk)).setCell ⟨w.heap.size, 1, none⟩ (.int .i64 xo)).setCell ⟨w.heap.size, 2, none⟩ (.int .i64 xr) = w9 at *
  clear hT
  go_wp2
  refine bodyPost_ret (v := .tuple #[.agg #[.int .i64 xk, .int .i64 xo, .int .i64 xr], .bool t]) (by simp [results, Try.results30, go_sem, q0, q1, q2]) rfl ?_
  exact ⟨rfl, HF.out⟩

/-! List. -/
theorem info_slot : (Try.prog.info? 74).map (fun i => (i.zero, i.size, i.bytes)) = some (some (.agg (encS (0, 0, 0, 0, 0)).toArray), 5, 40) := by kernel_rfl
/-- A row of slots is told. -/
def Told (L : List Nd) (w : World) (e : Ending) (w' : World) : Prop := ∃ A n c, e = .returned (.slice A n c) ∧ n = L.length ∧ w'.ownsRow w.heap.size 74 5 (.slice A n c) n (scells L) ∧ Below w.heap.size w w'
theorem cells_new (w : World) (cs : List Value) (t : TypeId) : ∀ j u, cs[j]? = some u → (w.alloc (.cells cs.toArray t)).cell? ((⟨w.heap.size, 0, none⟩ : Addr).add j) = some u := fun j u hu => by
  rw [Addr.add_mid, Nat.zero_add, World.cell?_alloc_new]
  simpa using hu
theorem scells_sole (y : Nd) : scells [y] = encS y.s := by simp [scells, slc]
set_option maxRecDepth 4000 in
set_option maxHeartbeats 2000000 in
theorem list_any (H : FoIs w b F) (e : Int) : Calls Try.prog 20 #[.pointer (some ⟨b, 0, none⟩), .int .i64 e] w (Told (rowN F.l e) w) := by
  obtain ⟨i0, hi0, hz0, hz1, hz2⟩ := info_parts info_slot
  have HH := Lib.hid H
  clear H
  go_enter Try.func20, Try.ntmps20
  go_wp2_with fail
  go_loopw [5, 9] (fun x i wr => ∃ (k n : Nat) (X : Option Addr) (cx : Nat), k ≤ 16 ∧ n ≤ 16 ∧ Hid (n = (rowTo F.l e k).length) ∧ i = .int .i64 k ∧ x = .slice X n cx ∧ n ≤ cx ∧ Hid (wr.ownsRow w.heap.size 74 5 (.slice X n cx) n (scells (rowTo F.l e k))) ∧ Hid (Below w.heap.size w wr)) (fun _ i _ => (16 - intOf i).toNat)
  case atStart => exact ⟨0, 0, none, 0, by omega, by omega, Lib.hid rfl, rfl, rfl, by omega, World.ownsRow_nil _ _ _ _, (Below.refl _ _ : Below w.heap.size w w)⟩
  case round =>
    obtain ⟨k, n, X, cx, hk6, hn16, Hn, rfl, rfl, hkc, hown, hb⟩ := hrel
    by_cases hlt : k < 16
    · have hk0 : (0 : Int) ≤ k := by omega
      have hkn : (k : Int) < 16 := by omega
      have hz := hb.out.size
      have HG := Lib.hid (get_any (HH.out.below hb.out) e (k : Nat))
      have Hs := Lib.hid (rowTo_succ F.l e k)
      have hl2 := rowTo_len F.l e (k + 1)
      cases hf : fd F.l e (k : Nat) with
      | none =>
        rw [hf] at HG Hs
        rw [Option.toList_none, List.append_nil] at Hs
        simp only [capV, hk, ho, hr, Option.isSome_none] at HG
        clear hl2 hf
        go_wp2_with (go_at_call 30; refine HG.out.mono ?_; rintro r w2 ⟨rfl, hb2⟩; have Hb2 := Lib.hid (below_new (Nat.le_refl _) (below_call (Nat.le_refl _) hb.out hb2) (.cells #[.int .i64 0, .int .i64 0, .int .i64 0] 26 (0, 0))); have Hown2 := Lib.hid ((own_call hown.out hb2).alloc (.cells #[.int .i64 0, .int .i64 0, .int .i64 0] 26 (0, 0))); clear hb2)
        go_roundw
        case rel => exact ⟨k + 1, n, X, cx, by omega, hn16, Lib.hid (by rw [Hs.out]; exact Hn.out), by go_num, rfl, hkc, Lib.hid (by rw [Hs.out]; exact Hown2.out), Hb2⟩
        case measure => simp [intOf]; omega
      | some y =>
        rw [hf] at HG Hs
        rw [Option.toList_some] at Hs
        obtain ⟨y1, y2, y3⟩ := fd_mem hf
        have HY : Hid ([Value.int .i64 e, .int .i64 (k : Nat), .int .i64 y.k, .int .i64 y.o, .int .i64 (y.r : Nat)] = scells [y]) := Lib.hid (by
          rw [scells_sole, ← y2, ← y3]
          rfl)
        have hn1 : n + 1 ≤ 16 := by
          rw [Hs.out, List.length_append, ← Hn.out] at hl2
          simp at hl2
          omega
        simp only [capV, hk, ho, hr, Option.isSome_some] at HG
        have HC3 : Hid (∀ w2, Below wr.heap.size wr w2 → ∃ p w3, w2.heap.size = p ∧ w2.alloc (.cells #[.int .i64 y.k, .int .i64 y.o, .int .i64 (y.r : Nat)] 26 (0, 0)) = w3 ∧ p < w3.heap.size ∧ w3.cell? ⟨p, 0, none⟩ = some (.int .i64 y.k) ∧ w3.cell? ⟨p, 1, none⟩ = some (.int .i64 y.o) ∧ w3.cell? ⟨p, 2, none⟩ = some (.int .i64 (y.r : Nat)) ∧ Hid (Below w.heap.size w w3) ∧ Hid (w3.ownsRow w.heap.size 74 5 (.slice X n cx) n (scells (rowTo F.l e k)))) := Lib.hid fun w2 hb2 => by
          have hh := heap_alloc_new w2 (.cells #[.int .i64 y.k, .int .i64 y.o, .int .i64 (y.r : Nat)] 26 (0, 0))
          refine ⟨_, _, rfl, rfl, by simp, ?_, ?_, ?_, Lib.hid (below_new (Nat.le_refl _) (below_call (Nat.le_refl _) hb.out hb2) _), Lib.hid ((own_call hown.out hb2).alloc _)⟩ <;> (simp only [World.cell?, hh]; rfl)
        generalize y.k = yk at *
        generalize y.o = yo at *
        generalize y.r = yr at *
        clear hf y1 y2 y3 hl2
        go_wp2_with (first
          | (go_at_call 30; refine HG.out.mono ?_; rintro r w2 ⟨rfl, hb2⟩; obtain ⟨p, w3, d1, d2, d3, e0, e1, e2, Hb3, Hown3⟩ := HC3.out w2 hb2; have Hown4 := Lib.hid (Hown3.out.alloc (.cells #[.int .i64 e, .int .i64 (k : Nat), .int .i64 yk, .int .i64 yo, .int .i64 (yr : Nat)] 74)); have HC := Lib.hid (cells_new w3 [.int .i64 e, .int .i64 (k : Nat), .int .i64 yk, .int .i64 yo, .int .i64 (yr : Nat)] 74); have hz3 := Hb3.out.size; clear hb2)
          | (at_builtin; refine wpList_append_own _ rfl (.tmp 20) (.tmp 25) 58 rfl w.heap.size 74 i0 _ 5 40 Try.underlying58 hi0 hz0 hz1 hz2 rfl (by decide) (.slice X n cx) n (scells (rowTo F.l e k)) rfl Hown4.out ⟨w3.heap.size, 0, none⟩ 1 1 [.int .i64 e, .int .i64 (k : Nat), .int .i64 yk, .int .i64 yo, .int .i64 (yr : Nat)] rfl rfl HC.out (by simp [Value.oneCell']) (by unfold maxLen; omega) (by omega) (by simp; omega) ?_; intro v' w5 hown5 hgrow5 hnn5; have Hb5 := Lib.hid ((Hb3.out.alloc hz3 _).grown hgrow5 (by simp; omega) (own_base Hown4.out)); obtain ⟨X', cx', rfl, hkc', _⟩ := own_shape hown5; have Hown5 : Hid (w5.ownsRow w.heap.size 74 5 (.slice X' (n + 1) cx') (n + 1) (scells (rowTo F.l e (k + 1)))) := Lib.hid (by rw [Hs.out, scells_two, ← HY.out]; exact hown5); clear hown5 hgrow5 hnn5))
        go_roundw
        case rel => exact ⟨k + 1, n + 1, X', cx', by omega, hn1, Lib.hid (by rw [Hs.out, List.length_append, ← Hn.out]; rfl), by go_num, rfl, hkc', Hown5, Hb5⟩
        case measure => simp [intOf]; omega
    · obtain rfl : k = 16 := by omega
      have HF : Hid (Told (rowN F.l e) w (.returned (.slice X n cx)) wr) := Lib.hid ⟨X, n, cx, rfl, Hn.out, hown.out, hb.out⟩
      go_wp2
      go_ret
      exact HF.out
end
end Go.Proofs.Ythblldojbgeknaa
