/-
  Contracts: order; the shelf's Index and Contains of numbers.
-/
import Derived.Test.YthblldojbgeknaaCWalksE
namespace Go.Proofs.Ythblldojbgeknaa
open Go.ChangeShapes Go.WideShapes Go.ChangeAt Go.RowKit
open Go.Shelf Go.Sort

theorem own_cases {w : World} {B n c size : Nat} {e : TypeId} {A : Option Addr} {xs : List Value} (h : w.ownsRow B e size (.slice A n c) n xs) : (A = none ∧ n = 0 ∧ c = 0) ∨ ∃ g, A = some ⟨g, 0, none⟩ ∧ B ≤ g ∧ g < w.heap.size := by
  rcases h.2 with ⟨h1, h2⟩ | ⟨g, cap, cur, h1, h2, h3, _⟩
  · simp only [Value.slice.injEq] at h1
    exact Or.inl ⟨h1.1, h1.2.1, h1.2.2⟩
  · simp only [Value.slice.injEq, true_and] at h1
    obtain ⟨rfl, rfl⟩ := h1
    exact Or.inr ⟨g, rfl, (h.lt g rfl)⟩
section
variable {w : World} {b : Nat} {F : Fo}
set_option maxRecDepth 4000 in
set_option maxHeartbeats 2000000 in
theorem order_any (H : FoIs w b F) : Calls Try.prog 47 #[.pointer (some ⟨b, 0, none⟩)] w (Told F.l w) := by
  obtain ⟨i0, hi0, hz0, hz1, hz2⟩ := info_parts info_slot
  obtain ⟨W, hW⟩ : ∃ W, w.alloc (.cells #[.pointer (some ⟨b, 0, none⟩)] 24 (0, 0)) = W := ⟨_, rfl⟩
  have HbW : Hid (Below w.heap.size w W) := Lib.hid (by
    rw [← hW]
    exact (Below.refl _ _).alloc (Nat.le_refl _) _)
  have hWs : W.heap.size = w.heap.size + 1 := by rw [← hW]; simp
  have hWc : W.cell? ⟨w.heap.size, 0, none⟩ = some (.pointer (some ⟨b, 0, none⟩)) := by rw [← hW]; simp
  have HH := Lib.hid (H.below HbW.out)
  have HK : Hid (∀ w', Below W.heap.size W w' → w'.cell? ⟨w.heap.size, 0, none⟩ = some (.pointer (some ⟨b, 0, none⟩))) := Lib.hid fun w' h => (h.cell (p := ⟨w.heap.size, 0, none⟩) (by show w.heap.size < _; omega)).trans hWc
  have HWs := Lib.hid hWs
  have Hblt := Lib.hid H.lt
  have HW := Lib.hid hW
  clear H hW hWs hWc
  go_enter Try.func47, Try.ntmps47
  go_wp2_with fail
  rw [show w.alloc (.cells #[.pointer (some ⟨b, 0, none⟩)] 24 (0, 0)) = W from HW.out]
  go_loopw [3, 5] (fun x i wr => ∃ (k n : Nat) (X : Option Addr) (cx : Nat), k ≤ 8 ∧ n ≤ 128 ∧ Hid (n = (ordTo F.l k).length) ∧ i = .int .i64 k ∧ x = .slice X n cx ∧ n ≤ cx ∧ Hid (wr.ownsRow W.heap.size 74 5 (.slice X n cx) n (scells (ordTo F.l k))) ∧ Hid (Below W.heap.size W wr)) (fun _ i _ => (8 - intOf i).toNat)
  case atStart => exact ⟨0, 0, none, 0, by omega, by omega, Lib.hid rfl, rfl, rfl, by omega, World.ownsRow_nil _ _ _ _, (Below.refl _ _ : Below W.heap.size W W)⟩
  case round =>
    obtain ⟨k, n, X, cx, hk8, hn128, Hn, rfl, rfl, hkc, hown, hb⟩ := hrel
    have hbox := HK.out wr hb.out
    by_cases hlt : k < 8
    · have hk0 : (0 : Int) ≤ k := by omega
      have hkn : (k : Int) < 8 := by omega
      have hz := hb.out.size
      have HG := Lib.hid (list_any (HH.out.below hb.out) (k : Nat))
      have Hs := Lib.hid (ordTo_succ F.l k)
      have Hl2 := Lib.hid (ordTo_len F.l (k + 1))
      go_wp2_with (first
        | (go_at_call 20; refine HG.out.mono ?_; rintro r w2 ⟨A, m, c, rfl, hm, hown2, hb2⟩; have HNone : Hid (A = none → m = 0 ∧ c = 0) := Lib.hid (fun e => (own_cases hown2).elim (fun h => h.2) (fun ⟨g, h, _⟩ => by rw [h] at e; cases e)); have HS2 := Lib.hid (Sls.own hown2); have hN : n + m ≤ 128 := (by have := Hl2.out; rw [Hs.out, List.length_append, ← Hn.out, ← hm] at this; omega); have Hb2 := Lib.hid (below_call (Nat.le_refl _) hb.out hb2); have Hown3 := Lib.hid (own_call hown.out hb2); have Hm := Lib.hid hm; clear hown2 hb2 hm)
        | (at_builtin; refine wpList_append_to _ rfl (.tmp 8) (.tmp 11) 58 rfl W.heap.size 74 i0 _ 5 40 Try.underlying58 hi0 hz0 hz1 hz2 rfl (by decide) (.slice X n cx) n (scells (ordTo F.l k)) rfl Hown3.out A m c (scells (rowN F.l (k : Nat))) rfl HNone.out (by rw [scells_len, ← Hm.out]) HS2.out.news (slc_one _) (by unfold maxLen; omega) (by omega) Hb2.out.size (n + m) rfl ?_; intro A' cx' w5 hown5 hgrow5; have Hb5 := Lib.hid (Hb2.out.grown hgrow5 Hb2.out.size (own_base Hown3.out)); have hkc' := own_cap hown5; have Hown5 : Hid (w5.ownsRow W.heap.size 74 5 (.slice A' (n + m) cx') (n + m) (scells (ordTo F.l (k + 1)))) := Lib.hid (by rw [Hs.out, scells_two]; exact hown5); clear hown5 hgrow5))
      go_roundw
      case rel => exact ⟨k + 1, n + m, A', cx', by omega, hN, Lib.hid (by rw [Hs.out, List.length_append, ← Hn.out, ← Hm.out]), by go_num, rfl, hkc', Hown5, Hb5⟩
      case measure => simp [intOf]; omega
    · obtain rfl : k = 8 := by omega
      have HF : Hid (Calls Try.prog 51 #[.slice X n cx, .func (.func 52) #[] #[.pointer (some ⟨w.heap.size, 0, none⟩)]] wr fun e w2 => e = .returned (.tuple #[]) ∧ Told F.l w (.returned (.slice X n cx)) w2) := Lib.hid (by
        have hwf := HH.out.wf
        have hlenF : F.l.length = n := by
          rw [Hn.out]
          exact (ord_perm hwf).length_eq.symm
        rcases own_cases hown.out with ⟨rfl, rfl, rfl⟩ | ⟨g, rfl, hg1, hg2⟩
        · have hc := Go.Proofs.AnyF.slices_SortFunc_none sort_laid none 0 (.func (.func 52) #[] #[.pointer (some ⟨w.heap.size, 0, none⟩)]) wr
          change Calls Try.prog 51 _ _ _ at hc
          refine hc.mono ?_
          rintro e w2 ⟨rfl, rfl⟩
          refine ⟨rfl, none, 0, 0, rfl, hlenF.symm, ?_, HbW.out.trans (hb.out.mono HbW.out.size)⟩
          rw [List.eq_nil_of_length_eq_zero hlenF]
          exact World.ownsRow_nil _ _ _ _
        · have h1 := Hblt.out
          have h2 := HWs.out
          refine (sort_any (HH.out.below hb.out) hbox (Nat.lt_of_lt_of_le (by omega) hb.out.size) (show b ≠ g by omega) (show w.heap.size ≠ g by omega) hown.out (by omega)).mono ?_
          rintro e w2 ⟨rfl, L', p1, p2, p3, p4⟩
          have he := ord_eq hwf p1 p2
          refine ⟨rfl, some ⟨g, 0, none⟩, n, cx, rfl, hlenF.symm, ?_, ?_⟩
          · rw [he] at p3
            exact own_lower p3 HbW.out.size
          · exact (HbW.out.trans (hb.out.mono HbW.out.size)).trans ((p4.below (B := w.heap.size) (Nat.le_trans HbW.out.size hb.out.size) fun i hi => by subst hi; omega)))
      clear hb
      go_wp2_with (go_at_call 51; refine HF.out.mono ?_; rintro r w2 ⟨rfl, hT⟩; have HT := Lib.hid hT; clear hT)
      go_ret
      exact HT.out
end
end Go.Proofs.Ythblldojbgeknaa
