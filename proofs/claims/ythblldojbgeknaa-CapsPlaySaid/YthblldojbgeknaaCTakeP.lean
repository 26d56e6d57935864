/-
  Contract: take with what Purge asks for (typed by tools/gen_ctake.py).
-/
import Derived.Test.YthblldojbgeknaaCTake
namespace Go.Proofs.Ythblldojbgeknaa
open Go.ChangeShapes Go.WideShapes Go.ChangeAt Go.RowKit
open Go.Shelf Go.Sort

section
variable {w : World} {b : Nat} {F : Fo}
set_option maxRecDepth 4000 in
set_option maxHeartbeats 4000000 in
theorem take_purge {Z Z' : Nat} (H : FoIs w b F) (q : Nd → Bool) (HC : ∀ (w' : World) (x : Nd), Only (· = b) w w' → Calls Try.prog 43 #[.agg #[.int .i64 x.k, .int .i64 x.o, .int .i64 (x.r : Nat), .int .i64 (x.id : Nat), .int .i64 (x.up : Nat)], .pointer (some ⟨Z, 0, none⟩), .pointer (some ⟨Z', 0, none⟩)] w' fun e w2 => e = .returned (.bool (q x)) ∧ Below w'.heap.size w' w2) :
    Calls Try.prog 38 #[.pointer (some ⟨b, 0, none⟩), .func (.func 43) #[] #[.pointer (some ⟨Z, 0, none⟩), .pointer (some ⟨Z', 0, none⟩)]] w (Gone b F q w) := by
  obtain ⟨i0, hi0, hz0, hz1, hz2⟩ := info_parts info_slot
  obtain ⟨i1, hj0, hy0, hy1, hy2⟩ := info_parts info_int
  have HO := Lib.hid (order_any H)
  have HH := Lib.hid H
  have HCl := Lib.hid HC
  have Hblt := Lib.hid H.lt
  have HL128 : Hid (F.l.length ≤ 128) := Lib.hid (by
    rw [← (ord_perm H.wf).length_eq]
    exact ordTo_len F.l 8)
  clear H HC
  go_enter Try.func38, Try.ntmps38
  go_wp2_with (go_at_call 47; refine HO.out.mono ?_; rintro r w2 ⟨A, n, c, rfl, hn, hown, hb2⟩; have HS2 := Lib.hid (Sls.own hown); have hc := own_cap hown; have Hb2 := Lib.hid hb2; have Hn := Lib.hid hn; have hn128 : n ≤ 128 := (by rw [hn]; exact HL128.out); clear hown hb2 hn)
  go_loopw [5, 6, 13] (fun x y i wr => ∃ (k m : Nat) (K W : List Nd) (X : Option Addr) (cx : Nat) (Y : Option Addr) (cy : Nat), k ≤ n ∧ m ≤ k ∧ i = .int .i64 k ∧ x = .slice X m cx ∧ y = .slice Y m cy ∧ m ≤ cx ∧ m ≤ cy ∧ Hid (m = W.length) ∧ Hid (Tk w2 b ⟨K ++ F.l.drop k, F.p⟩ W W X m cx Y m cy wr) ∧ Hid (takeGo q [] F.l = (K ++ (takeGo q (W.map (·.id)) (F.l.drop k)).1, W ++ (takeGo q (W.map (·.id)) (F.l.drop k)).2))) (fun _ _ i _ => (n - intOf i).toNat)
  case atStart => exact ⟨0, 0, [], [], none, 0, none, 0, Nat.zero_le _, Nat.le_refl _, rfl, rfl, rfl, Nat.le_refl _, Nat.le_refl _, Lib.hid rfl, Lib.hid ⟨HH.out.below Hb2.out, Nat.lt_of_lt_of_le Hblt.out Hb2.out.size, Only.refl _ _, World.ownsRow_nil _ _ _ _, World.ownsRow_nil _ _ _ _, Or.inl rfl⟩, Lib.hid rfl⟩
  case round =>
    obtain ⟨k, m, K, W, X, cx, Y, cy, hkn, hmk, rfl, rfl, rfl, hcx, hcy, Hm, HTk, HFin⟩ := hrel
    by_cases hlt : k < n
    · have hk0 : (0 : Int) ≤ k := by omega
      have hk1 : (k : Int) < n := by omega
      have hc0 : (0 : Int) ≤ c := by omega
      have hkl : k < F.l.length := by
        rw [← Hn.out]
        exact hlt
      obtain ⟨x, R, hx, hxk, hR⟩ : ∃ x R, F.l.drop k = x :: R ∧ F.l[k]? = some x ∧ R = F.l.drop (k + 1) := ⟨_, _, List.drop_eq_getElem_cons hkl, List.getElem?_eq_getElem hkl, rfl⟩
      rw [hx] at HTk HFin
      have hwf := HTk.out.fo.wf
      have hxm : x ∈ K ++ x :: R := by simp
      obtain ⟨x8, x16, xr16, xid, xidp, xup⟩ := hwf.rng x hxm
      have hS3 : Sls (fun g => w.heap.size ≤ g ∧ g < w2.heap.size) wr A (F.l.map Nd.s) := HS2.out.kept fun g hg => HTk.out.only.block g hg.2 (fun e => by have := Hblt.out; omega)
      obtain ⟨g, rfl, hg, c0, c1, c2, c3, c4⟩ := hS3.at_ (i := k) (x := x.s) (by rw [List.getElem?_map, hxk]; rfl)
      change _ = some (Value.int .i64 (x.en : Nat)) at c0
      change _ = some (Value.int .i64 (x.sl : Nat)) at c1
      change _ = some (Value.int .i64 x.k) at c2
      change _ = some (Value.int .i64 x.o) at c3
      change _ = some (Value.int .i64 (x.r : Nat)) at c4
      have hg2 : g < wr.heap.size := Nat.lt_of_lt_of_le hg.2 HTk.out.size
      obtain ⟨w3, hw3⟩ : ∃ w3, wr.alloc (.cells #[.int .i64 (x.en : Nat), .int .i64 (x.sl : Nat), .int .i64 x.k, .int .i64 x.o, .int .i64 (x.r : Nat)] 74 (0, 0)) = w3 := ⟨_, rfl⟩
      have HB3 : Hid (Below wr.heap.size wr w3) := Lib.hid (by
        rw [← hw3]
        exact (Below.refl _ _).alloc (Nat.le_refl _) _)
      have h3s : wr.heap.size < w3.heap.size := by rw [← hw3]; simp
      have HX6 : Hid (∀ w5 w6, Below w3.heap.size w3 w5 → Below w5.heap.size w5 w6 → Hid (Below w3.heap.size w3 w6) ∧ wr.heap.size < w6.heap.size ∧ w6.cell? ⟨wr.heap.size, 0, none⟩ = some (.int .i64 (x.en : Nat)) ∧ w6.cell? ⟨wr.heap.size, 1, none⟩ = some (.int .i64 (x.sl : Nat)) ∧ w6.cell? ⟨wr.heap.size, 2, none⟩ = some (.int .i64 x.k) ∧ w6.cell? ⟨wr.heap.size, 3, none⟩ = some (.int .i64 x.o) ∧ w6.cell? ⟨wr.heap.size, 4, none⟩ = some (.int .i64 (x.r : Nat))) := Lib.hid fun w5 w6 h5 h6 => by
        have h7 := below_call (Nat.le_refl _) h5 h6
        have hh : w6.heap[wr.heap.size]? = some (.cells #[.int .i64 (x.en : Nat), .int .i64 (x.sl : Nat), .int .i64 x.k, .int .i64 x.o, .int .i64 (x.r : Nat)] 74 (0, 0)) := by
          rw [h7.block _ h3s, ← hw3]
          exact heap_alloc_new wr _
        refine ⟨Lib.hid h7, Nat.lt_of_lt_of_le h3s h7.size, ?_, ?_, ?_, ?_, ?_⟩ <;> (simp only [World.cell?, hh]; rfl)
      have HXh : Hid (∀ (p : Nat) (w5 w6 : World), p < w5.heap.size → w5.cell? ⟨p, 3, none⟩ = some (.int .i64 (x.id : Nat)) → w5.cell? ⟨p, 4, none⟩ = some (.int .i64 (x.up : Nat)) → Below w5.heap.size w5 w6 → p < w6.heap.size ∧ w6.cell? ⟨p, 3, none⟩ = some (.int .i64 (x.id : Nat)) ∧ w6.cell? ⟨p, 4, none⟩ = some (.int .i64 (x.up : Nat))) := Lib.hid fun p w5 w6 hp h3 h4 hb => ⟨Nat.lt_of_lt_of_le hp hb.size, (hb.cell (p := ⟨p, 3, none⟩) hp).trans h3, (hb.cell (p := ⟨p, 4, none⟩) hp).trans h4⟩
      have HA : Hid (Calls Try.prog 36 #[.pointer (some ⟨b, 0, none⟩), .int .i64 (x.en : Nat), .int .i64 (x.sl : Nat)] w3 fun r w4 => r = .returned (.agg #[.int .i64 x.k, .int .i64 x.o, .int .i64 (x.r : Nat), .int .i64 (x.id : Nat), .int .i64 (x.up : Nat)]) ∧ Grown w3 w4) := Lib.hid (by
        have h1 := at_any (HTk.out.fo.below HB3.out) (x.en : Nat) (x.sl : Nat)
        rw [fd_of hwf.apart hxm] at h1
        exact h1)
      have HX4 : Hid (∀ w4, Below w3.heap.size w3 w4 → ∃ p2 w5, w4.heap.size = p2 ∧ w4.alloc (.cells #[.int .i64 x.k, .int .i64 x.o, .int .i64 (x.r : Nat), .int .i64 (x.id : Nat), .int .i64 (x.up : Nat)] 28 (0, 0)) = w5 ∧ Hid (Below w3.heap.size w3 w5) ∧ Hid (w3.heap.size ≤ p2) ∧ p2 < w5.heap.size ∧ w5.cell? ⟨p2, 0, none⟩ = some (.int .i64 x.k) ∧ w5.cell? ⟨p2, 1, none⟩ = some (.int .i64 x.o) ∧ w5.cell? ⟨p2, 2, none⟩ = some (.int .i64 (x.r : Nat)) ∧ w5.cell? ⟨p2, 3, none⟩ = some (.int .i64 (x.id : Nat)) ∧ w5.cell? ⟨p2, 4, none⟩ = some (.int .i64 (x.up : Nat))) := Lib.hid fun w4 h4 => by
        have hh := heap_alloc_new w4 (.cells #[.int .i64 x.k, .int .i64 x.o, .int .i64 (x.r : Nat), .int .i64 (x.id : Nat), .int .i64 (x.up : Nat)] 28 (0, 0))
        refine ⟨_, _, rfl, rfl, Lib.hid (below_new (Nat.le_refl _) h4 _), Lib.hid h4.size, by simp, ?_, ?_, ?_, ?_, ?_⟩ <;> (simp only [World.cell?, hh]; rfl)
      have HC5 : Hid (∀ w5, Below w3.heap.size w3 w5 → Calls Try.prog 43 #[.agg #[.int .i64 x.k, .int .i64 x.o, .int .i64 (x.r : Nat), .int .i64 (x.id : Nat), .int .i64 (x.up : Nat)], .pointer (some ⟨Z, 0, none⟩), .pointer (some ⟨Z', 0, none⟩)] w5 fun e w6 => e = .returned (.bool (q x)) ∧ Below w5.heap.size w5 w6) := Lib.hid fun w5 h5 => HCl.out w5 x ((((Only.of_below (S := (· = b)) Hb2.out).trans HTk.out.only (fun _ h => Or.inl h)).trans (Only.of_below (S := (· = b)) HB3.out) (fun _ h => Or.inl h)).trans (Only.of_below (S := (· = b)) h5) (fun _ h => Or.inl h))
      have HCo : Hid (∀ w6, Below w3.heap.size w3 w6 → Calls Try.prog 48 #[.slice Y m cy, .int .i64 (x.up : Nat)] w6 fun e w' => e = .returned (.bool ((W.map (·.id)).contains x.up)) ∧ w6 = w') := Lib.hid fun w6 h6 => by
        rw [← tI_has]
        exact contains_num w6 (by rw [Hm.out, tI, List.length_map]) ((HTk.out.below HB3.out).below h6).nums hcy (by omega) _
      have h8 : (x.en : Int) < 8 := by omega
      have h80 : (0 : Int) ≤ (x.en : Nat) := by omega
      have h16 : (x.sl : Int) < 16 := by omega
      have h160 : (0 : Int) ≤ (x.sl : Nat) := by omega
      have HR := Lib.hid hR
      have HT6 : Hid (∀ w6, Below w3.heap.size w3 w6 → Tk w2 b ⟨K ++ x :: R, F.p⟩ W W X m cx Y m cy w6) := Lib.hid fun w6 h6 => (HTk.out.below HB3.out).below h6
      have HX7 : Hid (∀ (p2 : Nat) (w6 w7 : World), Below w3.heap.size w3 w6 → w3.heap.size ≤ p2 → p2 < w6.heap.size → w6.cell? ⟨wr.heap.size, 0, none⟩ = some (.int .i64 (x.en : Nat)) → w6.cell? ⟨wr.heap.size, 1, none⟩ = some (.int .i64 (x.sl : Nat)) → w6.cell? ⟨wr.heap.size, 2, none⟩ = some (.int .i64 x.k) → w6.cell? ⟨wr.heap.size, 3, none⟩ = some (.int .i64 x.o) → w6.cell? ⟨wr.heap.size, 4, none⟩ = some (.int .i64 (x.r : Nat)) → w6.cell? ⟨p2, 3, none⟩ = some (.int .i64 (x.id : Nat)) → w6.drew.setCells b (x.en * 80 + x.sl * 5) noughts5 = w7 →
          Hid (Tk w2 b ⟨K ++ R, F.p⟩ W W X m cx Y m cy w7) ∧ wr.heap.size < w7.heap.size ∧ w7.cell? ⟨wr.heap.size, 0, none⟩ = some (.int .i64 (x.en : Nat)) ∧ w7.cell? ⟨wr.heap.size, 1, none⟩ = some (.int .i64 (x.sl : Nat)) ∧ w7.cell? ⟨wr.heap.size, 2, none⟩ = some (.int .i64 x.k) ∧ w7.cell? ⟨wr.heap.size, 3, none⟩ = some (.int .i64 x.o) ∧ w7.cell? ⟨wr.heap.size, 4, none⟩ = some (.int .i64 (x.r : Nat)) ∧ w7.cell? ⟨p2, 3, none⟩ = some (.int .i64 (x.id : Nat))) := Lib.hid fun p2 w6 w7 h6 hp2 hp6 f0 f1 f2 f3 f4 g3 e => by
        subst e
        have hO : Only (· = b) w6 (w6.drew.setCells b (x.en * 80 + x.sl * 5) noughts5) := Only.puts (S := (· = b)) (Only.drew (Only.refl (· = b) _)) (Or.inl rfl) _ _
        have hbw : b < wr.heap.size := HTk.out.fo.lt
        have hr6 : wr.heap.size < w6.heap.size := Nat.lt_of_lt_of_le h3s h6.size
        have hn1 : ¬ wr.heap.size = b := by omega
        have hn2 : ¬ p2 = b := by omega
        exact ⟨Lib.hid (HT6.out w6 h6).cut.2, Nat.lt_of_lt_of_le hr6 hO.size, (hO.cell hr6 hn1 _).trans f0, (hO.cell hr6 hn1 _).trans f1, (hO.cell hr6 hn1 _).trans f2, (hO.cell hr6 hn1 _).trans f3, (hO.cell hr6 hn1 _).trans f4, (hO.cell hp6 hn2 _).trans g3⟩
      have HX9 : Hid (∀ (w7 w9 : World), wr.heap.size < w7.heap.size → w7.cell? ⟨wr.heap.size, 0, none⟩ = some (.int .i64 (x.en : Nat)) → w7.cell? ⟨wr.heap.size, 1, none⟩ = some (.int .i64 (x.sl : Nat)) → w7.cell? ⟨wr.heap.size, 2, none⟩ = some (.int .i64 x.k) → w7.cell? ⟨wr.heap.size, 3, none⟩ = some (.int .i64 x.o) → w7.cell? ⟨wr.heap.size, 4, none⟩ = some (.int .i64 (x.r : Nat)) → (w7.alloc (.cells #[.int .i64 (x.id : Nat)] 3)).grownBy w9 (Value.slice Y m cy).ownBlock →
          wr.heap.size < w9.heap.size ∧ w9.cell? ⟨wr.heap.size, 0, none⟩ = some (.int .i64 (x.en : Nat)) ∧ w9.cell? ⟨wr.heap.size, 1, none⟩ = some (.int .i64 (x.sl : Nat)) ∧ w9.cell? ⟨wr.heap.size, 2, none⟩ = some (.int .i64 x.k) ∧ w9.cell? ⟨wr.heap.size, 3, none⟩ = some (.int .i64 x.o) ∧ w9.cell? ⟨wr.heap.size, 4, none⟩ = some (.int .i64 (x.r : Nat))) := Lib.hid fun w7 w9 h7 f0 f1 f2 f3 f4 hg => by
        have h8 : wr.heap.size < (w7.alloc (.cells #[.int .i64 (x.id : Nat)] 3)).heap.size := by
          simp
          omega
        have hb : w9.heap[wr.heap.size]? = w7.heap[wr.heap.size]? := (hg.block _ h8 (fun e => by
          have := HTk.out.ltY _ e.symm
          omega)).trans (Below.heap_alloc _ _ _ h7)
        exact ⟨Nat.lt_of_lt_of_le h8 hg.size, (World.cell?_of_block (a := ⟨wr.heap.size, _, none⟩) hb).trans f0, (World.cell?_of_block (a := ⟨wr.heap.size, _, none⟩) hb).trans f1, (World.cell?_of_block (a := ⟨wr.heap.size, _, none⟩) hb).trans f2, (World.cell?_of_block (a := ⟨wr.heap.size, _, none⟩) hb).trans f3, (World.cell?_of_block (a := ⟨wr.heap.size, _, none⟩) hb).trans f4⟩
      obtain ⟨-, l3, s0, s1, s2, s3, s4⟩ := HX6.out w3 w3 (Below.refl _ _) (Below.refl _ _)
      clear hS3 hwf hxm hx hxk hR hkl x8 x16 xr16 xid xidp xup hg h3s
      cases hq : q x with
      | true =>
        have HQ : Hid ((q x || (W.map (·.id)).contains x.up) = true) := Lib.hid (by rw [hq]; rfl)
        rw [hq] at HC5
        clear hq HCo
        go_wp2_with (first
          | (go_at_call 36; refine HA.out.mono ?_; rintro r w4 ⟨rfl, hg4⟩; obtain ⟨p2, w5, d1, d2, HB5, Lp2, l5, e0, e1, e2, e3, e4⟩ := HX4.out w4 hg4.below; clear hg4)
            | (go_at_call 43; refine (HC5.out w5 HB5.out).mono ?_; rintro r w6 ⟨rfl, hb6⟩; obtain ⟨HB6, l6, f0, f1, f2, f3, f4⟩ := HX6.out w5 w6 HB5.out hb6; obtain ⟨g0, g3, g4⟩ := HXh.out p2 w5 w6 l5 e3 e4 hb6; clear hb6))
        have P1 := Lib.hid (HT6.out w6 HB6.out).cut.1
        go_still_tail 10, (by kernel_rfl)
        change wpList _ _ _ _ _ w6.drew
        refine (wpList_store_mid rfl 28 (.tmp 41) (.tmp 37) rfl b (x.en * 80 + x.sl * 5) #[.int .i64 0, .int .i64 0, .int .i64 0, .int .i64 0, .int .i64 0] rfl rfl P1.out size_held (by simp [Value.oneCell']) ?_)
        obtain ⟨w7, hw7⟩ : ∃ w7, w6.drew.setCells b (x.en * 80 + x.sl * 5) noughts5 = w7 := ⟨_, rfl⟩
        change wpList _ _ _ _ _ (w6.drew.setCells b (x.en * 80 + x.sl * 5) noughts5)
        rw [hw7]
        obtain ⟨HT7, k7, k0, k1, k2, k3, k4, kt⟩ := HX7.out p2 w6 w7 HB6.out Lp2.out g0 f0 f1 f2 f3 f4 g3 hw7
        clear hw7 d1 d2 e0 e1 e2 e3 e4 f0 f1 f2 f3 f4 g3 g4
        have HT8 := Lib.hid (HT7.out.below (below_new (Nat.le_refl _) (Below.refl _ w7) (.cells #[.int .i64 (x.id : Nat)] 3)))
        have HC8 := Lib.hid (cells_new w7 [.int .i64 (x.id : Nat)] 3)
        have Hz7 := Lib.hid HT7.out.size
        go_wp2_with (first
          | (at_builtin; refine wpList_append_all _ rfl (.tmp 42) (.tmp 45) 49 rfl w2.heap.size 3 i1 (.int .i64 0) 1 8 Try.underlying49 hj0 hy0 hy1 hy2 rfl (by decide) (.slice Y m cy) m (ncells (tI W)) rfl HT8.out.rowY (some ⟨w7.heap.size, 0, none⟩) 1 1 [.int .i64 (x.id : Nat)] rfl (fun e => by cases e) rfl (fun ad e => by cases e; exact HC8.out) (by simp [Value.oneCell']) (by unfold maxLen; omega) (by omega) (by simp; have := Hz7.out; omega) _ rfl ?_; intro Y' cy' w9 o9 g9 at9; have HT9 := Lib.hid (HT8.out.pushY g9 (V' := W ++ [x]) (by rw [tI_snoc]; simpa [ncells] using o9) at9 rfl); obtain ⟨q9, q0, q1, q2, q3, q4⟩ := HX9.out w7 w9 k7 k0 k1 k2 k3 k4 g9; have hcy9 := own_cap o9; clear o9 g9 at9 k0 k1 k2 k3 k4 kt; have HT10 := Lib.hid (HT9.out.below (below_new (Nat.le_refl _) (Below.refl _ w9) (.cells #[.int .i64 (x.en : Nat), .int .i64 (x.sl : Nat), .int .i64 x.k, .int .i64 x.o, .int .i64 (x.r : Nat)] 74))); have HC10 := Lib.hid (cells_new w9 [.int .i64 (x.en : Nat), .int .i64 (x.sl : Nat), .int .i64 x.k, .int .i64 x.o, .int .i64 (x.r : Nat)] 74); have Hz9 := Lib.hid HT9.out.size)
          | (at_builtin; refine wpList_append_all _ rfl (.tmp 47) (.tmp 49) 58 rfl w2.heap.size 74 i0 _ 5 40 Try.underlying58 hi0 hz0 hz1 hz2 rfl (by decide) (.slice X m cx) m (scells W) rfl HT10.out.rowX (some ⟨w9.heap.size, 0, none⟩) 1 1 [.int .i64 (x.en : Nat), .int .i64 (x.sl : Nat), .int .i64 x.k, .int .i64 x.o, .int .i64 (x.r : Nat)] rfl (fun e => by cases e) rfl (fun ad e => by cases e; exact HC10.out) (by simp [Value.oneCell']) (by unfold maxLen; omega) (by omega) (by simp; have := Hz9.out; omega) _ rfl ?_; intro X' cx' w11 o11 g11 at11; have HT11 := Lib.hid (HT10.out.pushX g11 (W' := W ++ [x]) (by rw [scells_two]; exact o11) at11 rfl); have hcx11 := own_cap o11; clear o11 g11 at11))
        go_roundw
        case rel => exact ⟨k + 1, m + 1, K, W ++ [x], X', cx', Y', cy', by omega, by omega, by go_num, rfl, rfl, hcx11, hcy9, Lib.hid (by rw [List.length_append, Hm.out]; rfl), Lib.hid (by rw [← HR.out]; exact HT11.out), Lib.hid (by rw [← HR.out, List.map_append]; exact fin_take HFin.out HQ.out)⟩
        case measure => simp [intOf]; omega
      | false =>
        cases hw : (W.map (·.id)).contains x.up with
        | true =>
          have HQ : Hid ((q x || (W.map (·.id)).contains x.up) = true) := Lib.hid (by rw [hw]; simp)
          rw [hq] at HC5
          rw [hw] at HCo
          clear hq hw
          go_wp2_with (first
            | (go_at_call 36; refine HA.out.mono ?_; rintro r w4 ⟨rfl, hg4⟩; obtain ⟨p2, w5, d1, d2, HB5, Lp2, l5, e0, e1, e2, e3, e4⟩ := HX4.out w4 hg4.below; clear hg4)
              | (go_at_call 43; refine (HC5.out w5 HB5.out).mono ?_; rintro r w6 ⟨rfl, hb6⟩; obtain ⟨HB6, l6, f0, f1, f2, f3, f4⟩ := HX6.out w5 w6 HB5.out hb6; obtain ⟨g0, g3, g4⟩ := HXh.out p2 w5 w6 l5 e3 e4 hb6; clear hb6)
              | (go_at_call 48; refine (HCo.out w6 HB6.out).mono ?_; rintro r w' ⟨rfl, rfl⟩))
          have P1 := Lib.hid (HT6.out w6 HB6.out).cut.1
          go_still_tail 10, (by kernel_rfl)
          change wpList _ _ _ _ _ w6.drew
          refine (wpList_store_mid rfl 28 (.tmp 41) (.tmp 37) rfl b (x.en * 80 + x.sl * 5) #[.int .i64 0, .int .i64 0, .int .i64 0, .int .i64 0, .int .i64 0] rfl rfl P1.out size_held (by simp [Value.oneCell']) ?_)
          obtain ⟨w7, hw7⟩ : ∃ w7, w6.drew.setCells b (x.en * 80 + x.sl * 5) noughts5 = w7 := ⟨_, rfl⟩
          change wpList _ _ _ _ _ (w6.drew.setCells b (x.en * 80 + x.sl * 5) noughts5)
          rw [hw7]
          obtain ⟨HT7, k7, k0, k1, k2, k3, k4, kt⟩ := HX7.out p2 w6 w7 HB6.out Lp2.out g0 f0 f1 f2 f3 f4 g3 hw7
          clear hw7 d1 d2 e0 e1 e2 e3 e4 f0 f1 f2 f3 f4 g3 g4
          have HT8 := Lib.hid (HT7.out.below (below_new (Nat.le_refl _) (Below.refl _ w7) (.cells #[.int .i64 (x.id : Nat)] 3)))
          have HC8 := Lib.hid (cells_new w7 [.int .i64 (x.id : Nat)] 3)
          have Hz7 := Lib.hid HT7.out.size
          go_wp2_with (first
            | (at_builtin; refine wpList_append_all _ rfl (.tmp 42) (.tmp 45) 49 rfl w2.heap.size 3 i1 (.int .i64 0) 1 8 Try.underlying49 hj0 hy0 hy1 hy2 rfl (by decide) (.slice Y m cy) m (ncells (tI W)) rfl HT8.out.rowY (some ⟨w7.heap.size, 0, none⟩) 1 1 [.int .i64 (x.id : Nat)] rfl (fun e => by cases e) rfl (fun ad e => by cases e; exact HC8.out) (by simp [Value.oneCell']) (by unfold maxLen; omega) (by omega) (by simp; have := Hz7.out; omega) _ rfl ?_; intro Y' cy' w9 o9 g9 at9; have HT9 := Lib.hid (HT8.out.pushY g9 (V' := W ++ [x]) (by rw [tI_snoc]; simpa [ncells] using o9) at9 rfl); obtain ⟨q9, q0, q1, q2, q3, q4⟩ := HX9.out w7 w9 k7 k0 k1 k2 k3 k4 g9; have hcy9 := own_cap o9; clear o9 g9 at9 k0 k1 k2 k3 k4 kt; have HT10 := Lib.hid (HT9.out.below (below_new (Nat.le_refl _) (Below.refl _ w9) (.cells #[.int .i64 (x.en : Nat), .int .i64 (x.sl : Nat), .int .i64 x.k, .int .i64 x.o, .int .i64 (x.r : Nat)] 74))); have HC10 := Lib.hid (cells_new w9 [.int .i64 (x.en : Nat), .int .i64 (x.sl : Nat), .int .i64 x.k, .int .i64 x.o, .int .i64 (x.r : Nat)] 74); have Hz9 := Lib.hid HT9.out.size)
            | (at_builtin; refine wpList_append_all _ rfl (.tmp 47) (.tmp 49) 58 rfl w2.heap.size 74 i0 _ 5 40 Try.underlying58 hi0 hz0 hz1 hz2 rfl (by decide) (.slice X m cx) m (scells W) rfl HT10.out.rowX (some ⟨w9.heap.size, 0, none⟩) 1 1 [.int .i64 (x.en : Nat), .int .i64 (x.sl : Nat), .int .i64 x.k, .int .i64 x.o, .int .i64 (x.r : Nat)] rfl (fun e => by cases e) rfl (fun ad e => by cases e; exact HC10.out) (by simp [Value.oneCell']) (by unfold maxLen; omega) (by omega) (by simp; have := Hz9.out; omega) _ rfl ?_; intro X' cx' w11 o11 g11 at11; have HT11 := Lib.hid (HT10.out.pushX g11 (W' := W ++ [x]) (by rw [scells_two]; exact o11) at11 rfl); have hcx11 := own_cap o11; clear o11 g11 at11))
          go_roundw
          case rel => exact ⟨k + 1, m + 1, K, W ++ [x], X', cx', Y', cy', by omega, by omega, by go_num, rfl, rfl, hcx11, hcy9, Lib.hid (by rw [List.length_append, Hm.out]; rfl), Lib.hid (by rw [← HR.out]; exact HT11.out), Lib.hid (by rw [← HR.out, List.map_append]; exact fin_take HFin.out HQ.out)⟩
          case measure => simp [intOf]; omega
        | false =>
          have HQ : Hid ((q x || (W.map (·.id)).contains x.up) = false) := Lib.hid (by rw [hw, hq]; rfl)
          rw [hq] at HC5
          rw [hw] at HCo
          clear hq hw
          go_wp2_with (first
            | (go_at_call 36; refine HA.out.mono ?_; rintro r w4 ⟨rfl, hg4⟩; obtain ⟨p2, w5, d1, d2, HB5, Lp2, l5, e0, e1, e2, e3, e4⟩ := HX4.out w4 hg4.below; clear hg4)
            | (go_at_call 43; refine (HC5.out w5 HB5.out).mono ?_; rintro r w6 ⟨rfl, hb6⟩; obtain ⟨HB6, l6, f0, f1, f2, f3, f4⟩ := HX6.out w5 w6 HB5.out hb6; obtain ⟨g0, g3, g4⟩ := HXh.out p2 w5 w6 l5 e3 e4 hb6; clear hb6)
            | (go_at_call 48; refine (HCo.out w6 HB6.out).mono ?_; rintro r w' ⟨rfl, rfl⟩))
          go_roundw
          case rel => exact ⟨k + 1, m, K ++ [x], W, X, cx, Y, cy, by omega, by omega, by go_num, rfl, rfl, hcx, hcy, Hm, Lib.hid (by rw [← HR.out, List.append_assoc]; exact HT6.out w6 HB6.out), Lib.hid (by rw [← HR.out]; exact fin_keep HFin.out HQ.out)⟩
          case measure => simp [intOf]; omega
    · obtain rfl : k = n := by omega
      have HF : Hid (Gone b F q w (.returned (.slice X m cx)) wr) := Lib.hid (by
        have h1 := HFin.out
        have h2 : F.l.drop k = [] := List.drop_eq_nil_of_le (by have := Hn.out; omega)
        rw [h2] at h1
        simp only [takeGo, List.append_nil] at h1
        have h3 : tkW q F = W := by rw [tkW, h1]
        have h4 : tkF q F = ⟨K, F.p⟩ := by rw [tkF, h1]
        have h5 := HTk.out
        rw [h2, List.append_nil] at h5
        refine ⟨X, m, cx, rfl, by rw [h3]; exact Hm.out, by omega, ?_, by rw [h4]; exact h5.fo, (Only.of_below (S := (· = b)) Hb2.out).trans h5.only (fun _ h => Or.inl h)⟩
        rw [h3]
        exact own_lower h5.rowX Hb2.out.size)
      go_wp2
      go_ret
      exact HF.out
end
end Go.Proofs.Ythblldojbgeknaa
