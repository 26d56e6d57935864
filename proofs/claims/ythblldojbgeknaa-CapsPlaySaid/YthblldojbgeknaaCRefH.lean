/-
  Contracts: the document's Purge (typed by tools/gen_crpurge.py).
-/
import Derived.Test.YthblldojbgeknaaCRefG
namespace Go.Proofs.Ythblldojbgeknaa
open Go.ChangeShapes Go.WideShapes Go.ChangeAt Go.RowKit

def toB (k o : Int) (x : Rn) : Bool := x.nd.to_ k o
/-- What went, what is left, and a row of numbers. -/
structure Rows3 (W : World) (X : Option Addr) (m cx : Nat) (L : List Rn) (Y : Option Addr) (n cy : Nat) (K : List Rn) (Z : Option Addr) (z cz : Nat) (I : List Value) (wr : World) : Prop where
  two : Rows2 W X m cx L Y n cy K wr
  rowZ : wr.ownsRow W.heap.size 3 1 (.slice Z z cz) z I
  apX : (Value.slice Z z cz).ownBlock = none ∨ (Value.slice Z z cz).ownBlock ≠ (Value.slice X m cx).ownBlock
  apY : (Value.slice Z z cz).ownBlock = none ∨ (Value.slice Z z cz).ownBlock ≠ (Value.slice Y n cy).ownBlock
section
variable {W wr w' : World} {X Y Z : Option Addr} {m cx n cy z cz : Nat} {L K : List Rn} {I : List Value}
theorem Rows3.later (H : Rows3 W X m cx L Y n cy K Z z cz I wr) (hb : Below wr.heap.size wr w') : Rows3 W X m cx L Y n cy K Z z cz I w' :=
  ⟨H.two.later hb, own_call H.rowZ hb, H.apX, H.apY⟩
theorem Rows3.ltZ (H : Rows3 W X m cx L Y n cy K Z z cz I wr) : ∀ y, (Value.slice Z z cz).ownBlock = some y → y < wr.heap.size := fun y hy => (H.rowZ.lt y hy).2
theorem Rows3.pushX {X' : Option Addr} {m' cx' h : Nat} {L' : List Rn} (H : Rows3 W X m cx L Y n cy K Z z cz I wr) (hg : wr.grownBy w' (Value.slice X m cx).ownBlock) (ho : w'.ownsRow W.heap.size 51 7 (.slice X' m' cx') m' (rrow L')) (hat : (Value.slice X' m' cx').ownBlock = (Value.slice X m cx).ownBlock ∨ (Value.slice X' m' cx').ownBlock = some h) (hh : wr.heap.size = h) : Rows3 W X' m' cx' L' Y n cy K Z z cz I w' := by
  refine ⟨H.two.pushX hg ho hat hh, H.rowZ.kept hg H.apX, ?_, H.apY⟩
  subst hh
  exact two_apart H.apX hat H.ltZ
theorem Rows3.pushY {Y' : Option Addr} {n' cy' h : Nat} {K' : List Rn} (H : Rows3 W X m cx L Y n cy K Z z cz I wr) (hg : wr.grownBy w' (Value.slice Y n cy).ownBlock) (ho : w'.ownsRow W.heap.size 51 7 (.slice Y' n' cy') n' (rrow K')) (hat : (Value.slice Y' n' cy').ownBlock = (Value.slice Y n cy).ownBlock ∨ (Value.slice Y' n' cy').ownBlock = some h) (hh : wr.heap.size = h) : Rows3 W X m cx L Y' n' cy' K' Z z cz I w' := by
  refine ⟨H.two.pushY hg ho hat hh, H.rowZ.kept hg H.apY, H.apX, ?_⟩
  subst hh
  exact two_apart H.apY hat H.ltZ
theorem Rows3.pushZ {Z' : Option Addr} {z' cz' h : Nat} {I' : List Value} (H : Rows3 W X m cx L Y n cy K Z z cz I wr) (hg : wr.grownBy w' (Value.slice Z z cz).ownBlock) (ho : w'.ownsRow W.heap.size 3 1 (.slice Z' z' cz') z' I') (hat : (Value.slice Z' z' cz').ownBlock = (Value.slice Z z cz).ownBlock ∨ (Value.slice Z' z' cz').ownBlock = some h) (hh : wr.heap.size = h) : Rows3 W X m cx L Y n cy K Z' z' cz' I' w' := by
  subst hh
  exact ⟨⟨H.two.below.grown hg H.two.below.size (fun k hk => (H.rowZ.lt k hk).1), H.two.rowX.kept hg (two_turn H.apX), H.two.rowY.kept hg (two_turn H.apY), H.two.apart⟩, ho, two_turn (two_apart (two_turn H.apX) hat H.two.ltX), two_turn (two_apart (two_turn H.apY) hat H.two.ltY)⟩
end
section
variable {S : Nat → Prop} {w : World} {A : Option Addr} {n c p : Nat} {M : List Rn}
set_option maxRecDepth 100000 in
set_option maxHeartbeats 4000000 in
theorem rpurge_any (D : DocIs S w A n c M) (hS : ∀ k, S k → k < w.heap.size) (hn : n ≤ 900) (kd ob : Int) :
    Calls Try.prog 27 #[.agg #[.slice A n c, .int .i64 (p : Nat)], .int .i64 kd, .int .i64 ob] w fun x w' => ∃ u g, x = .returned (.tuple #[u, g]) ∧ Split S M p (toB kd ob) w u g w' := by
  obtain ⟨i0, hi0, hz0, hz1, hz2⟩ := info_parts info_node
  obtain ⟨i1, hj0, hy0, hy1, hy2⟩ := info_parts info_int
  obtain ⟨W, hW⟩ : ∃ W, (w.alloc (.cells #[.slice A n c, .int .i64 (p : Nat)] 36 (0, 0))).alloc (.cells #[.slice none 0 0, .int .i64 0] 36 (0, 0)) = W := ⟨_, rfl⟩
  have B : Bx2 w A n c (p : Nat) (.slice none 0 0) (.int .i64 0) W := by
    rw [← hW]
    exact two_boxes w A n c (p : Nat)
  have HB := Lib.hid B
  have HD := Lib.hid D
  have HlS := Lib.hid hS
  have hcap := D.cap
  have HW := Lib.hid hW
  obtain ⟨q, hq⟩ : ∃ q, toB kd ob = q := ⟨_, rfl⟩
  rw [hq]
  have Hq := Lib.hid hq
  clear hW D B hS hq
  go_enter Try.func27, Try.ntmps27
  go_wp2_with fail
  rw [show (w.alloc (.cells #[.slice A n c, .int .i64 (p : Nat)] 36 (0, 0))).alloc (.cells #[.slice none 0 0, .int .i64 0] 36 (0, 0)) = W from HW.out]
  go_loopw [8, 9, 10, 11] (fun a b d i wr => ∃ (k m l z : Nat) (X : Option Addr) (cx : Nat) (Y : Option Addr) (cy : Nat) (Z : Option Addr) (cz : Nat) (I : List Value), k ≤ n ∧ m ≤ k ∧ l ≤ k ∧ z ≤ k ∧ i = .int .i64 k ∧ a = .slice X m cx ∧ b = .slice Y l cy ∧ d = .slice Z z cz ∧ m ≤ cx ∧ l ≤ cy ∧ z ≤ cz ∧ Hid (Rows3 W X m cx ((M.take k).filter q) Y l cy ((M.take k).filter fun x => !q x) Z z cz I wr)) (fun _ _ _ i _ => (n - intOf i).toNat)
  case atStart => exact ⟨0, 0, 0, 0, none, 0, none, 0, none, 0, [], Nat.zero_le _, Nat.le_refl _, Nat.le_refl _, Nat.le_refl _, rfl, rfl, rfl, rfl, Nat.le_refl _, Nat.le_refl _, Nat.le_refl _, Lib.hid ⟨⟨Below.refl _ _, World.ownsRow_nil _ _ _ _, World.ownsRow_nil _ _ _ _, Or.inl rfl⟩, World.ownsRow_nil _ _ _ _, Or.inl rfl, Or.inl rfl⟩⟩
  case round =>
    obtain ⟨k, m, l, z, X, cx, Y, cy, Z, cz, I, hkn, hmk, hlk, hzk, rfl, rfl, rfl, rfl, hcx, hcy, hcz, HR⟩ := hrel
    have hk0 : (0 : Int) ≤ k := by omega
    have B2 := HB.out.later HR.out.two.below
    obtain ⟨h0, -⟩ := bx_cell (j := 0) B2.b0 rfl
    by_cases hlt : k < n
    · have hk1 : (k : Int) < n := by omega
      have hc0 : (0 : Int) ≤ c := by omega
      obtain ⟨x, hx⟩ : ∃ x, M[k]? = some x := ⟨_, List.getElem?_eq_getElem (by rw [← HD.out.len]; exact hlt)⟩
      have D2 := HD.out.kept (T := S) (w' := wr) (fun k hk => B2.below.block k (HlS.out k hk)) (fun _ h => h)
      obtain ⟨g, hAg, hgS, r0, r1, r2, r3, r4, r5, r6⟩ := D2.at_ hx
      have hO := D2.ofs x (List.mem_of_getElem? hx)
      obtain ⟨oA, on, oc, hov, -⟩ := hO
      rw [hov] at r1
      have hg2 : g < wr.heap.size := Nat.lt_of_lt_of_le (HlS.out g hgS) B2.below.size
      have HMx := Lib.hid (filter_more hx q)
      have HMy := Lib.hid (filter_more hx (fun x => !q x))
      obtain ⟨LX, hLX⟩ : ∃ L, (M.take k).filter q = L := ⟨_, rfl⟩
      obtain ⟨LY, hLY⟩ : ∃ L, (M.take k).filter (fun x => !q x) = L := ⟨_, rfl⟩
      rw [hLX, hLY] at HR
      rw [hLX] at HMx
      rw [hLY] at HMy
      have HFx : Hid (∀ w', Below W.heap.size W w' → w'.cell? ⟨w.heap.size, 0, none⟩ = some (.slice (some ⟨g, 0, none⟩) n c) ∧ w'.cell? ⟨g, k * 7, none⟩ = some (.int .i64 (x.id : Nat))) := Lib.hid fun w' h' => by
        have B3 := HB.out.later h'
        have D3 := HD.out.kept (T := S) (w' := w') (fun k hk => B3.below.block k (HlS.out k hk)) (fun _ h => h)
        obtain ⟨g', hAg', -, r0', -⟩ := D3.at_ hx
        have hgg : g' = g := by
          rw [hAg] at hAg'
          simpa using hAg'.symm
        subst hgg
        refine ⟨?_, r0'⟩
        rw [← hAg]
        exact (bx_cell (j := 0) B3.b0 rfl).1
      have HXc : Hid (rcell x = [.int .i64 (x.id : Nat), .slice oA on oc, .int .i64 (x.en : Nat), .int .i64 (x.sl : Nat), .int .i64 x.k, .int .i64 x.o, .int .i64 (x.r : Nat)]) := Lib.hid (by rw [rcell, hov])
      have HR8 := Lib.hid (HR.out.later (below_new (Nat.le_refl _) (Below.refl _ wr) (.cells #[.int .i64 (x.id : Nat), .slice oA on oc, .int .i64 (x.en : Nat), .int .i64 (x.sl : Nat), .int .i64 x.k, .int .i64 x.o, .int .i64 (x.r : Nat)] 51)))
      have HC8 := Lib.hid (cells_new wr [.int .i64 (x.id : Nat), .slice oA on oc, .int .i64 (x.en : Nat), .int .i64 (x.sl : Nat), .int .i64 x.k, .int .i64 x.o, .int .i64 (x.r : Nat)] 51)
      have Hz := Lib.hid HR.out.two.below.size
      have Hqx : Hid (q x = (decide (x.k = kd) && decide (x.o = ob))) := Lib.hid (by rw [← Hq.out]; rfl)
      obtain ⟨pr, hpr⟩ : ∃ pr, q x = pr := ⟨_, rfl⟩
      rw [hpr] at HMx HMy Hqx
      subst hAg
      clear hx D2 hgS hov B2 hpr hLX hLY
      by_cases hs : x.k = kd ∧ x.o = ob
      · obtain ⟨e1, e2⟩ := hs
        obtain rfl : pr = true := by
          rw [Hqx.out, decide_eq_true e1, decide_eq_true e2]
          rfl
        rw [if_pos rfl] at HMx
        rw [if_neg (by simp), List.append_nil] at HMy
        clear Hqx Hq
        subst e1 e2
        go_wp2_with (first
          | (at_builtin; refine wpList_append_all _ rfl (.tmp 39) (.tmp 45) 34 rfl W.heap.size 51 i0 _ 7 72 Try.underlying34 hi0 hz0 hz1 hz2 rfl (by decide) (.slice X m cx) m (rrow LX) rfl HR8.out.two.rowX (some ⟨wr.heap.size, 0, none⟩) 1 1 [.int .i64 (x.id : Nat), .slice oA on oc, .int .i64 (x.en : Nat), .int .i64 (x.sl : Nat), .int .i64 x.k, .int .i64 x.o, .int .i64 (x.r : Nat)] rfl (fun e => by cases e) rfl (fun ad e => by cases e; exact HC8.out) (by simp [Value.oneCell']) (by unfold maxLen; omega) (by omega) (by simp; have := Hz.out; omega) _ rfl ?_; intro V' c' w9 o9 g9 at9; have HR9 := Lib.hid (HR8.out.pushX g9 (L' := LX ++ [x]) (by rw [rrow_two, rrow_sole, HXc.out]; exact o9) at9 rfl); have hc9 := own_cap o9; have HR10 := Lib.hid (HR9.out.later (below_new (Nat.le_refl _) (Below.refl _ w9) (.cells #[.int .i64 (x.id : Nat)] 3))); have HC10 := Lib.hid (cells_new w9 [.int .i64 (x.id : Nat)] 3); have Hz9 := Lib.hid HR9.out.two.below.size; obtain ⟨h0, r0⟩ := HFx.out w9 HR9.out.two.below; clear o9 g9 at9)
          | (at_builtin; refine wpList_append_all _ rfl (.tmp 47) (.tmp 54) 49 rfl W.heap.size 3 i1 _ 1 8 Try.underlying49 hj0 hy0 hy1 hy2 rfl (by decide) (.slice Z z cz) z I rfl HR10.out.rowZ (some ⟨w9.heap.size, 0, none⟩) 1 1 [.int .i64 (x.id : Nat)] rfl (fun e => by cases e) rfl (fun ad e => by cases e; exact HC10.out) (by simp [Value.oneCell']) (by unfold maxLen; omega) (by omega) (by simp; have := Hz9.out; omega) _ rfl ?_; intro V2 c2 w11 o11 g11 at11; have HR11 := Lib.hid (HR10.out.pushZ g11 o11 at11 rfl); have hc11 := own_cap o11; clear o11 g11 at11))
        go_roundw
        case rel => exact ⟨k + 1, m + 1, l, z + 1, V', c', Y, cy, V2, c2, _, by omega, by omega, by omega, by omega, by go_num, rfl, rfl, rfl, hc9, hcy, hc11, Lib.hid (by rw [HMx.out, HMy.out]; exact HR11.out)⟩
        case measure => simp [intOf]; omega
      · obtain rfl : pr = false := by
          rw [Hqx.out]
          by_cases e1 : x.k = kd
          · by_cases e2 : x.o = ob
            · exact absurd ⟨e1, e2⟩ hs
            · rw [decide_eq_false e2, Bool.and_false]
          · rw [decide_eq_false e1, Bool.false_and]
        rw [if_neg (by simp), List.append_nil] at HMx
        rw [if_pos (by rfl)] at HMy
        clear Hqx Hq
        by_cases e1 : x.k = kd
        · have e2 : ¬ x.o = ob := fun h => hs ⟨e1, h⟩
          subst e1
          clear hs
          go_wp2_with ((at_builtin; refine wpList_append_all _ rfl (.tmp 56) (.tmp 62) 34 rfl W.heap.size 51 i0 _ 7 72 Try.underlying34 hi0 hz0 hz1 hz2 rfl (by decide) (.slice Y l cy) l (rrow LY) rfl HR8.out.two.rowY (some ⟨wr.heap.size, 0, none⟩) 1 1 [.int .i64 (x.id : Nat), .slice oA on oc, .int .i64 (x.en : Nat), .int .i64 (x.sl : Nat), .int .i64 x.k, .int .i64 x.o, .int .i64 (x.r : Nat)] rfl (fun e => by cases e) rfl (fun ad e => by cases e; exact HC8.out) (by simp [Value.oneCell']) (by unfold maxLen; omega) (by omega) (by simp; have := Hz.out; omega) _ rfl ?_; intro V' c' w9 o9 g9 at9; have HR9 := Lib.hid (HR8.out.pushY g9 (K' := LY ++ [x]) (by rw [rrow_two, rrow_sole, HXc.out]; exact o9) at9 rfl); have hc9 := own_cap o9; clear o9 g9 at9))
          go_roundw
          case rel => exact ⟨k + 1, m, l + 1, z, X, cx, V', c', Z, cz, I, by omega, by omega, by omega, by omega, by go_num, rfl, rfl, rfl, hcx, hc9, hcz, Lib.hid (by rw [HMx.out, HMy.out]; exact HR9.out)⟩
          case measure => simp [intOf]; omega
        · clear hs
          go_wp2_with ((at_builtin; refine wpList_append_all _ rfl (.tmp 56) (.tmp 62) 34 rfl W.heap.size 51 i0 _ 7 72 Try.underlying34 hi0 hz0 hz1 hz2 rfl (by decide) (.slice Y l cy) l (rrow LY) rfl HR8.out.two.rowY (some ⟨wr.heap.size, 0, none⟩) 1 1 [.int .i64 (x.id : Nat), .slice oA on oc, .int .i64 (x.en : Nat), .int .i64 (x.sl : Nat), .int .i64 x.k, .int .i64 x.o, .int .i64 (x.r : Nat)] rfl (fun e => by cases e) rfl (fun ad e => by cases e; exact HC8.out) (by simp [Value.oneCell']) (by unfold maxLen; omega) (by omega) (by simp; have := Hz.out; omega) _ rfl ?_; intro V' c' w9 o9 g9 at9; have HR9 := Lib.hid (HR8.out.pushY g9 (K' := LY ++ [x]) (by rw [rrow_two, rrow_sole, HXc.out]; exact o9) at9 rfl); have hc9 := own_cap o9; clear o9 g9 at9))
          go_roundw
          case rel => exact ⟨k + 1, m, l + 1, z, X, cx, V', c', Z, cz, I, by omega, by omega, by omega, by omega, by go_num, rfl, rfl, rfl, hcx, hc9, hcz, Lib.hid (by rw [HMx.out, HMy.out]; exact HR9.out)⟩
          case measure => simp [intOf]; omega
    · obtain rfl : k = n := by omega
      have HE := HR.out.two
      rw [List.take_of_length_le (Nat.le_of_eq HD.out.len.symm)] at HE
      obtain ⟨w8, w9, e8, ⟨g0, g1⟩, ⟨⟨m0, m0z⟩, m1, m1z⟩, e9, q0, q1, HF⟩ := split_end HD.out HlS.out HB.out HE
      obtain ⟨z0, z0z⟩ := bx_cell (j := 0) B2.b0 rfl
      clear HE B2
      go_wp2
      refine bodyPost_ret (v := .tuple #[.agg #[.slice Y l cy, .int .i64 (p : Nat)], .slice X m cx]) (by simp [results, Try.results27, go_sem, q0, q1]) rfl ?_
      exact ⟨_, _, rfl, HF.out⟩
end
end Go.Proofs.Ythblldojbgeknaa
