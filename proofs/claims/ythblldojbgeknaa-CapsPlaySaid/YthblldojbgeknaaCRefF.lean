/-
  Contracts: the document's Prune.
-/
import Derived.Test.YthblldojbgeknaaCRefD
namespace Go.Proofs.Ythblldojbgeknaa
open Go.ChangeShapes Go.WideShapes Go.ChangeAt Go.RowKit

/-- What goes: what comes of a number; that, too. -/
def prB (id : Nat) (self : Bool) (x : Rn) : Bool := (self && decide (x.id = id)) || x.of.contains id
/-- Two rows of the call's own: what went, what is left. -/
structure Rows2 (W : World) (X : Option Addr) (m cx : Nat) (L : List Rn) (Y : Option Addr) (n cy : Nat) (K : List Rn) (wr : World) : Prop where
  below : Below W.heap.size W wr
  rowX : wr.ownsRow W.heap.size 51 7 (.slice X m cx) m (rrow L)
  rowY : wr.ownsRow W.heap.size 51 7 (.slice Y n cy) n (rrow K)
  apart : (Value.slice Y n cy).ownBlock = none ∨ (Value.slice Y n cy).ownBlock ≠ (Value.slice X m cx).ownBlock
section
variable {W wr w' : World} {X Y : Option Addr} {m cx n cy : Nat} {L K : List Rn}
theorem Rows2.later (H : Rows2 W X m cx L Y n cy K wr) (hb : Below wr.heap.size wr w') : Rows2 W X m cx L Y n cy K w' :=
  ⟨H.below.trans (hb.mono H.below.size), own_call H.rowX hb, own_call H.rowY hb, H.apart⟩
theorem Rows2.ltX (H : Rows2 W X m cx L Y n cy K wr) : ∀ y, (Value.slice X m cx).ownBlock = some y → y < wr.heap.size := fun y hy => (H.rowX.lt y hy).2
theorem Rows2.ltY (H : Rows2 W X m cx L Y n cy K wr) : ∀ y, (Value.slice Y n cy).ownBlock = some y → y < wr.heap.size := fun y hy => (H.rowY.lt y hy).2
theorem Rows2.pushX {X' : Option Addr} {m' cx' h : Nat} {L' : List Rn} (H : Rows2 W X m cx L Y n cy K wr) (hg : wr.grownBy w' (Value.slice X m cx).ownBlock) (ho : w'.ownsRow W.heap.size 51 7 (.slice X' m' cx') m' (rrow L')) (hat : (Value.slice X' m' cx').ownBlock = (Value.slice X m cx).ownBlock ∨ (Value.slice X' m' cx').ownBlock = some h) (hh : wr.heap.size = h) : Rows2 W X' m' cx' L' Y n cy K w' := by
  subst hh
  exact ⟨H.below.grown hg H.below.size (fun k hk => (H.rowX.lt k hk).1), ho, H.rowY.kept hg H.apart, two_apart H.apart hat H.ltY⟩
theorem Rows2.pushY {Y' : Option Addr} {n' cy' h : Nat} {K' : List Rn} (H : Rows2 W X m cx L Y n cy K wr) (hg : wr.grownBy w' (Value.slice Y n cy).ownBlock) (ho : w'.ownsRow W.heap.size 51 7 (.slice Y' n' cy') n' (rrow K')) (hat : (Value.slice Y' n' cy').ownBlock = (Value.slice Y n cy).ownBlock ∨ (Value.slice Y' n' cy').ownBlock = some h) (hh : wr.heap.size = h) : Rows2 W X m cx L Y' n' cy' K' w' := by
  subst hh
  exact ⟨H.below.grown hg H.below.size (fun k hk => (H.rowY.lt k hk).1), H.rowX.kept hg (two_turn H.apart), ho, two_turn (two_apart (two_turn H.apart) hat H.ltX)⟩
end
/-- What went, and what is left, are handed back. -/
def Split (S : Nat → Prop) (M : List Rn) (p : Nat) (q : Rn → Bool) (w : World) (u g : Value) (w' : World) : Prop := ∃ A n c G m cg, u = .agg #[.slice A n c, .int .i64 (p : Nat)] ∧ g = .slice G m cg ∧ DocIs (Fresh S w w') w' A n c (M.filter fun x => !q x) ∧ DocIs (Fresh S w w') w' G m cg (M.filter q) ∧ Below w.heap.size w w'
theorem filter_more {M : List Rn} {k : Nat} {x : Rn} (hx : M[k]? = some x) (q : Rn → Bool) : (M.take (k + 1)).filter q = (M.take k).filter q ++ (if q x = true then [x] else []) := by
  rw [List.take_add_one, hx, List.filter_append]
  congr 1
  cases h : q x <;> simp [h]
section
variable {S : Nat → Prop} {w : World} {A : Option Addr} {n c p : Nat} {M : List Rn}
/-- The end: what is left takes the place of all; both rows are told. -/
theorem split_end {q : Rn → Bool} {W wr : World} {X Y : Option Addr} {m cx l cy : Nat} (D : DocIs S w A n c M) (hS : ∀ k, S k → k < w.heap.size) (B : Bx2 w A n c (p : Nat) (.slice none 0 0) (.int .i64 0) W) (H : Rows2 W X m cx (M.filter q) Y l cy (M.filter fun x => !q x) wr) : ∃ w8 w9, wr.setCell ⟨w.heap.size, 0, none⟩ (.slice Y l cy) = w8 ∧ (w8.cell? ⟨w.heap.size, 0, none⟩ = some (.slice Y l cy) ∧ w8.cell? ⟨w.heap.size, 1, none⟩ = some (.int .i64 (p : Nat))) ∧ ((w8.cell? ⟨w.heap.size + 1, 0, none⟩ = some (.slice none 0 0) ∧ w8.frozen? ⟨w.heap.size + 1, 0, none⟩ = false) ∧ w8.cell? ⟨w.heap.size + 1, 1, none⟩ = some (.int .i64 0) ∧ w8.frozen? ⟨w.heap.size + 1, 1, none⟩ = false) ∧
    (w8.setCell ⟨w.heap.size + 1, 0, none⟩ (.slice Y l cy)).setCell ⟨w.heap.size + 1, 1, none⟩ (.int .i64 (p : Nat)) = w9 ∧ w9.cell? ⟨w.heap.size + 1, 0, none⟩ = some (.slice Y l cy) ∧ w9.cell? ⟨w.heap.size + 1, 1, none⟩ = some (.int .i64 (p : Nat)) ∧ Hid (Split S M p q w (.agg #[.slice Y l cy, .int .i64 (p : Nat)]) (.slice X m cx) w9) := by
  have Br := B.later H.below
  have hs := B.size
  have hsz := H.below.size
  have h8 := heap_setCell_same wr w.heap.size 0 _ _ (.slice Y l cy) Br.b0
  have h81 : (wr.setCell ⟨w.heap.size, 0, none⟩ (.slice Y l cy)).heap[w.heap.size + 1]? = _ := (Below.heap_setCell _ _ _ _ (by show w.heap.size + 1 ≠ w.heap.size; omega)).trans Br.b1
  have hofs : ∀ x ∈ M, OfIs (fun k => S k ∨ (W.heap.size ≤ k ∧ k < wr.heap.size)) wr x.ov x.of := fun x hx => (D.ofs x hx).kept (fun k hk => Br.below.block k (hS k hk)) (fun _ h => Or.inl h)
  have DX := DocIs.own (S := fun k => S k ∨ (W.heap.size ≤ k ∧ k < wr.heap.size)) H.rowX (fun k h1 h2 => Or.inr ⟨h1, h2⟩) (fun x hx => hofs x (List.mem_filter.1 hx).1)
  have DY := DocIs.own (S := fun k => S k ∨ (W.heap.size ≤ k ∧ k < wr.heap.size)) H.rowY (fun k h1 h2 => Or.inr ⟨h1, h2⟩) (fun x hx => hofs x (List.mem_filter.1 hx).1)
  have hset : ∀ k, (S k ∨ (W.heap.size ≤ k ∧ k < wr.heap.size)) → k ≠ w.heap.size ∧ k ≠ w.heap.size + 1 := fun k hk => by
    rcases hk with hk | hk
    · have := hS k hk
      omega
    · omega
  have hh := heap_setCell_same _ (w.heap.size + 1) 1 _ _ (.int .i64 (p : Nat)) (heap_setCell_same _ (w.heap.size + 1) 0 _ _ (.slice Y l cy) h81)
  have hb9 : Below w.heap.size w (((wr.setCell ⟨w.heap.size, 0, none⟩ (.slice Y l cy)).setCell ⟨w.heap.size + 1, 0, none⟩ (.slice Y l cy)).setCell ⟨w.heap.size + 1, 1, none⟩ (.int .i64 (p : Nat))) := ((Br.below.setCell (Nat.le_refl _) _).setCell (Nat.le_succ _) _).setCell (Nat.le_succ _) _
  have hblk : ∀ k, (S k ∨ (W.heap.size ≤ k ∧ k < wr.heap.size)) → (((wr.setCell ⟨w.heap.size, 0, none⟩ (.slice Y l cy)).setCell ⟨w.heap.size + 1, 0, none⟩ (.slice Y l cy)).setCell ⟨w.heap.size + 1, 1, none⟩ (.int .i64 (p : Nat))).heap[k]? = wr.heap[k]? := fun k hk => by
    obtain ⟨h1, h2⟩ := hset k hk
    exact (Below.heap_setCell _ _ _ _ h2).trans ((Below.heap_setCell _ _ _ _ h2).trans (Below.heap_setCell _ _ _ _ h1))
  have hsize : (((wr.setCell ⟨w.heap.size, 0, none⟩ (.slice Y l cy)).setCell ⟨w.heap.size + 1, 0, none⟩ (.slice Y l cy)).setCell ⟨w.heap.size + 1, 1, none⟩ (.int .i64 (p : Nat))).heap.size = wr.heap.size := by simp [World.setCell]
  have hfresh : ∀ k, (S k ∨ (W.heap.size ≤ k ∧ k < wr.heap.size)) → Fresh S w (((wr.setCell ⟨w.heap.size, 0, none⟩ (.slice Y l cy)).setCell ⟨w.heap.size + 1, 0, none⟩ (.slice Y l cy)).setCell ⟨w.heap.size + 1, 1, none⟩ (.int .i64 (p : Nat))) k := fun k hk => by
    rcases hk with hk | hk
    · exact Or.inl hk
    · exact Or.inr ⟨by omega, by rw [hsize]; exact hk.2⟩
  exact ⟨_, _, rfl, ⟨(bx_cell h8 rfl).1, (bx_cell h8 rfl).1⟩, ⟨bx_cell h81 rfl, bx_cell h81 rfl⟩, rfl, (bx_cell hh rfl).1, (bx_cell hh rfl).1, Lib.hid ⟨Y, l, cy, X, m, cx, rfl, rfl, DY.kept hblk hfresh, DX.kept hblk hfresh, hb9⟩⟩
set_option maxRecDepth 100000 in
set_option maxHeartbeats 4000000 in
theorem rprune_any (D : DocIs S w A n c M) (hS : ∀ k, S k → k < w.heap.size) (hn : n ≤ 900) (hof : ∀ x ∈ M, x.of.length ≤ 1000000) (id : Nat) (self : Bool) :
    Calls Try.prog 41 #[.agg #[.slice A n c, .int .i64 (p : Nat)], .int .i64 (id : Nat), .bool self] w fun x w' => ∃ u g, x = .returned (.tuple #[u, g]) ∧ Split S M p (prB id self) w u g w' := by
  obtain ⟨i0, hi0, hz0, hz1, hz2⟩ := info_parts info_node
  obtain ⟨W, hW⟩ : ∃ W, (w.alloc (.cells #[.slice A n c, .int .i64 (p : Nat)] 36 (0, 0))).alloc (.cells #[.slice none 0 0, .int .i64 0] 36 (0, 0)) = W := ⟨_, rfl⟩
  have B : Bx2 w A n c (p : Nat) (.slice none 0 0) (.int .i64 0) W := by
    rw [← hW]
    exact two_boxes w A n c (p : Nat)
  have HB := Lib.hid B
  have HD := Lib.hid D
  have HlS := Lib.hid hS
  have Hof := Lib.hid hof
  have hcap := D.cap
  have HW := Lib.hid hW
  clear hW D B hS hof
  go_enter Try.func41, Try.ntmps41
  go_wp2_with fail
  rw [show (w.alloc (.cells #[.slice A n c, .int .i64 (p : Nat)] 36 (0, 0))).alloc (.cells #[.slice none 0 0, .int .i64 0] 36 (0, 0)) = W from HW.out]
  go_loopw [8, 9, 10] (fun a b i wr => ∃ (k m l : Nat) (X : Option Addr) (cx : Nat) (Y : Option Addr) (cy : Nat), k ≤ n ∧ m ≤ k ∧ l ≤ k ∧ i = .int .i64 k ∧ a = .slice X m cx ∧ b = .slice Y l cy ∧ m ≤ cx ∧ l ≤ cy ∧ Hid (Rows2 W X m cx ((M.take k).filter (prB id self)) Y l cy ((M.take k).filter fun x => !prB id self x) wr)) (fun _ _ i _ => (n - intOf i).toNat)
  case atStart => exact ⟨0, 0, 0, none, 0, none, 0, Nat.zero_le _, Nat.le_refl _, Nat.le_refl _, rfl, rfl, rfl, Nat.le_refl _, Nat.le_refl _, Lib.hid ⟨Below.refl _ _, World.ownsRow_nil _ _ _ _, World.ownsRow_nil _ _ _ _, Or.inl rfl⟩⟩
  case round =>
    obtain ⟨k, m, l, X, cx, Y, cy, hkn, hmk, hlk, rfl, rfl, rfl, hcx, hcy, HR⟩ := hrel
    have hk0 : (0 : Int) ≤ k := by omega
    have B2 := HB.out.later HR.out.below
    obtain ⟨h0, -⟩ := bx_cell (j := 0) B2.b0 rfl
    by_cases hlt : k < n
    · have hk1 : (k : Int) < n := by omega
      have hc0 : (0 : Int) ≤ c := by omega
      obtain ⟨x, hx⟩ : ∃ x, M[k]? = some x := ⟨_, List.getElem?_eq_getElem (by rw [← HD.out.len]; exact hlt)⟩
      have D2 := HD.out.kept (T := S) (w' := wr) (fun k hk => B2.below.block k (HlS.out k hk)) (fun _ h => h)
      obtain ⟨g, hAg, hgS, r0, r1, r2, r3, r4, r5, r6⟩ := D2.at_ hx
      have hxm := List.mem_of_getElem? hx
      have hO := D2.ofs x hxm
      have hO2 := hO
      obtain ⟨oA, on, oc, hov, hol, -⟩ := hO2
      rw [hov] at r1 hO
      have hg2 : g < wr.heap.size := Nat.lt_of_lt_of_le (HlS.out g hgS) B2.below.size
      have HMx := Lib.hid (filter_more hx (prB id self))
      have HMy := Lib.hid (filter_more hx (fun x => !prB id self x))
      obtain ⟨LX, hLX⟩ : ∃ L, (M.take k).filter (prB id self) = L := ⟨_, rfl⟩
      obtain ⟨LY, hLY⟩ : ∃ L, (M.take k).filter (fun x => !prB id self x) = L := ⟨_, rfl⟩
      rw [hLX, hLY] at HR
      rw [hLX] at HMx
      rw [hLY] at HMy
      clear hLX hLY
      have HXc : Hid (rcell x = [.int .i64 (x.id : Nat), .slice oA on oc, .int .i64 (x.en : Nat), .int .i64 (x.sl : Nat), .int .i64 x.k, .int .i64 x.o, .int .i64 (x.r : Nat)]) := Lib.hid (by rw [rcell, hov])
      have HM := Lib.hid (ramong_any hO (Hof.out x hxm) id)
      have HR8 := Lib.hid (HR.out.later (below_new (Nat.le_refl _) (Below.refl _ wr) (.cells #[.int .i64 (x.id : Nat), .slice oA on oc, .int .i64 (x.en : Nat), .int .i64 (x.sl : Nat), .int .i64 x.k, .int .i64 x.o, .int .i64 (x.r : Nat)] 51)))
      have HC8 := Lib.hid (cells_new wr [.int .i64 (x.id : Nat), .slice oA on oc, .int .i64 (x.en : Nat), .int .i64 (x.sl : Nat), .int .i64 x.k, .int .i64 x.o, .int .i64 (x.r : Nat)] 51)
      have Hz := Lib.hid HR.out.below.size
      have Hpr : Hid (prB id self x = ((self && decide (x.id = id)) || x.of.contains id)) := Lib.hid rfl
      obtain ⟨pr, hpr⟩ : ∃ pr, prB id self x = pr := ⟨_, rfl⟩
      rw [hpr] at HMx HMy Hpr
      subst hAg
      clear hx D2 hgS hxm hO hov hol B2 hpr
      by_cases hs : self = true ∧ x.id = id
      · obtain ⟨rfl, rfl⟩ := hs
        obtain rfl : pr = true := by
          rw [Hpr.out]
          simp
        rw [if_pos rfl] at HMx
        rw [if_neg (by simp), List.append_nil] at HMy
        clear HM
        go_wp2_with (at_builtin; refine wpList_append_all _ rfl (.tmp 39) (.tmp 45) 34 rfl W.heap.size 51 i0 _ 7 72 Try.underlying34 hi0 hz0 hz1 hz2 rfl (by decide) (.slice X m cx) m (rrow LX) rfl HR8.out.rowX (some ⟨wr.heap.size, 0, none⟩) 1 1 [.int .i64 (x.id : Nat), .slice oA on oc, .int .i64 (x.en : Nat), .int .i64 (x.sl : Nat), .int .i64 x.k, .int .i64 x.o, .int .i64 (x.r : Nat)] rfl (fun e => by cases e) rfl (fun ad e => by cases e; exact HC8.out) (by simp [Value.oneCell']) (by unfold maxLen; omega) (by omega) (by simp; have := Hz.out; omega) _ rfl ?_; intro V' c' w9 o9 g9 at9; have HR9 := Lib.hid (HR8.out.pushX g9 (L' := LX ++ [x]) (by rw [rrow_two, rrow_sole, HXc.out]; exact o9) at9 rfl); have hc9 := own_cap o9; clear o9 g9 at9)
        go_roundw
        case rel => exact ⟨k + 1, m + 1, l, V', c', Y, cy, by omega, by omega, by omega, by go_num, rfl, rfl, hc9, hcy, Lib.hid (by rw [HMx.out, HMy.out]; exact HR9.out)⟩
        case measure => simp [intOf]; omega
      · have hpre : (self && decide (x.id = id)) = false := by
          cases self with
          | false => rfl
          | true => simpa using hs
        rw [hpre, Bool.false_or] at Hpr
        rw [← Hpr.out] at HM
        have HSf : Hid (self = false ∨ (self = true ∧ ¬ ((x.id : Nat) : Int) = (id : Nat))) := Lib.hid (by
          cases self with
          | false => exact Or.inl rfl
          | true =>
            refine Or.inr ⟨rfl, fun h => hs ⟨rfl, by omega⟩⟩)
        clear hs hpre Hpr
        cases pr with
        | true =>
          rw [if_pos rfl] at HMx
          rw [if_neg (by simp), List.append_nil] at HMy
          rcases HSf.out with rfl | ⟨rfl, hne⟩
          · go_wp2_with (first
              | (go_at_call 50; refine HM.out.mono ?_; rintro y w' ⟨rfl, rfl⟩)
              | (at_builtin; refine wpList_append_all _ rfl (.tmp 39) (.tmp 45) 34 rfl W.heap.size 51 i0 _ 7 72 Try.underlying34 hi0 hz0 hz1 hz2 rfl (by decide) (.slice X m cx) m (rrow LX) rfl HR8.out.rowX (some ⟨wr.heap.size, 0, none⟩) 1 1 [.int .i64 (x.id : Nat), .slice oA on oc, .int .i64 (x.en : Nat), .int .i64 (x.sl : Nat), .int .i64 x.k, .int .i64 x.o, .int .i64 (x.r : Nat)] rfl (fun e => by cases e) rfl (fun ad e => by cases e; exact HC8.out) (by simp [Value.oneCell']) (by unfold maxLen; omega) (by omega) (by simp; have := Hz.out; omega) _ rfl ?_; intro V' c' w9 o9 g9 at9; have HR9 := Lib.hid (HR8.out.pushX g9 (L' := LX ++ [x]) (by rw [rrow_two, rrow_sole, HXc.out]; exact o9) at9 rfl); have hc9 := own_cap o9; clear o9 g9 at9))
            go_roundw
            case rel => exact ⟨k + 1, m + 1, l, V', c', Y, cy, by omega, by omega, by omega, by go_num, rfl, rfl, hc9, hcy, Lib.hid (by rw [HMx.out, HMy.out]; exact HR9.out)⟩
            case measure => simp [intOf]; omega
          · go_wp2_with (first
              | (go_at_call 50; refine HM.out.mono ?_; rintro y w' ⟨rfl, rfl⟩)
              | (at_builtin; refine wpList_append_all _ rfl (.tmp 39) (.tmp 45) 34 rfl W.heap.size 51 i0 _ 7 72 Try.underlying34 hi0 hz0 hz1 hz2 rfl (by decide) (.slice X m cx) m (rrow LX) rfl HR8.out.rowX (some ⟨wr.heap.size, 0, none⟩) 1 1 [.int .i64 (x.id : Nat), .slice oA on oc, .int .i64 (x.en : Nat), .int .i64 (x.sl : Nat), .int .i64 x.k, .int .i64 x.o, .int .i64 (x.r : Nat)] rfl (fun e => by cases e) rfl (fun ad e => by cases e; exact HC8.out) (by simp [Value.oneCell']) (by unfold maxLen; omega) (by omega) (by simp; have := Hz.out; omega) _ rfl ?_; intro V' c' w9 o9 g9 at9; have HR9 := Lib.hid (HR8.out.pushX g9 (L' := LX ++ [x]) (by rw [rrow_two, rrow_sole, HXc.out]; exact o9) at9 rfl); have hc9 := own_cap o9; clear o9 g9 at9))
            go_roundw
            case rel => exact ⟨k + 1, m + 1, l, V', c', Y, cy, by omega, by omega, by omega, by go_num, rfl, rfl, hc9, hcy, Lib.hid (by rw [HMx.out, HMy.out]; exact HR9.out)⟩
            case measure => simp [intOf]; omega
        | false =>
          rw [if_neg (by simp), List.append_nil] at HMx
          rw [if_pos (by rfl)] at HMy
          rcases HSf.out with rfl | ⟨rfl, hne⟩
          · go_wp2_with (first
              | (go_at_call 50; refine HM.out.mono ?_; rintro y w' ⟨rfl, rfl⟩)
              | (at_builtin; refine wpList_append_all _ rfl (.tmp 47) (.tmp 53) 34 rfl W.heap.size 51 i0 _ 7 72 Try.underlying34 hi0 hz0 hz1 hz2 rfl (by decide) (.slice Y l cy) l (rrow LY) rfl HR8.out.rowY (some ⟨wr.heap.size, 0, none⟩) 1 1 [.int .i64 (x.id : Nat), .slice oA on oc, .int .i64 (x.en : Nat), .int .i64 (x.sl : Nat), .int .i64 x.k, .int .i64 x.o, .int .i64 (x.r : Nat)] rfl (fun e => by cases e) rfl (fun ad e => by cases e; exact HC8.out) (by simp [Value.oneCell']) (by unfold maxLen; omega) (by omega) (by simp; have := Hz.out; omega) _ rfl ?_; intro V' c' w9 o9 g9 at9; have HR9 := Lib.hid (HR8.out.pushY g9 (K' := LY ++ [x]) (by rw [rrow_two, rrow_sole, HXc.out]; exact o9) at9 rfl); have hc9 := own_cap o9; clear o9 g9 at9))
            go_roundw
            case rel => exact ⟨k + 1, m, l + 1, X, cx, V', c', by omega, by omega, by omega, by go_num, rfl, rfl, hcx, hc9, Lib.hid (by rw [HMx.out, HMy.out]; exact HR9.out)⟩
            case measure => simp [intOf]; omega
          · go_wp2_with (first
              | (go_at_call 50; refine HM.out.mono ?_; rintro y w' ⟨rfl, rfl⟩)
              | (at_builtin; refine wpList_append_all _ rfl (.tmp 47) (.tmp 53) 34 rfl W.heap.size 51 i0 _ 7 72 Try.underlying34 hi0 hz0 hz1 hz2 rfl (by decide) (.slice Y l cy) l (rrow LY) rfl HR8.out.rowY (some ⟨wr.heap.size, 0, none⟩) 1 1 [.int .i64 (x.id : Nat), .slice oA on oc, .int .i64 (x.en : Nat), .int .i64 (x.sl : Nat), .int .i64 x.k, .int .i64 x.o, .int .i64 (x.r : Nat)] rfl (fun e => by cases e) rfl (fun ad e => by cases e; exact HC8.out) (by simp [Value.oneCell']) (by unfold maxLen; omega) (by omega) (by simp; have := Hz.out; omega) _ rfl ?_; intro V' c' w9 o9 g9 at9; have HR9 := Lib.hid (HR8.out.pushY g9 (K' := LY ++ [x]) (by rw [rrow_two, rrow_sole, HXc.out]; exact o9) at9 rfl); have hc9 := own_cap o9; clear o9 g9 at9))
            go_roundw
            case rel => exact ⟨k + 1, m, l + 1, X, cx, V', c', by omega, by omega, by omega, by go_num, rfl, rfl, hcx, hc9, Lib.hid (by rw [HMx.out, HMy.out]; exact HR9.out)⟩
            case measure => simp [intOf]; omega
    · obtain rfl : k = n := by omega
      have HE := HR.out
      rw [List.take_of_length_le (Nat.le_of_eq HD.out.len.symm)] at HE
      obtain ⟨w8, w9, e8, ⟨g0, g1⟩, ⟨⟨m0, m0z⟩, m1, m1z⟩, e9, q0, q1, HF⟩ := split_end HD.out HlS.out HB.out HE
      obtain ⟨z0, z0z⟩ := bx_cell (j := 0) B2.b0 rfl
      clear HE B2
      go_wp2
      refine bodyPost_ret (v := .tuple #[.agg #[.slice Y l cy, .int .i64 (p : Nat)], .slice X m cx]) (by simp [results, Try.results41, go_sem, q0, q1]) rfl ?_
      exact ⟨_, _, rfl, HF.out⟩
end
end Go.Proofs.Ythblldojbgeknaa
