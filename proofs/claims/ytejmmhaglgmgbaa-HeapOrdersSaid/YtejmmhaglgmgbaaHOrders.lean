/-
  The law HeapOrders, walked: what is popped comes in order, of alike ones the first one first, and no heap has anything.
-/
import Derived.Test.YtejmmhaglgmgbaaHAwake
import Derived.Test.YtejmmhaglgmgbaaInts
namespace Go.Proofs.Ytejmmhaglgmgbaa
open Go.ChangeShapes Go.WideShapes Go.ChangeAt Go.RowKit Hp

/-- A thing that was put as one of the first k of the list. -/
def From (l : List Int) (k : Nat) (y : Th) : Prop := ∃ j : Nat, j < k ∧ y.key = l.getD j 0 ∧ y.what = j ∧ y.turn = (j : Int) + 1
/-- The first k, put. -/
def Filled7 (l : List Int) (k : Nat) (L : List Th) : Prop := L.length = k ∧ (∀ y, y ∈ L → From l k y) ∧ L.Pairwise fun x y => x.what ≠ y.what
theorem filled_none (l : List Int) : Filled7 l 0 [] := ⟨rfl, fun y hy => by simp at hy, List.Pairwise.nil⟩
theorem filled_more {l : List Int} {k : Nat} {L : List Th} (h : Filled7 l k L) (b : Nat) (q : Int) : Filled7 l (k + 1) (⟨b, l.getD k 0, (k : Nat), q, (k : Int) + 1⟩ :: L) := by
  refine ⟨by simp [h.1], fun y hy => ?_, List.pairwise_cons.2 ⟨fun y hy => ?_, h.2.2⟩⟩
  · rcases List.mem_cons.1 hy with rfl | hy
    · exact ⟨k, by omega, rfl, rfl, rfl⟩
    · obtain ⟨j, hj, h1⟩ := h.2.1 y hy
      exact ⟨j, by omega, h1⟩
  · obtain ⟨j, hj, _, h1, _⟩ := h.2.1 y hy
    simp only
    omega
/-- What is left behind k pops, the last one (lk, lw). -/
def Left7 (l : List Int) (n k : Nat) (lk lw : Int) (L : List Th) : Prop := L.length + k = n ∧ (∀ y, y ∈ L → From l n y) ∧ (L.Pairwise fun x y => x.what ≠ y.what) ∧ (0 < k → ∀ y, y ∈ L → lk < y.key ∨ lk = y.key ∧ lw < y.what)
theorem left_all {l : List Int} {n : Nat} {L : List Th} (h : Filled7 l n L) (a b : Int) : Left7 l n 0 a b L := ⟨h.1, h.2.1, h.2.2, fun h0 => by omega⟩
theorem left_less {l : List Int} {n k : Nat} {lk lw : Int} {L R : List Th} {x : Th} (h : Left7 l n k lk lw L) (hL : L.Perm (x :: R)) (hx : ∀ y, y ∈ R → lead y x = false) :
    Left7 l n (k + 1) x.key x.what R ∧ From l n x ∧ (0 < k → lk < x.key ∨ lk = x.key ∧ lw < x.what) := by
  have hone := (hL.pairwise_iff (fun {a b : Th} (h1 : a.what ≠ b.what) => h1.symm)).1 h.2.2.1
  have hfx := h.2.1 x (hL.mem_iff.2 List.mem_cons_self)
  have hlen := hL.length_eq
  simp only [List.length_cons] at hlen
  refine ⟨⟨by have := h.1; omega, fun y hy => h.2.1 y (hL.mem_iff.2 (List.mem_cons_of_mem _ hy)), (List.pairwise_cons.1 hone).2, fun _ y hy => ?_⟩, hfx, fun h0 => h.2.2.2 h0 x (hL.mem_iff.2 List.mem_cons_self)⟩
  have h1 := hx y hy
  have h2 := (List.pairwise_cons.1 hone).1 y hy
  obtain ⟨i, _, _, e1, e2⟩ := hfx
  obtain ⟨j, _, _, e3, e4⟩ := h.2.1 y (hL.mem_iff.2 (List.mem_cons_of_mem _ hy))
  simp only [lead, decide_eq_false_iff_not] at h1
  omega

def oneF (q : Nat) : Nat → Prop := fun i => i = q

/-- What holds behind a round's last store. -/
theorem orders_end {w7 w8 W : World} {B h m n q : Nat} {R : List Th} {F : Nat → Prop} {x0 x1 a b : Value} {T : TypeId} (A : AtHeap w7 B h m R n n F) (hF : F q) (hb : Below w7.heap.size w7 w8) (hq : w7.heap[q]? = some (.cells #[x0, x1] T (0, 0))) (hqB : B ≤ q) (hL : Below B W w7) (hS : B ≤ w7.heap.size) :
    AtHeap ((w8.setCell ⟨q, 0, none⟩ a).setCell ⟨q, 1, none⟩ b) B h m R n n (oneF q) ∧ ((w8.setCell ⟨q, 0, none⟩ a).setCell ⟨q, 1, none⟩ b).heap[q]? = some (.cells #[a, b] T (0, 0)) ∧ Below B W ((w8.setCell ⟨q, 0, none⟩ a).setCell ⟨q, 1, none⟩ b) ∧ B ≤ ((w8.setCell ⟨q, 0, none⟩ a).setCell ⟨q, 1, none⟩ b).heap.size := by
  have h1 := A.below hb
  have hq8 : w8.heap[q]? = some (.cells #[x0, x1] T (0, 0)) := (hb.block q (lt_of_block hq)).trans hq
  have h2 := heap_setCell_same _ q 1 _ _ b (heap_setCell_same w8 q 0 _ _ a hq8)
  have h3 := (((hL.trans (hb.mono hS)).setCell (p := ⟨q, 0, none⟩) hqB a).setCell (p := ⟨q, 1, none⟩) hqB b)
  refine ⟨((h1.put a hF).put b hF).more (fun i hi => Or.inl (by rw [show i = q from hi]; exact hF)), h2, h3, ?_⟩
  have := hb.size
  simp [World.setCell]
  omega

/-- The empty heap, behind all. -/
structure Tail7 (B h m n : Nat) (W w : World) : Prop where
  at_ : AtHeap w B h m [] n n noF
  below : Below B W w
  size : B ≤ w.heap.size
theorem Tail7.call {B h m n : Nat} {W w w' : World} (T : Tail7 B h m n W w) (hb : Below w.heap.size w w') : Tail7 B h m n W w' := ⟨T.at_.below hb, T.below.trans (hb.mono T.size), Nat.le_trans T.size hb.size⟩
theorem Tail7.new {B h m n : Nat} {W w : World} (T : Tail7 B h m n W w) (o : Obj) : Tail7 B h m n W (w.alloc o) := T.call ((Below.refl _ _).alloc (Nat.le_refl _) o)
theorem zero_at (w : World) : (w.alloc (hObj (.slice none 0 0) (.map none) (.int .i64 0) (.int .i64 0))).cell? ⟨w.heap.size, 1, none⟩ = some (.map none) := h_cell (j := 1) (heap_alloc_new w _) rfl
theorem get_at (w : World) (o : Obj) : Calls Try.prog 9 #[.pointer (some ⟨w.heap.size + 1, 0, none⟩), .int .i64 1] ((w.alloc o).alloc (hObj (.slice none 0 0) (.map none) (.int .i64 0) (.int .i64 0))) (Told 0 0 (.bool false) ((w.alloc o).alloc (hObj (.slice none 0 0) (.map none) (.int .i64 0) (.int .i64 0)))) := by
  have h1 := zero_at (w.alloc o)
  rw [show (w.alloc o).heap.size = w.heap.size + 1 by simp] at h1
  exact get_zero _ _ (by simp) h1
theorem put_at (w : World) : Calls Try.prog 6 #[.pointer (some ⟨w.heap.size, 0, none⟩), .agg #[.int .i64 0, .int .i64 0]] (w.alloc (hObj (.slice none 0 0) (.map none) (.int .i64 0) (.int .i64 0))) fun e w' => e = .returned (.int .i64 0) ∧ Below (w.alloc (hObj (.slice none 0 0) (.map none) (.int .i64 0) (.int .i64 0))).heap.size (w.alloc (hObj (.slice none 0 0) (.map none) (.int .i64 0) (.int .i64 0))) w' :=
  push_zero _ _ _ _ (by simp) (zero_at w)

set_option maxRecDepth 100000 in
set_option maxHeartbeats 4000000 in
theorem horders_any (A : Option Addr) (n c : Nat) (l : List Int) (W : World) (hl : l.length = n) (hL : NumsI W.heap.size W A l) :
    Calls Try.prog 3 #[.slice A n c] W fun e w' => e = .returned (.bool true) ∧ Below W.heap.size W w' := by
  have HL := Lib.hid hL
  have Hl := Lib.hid hl
  obtain ⟨B, hB⟩ : ∃ B, W.heap.size = B := ⟨_, rfl⟩
  have HBq := Lib.hid hB
  have HW := Lib.hid (awake_any W)
  clear hL hl
  rw [hB] at HL HW ⊢
  clear hB
  by_cases hn : 100 < n
  · have hni : (100 : Int) < n := by omega
    go_enter Try.func3, Try.ntmps3
    go_wp2_with (first
      | (go_at_call 4; (with_reducible refine HW.out.mono ?_); rintro e w1 ⟨rfl, l1⟩; have L1 := Lib.hid l1; have HW1 := Lib.hid (awake_any w1); clear l1)
      | (go_at_call 4; (with_reducible refine HW1.out.mono ?_); rintro e w2 ⟨rfl, l2⟩; have L2 := Lib.hid (below_call (Nat.le_of_eq HBq.out.symm) L1.out l2); clear l2))
    go_ret
    exact ⟨rfl, L2.out⟩
  · have hni : ¬ (100 : Int) < n := by omega
    have hn1 : n ≤ 100 := by omega
    have hn2 : (n : Int) ≤ 100 := by omega
    go_enter Try.func3, Try.ntmps3
    go_wp2_with (first
      | (go_at_call 4; (with_reducible refine HW.out.mono ?_); rintro e w1 ⟨rfl, l1⟩; have L1 := Lib.hid l1; have S1 := Lib.hid (Nat.le_trans (Nat.le_of_eq HBq.out.symm) l1.size); clear l1)
      | (go_at_call 5; refine (new_at w1 B S1.out).mono ?_; rintro e w2 ⟨h, m, rfl, a2, l2, s2⟩; have A2 := Lib.hid (a2.more (G := noF) (fun _ hi => hi.elim)); have L2 := Lib.hid (below_call (Nat.le_of_eq HBq.out.symm) L1.out l2); have S2 := Lib.hid (Nat.le_trans S1.out l2.size); clear a2 l2 s2))
    go_loopw [4] (fun i wr => ∃ (k : Nat) (L : List Th), k ≤ n ∧ i = .int .i64 k ∧ Hid (AtHeap wr B h m L k k noF) ∧ Hid (Filled7 l k L) ∧ Hid (Below B W wr) ∧ Hid (B ≤ wr.heap.size)) (fun i _ => n - (intOf i).toNat)
    case atStart => exact ⟨0, [], Nat.zero_le _, rfl, A2.out, filled_none l, L2.out, S2.out⟩
    case round =>
      obtain ⟨k, L, hk, rfl, AH, FL, LW, SW⟩ := hrel
      by_cases hlt : k < n
      · obtain ⟨ab, ao, rfl, hab, hcell⟩ := HL.out (by rw [Hl.out]; omega)
        have hk0 : (0 : Int) ≤ k := by omega
        have hk1 : (k : Int) < n := by omega
        have hc1 : wr.cell? ⟨ab, ao + k, none⟩ = some (.int .i64 (l.getD k 0)) := ((old_cells LW.out).1 ab _ hab).trans (hcell k (by rw [Hl.out]; exact hlt))
        have Hpush := Lib.hid (push_at (l.getD k 0) (k : Nat) AH.out (by omega) (by omega) (by rw [FL.out.1]; omega) SW.out no_lt)
        have HF := Lib.hid fun (b : Nat) => filled_more FL.out b ((k : Int) + 1)
        obtain ⟨a, ha⟩ : ∃ a, l.getD k 0 = a := ⟨_, rfl⟩
        rw [ha] at hc1 Hpush HF
        clear ha hcell
        go_wp2_with (go_at_call 6; refine Hpush.out.mono ?_; rintro e w3 ⟨rfl, ⟨b, a3⟩, l3, -⟩; have A3 := Lib.hid a3; have L3 := Lib.hid (LW.out.trans l3); have S3 := Lib.hid (Nat.le_trans SW.out l3.size); have F3 := Lib.hid (HF.out b); clear a3 l3)
        go_roundw
        case rel => exact ⟨k + 1, _, by omega, by go_num, A3.out, F3.out, L3.out, S3.out⟩
        case measure => simp [intOf]; omega
      · obtain rfl : n = k := by omega
        obtain ⟨w5, rfl⟩ : ∃ w5, w5 = wr := ⟨_, rfl⟩
        have A5 := Lib.hid ((at_box AH.out (.cells #[.int .i64 0, .int .i64 0] 28 (0, 0))).more (G := oneF w5.heap.size) (fun i hi => Or.inl (Or.inr hi)))
        have L5 := Lib.hid (LW.out.alloc SW.out (.cells #[.int .i64 0, .int .i64 0] 28 (0, 0)))
        have S5 := Lib.hid (show B ≤ (w5.alloc (.cells #[.int .i64 0, .int .i64 0] 28 (0, 0))).heap.size by simp; have := SW.out; omega)
        have B5 := Lib.hid (heap_alloc_new w5 (.cells #[.int .i64 0, .int .i64 0] 28 (0, 0)))
        have F5 := Lib.hid (left_all FL.out 0 0)
        obtain ⟨q, hq⟩ : ∃ q, w5.heap.size = q := ⟨_, rfl⟩
        have hBq : B ≤ q := by rw [← hq]; exact SW.out
        have HQ := Lib.hid hq
        rw [hq] at A5 B5
        clear AH FL LW SW hk hlt
        go_wp2_with fail
        clear hq
        go_loopw [6] (fun i wr => ∃ (k : Nat) (L : List Th) (lk lw : Int), k ≤ n ∧ i = .int .i64 k ∧ Hid (AtHeap wr B h m L n n (oneF q)) ∧ Hid (Left7 l n k lk lw L) ∧ Hid (wr.heap[q]? = some (.cells #[.int .i64 lk, .int .i64 lw] 28 (0, 0))) ∧ Hid (Below B W wr) ∧ Hid (B ≤ wr.heap.size)) (fun i _ => n - (intOf i).toNat)
        case atStart => exact ⟨0, _, 0, 0, Nat.zero_le _, rfl, A5.out, F5.out, B5.out, L5.out, S5.out⟩
        case round =>
          clear A5 F5 B5 L5 S5
          obtain ⟨k, L, lk, lw, hk, rfl, AH, FL, BQ, LW, SW⟩ := hrel
          by_cases hlt : k < n
          · have hk0 : (0 : Int) ≤ k := by omega
            have hk1 : (k : Int) < n := by omega
            have hqlt := lt_of_block BQ.out
            have Hpop := Lib.hid (pop_at AH.out (by omega) (by have := FL.out.1; omega) (by have := FL.out.1; omega) SW.out (fun i hi => by rw [show i = q from hi]; exact hqlt))
            go_wp2_with (go_at_call 7; refine Hpop.out.mono ?_; rintro e w6 ⟨⟨xb, xk, xw, xh, xt⟩, R, rfl, hLR, hxR, a6, l6, f6⟩; have A6 := Lib.hid (at_box a6 (.cells #[.int .i64 xk, .int .i64 xw] 28 (0, 0))); have L6 := Lib.hid ((LW.out.trans l6).alloc (Nat.le_trans SW.out l6.size) (.cells #[.int .i64 xk, .int .i64 xw] 28 (0, 0))); have S6 := Lib.hid (Nat.le_trans SW.out l6.size); have B6 := Lib.hid ((f6 q rfl).trans BQ.out); have X6 := Lib.hid (left_less FL.out hLR hxR); clear hLR hxR a6 l6 f6)
            obtain ⟨F7, ⟨j, hj, hkey, hwhat, -⟩, hcmp⟩ := X6.out
            dsimp only at F7 hkey hwhat hcmp
            subst hwhat
            obtain ⟨ab, ao, hA, hab, hcell⟩ := HL.out (by rw [Hl.out]; omega)
            subst hA
            have hq6 := lt_of_block B6.out
            obtain ⟨w7, hw7⟩ : ∃ w7, w6.alloc (.cells #[.int .i64 xk, .int .i64 (j : Nat)] 28 (0, 0)) = w7 := ⟨_, rfl⟩
            have hs7 : w7.heap.size = w6.heap.size + 1 := by rw [← hw7]; simp
            have hb7 : w7.heap[w6.heap.size]? = some (.cells #[.int .i64 xk, .int .i64 (j : Nat)] 28 (0, 0)) := by rw [← hw7]; exact heap_alloc_new _ _
            have hq7 : w7.heap[q]? = some (.cells #[.int .i64 lk, .int .i64 lw] 28 (0, 0)) := by rw [← hw7, Below.heap_alloc _ _ _ hq6]; exact B6.out
            rw [hw7] at A6 L6
            rw [hw7]
            obtain ⟨p, hp⟩ : ∃ p, w6.heap.size = p := ⟨_, rfl⟩
            rw [hp] at hs7 hb7 hq6 ⊢
            have c1 : w7.cell? ⟨ab, ao + j, none⟩ = some (.int .i64 xk) := by
              rw [hkey]
              exact ((old_cells L6.out).1 ab _ hab).trans (hcell j (by rw [Hl.out]; exact hj))
            have c2 : w7.cell? ⟨p, 0, none⟩ = some (.int .i64 xk) := by simp [World.cell?, hb7]
            have c3 : w7.cell? ⟨p, 1, none⟩ = some (.int .i64 (j : Nat)) := by simp [World.cell?, hb7]
            have c4 : w7.cell? ⟨q, 0, none⟩ = some (.int .i64 lk) := by simp [World.cell?, hq7]
            have c5 : w7.cell? ⟨q, 1, none⟩ = some (.int .i64 lw) := by simp [World.cell?, hq7]
            have c6 : w7.frozen? ⟨q, 0, none⟩ = false := by simp [World.frozen?, hq7]
            have c7 : w7.frozen? ⟨q, 1, none⟩ = false := by simp [World.frozen?, hq7]
            have hpq : p ≠ q := by omega
            have hqp : q ≠ p := by omega
            have hab7 : ab < w7.heap.size := by have := S6.out; omega
            have hp7 : p < w7.heap.size := by omega
            have hq8 : q < w7.heap.size := by omega
            have hj0 : (0 : Int) ≤ j := by omega
            have hj1 : (j : Int) < n := by omega
            have t1 : decide ((j : Int) < 0) = false := by simp
            have t2 : decide (n ≤ j) = false := by simp; exact hj
            have t3 : (xk != xk) = false := by simp
            have Hq7 := Lib.hid hq7
            have HF7 := Lib.hid F7
            clear F7 X6 hkey hcell hw7 hb7 hq7 hs7 hp Hpop
            have HE := Lib.hid fun (w8 : World) (hb : Below w7.heap.size w7 w8) => orders_end (a := .int .i64 xk) (b := .int .i64 (j : Nat)) A6.out (Or.inl rfl) hb Hq7.out hBq L6.out (Nat.le_trans (Nat.le_trans hBq (Nat.le_of_lt hq8)) (Nat.le_refl _))
            by_cases h0 : k = 0
            · subst h0
              refine wp_region_later w7.heap.size w7 (by kernel_rfl) (by kernel_rfl) (Below.refl _ _) ?_
              repeat (go_big_quiet_step (fail))
              refine wpQuiet_nil ?_
              rintro _ ⟨n1, rfl⟩
              go_wp2
              obtain ⟨E1, E2, E3, E4⟩ := HE.out n1.world n1.below
              exact ⟨⟨1, R, xk, (j : Nat), by omega, rfl, E1, HF7.out, E2, E3, E4⟩, by simp [intOf]; omega⟩
            · have t4 : decide (0 < (k : Int)) = true := by simp; omega
              have t5 : decide (0 < k) = true := by simp; omega
              have Hk := Lib.hid h0
              rcases hcmp (by omega) with hlt2 | ⟨heq, hlt2⟩
              · have t6 : decide (xk < lk) = false := by simp; omega
                have t7 : (xk == lk) = false := by simp; omega
                clear hlt2 hcmp h0
                refine wp_region_later w7.heap.size w7 (by kernel_rfl) (by kernel_rfl) (Below.refl _ _) ?_
                repeat (go_big_quiet_step (fail))
                refine wpQuiet_nil ?_
                rintro _ ⟨n1, rfl⟩
                go_wp2
                obtain ⟨E1, E2, E3, E4⟩ := HE.out n1.world n1.below
                exact ⟨⟨k + 1, R, xk, (j : Nat), by omega, by go_num, E1, HF7.out, E2, E3, E4⟩, by simp [intOf]; omega⟩
              · subst heq
                have t6 : decide (lk < lk) = false := by simp
                have t7 : (lk == lk) = true := by simp
                have t8 : decide ((j : Int) ≤ lw) = false := by simp; omega
                clear hlt2 hcmp h0
                refine wp_region_later w7.heap.size w7 (by kernel_rfl) (by kernel_rfl) (Below.refl _ _) ?_
                repeat (go_big_quiet_step (fail))
                refine wpQuiet_nil ?_
                rintro _ ⟨n1, rfl⟩
                go_wp2
                obtain ⟨E1, E2, E3, E4⟩ := HE.out n1.world n1.below
                exact ⟨⟨k + 1, R, lk, (j : Nat), by omega, by go_num, E1, HF7.out, E2, E3, E4⟩, by simp [intOf]; omega⟩
          · obtain rfl : n = k := by omega
            have hL0 : L = [] := List.eq_nil_of_length_eq_zero (by have := FL.out.1; omega)
            subst hL0
            have HBx := Lib.hid hBq
            have T8 : Hid (Tail7 B h m n W wr) := ⟨AH.out.more (G := noF) (fun _ hi => hi.elim), LW.out, SW.out⟩
            clear AH FL BQ hk hlt LW SW
            obtain ⟨w8, rfl⟩ : ∃ w8, w8 = wr := ⟨_, rfl⟩
            go_wp2_with (first
              | (go_at_call 8; (with_reducible refine (first_none _).mono ?_); rintro e w9 ⟨rfl, b9⟩; have T9 := Lib.hid (T8.out.call b9); clear b9)
              | (go_at_call 7; (with_reducible refine (pop_none _).mono ?_); rintro e w10 ⟨rfl, b10⟩; have T10 := Lib.hid ((T9.out.new _).call b10); clear b10)
              | (go_at_call 9; refine (get_at w10 _).mono ?_; rintro e w11 ⟨rfl, b11⟩; have T11 := Lib.hid (((T10.out.new _).new _).call b11); have HLen := Lib.hid fun o => len_at (T11.out.new o).at_; clear b11)
              | (go_at_call 10; (with_reducible refine (HLen.out _).mono ?_); rintro e w12 ⟨rfl, rfl⟩)
              | (go_at_call 10; (with_reducible refine (len_none _).mono ?_); rintro e w13 ⟨rfl, rfl⟩)
              | (go_at_call 6; (with_reducible refine (push_none _ _ _).mono ?_); rintro e w14 ⟨rfl, b14⟩; have T14 := Lib.hid ((T11.out.new _).call b14); clear b14)
              | (go_at_call 6; refine (put_at w14).mono ?_; rintro e w15 ⟨rfl, b15⟩; have T15 := Lib.hid ((T14.out.new _).call b15); clear b15)
              | (go_at_call 11; refine (drop_none _ _).mono ?_; rintro e w16 ⟨rfl, rfl⟩)
              | (go_at_call 12; refine (change_none _ _ _).mono ?_; rintro e w17 ⟨rfl, rfl⟩)
              | (go_at_call 4; refine (awake_any _).mono ?_; rintro e w18 ⟨rfl, b18⟩; have T18 := Lib.hid (T15.out.call b18); clear b18))
            go_ret
            exact ⟨rfl, T18.out.below⟩
end Go.Proofs.Ytejmmhaglgmgbaa
