/-
  The document's answers: over, Advance.
-/
import Derived.Test.YtcofehmgnpmecaaARefA
import Derived.Deep.AppendLies
import Derived.BigRegion
namespace Go.Proofs.Ytcofehmgnpmecaa
open Go.ChangeShapes Go.WideShapes Go.ChangeAt Go.RowKit Ap

theorem info_entry : (Try.prog.info? 67).map (fun i => (i.zero, i.size, i.bytes)) = some (some (.agg #[.int .i64 0, .int .u64 0, .bool false, .int .i64 0]), 4, 32) := by kernel_rfl
/-- append of one onto a row of the call's own, at a plain operation. -/
theorem wpList_add_en (w : World) {ops : Array Oper} {rest : List Oper} {o : Oper} {a : Act} {Q : Exit → Act → World → Prop} (hgd : o.guard = none) (s x : Operand)
    (ho : o.op = .call { callee := .builtin .append, args := #[s, x], argTypes := #[31, 31] })
    (base : Nat) (v : Value) (n : Nat) (L : List En) (hs : a.eval s = v) (hown : w.ownsRow base 67 4 v n (rcells L))
    (g1 : Nat) (hx : a.eval x = .slice (some ⟨g1, 0, none⟩) 1 1) (e : En) (T : TypeId) (hc : w.heap[g1]? = some (.cells (ecells e).toArray T (0, 0))) (hm : n ≤ 1000000) (hbase : base ≤ w.heap.size)
    (h : ∀ A cap w', w'.ownsRow base 67 4 (.slice A (n + 1) cap) (n + 1) (rcells (L ++ [e])) → w.grownBy w' v.ownBlock → wpList Try.prog ops Q rest (a.put o.dst (.slice A (n + 1) cap)) w') : wpList Try.prog ops Q (o :: rest) a w := by
  obtain ⟨i0, hi, hz0, hz1, hz2⟩ := info_parts info_entry
  refine wpList_append_to w hgd s x _ ho base 67 i0 _ 4 32 Try.underlying31 hi hz0 hz1 hz2 rfl (by decide) v n _ hs hown (some ⟨g1, 0, none⟩) 1 1 (rcells [e]) hx (fun h => by cases h) (by rw [rcells_len]; rfl) (fun ad had j u hu => ?_) (rcells_one _) (by unfold maxLen; omega) (by omega) hbase (n + 1) rfl ?_
  · cases had
    rw [Addr.add_mid, Nat.zero_add]
    rw [rcells_sole] at hu
    simp only [World.cell?, hc]
    simpa using hu
  · intro A cap w' h1 h2
    refine h A cap w' ?_ h2
    rw [rcells_two]
    exact h1

theorem row_lower {w : World} {base base' n size : Nat} {e : TypeId} {v : Value} {xs : List Value} (h : w.ownsRow base e size v n xs) (hb : base' ≤ base) : w.ownsRow base' e size v n xs := by
  refine ⟨h.1, ?_⟩
  rcases h.2 with h2 | ⟨g, cap, cur, h1, h2, h3⟩
  · exact Or.inl h2
  · exact Or.inr ⟨g, cap, cur, h1, Nat.le_trans hb h2, h3⟩
/-- A book is handed back, and a number: its list lies in the call's own memory. -/
def RBk (now : Int) (L : List En) (E : Int) (w : World) (e : Ending) (w' : World) : Prop :=
  ∃ A n c, e = .returned (.tuple #[.agg #[.int .i64 now, .slice A n c], .int .i64 E]) ∧ w'.ownsRow w.heap.size 67 4 (.slice A n c) n (rcells L) ∧ L.length = n ∧ Below w.heap.size w w'
/-- Two boxes of books, new. -/
structure Bxs (w : World) (now : Int) (A : Option Addr) (n c : Nat) (X Y : Value) (w' : World) : Prop where
  b0 : w'.heap[w.heap.size]? = some (rBox now A n c)
  b1 : w'.heap[w.heap.size + 1]? = some (.cells #[X, Y] 33 (0, 0))
  below : Below w.heap.size w w'
  size : w.heap.size + 2 ≤ w'.heap.size
section
variable {S : Nat → Prop} {w w' w2 : World} {A : Option Addr} {n c : Nat} {L : List En} {now : Int} {X Y : Value}
theorem Bxs.made (w : World) (now : Int) (A : Option Addr) (n c : Nat) (X Y : Value) : Bxs w now A n c X Y ((w.alloc (rBox now A n c)).alloc (.cells #[X, Y] 33 (0, 0))) := by
  have h1 := heap_alloc_new (w.alloc (rBox now A n c)) (.cells #[X, Y] 33 (0, 0))
  have e : (w.alloc (rBox now A n c)).heap.size = w.heap.size + 1 := by simp
  rw [e] at h1
  refine ⟨?_, h1, ((Below.refl _ _).alloc (Nat.le_refl _) _).alloc (by simp) _, by simp⟩
  rw [Below.heap_alloc _ _ _ (by simp)]
  exact heap_alloc_new w _
theorem Bxs.later (B : Bxs w now A n c X Y w') (hb : Below (w.heap.size + 2) w' w2) : Bxs w now A n c X Y w2 :=
  ⟨(hb.block _ (by omega)).trans B.b0, (hb.block _ (by omega)).trans B.b1, B.below.trans (hb.mono (by omega)), Nat.le_trans B.size hb.size⟩
theorem Bxs.cells (B : Bxs w now A n c X Y w') : w'.cell? ⟨w.heap.size, 0, none⟩ = some (.int .i64 now) ∧ w'.cell? ⟨w.heap.size, 1, none⟩ = some (.slice A n c) ∧ w'.frozen? ⟨w.heap.size, 1, none⟩ = false :=
  ⟨(bx_cell (j := 0) B.b0 rfl).1, bx_cell (j := 1) B.b0 rfl⟩
theorem Bxs.outs (B : Bxs w now A n c X Y w') : (w'.cell? ⟨w.heap.size + 1, 0, none⟩ = some X ∧ w'.frozen? ⟨w.heap.size + 1, 0, none⟩ = false) ∧ w'.cell? ⟨w.heap.size + 1, 1, none⟩ = some Y ∧ w'.frozen? ⟨w.heap.size + 1, 1, none⟩ = false :=
  ⟨bx_cell (j := 0) B.b1 rfl, bx_cell (j := 1) B.b1 rfl⟩
theorem Bxs.list (B : Bxs w now A n c X Y w') (D : Dc S w A n c L) (hS : ∀ k, S k → k < w.heap.size) : Dc S w' A n c L := D.kept (fun k hk => B.below.block k (hS k hk)) fun _ h => h
/-- What the result's box holds, stored. -/
theorem Bxs.put {z : Value} {j : Nat} (B : Bxs w now A n c X Y w') : (w'.setCell ⟨w.heap.size, j, none⟩ z).heap[w.heap.size + 1]? = some (.cells #[X, Y] 33 (0, 0)) :=
  (Below.heap_setCell _ _ _ _ (by show w.heap.size + 1 ≠ w.heap.size; omega)).trans B.b1
theorem outs_seen {g : Nat} {x y : Value} (hb : w'.heap[g]? = some (.cells #[X, Y] 33 (0, 0))) : (((w'.setCell ⟨g, 0, none⟩ x).setCell ⟨g, 1, none⟩ y).cell? ⟨g, 0, none⟩ = some x ∧ ((w'.setCell ⟨g, 0, none⟩ x).setCell ⟨g, 1, none⟩ y).cell? ⟨g, 1, none⟩ = some y) := by
  have hh := heap_setCell_same _ g 1 _ _ y (heap_setCell_same w' g 0 _ _ x hb)
  exact ⟨(bx_cell hh rfl).1, (bx_cell hh rfl).1⟩
/-- The result's box, stored. -/
theorem Bxs.back {A' : Option Addr} {n' c' : Nat} {now' : Int} {M : List En} {E : Int} (B : Bxs w now A n c X Y w') (hl : M.length = n') (hr : w'.ownsRow (w.heap.size + 2) 67 4 (.slice A' n' c') n' (rcells M)) :
    RBk now' M E w (.returned (.tuple #[.agg #[.int .i64 now', .slice A' n' c'], .int .i64 E])) ((w'.setCell ⟨w.heap.size + 1, 0, none⟩ (.int .i64 now')).setCell ⟨w.heap.size + 1, 1, none⟩ (.slice A' n' c')) ∧
    RBk now' M E w (.returned (.tuple #[.agg #[.int .i64 now', .slice A' n' c'], .int .i64 E])) (((w'.setCell ⟨w.heap.size, 1, none⟩ (.slice A' n' c')).setCell ⟨w.heap.size + 1, 0, none⟩ (.int .i64 now')).setCell ⟨w.heap.size + 1, 1, none⟩ (.slice A' n' c')) := by
  have hne : ∀ k, (Value.slice A' n' c').ownBlock = some k → w.heap.size + 2 ≤ k := fun k hk => (hr.lt k hk).1
  refine ⟨⟨A', n', c', rfl, ?_, hl, ?_⟩, ⟨A', n', c', rfl, ?_, hl, ?_⟩⟩
  · refine row_kept (row_lower hr (by omega)) fun k hk => ?_
    have := hne k hk
    rw [Below.heap_setCell _ _ _ _ (show k ≠ w.heap.size + 1 by omega), Below.heap_setCell _ _ _ _ (show k ≠ w.heap.size + 1 by omega)]
  · exact (B.below.setCell (Nat.le_succ _) _).setCell (Nat.le_succ _) _
  · refine row_kept (row_lower hr (by omega)) fun k hk => ?_
    have := hne k hk
    rw [Below.heap_setCell _ _ _ _ (show k ≠ w.heap.size + 1 by omega), Below.heap_setCell _ _ _ _ (show k ≠ w.heap.size + 1 by omega), Below.heap_setCell _ _ _ _ (show k ≠ w.heap.size by omega)]
  · exact ((B.below.setCell (Nat.le_refl _) _).setCell (Nat.le_succ _) _).setCell (Nat.le_succ _) _

set_option maxHeartbeats 2000000 in
theorem rover_any (D : Dc S w A n c L) (hS : ∀ k, S k → k < w.heap.size) (hn : n ≤ 900000) :
    Calls Try.prog 25 #[.agg #[.int .i64 now, .slice A n c]] w (RBk now (over L now) ((L.length : Int) - (over L now).length) w) := by
  obtain ⟨W, hW⟩ : ∃ W, (w.alloc (rBox now A n c)).alloc (.cells #[.int .i64 0, .slice none 0 0] 33 (0, 0)) = W := ⟨_, rfl⟩
  have HBx : Hid (Bxs w now A n c (.int .i64 0) (.slice none 0 0) W) := Lib.hid (by rw [← hW]; exact Bxs.made w now A n c _ _)
  have HD := Lib.hid D
  have HS := Lib.hid hS
  have HW := Lib.hid hW
  have Hlen := Lib.hid D.len
  have HSt : Hid (∀ k, k < n → over (L.take (k + 1)) now = over (L.take k) now ++ (if stays now (eat L k) = true then [eat L k] else [])) := Lib.hid fun k hk => over_step now (by rw [D.len]; exact hk)
  have HAll : Hid (over (L.take n) now = over L now) := Lib.hid (by rw [← D.len, List.take_length])
  have HLe : Hid (∀ k, k ≤ n → (over (L.take k) now).length ≤ k) := Lib.hid fun k hk => Nat.le_trans (over_len _ _) (by rw [List.length_take]; exact Nat.min_le_left _ _)
  have hn1 : (n : Int) ≤ 900000 := by omega
  clear D hS hW
  unfold rBox at HW
  go_enter Try.func25, Try.ntmps25
  go_wp2_with fail
  rw [HW.out]
  go_loopw [4, 5] (fun o i wr => ∃ (k m : Nat) (A' : Option Addr) (c' : Nat), k ≤ n ∧ m ≤ k ∧ i = .int .i64 k ∧ o = .slice A' m c' ∧ Hid ((over (L.take k) now).length = m) ∧ Hid (wr.ownsRow (w.heap.size + 2) 67 4 (.slice A' m c') m (rcells (over (L.take k) now))) ∧ Hid (Bxs w now A n c (.int .i64 0) (.slice none 0 0) wr)) (fun _ i _ => n - (intOf i).toNat)
  case atStart => exact ⟨0, 0, none, 0, by omega, by omega, rfl, rfl, Lib.hid rfl, Lib.hid (World.ownsRow_nil _ _ _ _), HBx⟩
  case round =>
    clear HBx
    obtain ⟨k, m, A', c', hk, hmk, rfl, rfl, Hm, Hrow, HB⟩ := hrel
    obtain ⟨b0, b1, f1⟩ := HB.out.cells
    have Hz := Lib.hid HB.out.size
    have lt0 : w.heap.size < wr.heap.size := by have := Hz.out; omega
    by_cases hlt : k < n
    · obtain ⟨g, rfl, hSg, c0, c1, c2, c3⟩ := (HB.out.list HD.out HS.out).cells hlt
      have hgl : g < wr.heap.size := by have := HS.out g hSg; omega
      have hki : (k : Int) < n := by omega
      have hk0 : (0 : Int) ≤ k := by omega
      have HN : Hid (∀ w1, Below wr.heap.size wr w1 → (w1.cell? ⟨w.heap.size, 1, none⟩ = some (.slice (some ⟨g, 0, none⟩) n c) ∧ w1.cell? ⟨g, k * 4, none⟩ = some (.int .i64 (eat L k).who) ∧ w1.cell? ⟨g, k * 4 + 1, none⟩ = some (.int .u64 (eat L k).sh) ∧ w1.cell? ⟨g, k * 4 + 2, none⟩ = some (.bool (eat L k).gone) ∧ w1.cell? ⟨g, k * 4 + 3, none⟩ = some (.int .i64 (eat L k).till)) ∧ Hid (Bxs w now (some ⟨g, 0, none⟩) n c (.int .i64 0) (.slice none 0 0) w1) ∧ Hid (w1.ownsRow (w.heap.size + 2) 67 4 (.slice A' m c') m (rcells (over (L.take k) now)))) := Lib.hid fun w1 hb => by
        have hB1 := HB.out.later (hb.mono Hz.out)
        obtain ⟨g', e1, -, d0, d1, d2, d3⟩ := (hB1.list HD.out HS.out).cells hlt
        cases e1
        exact ⟨⟨hB1.cells.2.1, d0, d1, d2, d3⟩, Lib.hid hB1, Lib.hid (own_call Hrow.out hb)⟩
      have Hno : Hid (stays now (eat L k) = false → over (L.take (k + 1)) now = over (L.take k) now) := Lib.hid fun h => by
        rw [HSt.out k hlt, h]
        simp
      have Hyes : Hid (stays now (eat L k) = true → over (L.take (k + 1)) now = over (L.take k) now ++ [eat L k]) := Lib.hid fun h => by
        rw [HSt.out k hlt, if_pos h]
      obtain ⟨en, he⟩ : ∃ en, eat L k = en := ⟨_, rfl⟩
      rw [he] at c0 c1 c2 c3 HN Hno Hyes
      obtain ⟨ew, es, eg, et⟩ := en
      dsimp only at c0 c1 c2 c3 HN
      unfold stays at Hno Hyes
      clear he
      have hm1 : m ≤ 1000000 := by omega
      cases eg with
      | false =>
        have Hy := Lib.hid (Hyes.out (by simp))
        clear Hno Hyes c0 c1 c3
        go_wp2_with fail
        refine wp_region_later wr.heap.size wr (by kernel_rfl) (by kernel_rfl) (Below.refl _ _) ?_
        repeat (go_big_quiet_step (fail))
        refine wpQuiet_nil ?_
        rintro w1 ⟨n1, rfl⟩
        obtain ⟨⟨b1', d0, d1, d2, d3⟩, HB1, Hr1⟩ := HN.out _ n1.below
        have Hz1 := Lib.hid HB1.out.size
        generalize n1.world = w1 at *
        have hown := Lib.hid ((Hr1.out.alloc (.cells #[.int .i64 ew, .int .u64 es, .bool false, .int .i64 et] 67 (0, 0))))
        have hnew : Hid ((w1.alloc (.cells #[.int .i64 ew, .int .u64 es, .bool false, .int .i64 et] 67 (0, 0))).heap[w1.heap.size]? = some (.cells (ecells ⟨ew, es, false, et⟩).toArray 67 (0, 0))) := Lib.hid (heap_alloc_new _ _)
        have HG : Hid (∀ w2, (w1.alloc (.cells #[.int .i64 ew, .int .u64 es, .bool false, .int .i64 et] 67 (0, 0))).grownBy w2 (Value.slice A' m c').ownBlock → Hid (Bxs w now (some ⟨g, 0, none⟩) n c (.int .i64 0) (.slice none 0 0) w2)) := Lib.hid fun w2 hg => Lib.hid (HB1.out.later (((Below.refl _ w1).alloc Hz1.out _).grown hg (by have := Hz1.out; simp; omega) (own_base Hr1.out)))
        clear b0 b1 f1 c2
        go_wp2_with (at_builtin; refine wpList_add_en _ rfl _ _ rfl (w.heap.size + 2) (.slice A' m c') m (over (L.take k) now) rfl hown.out w1.heap.size rfl ⟨ew, es, false, et⟩ _ hnew.out hm1 (by have := Hz1.out; simp; omega) ?_; intro A2 c2 w2 hr2 hg2; have Hr2 := Lib.hid hr2; have HB2 := HG.out w2 hg2; clear hr2 hg2)
        go_roundw
        case rel => exact ⟨k + 1, m + 1, A2, c2, by omega, by omega, by go_num, rfl, Lib.hid (by rw [Hy.out, List.length_append, Hm.out]; rfl), Lib.hid (by rw [Hy.out]; exact Hr2.out), HB2⟩
        case measure => simp [intOf]; omega
      | true =>
        by_cases hd : now < et
        · have hd2 : ¬ et ≤ now := by omega
          have Hy := Lib.hid (Hyes.out (by simp [hd]))
          clear Hno Hyes c0 c1
          go_wp2_with fail
          refine wp_region_later wr.heap.size wr (by kernel_rfl) (by kernel_rfl) (Below.refl _ _) ?_
          repeat (go_big_quiet_step (fail))
          refine wpQuiet_nil ?_
          rintro w1 ⟨n1, rfl⟩
          obtain ⟨⟨b1', d0, d1, d2, d3⟩, HB1, Hr1⟩ := HN.out _ n1.below
          have Hz1 := Lib.hid HB1.out.size
          generalize n1.world = w1 at *
          have hown := Lib.hid ((Hr1.out.alloc (.cells #[.int .i64 ew, .int .u64 es, .bool true, .int .i64 et] 67 (0, 0))))
          have hnew : Hid ((w1.alloc (.cells #[.int .i64 ew, .int .u64 es, .bool true, .int .i64 et] 67 (0, 0))).heap[w1.heap.size]? = some (.cells (ecells ⟨ew, es, true, et⟩).toArray 67 (0, 0))) := Lib.hid (heap_alloc_new _ _)
          have HG : Hid (∀ w2, (w1.alloc (.cells #[.int .i64 ew, .int .u64 es, .bool true, .int .i64 et] 67 (0, 0))).grownBy w2 (Value.slice A' m c').ownBlock → Hid (Bxs w now (some ⟨g, 0, none⟩) n c (.int .i64 0) (.slice none 0 0) w2)) := Lib.hid fun w2 hg => Lib.hid (HB1.out.later (((Below.refl _ w1).alloc Hz1.out _).grown hg (by have := Hz1.out; simp; omega) (own_base Hr1.out)))
          clear b0 b1 f1 c2
          go_wp2_with (at_builtin; refine wpList_add_en _ rfl _ _ rfl (w.heap.size + 2) (.slice A' m c') m (over (L.take k) now) rfl hown.out w1.heap.size rfl ⟨ew, es, true, et⟩ _ hnew.out hm1 (by have := Hz1.out; simp; omega) ?_; intro A2 c2 w2 hr2 hg2; have Hr2 := Lib.hid hr2; have HB2 := HG.out w2 hg2; clear hr2 hg2)
          go_roundw
          case rel => exact ⟨k + 1, m + 1, A2, c2, by omega, by omega, by go_num, rfl, Lib.hid (by rw [Hy.out, List.length_append, Hm.out]; rfl), Lib.hid (by rw [Hy.out]; exact Hr2.out), HB2⟩
          case measure => simp [intOf]; omega
        · have hd2 : et ≤ now := by omega
          have Hx := Lib.hid (Hno.out (by simp [hd]))
          clear Hno Hyes c0 c1
          go_wp2_with fail
          refine wp_region_later wr.heap.size wr (by kernel_rfl) (by kernel_rfl) (Below.refl _ _) ?_
          repeat (go_big_quiet_step (fail))
          refine wpQuiet_nil ?_
          rintro w1 ⟨n1, rfl⟩
          obtain ⟨-, HB1, Hr1⟩ := HN.out _ n1.below
          generalize n1.world = w1 at *
          clear b0 b1 f1 c2
          go_wp2
          go_roundw
          case rel => exact ⟨k + 1, m, A', c', by omega, by omega, by go_num, rfl, Lib.hid (by rw [Hx.out]; exact Hm.out), Lib.hid (by rw [Hx.out]; exact Hr1.out), HB1⟩
          case measure => simp [intOf]; omega
    · obtain rfl : k = n := by omega
      obtain ⟨⟨o0, p0⟩, o1, p1⟩ := HB.out.outs
      have hm0 : (m : Int) ≤ k := by omega
      have hm00 : (0 : Int) ≤ m := by omega
      have lt1 : w.heap.size + 1 < wr.heap.size := by have := Hz.out; omega
      have HE : Hid (RBk now (over L now) ((k : Int) - m) w (.returned (.tuple #[.agg #[.int .i64 now, .slice A' m c'], .int .i64 ((k : Int) - m)])) (((wr.setCell ⟨w.heap.size, 1, none⟩ (.slice A' m c')).setCell ⟨w.heap.size + 1, 0, none⟩ (.int .i64 now)).setCell ⟨w.heap.size + 1, 1, none⟩ (.slice A' m c'))) := Lib.hid (by
        have h1 := Hrow.out
        rw [HAll.out] at h1
        have h2 := Hm.out
        rw [HAll.out] at h2
        exact (HB.out.back h2 h1).2)
      have HLn : Hid ((L.length : Int) - (over L now).length = (k : Int) - m) := Lib.hid (by
        have h2 := Hm.out
        rw [HAll.out] at h2
        rw [h2, Hlen.out])
      obtain ⟨w9, hw9⟩ : ∃ w9, ((wr.setCell ⟨w.heap.size, 1, none⟩ (.slice A' m c')).setCell ⟨w.heap.size + 1, 0, none⟩ (.int .i64 now)).setCell ⟨w.heap.size + 1, 1, none⟩ (.slice A' m c') = w9 := ⟨_, rfl⟩
      obtain ⟨s0, s1⟩ := outs_seen (x := .int .i64 now) (y := .slice A' m c') (HB.out.put (z := .slice A' m c') (j := 1))
      rw [hw9] at s0 s1 HE
      have HW9 := Lib.hid hw9
      clear HSt HLe hw9
      go_wp2
      rw [show ((wr.setCell ⟨w.heap.size, 1, none⟩ (.slice A' m c')).setCell ⟨w.heap.size + 1, 0, none⟩ (.int .i64 now)).setCell ⟨w.heap.size + 1, 1, none⟩ (.slice A' m c') = w9 from HW9.out]
      refine bodyPost_ret (v := .tuple #[.agg #[.int .i64 now, .slice A' m c'], .int .i64 ((k : Int) - m)]) (by simp [results, Try.results25, go_sem, s0, s1]) rfl ?_
      rw [HLn.out]
      exact HE.out
end
end Go.Proofs.Ytcofehmgnpmecaa
