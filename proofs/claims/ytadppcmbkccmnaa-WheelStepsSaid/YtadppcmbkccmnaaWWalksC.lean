/-
  The wheel's own block; contract: put.
-/
import Derived.Test.YtadppcmbkccmnaaWMap
import Derived.Test.YtadppcmbkccmnaaWWalksA
import Derived.Deep.AppendLies
namespace Go.Proofs.Ytadppcmbkccmnaa
open Go.ChangeShapes Go.WideShapes Go.ChangeAt Go.RowKit Wh

theorem info_timer : (Try.prog.info? 62).map (fun i => (i.zero, i.size, i.bytes)) = some (some (.pointer none), 1, 8) := by kernel_rfl

def wObj (C : Array Value) : Obj := .cells C 56 (0, 0)
/-- Block h is a wheel's: its slots, its map, its tick, the handle that was told last. -/
def WCells (w : World) (h : Nat) (S : Nat → Value) (mv : Value) (now k : Nat) : Prop :=
  ∃ C, w.heap[h]? = some (wObj C) ∧ (∀ i, i < 256 → C[i]? = some (S i)) ∧ C[256]? = some mv ∧ C[257]? = some (.int .i64 (now : Nat)) ∧ C[258]? = some (.int .i64 (k : Nat))
section
variable {w w' : World} {h now k : Nat} {S : Nat → Value} {mv : Value}
theorem WCells.lt (H : WCells w h S mv now k) : h < w.heap.size := by
  obtain ⟨C, hC, _⟩ := H
  exact lt_of_block hC
theorem WCells.kept (H : WCells w h S mv now k) (hb : w'.heap[h]? = w.heap[h]?) : WCells w' h S mv now k := by
  obtain ⟨C, hC, r⟩ := H
  exact ⟨C, hb.trans hC, r⟩
theorem w_cell {C : Array Value} {j : Nat} {u : Value} (hC : w.heap[h]? = some (wObj C)) (hu : C[j]? = some u) : w.cell? ⟨h, j, none⟩ = some u := by
  simp only [World.cell?, hC, wObj]
  exact hu
theorem WCells.slot (H : WCells w h S mv now k) {i : Nat} (hi : i < 256) : w.cell? ⟨h, i, none⟩ = some (S i) := by
  obtain ⟨C, hC, h1, _⟩ := H
  exact w_cell hC (h1 i hi)
theorem WCells.map (H : WCells w h S mv now k) : w.cell? ⟨h, 256, none⟩ = some mv := by
  obtain ⟨C, hC, _, h1, _⟩ := H
  exact w_cell hC h1
theorem WCells.tick (H : WCells w h S mv now k) : w.cell? ⟨h, 257, none⟩ = some (.int .i64 (now : Nat)) := by
  obtain ⟨C, hC, _, _, h1, _⟩ := H
  exact w_cell hC h1
theorem WCells.last (H : WCells w h S mv now k) : w.cell? ⟨h, 258, none⟩ = some (.int .i64 (k : Nat)) := by
  obtain ⟨C, hC, _, _, _, h1⟩ := H
  exact w_cell hC h1
theorem WCells.free (H : WCells w h S mv now k) (j : Nat) : w.frozen? ⟨h, j, none⟩ = false := by
  obtain ⟨C, hC, _⟩ := H
  simp [World.frozen?, hC, wObj]
theorem set_at {C : Array Value} {i j : Nat} {u v : Value} (h : C[j]? = some u) : (C.setIfInBounds i v)[j]? = some (if j = i then v else u) := by
  have hj := (Array.getElem?_eq_some_iff.1 h).1
  rw [Array.getElem?_setIfInBounds]
  by_cases e : i = j
  · subst e
    rw [if_pos rfl, if_pos rfl, if_pos hj]
  · rw [if_neg e, if_neg (Ne.symm e), h]
theorem WCells.putSlot (H : WCells w h S mv now k) {i : Nat} (hi : i < 256) (v : Value) : WCells (w.setCell ⟨h, i, none⟩ v) h (upd S i v) mv now k := by
  obtain ⟨C, hC, h1, h2, h3, h4⟩ := H
  refine ⟨C.setIfInBounds i v, heap_setCell_same w h i C _ _ hC, fun j hj => ?_, ?_, ?_, ?_⟩
  · rw [set_at (h1 j hj)]
    rfl
  · rw [set_at h2, if_neg (by omega)]
  · rw [set_at h3, if_neg (by omega)]
  · rw [set_at h4, if_neg (by omega)]
theorem WCells.putNow (H : WCells w h S mv now k) (t : Nat) : WCells (w.setCell ⟨h, 257, none⟩ (.int .i64 (t : Nat))) h S mv t k := by
  obtain ⟨C, hC, h1, h2, h3, h4⟩ := H
  refine ⟨C.setIfInBounds 257 (.int .i64 (t : Nat)), heap_setCell_same w h 257 C _ _ hC, fun j hj => ?_, ?_, ?_, ?_⟩
  · rw [set_at (h1 j hj), if_neg (by omega)]
  · rw [set_at h2, if_neg (by omega)]
  · rw [set_at h3, if_pos rfl]
  · rw [set_at h4, if_neg (by omega)]
theorem WCells.putLast (H : WCells w h S mv now k) (t : Nat) : WCells (w.setCell ⟨h, 258, none⟩ (.int .i64 (t : Nat))) h S mv now t := by
  obtain ⟨C, hC, h1, h2, h3, h4⟩ := H
  refine ⟨C.setIfInBounds 258 (.int .i64 (t : Nat)), heap_setCell_same w h 258 C _ _ hC, fun j hj => ?_, ?_, ?_, ?_⟩
  · rw [set_at (h1 j hj), if_neg (by omega)]
  · rw [set_at h2, if_neg (by omega)]
  · rw [set_at h3, if_neg (by omega)]
  · rw [set_at h4, if_pos rfl]
end

/-- A timer more in slot i. -/
def Putted (B h i : Nat) (S : Nat → Value) (X : Nat → List Tm) (x : Tm) (mv : Value) (now k : Nat) (w : World) (e : Ending) (w' : World) : Prop :=
  e = .returned (.tuple #[]) ∧ ∃ v, Slots w' B (upd S i v) (upd X i (X i ++ [x])) ∧ WCells w' h (upd S i v) mv now k ∧ Only (fun j => (S i).ownBlock = some j ∨ j = x.b ∨ j = h) w w' ∧
    (v.ownBlock = (S i).ownBlock ∨ ∀ j, v.ownBlock = some j → w.heap.size ≤ j)

theorem putted_end {w W w2 : World} {B h i n g c p now k : Nat} {S : Nat → Value} {X : Nat → List Tm} {x : Tm} {mv : Value} {o : Obj} (hs : Slots w B S X) (hc : WCells w h S mv now k) (hi : i < 256) (hn : (X i).length = n)
    (hx : w.heap[x.b]? = some (tmObj x p)) (hox : ¬ SOwn S X x.b) (hB : B ≤ x.b) (hxh : x.b ≠ h) (hoh : ¬ SOwn S X h)
    (hg : W.grownBy w2 (S i).ownBlock) (h1 : W.heap = ((w.setCell ⟨x.b, 3, none⟩ (.int .i64 (n : Nat))).alloc o).heap) (h2 : W.os = w.os) (h3 : W.tape = w.tape) (h4 : W.output = w.output)
    (hrow : w2.ownsRow B 62 1 (.slice (some ⟨g, 0, none⟩) (n + 1) c) (n + 1) ((X i).map ptrTo ++ [ptrTo x])) (hat : (S i).ownBlock = some g ∨ g = w.heap.size + 1) :
    Putted B h i S X x mv now k w (.returned (.tuple #[])) (w2.setCell ⟨h, i, none⟩ (.slice (some ⟨g, 0, none⟩) (n + 1) c)) := by
  have hltx := lt_of_block hx
  have hlth := hc.lt
  have hgh : g ≠ h := by
    rintro rfl
    rcases hat with h5 | h5
    · exact hoh (Or.inl ⟨i, h5⟩)
    · omega
  have hgx : g ≠ x.b := by
    rintro rfl
    rcases hat with h5 | h5
    · exact hox (Or.inl ⟨i, h5⟩)
    · omega
  have hW : W.heap.size = w.heap.size + 1 := by
    rw [h1]
    simp [World.setCell]
  have hback : ∀ j, j < w.heap.size → some j ≠ (S i).ownBlock → w2.heap[j]? = (w.setCell ⟨x.b, 3, none⟩ (.int .i64 (n : Nat))).heap[j]? := fun j hj hne => by
    rw [hg.block j (by omega) hne, h1, Below.heap_alloc _ _ _ (by simp [World.setCell]; omega)]
  have hon : Only (fun j => (S i).ownBlock = some j ∨ j = x.b ∨ j = h) w (w2.setCell ⟨h, i, none⟩ (.slice (some ⟨g, 0, none⟩) (n + 1) c)) := by
    refine ⟨hg.os.trans h2, hg.tape.trans h3, hg.output.trans h4, ?_, fun j hj hS => ?_⟩
    · have := hg.size
      simp only [World.setCell, Array.size_modify]
      omega
    · rw [Below.heap_setCell _ _ _ _ (fun e => hS (Or.inr (Or.inr e))), hback j hj (fun e => hS (Or.inl e.symm)), Below.heap_setCell _ _ _ _ (fun e => hS (Or.inr (Or.inl e)))]
  refine ⟨rfl, .slice (some ⟨g, 0, none⟩) (n + 1) c, hs.put (v := .slice (some ⟨g, 0, none⟩) (n + 1) c) hn hox hB ?_ ?_ ?_ ?_ hon hoh, ?_, hon, ?_⟩
  · exact ownsRow_setCell_other hrow (a := ⟨h, i, none⟩) (fun e => hgh (by simpa [Value.ownBlock] using e)) _
  · rcases hat with h5 | h5
    · exact Or.inl h5.symm
    · refine Or.inr fun j hj => ?_
      have e : g = j := by simpa [Value.ownBlock] using hj
      omega
  · intro e
    exact hgx (by simpa [Value.ownBlock] using e)
  · rw [Below.heap_setCell _ _ _ _ hxh, hback _ hltx (fun e => hox (Or.inl ⟨i, e.symm⟩))]
    exact tm_moved hx
  · refine WCells.putSlot (hc.kept ?_) hi _
    rw [hback _ hlth (fun e => hoh (Or.inl ⟨i, e.symm⟩)), Below.heap_setCell _ _ _ _ (Ne.symm hxh)]
  · rcases hat with h5 | h5
    · exact Or.inl h5.symm
    · refine Or.inr fun j hj => ?_
      have e : g = j := by simpa [Value.ownBlock] using hj
      omega

/-- append of one timer to a slot's row. -/
theorem wpList_add_timer (w : World) {ops : Array Oper} {rest : List Oper} {o : Oper} {a : Act} {Q : Exit → Act → World → Prop} (hgd : o.guard = none) (s x : Operand)
    (ho : o.op = .call { callee := .builtin .append, args := #[s, x], argTypes := #[50, 50] })
    (base : Nat) (v : Value) (n : Nat) (xs : List Value) (hs : a.eval s = v) (hown : w.ownsRow base 62 1 v n xs)
    (g1 b : Nat) (hx : a.eval x = .slice (some ⟨g1, 0, none⟩) 1 1) (T : TypeId) (hc : w.heap[g1]? = some (.cells #[.pointer (some ⟨b, 0, none⟩)] T (0, 0))) (hm : n ≤ 1000000) (hbase : base ≤ w.heap.size) (H : Nat) (hH : w.heap.size = H)
    (h : ∀ g cap w', w'.ownsRow base 62 1 (.slice (some ⟨g, 0, none⟩) (n + 1) cap) (n + 1) (xs ++ [.pointer (some ⟨b, 0, none⟩)]) → w.grownBy w' v.ownBlock → (v.ownBlock = some g ∨ g = H) → g < w'.heap.size → wpList Try.prog ops Q rest (a.put o.dst (.slice (some ⟨g, 0, none⟩) (n + 1) cap)) w') : wpList Try.prog ops Q (o :: rest) a w := by
  obtain ⟨i0, hi, hz0, hz1, hz2⟩ := info_parts info_timer
  exact wpList_append_lies w hgd s x _ ho base 62 i0 (.pointer none) 1 8 Try.underlying50 hi hz0 hz1 hz2 rfl (by decide) v n _ hs hown ⟨g1, 0, none⟩ 1 1 [.pointer (some ⟨b, 0, none⟩)] hx rfl (World.news_of_block hc) (fun u hu => by
    rw [List.mem_singleton.1 hu]
    rfl) (by decide) (by unfold maxLen; omega) (by omega) hbase H hH h

set_option maxHeartbeats 1000000 in
theorem put_any {w : World} {B h i p now0 k now : Nat} {S : Nat → Value} {X : Nat → List Tm} {x : Tm} {mv : Value} (hs : Slots w B S X) (hc : WCells w h S mv now0 k) (hi : slot now x.tick = i) (hm : (X i).length ≤ 900000) (hB0 : B ≤ w.heap.size)
    (hx : w.heap[x.b]? = some (tmObj x p)) (hox : ¬ SOwn S X x.b) (hB : B ≤ x.b) (hxh : x.b ≠ h) (hoh : ¬ SOwn S X h) (hn1 : now < 16777216) (ht1 : x.tick < 16777216) :
    Calls Try.prog 24 #[.pointer (some ⟨h, 0, none⟩), .int .i64 (now : Nat), .pointer (some ⟨x.b, 0, none⟩)] w (Putted B h i S X x mv now0 k w) := by
  have hi2 : i < 256 := hi ▸ slot_lt now x.tick
  have HO := Lib.hid (fun w => of_any h now x.tick w hn1 ht1)
  unfold SlotOf at HO
  rw [hi] at HO
  obtain ⟨A, c, hv, hnc, hc63⟩ := hs.shape i
  obtain ⟨n, hn⟩ : ∃ n, (X i).length = n := ⟨_, rfl⟩
  have Hend := Lib.hid fun (W w2 : World) (g c : Nat) (o : Obj) => putted_end (W := W) (g := g) (w2 := w2) (c := c) (o := o) hs hc hi2 hn hx hox hB hxh hoh
  have hrow := hs.row i
  rw [hn] at hrow hm hv hnc
  rw [hv] at hrow Hend
  have hcs : w.cell? ⟨h, i, none⟩ = some (.slice A n c) := by rw [hc.slot hi2, hv]
  have hf := hc.free i
  have hx0 : w.cell? ⟨x.b, 0, none⟩ = some (.int .i64 (x.tick : Nat)) := tm_cell (j := 0) hx rfl
  have hx3 : w.cell? ⟨x.b, 3, none⟩ = some (.int .i64 (p : Nat)) := tm_cell (j := 3) hx rfl
  have hx4 := tm_free (j := 3) hx
  have hlth := hc.lt
  have hltx := lt_of_block hx
  have Hptr : Hid (ptrTo x = .pointer (some ⟨x.b, 0, none⟩)) := (rfl : ptrTo x = .pointer (some ⟨x.b, 0, none⟩))
  have hoxv : (Value.slice A n c).ownBlock ≠ some x.b := fun e => hox (Or.inl ⟨i, by rw [hv]; exact e⟩)
  have hohv : (Value.slice A n c).ownBlock ≠ some h := fun e => hoh (Or.inl ⟨i, by rw [hv]; exact e⟩)
  rw [Hptr.out] at Hend
  generalize (X i).map ptrTo = xs at *
  obtain ⟨b, hb⟩ : ∃ b, x.b = b := ⟨_, rfl⟩
  generalize x.tick = t at *
  rw [hb] at hx0 hx3 hx4 hxh hltx hoxv Hend
  rw [hb]
  have HP : Hid (∀ (W : World) (o : Obj), W.heap = ((w.setCell ⟨b, 3, none⟩ (.int .i64 (n : Nat))).alloc o).heap → W.ownsRow B 62 1 (.slice A n c) n xs ∧ W.heap.size = w.heap.size + 1 ∧ W.heap[w.heap.size]? = some o ∧ B ≤ W.heap.size) := fun W o hW => by
    have h1 := (ownsRow_setCell_other hrow (a := ⟨b, 3, none⟩) hoxv (.int .i64 (n : Nat))).alloc o
    have h2 := heap_alloc_new (w.setCell ⟨b, 3, none⟩ (.int .i64 (n : Nat))) o
    have h3 : (w.setCell ⟨b, 3, none⟩ (.int .i64 (n : Nat))).heap.size = w.heap.size := by simp [World.setCell]
    have h4 : W.heap.size = w.heap.size + 1 := by rw [hW]; simp [World.setCell]
    refine ⟨row_kept h1 fun k _ => by rw [hW], h4, ?_, by omega⟩
    rw [hW, ← h3]
    exact h2
  have HF : Hid (∀ (W w2 : World) (o : Obj), W.grownBy w2 (Value.slice A n c).ownBlock → W.heap = ((w.setCell ⟨b, 3, none⟩ (.int .i64 (n : Nat))).alloc o).heap → w2.cell? ⟨h, i, none⟩ = some (.slice A n c) ∧ w2.frozen? ⟨h, i, none⟩ = false) := fun W w2 o hg hW => by
    have hb2 : w2.heap[h]? = w.heap[h]? := by
      rw [hg.block h (by rw [hW]; simp [World.setCell]; omega) (fun e => hohv e.symm), hW, Below.heap_alloc _ _ _ (by simp [World.setCell]; omega), Below.heap_setCell _ _ _ _ (Ne.symm hxh)]
    exact ⟨(World.cell?_of_block (a := ⟨h, i, none⟩) hb2).trans hcs, (World.frozen?_of_block (a := ⟨h, i, none⟩) hb2).trans hf⟩
  have hm2 : n ≤ 1000000 := by omega
  clear hs hc hi hi2 hx hox hB hoh hrow hb hn hv hoxv hohv hB0 hn1 ht1
  go_enter Try.func24, Try.ntmps24
  go_wp2_with (first
    | (go_at_call 27; refine (HO.out _).mono ?_; rintro e w1 ⟨rfl, q, rfl⟩)
    | (at_builtin; (refine wpList_add_timer _ rfl _ _ rfl B (.slice A n c) n xs rfl (HP.out _ _ rfl).1 w.heap.size b rfl 62 (HP.out _ _ rfl).2.2.1 hm2 (HP.out _ _ rfl).2.2.2 _ (HP.out _ _ rfl).2.1 ?_; intro g c2 w2 hrow2 hgrow hat hglt; have Hfin := Lib.hid (Hend.out _ w2 g c2 _ hgrow rfl rfl rfl rfl hrow2 hat); obtain ⟨hc2, hf2⟩ := HF.out _ w2 _ hgrow rfl; clear hrow2 hgrow hat hglt)))
  go_end0
  exact Hfin.out
end Go.Proofs.Ytadppcmbkccmnaa
