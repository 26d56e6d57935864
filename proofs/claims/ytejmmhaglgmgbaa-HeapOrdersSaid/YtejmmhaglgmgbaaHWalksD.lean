/-
  Contracts: a pile's own Push and Pop.
-/
import Derived.Test.YtejmmhaglgmgbaaHWalksC
import Derived.Deep.AppendLies
namespace Go.Proofs.Ytejmmhaglgmgbaa
open Go.ChangeShapes Go.WideShapes Go.ChangeAt Go.RowKit Hp

theorem info_thing : (Try.prog.info? 43).map (fun i => (i.zero, i.size, i.bytes)) = some (some (.pointer none), 1, 8) := by kernel_rfl

def hObj (v c1 c2 c3 : Value) : Obj := .cells #[v, c1, c2, c3] 37 (0, 0)
theorem h_cell {w : World} {h j : Nat} {v c1 c2 c3 u : Value} (hh : w.heap[h]? = some (hObj v c1 c2 c3)) (hu : #[v, c1, c2, c3][j]? = some u) : w.cell? ⟨h, j, none⟩ = some u := by
  simp only [World.cell?, hh, hObj]
  exact hu
theorem h_free {w : World} {h j : Nat} {v c1 c2 c3 : Value} (hh : w.heap[h]? = some (hObj v c1 c2 c3)) : w.frozen? ⟨h, j, none⟩ = false := by simp [World.frozen?, hh, hObj]
theorem h_put {w : World} {h : Nat} {v c1 c2 c3 : Value} (u : Value) (hh : w.heap[h]? = some (hObj v c1 c2 c3)) : (w.setCell ⟨h, 0, none⟩ u).heap[h]? = some (hObj u c1 c2 c3) := by
  rw [heap_setCell_same w h 0 #[v, c1, c2, c3] _ _ hh]
  rfl

/-- A thing behind all others of the pile. -/
def Pushed (B h : Nat) (v c1 c2 c3 : Value) (xs : List Th) (x : Th) (w : World) (e : Ending) (w' : World) : Prop :=
  e = .returned (.tuple #[]) ∧ ∃ g c, PileIs w' B (.slice (some ⟨g, 0, none⟩) (xs.length + 1) c) (xs ++ [x]) ∧ w'.heap[h]? = some (hObj (.slice (some ⟨g, 0, none⟩) (xs.length + 1) c) c1 c2 c3) ∧ Only (fun k => Own v xs k ∨ k = h ∨ k = x.b) w w' ∧ (v.ownBlock = some g ∨ w.heap.size ≤ g)

theorem pushed_end {w w2 : World} {B h g n c : Nat} {v c1 c2 c3 : Value} {xs : List Th} {x : Th} {o : Obj} (hp : PileIs w B v xs) (hh : w.heap[h]? = some (hObj v c1 c2 c3)) (hoh : ¬ Own v xs h) (hx : w.heap[x.b]? = some (thObj x 0)) (hox : ¬ Own v xs x.b) (hxh : x.b ≠ h) (hBx : B ≤ x.b)
    (hn : xs.length = n) (hrow : w2.ownsRow B 43 1 (.slice (some ⟨g, 0, none⟩) (n + 1) c) (n + 1) (xs.map ptrTo ++ [ptrTo x]))
    (hg : ((w.setCell ⟨x.b, 4, none⟩ (.int .i64 (n : Nat))).alloc o).grownBy w2 v.ownBlock) (hat : v.ownBlock = some g ∨ g = w.heap.size + 1) :
    Pushed B h v c1 c2 c3 xs x w (.returned (.tuple #[])) (w2.setCell ⟨h, 0, none⟩ (.slice (some ⟨g, 0, none⟩) (n + 1) c)) := by
  subst hn
  have hltx := lt_of_block hx
  have hlth := lt_of_block hh
  have hgh : g ≠ h := by
    rintro rfl
    rcases hat with h1 | h1
    · exact hoh (Or.inl h1)
    · omega
  have hgx : ∀ y, y ∈ xs ++ [x] → g ≠ y.b := by
    rintro y hy rfl
    rcases List.mem_append.1 hy with hy | hy
    · rcases hat with h1 | h1
      · exact hp.off y hy h1
      · have := hp.lt hy
        omega
    · obtain rfl : y = x := by simpa using hy
      rcases hat with h1 | h1
      · exact hox (Or.inl h1)
      · omega
  have hsz : w.heap.size < ((w.setCell ⟨x.b, 4, none⟩ (.int .i64 (xs.length : Nat))).alloc o).heap.size := by simp [World.setCell]
  have hback : ∀ k, k < w.heap.size → some k ≠ v.ownBlock → (w2.heap[k]? = (w.setCell ⟨x.b, 4, none⟩ (.int .i64 (xs.length : Nat))).heap[k]?) := fun k hk hne => by
    rw [hg.block k (by omega) hne, Below.heap_alloc _ _ _ (by simp [World.setCell]; omega)]
  have hb0 : ∀ k, k < w.heap.size → ¬ Own v xs k → k ≠ h → k ≠ x.b → (w2.setCell ⟨h, 0, none⟩ (.slice (some ⟨g, 0, none⟩) (xs.length + 1) c)).heap[k]? = w.heap[k]? := fun k hk h1 h2 h3 => by
    rw [Below.heap_setCell _ _ _ _ h2, hback k hk (fun e => h1 (Or.inl e.symm)), Below.heap_setCell _ _ _ _ h3]
  refine ⟨rfl, g, c, ⟨?_, ?_, ?_, ?_, ?_⟩, ?_, ⟨hg.os, hg.tape, hg.output, ?_, ?_⟩, hat.imp id (fun h1 => by omega)⟩
  · have h1 := ownsRow_setCell_other hrow (a := ⟨h, 0, none⟩) (fun e => hgh (by simpa [Value.ownBlock] using e)) (.slice (some ⟨g, 0, none⟩) (xs.length + 1) c)
    rw [List.length_append, List.map_append]
    exact h1
  · intro i y hy
    by_cases hi : i < xs.length
    · rw [List.getElem?_append_left hi] at hy
      have hm := List.mem_of_getElem? hy
      have hyh : y.b ≠ h := fun e => hoh (Or.inr ⟨y, hm, e⟩)
      have hyx : y.b ≠ x.b := fun e => hox (Or.inr ⟨y, hm, e⟩)
      rw [Below.heap_setCell _ _ _ _ hyh, hback _ (hp.lt hm) (fun e => hp.off y hm e.symm), Below.heap_setCell _ _ _ _ hyx]
      exact hp.thing i y hy
    · have hlen : i < (xs ++ [x]).length := (List.getElem?_eq_some_iff.1 hy).1
      rw [List.length_append] at hlen
      simp only [List.length_singleton] at hlen
      obtain rfl : i = xs.length := by omega
      rw [List.getElem?_append_right (Nat.le_refl _), Nat.sub_self] at hy
      simp only [List.getElem?_cons_zero, Option.some.injEq] at hy
      subst hy
      rw [Below.heap_setCell _ _ _ _ hxh, hback _ hltx (fun e => hox (Or.inl e.symm))]
      exact th_moved hx
  · intro y hy
    rcases List.mem_append.1 hy with hy | hy
    · exact hp.base y hy
    · obtain rfl : y = x := by simpa using hy
      exact hBx
  · intro i j y z hy hz e
    have hsplit : ∀ (i : Nat) (y : Th), (xs ++ [x])[i]? = some y → (xs[i]? = some y) ∨ (i = xs.length ∧ y = x) := fun i y hy => by
      by_cases hi : i < xs.length
      · rw [List.getElem?_append_left hi] at hy
        exact Or.inl hy
      · have hlen : i < (xs ++ [x]).length := (List.getElem?_eq_some_iff.1 hy).1
        rw [List.length_append] at hlen
        simp only [List.length_singleton] at hlen
        obtain rfl : i = xs.length := by omega
        rw [List.getElem?_append_right (Nat.le_refl _), Nat.sub_self] at hy
        simp only [List.getElem?_cons_zero, Option.some.injEq] at hy
        exact Or.inr ⟨rfl, hy.symm⟩
    rcases hsplit i y hy with h1 | ⟨h1, rfl⟩ <;> rcases hsplit j z hz with h2 | ⟨h2, rfl⟩
    · exact hp.apart i j y z h1 h2 e
    · exact absurd (Or.inr ⟨y, List.mem_of_getElem? h1, e⟩) hox
    · exact absurd (Or.inr ⟨z, List.mem_of_getElem? h2, e.symm⟩) hox
    · omega
  · intro y hy e
    exact hgx y hy (by simpa [Value.ownBlock] using e)
  · refine h_put (v := v) _ ?_
    rw [hback _ hlth (fun e => hoh (Or.inl e.symm)), Below.heap_setCell _ _ _ _ (Ne.symm hxh)]
    exact hh
  · exact Nat.le_trans (Nat.le_of_lt hsz) (Nat.le_trans hg.size (by simp [World.setCell]))
  · exact fun k hk hs => hb0 k hk (fun h1 => hs (Or.inl h1)) (fun h1 => hs (Or.inr (Or.inl h1))) (fun h1 => hs (Or.inr (Or.inr h1)))

/-- append of one thing to the row. -/
theorem wpList_add_thing (w : World) {ops : Array Oper} {rest : List Oper} {o : Oper} {a : Act} {Q : Exit → Act → World → Prop} (hgd : o.guard = none) (s x : Operand)
    (ho : o.op = .call { callee := .builtin .append, args := #[s, x], argTypes := #[34, 34] })
    (base : Nat) (v : Value) (n : Nat) (ys : List Th) (hs : a.eval s = v) (hown : w.ownsRow base 43 1 v n (ys.map ptrTo))
    (g1 : Nat) (hx : a.eval x = .slice (some ⟨g1, 0, none⟩) 1 1) (y : Th) (T : TypeId) (hc : w.heap[g1]? = some (.cells #[ptrTo y] T (0, 0))) (hm : n ≤ 1000000) (hbase : base ≤ w.heap.size) (H : Nat) (hH : w.heap.size = H)
    (h : ∀ g cap w', w'.ownsRow base 43 1 (.slice (some ⟨g, 0, none⟩) (n + 1) cap) (n + 1) (ys.map ptrTo ++ [ptrTo y]) → w.grownBy w' v.ownBlock → (v.ownBlock = some g ∨ g = H) → g < w'.heap.size → wpList Try.prog ops Q rest (a.put o.dst (.slice (some ⟨g, 0, none⟩) (n + 1) cap)) w') : wpList Try.prog ops Q (o :: rest) a w := by
  obtain ⟨i0, hi, hz0, hz1, hz2⟩ := info_parts info_thing
  exact wpList_append_lies w hgd s x _ ho base 43 i0 (.pointer none) 1 8 Try.underlying34 hi hz0 hz1 hz2 rfl (by decide) v n _ hs hown ⟨g1, 0, none⟩ 1 1 [ptrTo y] hx rfl (World.news_of_block hc) (fun u hu => by
    rw [List.mem_singleton.1 hu]
    rfl) (by decide) (by unfold maxLen; omega) (by omega) hbase H hH h

set_option maxHeartbeats 400000 in
theorem ppush_any {w : World} {B h : Nat} {v c1 c2 c3 : Value} {xs : List Th} {x : Th} (hp : PileIs w B v xs) (hm : xs.length ≤ 900000) (hB : B ≤ w.heap.size) (hh : w.heap[h]? = some (hObj v c1 c2 c3)) (hoh : ¬ Own v xs h) (hx : w.heap[x.b]? = some (thObj x 0)) (hox : ¬ Own v xs x.b) (hxh : x.b ≠ h) (hBx : B ≤ x.b) :
    Calls Try.prog 41 #[.pointer (some ⟨h, 0, none⟩), .iface 43 (.pointer (some ⟨x.b, 0, none⟩))] w (Pushed B h v c1 c2 c3 xs x w) := by
  obtain ⟨A, c, hv, hnc, hc63⟩ := own_shape hp.row
  obtain ⟨n, hn⟩ : ∃ n, xs.length = n := ⟨_, rfl⟩
  have Hend := Lib.hid fun (w2 : World) (g c : Nat) (o : Obj) => pushed_end (g := g) (w2 := w2) (c := c) (o := o) hp hh hoh hx hox hxh hBx hn
  have hrow := hp.row
  rw [hn] at hrow hm hv hnc
  subst hv
  have hc : w.cell? ⟨h, 0, none⟩ = some (.slice A n c) := h_cell (j := 0) hh rfl
  have hf := h_free (j := 0) hh
  have hx4 : w.cell? ⟨x.b, 4, none⟩ = some (.int .i64 0) := th_cell (j := 4) hx rfl
  have hx5 := th_free (j := 4) hx
  have hlth := lt_of_block hh
  have hltx := lt_of_block hx
  have Hoh := Lib.hid hoh
  have Hptr : Hid (ptrTo x = .pointer (some ⟨x.b, 0, none⟩)) := (rfl : ptrTo x = .pointer (some ⟨x.b, 0, none⟩))
  obtain ⟨b, hb⟩ : ∃ b, x.b = b := ⟨_, rfl⟩
  have Hrow2 : Hid (∀ o : Obj, ((w.setCell ⟨b, 4, none⟩ (.int .i64 (n : Nat))).alloc o).ownsRow B 43 1 (.slice A n c) n (xs.map ptrTo)) := fun o =>
    (ownsRow_setCell_other hrow (a := ⟨b, 4, none⟩) (fun e => hox (Or.inl (by rw [hb]; exact e))) _).alloc o
  rw [hb] at hx4 hx5 hxh hltx Hptr Hend
  rw [hb]
  have Hn := Lib.hid hn
  have hput : ∀ v : Value, (w.setCell ⟨b, 4, none⟩ v).heap.size = w.heap.size := fun v => by simp [World.setCell]
  have hnew : Hid (((w.setCell ⟨b, 4, none⟩ (.int .i64 (n : Nat))).alloc (.cells #[.pointer (some ⟨b, 0, none⟩)] 43 (0, 0))).heap[w.heap.size]? = some (.cells #[ptrTo x] 43 (0, 0))) := by
    rw [Hptr.out, ← hput (.int .i64 (n : Nat))]
    exact heap_alloc_new _ _
  have hsz : Hid (∀ o : Obj, ((w.setCell ⟨b, 4, none⟩ (.int .i64 (n : Nat))).alloc o).heap.size = w.heap.size + 1) := fun o => by
    have := hput (.int .i64 (n : Nat))
    simp
  have hbase : Hid (∀ o : Obj, B ≤ ((w.setCell ⟨b, 4, none⟩ (.int .i64 (n : Nat))).alloc o).heap.size) := fun o => by
    rw [hsz.out o]
    omega
  have hm2 : n ≤ 1000000 := by omega
  have HF : Hid (∀ (w2 : World) (o : Obj), ((w.setCell ⟨b, 4, none⟩ (.int .i64 (n : Nat))).alloc o).grownBy w2 (Value.slice A n c).ownBlock → w2.cell? ⟨h, 0, none⟩ = some (.slice A n c) ∧ w2.frozen? ⟨h, 0, none⟩ = false) := fun w2 o hg => by
    have hb2 : w2.heap[h]? = w.heap[h]? := by
      rw [hg.block h (by rw [hsz.out o]; omega) (fun e => hoh (Or.inl e.symm)), Below.heap_alloc _ _ _ (by rw [hput]; exact hlth), Below.heap_setCell _ _ _ _ (Ne.symm hxh)]
    exact ⟨(World.cell?_of_block (a := ⟨h, 0, none⟩) hb2).trans hc, (World.frozen?_of_block (a := ⟨h, 0, none⟩) hb2).trans hf⟩
  have ht : ∀ w : World, (Instr.typeAssert (.iface 43 (.pointer (some ⟨b, 0, none⟩))) 20 43 false).run Try.prog w = .ok (.pointer (some ⟨b, 0, none⟩)) w := fun w => by kernel_rfl
  clear hp hh hoh hx hox hBx hrow hb hn hput
  go_enter Try.func41, Try.ntmps41
  go_wp2_with ((at_builtin; refine wpList_add_thing _ rfl _ _ rfl B (.slice A n c) n xs rfl (Hrow2.out _) w.heap.size rfl x _ hnew.out hm2 (hbase.out _) _ (hsz.out _) ?_; intro g c2 w2 hrow2 hgrow hat hglt; have Hfin := Lib.hid (Hend.out w2 g c2 _ hrow2 hgrow hat); obtain ⟨hc2, hf2⟩ := HF.out w2 _ hgrow; clear hrow2 hgrow hat hglt))
  go_end0
  exact Hfin.out

/-- The last thing taken off the pile. -/
def Popped (B h g n c : Nat) (c1 c2 c3 : Value) (xs : List Th) (w : World) (e : Ending) (w' : World) : Prop :=
  e = .returned (.iface 43 (ptrTo (at_ xs n))) ∧ PileIs w' B (.slice (some ⟨g, 0, none⟩) n c) (xs.take n) ∧ w'.heap[h]? = some (hObj (.slice (some ⟨g, 0, none⟩) n c) c1 c2 c3) ∧ Only (fun k => k = g ∨ k = h) w w'

theorem popped_end {w : World} {B h g n c : Nat} {c1 c2 c3 : Value} {xs : List Th} (hp : PileIs w B (.slice (some ⟨g, 0, none⟩) (n + 1) c) xs) (hn : xs.length = n + 1) (hh : w.heap[h]? = some (hObj (.slice (some ⟨g, 0, none⟩) (n + 1) c) c1 c2 c3)) (hoh : ¬ Own (.slice (some ⟨g, 0, none⟩) (n + 1) c) xs h) :
    Popped B h g n c c1 c2 c3 xs w (.returned (.iface 43 (ptrTo (at_ xs n)))) ((w.setCell ⟨g, n, none⟩ (.pointer none)).setCell ⟨h, 0, none⟩ (.slice (some ⟨g, 0, none⟩) n c)) := by
  have hgh : g ≠ h := fun e => hoh (Or.inl (by rw [e]; rfl))
  have hlen : (xs.take n).length = n := by rw [List.length_take]; omega
  have hto : ∀ i y, (xs.take n)[i]? = some y → xs[i]? = some y := fun i y hy => by
    rw [List.getElem?_take] at hy
    split at hy
    · exact hy
    · cases hy
  refine ⟨rfl, ⟨?_, ?_, fun x hx => hp.base x (List.mem_of_mem_take hx), fun i j x y hx hy e => hp.apart i j x y (hto i x hx) (hto j y hy) e, fun x hx e => hp.off x (List.mem_of_mem_take hx) e⟩, ?_, ?_⟩
  · have h1 := hp.row
    rw [hn] at h1
    have h2 := (h1.stored n (.pointer none)).1
    have h3 : (w.setCell ⟨g, n, none⟩ (.pointer none)).ownsRow B 43 1 (.slice (some ⟨g, 0, none⟩) n c) n ((xs.take n).map ptrTo) := by
      obtain ⟨k1, k2⟩ := h2
      rcases k2 with ⟨k2, _⟩ | ⟨g', cap, cur, hv, hg, hh2, hc, hm, hs, ht⟩
      · simp at k2
      · simp only [Value.slice.injEq, Option.some.injEq, Addr.mk.injEq, and_true, true_and] at hv
        obtain ⟨rfl, rfl⟩ := hv
        refine ⟨by rw [List.length_map, hlen, Nat.mul_one], Or.inr ⟨g, c, cur, rfl, hg, hh2, by omega, hm, hs, ?_⟩⟩
        rw [Nat.mul_one] at ht ⊢
        have : cur.toList.take n = (cur.toList.take (n + 1)).take n := by rw [List.take_take, Nat.min_eq_left (by omega)]
        rw [this, ht, List.take_set_of_le (by omega), List.map_take]
    rw [hlen]
    exact ownsRow_setCell_other h3 (a := ⟨h, 0, none⟩) (fun e => hgh (by simpa [Value.ownBlock] using e)) _
  · intro i y hy
    have hy2 := hto i y hy
    have hm := List.mem_of_getElem? hy2
    have hyh : y.b ≠ h := fun e => hoh (Or.inr ⟨y, hm, e⟩)
    have hyg : y.b ≠ g := fun e => hp.off y hm (by rw [e]; rfl)
    rw [Below.heap_setCell _ _ _ _ hyh, Below.heap_setCell _ _ _ _ hyg]
    exact hp.thing i y hy2
  · refine h_put (v := .slice (some ⟨g, 0, none⟩) (n + 1) c) _ ?_
    rw [Below.heap_setCell _ _ _ _ (Ne.symm hgh)]
    exact hh
  · exact ((Only.refl _ w).put (p := ⟨g, n, none⟩) (Or.inl (Or.inl rfl)) _).put (p := ⟨h, 0, none⟩) (Or.inl (Or.inr rfl)) _

set_option maxHeartbeats 400000 in
theorem ppop_any {w : World} {B h g n c : Nat} {c1 c2 c3 : Value} {xs : List Th} (hp : PileIs w B (.slice (some ⟨g, 0, none⟩) (n + 1) c) xs) (hn : xs.length = n + 1) (hm : n ≤ 900000) (hh : w.heap[h]? = some (hObj (.slice (some ⟨g, 0, none⟩) (n + 1) c) c1 c2 c3)) (hoh : ¬ Own (.slice (some ⟨g, 0, none⟩) (n + 1) c) xs h) :
    Calls Try.prog 40 #[.pointer (some ⟨h, 0, none⟩)] w (Popped B h g n c c1 c2 c3 xs w) := by
  have Hend := Lib.hid (popped_end hp hn hh hoh)
  have hc : w.cell? ⟨h, 0, none⟩ = some (.slice (some ⟨g, 0, none⟩) (n + 1) c) := h_cell (j := 0) hh rfl
  have hf := h_free (j := 0) hh
  have hgc := hp.rowCell rfl (i := n) (by omega)
  have hgf := hp.rowFree rfl n
  have hnc := own_cap (by have := hp.row; rwa [hn] at this : w.ownsRow B _ 1 (.slice (some ⟨g, 0, none⟩) (n + 1) c) (n + 1) _)
  have hgh : g ≠ h := fun e => hoh (Or.inl (by rw [e]; rfl))
  have hn0 : (0 : Int) ≤ n := by omega
  have hn1 : (n : Int) < (n : Int) + 1 := by omega
  have hn2 : (n : Int) ≤ 900000 := by omega
  have hn3 : (n : Int) ≤ c := by omega
  have hhg := Ne.symm hgh
  clear hp hn hh hoh
  go_enter Try.func40, Try.ntmps40
  go_wp2
  go_ret
  exact Hend.out
end Go.Proofs.Ytejmmhaglgmgbaa
