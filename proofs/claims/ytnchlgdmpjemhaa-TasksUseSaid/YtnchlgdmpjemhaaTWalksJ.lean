/-
  Contracts of what orders places: cmp.Compare, the insertion sort, slices.SortStableFunc of at most twenty.
-/
import Derived.Test.YtnchlgdmpjemhaaRows
import Derived.Test.YtnchlgdmpjemhaaTMathC
import Derived.Test.YtnchlgdmpjemhaaInts
import Derived.Shelf.Abstract
import Derived.LoopN
import Derived.BigRegion
namespace Go.Proofs.Ytnchlgdmpjemhaa
open Go.ChangeShapes Go.WideShapes Go.ChangeAt Go.RowKit Go.Shelf

theorem isnan_any (x : Int) (w : World) :
    Calls Try.prog 39 #[.int .i64 x] w fun e w' => e = .returned (.bool false) ∧ w = w' := by
  have hx : (x != x) = false := by simp
  go_enter Try.func39, Try.ntmps39
  go_wp2
  go_ret
  exact ⟨rfl, rfl⟩

theorem compare_any (x y : Int) (w : World) :
    Calls Try.prog 29 #[.int .i64 x, .int .i64 y] w fun e w' => e = .returned (.int .i64 (Rt.sgn x y)) ∧ w = w' := by
  rcases Int.lt_trichotomy x y with h | h | h
  · have Hs := Lib.hid (Rt.sgn_lt h)
    go_enter Try.func29, Try.ntmps29
    go_wp2_with (go_at_call 39; refine (isnan_any _ _).mono ?_; rintro e w' ⟨rfl, rfl⟩)
    go_ret
    exact ⟨int_back Hs.out.symm, rfl⟩
  · have Hs := Lib.hid (Rt.sgn_eq h)
    have h1 : ¬ x < y := by omega
    have h2 : ¬ y < x := by omega
    clear h
    go_enter Try.func29, Try.ntmps29
    go_wp2_with (go_at_call 39; refine (isnan_any _ _).mono ?_; rintro e w' ⟨rfl, rfl⟩)
    go_ret
    exact ⟨int_back Hs.out.symm, rfl⟩
  · have Hs := Lib.hid (Rt.sgn_gt h)
    have h1 : ¬ x < y := by omega
    go_enter Try.func29, Try.ntmps29
    go_wp2_with (go_at_call 39; refine (isnan_any _ _).mono ?_; rintro e w' ⟨rfl, rfl⟩)
    go_ret
    exact ⟨int_back Hs.out.symm, rfl⟩

/-- Places, as numbers. -/
def ints (L : List Nat) : List Int := L.map fun x : Nat => (x : Int)
def pcells (L : List Nat) : List Value := ncells (ints L)
theorem pcells_len (L : List Nat) : (pcells L).length = L.length := by simp [pcells, ncells, ints]
theorem pcells_at {L : List Nat} {j : Nat} (h : j < L.length) : (pcells L)[j]? = some (.int .i64 (L.getD j 0 : Nat)) := by
  rw [pcells, ncells, ints, List.getElem?_map, List.getElem?_map, List.getElem?_eq_getElem h, List.getD_eq_getElem?_getD, List.getElem?_eq_getElem h]
  rfl
theorem pcells_set (L : List Nat) (j x : Nat) : (pcells L).set j (.int .i64 x) = pcells (L.set j x) := by
  simp only [pcells, ncells, ints, List.map_set]

/-- In every world that comes later, as far as blocks below g go, the function compares places by f. -/
def Orders (fn : Nat) (p : Value) (f : Nat → Int) (g n : Nat) (W : World) : Prop :=
  ∀ (i j : Nat) (w : World), i < n → j < n → Below g W w → Calls Try.prog fn #[.int .i64 i, .int .i64 j, p] w fun e w' => e = .returned (.int .i64 (Rt.sgn (f i) (f j))) ∧ Below w.heap.size w w'
theorem Orders.later {fn : Nat} {p : Value} {f : Nat → Int} {g g' n : Nat} {W W' : World} (h : Orders fn p f g n W) (hg : g ≤ g') (hb : Below g W W') : Orders fn p f g' n W' :=
  fun i j w hi hj hw => h i j w hi hj (hb.trans (hw.mono hg))

set_option maxHeartbeats 400000 in
theorem insort_none (fn : Nat) (p : Value) (A : Option Addr) (n c a b : Nat) (w : World) (hab : b ≤ a + 1) (ha : a ≤ 1000) :
    Calls Try.prog 50 #[.slice A n c, .int .i64 a, .int .i64 b, .func (.func fn) #[] #[p]] w fun e w' => e = .returned (.tuple #[]) ∧ w = w' := by
  have h1 : ¬ (a : Int) + 1 < b := by omega
  go_enter Try.func50, Try.ntmps50
  go_wp2
  refine wp_loop_rounds 1 ?_
  rw [rounds_succ]
  go_wp2
  go_end0
  exact ⟨rfl, rfl⟩

set_option maxHeartbeats 2000000 in
theorem insort_any (fn : Nat) (p : Value) (f : Nat → Int) (base g n c : Nat) (w : World) (hn : 1 ≤ n) (hn2 : n ≤ 1000) (eg : ∀ args w, (callFunc fn args).run Try.prog w = .ok (.enter fn args) w)
    (hF : Orders fn p f g n w) (hown : w.ownsRow base 3 1 (.slice (some ⟨g, 0, none⟩) n c) n (pcells (List.range n))) :
    Calls Try.prog 50 #[.slice (some ⟨g, 0, none⟩) n c, .int .i64 0, .int .i64 n, .func (.func fn) #[] #[p]] w fun e w' => e = .returned (.tuple #[]) ∧ Below g w w' ∧ w'.ownsRow base 3 1 (.slice (some ⟨g, 0, none⟩) n c) n (pcells (Tk.byTo f n)) := by
  have HF := Lib.hid hF
  have Hown := Lib.hid hown
  have hg := Lib.hid (hown.lt g rfl)
  clear hF hown
  go_enter Try.func50, Try.ntmps50
  go_wp2_with fail
  go_loopw [8] (fun i wr => ∃ k : Nat, 1 ≤ k ∧ k ≤ n ∧ i = .int .i64 k ∧ Hid (wr.ownsRow base 3 1 (.slice (some ⟨g, 0, none⟩) n c) n (pcells (Tk.byTo f k ++ Tk.rest n k))) ∧ Hid (Below g w wr)) (fun i _ => (n - intOf i).toNat)
  case atStart => exact ⟨1, by omega, hn, rfl, (by
    have h1 : Tk.byTo f 1 ++ Tk.rest n 1 = List.range n := by
      have h2 : Tk.byTo f 1 = [0] := rfl
      rw [h2, List.singleton_append, ← Tk.rest_cons (by omega), Tk.rest_all]
    rw [h1]
    exact Hown.out : w.ownsRow base 3 1 (.slice (some ⟨g, 0, none⟩) n c) n (pcells (Tk.byTo f 1 ++ Tk.rest n 1))), (Below.refl _ _ : Below g w w)⟩
  case round =>
    obtain ⟨k, hk1, hk, rfl, hown, hb⟩ := hrel
    by_cases hlt : k < n
    · have hown0 : Hid (wr.ownsRow base 3 1 (.slice (some ⟨g, 0, none⟩) n c) n (pcells (Tk.mid (Tk.byTo f k) k k (Tk.rest n (k + 1))))) := by
        rw [← Tk.mid_start hlt]
        exact hown.out
      have HLl := Lib.hid (Tk.byTo_len f k)
      have hkn : (k : Int) < n := by omega
      go_wp2_with fail
      obtain ⟨wo, rfl⟩ : ∃ wo : World, wo = wr := ⟨_, rfl⟩
      go_loopw [9] (fun u wr => ∃ j : Nat, j ≤ k ∧ u = .int .i64 j ∧ Hid (Tk.slotTo f (Tk.byTo f k) (f k) j = Tk.slot f (Tk.byTo f k) k) ∧ Hid (wr.ownsRow base 3 1 (.slice (some ⟨g, 0, none⟩) n c) n (pcells (Tk.mid (Tk.byTo f k) k j (Tk.rest n (k + 1))))) ∧ Hid (Below g w wr)) (fun u _ => (intOf u).toNat)
      case atStart => exact ⟨k, by omega, rfl, (by rw [Tk.slot, Tk.byTo_len] : Tk.slotTo f (Tk.byTo f k) (f k) k = Tk.slot f (Tk.byTo f k) k), hown0, hb⟩
      case round =>
        clear hown hown0 hb
        obtain ⟨j, hj, rfl, hsl, hown, hb⟩ := hrel
        have hdone : Hid (Tk.slotTo f (Tk.byTo f k) (f k) j = j → ∀ w' : World, Below wr.heap.size wr w' → w'.ownsRow base 3 1 (.slice (some ⟨g, 0, none⟩) n c) n (pcells (Tk.byTo f (k + 1) ++ Tk.rest n (k + 1)))) := fun hs w' hw => by
          rw [← Tk.mid_done (j := j) (by rw [← hsl.out]; exact hs.symm)]
          exact own_call hown.out hw
        by_cases h0 : j = 0
        · subst h0
          have hfin := Lib.hid (hdone.out rfl)
          go_wp2_with fail
          refine wp_region_later wr.heap.size wr (by kernel_rfl) (by kernel_rfl) (Below.refl _ _) ?_
          repeat (go_big_quiet_step (fail))
          refine wpQuiet_nil ?_
          rintro _ ⟨n1, rfl⟩
          go_wp2
          go_roundw
          case rel => exact ⟨k + 1, by omega, by omega, by go_num, hfin.out _ n1.below, (hb.out.trans (n1.below.mono (by have := hb.out.size; have := hg.out; omega)) : Below g w n1.world)⟩
          case measure => simp [intOf]; omega
        · obtain ⟨m, rfl⟩ : ∃ m, j = m + 1 := ⟨j - 1, by omega⟩
          have hmL : m < (Tk.byTo f k).length := by rw [HLl.out]; omega
          have hD1 := Tk.mid_at (R := Tk.rest n (k + 1)) (i := k) (show m + 1 ≤ (Tk.byTo f k).length by omega)
          have hD0 := Tk.mid_before (R := Tk.rest n (k + 1)) (i := k) (show m + 1 ≤ (Tk.byTo f k).length by omega) (Nat.lt_succ_self m)
          have hlen : (Tk.mid (Tk.byTo f k) k (m + 1) (Tk.rest n (k + 1))).length = n := by
            rw [Tk.mid_len (by omega), HLl.out, Tk.rest, List.length_range']
            omega
          have hc1 := hown.out.cellAt (m + 1) (by omega)
          have hc0 := hown.out.cellAt m (by omega)
          rw [pcells_at (by omega), hD1] at hc1
          rw [pcells_at (by omega), hD0] at hc0
          have hf1 := hown.out.frozenAt (m + 1)
          have hf0 := hown.out.frozenAt m
          have hyk := Tk.byTo_lt f k _ (show (Tk.byTo f k).getD m 0 ∈ Tk.byTo f k by
            rw [List.getD_eq_getElem?_getD, List.getElem?_eq_getElem hmL]
            exact List.getElem_mem _)
          have hsw := Lib.hid (Tk.mid_swap (R := Tk.rest n (k + 1)) (i := k) hmL)
          have hst : Hid (Tk.slotTo f (Tk.byTo f k) (f k) (m + 1) = if f k < f ((Tk.byTo f k).getD m 0) then Tk.slotTo f (Tk.byTo f k) (f k) m else m + 1) := (rfl : Tk.slotTo f (Tk.byTo f k) (f k) (m + 1) = if f k < f ((Tk.byTo f k).getD m 0) then Tk.slotTo f (Tk.byTo f k) (f k) m else m + 1)
          obtain ⟨y, hy⟩ : ∃ y, (Tk.byTo f k).getD m 0 = y := ⟨_, rfl⟩
          rw [hy] at hc0 hyk hsw hst
          clear hD1 hD0 hlen hy hmL
          have HC : Hid (∀ w' : World, Below wr.heap.size wr w' → Calls Try.prog fn #[.int .i64 k, .int .i64 y, p] w' fun e w'' => e = .returned (.int .i64 (Rt.sgn (f k) (f y))) ∧ Below w'.heap.size w' w'') := fun w' hw =>
            HF.out k y w' (by omega) (by omega) (hb.out.trans (hw.mono (by have := hb.out.size; have := hg.out; omega)))
          have hgr := (hown.out.lt g rfl).2
          have hm0 : (0 : Int) ≤ m := by omega
          have hm1 : (m : Int) + 1 < n := by omega
          have hm2 : (m : Int) < n := by omega
          have hm3 : (0 : Int) ≤ (m : Int) + 1 := by omega
          have hm4 : (0 : Int) < (m : Int) + 1 := by omega
          have hw1 : IntKind.i64.wrap ((m : Int) + 1 - 1) = m := by rw [IntWalk.i64_in _ (by omega)]; omega
          by_cases hlt2 : f k < f y
          · have hsg := Rt.sgn_lt hlt2
            have hslm : Hid (Tk.slotTo f (Tk.byTo f k) (f k) m = Tk.slot f (Tk.byTo f k) k) := by
              have h1 := hst.out
              rw [if_pos hlt2] at h1
              show _ = _
              rw [← h1]
              exact hsl.out
            rw [hsg] at HC
            clear hsg hlt2
            go_wp2_with fail
            refine wp_region_later wr.heap.size wr (by kernel_rfl) (by kernel_rfl) (Below.refl _ _) ?_
            repeat (go_big_quiet_step (first
              | (go_at_fn fn; (with_reducible refine Calls.later ?_ (HC.out _ (Later.below _))); exact Nat.le_refl _)))
            refine wpQuiet_nil ?_
            rintro w2 ⟨⟨_, hb2⟩, rfl⟩
            have hown2 := Lib.hid (own_call hown.out hb2)
            have hb3 := Lib.hid (hb.out.trans (hb2.mono (by have := hb.out.size; have := hg.out; omega)))
            have hst2 : Hid (((w2.setCell ⟨g, m + 1, none⟩ (.int .i64 y)).setCell ⟨g, m, none⟩ (.int .i64 k)).ownsRow base 3 1 (.slice (some ⟨g, 0, none⟩) n c) n (pcells (Tk.mid (Tk.byTo f k) k m (Tk.rest n (k + 1))))) := by
              have h1 := ((hown2.out.stored (m + 1) (.int .i64 y)).1.stored m (.int .i64 k)).1
              rw [pcells_set, pcells_set, hsw.out] at h1
              exact h1
            have c1 := (old_cells hb2).1 g (m + 1) hgr
            have c0 := (old_cells hb2).1 g m hgr
            have f1 := (old_cells hb2).2 g (m + 1) hgr
            have f0 := (old_cells hb2).2 g m hgr
            rw [hc1] at c1
            rw [hc0] at c0
            rw [hf1] at f1
            rw [hf0] at f0
            clear hc1 hc0 hf1 hf0 hb2 hown2 HC hdone hst
            go_wp2_with fail
            go_region
            go_wp2
            go_roundw
            case rel => exact ⟨m, by omega, by go_num, hslm.out, own_drew hst2.out, (((hb3.out.setCell (Nat.le_refl _) _).setCell (Nat.le_refl _) _).drew : Below g w _)⟩
            case measure => simp [intOf]
          · have hfin := Lib.hid (hdone.out (by rw [hst.out, if_neg hlt2]))
            have hnn : ¬ Rt.sgn (f k) (f y) < 0 := by
              unfold Rt.sgn
              rw [if_neg hlt2]
              split <;> omega
            have hsd : decide (Rt.sgn (f k) (f y) < 0) = false := by simp; omega
            obtain ⟨sg, hsg⟩ : ∃ sg, Rt.sgn (f k) (f y) = sg := ⟨_, rfl⟩
            rw [hsg] at HC hnn hsd
            clear hsg hlt2 hdone hst
            go_wp2_with fail
            refine wp_region_later wr.heap.size wr (by kernel_rfl) (by kernel_rfl) (Below.refl _ _) ?_
            repeat (go_big_quiet_step (first
              | (go_at_fn fn; (with_reducible refine Calls.later ?_ (HC.out _ (Later.below _))); exact Nat.le_refl _)))
            refine wpQuiet_nil ?_
            rintro _ ⟨n1, rfl⟩
            go_wp2
            go_roundw
            case rel => exact ⟨k + 1, by omega, by omega, by go_num, hfin.out _ n1.below, (hb.out.trans (n1.below.mono (by have := hb.out.size; have := hg.out; omega)) : Below g w n1.world)⟩
            case measure => simp [intOf]; omega
    · obtain rfl : n = k := by omega
      have hfin : Hid (wr.ownsRow base 3 1 (.slice (some ⟨g, 0, none⟩) n c) n (pcells (Tk.byTo f n))) := by
        have h1 := hown.out
        rw [Tk.rest_end (Nat.le_refl _), List.append_nil] at h1
        exact h1
      go_wp2
      go_end0
      exact ⟨rfl, hb.out, hfin.out⟩
end Go.Proofs.Ytnchlgdmpjemhaa
