/-
  Contracts of what orders places, more: slices.SortStableFunc of at most twenty, ByPeriod and ByDeadline of package tasks.
-/
import Derived.Test.YtnchlgdmpjemhaaTWalksJ
import Derived.Test.YtnchlgdmpjemhaaTWalksA
import Derived.OwnWalk
import Derived.Laws.MakeOwn
namespace Go.Proofs.Ytnchlgdmpjemhaa
open Go.ChangeShapes Go.WideShapes Go.ChangeAt Go.RowKit Go.Shelf

/-- What the sort leaves of a row of places. -/
def Sorted (f : Nat → Int) (base g n c : Nat) (w : World) (e : Ending) (w' : World) : Prop := e = .returned (.tuple #[]) ∧ Below g w w' ∧ w'.ownsRow base 3 1 (.slice (some ⟨g, 0, none⟩) n c) n (pcells (Tk.byTo f n))

set_option maxHeartbeats 1000000 in
theorem stable_any (fn : Nat) (p : Value) (f : Nat → Int) (base g n c : Nat) (w : World) (hn2 : n ≤ 20) (eg : ∀ args w, (callFunc fn args).run Try.prog w = .ok (.enter fn args) w)
    (hF : Orders fn p f g n w) (hown : w.ownsRow base 3 1 (.slice (some ⟨g, 0, none⟩) n c) n (pcells (List.range n))) :
    Calls Try.prog 47 #[.slice (some ⟨g, 0, none⟩) n c, .int .i64 n, .func (.func fn) #[] #[p]] w fun e w' => Sorted f base g n c w e w' := by
  have HF := Lib.hid hF
  have Hown := Lib.hid hown
  have Eg := Lib.hid eg
  clear hF hown eg
  by_cases h0 : n = 0
  · subst h0
    go_enter Try.func47, Try.ntmps47
    go_wp2
    refine wp_loop_rounds 1 ?_
    rw [rounds_succ]
    go_wp2_with fail
    refine (insort_none fn p _ 0 c 0 0 _ (by omega) (by omega)).mono ?_
    rintro e w1 ⟨rfl, rfl⟩
    go_wp2
    refine wp_loop_rounds 1 ?_
    rw [rounds_succ]
    go_wp2
    go_end0
    exact ⟨rfl, Below.refl _ _, Hown.out⟩
  · by_cases h20 : n = 20
    · subst h20
      go_enter Try.func47, Try.ntmps47
      go_wp2
      refine wp_loop_rounds 2 ?_
      rw [rounds_succ]
      go_wp2_with fail
      refine (insort_any fn p f base g 20 c _ (by omega) (by omega) Eg.out HF.out Hown.out).mono ?_
      rintro e w1 ⟨rfl, hb1, ho1⟩
      have B1 := Lib.hid hb1
      have O1 := Lib.hid ho1
      clear hb1 ho1
      go_wp2_with fail
      rw [rounds_succ]
      go_wp2_with fail
      refine (insort_none fn p _ 20 c 20 20 _ (by omega) (by omega)).mono ?_
      rintro e w2 ⟨rfl, rfl⟩
      go_wp2
      refine wp_loop_rounds 1 ?_
      rw [rounds_succ]
      go_wp2
      go_end0
      exact ⟨rfl, B1.out, O1.out⟩
    · have hlt : n < 20 := by omega
      have hz : (n : Int) < 20 := by omega
      go_enter Try.func47, Try.ntmps47
      go_wp2
      refine wp_loop_rounds 1 ?_
      rw [rounds_succ]
      go_wp2_with fail
      refine (insort_any fn p f base g n c _ (by omega) (by omega) Eg.out HF.out Hown.out).mono ?_
      rintro e w1 ⟨rfl, hb1, ho1⟩
      have B1 := Lib.hid hb1
      have O1 := Lib.hid ho1
      clear hb1 ho1
      go_wp2
      refine wp_loop_rounds 1 ?_
      rw [rounds_succ]
      go_wp2
      go_end0
      exact ⟨rfl, B1.out, O1.out⟩

set_option maxHeartbeats 400000 in
theorem sorts_any (fn : Nat) (p : Value) (f : Nat → Int) (base g n c : Nat) (w : World) (hn2 : n ≤ 20) (eg : ∀ args w, (callFunc fn args).run Try.prog w = .ok (.enter fn args) w)
    (hF : Orders fn p f g n w) (hown : w.ownsRow base 3 1 (.slice (some ⟨g, 0, none⟩) n c) n (pcells (List.range n))) :
    Calls Try.prog 38 #[.slice (some ⟨g, 0, none⟩) n c, .func (.func fn) #[] #[p]] w fun e w' => Sorted f base g n c w e w' := by
  have HF := Lib.hid hF
  have Hown := Lib.hid hown
  have Eg := Lib.hid eg
  clear hF hown eg
  go_enter Try.func38, Try.ntmps38
  go_wp2_with fail
  refine (stable_any fn p f base g n c _ hn2 Eg.out HF.out Hown.out).mono ?_
  rintro e w1 ⟨rfl, hb1, ho1⟩
  go_wp2
  go_end0
  exact ⟨rfl, hb1, ho1⟩

set_option maxHeartbeats 1000000 in
theorem places_any (fn : Nat) (p : Value) (f : Nat → Int) (n : Nat) (w : World) (hn2 : n ≤ 20) (eg : ∀ args w, (callFunc fn args).run Try.prog w = .ok (.enter fn args) w) (hF : Orders fn p f w.heap.size n w) :
    Calls Try.prog 27 #[.int .i64 n, .func (.func fn) #[] #[p]] w fun e w' => NumsBack (ints (Tk.byTo f n)) w e w' := by
  have HF := Lib.hid hF
  have Eg := Lib.hid eg
  clear hF eg
  obtain ⟨i0, hi, hz0, hz1, hz2⟩ := info_parts info_int
  go_enter Try.func27, Try.ntmps27
  go_wp2_with (refine wpList_make_full w rfl (.tmp 7) (.tmp 7) 36 rfl w.heap.size 3 i0 (.int .i64 0) 1 Try.underlying36 hi hz0 hz1 .i64 .i64 n n n rfl rfl rfl rfl (by rw [hz2]; omega) (by unfold maxLen; omega) (Nat.le_refl _) ?_; intro w1 hown hgrow)
  have hb1 : Hid (Below w.heap.size w w1) := ((Below.refl _ _).grown hgrow (Nat.le_refl _) (fun _ h => by cases h) : Below w.heap.size w w1)
  have hlen : Hid ((madeCells (Value.int .i64 0).cells (n * 1)).toList.length = n) := (by have := hown.1; omega : (madeCells (Value.int .i64 0).cells (n * 1)).toList.length = n)
  generalize (madeCells (Value.int .i64 0).cells (n * 1)).toList = xs0 at hown hlen
  have Hown := Lib.hid hown
  clear hown hgrow
  go_loopw [11] (fun i wr => ∃ (k : Nat) (xs : List Value), k ≤ n ∧ i = .int .i64 k ∧ Hid (xs.length = n) ∧ Hid (wr.ownsRow w.heap.size 3 1 (.slice (some ⟨w.heap.size, 0, none⟩) n n) n xs) ∧ Hid (∀ j, j < k → xs[j]? = some (.int .i64 j)) ∧ Hid (Below w.heap.size w wr)) (fun i _ => (n - intOf i).toNat)
  case atStart => exact ⟨0, xs0, by omega, rfl, hlen, Hown, (fun j hj => by omega : ∀ j, j < 0 → _), hb1⟩
  case round =>
    obtain ⟨k, xs, hk, rfl, hxs, hown, hdone, hb⟩ := hrel
    by_cases hlt : k < n
    · have hk0 : (0 : Int) ≤ k := by omega
      have hkn : (k : Int) < n := by omega
      have hcell := hown.out.cellAt k (by omega)
      obtain ⟨u, hu⟩ : ∃ u, xs[k]? = some u := ⟨_, List.getElem?_eq_getElem (by rw [hxs.out]; exact hlt)⟩
      rw [hu] at hcell
      have hfz := hown.out.frozenAt k
      have hst := Lib.hid (hown.out.stored k (.int .i64 k)).1
      clear hu
      go_wp2
      go_roundw
      case rel =>
        refine ⟨k + 1, _, by omega, by go_num, (by rw [List.length_set]; exact hxs.out : (xs.set k _).length = n), hst.out, (fun j hj => ?_ : ∀ j, j < k + 1 → _), (hb.out.setCell (Nat.le_refl _) _ : Below w.heap.size w _)⟩
        rw [List.getElem?_set]
        by_cases hjk : k = j
        · rw [if_pos hjk, if_pos (by rw [hxs.out]; omega), ← hjk]
        · rw [if_neg hjk]
          exact hdone.out j (by omega)
      case measure => simp [intOf]; omega
    · obtain rfl : n = k := by omega
      have hrow : Hid (wr.ownsRow w.heap.size 3 1 (.slice (some ⟨w.heap.size, 0, none⟩) n n) n (pcells (List.range n))) := by
        have e : xs = pcells (List.range n) := by
          refine List.ext_getElem? fun i => ?_
          by_cases hin : i < n
          · rw [hdone.out i hin, pcells_at (by simpa using hin)]
            simp [hin]
          · rw [List.getElem?_eq_none (by rw [hxs.out]; omega), List.getElem?_eq_none (by rw [pcells_len]; simp; omega)]
        rw [← e]
        exact hown.out
      go_wp2_with fail
      refine (sorts_any fn p f w.heap.size w.heap.size n n _ hn2 Eg.out (HF.out.later (Nat.le_refl _) hb.out) hrow.out).mono ?_
      rintro e w3 ⟨rfl, hb3, ho3⟩
      have B3 := Lib.hid (hb.out.trans hb3)
      have O3 := Lib.hid ho3
      clear hb3 ho3
      go_wp2
      go_ret
      exact nums_back B3.out (by simp [ints, Tk.byTo_len]) O3.out
end Go.Proofs.Ytnchlgdmpjemhaa
