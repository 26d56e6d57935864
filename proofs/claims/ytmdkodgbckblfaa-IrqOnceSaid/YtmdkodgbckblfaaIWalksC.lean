/-
  Contract: New of 1 to 8 lines.
-/
import Derived.Test.YtmdkodgbckblfaaIWalksB
import Derived.OwnWalk
namespace Go.Proofs.Ytmdkodgbckblfaa
open Go.ChangeShapes Go.WideShapes Go.ChangeAt Go.RowKit

theorem info_state : (Try.prog.info? 34).map (fun i => (i.zero, i.size, i.bytes)) = some (some (.agg (lcells bare).toArray), 4, 16) := by kernel_rfl
/-- n lines, of which the first i are held back. -/
def part (n i : Nat) : List Ln := (List.range n).map fun k => if k < i then dark else bare
theorem part_len (n i : Nat) : (part n i).length = n := by simp [part]
theorem part_at {n i k : Nat} (h : k < n) : (part n i)[k]? = some (if k < i then dark else bare) := by
  rw [part, List.getElem?_map, List.getElem?_range h]
  rfl
theorem part_next {n i : Nat} (h : i < n) : (part n i).set i dark = part n (i + 1) := by
  apply List.ext_getElem?
  intro k
  rw [List.getElem?_set]
  by_cases hk : k < n
  · rw [part_at hk, part_at hk, part_len]
    by_cases e : i = k
    · subst e
      rw [if_pos rfl, if_pos h, if_pos (by omega)]
    · rw [if_neg e]
      by_cases h2 : k < i
      · rw [if_pos h2, if_pos (by omega)]
      · rw [if_neg h2, if_neg (by omega)]
  · rw [List.getElem?_eq_none (l := part n i) (by rw [part_len]; omega), List.getElem?_eq_none (l := part n (i + 1)) (by rw [part_len]; omega), part_len]
    split <;> simp
    omega
theorem part_all (n : Nat) : part n n = List.replicate n dark := by
  apply List.ext_getElem?
  intro k
  by_cases hk : k < n
  · rw [part_at hk, if_pos hk, List.getElem?_replicate, if_pos hk]
  · rw [List.getElem?_eq_none (by rw [part_len]; omega), List.getElem?_eq_none (by simp; omega)]
theorem made_part (n : Nat) : (madeCells (Value.agg (lcells bare).toArray).cells (n * 4)).toList = rcells (part n 0) := by
  apply List.ext_getElem?
  intro j
  by_cases hj : j < n * 4
  · obtain ⟨i, r, hr, rfl⟩ : ∃ i r, r < 4 ∧ j = i * 4 + r := ⟨j / 4, j % 4, by omega, by omega⟩
    have hi : i < n := by omega
    rw [rcells_at (part n 0) i r bare (by rw [part_at hi]; simp) hr]
    have hm : (i * 4 + r) % 4 = r := by omega
    have h4 : (lcells bare).length = 4 := rfl
    have hr2 : r < (lcells bare).length := by rw [h4]; exact hr
    rw [List.getElem?_eq_getElem hr2]
    simp [madeCells, Value.cells, h4]
    refine ⟨i * 4 + r, List.getElem?_range hj, ?_⟩
    rw [hm, List.getElem?_eq_getElem hr2]
    rfl
  · rw [List.getElem?_eq_none (by simp [madeCells]; omega), List.getElem?_eq_none (by rw [rcells_len, part_len]; omega)]
theorem own_block {w : World} {base n g : Nat} {xs : List Value} (h : w.ownsRow base 34 4 (.slice (some ⟨g, 0, none⟩) n n) n xs) : w.heap[g]? = some (.cells xs.toArray 34 (0, 0)) := by
  rcases h.2 with ⟨hv, _⟩ | ⟨g2, cap2, cur, hv, h3, h4, h5, h6, h7, h8⟩
  · simp at hv
  · simp only [Value.slice.injEq, Option.some.injEq, Addr.mk.injEq] at hv
    obtain ⟨⟨rfl, -⟩, -, rfl⟩ := hv
    rw [h4]
    rw [List.take_of_length_le (by simp [h7])] at h8
    rw [← h8]

/-- A controller is made. -/
def MadeC (n : Nat) (w : World) (e : Ending) (w' : World) : Prop :=
  ∃ h, e = .returned (.tuple #[.pointer (some ⟨h, 0, none⟩), .int .i64 0]) ∧ IqIs w' h w.heap.size (List.replicate n dark) ∧ w.heap.size ≤ h ∧ Below w.heap.size w w'
set_option maxHeartbeats 1000000 in
theorem new_any (n : Nat) (w : World) (h1 : 1 ≤ n) (h2 : n ≤ 8) : Calls Try.prog 6 #[.int .i64 (n : Nat)] w (MadeC n w) := by
  obtain ⟨i0, hi, hz0, hz1, hz2⟩ := info_parts info_state
  have HE : Hid (∀ w' : World, w'.ownsRow w.heap.size 34 4 (.slice (some ⟨w.heap.size, 0, none⟩) n n) n (madeCells (Value.agg (lcells bare).toArray).cells (n * 4)).toList → w.grownBy w' none → w'.heap[w.heap.size]? = some (lObj (part n 0)) ∧ Below w.heap.size w w') := Lib.hid fun w' hrow hgr => by
    rw [made_part] at hrow
    exact ⟨own_block hrow, (Below.refl _ _).grown hgr (Nat.le_refl _) (fun k hk => by cases hk)⟩
  have h3 : (1 : Int) ≤ n := by omega
  have h4 : (n : Int) ≤ 8 := by omega
  have H1 := Lib.hid h1
  have H2 := Lib.hid h2
  clear h1 h2
  generalize Value.agg (lcells bare).toArray = z at *
  go_enter Try.func6, Try.ntmps6
  go_wp2_with (refine wpList_make_full w rfl (.tmp 12) (.tmp 12) 51 rfl w.heap.size 34 i0 z 4 Try.underlying51 hi hz0 hz1 .i64 .i64 n n n rfl rfl rfl rfl (by rw [hz2]; omega) (by unfold maxLen; omega) (Nat.le_refl _) ?_; intro w1 hown hgrow; have Hfin := Lib.hid (HE.out _ hown hgrow); clear hown hgrow HE)
  go_loopw [16] (fun u16 wr => ∃ i : Nat, i ≤ n ∧ u16 = .int .i64 (i : Nat) ∧ wr.heap[w.heap.size]? = some (lObj (part n i)) ∧ Below w.heap.size w wr) (fun u16 _ => n - (intOf u16).toNat)
  case atStart => exact ⟨0, Nat.zero_le _, rfl, Hfin.out.1, Hfin.out.2⟩
  case round =>
    clear Hfin
    obtain ⟨i, hi, rfl, hg, hb⟩ := hrel
    by_cases hlt : i < n
    · have hc : wr.cell? ⟨w.heap.size, i * 4 + 1, none⟩ = some (.bool false) := by
        have : (rcells (part n i))[i * 4 + 1]? = some (.bool false) := by
          rw [rcells_at (part n i) i 1 bare (by rw [part_at hlt]; simp) (by omega)]
          rfl
        simp only [World.cell?, hg, lObj]
        simpa using this
      have hf : wr.frozen? ⟨w.heap.size, i * 4 + 1, none⟩ = false := by simp [World.frozen?, hg, lObj]
      have HE : Hid ((wr.setCell ⟨w.heap.size, i * 4 + 1, none⟩ (.bool true)).heap[w.heap.size]? = some (lObj (part n (i + 1))) ∧ Below w.heap.size w (wr.setCell ⟨w.heap.size, i * 4 + 1, none⟩ (.bool true))) := Lib.hid (by
        refine ⟨?_, hb.setCell (Nat.le_refl _) _⟩
        have := heap_setCell_same wr w.heap.size (i * 4 + 1) _ _ (.bool true) hg
        rw [this, lObj, ← part_next hlt, ← rcells_set (part n i) i 1 bare dark (.bool true) (by rw [part_at hlt]; simp) (by omega) rfl]
        simp)
      have i0 : (0 : Int) ≤ i := by omega
      have i1 : (i : Int) < n := by omega
      clear hb hg
      go_wp2
      go_roundw
      case rel => exact ⟨i + 1, by omega, by go_num, HE.out.1, HE.out.2⟩
      case measure => simp [intOf]; omega
    · obtain rfl : i = n := by omega
      have HE : Hid (MadeC i w (.returned (.tuple #[.pointer (some ⟨wr.heap.size, 0, none⟩), .int .i64 0])) (wr.alloc (cObj w.heap.size i))) := Lib.hid (by
        have hgl := lt_of_blk hg
        refine ⟨wr.heap.size, rfl, ⟨?_, ?_, ?_, by omega⟩, by omega, hb.alloc hb.size _⟩
        · rw [List.length_replicate]
          exact heap_alloc_new _ _
        · rw [Below.heap_alloc _ _ _ hgl, ← part_all]
          exact hg
        · rw [List.length_replicate]
          exact ⟨H1.out, H2.out⟩)
      clear hb hg
      go_wp2
      go_ret2
      exact HE.out
end Go.Proofs.Ytmdkodgbckblfaa
