/-
  copy of ints into a row of the call's own, as long as the row is known whole: what is copied stands at its head, all else is as it was.
-/
import Derived.Test.YtlpmcmgalodfeaaInts
import Derived.Laws.CopyOwn
namespace Go.Proofs.Ytlpmcmgalodfeaa
open Go.RowKit

theorem info_int_size : (Try.prog.info? 3).map (·.size) = some 1 := by kernel_rfl
/-- What the row holds behind the copy; all else is as it was. -/
def Filled (B : Nat) (W wx : World) (g n : Nat) (xs : List Value) (w5 : World) : Prop :=
  Below B W w5 ∧ w5.ownsRow B 3 1 (.slice (some ⟨g, 0, none⟩) n n) n xs ∧ (∀ b o, b ≠ g → w5.cell? ⟨b, o, none⟩ = wx.cell? ⟨b, o, none⟩) ∧ wx.heap.size ≤ w5.heap.size
theorem filled_of {B : Nat} {W wx w5 : World} {g n : Nat} {R : Array Value} (hb : Below B W w5) (hg : w5.heap[g]? = some (.cells R 3 (0, 0))) (hB : B ≤ g) (hR : R.size = n) (hn : n ≤ 1048576)
    (hc : ∀ b o, b ≠ g → w5.cell? ⟨b, o, none⟩ = wx.cell? ⟨b, o, none⟩) (hz : wx.heap.size ≤ w5.heap.size) : Filled B W wx g n R.toList w5 :=
  ⟨hb, ⟨by simpa using hR, .inr ⟨g, n, R, rfl, hB, hg, Nat.le_refl _, by unfold maxLen; omega, by simpa using hR, by rw [List.take_of_length_le (by simp [hR])]⟩⟩, hc, hz⟩

theorem wpList_copy_ints {wc : World} {ops : Array Oper} {rest : List Oper} {o : Oper} {a : Act} {Q : Exit → Act → World → Prop} (hgd : o.guard = none) (d s : Operand)
    (ho : o.op = .call { callee := .builtin .copy, args := #[d, s], argTypes := #[23, 23] }) (g n m c2 : Nat) (A2 : Option Addr) (S : List Int) (Z : Array Value) (B : Nat) (W : World)
    (hd : a.eval d = .slice (some ⟨g, 0, none⟩) n n) (hs : a.eval s = .slice A2 m c2) (hSm : S.length = m) (hS : NumsI wc.heap.size wc A2 S) (hmn : m ≤ n) (hg : wc.heap[g]? = some (.cells Z 3 (0, 0))) (hZ : Z.size = n)
    (hb : Below B W wc) (hB : B ≤ g) (hn : n ≤ 1048576) (h : ∀ w5, Filled B W wc g n (ncells S ++ Z.toList.drop m) w5 → wpList Try.prog ops Q rest (a.put o.dst (goInt m)) w5) : wpList Try.prog ops Q (o :: rest) a wc := by
  by_cases hm : m = 0
  · refine wpList_copy_nothing hgd d s 23 23 ho 3 Try.underlying23 info_int_size (some ⟨g, 0, none⟩) A2 n n m c2 hd hs (by rw [hm]; exact Nat.zero_min _) ?_
    have h1 := h wc
    rw [hm, List.drop_zero, List.eq_nil_of_length_eq_zero (hSm.trans hm)] at h1
    exact h1 (filled_of hb hg hB hZ hn (fun _ _ _ => rfl) (Nat.le_refl _))
  · obtain ⟨b2, o2, rfl, hB2, hc⟩ := hS (by omega)
    have hl : (ncells S).length = m := by simp [ncells, hSm]
    refine wpList_copy_own hgd d s 23 23 ho 3 Try.underlying23 info_int_size g 0 n n ⟨b2, o2, none⟩ m c2 hd hs Z 3 hg (ncells S) (by rw [hl]; exact (Nat.min_eq_left hmn).symm) ?_ (by omega) ?_ ?_
    · intro j u hu
      have hj : j < S.length := by
        have := (List.getElem?_eq_some_iff.1 hu).1
        simpa [ncells] using this
      rw [add_off, hc j hj, ← hu, ncells, List.getElem?_map, List.getElem?_eq_getElem hj, List.getD_eq_getElem?_getD, List.getElem?_eq_getElem hj]
      rfl
    · intro u hu
      simp only [ncells, List.mem_map] at hu
      obtain ⟨y, -, rfl⟩ := hu
      rfl
    · rw [hl]
      refine h _ ?_
      have e : Z.toList.take 0 ++ (ncells S ++ Z.toList.drop (0 + m)) = ncells S ++ Z.toList.drop m := by simp
      have h1 := filled_of (B := B) (W := W) (wx := wc) (w5 := wc.setRow g (Z.toList.take 0 ++ (ncells S ++ Z.toList.drop (0 + (ncells S).length))).toArray) (g := g) (n := n) (below_setRow hb hB _) (setRow_heap wc g _ _ _ _ hg) hB (by simp [hl, hZ]; omega) hn (fun b o hbg => cell_setRow_other wc g _ _ hbg) (by simp)
      rw [hl, e] at h1
      rw [e]
      simpa using h1

/-- append of numbers onto a row of the call's own, at a plain operation. -/
theorem wpList_nums (w : World) {ops : Array Oper} {rest : List Oper} {o : Oper} {a : Act} {Q : Exit → Act → World → Prop} (hgd : o.guard = none) (s x : Operand)
    (ho : o.op = .call { callee := .builtin .append, args := #[s, x], argTypes := #[23, 23] })
    (base : Nat) (v : Value) (n : Nat) (L : List Int) (hs : a.eval s = v) (hown : w.ownsRow base 3 1 v n (ncells L))
    (ao : Option Addr) (m c : Nat) (M : List Int) (hx : a.eval x = .slice ao m c) (hM : M.length = m) (hnil : ao = none → m = 0 ∧ c = 0) (B : Nat) (hr : NumsI B w ao M) (N : Nat) (hN : n + m = N) (hm : N ≤ 1000000000) (hbase : base ≤ w.heap.size)
    (h : ∀ A cap w', w'.ownsRow base 3 1 (.slice A N cap) N (ncells (L ++ M)) → w.grownBy w' v.ownBlock → wpList Try.prog ops Q rest (a.put o.dst (.slice A N cap)) w') : wpList Try.prog ops Q (o :: rest) a w := by
  obtain ⟨i0, hi, hz0, hz1, hz2⟩ := info_parts info_int
  refine wpList_append_to w hgd s x 23 ho base 3 i0 (.int .i64 0) 1 8 Try.underlying23 hi hz0 hz1 hz2 rfl (by decide) v n (ncells L) hs hown ao m c (ncells M) hx hnil (by simp [ncells, hM]) ?_ ?_ (by unfold maxLen; omega) (by omega) hbase N hN ?_
  · intro ad e j u hu
    have hj : j < M.length := by
      have := (List.getElem?_eq_some_iff.1 hu).1
      simpa [ncells] using this
    obtain ⟨b2, o2, e2, -, hc⟩ := hr (by omega)
    rw [e2] at e
    cases e
    rw [add_off, hc j hj, ← hu, ncells, List.getElem?_map, List.getElem?_eq_getElem hj, List.getD_eq_getElem?_getD, List.getElem?_eq_getElem hj]
    rfl
  · intro u hu
    simp only [ncells, List.mem_map] at hu
    obtain ⟨y, -, rfl⟩ := hu
    rfl
  · intro A cap w' h1 h2
    refine h A cap w' ?_ h2
    rw [ncells, List.map_append]
    exact h1
theorem nums_one (w : World) (q : Int) (t : TypeId) : NumsI (w.heap.size + 1) (w.alloc (.cells #[.int .i64 q] t)) (some ⟨w.heap.size, 0, none⟩) [q] := fun _ => ⟨w.heap.size, 0, rfl, Nat.lt_succ_self _, fun i hi => by
  obtain rfl : i = 0 := by simp at hi; omega
  rw [World.cell?_alloc_at _ _ _ _ rfl]
  rfl⟩
end Go.Proofs.Ytlpmcmgalodfeaa
