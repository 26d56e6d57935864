/-
  Rows of tasks that a call owns, as cells; what is appended to them.
-/
import Derived.Test.YtlpmcmgalodfeaaTWalksA
import Derived.Test.YtlpmcmgalodfeaaInts
import Derived.Deep.AppendLies
namespace Go.Proofs.Ytlpmcmgalodfeaa
open Go.ChangeShapes Go.WideShapes Go.ChangeAt Go.RowKit

/-- A list of tasks, as cells. -/
def tcells (l : List (Int × Int × Int)) : List Value := l.flatMap fun t => [.int .i64 t.1, .int .i64 t.2.1, .int .i64 t.2.2]
theorem tcells_len (l : List (Int × Int × Int)) : (tcells l).length = l.length * 3 := by
  induction l with
  | nil => rfl
  | cons a l ih => simp only [tcells, List.flatMap_cons, List.length_append, List.length_cons, List.length_nil] at *; omega
theorem tcells_two (l m : List (Int × Int × Int)) : tcells (l ++ m) = tcells l ++ tcells m := by simp [tcells]
theorem tcells_one (l : List (Int × Int × Int)) : ∀ u ∈ tcells l, u.oneCell' = true := fun u hu => by
  simp only [tcells, List.mem_flatMap, List.mem_cons, List.not_mem_nil, or_false] at hu
  obtain ⟨t, -, rfl | rfl | rfl⟩ := hu <;> rfl
theorem tcells_at : ∀ (l : List (Int × Int × Int)) (i : Nat), i < l.length → (tcells l)[i * 3]? = some (.int .i64 (l.getD i (0, 0, 0)).1) ∧ (tcells l)[i * 3 + 1]? = some (.int .i64 (l.getD i (0, 0, 0)).2.1) ∧ (tcells l)[i * 3 + 2]? = some (.int .i64 (l.getD i (0, 0, 0)).2.2)
  | [], i, h => by simp at h
  | a :: l, 0, _ => by simp [tcells]
  | a :: l, i + 1, h => by
    have := tcells_at l i (by simp at h; omega)
    have e1 : (i + 1) * 3 = i * 3 + 3 := by omega
    rw [e1]
    simpa [tcells] using this
/-- What the call owns reads as the list. -/
theorem Tks.own {w : World} {base : Nat} {A : Option Addr} {n c : Nat} {e : TypeId} {l : List (Int × Int × Int)} (h : w.ownsRow base e 3 (.slice A n c) n (tcells l)) : Tks w.heap.size w A l := fun hn => by
  have hl := h.1
  rw [tcells_len] at hl
  rcases h.2 with ⟨hv, h0⟩ | ⟨g, cap, cur, hv, _, hg, _⟩
  · omega
  · simp only [Value.slice.injEq, true_and] at hv
    obtain ⟨rfl, rfl⟩ := hv
    have hlt := (h.lt g rfl).2
    refine ⟨g, 0, rfl, hlt, fun i hi => ?_⟩
    have := tcells_at l i hi
    refine ⟨?_, ?_, ?_⟩
    · rw [Nat.zero_add, h.cellAt _ (by omega)]; exact this.1
    · rw [Nat.zero_add, h.cellAt _ (by omega)]; exact this.2.1
    · rw [Nat.zero_add, h.cellAt _ (by omega)]; exact this.2.2
/-- Its cells, to be appended. -/
theorem Tks.news {B : Nat} {w : World} {A : Option Addr} {l : List (Int × Int × Int)} (h : Tks B w A l) : ∀ ad, A = some ad → ∀ j u, (tcells l)[j]? = some u → w.cell? (ad.add j) = some u := fun ad e j u hu => by
  have hj : j < l.length * 3 := by
    rw [← tcells_len]
    exact (List.getElem?_eq_some_iff.1 hu).1
  obtain ⟨b, o, e2, -, hc⟩ := h (by omega)
  rw [e2] at e
  cases e
  rw [add_off]
  obtain ⟨i, r, hr, rfl⟩ : ∃ i r, r < 3 ∧ j = i * 3 + r := ⟨j / 3, j % 3, by omega, by omega⟩
  have hi : i < l.length := by omega
  have h1 := hc i hi
  have h2 := tcells_at l i hi
  match r, hr with
  | 0, _ => rw [Nat.add_zero, h2.1] at hu; rw [← hu, ← h1.1]; rfl
  | 1, _ => rw [h2.2.1] at hu; rw [← hu, ← h1.2.1]; rfl
  | 2, _ => rw [h2.2.2] at hu; rw [← hu, ← h1.2.2]; rfl
theorem info_task : (Try.prog.info? 48).map (fun i => (i.zero, i.size, i.bytes)) = some (some (.agg #[.int .i64 0, .int .i64 0, .int .i64 0]), 3, 24) := by kernel_rfl

/-- append of tasks onto a row of the call's own, at a step of a region that draws its order. -/
theorem step_tasks (w : World) {ops : Array Oper} {o : Oper} {a : Act} {K : Act → World → Prop} {Q : Exit → Act → World → Prop} {E : Prop} (hgd : o.guard = none) (s x : Operand)
    (ho : o.op = .call { callee := .builtin .append, args := #[s, x], argTypes := #[22, 22] })
    (base : Nat) (v : Value) (n : Nat) (L : List (Int × Int × Int)) (hs : a.eval s = v) (hown : w.ownsRow base 48 3 v n (tcells L))
    (ao : Option Addr) (m c : Nat) (M : List (Int × Int × Int)) (hx : a.eval x = .slice ao m c) (hM : M.length = m) (hnil : ao = none → m = 0 ∧ c = 0) (B : Nat) (hr : Tks B w ao M) (N : Nat) (hN : n + m = N) (hm : N ≤ 1000000000) (hbase : base ≤ w.heap.size)
    (h : ∀ A cap w', w'.ownsRow base 48 3 (.slice A N cap) N (tcells (L ++ M)) → w.grownBy w' v.ownBlock → K (a.put o.dst (.slice A N cap)) w') :
    if Region.wanted o (yielded ops a.tmps) = true then Oper.wp Try.prog o a w K Q else E := by
  subst hN
  obtain ⟨i0, hi, hz0, hz1, hz2⟩ := info_parts info_task
  refine step_append_all w hgd s x 22 ho base 48 i0 (.agg #[.int .i64 0, .int .i64 0, .int .i64 0]) 3 24 Try.underlying22 hi hz0 hz1 hz2 rfl (by decide) v n (tcells L) hs hown ao m c (tcells M) hx hnil (by rw [tcells_len, hM]) hr.news (tcells_one M) (by unfold maxLen; omega) (by omega) hbase w.heap.size rfl ?_
  intro A cap w' h1 h2 _
  refine h A cap w' ?_ h2
  rw [tcells_two]
  exact h1
/-- What lies in a block that did not grow reads as it did. -/
theorem Tks.far {w w' : World} {row : Option Nat} {g B : Nat} {M : List (Int × Int × Int)} (h : Tks B w (some ⟨g, 0, none⟩) M) (hg : w.grownBy w' row) (hlt : g < w.heap.size) (hne : some g ≠ row) : Tks B w' (some ⟨g, 0, none⟩) M := fun hn => by
  obtain ⟨b, o, e, hB, hc⟩ := h hn
  cases e
  exact ⟨g, 0, rfl, hB, fun i hi => ⟨(hg.cell_far _ hlt hne).trans (hc i hi).1, (hg.cell_far _ hlt hne).trans (hc i hi).2.1, (hg.cell_far _ hlt hne).trans (hc i hi).2.2⟩⟩
theorem tks_one (w : World) (g : Nat) (a b c : Int) (hg : g < w.heap.size) (h0 : w.cell? ⟨g, 0, none⟩ = some (.int .i64 a)) (h1 : w.cell? ⟨g, 1, none⟩ = some (.int .i64 b)) (h2 : w.cell? ⟨g, 2, none⟩ = some (.int .i64 c)) : Tks w.heap.size w (some ⟨g, 0, none⟩) [(a, b, c)] := fun _ =>
  ⟨g, 0, rfl, hg, fun i hi => by
    obtain rfl : i = 0 := by simp at hi; omega
    exact ⟨h0, h1, h2⟩⟩
end Go.Proofs.Ytlpmcmgalodfeaa
