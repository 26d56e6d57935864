/-
  Slices of ints: what reads as a list of numbers; rows of numbers that the call owns; append of numbers, in a region that draws its order too.
-/
import Derived.Test.YtcofehmgnpmecaaRows
import Derived.Test.YtcofehmgnpmecaaAppend
import Derived.Handy
namespace Go.Proofs.Ytcofehmgnpmecaa
open Go.RowKit

theorem info_int : (Try.prog.info? 3).map (fun i => (i.zero, i.size, i.bytes)) = some (some (.int .i64 0), 1, 8) := by kernel_rfl

/-- A slice of numbers at A, below block B, reads as the list n. -/
def NumsI (B : Nat) (w : World) (A : Option Addr) (n : List Int) : Prop :=
  0 < n.length → ∃ b o, A = some ⟨b, o, none⟩ ∧ b < B ∧ ∀ i, i < n.length → w.cell? ⟨b, o + i, none⟩ = some (.int .i64 (n.getD i 0))
theorem NumsI.below {B : Nat} {w w' : World} {A : Option Addr} {n : List Int} (h : NumsI B w A n) (hb : Below B w w') : NumsI B w' A n := fun hn => by
  obtain ⟨b, o, e, hB, hc⟩ := h hn
  exact ⟨b, o, e, hB, fun i hi => (hb.cell (p := ⟨b, _, none⟩) hB).trans (hc i hi)⟩
theorem NumsI.mono {B B' : Nat} {w : World} {A : Option Addr} {n : List Int} (h : NumsI B w A n) (hB : B ≤ B') : NumsI B' w A n := fun hn => by
  obtain ⟨b, o, e, hb, hc⟩ := h hn
  exact ⟨b, o, e, by omega, hc⟩
theorem NumsI.later {w w' : World} {A : Option Addr} {n : List Int} (h : NumsI w.heap.size w A n) (hb : Below w.heap.size w w') : NumsI w'.heap.size w' A n := (h.below hb).mono hb.size
/-- A list of numbers, as cells. -/
def ncells (l : List Int) : List Value := l.map (Value.int .i64)
theorem NumsI.own {w : World} {base : Nat} {A : Option Addr} {n c : Nat} {e : TypeId} {l : List Int} (h : w.ownsRow base e 1 (.slice A n c) n (ncells l)) : NumsI w.heap.size w A l := fun hn => by
  have hl := h.1
  simp only [ncells, List.length_map, Nat.mul_one] at hl
  rcases h.2 with ⟨hv, h0⟩ | ⟨g, cap, cur, hv, _, hg, _⟩
  · omega
  · simp only [Value.slice.injEq, true_and] at hv
    obtain ⟨rfl, rfl⟩ := hv
    have hlt := (h.lt g rfl).2
    refine ⟨g, 0, rfl, hlt, fun i hi => ?_⟩
    rw [Nat.zero_add, h.cellAt _ (by omega), ncells, List.getElem?_map, List.getElem?_eq_getElem hi, List.getD_eq_getElem?_getD, List.getElem?_eq_getElem hi]
    rfl
/-- What is handed back reads as a list. -/
def NumsBack (L : List Int) (w : World) (e : Ending) (w' : World) : Prop := ∃ A c, e = .returned (.slice A L.length c) ∧ L.length ≤ c ∧ NumsI w'.heap.size w' A L ∧ Below w.heap.size w w'
theorem nums_back {L : List Int} {w w' : World} {base : Nat} {A : Option Addr} {n c : Nat} {e : TypeId} (hb : Below w.heap.size w w') (hn : n = L.length) (h : w'.ownsRow base e 1 (.slice A n c) n (ncells L)) : NumsBack L w (.returned (.slice A n c)) w' := by
  subst hn
  exact ⟨A, c, rfl, own_cap h, NumsI.own h, hb⟩
theorem nums_none {w w' : World} (hb : Below w.heap.size w w') : NumsBack [] w (.returned (.slice none 0 0)) w' := ⟨none, 0, rfl, Nat.le_refl _, fun h => by simp at h, hb⟩

/-- n numbers, as cells. -/
def nrow (f : Nat → Int) (n : Nat) : List Value := (List.range n).map fun i => .int .i64 (f i)
theorem nrow_len (f : Nat → Int) (n : Nat) : (nrow f n).length = n := by simp [nrow]
theorem nrow_at (f : Nat → Int) {n i : Nat} (h : i < n) : (nrow f n)[i]? = some (.int .i64 (f i)) := by simp [nrow, h]
theorem nrow_is {f : Nat → Int} {n : Nat} {xs : List Value} (hl : xs.length = n) (h : ∀ i, i < n → xs[i]? = some (.int .i64 (f i))) : xs = nrow f n := by
  refine List.ext_getElem? fun i => ?_
  by_cases hi : i < n
  · rw [h i hi, nrow_at f hi]
  · rw [List.getElem?_eq_none (by omega), List.getElem?_eq_none (by rw [nrow_len]; omega)]
theorem nrow_set {f g : Nat → Int} {n k : Nat} {u : Value} (hk : u = .int .i64 (g k)) (h : ∀ i, i ≠ k → f i = g i) : (nrow f n).set k u = nrow g n := by
  refine nrow_is (by rw [List.length_set, nrow_len]) fun i hi => ?_
  rw [List.getElem?_set]
  by_cases hki : k = i
  · subst hki
    rw [if_pos rfl, if_pos (by rw [nrow_len]; exact hi), hk]
  · rw [if_neg hki, nrow_at f hi, h i (Ne.symm hki)]
theorem nrow_same {f g : Nat → Int} {n : Nat} (h : ∀ i, i < n → f i = g i) : nrow f n = nrow g n := nrow_is (nrow_len f n) fun i hi => by rw [nrow_at f hi, h i hi]
theorem ncells_snoc (L : List Int) (q : Int) : ncells (L ++ [q]) = ncells L ++ [.int .i64 q] := by simp [ncells]

/-- A slice's value reads as a list of numbers, in blocks below B. -/
def Reads (B : Nat) (w : World) (ao : Option Addr) (m c : Nat) (M : List Int) : Prop := M.length = m ∧ (ao = none → m = 0 ∧ c = 0) ∧ ∀ ad, ao = some ad → ad.block < B ∧ ∀ j, j < m → w.cell? (ad.add j) = some (.int .i64 (M.getD j 0))
theorem Reads.below {B : Nat} {w w' : World} {ao : Option Addr} {m c : Nat} {M : List Int} (h : Reads B w ao m c M) (hb : Below B w w') : Reads B w' ao m c M :=
  ⟨h.1, h.2.1, fun ad e => ⟨(h.2.2 ad e).1, fun j hj => by
    have h1 := (h.2.2 ad e).1
    have h2 : (ad.add j).block = ad.block := by unfold Addr.add; split <;> rfl
    rw [hb.cell (p := ad.add j) (by rw [h2]; exact h1)]
    exact (h.2.2 ad e).2 j hj⟩⟩
theorem add_off (g o j : Nat) : (⟨g, o, none⟩ : Addr).add j = ⟨g, o + j, none⟩ := by
  unfold Addr.add
  split <;> simp_all
theorem reads_take {w : World} {base : Nat} {e : TypeId} {n c g k : Nat} {L : List Int} (h : w.ownsRow base e 1 (.slice (some ⟨g, 0, none⟩) n c) n (ncells L)) (hk : k ≤ n) (c2 : Nat) : Reads w.heap.size w (some ⟨g, 0, none⟩) k c2 (L.take k) := by
  have hl := h.1
  simp only [ncells, List.length_map, Nat.mul_one] at hl
  refine ⟨by rw [List.length_take]; omega, (fun h => by cases h), fun ad e => ?_⟩
  cases e
  refine ⟨(h.lt g rfl).2, fun j hj => ?_⟩
  rw [add_off, Nat.zero_add, h.cellAt _ (by omega), ncells, List.getElem?_map, List.getElem?_eq_getElem (by omega), List.getD_eq_getElem?_getD, List.getElem?_take, if_pos hj, List.getElem?_eq_getElem (by omega)]
  rfl
theorem reads_drop {w : World} {base : Nat} {e : TypeId} {n c g k : Nat} {L : List Int} (h : w.ownsRow base e 1 (.slice (some ⟨g, 0, none⟩) n c) n (ncells L)) (hk : k ≤ n) (c2 : Nat) : Reads w.heap.size w (some ⟨g, k, none⟩) (n - k) c2 (L.drop k) := by
  have hl := h.1
  simp only [ncells, List.length_map, Nat.mul_one] at hl
  refine ⟨by rw [List.length_drop]; omega, (fun h => by cases h), fun ad e => ?_⟩
  cases e
  refine ⟨(h.lt g rfl).2, fun j hj => ?_⟩
  rw [add_off, h.cellAt _ (by omega), ncells, List.getElem?_map, List.getElem?_eq_getElem (by omega), List.getD_eq_getElem?_getD, List.getElem?_drop, List.getElem?_eq_getElem (by omega)]
  rfl
theorem reads_none (B : Nat) (w : World) : Reads B w none 0 0 [] := ⟨rfl, fun _ => ⟨rfl, rfl⟩, fun _ h => by cases h⟩
theorem reads_empty {B : Nat} {w : World} {g o c : Nat} (h : g < B) : Reads B w (some ⟨g, o, none⟩) 0 c [] := ⟨rfl, (fun h => by cases h), fun ad e => by
  cases e
  exact ⟨h, fun j hj => by omega⟩⟩

theorem reads_own {w : World} {base : Nat} {e : TypeId} {n c : Nat} {A : Option Addr} {L : List Int} (h : w.ownsRow base e 1 (.slice A n c) n (ncells L)) : Reads w.heap.size w A n c (L.drop 0) := by
  rw [List.drop_zero]
  rcases h.2 with ⟨h1, h2⟩ | ⟨g, cap, cur, h1, h2, h3, h4⟩
  · cases h1
    have hl := h.1
    obtain rfl : L = [] := List.eq_nil_of_length_eq_zero (by simpa [ncells] using hl)
    exact reads_none _ _
  · cases h1
    have := reads_take h (Nat.le_refl _) c
    have hl := h.1
    simp only [ncells, List.length_map, Nat.mul_one] at hl
    rwa [List.take_of_length_le (by omega)] at this
theorem reads_head {w : World} {base : Nat} {e : TypeId} {n c : Nat} {A : Option Addr} {L : List Int} (h : w.ownsRow base e 1 (.slice A n c) n (ncells L)) : Reads w.heap.size w A 0 c (L.take 0) := by
  rw [List.take_zero]
  rcases h.2 with ⟨h1, h2⟩ | ⟨g, cap, cur, h1, h2, h3, h4⟩
  · cases h1
    exact reads_none _ _
  · cases h1
    exact reads_empty (h.lt g rfl).2
theorem reads_cut {w : World} {base : Nat} {e : TypeId} {n c g k : Nat} {L : List Int} (h : w.ownsRow base e 1 (.slice (some ⟨g, 0, none⟩) n c) n (ncells L)) (hk : k ≤ n) : Reads w.heap.size w (if c = k then some ⟨g, 0, none⟩ else some ⟨g, k, none⟩) (n - k) (c - k) (L.drop k) := by
  have hl := h.1
  simp only [ncells, List.length_map, Nat.mul_one] at hl
  split
  · rename_i hck
    have hc := own_cap h
    have e1 : n - k = 0 := by omega
    have e2 : L.drop k = [] := List.drop_eq_nil_of_le (by omega)
    rw [e1, e2]
    exact reads_empty (h.lt g rfl).2
  · exact reads_drop h hk _

/-- append of numbers onto a row of the call's own, at a step of a region that draws its order. -/
theorem step_ints (w : World) {ops : Array Oper} {o : Oper} {a : Act} {K : Act → World → Prop} {Q : Exit → Act → World → Prop} {E : Prop} (hgd : o.guard = none) (s x : Operand)
    (ho : o.op = .call { callee := .builtin .append, args := #[s, x], argTypes := #[58, 58] })
    (base : Nat) (v : Value) (n : Nat) (L : List Int) (hs : a.eval s = v) (hown : w.ownsRow base 3 1 v n (ncells L))
    (ao : Option Addr) (m c : Nat) (M : List Int) (hx : a.eval x = .slice ao m c) (B : Nat) (hr : Reads B w ao m c M) (N : Nat) (hN : n + m = N) (hm : N ≤ 1000000000) (hbase : base ≤ w.heap.size)
    (h : ∀ A cap w', w'.ownsRow base 3 1 (.slice A N cap) N (ncells (L ++ M)) → w.grownBy w' v.ownBlock → K (a.put o.dst (.slice A N cap)) w') :
    if Region.wanted o (yielded ops a.tmps) = true then Oper.wp Try.prog o a w K Q else E := by
  subst hN
  obtain ⟨i0, hi, hz0, hz1, hz2⟩ := info_parts info_int
  refine step_append_all w hgd s x 58 ho base 3 i0 (.int .i64 0) 1 8 Try.underlying58 hi hz0 hz1 hz2 rfl (by decide) v n (ncells L) hs hown ao m c (ncells M) hx hr.2.1 (by simp [ncells, hr.1]) ?_ ?_ (by unfold maxLen; omega) (by omega) hbase w.heap.size rfl ?_
  · intro ad e j u hu
    have hj : j < M.length := by
      have := (List.getElem?_eq_some_iff.1 hu).1
      simpa [ncells] using this
    rw [(hr.2.2 ad e).2 j (by rw [← hr.1]; exact hj), ← hu, ncells, List.getElem?_map, List.getElem?_eq_getElem hj, List.getD_eq_getElem?_getD, List.getElem?_eq_getElem hj]
    rfl
  · intro u hu
    simp only [ncells, List.mem_map] at hu
    obtain ⟨y, -, rfl⟩ := hu
    rfl
  · intro A cap w' h1 h2 _
    refine h A cap w' ?_ h2
    rw [ncells, List.map_append]
    exact h1

theorem own_empty2 {w : World} {base : Nat} {e : TypeId} {size : Nat} {o : Obj} (hb : base ≤ w.heap.size) : ((w.alloc o).alloc (.cells #[] e)).ownsRow base e size (.slice (some ⟨w.heap.size + 1, 0, none⟩) 0 0) 0 [] := by
  have := own_empty (w := w.alloc o) (base := base) (e := e) (size := size) (by simp; omega)
  simpa using this
theorem own_lower {w : World} {base base' n size : Nat} {e : TypeId} {v : Value} {xs : List Value} (h : w.ownsRow base e size v n xs) (hb : base' ≤ base) : w.ownsRow base' e size v n xs := by
  refine ⟨h.1, ?_⟩
  rcases h.2 with h2 | ⟨g, cap, cur, h1, h2, h3⟩
  · exact Or.inl h2
  · exact Or.inr ⟨g, cap, cur, h1, Nat.le_trans hb h2, h3⟩
theorem reads_one {w : World} (a : Int) (t : TypeId) : Reads (w.heap.size + 1) (w.alloc (.cells #[.int .i64 a] t)) (some ⟨w.heap.size, 0, none⟩) 1 1 [a] := by
  refine ⟨rfl, (fun h => by cases h), fun ad e => ?_⟩
  cases e
  refine ⟨Nat.lt_succ_self _, fun j hj => ?_⟩
  obtain rfl : j = 0 := by omega
  rw [add_off, World.cell?_alloc_at _ _ _ _ rfl]
  rfl
theorem reads_one2 {w : World} {o : Obj} (a : Int) (t : TypeId) : Reads (w.heap.size + 2) ((w.alloc o).alloc (.cells #[.int .i64 a] t)) (some ⟨w.heap.size + 1, 0, none⟩) 1 1 [a] := by
  have := reads_one (w := w.alloc o) a t
  simpa using this
/-- What lies in a block that did not grow reads as it did. -/
theorem reads_far {w w' : World} {row : Option Nat} {g m c : Nat} {B : Nat} {M : List Int} (h : Reads B w (some ⟨g, 0, none⟩) m c M) (hg : w.grownBy w' row) (hlt : g < w.heap.size) (hne : some g ≠ row) : Reads B w' (some ⟨g, 0, none⟩) m c M :=
  ⟨h.1, h.2.1, fun ad e => ⟨(h.2.2 ad e).1, fun j hj => by
    have h2 := (h.2.2 ad e).2 j hj
    cases e
    rw [add_off] at h2 ⊢
    rw [hg.cell_far _ hlt hne]
    exact h2⟩⟩

/-- append of numbers onto a row of the call's own, at a step of a region that draws its order; where the row lies. -/
theorem step_ints_at (w : World) {ops : Array Oper} {o : Oper} {a : Act} {K : Act → World → Prop} {Q : Exit → Act → World → Prop} {E : Prop} (hgd : o.guard = none) (s x : Operand)
    (ho : o.op = .call { callee := .builtin .append, args := #[s, x], argTypes := #[58, 58] })
    (base : Nat) (v : Value) (n : Nat) (L : List Int) (hs : a.eval s = v) (hown : w.ownsRow base 3 1 v n (ncells L))
    (ao : Option Addr) (m c : Nat) (M : List Int) (hx : a.eval x = .slice ao m c) (B : Nat) (hr : Reads B w ao m c M) (N : Nat) (hN : n + m = N) (hm : N ≤ 1000000000) (hbase : base ≤ w.heap.size)
    (h : ∀ A cap w', w'.ownsRow base 3 1 (.slice A N cap) N (ncells (L ++ M)) → w.grownBy w' v.ownBlock → ((Value.slice A N cap).ownBlock = v.ownBlock ∨ (Value.slice A N cap).ownBlock = some w.heap.size) → K (a.put o.dst (.slice A N cap)) w') :
    if Region.wanted o (yielded ops a.tmps) = true then Oper.wp Try.prog o a w K Q else E := by
  subst hN
  obtain ⟨i0, hi, hz0, hz1, hz2⟩ := info_parts info_int
  refine step_append_all w hgd s x 58 ho base 3 i0 (.int .i64 0) 1 8 Try.underlying58 hi hz0 hz1 hz2 rfl (by decide) v n (ncells L) hs hown ao m c (ncells M) hx hr.2.1 (by simp [ncells, hr.1]) ?_ ?_ (by unfold maxLen; omega) (by omega) hbase w.heap.size rfl ?_
  · intro ad e j u hu
    have hj : j < M.length := by
      have := (List.getElem?_eq_some_iff.1 hu).1
      simpa [ncells] using this
    rw [(hr.2.2 ad e).2 j (by rw [← hr.1]; exact hj), ← hu, ncells, List.getElem?_map, List.getElem?_eq_getElem hj, List.getD_eq_getElem?_getD, List.getElem?_eq_getElem hj]
    rfl
  · intro u hu
    simp only [ncells, List.mem_map] at hu
    obtain ⟨y, -, rfl⟩ := hu
    rfl
  · intro A cap w' h1 h2 h3
    refine h A cap w' ?_ h2 h3
    rw [ncells, List.map_append]
    exact h1

theorem two_apart {v v' y : Value} {H : Nat} (h : y.ownBlock = none ∨ y.ownBlock ≠ v.ownBlock) (hat : v'.ownBlock = v.ownBlock ∨ v'.ownBlock = some H) (hy : ∀ k, y.ownBlock = some k → k < H) : y.ownBlock = none ∨ y.ownBlock ≠ v'.ownBlock := by
  rcases hat with h2 | h2
  · rw [h2]
    exact h
  · rw [h2]
    by_cases hn : y.ownBlock = none
    · exact Or.inl hn
    · exact Or.inr fun e => absurd (hy H e) (Nat.lt_irrefl H)
theorem two_turn {v y : Value} (h : y.ownBlock = none ∨ y.ownBlock ≠ v.ownBlock) : v.ownBlock = none ∨ v.ownBlock ≠ y.ownBlock := by
  rcases h with h | h
  · by_cases hv : v.ownBlock = none
    · exact Or.inl hv
    · exact Or.inr fun e => hv (e.trans h)
  · exact Or.inr (Ne.symm h)
end Go.Proofs.Ytcofehmgnpmecaa
