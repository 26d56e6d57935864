/-
  The wheel's slots in memory: rows of pointers, each to a timer that knows its place in its row; what a change of one slot leaves of them.
-/
import Derived.Test.YtadppcmbkccmnaaWOnly
import Derived.Test.YtadppcmbkccmnaaWMath
namespace Go.Proofs.Ytadppcmbkccmnaa
open Go.RowKit Wh

/-- A timer: its block, when it is due, its handle, what for. -/
structure Tm where
  b : Nat
  tick : Nat
  handle : Nat
  what : Int
def ptrTo (x : Tm) : Value := .pointer (some ⟨x.b, 0, none⟩)
/-- A timer's cells, at place p. -/
def tmCells (x : Tm) (p : Nat) : Array Value := #[.int .i64 (x.tick : Nat), .int .i64 (x.handle : Nat), .int .i64 x.what, .int .i64 (p : Nat)]
def tmObj (x : Tm) (p : Nat) : Obj := .cells (tmCells x p) 67 (0, 0)
theorem tm_cell {w : World} {b p j : Nat} {x : Tm} {u : Value} (h : w.heap[b]? = some (tmObj x p)) (hu : (tmCells x p)[j]? = some u) : w.cell? ⟨b, j, none⟩ = some u := by
  simp only [World.cell?, h, tmObj]
  exact hu
theorem tm_free {w : World} {b p j : Nat} {x : Tm} (h : w.heap[b]? = some (tmObj x p)) : w.frozen? ⟨b, j, none⟩ = false := by simp [World.frozen?, h, tmObj]
theorem tm_moved {w : World} {b p q : Nat} {x : Tm} (h : w.heap[b]? = some (tmObj x p)) : (w.setCell ⟨b, 3, none⟩ (.int .i64 (q : Nat))).heap[b]? = some (tmObj x q) := by
  rw [heap_setCell_same w b 3 (tmCells x p) _ _ h]
  rfl

/-- f, but y at i. -/
def upd {α : Type} (f : Nat → α) (i : Nat) (y : α) : Nat → α := fun k => if k = i then y else f k
theorem upd_at {α : Type} (f : Nat → α) (i : Nat) (y : α) : upd f i y i = y := if_pos rfl
theorem upd_off {α : Type} (f : Nat → α) {i k : Nat} (y : α) (h : k ≠ i) : upd f i y k = f k := if_neg h

/-- The slots' rows and the timers in them, as they stand. -/
structure Slots (w : World) (B : Nat) (S : Nat → Value) (X : Nat → List Tm) : Prop where
  row : ∀ i, w.ownsRow B 62 1 (S i) (X i).length ((X i).map ptrTo)
  thing : ∀ (i j : Nat) (x : Tm), (X i)[j]? = some x → w.heap[x.b]? = some (tmObj x j)
  base : ∀ (i : Nat) (x : Tm), x ∈ X i → B ≤ x.b
  apart : ∀ (i j i' j' : Nat) (x y : Tm), (X i)[j]? = some x → (X i')[j']? = some y → x.b = y.b → i = i' ∧ j = j'
  off : ∀ (i i' : Nat) (x : Tm), x ∈ X i → (S i').ownBlock ≠ some x.b
  rows : ∀ (i i' k : Nat), (S i).ownBlock = some k → (S i').ownBlock = some k → i = i'

/-- The blocks that slots are in. -/
def SOwn (S : Nat → Value) (X : Nat → List Tm) (k : Nat) : Prop := (∃ i, (S i).ownBlock = some k) ∨ ∃ i x, x ∈ X i ∧ x.b = k

section
variable {w w' : World} {B : Nat} {S : Nat → Value} {X : Nat → List Tm}
theorem Slots.block (h : Slots w B S X) {i : Nat} {x : Tm} (hx : x ∈ X i) : ∃ j, (X i)[j]? = some x ∧ w.heap[x.b]? = some (tmObj x j) := by
  obtain ⟨j, hj, e⟩ := List.getElem_of_mem hx
  have h1 : (X i)[j]? = some x := by rw [List.getElem?_eq_getElem hj, e]
  exact ⟨j, h1, h.thing i j x h1⟩
theorem Slots.lt (h : Slots w B S X) {i : Nat} {x : Tm} (hx : x ∈ X i) : x.b < w.heap.size := by
  obtain ⟨j, _, h1⟩ := h.block hx
  exact lt_of_block h1
theorem Slots.own_lt (h : Slots w B S X) {k : Nat} (hk : SOwn S X k) : B ≤ k ∧ k < w.heap.size := by
  rcases hk with ⟨i, hk⟩ | ⟨i, x, hx, rfl⟩
  · exact (h.row i).lt k hk
  · exact ⟨h.base i x hx, h.lt hx⟩
theorem row_kept {v : Value} {e : TypeId} {n size : Nat} {xs : List Value} (h : w.ownsRow B e size v n xs) (hb : ∀ k, v.ownBlock = some k → w'.heap[k]? = w.heap[k]?) : w'.ownsRow B e size v n xs := by
  obtain ⟨h1, h2⟩ := h
  refine ⟨h1, ?_⟩
  rcases h2 with h2 | ⟨g, cap, cur, hv, hg, hh, r⟩
  · exact Or.inl h2
  · exact Or.inr ⟨g, cap, cur, hv, hg, (hb g (by rw [hv]; rfl)).trans hh, r⟩
theorem Slots.kept (h : Slots w B S X) (hb : ∀ k, SOwn S X k → w'.heap[k]? = w.heap[k]?) : Slots w' B S X :=
  ⟨fun i => row_kept (h.row i) fun k hk => hb k (Or.inl ⟨i, hk⟩), fun i j x hx => (hb _ (Or.inr ⟨i, x, List.mem_of_getElem? hx, rfl⟩)).trans (h.thing i j x hx), h.base, h.apart, h.off, h.rows⟩
theorem Slots.only (h : Slots w B S X) {T : Nat → Prop} (ho : Only T w w') (hT : ∀ k, SOwn S X k → ¬ T k) : Slots w' B S X := h.kept fun k hk => ho.block k (h.own_lt hk).2 (hT k hk)
theorem Slots.below (h : Slots w B S X) (hb : Below w.heap.size w w') : Slots w' B S X := h.kept fun k hk => hb.block k (h.own_lt hk).2
theorem Slots.shape (h : Slots w B S X) (i : Nat) : ∃ A c, S i = .slice A (X i).length c ∧ (X i).length ≤ c ∧ c ≤ 9223372036854775807 := own_shape (h.row i)

/-- One slot is another one's. -/
theorem Slots.change (h : Slots w B S X) (i : Nat) (v : Value) (Y : List Tm)
    (h1 : w'.ownsRow B 62 1 v Y.length (Y.map ptrTo)) (h2 : ∀ (j : Nat) (x : Tm), Y[j]? = some x → w'.heap[x.b]? = some (tmObj x j)) (h3 : ∀ x, x ∈ Y → B ≤ x.b)
    (h4 : ∀ (j j' : Nat) (x y : Tm), Y[j]? = some x → Y[j']? = some y → x.b = y.b → j = j') (h5 : ∀ y, y ∈ Y → ∀ i', i' ≠ i → ∀ x, x ∈ X i' → x.b ≠ y.b)
    (h6 : ∀ y, y ∈ Y → v.ownBlock ≠ some y.b) (h7 : ∀ y, y ∈ Y → ∀ i', i' ≠ i → (S i').ownBlock ≠ some y.b) (h8 : ∀ i', i' ≠ i → ∀ k, v.ownBlock = some k → (S i').ownBlock ≠ some k)
    (h9 : ∀ i', i' ≠ i → ∀ x, x ∈ X i' → v.ownBlock ≠ some x.b) (hk : ∀ i', i' ≠ i → (∀ k, (S i').ownBlock = some k → w'.heap[k]? = w.heap[k]?) ∧ ∀ x, x ∈ X i' → w'.heap[x.b]? = w.heap[x.b]?) :
    Slots w' B (upd S i v) (upd X i Y) where
  row i' := by
    by_cases e : i' = i
    · subst e
      rw [upd_at, upd_at]
      exact h1
    · rw [upd_off _ _ e, upd_off _ _ e]
      exact row_kept (h.row i') (hk i' e).1
  thing i' j x hx := by
    by_cases e : i' = i
    · subst e
      rw [upd_at] at hx
      exact h2 j x hx
    · rw [upd_off _ _ e] at hx
      exact ((hk i' e).2 x (List.mem_of_getElem? hx)).trans (h.thing i' j x hx)
  base i' x hx := by
    by_cases e : i' = i
    · subst e
      rw [upd_at] at hx
      exact h3 x hx
    · rw [upd_off _ _ e] at hx
      exact h.base i' x hx
  apart a j a' j' x y hx hy exy := by
    by_cases e : a = i <;> by_cases e' : a' = i
    · subst e
      subst e'
      rw [upd_at] at hx hy
      exact ⟨rfl, h4 j j' x y hx hy exy⟩
    · subst e
      rw [upd_at] at hx
      rw [upd_off _ _ e'] at hy
      exact absurd exy.symm (h5 x (List.mem_of_getElem? hx) a' e' y (List.mem_of_getElem? hy))
    · subst e'
      rw [upd_at] at hy
      rw [upd_off _ _ e] at hx
      exact absurd exy (h5 y (List.mem_of_getElem? hy) a e x (List.mem_of_getElem? hx))
    · rw [upd_off _ _ e] at hx
      rw [upd_off _ _ e'] at hy
      exact h.apart a j a' j' x y hx hy exy
  off a a' x hx := by
    by_cases e : a = i <;> by_cases e' : a' = i
    · subst e
      subst e'
      rw [upd_at] at hx ⊢
      exact h6 x hx
    · subst e
      rw [upd_at] at hx
      rw [upd_off _ _ e']
      exact h7 x hx a' e'
    · subst e'
      rw [upd_off _ _ e] at hx
      rw [upd_at]
      exact h9 a e x hx
    · rw [upd_off _ _ e] at hx
      rw [upd_off _ _ e']
      exact h.off a a' x hx
  rows a a' k ha ha' := by
    by_cases e : a = i <;> by_cases e' : a' = i
    · rw [e, e']
    · subst e
      rw [upd_at] at ha
      rw [upd_off _ _ e'] at ha'
      exact absurd ha' (h8 a' e' k ha)
    · subst e'
      rw [upd_at] at ha'
      rw [upd_off _ _ e] at ha
      exact absurd ha (h8 a e k ha')
    · rw [upd_off _ _ e] at ha
      rw [upd_off _ _ e'] at ha'
      exact h.rows a a' k ha ha'

/-- A timer more, behind all others of its slot. -/
theorem Slots.put (h : Slots w B S X) {i hb n : Nat} {v : Value} {x : Tm} (hn : (X i).length = n) (hx : ¬ SOwn S X x.b) (hB : B ≤ x.b) (hrow : w'.ownsRow B 62 1 v (n + 1) ((X i).map ptrTo ++ [ptrTo x]))
    (hv : v.ownBlock = (S i).ownBlock ∨ ∀ k, v.ownBlock = some k → w.heap.size ≤ k) (hvx : v.ownBlock ≠ some x.b) (hxo : w'.heap[x.b]? = some (tmObj x n)) (hon : Only (fun k => (S i).ownBlock = some k ∨ k = x.b ∨ k = hb) w w') (hh : ¬ SOwn S X hb) :
    Slots w' B (upd S i v) (upd X i (X i ++ [x])) := by
  subst hn
  have hat : ∀ (j : Nat) (y : Tm), (X i ++ [x])[j]? = some y → ((X i)[j]? = some y) ∨ (j = (X i).length ∧ y = x) := fun j y hy => by
    by_cases hj : j < (X i).length
    · rw [List.getElem?_append_left hj] at hy
      exact Or.inl hy
    · have hlen : j < (X i ++ [x]).length := (List.getElem?_eq_some_iff.1 hy).1
      rw [List.length_append] at hlen
      simp only [List.length_singleton] at hlen
      obtain rfl : j = (X i).length := by omega
      rw [List.getElem?_append_right (Nat.le_refl _), Nat.sub_self] at hy
      simp only [List.getElem?_cons_zero, Option.some.injEq] at hy
      exact Or.inr ⟨rfl, hy.symm⟩
  have hmem : ∀ y, y ∈ X i ++ [x] → y ∈ X i ∨ y = x := fun y hy => by
    rcases List.mem_append.1 hy with hy | hy
    · exact Or.inl hy
    · exact Or.inr (by simpa using hy)
  have hoff : ∀ i' y, y ∈ X i' → v.ownBlock ≠ some y.b := fun i' y hy e => by
    rcases hv with h1 | h1
    · exact h.off i' i y hy (h1 ▸ e)
    · have := h1 _ e
      have := h.lt hy
      omega
  refine h.change i v (X i ++ [x]) ?_ ?_ ?_ ?_ ?_ ?_ ?_ ?_ ?_ ?_
  · rw [List.length_append, List.map_append]
    exact hrow
  · intro j y hy
    rcases hat j y hy with h1 | ⟨rfl, rfl⟩
    · have hm := List.mem_of_getElem? h1
      refine (hon.block _ (h.lt hm) ?_).trans (h.thing i j y h1)
      rintro (h2 | h2 | h2)
      · exact h.off i i y hm h2
      · exact hx (Or.inr ⟨i, y, hm, h2⟩)
      · exact hh (Or.inr ⟨i, y, hm, h2⟩)
    · exact hxo
  · intro y hy
    rcases hmem y hy with h1 | rfl
    · exact h.base i y h1
    · exact hB
  · intro j j' y z hy hz e
    rcases hat j y hy with h1 | ⟨rfl, rfl⟩ <;> rcases hat j' z hz with h2 | ⟨rfl, rfl⟩
    · exact (h.apart i j i j' y z h1 h2 e).2
    · exact absurd (Or.inr ⟨i, y, List.mem_of_getElem? h1, e⟩) hx
    · exact absurd (Or.inr ⟨i, z, List.mem_of_getElem? h2, e.symm⟩) hx
    · rfl
  · intro y hy i' hi' z hz e
    rcases hmem y hy with h1 | rfl
    · obtain ⟨j, hj, _⟩ := h.block hz
      obtain ⟨j', hj', _⟩ := h.block h1
      exact hi' (h.apart i' j i j' z y hj hj' e).1
    · exact hx (Or.inr ⟨i', z, hz, e⟩)
  · intro y hy
    rcases hmem y hy with h1 | rfl
    · exact hoff i y h1
    · exact hvx
  · intro y hy i' _
    rcases hmem y hy with h1 | rfl
    · exact h.off i i' y h1
    · exact fun e => hx (Or.inl ⟨i', e⟩)
  · intro i' hi' k hk1 hk2
    rcases hv with h1 | h1
    · exact hi' (h.rows i' i k hk2 (h1 ▸ hk1))
    · have := h1 k hk1
      have := ((h.row i').lt k hk2).2
      omega
  · intro i' _ y hy
    exact hoff i' y hy
  · intro i' hi'
    refine ⟨fun k hk => hon.block k ((h.row i').lt k hk).2 ?_, fun y hy => hon.block _ (h.lt hy) ?_⟩
    · rintro (h1 | h1 | h1)
      · exact hi' (h.rows i' i k hk h1)
      · exact hx (Or.inl ⟨i', by rw [← h1]; exact hk⟩)
      · exact hh (Or.inl ⟨i', by rw [← h1]; exact hk⟩)
    · rintro (h1 | h1 | h1)
      · exact h.off i' i y hy h1
      · exact hx (Or.inr ⟨i', y, hy, h1⟩)
      · exact hh (Or.inr ⟨i', y, hy, h1⟩)

/-- A slot's timers but the one at place p, whose place the last one takes. -/
def rem (l : List Tm) (p : Nat) (y : Tm) : List Tm := (l.set p y).take (l.length - 1)
theorem rem_at {l : List Tm} {p n j : Nat} {y z : Tm} (hn : l.length = n + 1) (hz : (rem l p y)[j]? = some z) : j < n ∧ ((j = p ∧ z = y) ∨ (j ≠ p ∧ l[j]? = some z)) := by
  unfold rem at hz
  have hj : j < n := by
    have := (List.getElem?_eq_some_iff.1 hz).1
    rw [List.length_take, List.length_set] at this
    omega
  refine ⟨hj, ?_⟩
  rw [List.getElem?_take_of_lt (by omega), List.getElem?_set] at hz
  by_cases e : p = j
  · rw [if_pos e, if_pos (by omega)] at hz
    exact Or.inl ⟨e.symm, (Option.some.inj hz).symm⟩
  · rw [if_neg e] at hz
    exact Or.inr ⟨Ne.symm e, hz⟩
theorem rem_len {l : List Tm} {p n : Nat} {y : Tm} (hn : l.length = n + 1) : (rem l p y).length = n := by
  unfold rem
  rw [List.length_take, List.length_set]
  omega
theorem rem_perm {l : List Tm} {p n : Nat} {x y : Tm} (hn : l.length = n + 1) (hx : l[p]? = some x) (hy : l[n]? = some y) : l.Perm (x :: rem l p y) := by
  have hp : p < l.length := (List.getElem?_eq_some_iff.1 hx).1
  have e1 : l = l.take n ++ [y] := by
    have h1 := List.take_append_drop n l
    have h2 : l.drop n = [y] := by
      rw [List.drop_eq_getElem_cons (by omega), List.drop_eq_nil_of_le (by omega)]
      have := (List.getElem?_eq_some_iff.1 hy).2
      rw [this]
    rw [h2] at h1
    exact h1.symm
  have hl : (l.take n).length = n := by rw [List.length_take]; omega
  unfold rem
  by_cases hpn : p = n
  · subst hpn
    rw [hx] at hy
    cases hy
    have e2 : (l.set p x).take (l.length - 1) = l.take p := by
      rw [show l.length - 1 = p by omega, List.take_set_of_le (Nat.le_refl _)]
    rw [e2]
    exact (List.Perm.of_eq e1).trans List.perm_append_comm
  · have hpl : p < (l.take n).length := by omega
    have e2 : (l.set p y).take (l.length - 1) = (l.take n).set p y := by rw [show l.length - 1 = n by omega, List.take_set]
    have hx2 : (l.take n)[p]? = some x := by rw [List.getElem?_take_of_lt (by omega)]; exact hx
    rw [e2]
    generalize l.take n = a at *
    have hxa := (List.getElem?_eq_some_iff.1 hx2).2
    rw [e1]
    have e3 : a = a.take p ++ x :: a.drop (p + 1) := by
      rw [← hxa, ← List.drop_eq_getElem_cons hpl, List.take_append_drop]
    have e4 : a.set p y = a.take p ++ y :: a.drop (p + 1) := List.set_eq_take_append_cons_drop.trans (if_pos hpl)
    rw [e4]
    refine (List.Perm.of_eq (congrArg (· ++ [y]) e3)).trans ?_
    refine List.perm_append_comm.trans ?_
    simp only [List.singleton_append]
    refine ((List.perm_middle (a := x) (l₁ := a.take p) (l₂ := a.drop (p + 1))).cons y).trans ?_
    refine (List.Perm.swap x y _).trans ?_
    exact (List.perm_middle (a := y) (l₁ := a.take p) (l₂ := a.drop (p + 1))).symm.cons x

/-- A timer fewer. -/
theorem Slots.drop (h : Slots w B S X) {i hb n p g c : Nat} {x y : Tm} (hn : (X i).length = n + 1) (hS : S i = .slice (some ⟨g, 0, none⟩) (n + 1) c) (hx : (X i)[p]? = some x) (hy : (X i)[n]? = some y)
    (hrow : w'.ownsRow B 62 1 (.slice (some ⟨g, 0, none⟩) n c) n ((rem (X i) p y).map ptrTo)) (hyo : p ≠ n → w'.heap[y.b]? = some (tmObj y p)) (hon : Only (fun k => k = g ∨ k = y.b ∨ k = hb) w w') (hh : ¬ SOwn S X hb) :
    Slots w' B (upd S i (.slice (some ⟨g, 0, none⟩) n c)) (upd X i (rem (X i) p y)) := by
  have hp : p < n + 1 := by
    rw [← hn]
    exact (List.getElem?_eq_some_iff.1 hx).1
  have hym := List.mem_of_getElem? hy
  have hown : (S i).ownBlock = some g := by rw [hS]; rfl
  have hmem : ∀ z, z ∈ rem (X i) p y → z ∈ X i := fun z hz => (rem_perm hn hx hy).mem_iff.2 (List.mem_cons_of_mem _ hz)
  refine h.change i _ (rem (X i) p y) ?_ ?_ ?_ ?_ ?_ ?_ ?_ ?_ ?_ ?_
  · rw [rem_len hn]
    exact hrow
  · intro j z hz
    obtain ⟨hj, h1⟩ := rem_at hn hz
    rcases h1 with ⟨rfl, rfl⟩ | ⟨h1, h2⟩
    · exact hyo (by omega)
    · have hm := List.mem_of_getElem? h2
      refine (hon.block _ (h.lt hm) ?_).trans (h.thing i j z h2)
      rintro (h3 | h3 | h3)
      · exact h.off i i z hm (by rw [hown, h3])
      · have := (h.apart i j i n z y h2 hy h3).2
        omega
      · exact hh (Or.inr ⟨i, z, hm, h3⟩)
  · exact fun z hz => h.base i z (hmem z hz)
  · intro j j' a b ha hb' e
    obtain ⟨hj, h1⟩ := rem_at hn ha
    obtain ⟨hj', h2⟩ := rem_at hn hb'
    rcases h1 with ⟨rfl, rfl⟩ | ⟨h1, h1'⟩ <;> rcases h2 with ⟨rfl, rfl⟩ | ⟨h2, h2'⟩
    · rfl
    · have := (h.apart i n i j' _ _ hy h2' e).2
      omega
    · have := (h.apart i j i n _ _ h1' hy e).2
      omega
    · exact (h.apart i j i j' _ _ h1' h2' e).2
  · intro z hz i' hi' a ha e
    obtain ⟨j, hj, _⟩ := h.block ha
    obtain ⟨j', hj', _⟩ := h.block (hmem z hz)
    exact hi' (h.apart i' j i j' a z hj hj' e).1
  · intro z hz
    have := h.off i i z (hmem z hz)
    rw [hown] at this
    exact this
  · exact fun z hz i' _ => h.off i i' z (hmem z hz)
  · intro i' hi' k hk1 hk2
    exact hi' (h.rows i' i k hk2 (hown.trans hk1))
  · intro i' hi' z hz
    have := h.off i' i z hz
    rw [hown] at this
    exact this
  · intro i' hi'
    refine ⟨fun k hk => hon.block k ((h.row i').lt k hk).2 ?_, fun z hz => hon.block _ (h.lt hz) ?_⟩
    · rintro (h1 | h1 | h1)
      · exact hi' (h.rows i' i k hk (by rw [h1]; exact hown))
      · exact h.off i i' y hym (by rw [← h1]; exact hk)
      · exact hh (Or.inl ⟨i', by rw [← h1]; exact hk⟩)
    · rintro (h1 | h1 | h1)
      · exact h.off i' i z hz (by rw [hown, h1])
      · obtain ⟨j, hj, _⟩ := h.block hz
        exact hi' (h.apart i' j i n z y hj hy h1).1
      · exact hh (Or.inr ⟨i', z, hz, h1⟩)

/-- A slot emptied. -/
theorem Slots.empty (h : Slots w B S X) (i hb : Nat) (hon : Only (fun k => k = hb) w w') (hh : ¬ SOwn S X hb) : Slots w' B (upd S i (.slice none 0 0)) (upd X i []) := by
  refine h.change i _ [] (World.ownsRow_nil _ _ _ _) (fun j x hx => by simp at hx) (fun x hx => by simp at hx) (fun j j' x y hx => by simp at hx) (fun x hx => by simp at hx) (fun x hx => by simp at hx) (fun x hx => by simp at hx) (fun i' _ k hk => by simp [Value.ownBlock] at hk) (fun i' _ x _ => by simp [Value.ownBlock]) ?_
  intro i' hi'
  refine ⟨fun k hk => hon.block k ((h.row i').lt k hk).2 ?_, fun z hz => hon.block _ (h.lt hz) ?_⟩
  · exact fun e => hh (Or.inl ⟨i', by rw [← e]; exact hk⟩)
  · exact fun e => hh (Or.inr ⟨i', z, hz, e⟩)
end
end Go.Proofs.Ytadppcmbkccmnaa
