/-
  The law AdmitFits: the book, and two rows of who has one and which, side by side.
-/
import Derived.Test.YtcofehmgnpmecaaAAwake
import Derived.Test.YtcofehmgnpmecaaAOpen
import Derived.Test.YtcofehmgnpmecaaAFRow
namespace Go.Proofs.Ytcofehmgnpmecaa
open Go.ChangeShapes Go.WideShapes Go.ChangeAt Go.RowKit Ap

theorem only_grown {S : Nat → Prop} {w a w' : World} {row : Option Nat} (h : Only S w a) (hg : a.grownBy w' row) (hr : ∀ k, row = some k → S k) : Only S w w' := h.grown hg (fun k hk => Or.inl (hr k hk))
theorem low_row {w : World} {base base' n size : Nat} {e : TypeId} {v : Value} {xs : List Value} (h : w.ownsRow base e size v n xs) (hb : base' ≤ base) : w.ownsRow base' e size v n xs := row_lower h hb
section
variable {W0 w w' : World} {b K K' : Nat} {P P' : Nat → Prop} {M M' : List En} {t t' : Int} {S : Nat → Prop}
/-- Blocks of P have changed, no others. -/
theorem Bs.only (H : Bs W0 b K P M t w) (ho : Only S w w') (hS : ∀ k, S k → P k ∧ W0.heap.size ≤ k) (hP : ∀ k, P' k → P k ∨ (w.heap.size ≤ k ∧ k < w'.heap.size)) : Bs W0 b K P' M t w' := by
  obtain ⟨mv, v, f, xs, u, h1, h2, h3⟩ := H.ex
  refine ⟨⟨mv, v, f, xs, u, h1.kept fun k hk => ho.block k (h1.mine_lt hk).2 (fun hs => (h3 k (hS k hs).1).2 hk), h2, fun k hk => ?_⟩, H.few, H.below.trans (ho.below H.size fun k hk => (hS k hk).2)⟩
  rcases hP k hk with h | h
  · exact ⟨Nat.lt_of_lt_of_le (h3 k h).1 ho.size, (h3 k h).2⟩
  · exact ⟨h.2, fun hm => by have := (h1.mine_lt hm).2; omega⟩
theorem Bs.wider (H : Bs W0 b K P M t w) (h : K ≤ K') : Bs W0 b K' P M t w := by
  obtain ⟨mv, v, f, xs, u, h1, h2, h3⟩ := H.ex
  exact ⟨⟨mv, v, f, xs, u, ⟨h1.obj, h1.map.elim Or.inl (fun ⟨m, a1, a2, a3⟩ => Or.inr ⟨m, a1, a2, a3.mono h⟩), h1.row, h1.order, h1.base, h1.off⟩, h2, h3⟩, Nat.le_trans H.few h, H.below⟩
end

/-- The book, and the rows of who has one and which. -/
structure Fr (W0 : World) (b K : Nat) (P : Nat → Prop) (M : List En) (t : Int) (Z : List Hv) (A : Option Addr) (cA : Nat) (B : Option Addr) (cB m : Nat) (w : World) : Prop where
  bs : Bs W0 b K P M t w
  x : w.ownsRow W0.heap.size 3 1 (.slice A m cA) m (wcells Z)
  y : w.ownsRow W0.heap.size 35 2 (.slice B m cB) m (hcells Z)
  px : ∀ k, (Value.slice A m cA).ownBlock = some k → P k
  py : ∀ k, (Value.slice B m cB).ownBlock = some k → P k
  apart : (Value.slice B m cB).ownBlock = none ∨ (Value.slice B m cB).ownBlock ≠ (Value.slice A m cA).ownBlock
/-- An act's box. -/
structure Bx (p : Nat) (kd q x y n : Int) (P : Nat → Prop) (w : World) : Prop where
  b : w.heap[p]? = some (.cells #[.int .i64 kd, .int .i64 q, .int .i64 x, .int .i64 y, .int .i64 n] 37 (0, 0))
  p : P p
section
variable {W0 w w' : World} {b K K' m cA cB p : Nat} {P P' : Nat → Prop} {M M' : List En} {t t' kd q x y n : Int} {Z : List Hv} {A B : Option Addr}
theorem Fr.len (H : Fr W0 b K P M t Z A cA B cB m w) : Z.length = m := by
  have := H.x.1
  rw [wcells_len] at this
  omega
theorem Fr.more (H : Fr W0 b K P M t Z A cA B cB m w) (hb : Below w.heap.size w w') (hP : ∀ k, P' k → P k ∨ (w.heap.size ≤ k ∧ k < w'.heap.size)) (hP2 : ∀ k, P k → P' k) : Fr W0 b K P' M t Z A cA B cB m w' :=
  ⟨H.bs.more hb hP, own_call H.x hb, own_call H.y hb, fun k hk => hP2 k (H.px k hk), fun k hk => hP2 k (H.py k hk), H.apart⟩
theorem Fr.later (H : Fr W0 b K P M t Z A cA B cB m w) (hb : Below w.heap.size w w') : Fr W0 b K P M t Z A cA B cB m w' := H.more hb (fun _ h => Or.inl h) fun _ h => h
theorem Fr.turn (H : Fr W0 b K P M t Z A cA B cB m w) (h : Turn W0 b K' P M' t' w w') : Fr W0 b K' P M' t' Z A cA B cB m w' :=
  ⟨h.1, row_kept H.x fun k hk => h.2.1 k (H.px k hk), row_kept H.y fun k hk => h.2.1 k (H.py k hk), H.px, H.py, H.apart⟩
theorem Fr.lt (H : Fr W0 b K P M t Z A cA B cB m w) {k : Nat} (hk : P k) : k < w.heap.size := H.bs.lt hk
theorem Bx.later (X : Bx p kd q x y n P w) (hb : Below w.heap.size w w') : Bx p kd q x y n P w' := ⟨(hb.block p (lt_of_blk X.b)).trans X.b, X.p⟩
theorem Bx.turn (X : Bx p kd q x y n P w) (h : Turn W0 b K P M t w w') : Bx p kd q x y n P w' := ⟨(h.2.1 p X.p).trans X.b, X.p⟩
theorem Bx.wide (X : Bx p kd q x y n P w) (h : ∀ k, P k → P' k) : Bx p kd q x y n P' w := ⟨X.b, h p X.p⟩
theorem Bx.cells (X : Bx p kd q x y n P w) : w.cell? ⟨p, 0, none⟩ = some (.int .i64 kd) ∧ w.cell? ⟨p, 1, none⟩ = some (.int .i64 q) ∧ w.cell? ⟨p, 2, none⟩ = some (.int .i64 x) ∧ w.cell? ⟨p, 3, none⟩ = some (.int .i64 y) ∧ w.cell? ⟨p, 4, none⟩ = some (.int .i64 n) :=
  ⟨(bx_cell (j := 0) X.b rfl).1, (bx_cell (j := 1) X.b rfl).1, (bx_cell (j := 2) X.b rfl).1, (bx_cell (j := 3) X.b rfl).1, (bx_cell (j := 4) X.b rfl).1⟩
/-- An act comes in. -/
theorem Fr.act (H : Fr W0 b K P M t Z A cA B cB m w) (kd q x y n : Int) (h : w.alloc (.cells #[.int .i64 kd, .int .i64 q, .int .i64 x, .int .i64 y, .int .i64 n] 37 (0, 0)) = w') : Fr W0 b K (fun k => P k ∨ k = w.heap.size) M t Z A cA B cB m w' ∧ Bx w.heap.size kd q x y n (fun k => P k ∨ k = w.heap.size) w' ∧ (∀ k, (Value.slice A m cA).ownBlock = some k ∨ (Value.slice B m cB).ownBlock = some k → k ≠ w.heap.size) := by
  have hb : Below w.heap.size w w' := by rw [← h]; exact (Below.refl _ _).alloc (Nat.le_refl _) _
  have hs : w'.heap.size = w.heap.size + 1 := by rw [← h]; simp
  refine ⟨H.more hb (fun k hk => ?_) fun _ hk => Or.inl hk, ⟨by rw [← h]; exact heap_alloc_new _ _, Or.inr rfl⟩, fun k hk e => ?_⟩
  · rcases hk with hk | hk
    · exact Or.inl hk
    · exact Or.inr ⟨by omega, by omega⟩
  · rcases hk with hk | hk
    · have := (H.x.lt k hk).2
      omega
    · have := (H.y.lt k hk).2
      omega
theorem Fr.wider (H : Fr W0 b K P M t Z A cA B cB m w) (h : K ≤ K') : Fr W0 b K' P M t Z A cA B cB m w := ⟨H.bs.wider h, H.x, H.y, H.px, H.py, H.apart⟩
/-- Both rows are others: each where it was, or in new memory. -/
theorem Fr.rows {Z' : List Hv} {A' B' : Option Addr} {cA' cB' m' : Nat} (H : Fr W0 b K P M t Z A cA B cB m w) (ho : Only (fun k => (Value.slice A m cA).ownBlock = some k ∨ (Value.slice B m cB).ownBlock = some k) w w')
    (hx : w'.ownsRow W0.heap.size 3 1 (.slice A' m' cA') m' (wcells Z')) (hy : w'.ownsRow W0.heap.size 35 2 (.slice B' m' cB') m' (hcells Z'))
    (hA : (Value.slice A' m' cA').ownBlock = (Value.slice A m cA).ownBlock ∨ ∀ k, (Value.slice A' m' cA').ownBlock = some k → w.heap.size ≤ k) (hB : (Value.slice B' m' cB').ownBlock = (Value.slice B m cB).ownBlock ∨ ∀ k, (Value.slice B' m' cB').ownBlock = some k → w.heap.size ≤ k)
    (hap : (Value.slice B' m' cB').ownBlock = none ∨ (Value.slice B' m' cB').ownBlock ≠ (Value.slice A' m' cA').ownBlock) : Fr W0 b K (fun k => P k ∨ (w.heap.size ≤ k ∧ k < w'.heap.size)) M t Z' A' cA' B' cB' m' w' := by
  refine ⟨H.bs.only ho (fun k hk => ?_) (fun k hk => hk), hx, hy, fun k hk => ?_, fun k hk => ?_, hap⟩
  · rcases hk with hk | hk
    · exact ⟨H.px k hk, (H.x.lt k hk).1⟩
    · exact ⟨H.py k hk, (H.y.lt k hk).1⟩
  · rcases hA with h | h
    · exact Or.inl (H.px k (h ▸ hk))
    · exact Or.inr ⟨h k hk, (hx.lt k hk).2⟩
  · rcases hB with h | h
    · exact Or.inl (H.py k (h ▸ hk))
    · exact Or.inr ⟨h k hk, (hy.lt k hk).2⟩
theorem Bx.rows {S : Nat → Prop} (X : Bx p kd q x y n P w) (ho : Only S w w') (hp : ¬ S p) : Bx p kd q x y n (fun k => P k ∨ (w.heap.size ≤ k ∧ k < w'.heap.size)) w' := ⟨(ho.block p (lt_of_blk X.b) hp).trans X.b, Or.inl X.p⟩
/-- The round's last question. -/
theorem Fr.fits (H : Fr W0 b K P M t Z A cA B cB m w) (hK : Kept M Z) (hm : K ≤ 1000) (hb : Below w.heap.size w w') : Calls Try.prog 22 #[.slice B m cB] w' fun e w'' => e = .returned (.bool true) ∧ Below w'.heap.size w' w'' := by
  have H2 := H.later hb
  obtain ⟨l1, l2, l3⟩ := H2.bs.low
  have hl := hK.sum l1
  have h1 : Z.length ≤ M.length := by
    have h2 := hK.perm.length_eq
    rw [List.length_map] at h2
    rw [h2]
    unfold live
    rw [List.length_map]
    exact List.length_filter_le ..
  have h3 := H2.bs.few
  have h4 := H2.len
  exact fits_any (Seg.own H2.y) (fun k hk => (H2.y.lt k hk).2) H2.len (by omega) hK.right (by omega)
theorem Fr.few (H : Fr W0 b K P M t Z A cA B cB m w) (hK : Kept M Z) : m ≤ K := by
  have h1 : Z.length ≤ M.length := by
    have h2 := hK.perm.length_eq
    rw [List.length_map] at h2
    rw [h2]
    unfold live
    rw [List.length_map]
    exact List.length_filter_le ..
  have h3 := H.bs.few
  have h4 := H.len
  omega
theorem own_some {base size : Nat} {e : TypeId} {A : Option Addr} {n c : Nat} {cs : List Value} (h : w.ownsRow base e size (.slice A n c) n cs) (hn : 0 < n) : (∃ g, A = some ⟨g, 0, none⟩) ∧ n ≤ c ∧ c ≤ 9223372036854775807 := by
  obtain ⟨A', c', hv, h1, h2⟩ := own_shape h
  simp only [Value.slice.injEq, true_and] at hv
  obtain ⟨rfl, rfl⟩ := hv
  refine ⟨?_, h1, h2⟩
  rcases h.2 with ⟨h3, h4⟩ | ⟨g, cap, cur, h3, _⟩
  · omega
  · simp only [Value.slice.injEq] at h3
    exact ⟨g, h3.1⟩
end
end Go.Proofs.Ytcofehmgnpmecaa
