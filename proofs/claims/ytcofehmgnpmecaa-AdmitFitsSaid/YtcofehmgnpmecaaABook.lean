/-
  A book in memory: the map of shares, what was given back, what is used; contracts: Used, Has, Pending; of no book.
-/
import Derived.Test.YtcofehmgnpmecaaAWalksD
import Derived.Test.YtcofehmgnpmecaaAMathB
import Derived.Maps.OwnSet
namespace Go.Proofs.Ytcofehmgnpmecaa
open Go.ChangeShapes Go.WideShapes Go.ChangeAt Go.RowKit Ap

/-- How a share reads, for the map. -/
def numElem : Value → Option (DataW Unit × List MemPlace)
  | .int .u64 n => some (.lit (.int .u64 n), [])
  | _ => none
theorem numElem_inv {v : Value} {n : Int} {ps : List MemPlace} (h : numElem v = some (.lit (.int .u64 n), ps)) : v = .int .u64 n := by
  unfold numElem at h
  split at h
  · simp only [Option.some.injEq, Prod.mk.injEq, DataW.lit.injEq, Lit.int.injEq, true_and] at h
    rw [h.1]
  · cases h
theorem zero_num (w : World) : (zeroValue 28).run Try.prog w = .ok (.int .u64 0) w := by kernel_rfl
theorem key_of {n : Int} (h0 : -9223372036854775808 ≤ n) (h1 : n < 9223372036854775808) : keyOf Try.prog 3 (.int .i64 n) = some (.int .i64 n) :=
  Maps.keyOf_int_mk Try.underlying3 (by simp [Lit.wf, show IntKind.i64.min = -9223372036854775808 from rfl, show IntKind.i64.max = 9223372036854775807 from rfl]; omega)
theorem int_key : Maps.Keyed Try.prog 3 := Maps.int_keyed Try.underlying3
def In64 (q : Int) : Prop := -9223372036854775808 ≤ q ∧ q < 9223372036854775808

/-- Block m is the map of these shares. -/
structure MapD (w : World) (m n : Nat) (f : Int → Option Int) (D : DataW Unit) : Prop where
  own : w.ownsMap Try.prog 3 numElem m n D
  has : ∀ q : Int, Maps.has D (.int .i64 q) = (f q).isSome
  at_ : ∀ q s, f q = some s → D.atKey (.int .i64 q) (.lit (.int .u64 0)) = .lit (.int .u64 s)
def MapIs (w : World) (m n : Nat) (f : Int → Option Int) : Prop := ∃ D, MapD w m n f D
theorem lit_ne {p q : Int} (h : p ≠ q) : (Lit.int .i64 p) ≠ .int .i64 q := fun e => h (by cases e; rfl)
section
variable {w w' : World} {m n : Nat} {f : Int → Option Int}
theorem MapIs.lt (h : MapIs w m n f) : m < w.heap.size := by
  obtain ⟨D, h⟩ := h
  exact h.own.lt
theorem MapIs.kept (h : MapIs w m n f) (hb : w'.heap[m]? = w.heap[m]?) : MapIs w' m n f := by
  obtain ⟨D, ⟨es, clock, h1, h2⟩, h3, h4⟩ := h
  exact ⟨D, ⟨es, clock, hb.trans h1, h2⟩, h3, h4⟩
theorem MapIs.mono (h : MapIs w m n f) {n' : Nat} (hn : n ≤ n') : MapIs w m n' f := by
  obtain ⟨D, h1, h2, h3⟩ := h
  exact ⟨D, h1.mono hn, h2, h3⟩
theorem map_made (w : World) : MapIs (w.alloc (.map #[] 0)) w.heap.size 0 (fun _ => none) := ⟨.map [], World.ownsMap_made w Try.prog 3 numElem, fun q => by simp [Maps.has], fun q s h => by cases h⟩
theorem MapIs.look (h : MapIs w m n f) {q : Int} (hq : In64 q) : (Instr.lookup 25 (.map (some m)) (.int .i64 q) true).run Try.prog w = .ok (.tuple #[.int .u64 ((f q).getD 0), .bool (f q).isSome]) w := by
  obtain ⟨D, hD⟩ := h
  obtain ⟨v, ps, hrun, hv⟩ := hD.own.look_ok int_key Try.underlying25 (zero_num w) (zd := .lit (.int .u64 0)) (zp := []) rfl (key_of hq.1 hq.2)
  rw [hD.has] at hrun
  cases hf : f q with
  | none =>
    have hn : Maps.has D (.int .i64 q) = false := by rw [hD.has, hf]; rfl
    rw [Maps.atKey_of_not_has hn] at hv
    rw [numElem_inv hv, hf] at hrun
    exact hrun
  | some s =>
    rw [hD.at_ q s hf] at hv
    rw [numElem_inv hv, hf] at hrun
    exact hrun
theorem MapIs.store (h : MapIs w m n f) (hn : n ≤ 1000000) {q : Int} (hq : In64 q) (s : Int) :
    ∃ w', (Instr.mapUpdate 25 (.map (some m)) (.int .i64 q) (.int .u64 s)).run Try.prog w = .ok () w' ∧ MapIs w' m (n + 1) (updF f q (some s)) ∧ w.grownBy w' (some m) := by
  obtain ⟨D, hD⟩ := h
  have hkey := key_of hq.1 hq.2
  have hkl := int_key.key hkey
  obtain ⟨w', hrun, hown, hg⟩ := hD.own.update int_key Try.underlying25 (by unfold maxLen; omega) hkey (val := .int .u64 s) (d := .lit (.int .u64 s)) (ps := []) rfl
  have hm := hD.own.isMap
  refine ⟨w', hrun, ⟨_, hown, fun k => ?_, fun k v hk => ?_⟩, hg⟩
  · by_cases e : k = q
    · subst e
      rw [Maps.has_put_same hm hkl, updF_at]
      rfl
    · rw [Maps.has_put_other (lit_ne e), hD.has, updF_off _ _ e]
  · by_cases e : k = q
    · subst e
      rw [updF_at] at hk
      cases hk
      exact Maps.atKey_put_same hm hkl _ _
    · rw [updF_off _ _ e] at hk
      rw [Maps.atKey_put_other (lit_ne e)]
      exact hD.at_ k v hk
theorem MapIs.drop (h : MapIs w m n f) {q : Int} (hq : In64 q) (ty : TypeId) :
    ∃ w', (Builtin.delete_ #[25, 3] ty #[.map (some m), .int .i64 q]).run Try.prog w = .ok (.tuple #[]) w' ∧ MapIs w' m n (updF f q none) ∧ w.grownBy w' (some m) := by
  obtain ⟨D, hD⟩ := h
  have hkey := key_of hq.1 hq.2
  obtain ⟨w', hrun, hown, hg⟩ := hD.own.drop int_key Try.underlying25 hkey ty
  refine ⟨w', hrun, ⟨_, hown, fun k => ?_, fun k v hk => ?_⟩, hg.grown⟩
  · by_cases e : k = q
    · subst e
      rw [Maps.has_del_same, updF_at]
      rfl
    · rw [Maps.has_del_other (lit_ne e), hD.has, updF_off _ _ e]
  · by_cases e : k = q
    · subst e
      rw [updF_at] at hk
      cases hk
    · rw [updF_off _ _ e] at hk
      rw [Maps.atKey_del_other (lit_ne e)]
      exact hD.at_ k v hk
end
theorem look_nil {q : Int} (hq : In64 q) (w : World) : (Instr.lookup 25 (.map none) (.int .i64 q) true).run Try.prog w = .ok (.tuple #[.int .u64 0, .bool false]) w := by
  exact Maps.look_nil true int_key Try.underlying25 (zero_num w) (key_of hq.1 hq.2)

/-- The map of a book that may have none yet. -/
def MapV (w : World) (B : Nat) (mv : Value) (n : Nat) (f : Int → Option Int) : Prop := (mv = .map none ∧ ∀ q, f q = none) ∨ ∃ m, mv = .map (some m) ∧ B ≤ m ∧ MapIs w m n f
/-- Block b is a book: its map, its queue. -/
structure BkIs (w : World) (B b : Nat) (mv v : Value) (N : Nat) (f : Int → Option Int) (xs : List Gv) (u t : Int) : Prop where
  obj : w.heap[b]? = some (bObj mv v (.int .u64 u) (.int .i64 t))
  map : MapV w B mv N f
  row : w.ownsRow B 65 2 v xs.length (gcells xs)
  order : Heap xs.length xs
  base : B ≤ b
  off : v.ownBlock ≠ some b ∧ ∀ m, mv = .map (some m) → m ≠ b ∧ v.ownBlock ≠ some m
/-- The blocks that a book is in. -/
def Mine (b : Nat) (mv v : Value) (k : Nat) : Prop := k = b ∨ mv = .map (some k) ∨ v.ownBlock = some k
section
variable {w w' : World} {B b N : Nat} {mv v : Value} {f : Int → Option Int} {xs : List Gv} {u t : Int}
theorem BkIs.lt (H : BkIs w B b mv v N f xs u t) : b < w.heap.size := lt_of_blk H.obj
theorem BkIs.mine_lt (H : BkIs w B b mv v N f xs u t) {k : Nat} (hk : Mine b mv v k) : B ≤ k ∧ k < w.heap.size := by
  rcases hk with rfl | hk | hk
  · exact ⟨H.base, H.lt⟩
  · rcases H.map with ⟨h1, -⟩ | ⟨m, h1, h2, h3⟩
    · rw [h1] at hk
      cases hk
    · rw [h1] at hk
      cases hk
      exact ⟨h2, h3.lt⟩
  · exact H.row.lt k hk
theorem row_kept {e : TypeId} {n size : Nat} {cs : List Value} (h : w.ownsRow B e size v n cs) (hb : ∀ k, v.ownBlock = some k → w'.heap[k]? = w.heap[k]?) : w'.ownsRow B e size v n cs := by
  obtain ⟨h1, h2⟩ := h
  refine ⟨h1, ?_⟩
  rcases h2 with h2 | ⟨g, cap, cur, hv, hg, hh, r⟩
  · exact Or.inl h2
  · exact Or.inr ⟨g, cap, cur, hv, hg, (hb g (by rw [hv]; rfl)).trans hh, r⟩
theorem MapV.kept (h : MapV w B mv N f) (hb : ∀ k, mv = .map (some k) → w'.heap[k]? = w.heap[k]?) : MapV w' B mv N f := by
  rcases h with h | ⟨m, h1, h2, h3⟩
  · exact Or.inl h
  · exact Or.inr ⟨m, h1, h2, h3.kept (hb m h1)⟩
theorem BkIs.kept (H : BkIs w B b mv v N f xs u t) (hb : ∀ k, Mine b mv v k → w'.heap[k]? = w.heap[k]?) : BkIs w' B b mv v N f xs u t :=
  ⟨(hb b (Or.inl rfl)).trans H.obj, H.map.kept fun k hk => hb k (Or.inr (Or.inl hk)), row_kept H.row fun k hk => hb k (Or.inr (Or.inr hk)), H.order, H.base, H.off⟩
theorem BkIs.below (H : BkIs w B b mv v N f xs u t) (hb : Below w.heap.size w w') : BkIs w' B b mv v N f xs u t := H.kept fun k hk => hb.block k (H.mine_lt hk).2
theorem BkIs.look (H : BkIs w B b mv v N f xs u t) {q : Int} (hq : In64 q) : (Instr.lookup 25 mv (.int .i64 q) true).run Try.prog w = .ok (.tuple #[.int .u64 ((f q).getD 0), .bool (f q).isSome]) w := by
  rcases H.map with ⟨rfl, h2⟩ | ⟨m, rfl, -, h3⟩
  · rw [h2 q]
    exact look_nil hq w
  · exact h3.look hq
theorem BkIs.cells (H : BkIs w B b mv v N f xs u t) : w.cell? ⟨b, 0, none⟩ = some mv ∧ w.cell? ⟨b, 1, none⟩ = some v ∧ w.cell? ⟨b, 2, none⟩ = some (.int .u64 u) ∧ w.cell? ⟨b, 3, none⟩ = some (.int .i64 t) :=
  ⟨(bx_cell (j := 0) H.obj rfl).1, (bx_cell (j := 1) H.obj rfl).1, (bx_cell (j := 2) H.obj rfl).1, (bx_cell (j := 3) H.obj rfl).1⟩

theorem used_any (H : BkIs w B b mv v N f xs u t) : Calls Try.prog 16 #[.pointer (some ⟨b, 0, none⟩)] w fun e w' => e = .returned (.int .u64 u) ∧ w = w' := by
  obtain ⟨-, -, c2, -⟩ := H.cells
  clear H
  go_enter Try.func16, Try.ntmps16
  go_wp2
  go_ret
  exact ⟨rfl, rfl⟩
theorem pending_any (H : BkIs w B b mv v N f xs u t) : Calls Try.prog 20 #[.pointer (some ⟨b, 0, none⟩)] w fun e w' => e = .returned (.int .i64 xs.length) ∧ w = w' := by
  obtain ⟨-, c1, -, -⟩ := H.cells
  obtain ⟨A, c, hv, -, -⟩ := own_shape H.row
  subst hv
  clear H
  go_enter Try.func20, Try.ntmps20
  go_wp2
  go_ret
  exact ⟨rfl, rfl⟩
theorem has_any (H : BkIs w B b mv v N f xs u t) {q : Int} (hq : In64 q) : Calls Try.prog 18 #[.pointer (some ⟨b, 0, none⟩), .int .i64 q] w fun e w' => e = .returned (.bool (f q).isSome) ∧ w = w' := by
  obtain ⟨c0, -, -, -⟩ := H.cells
  have hl := H.look hq
  clear H hq
  generalize (f q).isSome = r at *
  generalize (f q).getD 0 = s at *
  go_enter Try.func18, Try.ntmps18
  go_wp2
  go_ret
  exact ⟨rfl, rfl⟩
end

/-! No book. -/
theorem used_none (w : World) : Calls Try.prog 16 #[.pointer none] w fun e w' => e = .returned (.int .u64 0) ∧ w = w' := by
  go_enter Try.func16, Try.ntmps16
  go_wp2
  go_ret
  exact ⟨rfl, rfl⟩
theorem pending_none (w : World) : Calls Try.prog 20 #[.pointer none] w fun e w' => e = .returned (.int .i64 0) ∧ w = w' := by
  go_enter Try.func20, Try.ntmps20
  go_wp2
  go_ret
  exact ⟨rfl, rfl⟩
theorem has_none (q : Int) (w : World) : Calls Try.prog 18 #[.pointer none, .int .i64 q] w fun e w' => e = .returned (.bool false) ∧ w = w' := by
  go_enter Try.func18, Try.ntmps18
  go_wp2
  go_ret
  exact ⟨rfl, rfl⟩
theorem release_none (q n : Int) (w : World) : Calls Try.prog 10 #[.pointer none, .int .i64 q, .int .i64 n] w fun e w' => e = .returned (.int .i64 3) ∧ w = w' := by
  go_enter Try.func10, Try.ntmps10
  go_wp2
  go_ret
  exact ⟨rfl, rfl⟩
theorem advance_none (n : Int) (w : World) : Calls Try.prog 13 #[.pointer none, .int .i64 n] w fun e w' => e = .returned (.int .i64 0) ∧ w = w' := by
  go_enter Try.func13, Try.ntmps13
  go_wp2
  go_ret
  exact ⟨rfl, rfl⟩
theorem admit_none (q x y : Int) (w : World) : Calls Try.prog 14 #[.pointer none, .int .i64 q, .agg #[.int .i64 x, .int .i64 y]] w fun e w' => e = .returned (.int .i64 3) ∧ Below w.heap.size w w' := by
  go_enter Try.func14, Try.ntmps14
  go_wp2
  go_ret
  exact ⟨rfl, (Below.refl _ _).alloc (Nat.le_refl _) _⟩
end Go.Proofs.Ytcofehmgnpmecaa
