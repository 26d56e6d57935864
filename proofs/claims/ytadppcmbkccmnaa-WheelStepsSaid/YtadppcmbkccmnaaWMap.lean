/-
  The map of timers by their handles: looked up, stored into, deleted from, gone through.
-/
import Derived.Test.YtadppcmbkccmnaaWPile
import Derived.Maps.OwnSet
import Derived.Maps.RangeWalk
namespace Go.Proofs.Ytadppcmbkccmnaa
open Go.ChangeShapes Go.WideShapes Go.ChangeAt Go.RowKit Wh

/-- How a pointer to a timer reads: as its block's number. -/
def ptrElem : Value → Option (DataW Unit × List MemPlace)
  | .pointer none => some (.nil, [])
  | .pointer (some ⟨b, 0, none⟩) => some (.lit (.int .i64 (b : Nat)), [])
  | _ => none
theorem ptrElem_inv {v : Value} {b : Nat} {ps : List MemPlace} (h : ptrElem v = some (.lit (.int .i64 (b : Nat)), ps)) : v = .pointer (some ⟨b, 0, none⟩) := by
  unfold ptrElem at h
  split at h
  · simp at h
  · simp only [Option.some.injEq, Prod.mk.injEq, DataW.lit.injEq, Lit.int.injEq, true_and] at h
    have : (_ : Nat) = b := Int.ofNat.inj h.1
    rw [this]
  · cases h
theorem ptrElem_nil {v : Value} {ps : List MemPlace} (h : ptrElem v = some (.nil, ps)) : v = .pointer none := by
  unfold ptrElem at h
  split at h
  · rfl
  · simp at h
  · cases h
theorem zero_ptr (w : World) : (zeroValue 62).run Try.prog w = .ok (.pointer none) w := by kernel_rfl
theorem key_of {n : Int} (h0 : -9223372036854775808 ≤ n) (h1 : n < 9223372036854775808) : keyOf Try.prog 3 (.int .i64 n) = some (.int .i64 n) :=
  Maps.keyOf_int_mk Try.underlying3 (by simp [Lit.wf, show IntKind.i64.min = -9223372036854775808 from rfl, show IntKind.i64.max = 9223372036854775807 from rfl]; omega)
theorem int_key : Maps.Keyed Try.prog 3 := Maps.int_keyed Try.underlying3

/-- Block m is the map of these timers. -/
structure MapD (w : World) (m n : Nat) (L : List Tm) (D : DataW Unit) : Prop where
  own : w.ownsMap Try.prog 3 ptrElem m n D
  has : ∀ q : Int, Maps.has D (.int .i64 q) = L.any fun x => decide ((x.handle : Int) = q)
  at_ : ∀ x, x ∈ L → D.atKey (.int .i64 (x.handle : Nat)) .nil = .lit (.int .i64 (x.b : Nat))
  size : Maps.size D = L.length
def MapIs (w : World) (m n : Nat) (L : List Tm) : Prop := ∃ D, MapD w m n L D

section
variable {w w' : World} {m n : Nat} {L L' : List Tm}
theorem MapIs.lt (h : MapIs w m n L) : m < w.heap.size := by
  obtain ⟨D, h⟩ := h
  exact h.own.lt
theorem MapIs.kept (h : MapIs w m n L) (hb : w'.heap[m]? = w.heap[m]?) : MapIs w' m n L := by
  obtain ⟨D, ⟨es, clock, h1, h2⟩, h3, h4, h5⟩ := h
  exact ⟨D, ⟨es, clock, hb.trans h1, h2⟩, h3, h4, h5⟩
theorem MapIs.perm (h : MapIs w m n L) (hp : L.Perm L') : MapIs w m n L' := by
  obtain ⟨D, h1, h2, h3, h4⟩ := h
  exact ⟨D, h1, fun q => (h2 q).trans (by rw [Bool.eq_iff_iff, List.any_eq_true, List.any_eq_true]; exact ⟨fun ⟨x, hx, e⟩ => ⟨x, hp.mem_iff.1 hx, e⟩, fun ⟨x, hx, e⟩ => ⟨x, hp.mem_iff.2 hx, e⟩⟩), fun x hx => h3 x (hp.mem_iff.2 hx), h4.trans hp.length_eq⟩
theorem map_made (w : World) : MapIs (w.alloc (.map #[] 0)) w.heap.size 0 [] := ⟨.map [], World.ownsMap_made w Try.prog 3 ptrElem, fun q => by simp [Maps.has], fun x hx => by simp at hx, rfl⟩

theorem MapIs.hit (h : MapIs w m n L) {x : Tm} (hx : x ∈ L) (hk : x.handle ≤ 1000000) : (Instr.lookup 54 (.map (some m)) (.int .i64 (x.handle : Nat)) false).run Try.prog w = .ok (.pointer (some ⟨x.b, 0, none⟩)) w := by
  obtain ⟨D, hD⟩ := h
  obtain ⟨u, ps, hrun, hu⟩ := hD.own.lookup int_key Try.underlying54 (zero_ptr w) (zd := .nil) (zp := []) rfl (key_of (n := (x.handle : Nat)) (by omega) (by omega))
  rw [hD.at_ x hx] at hu
  rw [ptrElem_inv hu] at hrun
  exact hrun
theorem MapIs.miss (h : MapIs w m n L) {q : Int} (h0 : -9223372036854775808 ≤ q) (h1 : q < 9223372036854775808) (hq : ∀ x, x ∈ L → (x.handle : Int) ≠ q) : (Instr.lookup 54 (.map (some m)) (.int .i64 q) false).run Try.prog w = .ok (.pointer none) w := by
  obtain ⟨D, hD⟩ := h
  obtain ⟨u, ps, hrun, hu⟩ := hD.own.lookup int_key Try.underlying54 (zero_ptr w) (zd := .nil) (zp := []) rfl (key_of h0 h1)
  have hn : Maps.has D (.int .i64 q) = false := by
    rw [hD.has q, List.any_eq_false]
    intro x hx
    simpa using hq x hx
  rw [Maps.atKey_of_not_has hn] at hu
  rw [ptrElem_nil hu] at hrun
  exact hrun
theorem lit_ne {p q : Int} (h : p ≠ q) : (Lit.int .i64 p) ≠ .int .i64 q := fun e => h (by cases e; rfl)

/-- m[handle] = x, of a new handle. -/
theorem MapIs.store (h : MapIs w m n L) {x : Tm} (hn : n ≤ 1000000) (hk : x.handle ≤ 1000001) (hx : ∀ y, y ∈ L → y.handle ≠ x.handle) :
    ∃ w', (Instr.mapUpdate 54 (.map (some m)) (.int .i64 (x.handle : Nat)) (.pointer (some ⟨x.b, 0, none⟩))).run Try.prog w = .ok () w' ∧ MapIs w' m (n + 1) (x :: L) ∧ w.grownBy w' (some m) := by
  obtain ⟨D, hD⟩ := h
  have hkey := key_of (n := (x.handle : Nat)) (by omega) (by omega)
  have hkl := int_key.key hkey
  obtain ⟨w', hrun, hown, hg⟩ := hD.own.update int_key Try.underlying54 (by unfold maxLen; omega) hkey (val := .pointer (some ⟨x.b, 0, none⟩)) (d := .lit (.int .i64 (x.b : Nat))) (ps := []) rfl
  have hm := hD.own.isMap
  have hno : Maps.has D (.int .i64 (x.handle : Nat)) = false := by
    rw [hD.has, List.any_eq_false]
    intro y hy
    have := hx y hy
    simp
    omega
  refine ⟨w', hrun, ⟨_, hown, fun q => ?_, fun y hy => ?_, ?_⟩, hg⟩
  · rw [List.any_cons]
    by_cases e : (x.handle : Int) = q
    · subst e
      rw [Maps.has_put_same hm hkl]
      simp
    · rw [Maps.has_put_other (lit_ne (Ne.symm e)), hD.has q]
      simp [e]
  · rcases List.mem_cons.1 hy with rfl | hy
    · exact Maps.atKey_put_same hm hkl _ _
    · rw [Maps.atKey_put_other (lit_ne (fun e => hx y hy (by omega)))]
      exact hD.at_ y hy
  · rw [Maps.size_put (hD.own.tidy int_key), hno, hD.size]
    rfl
/-- delete(m, handle). -/
theorem MapIs.drop (h : MapIs w m n L) {x : Tm} (hk : x.handle ≤ 1000000) (hL : L.Perm (x :: L')) (hone : L.Pairwise fun y z => y.handle ≠ z.handle) (ty : TypeId) :
    ∃ w', (Builtin.delete_ #[54, 3] ty #[.map (some m), .int .i64 (x.handle : Nat)]).run Try.prog w = .ok (.tuple #[]) w' ∧ MapIs w' m n L' ∧ w.mapTurned w' m := by
  obtain ⟨D, hD⟩ := h.perm hL
  have hkey := key_of (n := (x.handle : Nat)) (by omega) (by omega)
  obtain ⟨w', hrun, hown, hg⟩ := hD.own.drop int_key Try.underlying54 hkey ty
  have hone2 := (hL.pairwise_iff (fun {a b} (h1 : a.handle ≠ b.handle) => h1.symm)).1 hone
  obtain ⟨h1, h2⟩ := List.pairwise_cons.1 hone2
  refine ⟨w', hrun, ⟨_, hown, fun q => ?_, fun y hy => ?_, ?_⟩, hg⟩
  · by_cases e : (x.handle : Int) = q
    · subst e
      rw [Maps.has_del_same]
      symm
      rw [List.any_eq_false]
      intro y hy
      have := h1 y hy
      simp
      omega
    · rw [Maps.has_del_other (lit_ne (Ne.symm e)), hD.has q, List.any_cons]
      simp [e]
  · rw [Maps.atKey_del_other (lit_ne (fun e => h1 y hy (by omega)))]
    exact hD.at_ y (List.mem_cons_of_mem _ hy)
  · have h3 := Maps.size_del (k := .int .i64 (x.handle : Nat)) (hD.own.tidy int_key)
    rw [hD.has, hD.size, List.any_cons] at h3
    simp at h3
    exact h3
theorem MapIs.len (h : MapIs w m n L) (ty : TypeId) : (Builtin.len_ #[54] ty #[.map (some m)]).run Try.prog w = .ok (.int .i64 (L.length : Nat)) w := by
  obtain ⟨D, hD⟩ := h
  rw [hD.own.len Try.underlying54 ty, hD.size]
end
end Go.Proofs.Ytadppcmbkccmnaa
