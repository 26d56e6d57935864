/-
  A heap in memory; contracts: New, Len, find, nextTurn, and of no heap.
-/
import Derived.Test.YtejmmhaglgmgbaaHWalksE
import Derived.Maps.OwnSet
namespace Go.Proofs.Ytejmmhaglgmgbaa
open Go.ChangeShapes Go.WideShapes Go.ChangeAt Go.RowKit Hp

/-- How a pointer to a thing reads, for the map of handles: as its block's number. -/
def ptrElem : Value → Option (DataW Unit × List MemPlace)
  | .pointer none => some (.nil, [])
  | .pointer (some ⟨b, 0, none⟩) => some (.lit (.int .i64 (b : Nat)), [])
  | _ => none
theorem ptrElem_inv {v : Value} {b : Nat} {ps : List MemPlace} (h : ptrElem v = some (.lit (.int .i64 (b : Nat)), ps)) : v = .pointer (some ⟨b, 0, none⟩) := by
  unfold ptrElem at h
  split at h
  · simp at h
  · simp only [Option.some.injEq, Prod.mk.injEq, DataW.lit.injEq, Lit.int.injEq, true_and] at h
    have : (_ : Nat) = b := Int.ofNat.inj h.1
    rw [this]
  · cases h

/-- The map of handles leads to the things. -/
def Handles (w : World) (m k : Nat) (xs : List Th) : Prop := ∃ D, w.ownsMap Try.prog 3 ptrElem m k D ∧ ∀ x, x ∈ xs → D.atKey (.int .i64 x.handle) .nil = .lit (.int .i64 (x.b : Nat))

/-- Block h is a heap of these things; k handles were told, t turns. -/
structure HeapIs (w : World) (B h m : Nat) (v : Value) (xs : List Th) (k t : Nat) : Prop where
  obj : w.heap[h]? = some (hObj v (.map (some m)) (.int .i64 (k : Nat)) (.int .i64 (t : Nat)))
  pile : PileIs w B v xs
  order : Heap xs.length xs
  map : Handles w m k xs
  base : B ≤ h ∧ B ≤ m
  off : ¬ Own v xs h ∧ ¬ Own v xs m ∧ h ≠ m
  handles : ∀ x : Th, x ∈ xs → 1 ≤ x.handle ∧ x.handle ≤ k
  once : xs.Pairwise (fun x y => x.handle ≠ y.handle)

/-- The blocks that a heap is in. -/
def Mine (h m : Nat) (v : Value) (xs : List Th) (k : Nat) : Prop := k = h ∨ k = m ∨ Own v xs k

section
variable {w : World} {B h m k t : Nat} {v : Value} {xs : List Th}
theorem HeapIs.mine_lt (H : HeapIs w B h m v xs k t) {b : Nat} (hb : Mine h m v xs b) : B ≤ b ∧ b < w.heap.size := by
  rcases hb with rfl | rfl | hb
  · exact ⟨H.base.1, lt_of_block H.obj⟩
  · obtain ⟨D, hD, _⟩ := H.map
    exact ⟨H.base.2, hD.lt⟩
  · exact H.pile.own_lt hb
theorem Handles.kept (H : Handles w m k xs) {w' : World} (hb : w'.heap[m]? = w.heap[m]?) : Handles w' m k xs := by
  obtain ⟨D, ⟨es, clock, h1, h2⟩, h3⟩ := H
  exact ⟨D, ⟨es, clock, hb.trans h1, h2⟩, h3⟩
theorem HeapIs.kept (H : HeapIs w B h m v xs k t) {w' : World} (hb : ∀ b, Mine h m v xs b → w'.heap[b]? = w.heap[b]?) : HeapIs w' B h m v xs k t :=
  ⟨(hb h (Or.inl rfl)).trans H.obj, H.pile.kept (fun b ho => hb b (Or.inr (Or.inr ho))), H.order, H.map.kept (hb m (Or.inr (Or.inl rfl))), H.base, H.off, H.handles, H.once⟩
theorem HeapIs.below (H : HeapIs w B h m v xs k t) {w' : World} (hb : Below w.heap.size w w') : HeapIs w' B h m v xs k t := H.kept fun b ho => hb.block b (H.mine_lt ho).2
theorem HeapIs.len (H : HeapIs w B h m v xs k t) : ∃ A c, v = .slice A xs.length c := by
  obtain ⟨A, c, h1, -, -⟩ := own_shape H.pile.row
  exact ⟨A, c, h1⟩
end

theorem new_any (w : World) : Calls Try.prog 5 #[] w fun e w' => e = .returned (.pointer (some ⟨w.heap.size + 1, 0, none⟩)) ∧ w' = (w.alloc (.map #[] 0)).alloc (hObj (.slice none 0 0) (.map (some w.heap.size)) (.int .i64 0) (.int .i64 0)) := by
  have hmm := @run_makeMap Try.prog
  go_enter Try.func5, Try.ntmps5
  go_wp2
  go_ret
  exact ⟨rfl, rfl⟩

/-- A new heap. -/
theorem made_heap (w : World) (B : Nat) (hB : B ≤ w.heap.size) : HeapIs ((w.alloc (.map #[] 0)).alloc (hObj (.slice none 0 0) (.map (some w.heap.size)) (.int .i64 0) (.int .i64 0))) B (w.heap.size + 1) w.heap.size (.slice none 0 0) [] 0 0 where
  obj := by
    have := heap_alloc_new (w.alloc (.map #[] 0)) (hObj (.slice none 0 0) (.map (some w.heap.size)) (.int .i64 0) (.int .i64 0))
    simpa using this
  pile := ⟨World.ownsRow_nil _ _ _ _, (fun i x hx => by simp at hx), (fun x hx => by simp at hx), (fun i j x y hx _ _ => by simp at hx), (fun x hx => by simp at hx)⟩
  order := fun c h0 hc => by simp at hc
  map := ⟨.map [], (World.ownsMap_made w Try.prog 3 ptrElem).alloc _, fun x hx => by simp at hx⟩
  base := ⟨by omega, hB⟩
  off := by
    refine ⟨?_, ?_, by omega⟩ <;> rintro (h1 | ⟨x, hx, _⟩)
    · simp [Value.ownBlock] at h1
    · simp at hx
    · simp [Value.ownBlock] at h1
    · simp at hx
  handles := fun x hx => by simp at hx
  once := List.Pairwise.nil

theorem len_none (w : World) : Calls Try.prog 10 #[.pointer none] w fun e w' => e = .returned (.int .i64 0) ∧ w = w' := by
  go_enter Try.func10, Try.ntmps10
  go_wp2
  go_ret
  exact ⟨rfl, rfl⟩
theorem len_cell (h n c : Nat) (A : Option Addr) (w : World) (hc : w.cell? ⟨h, 0, none⟩ = some (.slice A n c)) : Calls Try.prog 10 #[.pointer (some ⟨h, 0, none⟩)] w fun e w' => e = .returned (.int .i64 n) ∧ w = w' := by
  go_enter Try.func10, Try.ntmps10
  go_wp2
  go_ret
  exact ⟨rfl, rfl⟩
theorem hlen_any {w : World} {B h m k t : Nat} {v : Value} {xs : List Th} (H : HeapIs w B h m v xs k t) : Calls Try.prog 10 #[.pointer (some ⟨h, 0, none⟩)] w fun e w' => e = .returned (.int .i64 xs.length) ∧ w = w' := by
  obtain ⟨A, c, hv⟩ := H.len
  have ho := H.obj
  rw [hv] at ho
  exact len_cell h _ c A w (h_cell (j := 0) ho rfl)

theorem turn_any (h : Nat) (t : Int) (w : World) (hc : w.cell? ⟨h, 3, none⟩ = some (.int .i64 t)) (hf : w.frozen? ⟨h, 3, none⟩ = false) (h0 : 0 ≤ t) (h1 : t ≤ 1000000) :
    Calls Try.prog 13 #[.pointer (some ⟨h, 0, none⟩)] w fun e w' => e = .returned (.int .i64 (t + 1)) ∧ w' = w.setCell ⟨h, 3, none⟩ (.int .i64 (t + 1)) := by
  go_enter Try.func13, Try.ntmps13
  go_wp2
  go_ret
  exact ⟨rfl, rfl⟩

theorem find_none (n : Int) (w : World) : Calls Try.prog 15 #[.pointer none, .int .i64 n] w fun e w' => e = .returned (.pointer none) ∧ w = w' := by
  go_enter Try.func15, Try.ntmps15
  go_wp2
  go_ret
  exact ⟨rfl, rfl⟩
/-- A heap that nobody made has no map. -/
theorem find_zero (h : Nat) (w : World) (hc : w.cell? ⟨h, 1, none⟩ = some (.map none)) : Calls Try.prog 15 #[.pointer (some ⟨h, 0, none⟩), .int .i64 1] w fun e w' => e = .returned (.pointer none) ∧ w = w' := by
  have hl : ∀ w : World, (Instr.lookup 35 (.map none) (.int .i64 1) false).run Try.prog w = .ok (.pointer none) w := fun w => by kernel_rfl
  go_enter Try.func15, Try.ntmps15
  go_wp2
  go_ret
  exact ⟨rfl, rfl⟩
theorem zero_ptr (w : World) : (zeroValue 43).run Try.prog w = .ok (.pointer none) w := by kernel_rfl
theorem find_cell (h m b : Nat) (n : Int) (w : World) (hc : w.cell? ⟨h, 1, none⟩ = some (.map (some m))) (hl : (Instr.lookup 35 (.map (some m)) (.int .i64 n) false).run Try.prog w = .ok (.pointer (some ⟨b, 0, none⟩)) w) :
    Calls Try.prog 15 #[.pointer (some ⟨h, 0, none⟩), .int .i64 n] w fun e w' => e = .returned (.pointer (some ⟨b, 0, none⟩)) ∧ w = w' := by
  go_enter Try.func15, Try.ntmps15
  go_wp2
  go_ret
  exact ⟨rfl, rfl⟩
theorem key_of {n : Int} (h0 : 0 ≤ n) (h1 : n ≤ 1000000) : keyOf Try.prog 3 (.int .i64 n) = some (.int .i64 n) :=
  Maps.keyOf_int_mk Try.underlying3 (by simp [Lit.wf, show IntKind.i64.min = -9223372036854775808 from rfl, show IntKind.i64.max = 9223372036854775807 from rfl]; omega)
theorem find_any {w : World} {B h m k t : Nat} {v : Value} {xs : List Th} (H : HeapIs w B h m v xs k t) (hk : k ≤ 900000) {x : Th} (hx : x ∈ xs) : Calls Try.prog 15 #[.pointer (some ⟨h, 0, none⟩), .int .i64 x.handle] w fun e w' => e = .returned (.pointer (some ⟨x.b, 0, none⟩)) ∧ w = w' := by
  obtain ⟨D, hD, hat⟩ := H.map
  have hr := H.handles x hx
  obtain ⟨u, ps, hrun, hu⟩ := hD.lookup (Maps.int_keyed Try.underlying3) Try.underlying35 (zero_ptr w) (zd := .nil) (zp := []) rfl (key_of (n := x.handle) (by omega) (by omega))
  rw [hat x hx] at hu
  rw [ptrElem_inv hu] at hrun
  exact find_cell h m x.b x.handle w (h_cell (j := 1) H.obj rfl) hrun
end Go.Proofs.Ytejmmhaglgmgbaa
