/-
  Contracts: the queue's own Push and Pop; the library's heap: Push and Pop of a queue.
-/
import Derived.Test.YtcofehmgnpmecaaAWalksB
import Derived.Deep.AppendLies
import Derived.Deep.RegionLaw
namespace Go.Proofs.Ytcofehmgnpmecaa
open Go.ChangeShapes Go.WideShapes Go.ChangeAt Go.RowKit Ap

theorem info_given : (Try.prog.info? 65).map (fun i => (i.zero, i.size, i.bytes)) = some (some (.agg #[.int .i64 0, .int .u64 0]), 2, 16) := by kernel_rfl
theorem b_put {w : World} {h : Nat} {mv v c2 c3 : Value} (u : Value) (hh : w.heap[h]? = some (bObj mv v c2 c3)) : (w.setCell ⟨h, 1, none⟩ u).heap[h]? = some (bObj mv u c2 c3) := by
  rw [heap_setCell_same w h 1 #[mv, v, c2, c3] _ _ hh]
  rfl

/-- One behind all others. -/
def Pushed (B h : Nat) (mv v c2 c3 : Value) (xs : List Gv) (x : Gv) (w : World) (e : Ending) (w' : World) : Prop :=
  e = .returned (.tuple #[]) ∧ ∃ g c, QIs w' B g (xs.length + 1) c (xs ++ [x]) ∧ w'.heap[h]? = some (bObj mv (.slice (some ⟨g, 0, none⟩) (xs.length + 1) c) c2 c3) ∧ Only (fun k => v.ownBlock = some k ∨ k = h) w w' ∧ (v.ownBlock = some g ∨ w.heap.size ≤ g)
theorem pushed_end {w w2 : World} {B h g c : Nat} {mv v c2 c3 : Value} {xs : List Gv} {x : Gv} {o : Obj} (hh : w.heap[h]? = some (bObj mv v c2 c3)) (hoh : v.ownBlock ≠ some h)
    (hrow : w2.ownsRow B 65 2 (.slice (some ⟨g, 0, none⟩) (xs.length + 1) c) (xs.length + 1) (gcells xs ++ gone x)) (hg : (w.alloc o).drew.grownBy w2 v.ownBlock) (hat : v.ownBlock = some g ∨ g = w.heap.size + 1) :
    Pushed B h mv v c2 c3 xs x w (.returned (.tuple #[])) (w2.setCell ⟨h, 1, none⟩ (.slice (some ⟨g, 0, none⟩) (xs.length + 1) c)) := by
  have hlt := lt_of_blk hh
  have hgh : g ≠ h := by
    rintro rfl
    rcases hat with h1 | h1
    · exact hoh h1
    · omega
  have hrow2 : w2.ownsRow B 65 2 (.slice (some ⟨g, 0, none⟩) (xs.length + 1) c) (xs.length + 1) (gcells (xs ++ [x])) := by
    rw [gcells_two]
    simpa [gcells] using hrow
  have hs : (w.alloc o).drew.heap.size = w.heap.size + 1 := by simp
  have hO : Only (fun k => v.ownBlock = some k ∨ k = h) w (w.alloc o).drew := ((Only.refl _ _).new o).drew
  have hO2 : Only (fun k => v.ownBlock = some k ∨ k = h) w w2 := hO.grown hg (fun k hk => Or.inl (Or.inl hk))
  refine ⟨rfl, g, c, ?_, ?_, hO2.put (p := ⟨h, 1, none⟩) (Or.inl (Or.inr rfl)) _, hat.imp id (fun h1 => by omega)⟩
  · have hq : QIs w2 B g (xs.length + 1) c (xs ++ [x]) := ⟨hrow2, by simp⟩
    exact hq.kept (Below.heap_setCell _ _ _ _ hgh)
  · refine b_put (v := v) _ ?_
    rw [hg.block h (by omega) (fun e => hoh e.symm)]
    exact (Below.heap_alloc _ _ _ hlt).trans hh

set_option maxHeartbeats 400000 in
theorem qpush_any {w : World} {B h : Nat} {mv v c2 c3 : Value} {xs : List Gv} {x : Gv} (hr : w.ownsRow B 65 2 v xs.length (gcells xs)) (hm : xs.length ≤ 900000) (hB : B ≤ w.heap.size) (hh : w.heap[h]? = some (bObj mv v c2 c3)) (hoh : v.ownBlock ≠ some h) :
    Calls Try.prog 50 #[.pointer (some ⟨h, 1, none⟩), .iface 65 (.agg #[.int .i64 x.till, .int .u64 x.sh])] w (Pushed B h mv v c2 c3 xs x w) := by
  obtain ⟨i0, hi0, hz0, hz1, hz2⟩ := info_parts info_given
  obtain ⟨A, c, hv, hnc, hc63⟩ := own_shape hr
  have Hend := Lib.hid fun (w2 : World) (g c : Nat) (o : Obj) => pushed_end (B := B) (xs := xs) (x := x) (g := g) (w2 := w2) (c := c) (o := o) hh hoh
  obtain ⟨n, hn⟩ : ∃ n, xs.length = n := ⟨_, rfl⟩
  rw [hn] at hr hm hv hnc Hend
  subst hv
  obtain ⟨hc, hf⟩ : w.cell? ⟨h, 1, none⟩ = some (.slice A n c) ∧ w.frozen? ⟨h, 1, none⟩ = false := bx_cell (j := 1) hh rfl
  have hlt := lt_of_blk hh
  obtain ⟨xt, xv⟩ := x
  simp only [gone] at Hend
  have Hrow : Hid (∀ o : Obj, (w.alloc o).drew.ownsRow B 65 2 (.slice A n c) n (gcells xs)) := Lib.hid fun o => (hr.alloc o).drew
  have hb : ∀ o : Obj, B ≤ (w.alloc o).drew.heap.size := fun o => by simp; omega
  have hz : ∀ o : Obj, (w.alloc o).drew.heap.size = w.heap.size + 1 := fun o => by simp
  have HC : Hid (∀ (j : Nat) (u : Value), [Value.int .i64 xt, .int .u64 xv][j]? = some u → (w.alloc (.cells #[.int .i64 xt, .int .u64 xv] 65 (0, 0))).drew.cell? ((⟨w.heap.size, 0, none⟩ : Addr).add j) = some u) := Lib.hid fun j u hu => by
    rw [Addr.add_mid, Nat.zero_add]
    match j with
    | 0 => simp at hu; rw [← hu]; simp [go_sem]
    | 1 => simp at hu; rw [← hu]; simp [go_sem]
    | j + 2 => simp at hu
  have HF : Hid (∀ (w2 : World) (o : Obj), (w.alloc o).drew.grownBy w2 (Value.slice A n c).ownBlock → w2.cell? ⟨h, 1, none⟩ = some (.slice A n c) ∧ w2.frozen? ⟨h, 1, none⟩ = false) := Lib.hid fun w2 o hg => by
    have hb2 : w2.heap[h]? = w.heap[h]? := by
      rw [hg.block h (by rw [hz o]; omega) (fun e => hoh e.symm)]
      exact Below.heap_alloc _ _ _ hlt
    exact ⟨(World.cell?_of_block (a := ⟨h, 1, none⟩) hb2).trans hc, (World.frozen?_of_block (a := ⟨h, 1, none⟩) hb2).trans hf⟩
  have ht : ∀ w : World, (Instr.typeAssert (.iface 65 (.agg #[.int .i64 xt, .int .u64 xv])) 20 65 false).run Try.prog w = .ok (.agg #[.int .i64 xt, .int .u64 xv]) w := fun w => by kernel_rfl
  clear hh hoh hr hn
  go_enter Try.func50, Try.ntmps50
  go_wp2
  go_region_law (refine step_append_lies _ rfl (.tmp 7) (.tmp 10) 27 rfl B 65 i0 (.agg #[.int .i64 0, .int .u64 0]) 2 16 Try.underlying27 hi0 hz0 hz1 hz2 rfl (by decide) (.slice A n c) n (gcells xs) (by simp [Act.eval]) (Hrow.out _) ⟨w.heap.size, 0, none⟩ 1 1 [.int .i64 xt, .int .u64 xv] (by simp [Act.eval]) rfl HC.out (by simp [Value.oneCell']) (by decide) (by unfold maxLen; omega) (by omega) (hb _) _ (hz _) ?_; intro g c3 w2 hrow2 hgrow hat hglt; have Hfin := Lib.hid (Hend.out w2 g c3 _ hrow2 hgrow hat); obtain ⟨hc2, hf2⟩ := HF.out w2 _ hgrow; clear hrow2 hgrow hat hglt)
  all_goals
    go_end0
    exact Hfin.out
end Go.Proofs.Ytcofehmgnpmecaa
