/-
  Contracts: the queue's own Pop; the library's heap: Push and Pop of a queue.
-/
import Derived.Test.YtcofehmgnpmecaaAWalksC
namespace Go.Proofs.Ytcofehmgnpmecaa
open Go.ChangeShapes Go.WideShapes Go.ChangeAt Go.RowKit Ap

def gif (x : Gv) : Value := .iface 65 (.agg #[.int .i64 x.till, .int .u64 x.sh])
/-- The last one taken off the queue. -/
def Popped (B h g n c : Nat) (mv c2 c3 : Value) (xs : List Gv) (w : World) (e : Ending) (w' : World) : Prop :=
  e = .returned (gif (at_ xs n)) ∧ QIs w' B g n c (xs.take n) ∧ w'.heap[h]? = some (bObj mv (.slice (some ⟨g, 0, none⟩) n c) c2 c3) ∧ Only (· = h) w w'
theorem popped_end {w : World} {B h g n c : Nat} {mv c2 c3 : Value} {xs : List Gv} (hp : QIs w B g (n + 1) c xs) (hh : w.heap[h]? = some (bObj mv (.slice (some ⟨g, 0, none⟩) (n + 1) c) c2 c3)) (hgh : g ≠ h) (o : Obj) :
    Popped B h g n c mv c2 c3 xs w (.returned (gif (at_ xs n))) ((w.setCell ⟨h, 1, none⟩ (.slice (some ⟨g, 0, none⟩) n c)).alloc o) := by
  have hs : (w.setCell ⟨h, 1, none⟩ (.slice (some ⟨g, 0, none⟩) n c)).heap.size = w.heap.size := by simp [World.setCell]
  have hlt := lt_of_blk hh
  have hlen : (xs.take n).length = n := by
    have := hp.len
    rw [List.length_take]
    omega
  refine ⟨rfl, ?_, ?_, ?_⟩
  · have h3 : w.ownsRow B 65 2 (.slice (some ⟨g, 0, none⟩) n c) n (gcells (xs.take n)) := by
      obtain ⟨k1, k2⟩ := hp.row
      rcases k2 with ⟨k2, _⟩ | ⟨g', cap, cur, hv, hg, hh2, hc, hm, hs, ht⟩
      · simp at k2
      · simp only [Value.slice.injEq, Option.some.injEq, Addr.mk.injEq, and_true, true_and] at hv
        obtain ⟨rfl, rfl⟩ := hv
        refine ⟨by rw [gcells_len, hlen], Or.inr ⟨g, c, cur, rfl, hg, hh2, by omega, hm, hs, ?_⟩⟩
        have : cur.toList.take (n * 2) = (cur.toList.take ((n + 1) * 2)).take (n * 2) := by rw [List.take_take, Nat.min_eq_left (by omega)]
        rw [this, ht, gcells_take]
    have hq : QIs w B g n c (xs.take n) := ⟨h3, hlen⟩
    refine hq.kept ?_
    rw [Below.heap_alloc _ _ _ (by rw [hs]; exact hp.lt.2), Below.heap_setCell _ _ _ _ hgh]
  · rw [Below.heap_alloc _ _ _ (by rw [hs]; exact hlt)]
    exact b_put _ hh
  · exact (Only.put (S := (· = h)) (Only.refl _ w) (p := ⟨h, 1, none⟩) (Or.inl rfl) _).new o

set_option maxHeartbeats 400000 in
theorem qpop_any {w : World} {B h g n c : Nat} {mv c2 c3 : Value} {xs : List Gv} (hp : QIs w B g (n + 1) c xs) (hm : n ≤ 900000) (hh : w.heap[h]? = some (bObj mv (.slice (some ⟨g, 0, none⟩) (n + 1) c) c2 c3)) (hgh : g ≠ h) :
    Calls Try.prog 49 #[.pointer (some ⟨h, 1, none⟩)] w (Popped B h g n c mv c2 c3 xs w) := by
  have Hend := Lib.hid (popped_end hp hh hgh)
  obtain ⟨hc, hf⟩ : w.cell? ⟨h, 1, none⟩ = some (.slice (some ⟨g, 0, none⟩) (n + 1) c) ∧ w.frozen? ⟨h, 1, none⟩ = false := bx_cell (j := 1) hh rfl
  have hlt := lt_of_blk hh
  obtain ⟨g1, g2⟩ := hp.cell (i := n) (by omega)
  have hnc := hp.cap.1
  have hn0 : (0 : Int) ≤ n := by omega
  have hn1 : (n : Int) < (n : Int) + 1 := by omega
  have hn2 : (n : Int) ≤ 900000 := by omega
  have hn3 : (n : Int) ≤ c := by omega
  have hlg := hp.lt.2
  unfold gif at Hend
  generalize at_ xs n = x at *
  obtain ⟨xt, xv⟩ := x
  clear hp hh hgh
  go_enter Try.func49, Try.ntmps49
  go_wp2
  go_ret
  exact Hend.out _

/-- One more, and the queue is in order. -/
def Put (B h : Nat) (mv v c2 c3 : Value) (xs : List Gv) (x : Gv) (w : World) (e : Ending) (w' : World) : Prop :=
  e = .returned (.tuple #[]) ∧ ∃ g c ys, ys.Perm (x :: xs) ∧ QIs w' B g (xs.length + 1) c ys ∧ Heap (xs.length + 1) ys ∧ w'.heap[h]? = some (bObj mv (.slice (some ⟨g, 0, none⟩) (xs.length + 1) c) c2 c3) ∧ Only (fun k => v.ownBlock = some k ∨ k = h) w w' ∧ (v.ownBlock = some g ∨ w.heap.size ≤ g) ∧ g ≠ h
set_option maxHeartbeats 400000 in
theorem hpush_any {w : World} {B h : Nat} {mv v c2 c3 : Value} {xs : List Gv} {x : Gv} (hr : w.ownsRow B 65 2 v xs.length (gcells xs)) (ho : Heap xs.length xs) (hm : xs.length ≤ 900000) (hB : B ≤ w.heap.size) (hh : w.heap[h]? = some (bObj mv v c2 c3)) (hoh : v.ownBlock ≠ some h) :
    Calls Try.prog 24 #[.iface 63 (.pointer (some ⟨h, 1, none⟩)), gif x] w (Put B h mv v c2 c3 xs x w) := by
  have Hc := Lib.hid (qpush_any (x := x) hr hm hB hh hoh)
  obtain ⟨n, hn⟩ : ∃ n, xs.length = n := ⟨_, rfl⟩
  have hlth := lt_of_blk hh
  have Hup : Hid (Up (n + 1) n (xs ++ [x])) := Lib.hid (up_new (by rw [hn] at ho; exact ho) hn)
  have m1 := method_push (.pointer (some ⟨h, 1, none⟩)) w
  have n1 := nil_push h w
  have HX : Hid (∀ (w1 : World) (g c : Nat), w1.heap[h]? = some (bObj mv (.slice (some ⟨g, 0, none⟩) (n + 1) c) c2 c3) → (v.ownBlock = some g ∨ w.heap.size ≤ g) → Hid (w1.cell? ⟨h, 1, none⟩ = some (.slice (some ⟨g, 0, none⟩) (n + 1) c)) ∧ h < w1.heap.size ∧ Hid (h ≠ g)) := Lib.hid fun w1 g c hh1 hg1 =>
    ⟨Lib.hid (bx_cell (j := 1) hh1 rfl).1, lt_of_blk hh1, Lib.hid (fun e => by
      subst e
      rcases hg1 with h2 | h2
      · exact hoh h2
      · omega)⟩
  have HE : Hid (∀ (w1 w2 : World) (g c : Nat) (ys : List Gv), QIs w2 B g (n + 1) c ys → Heap (n + 1) ys → ys.Perm (xs ++ [x]) → w1.heap[h]? = some (bObj mv (.slice (some ⟨g, 0, none⟩) (n + 1) c) c2 c3) → Only (fun k => v.ownBlock = some k ∨ k = h) w w1 → (v.ownBlock = some g ∨ w.heap.size ≤ g) → Only (· = g) w1 w2 → Put B h mv v c2 c3 xs x w (.returned (.tuple #[])) w2) := Lib.hid fun w1 w2 g c ys hq hheap hperm hb1 ho1 hg1 ho2 => by
    obtain ⟨-, hlt1, hoff1⟩ := HX.out w1 g c hb1 hg1
    refine ⟨rfl, g, c, ys, hperm.trans (List.perm_append_comm (l₁ := xs) (l₂ := [x])), ?_, ?_, ?_, ?_, hg1, Ne.symm hoff1.out⟩
    · rw [hn]
      exact hq
    · rw [hn]
      exact hheap
    · rw [hn, ho2.block h hlt1 hoff1.out]
      exact hb1
    · refine ho1.trans ho2 (fun k hk => ?_)
      subst hk
      exact hg1.imp (fun h2 => Or.inl h2) id
  have Hn := Lib.hid hn
  rw [hn] at hm
  have hm0 : (n : Int) ≤ 900000 := by omega
  have hm2 : n + 1 ≤ 1000000 := by omega
  have hn1 : n < n + 1 := by omega
  unfold gif
  clear hr ho hh hoh hn
  go_enter Try.func24, Try.ntmps24
  go_wp2_with (first
    | (go_at_call 50; refine Hc.out.mono ?_; rintro e w1 ⟨rfl, g, c, hp1, hh1, ho1, hg1⟩; rw [Hn.out] at hp1 hh1; have Hp1 := Lib.hid hp1; obtain ⟨Hcell, hlt1, Hoff⟩ := HX.out w1 g c hh1 hg1; have m2 := method_len h _ w1 Hcell.out; have n2 := nil_len h w1; have Hh1 := Lib.hid hh1; have Ho1 := Lib.hid ho1; have Hg1 := Lib.hid hg1; clear hp1 hh1 ho1 hg1)
    | (go_at_call 46; refine (qlen_any _ _ _ _).mono ?_; rintro e w2 ⟨rfl, rfl⟩)
    | (go_at_call 28; refine (up_any Hp1.out hm2 hn1 Hup.out Hcell.out hlt1 Hoff.out).mono ?_; rintro e w2 ⟨rfl, ys, hperm, hp2, hh2, ho2⟩; have Hfin := Lib.hid (HE.out w1 w2 g c ys hp2 hh2 hperm Hh1.out Ho1.out Hg1.out ho2); clear hperm hp2 hh2 ho2))
  go_end0
  exact Hfin.out

/-- The first one taken out, and the queue is in order. -/
def Removed (B h g n c : Nat) (mv c2 c3 : Value) (xs : List Gv) (w : World) (e : Ending) (w' : World) : Prop :=
  (∃ v, e = .returned v) ∧ ∃ ys, (at_ xs 0 :: ys).Perm xs ∧ QIs w' B g n c ys ∧ Heap n ys ∧ w'.heap[h]? = some (bObj mv (.slice (some ⟨g, 0, none⟩) n c) c2 c3) ∧ Only (fun k => k = g ∨ k = h) w w'
theorem removed_end {w w2 : World} {B h g n c : Nat} {mv c2 c3 : Value} {xs zs : List Gv} (hn : xs.length = n + 1) (hperm : zs.Perm xs) (hlast : at_ zs n = at_ xs 0) (hheap : Heap n zs)
    (ho : Only (· = g) w w2) (e : Ending) (w' : World) (hp : Popped B h g n c mv c2 c3 zs w2 e w') : Removed B h g n c mv c2 c3 xs w e w' := by
  obtain ⟨h1, h2, h3, h4⟩ := hp
  have hzn : zs.length = n + 1 := hperm.length_eq.trans hn
  refine ⟨⟨_, h1⟩, zs.take n, ?_, h2, heap_take hheap, h3, (ho.mono (fun k hk => Or.inl hk)).trans h4 (fun k hk => Or.inl (Or.inr hk))⟩
  have hz := take_last hzn
  rw [hlast] at hz
  have h5 : (at_ xs 0 :: zs.take n).Perm (zs.take n ++ [at_ xs 0]) := List.perm_append_comm (l₁ := [at_ xs 0])
  rw [← hz] at h5
  exact h5.trans hperm
set_option maxHeartbeats 1000000 in
theorem hpop_any {w : World} {B h g n c : Nat} {mv c2 c3 : Value} {xs : List Gv} (hp : QIs w B g (n + 1) c xs) (ho : Heap (n + 1) xs) (hm : n ≤ 900000) (hh : w.heap[h]? = some (bObj mv (.slice (some ⟨g, 0, none⟩) (n + 1) c) c2 c3)) (hgh : g ≠ h) :
    Calls Try.prog 27 #[.iface 63 (.pointer (some ⟨h, 1, none⟩))] w (Removed B h g n c mv c2 c3 xs w) := by
  have hn := hp.len
  have hlth := lt_of_blk hh
  have Hcell : Hid (w.cell? ⟨h, 1, none⟩ = some (.slice (some ⟨g, 0, none⟩) (n + 1) c)) := Lib.hid (bx_cell (j := 1) hh rfl).1
  have m1 := method_len h _ w Hcell.out
  have n1 := nil_len h w
  have m2 := method_swap h _ w Hcell.out
  have n2 := nil_swap h w
  have hn0 : (0 : Int) ≤ n := by omega
  have hn1 : (n : Int) ≤ 900000 := by omega
  have hm2 : n + 1 ≤ 1000000 := by omega
  have hm3 : n < n + 1 := by omega
  have hm4 : 0 < n + 1 := by omega
  have Hp := Lib.hid hp
  have Hdown := Lib.hid (down_start ho hn)
  have Hsperm := Lib.hid (swp_perm (xs := xs) (i := 0) (j := n) (by omega) (by omega))
  have Hslast : Hid (at_ (swp xs 0 n) n = at_ xs 0) := Lib.hid (by
    rw [swp_at (by omega) (by omega), if_pos rfl])
  have HZ : Hid (∀ (w1 w2 : World) (zs : List Gv), zs.Perm (swp xs 0 n) → (∀ q, n ≤ q → at_ zs q = at_ (swp xs 0 n) q) → QIs w2 B g (n + 1) c zs → Heap n zs → Only (· = g) w w1 → Only (· = g) w1 w2 →
      Calls Try.prog 49 #[.pointer (some ⟨h, 1, none⟩)] w2 (Removed B h g n c mv c2 c3 xs w)) := Lib.hid fun w1 w2 zs hperm hsame hp2 hheap ho1 ho2 => by
    have hperm2 := hperm.trans Hsperm.out
    have ho3 : Only (· = g) w w2 := ho1.trans ho2 (fun k hk => Or.inl hk)
    have hh2 : w2.heap[h]? = some (bObj mv (.slice (some ⟨g, 0, none⟩) (n + 1) c) c2 c3) := (ho3.block h hlth (Ne.symm hgh)).trans hh
    exact (qpop_any hp2 hm hh2 hgh).mono fun e w' => removed_end hn hperm2 ((hsame n (Nat.le_refl _)).trans Hslast.out) hheap ho3 e w'
  have Hoff := Lib.hid (Ne.symm hgh)
  have h0c : ((0 : Nat) : Int) = 0 := rfl
  clear hp hn ho hh hgh
  go_enter Try.func27, Try.ntmps27
  go_wp2_with (first
    | (go_at_call 46; refine (qlen_any _ _ _ _).mono ?_; rintro e w2 ⟨rfl, rfl⟩)
    | (go_at_call 48; refine (swap_any (i := 0) (j := n) Hp.out hm2 hm4 hm3).mono ?_; rintro e w1 ⟨rfl, hp1, ho1⟩; have Hp1 := Lib.hid hp1; have Ho1 := Lib.hid ho1; have Hcell1 := Lib.hid ((ho1.cell hlth Hoff.out 1).trans Hcell.out); have hlt1 := Nat.lt_of_lt_of_le hlth ho1.size; clear hp1 ho1)
    | (go_at_call 29; refine (down_any Hp1.out hm2 hm3 Hdown.out Hcell1.out hlt1 Hoff.out).mono ?_; rintro e w2 ⟨⟨r, rfl⟩, zs, hperm, hsame, hp2, hheap, ho2⟩; have HP := Lib.hid (HZ.out w1 w2 zs hperm hsame hp2 hheap Ho1.out ho2); have m3 := method_pop (.pointer (some ⟨h, 1, none⟩)) w2; have n3 := nil_pop h w2; clear hperm hsame hp2 hheap ho2)
    | (go_at_call 49; refine HP.out.mono ?_; rintro e w4 ⟨⟨v, rfl⟩, hpo⟩; have Hfin := Lib.hid hpo; clear hpo))
  go_ret
  exact ⟨⟨_, rfl⟩, Hfin.out⟩
end Go.Proofs.Ytcofehmgnpmecaa
