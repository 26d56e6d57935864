/-
  Contracts: a heap's Push.
-/
import Derived.Test.YtejmmhaglgmgbaaHWalksF
import Derived.Deep.RegionHeld3
import Derived.Deep.DrawnRows
import Derived.Deep.DeepCutAuto
namespace Go.Proofs.Ytejmmhaglgmgbaa
open Go.ChangeShapes Go.WideShapes Go.ChangeAt Go.RowKit Hp

theorem h_put2 {w : World} {h : Nat} {v c1 c2 c3 : Value} (u : Value) (hh : w.heap[h]? = some (hObj v c1 c2 c3)) : (w.setCell ⟨h, 2, none⟩ u).heap[h]? = some (hObj v c1 u c3) := by
  rw [heap_setCell_same w h 2 #[v, c1, c2, c3] _ _ hh]
  rfl
theorem h_put3 {w : World} {h : Nat} {v c1 c2 c3 : Value} (u : Value) (hh : w.heap[h]? = some (hObj v c1 c2 c3)) : (w.setCell ⟨h, 3, none⟩ u).heap[h]? = some (hObj v c1 c2 u) := by
  rw [heap_setCell_same w h 3 #[v, c1, c2, c3] _ _ hh]
  rfl
/-- The world behind the boxed parameter and the new handle. -/
def told (w : World) (h k : Nat) (key what : Int) : World := (w.setCell ⟨h, 2, none⟩ (.int .i64 ((k : Int) + 1))).alloc (.cells #[.int .i64 key, .int .i64 what] 28 (0, 0))
theorem told_size (w : World) (h k : Nat) (key what : Int) : (told w h k key what).heap.size = w.heap.size + 1 := by simp [told, World.setCell]
theorem told_new (w : World) (h k : Nat) (key what : Int) : (told w h k key what).heap[w.heap.size]? = some (.cells #[.int .i64 key, .int .i64 what] 28 (0, 0)) := by
  have := heap_alloc_new (w.setCell ⟨h, 2, none⟩ (.int .i64 ((k : Int) + 1))) (.cells #[.int .i64 key, .int .i64 what] 28 (0, 0))
  simpa [told, World.setCell] using this
theorem told_old (w : World) (h k : Nat) (key what : Int) {b : Nat} (hb : b < w.heap.size) (hbh : b ≠ h) : (told w h k key what).heap[b]? = w.heap[b]? := by
  rw [told, Below.heap_alloc _ _ _ (by simp [World.setCell]; exact hb), Below.heap_setCell _ _ _ _ hbh]
theorem told_h (w : World) (h k : Nat) (key what : Int) {v c1 c2 c3 : Value} (hh : w.heap[h]? = some (hObj v c1 c2 c3)) : (told w h k key what).heap[h]? = some (hObj v c1 (.int .i64 ((k : Int) + 1)) c3) := by
  rw [told, Below.heap_alloc _ _ _ (by simp [World.setCell]; exact lt_of_block hh)]
  exact h_put2 _ hh

/-- .. and behind the new turn and the new thing. -/
def made (w : World) (h k t : Nat) (key what : Int) : World :=
  ((told w h k key what).setCell ⟨h, 3, none⟩ (.int .i64 ((t : Int) + 1))).alloc (.cells #[.int .i64 key, .int .i64 what, .int .i64 ((k : Int) + 1), .int .i64 ((t : Int) + 1), .int .i64 0] 45 (0, 0))
theorem made_size (w : World) (h k t : Nat) (key what : Int) : (made w h k t key what).heap.size = w.heap.size + 2 := by
  have := told_size w h k key what
  simp [made, World.setCell]
  omega
theorem made_new (w : World) (h k t : Nat) (key what : Int) : (made w h k t key what).heap[w.heap.size + 1]? = some (thObj ⟨w.heap.size + 1, key, what, (k : Int) + 1, (t : Int) + 1⟩ 0) := by
  have h1 := heap_alloc_new ((told w h k key what).setCell ⟨h, 3, none⟩ (.int .i64 ((t : Int) + 1))) (.cells #[.int .i64 key, .int .i64 what, .int .i64 ((k : Int) + 1), .int .i64 ((t : Int) + 1), .int .i64 0] 45 (0, 0))
  have h2 : ((told w h k key what).setCell ⟨h, 3, none⟩ (.int .i64 ((t : Int) + 1))).heap.size = w.heap.size + 1 := by
    rw [← told_size w h k key what]
    simp [World.setCell]
  rw [h2] at h1
  exact h1
theorem made_far (w : World) (h k t : Nat) (key what : Int) {b : Nat} (hb : b < w.heap.size + 1) (hbh : b ≠ h) : (made w h k t key what).heap[b]? = (told w h k key what).heap[b]? := by
  rw [made, Below.heap_alloc _ _ _ (by simp only [World.setCell, Array.size_modify]; rw [told_size]; exact hb), Below.heap_setCell _ _ _ _ hbh]
theorem made_old (w : World) (h k t : Nat) (key what : Int) {b : Nat} (hb : b < w.heap.size) (hbh : b ≠ h) : (made w h k t key what).heap[b]? = w.heap[b]? := by
  rw [made_far w h k t key what (by omega) hbh, told_old w h k key what hb hbh]
theorem made_h (w : World) (h k t : Nat) (key what : Int) {v c1 : Value} (hh : w.heap[h]? = some (hObj v c1 (.int .i64 (k : Nat)) (.int .i64 (t : Nat)))) : (made w h k t key what).heap[h]? = some (hObj v c1 (.int .i64 ((k : Int) + 1)) (.int .i64 ((t : Int) + 1))) := by
  rw [made, Below.heap_alloc _ _ _ (by simp only [World.setCell, Array.size_modify]; rw [told_size]; have := lt_of_block hh; omega)]
  exact h_put3 _ (told_h w h k key what hh)
theorem made_only (w : World) (S : Nat → Prop) (h k t : Nat) (key what : Int) (hS : S h) : Only S w (made w h k t key what) :=
  ((((Only.refl S w).put (p := ⟨h, 2, none⟩) (Or.inl hS) _).new _).put (p := ⟨h, 3, none⟩) (Or.inl hS) _).new _

/-- One thing more in the heap. -/
def PutIn (B h m : Nat) (v : Value) (xs : List Th) (k t : Nat) (key what : Int) (w : World) (e : Ending) (w' : World) : Prop :=
  e = .returned (.int .i64 ((k : Int) + 1)) ∧ ∃ v' ys b, HeapIs w' B h m v' ys (k + 1) (t + 1) ∧ ys.Perm (⟨b, key, what, (k : Int) + 1, (t : Int) + 1⟩ :: xs) ∧ Only (Mine h m v xs) w w' ∧ ∀ i, Mine h m v' ys i → Mine h m v xs i ∨ w.heap.size ≤ i

theorem put_end {w w3 w5 : World} {B h m k t : Nat} {v : Value} {xs : List Th} {key what : Int} (H : HeapIs w B h m v xs k t)
    {D : DataW Unit} (hown : w3.ownsMap Try.prog 3 ptrElem m (k + 1) D) (hnew : D.atKey (.int .i64 ((k : Int) + 1)) .nil = .lit (.int .i64 ((w.heap.size + 1 : Nat) : Int))) (hold : ∀ x, x ∈ xs → D.atKey (.int .i64 x.handle) .nil = .lit (.int .i64 (x.b : Nat)))
    (h3 : Only (Mine h m v xs) w w3) (hs3 : w.heap.size + 2 ≤ w3.heap.size) (hput : Put B h v (.map (some m)) (.int .i64 ((k : Int) + 1)) (.int .i64 ((t : Int) + 1)) xs ⟨w.heap.size + 1, key, what, (k : Int) + 1, (t : Int) + 1⟩ w3 (.returned (.tuple #[])) w5) :
    PutIn B h m v xs k t key what w (.returned (.int .i64 ((k : Int) + 1))) w5 ∧ w5.cell? ⟨w.heap.size + 1, 2, none⟩ = some (.int .i64 ((k : Int) + 1)) := by
  obtain ⟨-, g, c, ys, hperm, hp, ho, hh, hon, hg⟩ := hput
  have hlen : ys.length = xs.length + 1 := hperm.length_eq
  have hm := (H.mine_lt (Or.inr (Or.inl rfl) : Mine h m v xs m)).2
  have hhl := (H.mine_lt (Or.inl rfl : Mine h m v xs h)).2
  have hmineg : ∀ i, Own (.slice (some ⟨g, 0, none⟩) (xs.length + 1) c) ys i → Own v xs i ∨ w.heap.size ≤ i := by
    rintro i (h1 | ⟨y, hy, h1⟩)
    · have e : g = i := by simpa [Value.ownBlock] using h1
      subst e
      exact hg.imp (fun h2 => Or.inl h2) (fun h2 => by omega)
    · rcases List.mem_cons.1 (hperm.mem_iff.1 hy) with rfl | hy
      · exact Or.inr (by simp at h1; omega)
      · exact Or.inl (Or.inr ⟨y, hy, h1⟩)
  have hall : ∀ i, Mine h m (.slice (some ⟨g, 0, none⟩) (xs.length + 1) c) ys i → Mine h m v xs i ∨ w.heap.size ≤ i := by
    rintro i (h1 | h1 | h1)
    · exact Or.inl (Or.inl h1)
    · exact Or.inl (Or.inr (Or.inl h1))
    · exact (hmineg i h1).imp (fun h2 => Or.inr (Or.inr h2)) id
  refine ⟨⟨rfl, _, ys, w.heap.size + 1, ⟨?_, hp, ?_, ?_, H.base, ?_, ?_, ?_⟩, hperm, ?_, hall⟩, ?_⟩
  · exact hh
  · rw [hlen]
    exact ho
  · refine Handles.kept ⟨D, hown, fun y hy => ?_⟩ (hon.block m hown.lt ?_)
    · rcases List.mem_cons.1 (hperm.mem_iff.1 hy) with rfl | hy
      · exact hnew
      · exact hold y hy
    · rintro (h1 | h1 | h1)
      · exact H.off.2.1 h1
      · exact H.off.2.2 h1.symm
      · simp at h1
        omega
  · refine ⟨fun h1 => (hmineg h h1).elim H.off.1 (fun h2 => by omega), fun h1 => (hmineg m h1).elim H.off.2.1 (fun h2 => by omega), H.off.2.2⟩
  · intro y hy
    rcases List.mem_cons.1 (hperm.mem_iff.1 hy) with rfl | hy
    · simp only
      omega
    · have := H.handles y hy
      omega
  · refine (hperm.pairwise_iff (fun {a b} (h1 : a.handle ≠ b.handle) => h1.symm)).2 (List.pairwise_cons.2 ⟨fun y hy => ?_, H.once⟩)
    have := H.handles y hy
    simp only
    omega
  · refine h3.trans hon (fun i hi => ?_)
    rcases hi with hi | hi | hi
    · exact Or.inl (Or.inr (Or.inr hi))
    · exact Or.inl (Or.inl hi)
    · exact Or.inr (by simp at hi; omega)
  · obtain ⟨i, _, hb⟩ := hp.block (hperm.mem_iff.2 List.mem_cons_self)
    exact th_cell (j := 2) hb rfl

set_option maxHeartbeats 1000000 in
theorem push_any {w : World} {B h m k t : Nat} {v : Value} {xs : List Th} (key what : Int) (H : HeapIs w B h m v xs k t) (hk : k ≤ 900000) (ht : t ≤ 900000) (hlen : xs.length ≤ 900000) (hB : B ≤ w.heap.size) :
    Calls Try.prog 6 #[.pointer (some ⟨h, 0, none⟩), .agg #[.int .i64 key, .int .i64 what]] w (PutIn B h m v xs k t key what w) := by
  have qm : ∀ w : World, (binOp .eql 35 (.map (some m)) (.map none)).run Try.prog w = .ok (.bool false) w := fun w => by kernel_rfl
  have hh := H.obj
  have hc1 : w.cell? ⟨h, 1, none⟩ = some (.map (some m)) := h_cell (j := 1) hh rfl
  have hc2 : w.cell? ⟨h, 2, none⟩ = some (.int .i64 k) := h_cell (j := 2) hh rfl
  have hf2 := h_free (j := 2) hh
  have hlt := lt_of_block hh
  have hk0 : (0 : Int) ≤ k := by omega
  have hk1 : (k : Int) ≤ 900000 := by omega
  have ht0 : (0 : Int) ≤ t := by omega
  have ht1 : (t : Int) ≤ 1000000 := by omega
  have hlt2 : h ≤ w.heap.size := by omega
  obtain ⟨W, hW⟩ : ∃ W, told w h k key what = W := ⟨_, rfl⟩
  have Hh : Hid (W.heap[h]? = some (hObj v (.map (some m)) (.int .i64 ((k : Int) + 1)) (.int .i64 (t : Nat)))) := by
    rw [← hW]
    exact told_h w h k key what hh
  have Hb : Hid (W.heap[w.heap.size]? = some (.cells #[.int .i64 key, .int .i64 what] 28 (0, 0))) := by
    rw [← hW]
    exact told_new w h k key what
  have Hs : Hid (W.heap.size = w.heap.size + 1) := by
    rw [← hW]
    exact told_size w h k key what
  obtain ⟨W2, hW2⟩ : ∃ W2, (made w h k t key what).drew = W2 := ⟨_, rfl⟩
  have h2h : W2.heap[h]? = some (hObj v (.map (some m)) (.int .i64 ((k : Int) + 1)) (.int .i64 ((t : Int) + 1))) := by
    rw [← hW2]
    exact made_h w h k t key what hh
  have h2x : W2.heap[w.heap.size + 1]? = some (thObj ⟨w.heap.size + 1, key, what, (k : Int) + 1, (t : Int) + 1⟩ 0) := by
    rw [← hW2]
    exact made_new w h k t key what
  have h2o : ∀ b, b < w.heap.size → b ≠ h → W2.heap[b]? = w.heap[b]? := fun b hb hbh => by
    rw [← hW2]
    exact made_old w h k t key what hb hbh
  have h2s : W2.heap.size = w.heap.size + 2 := by
    rw [← hW2]
    exact made_size w h k t key what
  have h2y : Only (Mine h m v xs) w W2 := by
    rw [← hW2]
    exact (made_only w _ h k t key what (Or.inl rfl)).drew
  obtain ⟨D, hD, hat⟩ := H.map
  have hm := hD.lt
  have hD2 : W2.drew.ownsMap Try.prog 3 ptrElem m k D := by
    obtain ⟨es, clock, e1, e2⟩ := hD
    exact ⟨es, clock, (h2o m hm (Ne.symm H.off.2.2)).trans e1, e2⟩
  obtain ⟨W3, hrun, hD3, hg3⟩ := hD2.update (val := .pointer (some ⟨w.heap.size + 1, 0, none⟩)) (d := .lit (.int .i64 ((w.heap.size + 1 : Nat) : Int))) (ps := []) (Maps.int_keyed Try.underlying3) Try.underlying35 (by unfold maxLen; omega) (key_of (n := (k : Int) + 1) (by omega) (by omega)) rfl
  have h3y : Only (Mine h m v xs) w W3 := h2y.drew.grown hg3 (fun i hi => by
    simp only [Option.some.injEq] at hi
    exact Or.inl (Or.inr (Or.inl hi.symm)))
  have h3b : ∀ b, b < W2.heap.size → b ≠ m → W3.heap[b]? = W2.heap[b]? := fun b hb hbm => hg3.block b hb (by simpa using hbm)
  have h3h := (h3b h (by omega) H.off.2.2).trans h2h
  have h3x := (h3b (w.heap.size + 1) (by omega) (by omega)).trans h2x
  have hxo : ¬ Own v xs (w.heap.size + 1) := fun h1 => by
    have := (H.pile.own_lt h1).2
    omega
  have h3p : PileIs W3 B v xs := H.pile.kept fun b hb => (h3b b (by have := (H.pile.own_lt hb).2; omega) (fun e => H.off.2.1 (e ▸ hb))).trans (h2o b (H.pile.own_lt hb).2 (fun e => H.off.1 (e ▸ hb)))
  have h3s : w.heap.size + 2 ≤ W3.heap.size := by
    have := hg3.size
    rw [← h2s]
    exact this
  have Hpush : Hid (Calls Try.prog 14 #[.iface 47 (.pointer (some ⟨h, 0, none⟩)), .iface 43 (.pointer (some ⟨w.heap.size + 1, 0, none⟩))] W3 fun e w5 => e = .returned (.tuple #[]) ∧ PutIn B h m v xs k t key what w (.returned (.int .i64 ((k : Int) + 1))) w5 ∧ w5.cell? ⟨w.heap.size + 1, 2, none⟩ = some (.int .i64 ((k : Int) + 1))) := by
    refine (hpush_any (x := ⟨w.heap.size + 1, key, what, (k : Int) + 1, (t : Int) + 1⟩) h3p H.order hlen (by omega) h3h H.off.1 h3x hxo (by simp only; omega) (by simp only; omega)).mono fun e w5 hput => ?_
    obtain rfl := hput.1
    exact ⟨rfl, put_end H hD3 (Maps.atKey_put_same (k := .int .i64 ((k : Int) + 1)) hD.isMap trivial _ _) (fun x hx => by
      rw [Maps.atKey_put_other (by have := H.handles x hx; simp; omega)]
      exact hat x hx) h3y h3s hput⟩
  have Hrun := Lib.hid hrun
  have HW2 : Hid (((W.setCell ⟨h, 3, none⟩ (.int .i64 ((t : Int) + 1))).alloc (.cells #[.int .i64 key, .int .i64 what, .int .i64 ((k : Int) + 1), .int .i64 ((t : Int) + 1), .int .i64 0] 45 (0, 0))).drew = W2) := by
    rw [← hW]
    exact hW2
  have b1 : W2.cell? ⟨h, 1, none⟩ = some (.map (some m)) := h_cell (j := 1) h2h rfl
  have b2 : W2.cell? ⟨w.heap.size + 1, 2, none⟩ = some (.int .i64 ((k : Int) + 1)) := th_cell (j := 2) h2x rfl
  have B1 := Lib.hid b1
  have B2 := Lib.hid b2
  clear H hh hW2 h2h h2x h2o h2s h2y hD hat hm hD2 hrun hD3 hg3 h3y h3b h3h h3x hxo h3p h3s b1 b2 hlen
  go_enter Try.func6, Try.ntmps6
  go_wp2
  rw [show (w.setCell ⟨h, 2, none⟩ (.int .i64 ((k : Int) + 1))).alloc (.cells #[.int .i64 key, .int .i64 what] 28 (0, 0)) = W from hW]
  obtain ⟨C, hC⟩ : ∃ C, w.heap.size = C := ⟨_, rfl⟩
  rw [hC] at Hb Hs hlt hlt2 B2 Hpush Hrun ⊢
  have HCq := Lib.hid hC
  clear hW hc1 hc2 hf2 hC
  have a0 : W.cell? ⟨C, 0, none⟩ = some (.int .i64 key) := by simp [World.cell?, Hb.out]
  have a1 : W.cell? ⟨C, 1, none⟩ = some (.int .i64 what) := by simp [World.cell?, Hb.out]
  have a2 : W.cell? ⟨h, 2, none⟩ = some (.int .i64 ((k : Int) + 1)) := h_cell (j := 2) Hh.out rfl
  have a3 : W.cell? ⟨h, 3, none⟩ = some (.int .i64 (t : Nat)) := h_cell (j := 3) Hh.out rfl
  have a4 := h_free (j := 3) Hh.out
  have a6 : C < W.heap.size := by rw [Hs.out]; omega
  have a7 : h < W.heap.size := by rw [Hs.out]; omega
  have a8 : C ≠ h := by omega
  have a9 : h ≠ C := by omega
  have a10 : (W.setCell ⟨h, 3, none⟩ (.int .i64 ((t : Int) + 1))).cell? ⟨h, 2, none⟩ = some (.int .i64 ((k : Int) + 1)) := h_cell (j := 2) (h_put3 _ Hh.out) rfl
  go_region_held3 (fun w' => w'.cell? ⟨C, 0, none⟩ = some (.int .i64 key) ∧ w'.cell? ⟨C, 1, none⟩ = some (.int .i64 what) ∧ w'.cell? ⟨h, 2, none⟩ = some (.int .i64 (k + 1))) (go_keep)
    ((go_at_call 13; refine (turn_any h t _ ?_ ?_ ht0 ht1).mono ?_; (simp [*]); (simp [*]); rintro e w1 ⟨rfl, rfl⟩))
  go_wp2
  rw [HW2.out, Hs.out]
  clear a0 a1 a2 a3 a4 a6 a7 a10
  have b1 := B1.out
  have b2 := B2.out
  have b3 := Hrun.out
  go_region
  go_wp2_with (go_at_call 14; refine Hpush.out.mono ?_; rintro e w5 ⟨rfl, hfin, h50⟩; have Hfin := Lib.hid hfin; clear hfin)
  go_ret
  exact Hfin.out
end Go.Proofs.Ytejmmhaglgmgbaa
