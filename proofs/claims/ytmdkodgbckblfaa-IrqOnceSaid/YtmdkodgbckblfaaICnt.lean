/-
  What IrqOnce keeps beside a controller: two rows of eight counts, one of eight flags; what holds between them and the lines.
-/
import Derived.Test.YtmdkodgbckblfaaIAct
namespace Go.Proofs.Ytmdkodgbckblfaa
open Go.ChangeShapes Go.WideShapes Go.ChangeAt Go.RowKit

def upd {α : Type} (f : Nat → α) (k : Nat) (v : α) : Nat → α := fun j => if j = k then v else f j
/-- Eight cells. -/
def ocells (f : Nat → Value) : Array Value := ((List.range 8).map f).toArray
theorem ocells_at (f : Nat → Value) {j : Nat} (h : j < 8) : (ocells f)[j]? = some (f j) := by
  simp [ocells, List.getElem?_range h]
theorem ocells_set (f : Nat → Value) {k : Nat} (h : k < 8) (v : Value) : (ocells f).setIfInBounds k v = ocells (upd f k v) := by
  apply Array.ext_getElem?
  intro j
  by_cases hj : j < 8
  · rw [ocells_at _ hj, Array.getElem?_setIfInBounds]
    by_cases e : k = j
    · subst e
      rw [if_pos rfl, if_pos (by simp [ocells, h]), upd, if_pos rfl]
    · rw [if_neg e, ocells_at _ hj, upd, if_neg (Ne.symm e)]
  · rw [Array.getElem?_eq_none (by simp [ocells]; omega), Array.getElem?_eq_none (by simp [ocells]; omega)]
def vi (f : Nat → Int) : Nat → Value := fun j => .int .i64 (f j)
def vb (f : Nat → Bool) : Nat → Value := fun j => .bool (f j)
theorem vi_upd (f : Nat → Int) (k : Nat) (v : Int) : upd (vi f) k (.int .i64 v) = vi (upd f k v) := by
  funext j
  by_cases e : j = k <;> simp [upd, vi, e]
theorem vb_upd (f : Nat → Bool) (k : Nat) (v : Bool) : upd (vb f) k (.bool v) = vb (upd f k v) := by
  funext j
  by_cases e : j = k <;> simp [upd, vb, e]
/-- A row of eight. -/
def Oct (w : World) (b : Nat) (e : TypeId) (f : Nat → Value) : Prop := w.heap[b]? = some (.cells (ocells f) e (0, 0))
section
variable {w w' : World} {b : Nat} {e : TypeId} {f : Nat → Value}
theorem Oct.lt (H : Oct w b e f) : b < w.heap.size := lt_of_blk H
theorem Oct.kept (H : Oct w b e f) (h : w'.heap[b]? = w.heap[b]?) : Oct w' b e f := h.trans H
theorem Oct.cell (H : Oct w b e f) {j : Nat} (h : j < 8) : w.cell? ⟨b, j, none⟩ = some (f j) := by
  unfold Oct at H
  simp only [World.cell?, H]
  exact ocells_at f h
theorem Oct.free (H : Oct w b e f) (j : Nat) : w.frozen? ⟨b, j, none⟩ = false := by
  unfold Oct at H
  simp [World.frozen?, H]
theorem Oct.put (H : Oct w b e f) {k : Nat} (h : k < 8) (v : Value) : Oct (w.setCell ⟨b, k, none⟩ v) b e (upd f k v) := by
  unfold Oct at *
  rw [heap_setCell_same w b k _ _ v H, ocells_set f h]
theorem Oct.away (H : Oct w b e f) {c k : Nat} (h : c ≠ b) (v : Value) : Oct (w.setCell ⟨c, k, none⟩ v) b e f := H.kept (Below.heap_setCell _ _ _ _ (Ne.symm h))
end

theorem made_octet (v : Value) : madeCells #[v] 8 = ocells (fun _ => v) := by
  apply Array.ext_getElem?
  intro j
  by_cases hj : j < 8
  · rw [ocells_at _ hj]
    simp [madeCells, Nat.mod_one, hj]
  · rw [Array.getElem?_eq_none (by simp [madeCells]; omega), Array.getElem?_eq_none (by simp [ocells]; omega)]
/-- Controller, counts and flags, in blocks of their own. -/
structure Keep (w : World) (h g A R T n : Nat) (L : List Ln) (fa fr : Nat → Int) (ft : Nat → Bool) (wr : World) : Prop where
  mem : IqIs wr h g L
  len : L.length = n
  ca : Oct wr A 3 (vi fa)
  cr : Oct wr R 3 (vi fr)
  ct : Oct wr T 4 (vb ft)
  ba : w.heap.size ≤ g ∧ w.heap.size ≤ A ∧ w.heap.size ≤ R ∧ w.heap.size ≤ T
  dg : A ≠ g ∧ R ≠ g ∧ T ≠ g
  dh : A ≠ h ∧ R ≠ h ∧ T ≠ h
  dd : A ≠ R ∧ A ≠ T ∧ R ≠ T
  below : Below w.heap.size w wr
section
variable {w wr w2 : World} {h g A R T n : Nat} {L : List Ln} {fa fr : Nat → Int} {ft : Nat → Bool}
theorem Keep.later (H : Keep w h g A R T n L fa fr ft wr) (hb : Below wr.heap.size wr w2) : Keep w h g A R T n L fa fr ft w2 :=
  ⟨H.mem.below hb, H.len, H.ca.kept (hb.block A H.ca.lt), H.cr.kept (hb.block R H.cr.lt), H.ct.kept (hb.block T H.ct.lt), H.ba, H.dg, H.dh, H.dd, H.below.trans (hb.mono H.below.size)⟩
theorem Keep.turn {L' : List Ln} (H : Keep w h g A R T n L fa fr ft wr) (h1 : IqIs w2 h g L') (h2 : Only (· = g) wr w2) (hl : L'.length = L.length) : Keep w h g A R T n L' fa fr ft w2 :=
  ⟨h1, hl.trans H.len, H.ca.kept (h2.block A H.ca.lt H.dg.1), H.cr.kept (h2.block R H.cr.lt H.dg.2.1), H.ct.kept (h2.block T H.ct.lt H.dg.2.2), H.ba, H.dg, H.dh, H.dd, H.below.trans (h2.below H.below.size fun k hk => by subst hk; exact H.ba.1)⟩
theorem IqIs.away (H : IqIs wr h g L) {c k : Nat} (h1 : c ≠ h) (h2 : c ≠ g) (v : Value) : IqIs (wr.setCell ⟨c, k, none⟩ v) h g L := H.kept (Below.heap_setCell _ _ _ _ (Ne.symm h1)) (Below.heap_setCell _ _ _ _ (Ne.symm h2))
theorem Keep.putA (H : Keep w h g A R T n L fa fr ft wr) {k : Nat} (hk : k < 8) (v : Int) : Keep w h g A R T n L (upd fa k v) fr ft (wr.setCell ⟨A, k, none⟩ (.int .i64 v)) :=
  ⟨H.mem.away H.dh.1 H.dg.1 _, H.len, by rw [← vi_upd]; exact H.ca.put hk _, H.cr.away H.dd.1 _, H.ct.away H.dd.2.1 _, H.ba, H.dg, H.dh, H.dd, H.below.setCell H.ba.2.1 _⟩
theorem Keep.putR (H : Keep w h g A R T n L fa fr ft wr) {k : Nat} (hk : k < 8) (v : Int) : Keep w h g A R T n L fa (upd fr k v) ft (wr.setCell ⟨R, k, none⟩ (.int .i64 v)) :=
  ⟨H.mem.away H.dh.2.1 H.dg.2.1 _, H.len, H.ca.away (Ne.symm H.dd.1) _, by rw [← vi_upd]; exact H.cr.put hk _, H.ct.away H.dd.2.2 _, H.ba, H.dg, H.dh, H.dd, H.below.setCell H.ba.2.2.1 _⟩
theorem Keep.putT (H : Keep w h g A R T n L fa fr ft wr) {k : Nat} (hk : k < 8) (v : Bool) : Keep w h g A R T n L fa fr (upd ft k v) (wr.setCell ⟨T, k, none⟩ (.bool v)) :=
  ⟨H.mem.away H.dh.2.2 H.dg.2.2 _, H.len, H.ca.away (Ne.symm H.dd.2.1) _, H.cr.away (Ne.symm H.dd.2.2) _, by rw [← vb_upd]; exact H.ct.put hk _, H.ba, H.dg, H.dh, H.dd, H.below.setCell H.ba.2.2.2 _⟩
end

/-! What holds. -/
structure Inv (i : Nat) (L : List Ln) (fa fr : Nat → Int) (ft : Nat → Bool) : Prop where
  bd : ∀ j, 0 ≤ fa j ∧ fa j ≤ i ∧ 0 ≤ fr j ∧ fr j ≤ i
  ok : ∀ j x, L[j]? = some x → (x.ra = true → 1 ≤ fr j) ∧ (ft j = true → x.se = false → 1 ≤ fa j)
section
variable {i : Nat} {L : List Ln} {fa fr : Nat → Int} {ft : Nat → Bool}
theorem Inv.up (H : Inv i L fa fr ft) : Inv (i + 1) L fa fr ft := ⟨fun j => by have := H.bd j; omega, H.ok⟩
/-- A line changed, but neither what is raised nor what is served. -/
theorem set_at_ {L : List Ln} {k j : Nat} {x y z : Ln} (hx : L[k]? = some x) (hz : (L.set k y)[j]? = some z) : (j = k ∧ z = y) ∨ (j ≠ k ∧ L[j]? = some z) := by
  have hi := (List.getElem?_eq_some_iff.1 hx).1
  rw [List.getElem?_set] at hz
  by_cases e : k = j
  · subst e
    rw [if_pos rfl, if_pos hi] at hz
    exact Or.inl ⟨rfl, by simpa using hz.symm⟩
  · rw [if_neg e] at hz
    exact Or.inr ⟨Ne.symm e, hz⟩
theorem Inv.like (H : Inv i L fa fr ft) {k : Nat} {x y : Ln} (hx : L[k]? = some x) (h1 : y.ra = x.ra) (h2 : y.se = x.se) : Inv (i + 1) (L.set k y) fa fr ft :=
  ⟨H.up.bd, fun j z hz => by
    rcases set_at_ hx hz with ⟨rfl, rfl⟩ | ⟨_, hz⟩
    · rw [h1, h2]
      exact H.ok j x hx
    · exact H.ok j z hz⟩
theorem inv_mask (H : Inv i L fa fr ft) (I : Int) (b : Bool) : Inv (i + 1) (maskL L I b) fa fr ft := by
  unfold maskL
  split
  · rename_i h
    obtain ⟨k, hk, _, hx⟩ := hasL_hit h
    have hk2 : I.toNat = k := by omega
    rw [hk2]
    exact H.like hx rfl rfl
  · exact H.up
theorem inv_raise_no (H : Inv i L fa fr ft) (I : Int) (h0 : raiseE L I ≠ 0) : Inv (i + 1) (raiseL L I) fa fr ft := by
  unfold raiseE at h0
  unfold raiseL
  split
  · rename_i h
    rw [if_pos h] at h0
    obtain ⟨k, hk, _, hx⟩ := hasL_hit h
    have hk2 : I.toNat = k := by omega
    rw [hk2]
    split
    · exact H.like hx rfl rfl
    · rename_i h3
      rw [if_neg h3] at h0
      exact absurd rfl h0
  · exact H.up
theorem inv_raise_ok (H : Inv i L fa fr ft) (I : Int) (h0 : raiseE L I = 0) : ∃ k : Nat, I = k ∧ k < L.length ∧ Inv (i + 1) (raiseL L I) fa (upd fr k (fr k + 1)) ft := by
  unfold raiseE at h0
  by_cases h : hasL L I = true
  · rw [if_pos h] at h0
    obtain ⟨k, hk, hlt, hx⟩ := hasL_hit h
    have hk2 : I.toNat = k := by omega
    refine ⟨k, hk, hlt, ?_⟩
    have h3 : ¬ (lnAt L I).ra = true := fun h3 => by
      rw [if_pos h3] at h0
      cases h0
    unfold raiseL
    rw [if_pos h, if_neg h3, hk2]
    refine ⟨fun j => ?_, fun j z hz => ?_⟩
    · have := H.bd j
      unfold upd
      split
      · rename_i e
        subst e
        omega
      · omega
    · unfold upd
      rcases set_at_ hx hz with ⟨rfl, rfl⟩ | ⟨hne, hz⟩
      · have h4 := H.ok j _ hx
        have h5 := H.bd j
        rw [if_pos rfl]
        exact ⟨fun _ => by omega, fun a b => h4.2 a b⟩
      · rw [if_neg hne]
        exact H.ok j z hz
  · rw [if_neg h] at h0
    cases h0
theorem inv_ack_no (H : Inv i L fa fr ft) (I : Int) (h0 : ackE L I ≠ 0) : Inv (i + 1) (ackL L I) fa fr ft := by
  unfold ackE at h0
  unfold ackL
  split
  · rename_i h
    rw [if_pos h] at h0
    split
    · rename_i h3
      rw [if_pos h3] at h0
      exact absurd rfl h0
    · exact H.up
  · exact H.up
theorem inv_ack_ok (H : Inv i L fa fr ft) (I : Int) (h0 : ackE L I = 0) : ∃ k : Nat, I = k ∧ k < L.length ∧ Inv (i + 1) (ackL L I) (upd fa k (fa k + 1)) fr ft := by
  unfold ackE at h0
  by_cases h : hasL L I = true
  · rw [if_pos h] at h0
    obtain ⟨k, hk, hlt, hx⟩ := hasL_hit h
    have hk2 : I.toNat = k := by omega
    refine ⟨k, hk, hlt, ?_⟩
    have h3 : (lnAt L I).se = true := by
      by_cases h3 : (lnAt L I).se = true
      · exact h3
      · rw [if_neg h3] at h0
        cases h0
    unfold ackL
    rw [if_pos h, if_pos h3, hk2]
    refine ⟨fun j => ?_, fun j z hz => ?_⟩
    · have := H.bd j
      unfold upd
      split
      · rename_i e
        subst e
        omega
      · omega
    · unfold upd
      rcases set_at_ hx hz with ⟨rfl, rfl⟩ | ⟨hne, hz⟩
      · have h4 := H.ok j _ hx
        have h5 := H.bd j
        rw [if_pos rfl]
        exact ⟨h4.1, fun _ _ => by omega⟩
      · rw [if_neg hne]
        exact H.ok j z hz
  · rw [if_neg h] at h0
    cases h0
/-- Next tells line N: it was raised, and acknowledged if it had been told. -/
theorem inv_next (H : Inv i L fa fr ft) : (nextB L = false ∧ nextN L = 0 ∧ nextL L = L) ∨ ∃ N : Nat, N < L.length ∧ nextN L = (N : Int) ∧ nextB L = true ∧ 1 ≤ fr N ∧ (ft N = true → 1 ≤ fa N) ∧ Inv (i + 1) (nextL L) (upd fa N 0) (upd fr N 0) (upd ft N true) := by
  by_cases h : nx L < L.length
  · obtain ⟨x, hx, hr⟩ := nx_at L h
    have hN := H.ok _ x hx
    have hr2 : x.ra = true ∧ x.se = false := by
      unfold Ln.rdy at hr
      simp only [Bool.and_eq_true, Bool.not_eq_true'] at hr
      exact ⟨hr.1.1, hr.2⟩
    refine Or.inr ⟨nx L, h, if_pos h, by simp [nextB, h], hN.1 hr2.1, fun ht => hN.2 ht hr2.2, fun j => ?_, fun j z hz => ?_⟩
    · have := H.bd j
      unfold upd
      split <;> omega
    · unfold nextL at hz
      rw [if_pos h, lnAt_in hx] at hz
      unfold upd
      rcases set_at_ hx hz with ⟨rfl, rfl⟩ | ⟨hne, hz⟩
      · exact ⟨fun h5 => (Bool.false_ne_true h5).elim, fun _ h5 => (Bool.false_ne_true h5.symm).elim⟩
      · rw [if_neg hne, if_neg hne, if_neg hne]
        exact H.ok j z hz
  · exact Or.inl ⟨by simp [nextB, h], if_neg h, if_neg h⟩
end
/-- As it begins. -/
theorem inv_start (n : Nat) : Inv 0 (List.replicate n dark) (fun _ => 0) (fun _ => 0) (fun _ => false) := by
  refine ⟨fun j => by simp, fun j x hx => ?_⟩
  have := (List.getElem?_eq_some_iff.1 hx).1
  rw [List.length_replicate] at this
  rw [List.getElem?_replicate, if_pos this, Option.some.injEq] at hx
  subst hx
  exact ⟨fun h => (Bool.false_ne_true h).elim, fun h => (Bool.false_ne_true h).elim⟩
end Go.Proofs.Ytmdkodgbckblfaa
