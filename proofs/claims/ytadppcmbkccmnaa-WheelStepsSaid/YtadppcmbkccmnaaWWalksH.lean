/-
  Contracts: Set, Cancel.
-/
import Derived.Test.YtadppcmbkccmnaaWWalksG
namespace Go.Proofs.Ytadppcmbkccmnaa
open Go.ChangeShapes Go.WideShapes Go.ChangeAt Go.RowKit Wh

section
variable {w : World} {B h m k now : Nat} {S : Nat → Value} {X : Nat → List Tm} {L : List Tm}
theorem WheelIs.nodup (H : WheelIs w B h m S X L k now) (i : Nat) : (X i).Nodup := by
  refine List.pairwise_iff_getElem.2 fun a b ha hb hab e => ?_
  have := (H.slots.apart i a i b _ _ (List.getElem?_eq_getElem ha) (List.getElem?_eq_getElem hb) (congrArg Tm.b e)).2
  omega
theorem WheelIs.few (H : WheelIs w B h m S X L k now) (i : Nat) : (X i).length ≤ L.length := by
  have hsub : ∀ x, x ∈ X i → x ∈ L := fun x hx => (H.mem x).2 ⟨i, hx⟩
  have hnd := H.nodup i
  generalize X i = Y at *
  clear H
  induction Y generalizing L with
  | nil => simp
  | cons a l ih =>
    have ha := hsub a List.mem_cons_self
    obtain ⟨s, t, e⟩ := List.append_of_mem ha
    obtain ⟨h1, h2⟩ := List.pairwise_cons.1 hnd
    have := ih (L := s ++ t) (fun x hx => by
      have hxL := hsub x (List.mem_cons_of_mem _ hx)
      have hne := h1 x hx
      rw [e] at hxL
      rcases List.mem_append.1 hxL with h3 | h3
      · exact List.mem_append_left _ h3
      · rcases List.mem_cons.1 h3 with h4 | h4
        · exact absurd h4.symm hne
        · exact List.mem_append_right _ h4) h2
    rw [e]
    simp only [List.length_cons, List.length_append] at this ⊢
    omega
end

/-- A timer more. -/
def SetTo (B h m : Nat) (S : Nat → Value) (X : Nat → List Tm) (L : List Tm) (k now t : Nat) (what : Int) (w : World) (e : Ending) (w' : World) : Prop :=
  e = .returned (.tuple #[.int .i64 ((k : Int) + 1), .int .i64 0]) ∧ ∃ b S' X', WheelIs w' B h m S' X' (⟨b, t, k + 1, what⟩ :: L) (k + 1) now ∧ Only (Mine h m S X) w w' ∧ ∀ j, Mine h m S' X' j → Mine h m S X j ∨ w.heap.size ≤ j

/-- The world behind the new handle and the new timer. -/
def told (w : World) (h k t : Nat) (what : Int) : World := (w.setCell ⟨h, 258, none⟩ (.int .i64 ((k : Int) + 1))).alloc (.cells #[.int .i64 (t : Nat), .int .i64 ((k : Int) + 1), .int .i64 what, .int .i64 0] 67 (0, 0))

set_option maxRecDepth 100000 in
set_option maxHeartbeats 1000000 in
theorem set_any {w : World} {B h m k now : Nat} {S : Nat → Value} {X : Nat → List Tm} {L : List Tm} (H : WheelIs w B h m S X L k now) (hk : k ≤ 900000) (hlen : L.length ≤ 900000) (hB : B ≤ w.heap.size) (t : Nat) (what : Int) (ht : now < t) (ht2 : t ≤ 2097152) :
    Calls Try.prog 13 #[.pointer (some ⟨h, 0, none⟩), .int .i64 (t : Nat), .int .i64 what] w (SetTo B h m S X L k now t what w) := by
  have hlow := H.low
  have hhl := H.cells.lt
  have hml := H.map.lt
  have hc6 := H.cells.map
  have hc7 := H.cells.tick
  have hc8 : w.cell? ⟨h, 258, none⟩ = some (.int .i64 (k : Nat)) := H.cells.last
  have hf8 := H.cells.free 258
  obtain ⟨W1, hW1⟩ : ∃ W1, told w h k t what = W1 := ⟨_, rfl⟩
  obtain ⟨x, hx⟩ : ∃ x : Tm, x = ⟨w.heap.size, t, k + 1, what⟩ := ⟨_, rfl⟩
  have xb : x.b = w.heap.size := by rw [hx]
  have xt : x.tick = t := by rw [hx]
  have xh : x.handle = k + 1 := by rw [hx]
  have s1 : W1.heap.size = w.heap.size + 1 := by rw [← hW1]; simp [told, World.setCell]
  have o1 : ∀ j, j < w.heap.size → j ≠ h → W1.heap[j]? = w.heap[j]? := fun j hj hjh => by
    rw [← hW1, told, Below.heap_alloc _ _ _ (by simp [World.setCell]; exact hj), Below.heap_setCell _ _ _ _ hjh]
  have c1 : WCells W1 h S (.map (some m)) now (k + 1) := by
    refine (H.cells.putLast (k + 1)).kept ?_
    rw [← hW1, told, Below.heap_alloc _ _ _ (by simp [World.setCell]; exact hhl)]
    rfl
  have x1 : W1.heap[x.b]? = some (tmObj x 0) := by
    have h1 := heap_alloc_new (w.setCell ⟨h, 258, none⟩ (.int .i64 ((k : Int) + 1))) (.cells #[.int .i64 (t : Nat), .int .i64 ((k : Int) + 1), .int .i64 what, .int .i64 0] 67 (0, 0))
    have h2 : (w.setCell ⟨h, 258, none⟩ (.int .i64 ((k : Int) + 1))).heap.size = w.heap.size := by simp [World.setCell]
    rw [h2] at h1
    rw [← hW1, hx]
    exact h1
  have y1 : Only (Mine h m S X) w W1 := by
    rw [← hW1]
    exact ((Only.refl _ w).put (p := ⟨h, 258, none⟩) (Or.inl (Or.inl rfl)) _).new _
  have m1 : MapIs W1.drew m k L := H.map.kept (o1 m hml (Ne.symm H.off.2.2))
  have hnew : ∀ y, y ∈ L → y.handle ≠ x.handle := fun y hy => by
    have := (H.handles y hy).2
    omega
  obtain ⟨W3, hrun, m3, g3⟩ := m1.store (x := x) (by omega) (by omega) hnew
  have o3 : ∀ j, j < W1.heap.size → j ≠ m → W3.heap[j]? = W1.heap[j]? := fun j hj hjm => g3.block j hj (by simpa using hjm)
  have s3 : W1.heap.size ≤ W3.heap.size := g3.size
  have y3 : Only (Mine h m S X) w W3 := y1.drew.grown g3 (fun i hi => by
    simp only [Option.some.injEq] at hi
    exact Or.inl (Or.inr (Or.inl hi.symm)))
  have c3 : WCells W3 h S (.map (some m)) now (k + 1) := c1.kept (o3 h (by omega) H.off.2.2)
  have x3 : W3.heap[x.b]? = some (tmObj x 0) := (o3 x.b (by omega) (by omega)).trans x1
  have l3 : Slots W3 B S X := H.slots.kept fun j hj => by
    have hlt := (H.slots.own_lt hj).2
    rw [o3 j (by omega) (fun e => H.off.2.1 (e ▸ hj)), o1 j hlt (fun e => H.off.1 (e ▸ hj))]
  have hxo : ¬ SOwn S X x.b := fun hj => by
    have := (H.slots.own_lt hj).2
    omega
  have HP : Hid (Calls Try.prog 24 #[.pointer (some ⟨h, 0, none⟩), .int .i64 (now : Nat), .pointer (some ⟨w.heap.size, 0, none⟩)] W3.drew fun e w5 => e = .returned (.tuple #[]) ∧ SetTo B h m S X L k now t what w (.returned (.tuple #[.int .i64 ((k : Int) + 1), .int .i64 0])) w5 ∧ w5.cell? ⟨h, 258, none⟩ = some (.int .i64 ((k : Int) + 1))) := by
    rw [← xb]
    refine (put_any (w := W3.drew) (x := x) (p := 0) (now := now) (i := slot now x.tick) (mv := .map (some m)) (now0 := now) (k := k + 1) (l3.kept fun _ _ => rfl) (c3.kept rfl) rfl (Nat.le_trans (H.few _) hlen) (by show B ≤ W3.heap.size; omega) x3 hxo (by omega) (by omega) H.off.1 (by omega) (by omega)).mono ?_
    rintro e w5 ⟨rfl, v, p1, p2, p3, p4⟩
    refine ⟨rfl, ⟨rfl, x.b, _, _, ⟨p1, p2, fun y => ?_, fun i y hy => ?_, ?_, ?_, ?_, H.base, ?_, hlow⟩, ?_, ?_⟩, p2.last⟩
    · rw [show (⟨x.b, t, k + 1, what⟩ : Tm) = x by rw [hx], List.mem_cons]
      constructor
      · rintro (rfl | hy)
        · exact ⟨slot now y.tick, by rw [upd_at]; exact List.mem_append_right _ List.mem_cons_self⟩
        · obtain ⟨i, hi⟩ := (H.mem y).1 hy
          refine ⟨i, ?_⟩
          by_cases e : i = slot now x.tick
          · subst e
            rw [upd_at]
            exact List.mem_append_left _ hi
          · rw [upd_off _ _ e]
            exact hi
      · rintro ⟨i, hi⟩
        by_cases e : i = slot now x.tick
        · subst e
          rw [upd_at] at hi
          rcases List.mem_append.1 hi with hi | hi
          · exact Or.inr ((H.mem y).2 ⟨_, hi⟩)
          · exact Or.inl (by simpa using hi)
        · rw [upd_off _ _ e] at hi
          exact Or.inr ((H.mem y).2 ⟨i, hi⟩)
    · by_cases e : i = slot now x.tick
      · subst e
        rw [upd_at] at hy
        rcases List.mem_append.1 hy with hy | hy
        · exact H.place _ y hy
        · obtain rfl : y = x := by simpa using hy
          exact ⟨rfl, by omega, by omega⟩
      · rw [upd_off _ _ e] at hy
        exact H.place i y hy
    · refine List.pairwise_cons.2 ⟨fun y hy => ?_, H.once⟩
      have := (H.handles y hy).2
      show k + 1 ≠ y.handle
      omega
    · intro y hy
      rcases List.mem_cons.1 hy with rfl | hy
      · exact ⟨by simp, by simp⟩
      · have := H.handles y hy
        omega
    · rw [show (⟨x.b, t, k + 1, what⟩ : Tm) = x by rw [hx]]
      refine m3.kept (p3.block m (by show m < W3.heap.size; omega) ?_)
      rintro (h5 | h5 | h5)
      · exact H.off.2.1 (Or.inl ⟨_, h5⟩)
      · omega
      · exact H.off.2.2 h5.symm
    · have hsub : ∀ j, SOwn (upd S (slot now x.tick) v) (upd X (slot now x.tick) (X (slot now x.tick) ++ [x])) j → SOwn S X j ∨ w.heap.size ≤ j := by
        rintro j (⟨i, h5⟩ | ⟨i, y, hy, h5⟩)
        · by_cases e : i = slot now x.tick
          · subst e
            rw [upd_at] at h5
            rcases p4 with p4 | p4
            · exact Or.inl (Or.inl ⟨_, p4 ▸ h5⟩)
            · have : W3.heap.size ≤ j := p4 j h5
              exact Or.inr (by omega)
          · rw [upd_off _ _ e] at h5
            exact Or.inl (Or.inl ⟨i, h5⟩)
        · by_cases e : i = slot now x.tick
          · subst e
            rw [upd_at] at hy
            rcases List.mem_append.1 hy with hy | hy
            · exact Or.inl (Or.inr ⟨_, y, hy, h5⟩)
            · obtain rfl : y = x := by simpa using hy
              exact Or.inr (by omega)
          · rw [upd_off _ _ e] at hy
            exact Or.inl (Or.inr ⟨i, y, hy, h5⟩)
      refine ⟨fun h5 => ?_, fun h5 => ?_, H.off.2.2⟩
      · rcases hsub h h5 with h6 | h6
        · exact H.off.1 h6
        · omega
      · rcases hsub m h5 with h6 | h6
        · exact H.off.2.1 h6
        · omega
    · refine y3.drew.trans p3 (fun j hj => ?_)
      rcases hj with h5 | h5 | h5
      · exact Or.inl (Or.inr (Or.inr (Or.inl ⟨_, h5⟩)))
      · exact Or.inr (by omega)
      · exact Or.inl (Or.inl h5)
    · rintro j (h5 | h5 | ⟨i, h5⟩ | ⟨i, y, hy, h5⟩)
      · exact Or.inl (Or.inl h5)
      · exact Or.inl (Or.inr (Or.inl h5))
      · by_cases e : i = slot now x.tick
        · subst e
          rw [upd_at] at h5
          rcases p4 with p4 | p4
          · exact Or.inl (Or.inr (Or.inr (Or.inl ⟨_, p4 ▸ h5⟩)))
          · have : W3.heap.size ≤ j := p4 j h5
            exact Or.inr (by omega)
        · rw [upd_off _ _ e] at h5
          exact Or.inl (Or.inr (Or.inr (Or.inl ⟨i, h5⟩)))
      · by_cases e : i = slot now x.tick
        · subst e
          rw [upd_at] at hy
          rcases List.mem_append.1 hy with hy | hy
          · exact Or.inl (Or.inr (Or.inr (Or.inr ⟨_, y, hy, h5⟩)))
          · obtain rfl : y = x := by simpa using hy
            exact Or.inr (by omega)
        · rw [upd_off _ _ e] at hy
          exact Or.inl (Or.inr (Or.inr (Or.inr ⟨i, y, hy, h5⟩)))
  have Hrun : Hid ((Instr.mapUpdate 54 (.map (some m)) (.int .i64 ((k : Int) + 1)) (.pointer (some ⟨w.heap.size, 0, none⟩))).run Try.prog W1.drew = .ok () W3) := by
    rw [xh, xb] at hrun
    exact hrun
  have B1 := Lib.hid c1.map
  have B2 : Hid (W1.cell? ⟨h, 258, none⟩ = some (.int .i64 ((k : Int) + 1))) := c1.last
  have B3 := Lib.hid c3.tick
  have HW1 := Lib.hid hW1
  have n0 : (0 : Int) ≤ now := by omega
  have n1 : (now : Int) < t := by omega
  have n2 : (t : Int) ≤ 2097152 := by omega
  have k0 : (0 : Int) ≤ k := by omega
  have k1 : (k : Int) ≤ 900000 := by omega
  clear H hx xb xt xh s1 o1 c1 x1 y1 m1 hnew hrun m3 g3 o3 s3 y3 c3 x3 l3 hxo hW1 hlow hml hk ht ht2 hlen hB
  go_enter Try.func13, Try.ntmps13
  go_wp2_with (go_at_call 22; refine (made_any h m _ hc6).mono ?_; rintro e w' ⟨rfl, rfl⟩)
  rw [show (w.setCell ⟨h, 258, none⟩ (.int .i64 ((k : Int) + 1))).alloc (.cells #[.int .i64 (t : Nat), .int .i64 ((k : Int) + 1), .int .i64 what, .int .i64 0] 67 (0, 0)) = W1 from HW1.out]
  have b1 := B1.out
  have b2 := B2.out
  have b3 := Hrun.out
  clear hc6 hc7 hc8 hf8
  go_region
  go_wp2
  have b4 := B3.out
  go_still_tail 8, (by kernel_rfl)
  change wpList _ _ _ _ _ W3.drew
  go_wp2_with (go_at_call 24; refine HP.out.mono ?_; rintro e w5 ⟨rfl, hfin, h50⟩; have Hfin := Lib.hid hfin; clear hfin)
  go_ret2
  exact Hfin.out
end Go.Proofs.Ytadppcmbkccmnaa
