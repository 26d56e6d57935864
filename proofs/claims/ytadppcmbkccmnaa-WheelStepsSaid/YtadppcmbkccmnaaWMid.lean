/-
  A wheel on its way to a later tick: what was reached is put again, or told.
-/
import Derived.Test.YtadppcmbkccmnaaWWalksI
import Derived.Test.YtadppcmbkccmnaaWWalksB
namespace Go.Proofs.Ytadppcmbkccmnaa
open Go.ChangeShapes Go.WideShapes Go.ChangeAt Go.RowKit Wh

/-- What is told of a timer. -/
def du (x : Tm) : Du := ((x.tick : Int), (x.handle : Int), x.what)
/-- What is due of a list of timers. -/
def dues (to : Nat) (l : List Tm) : List Du := (l.filter fun x => decide (x.tick ≤ to)).map du
theorem dues_yes {to : Nat} {l : List Tm} {x : Tm} (h : x.tick ≤ to) : dues to (l ++ [x]) = dues to l ++ [du x] := by simp [dues, h]
theorem dues_no {to : Nat} {l : List Tm} {x : Tm} (h : to < x.tick) : dues to (l ++ [x]) = dues to l := by
  have : ¬ x.tick ≤ to := by omega
  simp [dues, this]

/-- After q of the reached timers. -/
structure Mid (w : World) (B h m k to P : Nat) (S : Nat → Value) (X : Nat → List Tm) (L R : List Tm) (v : Value) (q : Nat) (dv : Value) (S' : Nat → Value) (X' : Nat → List Tm) (M : List Tm) (wr : World) : Prop where
  slots : Slots wr B S' X'
  cells : WCells wr h S' (.map (some m)) to k
  place : ∀ (i : Nat) (x : Tm), x ∈ X' i → i = slot to x.tick ∧ to < x.tick ∧ x.tick ≤ 2097152
  mem : ∀ x, (∃ i, x ∈ X' i) ↔ (∃ i, P ≤ i ∧ x ∈ X i) ∨ (x ∈ R.take q ∧ to < x.tick)
  loose : ∀ x, x ∈ R.drop q → (∃ p, wr.heap[x.b]? = some (tmObj x p)) ∧ ¬ SOwn S' X' x.b
  map : MapIs wr m k M
  mone : M.Pairwise fun x y => x.handle ≠ y.handle
  mmem : ∀ x, x ∈ M ↔ x ∈ L ∧ ¬ (x ∈ R.take q ∧ x.tick ≤ to)
  row : wr.ownsRow w.heap.size 62 1 v R.length (R.map ptrTo)
  due : wr.ownsRow w.heap.size 48 3 dv (dues to (R.take q)).length (dcells (dues to (R.take q)))
  two : dv.ownBlock = none ∨ dv.ownBlock ≠ v.ownBlock
  voff : ∀ j, v.ownBlock = some j → ¬ SOwn S' X' j
  doff : ∀ j, dv.ownBlock = some j → ¬ SOwn S' X' j
  off : ¬ SOwn S' X' h ∧ ¬ SOwn S' X' m
  sub : ∀ j, SOwn S' X' j → SOwn S X j ∨ w.heap.size ≤ j
  only : Only (Mine h m S X) w wr

theorem sown_put {S : Nat → Value} {X : Nat → List Tm} {i n : Nat} {v : Value} {x : Tm} (hv : v.ownBlock = (S i).ownBlock ∨ ∀ j, v.ownBlock = some j → n ≤ j) {j : Nat} (hj : SOwn (upd S i v) (upd X i (X i ++ [x])) j) : SOwn S X j ∨ j = x.b ∨ n ≤ j := by
  rcases hj with ⟨a, h5⟩ | ⟨a, y, hy, h5⟩
  · by_cases e : a = i
    · subst e
      rw [upd_at] at h5
      rcases hv with p4 | p4
      · exact Or.inl (Or.inl ⟨_, p4 ▸ h5⟩)
      · exact Or.inr (Or.inr (p4 j h5))
    · rw [upd_off _ _ e] at h5
      exact Or.inl (Or.inl ⟨a, h5⟩)
  · by_cases e : a = i
    · subst e
      rw [upd_at] at hy
      rcases List.mem_append.1 hy with hy | hy
      · exact Or.inl (Or.inr ⟨_, y, hy, h5⟩)
      · obtain rfl : y = x := by simpa using hy
        exact Or.inr (Or.inl h5.symm)
    · rw [upd_off _ _ e] at hy
      exact Or.inl (Or.inr ⟨a, y, hy, h5⟩)

section
variable {w wr w2 : World} {B h m k now to P q : Nat} {S S' : Nat → Value} {X X' : Nat → List Tm} {L M : List Tm} {v dv : Value} {x : Tm}

/-- What was reached. -/
structure Reached (w : World) (B h m : Nat) (S : Nat → Value) (X : Nat → List Tm) (L R : List Tm) : Prop where
  mem : ∀ x, x ∈ R → x ∈ L ∧ B ≤ x.b ∧ x.b < w.heap.size ∧ x.b ≠ h ∧ x.b ≠ m ∧ x.tick ≤ 2097152
  apart : R.Pairwise fun x y => x.b ≠ y.b
  fewer : R.length ≤ L.length
  own : ∀ x, x ∈ R → SOwn S X x.b

theorem few_of {R L : List Tm} (hnd : R.Nodup) (hsub : ∀ x, x ∈ R → x ∈ L) : R.length ≤ L.length := by
  induction R generalizing L with
  | nil => simp
  | cons a l ih =>
    have ha := hsub a List.mem_cons_self
    obtain ⟨s, t, e⟩ := List.append_of_mem ha
    obtain ⟨h1, h2⟩ := List.pairwise_cons.1 hnd
    have := ih (L := s ++ t) h2 (fun x hx => by
      have hxL := hsub x (List.mem_cons_of_mem _ hx)
      have hne := h1 x hx
      rw [e] at hxL
      rcases List.mem_append.1 hxL with h3 | h3
      · exact List.mem_append_left _ h3
      · rcases List.mem_cons.1 h3 with h4 | h4
        · exact absurd h4.symm hne
        · exact List.mem_append_right _ h4)
    rw [e]
    simp only [List.length_cons, List.length_append] at this ⊢
    omega
theorem perm_of_mem {R L : List Tm} (h1 : R.Nodup) (h2 : L.Nodup) (h : ∀ x, x ∈ R ↔ x ∈ L) : R.Perm L := by
  induction R generalizing L with
  | nil =>
    cases L with
    | nil => exact List.Perm.refl _
    | cons a l => exact absurd ((h a).2 List.mem_cons_self) (by simp)
  | cons a l ih =>
    obtain ⟨s, t, e⟩ := List.append_of_mem ((h a).1 List.mem_cons_self)
    obtain ⟨h3, h4⟩ := List.pairwise_cons.1 h1
    have hp : L.Perm (a :: (s ++ t)) := by rw [e]; exact List.perm_middle
    have h5 := List.nodup_cons.1 ((hp.nodup_iff).1 h2)
    refine ((ih h4 h5.2 fun x => ?_).cons a).trans hp.symm
    constructor
    · intro hx
      rcases List.mem_cons.1 (hp.mem_iff.1 ((h x).1 (List.mem_cons_of_mem _ hx))) with e2 | h6
      · exact absurd e2.symm (h3 x hx)
      · exact h6
    · intro hx
      rcases List.mem_cons.1 ((h x).2 (hp.mem_iff.2 (List.mem_cons_of_mem _ hx))) with e2 | h6
      · exact absurd (e2 ▸ hx) h5.1
      · exact h6

theorem flat_apart (H : Slots w B S X) (p : Nat) : (flat X p).Pairwise fun x y => x.b ≠ y.b := by
  induction p with
  | zero => simp [flat]
  | succ p ih =>
    rw [flat_succ]
    refine List.pairwise_append.2 ⟨ih, ?_, fun x hx y hy e => ?_⟩
    · refine List.pairwise_iff_getElem.2 fun a b ha hb hab e => ?_
      have := (H.apart p a p b _ _ (List.getElem?_eq_getElem ha) (List.getElem?_eq_getElem hb) e).2
      omega
    · obtain ⟨i, hi, hxi⟩ := flat_mem.1 hx
      obtain ⟨j, hj, _⟩ := H.block hxi
      obtain ⟨j', hj', _⟩ := H.block hy
      have := (H.apart i j p j' x y hj hj' e).1
      omega
theorem WheelIs.reached (H : WheelIs w B h m S X L k now) (p : Nat) : Reached w B h m S X L (flat X p) := by
  have hsub : ∀ x, x ∈ flat X p → x ∈ L := fun x hx => by
    obtain ⟨i, _, hi⟩ := flat_mem.1 hx
    exact (H.mem x).2 ⟨i, hi⟩
  refine ⟨fun x hx => ?_, flat_apart H.slots p, few_of ((flat_apart H.slots p).imp fun hne e => hne (congrArg Tm.b e)) hsub, fun x hx => ?_⟩
  · obtain ⟨i, _, hi⟩ := flat_mem.1 hx
    exact ⟨hsub x hx, H.slots.base i x hi, H.slots.lt hi, fun e => H.off.1 (Or.inr ⟨i, x, hi, e⟩), fun e => H.off.2.1 (Or.inr ⟨i, x, hi, e⟩), (H.place i x hi).2.2⟩
  · obtain ⟨i, _, hi⟩ := flat_mem.1 hx
    exact Or.inr ⟨i, x, hi, rfl⟩

variable {R : List Tm}
theorem mid_next (HR : Reached w B h m S X L R) (hx : R[q]? = some x) : x ∈ R ∧ R.take (q + 1) = R.take q ++ [x] ∧ R.drop q = x :: R.drop (q + 1) ∧ ∀ y, y ∈ R.drop (q + 1) → y.b ≠ x.b := by
  obtain ⟨hlt, hxe⟩ := List.getElem?_eq_some_iff.1 hx
  have h1 : R.drop q = x :: R.drop (q + 1) := by rw [List.drop_eq_getElem_cons hlt, hxe]
  refine ⟨List.mem_of_getElem? hx, by rw [List.take_succ_eq_append_getElem hlt, hxe], h1, fun y hy e => ?_⟩
  have h2 : (R.drop q).Pairwise fun x y => x.b ≠ y.b := HR.apart.sublist (List.drop_sublist _ _)
  rw [h1] at h2
  exact (List.pairwise_cons.1 h2).1 y hy e.symm

/-- The timer isn't due: it is put again. -/
theorem Mid.put (H : Mid w B h m k to P S X L R v q dv S' X' M wr) (HR : Reached w B h m S X L R) (hh : h < w.heap.size) (hm : m < w.heap.size) (hhm : h ≠ m) (hx : R[q]? = some x) (ht : to < x.tick) {e : Ending} (hp : Putted B h (slot to x.tick) S' X' x (.map (some m)) to k wr e w2) :
    ∃ S'' X'', Mid w B h m k to P S X L R v (q + 1) dv S'' X'' M w2 := by
  obtain ⟨-, v2, p1, p2, p3, p4⟩ := hp
  obtain ⟨hxR, htake, hdrop, hne⟩ := mid_next HR hx
  obtain ⟨hxL, hxB, hxl, hxh, hxm, hx2⟩ := HR.mem x hxR
  have hxl2 := H.loose x (by rw [hdrop]; exact List.mem_cons_self)
  have hsz := H.only.size
  have hcase : ∀ j, SOwn (upd S' (slot to x.tick) v2) (upd X' (slot to x.tick) (X' (slot to x.tick) ++ [x])) j → SOwn S' X' j ∨ j = x.b ∨ wr.heap.size ≤ j := fun j hj => sown_put p4 hj
  have hvlt := fun j hj => (H.row.lt j hj)
  have hdlt := fun j hj => (H.due.lt j hj)
  refine ⟨_, _, ⟨p1, p2, fun i y hy => ?_, fun y => ?_, fun y hy => ?_, ?_, H.mone, fun y => ?_, ?_, ?_, H.two, fun j hj hj2 => ?_, fun j hj hj2 => ?_, ⟨fun hj => ?_, fun hj => ?_⟩, fun j hj => ?_, ?_⟩⟩
  · by_cases e : i = slot to x.tick
    · subst e
      rw [upd_at] at hy
      rcases List.mem_append.1 hy with hy | hy
      · exact H.place _ y hy
      · obtain rfl : y = x := by simpa using hy
        exact ⟨rfl, ht, hx2⟩
    · rw [upd_off _ _ e] at hy
      exact H.place i y hy
  · have hmy := H.mem y
    rw [htake, List.mem_append, List.mem_singleton]
    constructor
    · rintro ⟨i, hi⟩
      by_cases e : i = slot to x.tick
      · subst e
        rw [upd_at] at hi
        rcases List.mem_append.1 hi with hi | hi
        · rcases hmy.1 ⟨_, hi⟩ with h1 | h1
          · exact Or.inl h1
          · exact Or.inr ⟨Or.inl h1.1, h1.2⟩
        · obtain rfl : y = x := by simpa using hi
          exact Or.inr ⟨Or.inr rfl, ht⟩
      · rw [upd_off _ _ e] at hi
        rcases hmy.1 ⟨_, hi⟩ with h1 | h1
        · exact Or.inl h1
        · exact Or.inr ⟨Or.inl h1.1, h1.2⟩
    · intro h1
      have hback : (∃ i, y ∈ X' i) → ∃ i, y ∈ upd X' (slot to x.tick) (X' (slot to x.tick) ++ [x]) i := by
        rintro ⟨i, hi⟩
        refine ⟨i, ?_⟩
        by_cases e : i = slot to x.tick
        · subst e
          rw [upd_at]
          exact List.mem_append_left _ hi
        · rw [upd_off _ _ e]
          exact hi
      rcases h1 with h1 | ⟨h1 | rfl, h2⟩
      · exact hback (hmy.2 (Or.inl h1))
      · exact hback (hmy.2 (Or.inr ⟨h1, h2⟩))
      · exact ⟨slot to y.tick, by rw [upd_at]; exact List.mem_append_right _ List.mem_cons_self⟩
  · have hyd : y ∈ R.drop q := by rw [hdrop]; exact List.mem_cons_of_mem _ hy
    obtain ⟨⟨p, hyo⟩, hys⟩ := H.loose y hyd
    have hyR := HR.mem y (List.mem_of_mem_drop hyd)
    have hyx := hne y hy
    refine ⟨⟨p, (p3.block y.b (lt_of_block hyo) ?_).trans hyo⟩, fun hj => ?_⟩
    · rintro (h1 | h1 | h1)
      · exact hys (Or.inl ⟨_, h1⟩)
      · exact hyx h1
      · exact hyR.2.2.2.1 h1
    · rcases hcase _ hj with h1 | h1 | h1
      · exact hys h1
      · exact hyx h1
      · have := lt_of_block hyo
        omega
  · refine H.map.kept (p3.block m (by omega) ?_)
    rintro (h1 | h1 | h1)
    · exact H.off.2 (Or.inl ⟨_, h1⟩)
    · exact hxm h1.symm
    · exact hhm h1.symm
  · rw [H.mmem y, htake, List.mem_append, List.mem_singleton]
    constructor
    · rintro ⟨h1, h2⟩
      refine ⟨h1, ?_⟩
      rintro ⟨h3 | rfl, h4⟩
      · exact h2 ⟨h3, h4⟩
      · omega
    · rintro ⟨h1, h2⟩
      exact ⟨h1, fun h3 => h2 ⟨Or.inl h3.1, h3.2⟩⟩
  · refine row_kept H.row fun j hj => p3.block j (hvlt j hj).2 ?_
    have := (hvlt j hj).1
    rintro (h1 | h1 | h1)
    · exact H.voff j hj (Or.inl ⟨_, h1⟩)
    · omega
    · omega
  · rw [htake, dues_no ht]
    refine row_kept H.due fun j hj => p3.block j (hdlt j hj).2 ?_
    have := (hdlt j hj).1
    rintro (h1 | h1 | h1)
    · exact H.doff j hj (Or.inl ⟨_, h1⟩)
    · omega
    · omega
  · have := hvlt j hj
    rcases hcase j hj2 with h1 | h1 | h1
    · exact H.voff j hj h1
    · omega
    · omega
  · have := hdlt j hj
    rcases hcase j hj2 with h1 | h1 | h1
    · exact H.doff j hj h1
    · omega
    · omega
  · rcases hcase h hj with h1 | h1 | h1
    · exact H.off.1 h1
    · exact hxh h1.symm
    · omega
  · rcases hcase m hj with h1 | h1 | h1
    · exact H.off.2 h1
    · exact hxm h1.symm
    · omega
  · rcases hcase j hj with h1 | h1 | h1
    · exact H.sub j h1
    · exact Or.inl (h1 ▸ HR.own x hxR)
    · exact Or.inr (by omega)
  · refine H.only.trans p3 (fun j hj => ?_)
    rcases hj with h1 | h1 | h1
    · rcases H.sub j (Or.inl ⟨_, h1⟩) with h2 | h2
      · exact Or.inl (Or.inr (Or.inr h2))
      · exact Or.inr h2
    · exact Or.inl (Or.inr (Or.inr (h1 ▸ HR.own x hxR)))
    · exact Or.inl (Or.inl h1)

/-- The timer is due: it is told. -/
theorem Mid.tell (H : Mid w B h m k to P S X L R v q dv S' X' M wr) (HR : Reached w B h m S X L R) (hh : h < w.heap.size) (hm : m < w.heap.size) (hhm : h ≠ m) (hx : R[q]? = some x) (ht : x.tick ≤ to) {M' : List Tm} {dv2 : Value} (hM : M.Perm (x :: M')) (hmap : MapIs w2 m k M')
    (hon : Only (fun j => j = m ∨ dv.ownBlock = some j) wr w2) (hdue : w2.ownsRow w.heap.size 48 3 dv2 ((dues to (R.take q)).length + 1) (dcells (dues to (R.take q)) ++ dcells [du x])) (hat : dv2.ownBlock = dv.ownBlock ∨ ∀ j, dv2.ownBlock = some j → wr.heap.size ≤ j) :
    Mid w B h m k to P S X L R v (q + 1) dv2 S' X' M' w2 := by
  obtain ⟨hxR, htake, hdrop, hne⟩ := mid_next HR hx
  obtain ⟨hxL, hxB, hxl, hxh, hxm, hx2⟩ := HR.mem x hxR
  have hsz := H.only.size
  have hvlt := fun j hj => (H.row.lt j hj)
  have hdlt := fun j hj => (H.due.lt j hj)
  have hmone := (hM.pairwise_iff (fun {a b : Tm} (h1 : a.handle ≠ b.handle) => h1.symm)).1 H.mone
  have hsubM : ∀ y, y ∈ M' → y ∈ M := fun y hy => hM.mem_iff.2 (List.mem_cons_of_mem _ hy)
  have hxM' : ¬ x ∈ M' := fun hx' => (List.pairwise_cons.1 hmone).1 x hx' rfl
  have hfar : ∀ j, SOwn S' X' j → w2.heap[j]? = wr.heap[j]? := fun j hj => hon.block j (H.slots.own_lt hj).2 (by
    rintro (rfl | h1)
    · exact H.off.2 hj
    · exact H.doff j h1 hj)
  have hdj : ∀ j, dv2.ownBlock = some j → dv.ownBlock = some j ∨ wr.heap.size ≤ j := fun j hj => by
    rcases hat with h1 | h1
    · exact Or.inl (h1 ▸ hj)
    · exact Or.inr (h1 j hj)
  refine ⟨H.slots.kept hfar, H.cells.kept (hon.block h (by omega) ?_), H.place, fun y => ?_, fun y hy => ?_, hmap, (List.pairwise_cons.1 hmone).2, fun y => ?_, ?_, ?_, ?_, H.voff, fun j hj => ?_, H.off, H.sub, ?_⟩
  · rintro (h1 | h1)
    · exact hhm h1
    · have := (hdlt h h1).1
      omega
  · rw [H.mem y, htake, List.mem_append, List.mem_singleton]
    constructor
    · rintro (h1 | h1)
      · exact Or.inl h1
      · exact Or.inr ⟨Or.inl h1.1, h1.2⟩
    · rintro (h1 | ⟨h1 | rfl, h2⟩)
      · exact Or.inl h1
      · exact Or.inr ⟨h1, h2⟩
      · omega
  · have hyd : y ∈ R.drop q := by rw [hdrop]; exact List.mem_cons_of_mem _ hy
    obtain ⟨⟨p, hyo⟩, hys⟩ := H.loose y hyd
    have hyR := HR.mem y (List.mem_of_mem_drop hyd)
    refine ⟨⟨p, (hon.block y.b (lt_of_block hyo) ?_).trans hyo⟩, hys⟩
    rintro (h1 | h1)
    · exact hyR.2.2.2.2.1 h1
    · have := (hdlt _ h1).1
      have := hyR.2.2.1
      omega
  · rw [htake, List.mem_append, List.mem_singleton]
    constructor
    · intro hy
      have h1 := (H.mmem y).1 (hsubM y hy)
      refine ⟨h1.1, ?_⟩
      rintro ⟨h3 | rfl, h4⟩
      · exact h1.2 ⟨h3, h4⟩
      · exact hxM' hy
    · rintro ⟨h1, h2⟩
      have hyM := (H.mmem y).2 ⟨h1, fun h3 => h2 ⟨Or.inl h3.1, h3.2⟩⟩
      rcases List.mem_cons.1 (hM.mem_iff.1 hyM) with rfl | h3
      · exact absurd ⟨Or.inr rfl, ht⟩ h2
      · exact h3
  · refine row_kept H.row fun j hj => hon.block j (hvlt j hj).2 ?_
    have := (hvlt j hj).1
    rintro (h1 | h1)
    · omega
    · rcases H.two with h2 | h2
      · rw [h2] at h1
        cases h1
      · exact h2 (h1.trans hj.symm)
  · rw [htake, dues_yes ht, List.length_append, dcells_two]
    exact hdue
  · by_cases e : dv2.ownBlock = none
    · exact Or.inl e
    · refine Or.inr fun e2 => ?_
      obtain ⟨j, hj⟩ := Option.ne_none_iff_exists'.1 e
      have hvj : v.ownBlock = some j := e2 ▸ hj
      rcases hdj j hj with h1 | h1
      · rcases H.two with h2 | h2
        · rw [h2] at h1
          cases h1
        · exact h2 (h1.trans hvj.symm)
      · have := (hvlt j hvj).2
        omega
  · intro hj2
    rcases hdj j hj with h1 | h1
    · exact H.doff j h1 hj2
    · have := (H.slots.own_lt hj2).2
      omega
  · refine H.only.trans hon (fun j hj => ?_)
    rcases hj with rfl | h1
    · exact Or.inl (Or.inr (Or.inl rfl))
    · exact Or.inr (hdlt j h1).1

/-- At the beginning. -/
theorem Mid.start {w1 : World} (H : WheelIs w B h m S X L k now) {p : Nat} (T : Turn B h S X (.map (some m)) now k w p v w1) (hle : now ≤ to) (hto : to ≤ 1048576) (hp : p = slot now to + 1) :
    Mid w B h m k to p S X L (flat X p) v 0 (.slice none 0 0) (cut S p (.slice none 0 0)) (cut X p []) L (w1.setCell ⟨h, 257, none⟩ (.int .i64 (to : Nat))) := by
  have hoff1 : ∀ j, SOwn (cut S p (.slice none 0 0)) (cut X p []) j → SOwn S X j := fun j hj => sown_cut hj
  have hsz := T.only.size
  have hho := H.cells.lt
  have hvlt := fun j hj => (T.row.lt j hj)
  have hon : Only (· = h) w (w1.setCell ⟨h, 257, none⟩ (.int .i64 (to : Nat))) := T.only.put (p := ⟨h, 257, none⟩) (Or.inl rfl) _
  have hback : ∀ j, j ≠ h → (w1.setCell ⟨h, 257, none⟩ (.int .i64 (to : Nat))).heap[j]? = w1.heap[j]? := fun j hj => Below.heap_setCell _ _ _ _ hj
  have hin : ∀ i x, x ∈ cut X p [] i ↔ p ≤ i ∧ x ∈ X i := fun i x => by
    by_cases hi : i < p
    · rw [cut_below _ _ hi]
      constructor
      · intro hx
        simp at hx
      · omega
    · rw [cut_off _ _ (by omega)]
      exact ⟨fun hx => ⟨by omega, hx⟩, fun hx => hx.2⟩
  refine ⟨T.slots.kept fun j hj => hback j (fun e => H.off.1 (hoff1 h (e ▸ hj))), T.cells.putNow to, fun i x hx => ?_, fun x => ?_, fun x hx => ?_, ?_, H.once, fun x => ?_, ?_, World.ownsRow_nil _ _ _ _, Or.inl rfl, fun j hj hj2 => ?_, fun j hj => ?_, ⟨fun hj => H.off.1 (hoff1 h hj), fun hj => H.off.2.1 (hoff1 m hj)⟩, fun j hj => Or.inl (hoff1 j hj), hon.mono fun j hj => Or.inl hj⟩
  · obtain ⟨hi, hx2⟩ := (hin i x).1 hx
    obtain ⟨h1, h2, h3⟩ := H.place i x hx2
    obtain ⟨h4, h5⟩ := slot_stays (now := now) (to := to) (t := x.tick) hle h2 (by omega) (by omega) (by omega)
    exact ⟨by omega, h5, h3⟩
  · rw [List.take_zero]
    constructor
    · rintro ⟨i, hi⟩
      exact Or.inl ⟨i, (hin i x).1 hi⟩
    · rintro (⟨i, hi⟩ | ⟨h1, _⟩)
      · exact ⟨i, (hin i x).2 hi⟩
      · simp at h1
  · rw [List.drop_zero] at hx
    obtain ⟨i, hi, hxi⟩ := flat_mem.1 hx
    obtain ⟨j, hj, hxo⟩ := H.slots.block hxi
    have hxh : x.b ≠ h := fun e => H.off.1 (Or.inr ⟨i, x, hxi, e⟩)
    refine ⟨⟨j, (hon.block x.b (lt_of_block hxo) hxh).trans hxo⟩, ?_⟩
    rintro (⟨a, h5⟩ | ⟨a, y, hy, h5⟩)
    · by_cases ha : a < p
      · rw [cut_below _ _ ha] at h5
        simp [Value.ownBlock] at h5
      · rw [cut_off _ _ (by omega)] at h5
        exact H.slots.off i a x hxi h5
    · obtain ⟨ha, hy2⟩ := (hin a y).1 hy
      obtain ⟨j2, hj2, _⟩ := H.slots.block hy2
      have := (H.slots.apart a j2 i j y x hj2 hj h5).1
      omega
  · exact H.map.kept (hon.block m H.map.lt (Ne.symm H.off.2.2))
  · rw [List.take_zero]
    exact ⟨fun hx => ⟨hx, fun h1 => by simp at h1⟩, fun hx => hx.1⟩
  · refine row_kept T.row fun j hj => hback j (fun e => ?_)
    have := (hvlt j hj).1
    omega
  · have := (hvlt j hj).1
    have := (H.slots.own_lt (hoff1 j hj2)).2
    omega
  · simp [Value.ownBlock] at hj
end

/-- What Advance leaves. -/
structure Onward (w : World) (B h m k to : Nat) (S : Nat → Value) (X : Nat → List Tm) (L : List Tm) (A : Option Addr) (n c : Nat) (w' : World) : Prop where
  is : ∃ S' X' L' D, WheelIs w' B h m S' X' L' k to ∧ (∀ x, x ∈ L' ↔ x ∈ L ∧ to < x.tick) ∧ D.Perm (dues to L) ∧ Ord D ∧ D.length = n ∧ w'.ownsRow w.heap.size 48 3 (.slice A n c) n (dcells D) ∧
    (∀ j, (Value.slice A n c).ownBlock = some j → ¬ Mine h m S' X' j) ∧ ∀ j, Mine h m S' X' j → Mine h m S X j ∨ w.heap.size ≤ j
  only : Only (Mine h m S X) w w'
theorem Mid.done {w wr w2 : World} {B h m k now to P : Nat} {S S' : Nat → Value} {X X' : Nat → List Tm} {L M : List Tm} {v : Value} {A : Option Addr} {n c : Nat} {D : List Du} (H : WheelIs w B h m S X L k now) (hP : P = slot now to + 1) (hle : now ≤ to) (hto : to ≤ 1048576)
    (G : Mid w B h m k to P S X L (flat X P) v (flat X P).length (.slice A n c) S' X' M wr) (hD : D.Perm (dues to (flat X P))) (hO : Ord D) (hrow : w2.ownsRow w.heap.size 48 3 (.slice A n c) n (dcells D)) (hon : Only (fun j => A = some ⟨j, 0, none⟩) wr w2) :
    Onward w B h m k to S X L A n c w2 := by
  have hdlt := fun j hj => (G.due.lt j hj)
  have hA : ∀ j, A = some ⟨j, 0, none⟩ → (Value.slice A n c).ownBlock = some j := fun j hj => by rw [hj]; rfl
  have hRnd : (flat X P).Nodup := (flat_apart H.slots P).imp fun hne e => hne (congrArg Tm.b e)
  have hLnd : L.Nodup := H.once.imp fun hne e => hne (congrArg Tm.handle e)
  have hdueR : ∀ x, x ∈ L → x.tick ≤ to → x ∈ flat X P := fun x hx ht => by
    obtain ⟨i, hi⟩ := (H.mem x).1 hx
    obtain ⟨h1, h2, h3⟩ := H.place i x hi
    by_cases hip : i < P
    · exact flat_mem.2 ⟨i, hip, hi⟩
    · have := (slot_stays (now := now) (to := to) (t := x.tick) hle h2 (by omega) (by omega) (by omega)).2
      omega
  have hRL : ∀ x, x ∈ flat X P → x ∈ L := fun x hx => ((H.reached P).mem x hx).1
  have hperm : ((flat X P).filter fun x => decide (x.tick ≤ to)).Perm (L.filter fun x => decide (x.tick ≤ to)) := by
    refine perm_of_mem (hRnd.filter _) (hLnd.filter _) fun x => ?_
    rw [List.mem_filter, List.mem_filter]
    constructor
    · rintro ⟨h1, h2⟩
      exact ⟨hRL x h1, h2⟩
    · rintro ⟨h1, h2⟩
      exact ⟨hdueR x h1 (by simpa using h2), h2⟩
  have hMto : ∀ x, x ∈ M ↔ x ∈ L ∧ to < x.tick := fun x => by
    rw [G.mmem x, List.take_length]
    constructor
    · rintro ⟨h1, h2⟩
      refine ⟨h1, ?_⟩
      by_cases h3 : x.tick ≤ to
      · exact absurd ⟨hdueR x h1 h3, h3⟩ h2
      · omega
    · rintro ⟨h1, h2⟩
      exact ⟨h1, fun h3 => by omega⟩
  have hdown : ∀ j, A = some ⟨j, 0, none⟩ → w.heap.size ≤ j ∧ ¬ SOwn S' X' j := fun j hj => ⟨(hdlt j (hA j hj)).1, G.doff j (hA j hj)⟩
  have hhl := H.cells.lt
  have hml := H.map.lt
  have hsz := G.only.size
  refine ⟨⟨S', X', M, D, ⟨G.slots.kept fun j hj => hon.block j (G.slots.own_lt hj).2 (fun e => (hdown j e).2 hj), G.cells.kept (hon.block h (by omega) fun e => by have := (hdown h e).1; omega), fun x => ?_, G.place, G.mone, fun x hx => H.handles x ((hMto x).1 hx).1, G.map.kept (hon.block m (by omega) fun e => by have := (hdown m e).1; omega), H.base, ⟨G.off.1, G.off.2, H.off.2.2⟩, hto⟩, hMto, ?_, hO, ?_, hrow, fun j hj => ?_, fun j hj => ?_⟩, ?_⟩
  · rw [hMto x, G.mem x, List.take_length]
    constructor
    · rintro ⟨h1, h2⟩
      obtain ⟨i, hi⟩ := (H.mem x).1 h1
      by_cases hip : i < P
      · exact Or.inr ⟨flat_mem.2 ⟨i, hip, hi⟩, h2⟩
      · exact Or.inl ⟨i, by omega, hi⟩
    · rintro (⟨i, hi, hx⟩ | ⟨h1, h2⟩)
      · obtain ⟨h3, h4, h5⟩ := H.place i x hx
        exact ⟨(H.mem x).2 ⟨i, hx⟩, (slot_stays (now := now) (to := to) (t := x.tick) hle h4 (by omega) (by omega) (by omega)).2⟩
      · exact ⟨hRL x h1, h2⟩
  · exact hD.trans (hperm.map du)
  · have h1 := hrow.1
    rw [dcells_len] at h1
    omega
  · have h1 := hdlt j hj
    rintro (h2 | h2 | h2)
    · omega
    · omega
    · exact G.doff j hj h2
  · rcases hj with h2 | h2 | h2
    · exact Or.inl (Or.inl h2)
    · exact Or.inl (Or.inr (Or.inl h2))
    · rcases G.sub j h2 with h3 | h3
      · exact Or.inl (Or.inr (Or.inr h3))
      · exact Or.inr h3
  · exact G.only.trans hon (fun j hj => Or.inr (hdown j hj).1)
end Go.Proofs.Ytadppcmbkccmnaa
