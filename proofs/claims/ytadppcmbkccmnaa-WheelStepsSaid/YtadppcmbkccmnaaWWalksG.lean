/-
  Contracts: New, Next.
-/
import Derived.Test.YtadppcmbkccmnaaWWalksF
namespace Go.Proofs.Ytadppcmbkccmnaa
open Go.ChangeShapes Go.WideShapes Go.ChangeAt Go.RowKit Wh

/-- The zero wheel's cells. -/
theorem zero_wheel : ∃ Z : Array Value, (∀ w : World, (zeroValue 56).run Try.prog w = .ok (.agg Z) w) ∧ Z.size = 259 ∧ (∀ i, i < 256 → Z[i]? = some (.slice none 0 0)) ∧ Z[256]? = some (.map none) ∧ Z[258]? = some (.int .i64 0) := by
  refine ⟨Array.replicate 256 (.slice none 0 0) ++ #[.map none, .int .i64 0, .int .i64 0], fun w => by kernel_rfl, by simp, fun i hi => ?_, by simp, by simp⟩
  rw [Array.getElem?_append_left (by simpa using hi), Array.getElem?_replicate, if_pos hi]

/-- A wheel is made. -/
def Made (now : Nat) (w : World) (e : Ending) (w' : World) : Prop :=
  e = .returned (.tuple #[.pointer (some ⟨w.heap.size + 1, 0, none⟩), .int .i64 0]) ∧ ∃ C, w' = (w.alloc (.map #[] 0)).alloc (wObj C) ∧ (∀ i, i < 256 → C[i]? = some (.slice none 0 0)) ∧ C[256]? = some (.map (some w.heap.size)) ∧ C[257]? = some (.int .i64 (now : Nat)) ∧ C[258]? = some (.int .i64 0)
set_option maxRecDepth 100000 in
set_option maxHeartbeats 1000000 in
theorem new_any (now : Nat) (w : World) (h1 : now ≤ 1048576) : Calls Try.prog 6 #[.int .i64 (now : Nat)] w (Made now w) := by
  have hmm := @run_makeMap Try.prog
  obtain ⟨Z, hz, hs, z1, z2, z3⟩ := zero_wheel
  have HF : Hid (∀ C, C = (Z.setIfInBounds 256 (.map (some w.heap.size))).setIfInBounds 257 (.int .i64 (now : Nat)) → Made now w (.returned (.tuple #[.pointer (some ⟨w.heap.size + 1, 0, none⟩), .int .i64 0])) ((w.alloc (.map #[] 0)).alloc (wObj C))) := fun C hC => by
    refine ⟨rfl, C, rfl, fun i hi => ?_, ?_, ?_, ?_⟩
    · rw [hC, set_at (set_at (z1 i hi)), if_neg (by omega), if_neg (by omega)]
    · rw [hC, set_at (set_at z2), if_neg (by omega), if_pos rfl]
    · have z4 : Z[257]? = some Z[257] := Array.getElem?_eq_getElem (by omega)
      rw [hC, set_at (set_at z4), if_pos rfl]
    · rw [hC, set_at (set_at z3), if_neg (by omega), if_neg (by omega)]
  have h0 : (0 : Int) ≤ now := by omega
  have h2 : (now : Int) ≤ 1048576 := by omega
  clear z1 z2 z3 h1
  go_enter Try.func6, Try.ntmps6
  go_wp2
  go_ret2
  exact HF.out _ rfl
theorem new_bad (now : Int) (w : World) (h1 : now < 0 ∨ 1048576 < now) : Calls Try.prog 6 #[.int .i64 now] w fun e w' => e = .returned (.tuple #[.pointer none, .int .i64 1]) ∧ w = w' := by
  by_cases h : now < 0
  · clear h1
    go_enter Try.func6, Try.ntmps6
    go_wp2
    go_ret2
    exact ⟨rfl, rfl⟩
  · have h2 : 1048576 < now := by omega
    clear h1
    go_enter Try.func6, Try.ntmps6
    go_wp2
    go_ret2
    exact ⟨rfl, rfl⟩

/-- A new wheel. -/
theorem made_wheel {w : World} {B now : Nat} {C : Array Value} (hB : B ≤ w.heap.size) (hn : now ≤ 1048576) (h1 : ∀ i, i < 256 → C[i]? = some (.slice none 0 0)) (h2 : C[256]? = some (.map (some w.heap.size))) (h3 : C[257]? = some (.int .i64 (now : Nat))) (h4 : C[258]? = some (.int .i64 0)) :
    WheelIs ((w.alloc (.map #[] 0)).alloc (wObj C)) B (w.heap.size + 1) w.heap.size (fun _ => .slice none 0 0) (fun _ => []) [] 0 now where
  slots := ⟨fun _ => World.ownsRow_nil _ _ _ _, (fun i j x hx => by simp at hx), (fun i x hx => by simp at hx), (fun i j i' j' x y hx => by simp at hx), (fun i i' x hx => by simp at hx), (fun i i' k hk => by simp [Value.ownBlock] at hk)⟩
  cells := ⟨C, by
    have := heap_alloc_new (w.alloc (.map #[] 0)) (wObj C)
    simpa using this, h1, h2, h3, h4⟩
  mem := fun x => by simp
  place := fun i x hx => by simp at hx
  once := List.Pairwise.nil
  handles := fun x hx => by simp at hx
  map := (map_made w).kept (Below.heap_alloc _ _ _ (by simp))
  base := ⟨by omega, hB⟩
  off := by
    refine ⟨?_, ?_, by omega⟩ <;> rintro (⟨i, h5⟩ | ⟨i, x, hx, _⟩)
    · simp [Value.ownBlock] at h5
    · simp at hx
    · simp [Value.ownBlock] at h5
    · simp at hx
  low := hn

/-- The key and the value of a map's entry, as the walk of a range spells them. -/
def valOf : Option Nat → Value
  | none => .pointer none
  | some b => .pointer (some ⟨b, 0, none⟩)
theorem val_inv {v : Value} {y : DataW Unit × List MemPlace} (h : ptrElem v = some y) : ∃ c, v = valOf c := by
  unfold ptrElem at h
  split at h
  · exact ⟨none, rfl⟩
  · exact ⟨some _, rfl⟩
  · cases h

/-- Which timer's entry came. -/
theorem entry_of {w : World} {m n : Nat} {L : List Tm} {D : DataW Unit} (hD : MapD w m n L D) {x : Int} {c : Option Nat} {kl : Lit} {y : DataW Unit × List MemPlace} (hk : keyOf Try.prog 3 (.int .i64 x) = some kl) (hhas : Maps.has D kl = true) (hv : ptrElem (valOf c) = some y) (hat : ∀ zd, D.atKey kl zd = y.1) :
    ∃ t, t ∈ L ∧ kl = .int .i64 (t.handle : Nat) ∧ c = some t.b := by
  obtain ⟨x', ex, rfl, _⟩ := Maps.keyOf_int_inv Try.underlying3 hk
  rw [hD.has, List.any_eq_true] at hhas
  obtain ⟨t, ht, e⟩ := hhas
  have e2 : (t.handle : Int) = x' := by simpa using e
  subst e2
  refine ⟨t, ht, rfl, ?_⟩
  have h1 := (hat .nil).symm.trans (hD.at_ t ht)
  cases c with
  | none =>
    simp only [valOf, ptrElem, Option.some.injEq] at hv
    rw [← hv] at h1
    cases h1
  | some b =>
    simp only [valOf, ptrElem, Option.some.injEq] at hv
    rw [← hv] at h1
    simp only [DataW.lit.injEq, Lit.int.injEq, true_and] at h1
    rw [Int.ofNat.inj h1]

theorem next_back {a b : Nat} (h : a = b) : Ending.returned (.tuple #[.int .i64 (a : Nat), .bool true]) = .returned (.tuple #[.int .i64 (b : Nat), .bool true]) := by rw [h]
theorem least_val (a b : Nat) : Value.int .i64 (if a < b then (a : Int) else (b : Int)) = .int .i64 ((if a < b then a else b : Nat) : Int) := by split <;> rfl
/-- The next one. -/
def NextOf (L : List Tm) (w : World) (e : Ending) (w' : World) : Prop := ∃ x, x ∈ L ∧ (∀ y, y ∈ L → x.tick ≤ y.tick) ∧ e = .returned (.tuple #[.int .i64 (x.tick : Nat), .bool true]) ∧ Below w.heap.size w w'
/-- What holds while the map is gone through. -/
structure Going (L : List Tm) (m r k : Nat) (D : DataW Unit) (w : World) (least : Nat) (left : Lit → Bool) (cnt : Nat) (w' : World) : Prop where
  rng : w'.ranges Try.prog 3 ptrElem m r k D left cnt
  has : ∀ kl, left kl = true → Maps.has D kl = true
  low : ∀ x, x ∈ L → left (.int .i64 (x.handle : Nat)) = false → least ≤ x.tick
  is : least = 2097152 ∨ ∃ x, x ∈ L ∧ least = x.tick
  below : Below w.heap.size w w'

theorem same_timer {L : List Tm} (hone : L.Pairwise fun x y => x.handle ≠ y.handle) {x y : Tm} (hx : x ∈ L) (hy : y ∈ L) (e : x.handle = y.handle) : x = y := by
  induction L with
  | nil => simp at hx
  | cons a l ih =>
    obtain ⟨h1, h2⟩ := List.pairwise_cons.1 hone
    rcases List.mem_cons.1 hx with ex | hx' <;> rcases List.mem_cons.1 hy with ey | hy'
    · rw [ex, ey]
    · exact absurd e (by rw [ex]; exact h1 y hy')
    · exact absurd e.symm (by rw [ey]; exact h1 x hx')
    · exact ih h2 hx' hy'
theorem Going.step {L : List Tm} {m r k : Nat} {D : DataW Unit} {w w1 w2 : World} {least cnt cnt1 : Nat} {left : Lit → Bool} (G : Going L m r k D w least left cnt w1) (hr : w.heap.size = r) (hone : L.Pairwise fun x y => x.handle ≠ y.handle) {t : Tm} (ht : t ∈ L)
    (h1 : w2.ranges Try.prog 3 ptrElem m r k D (fun z => left z && !z.sameKey (.int .i64 (t.handle : Nat))) cnt1) (h2 : w1.grownBy w2 (some r)) {q : Nat} (h3 : q ≤ least) (h4 : q ≤ t.tick) (h5 : q = least ∨ q = t.tick) :
    Going L m r k D w q (fun z => left z && !z.sameKey (.int .i64 (t.handle : Nat))) cnt1 w2 := by
  refine ⟨h1, fun kl h => G.has kl (by simp at h; exact h.1), fun x hx hf => ?_, ?_, ?_⟩
  · by_cases hl : left (.int .i64 (x.handle : Nat)) = false
    · exact Nat.le_trans h3 (G.low x hx hl)
    · have hs : (Lit.int .i64 (x.handle : Nat)).sameKey (.int .i64 (t.handle : Nat)) = true := by
        simp only [Bool.not_eq_false] at hl
        rw [hl] at hf
        simpa using hf
      have e := WideAt.sameKey_eq hs
      simp only [Lit.int.injEq, true_and] at e
      rw [same_timer hone hx ht (Int.ofNat.inj e)]
      exact h4
  · rcases h5 with rfl | rfl
    · exact G.is
    · exact Or.inr ⟨t, ht, rfl⟩
  · have hb := G.below
    exact ⟨h2.os.trans hb.os, h2.tape.trans hb.tape, h2.output.trans hb.output, Nat.le_trans hb.size h2.size, fun j hj => (h2.block j (Nat.lt_of_lt_of_le hj hb.size) (by simp; omega)).trans (hb.block j hj)⟩

section
variable {w : World} {B h m k now : Nat} {S : Nat → Value} {X : Nat → List Tm} {L : List Tm}
theorem next_empty (H : WheelIs w B h m S X L k now) (hL : L = []) : Calls Try.prog 18 #[.pointer (some ⟨h, 0, none⟩)] w fun e w' => e = .returned (.tuple #[.int .i64 0, .bool false]) ∧ w = w' := by
  have HL := Lib.hid (len_any2 H)
  subst hL
  clear H
  go_enter Try.func18, Try.ntmps18
  go_wp2_with (go_at_call 19; refine HL.out.mono ?_; rintro e w' ⟨rfl, rfl⟩)
  go_ret2
  exact ⟨rfl, rfl⟩
set_option maxHeartbeats 1000000 in
theorem next_any (H : WheelIs w B h m S X L k now) (hL : L ≠ []) : Calls Try.prog 18 #[.pointer (some ⟨h, 0, none⟩)] w (NextOf L w) := by
  have HL := Lib.hid (len_any2 H)
  have hc := H.cells.map
  have hn0 : ((L.length : Int) == 0) = false := by
    have := List.length_pos_iff.2 hL
    simp
    omega
  obtain ⟨D, hD⟩ := H.map
  have HD := Lib.hid hD
  have HH := Lib.hid H
  have hlm := H.map.lt
  have Hne := Lib.hid hL
  generalize L.length = n at *
  clear H hD hL
  go_enter Try.func18, Try.ntmps18
  go_wp2_with (first
    | (go_at_call 19; refine HL.out.mono ?_; rintro e w' ⟨rfl, rfl⟩)
    | (at_range; refine wpList_range_own _ rfl _ 54 rfl 3 62 int_key Try.underlying54 ptrElem m k D rfl HD.out.own ?_; intro w0 hrg0 hg0 hs0))
  go_frame
  have Hst : Hid (Going L m w.heap.size k D w 2097152 (Maps.has D) (Maps.size D) w0) := by
    refine ⟨hrg0, fun kl h => h, fun x hx hf => ?_, Or.inl rfl, ⟨hg0.os, hg0.tape, hg0.output, hg0.size, fun k hk => hg0.block k hk (by simp)⟩⟩
    rw [HD.out.has] at hf
    have := List.any_eq_false.1 hf x hx
    simp at this
  clear hrg0 hg0
  obtain ⟨r, hr⟩ : ∃ r, w.heap.size = r := ⟨_, rfl⟩
  rw [hr] at Hst ⊢
  go_loopw [4] (fun v wr => ∃ least left cnt, v = .int .i64 (least : Nat) ∧ least ≤ 2097152 ∧ Going L m r k D w least left cnt wr) (fun _ wr => wr.rangeLeft m r)
  case atStart => exact ⟨2097152, _, _, rfl, Nat.le_refl _, Hst.out⟩
  case round =>
    obtain ⟨least, left, cnt, rfl, hle, G⟩ := hrel
    have HG := Lib.hid G
    clear G
    go_wp2_with (at_next; refine wpList_next_ranges (α := Int) (β := Option Nat) _ rfl _ rfl 3 int_key ptrElem (Value.int .i64) valOf (fun key kl hk => by obtain ⟨x, rfl, _⟩ := Maps.keyOf_int_inv Try.underlying3 hk; exact ⟨x, rfl⟩) (fun v y hv => val_inv hv) m r k D left cnt rfl HG.out.rng ?_ ?_)
    · intro _ hl0
      go_wp2
      go_ret2
      obtain ⟨x0, L', e0⟩ := List.exists_cons_of_ne_nil Hne.out
      have hx0 : x0 ∈ L := by rw [e0]; exact List.mem_cons_self
      have hlow := fun y hy => HG.out.low y hy (hl0 _)
      rcases HG.out.is with e | ⟨x, hx, e⟩
      · have h1 := hlow x0 hx0
        have h2 := (HH.out.tick hx0).2
        refine ⟨x0, hx0, fun y hy => ?_, ?_, HG.out.below⟩
        · have := hlow y hy
          omega
        · exact next_back (show least = x0.tick by omega)
      · subst e
        exact ⟨x, hx, hlow, rfl, HG.out.below⟩
    · intro x c kl y1 y2 w1 cnt1 hkey hlk hv hat hrg1 hlt hg1 hs1 hen
      obtain ⟨t, ht, rfl, rfl⟩ := entry_of HD.out hkey (HG.out.has _ hlk) hv hat
      simp only [valOf] at hen
      obtain ⟨i, j, _, hob⟩ := HH.out.thing ht
      have hltb := lt_of_block hob
      have hob1 : w1.heap[t.b]? = some (tmObj t j) := by
        rw [hg1.block t.b (Nat.lt_of_lt_of_le hltb HG.out.below.size) (by simp; omega), HG.out.below.block t.b hltb]
        exact hob
      have a0 : w1.cell? ⟨t.b, 0, none⟩ = some (.int .i64 (t.tick : Nat)) := tm_cell (j := 0) hob1 rfl
      have ht0 : (0 : Int) ≤ t.tick := by omega
      have HS : Hid (∀ q : Nat, q ≤ least → q ≤ t.tick → (q = least ∨ q = t.tick) → Going L m r k D w q (fun z => left z && !z.sameKey (.int .i64 (t.handle : Nat))) cnt1 w1) := fun q h3 h4 h5 => HG.out.step hr HH.out.once ht hrg1 hg1 h3 h4 h5
      have Hlt := Lib.hid hlt
      have Hrg := Lib.hid hrg1
      clear hkey hlk hv hat hrg1 hg1 hs1 hob hob1 hlt
      go_wp2
      all_goals
        go_roundw
        case rel => exact ⟨if t.tick < least then t.tick else least, _, _, least_val _ _, by split <;> omega, HS.out _ (by split <;> omega) (by split <;> omega) (by split; exact Or.inr rfl; exact Or.inl rfl)⟩
        case measure => rw [Hrg.out.left_eq, HG.out.rng.left_eq]; exact Hlt.out
end
end Go.Proofs.Ytadppcmbkccmnaa
