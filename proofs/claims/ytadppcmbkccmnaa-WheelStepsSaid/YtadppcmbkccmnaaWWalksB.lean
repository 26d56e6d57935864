/-
  Contracts: cmp.Compare, cmp.Or, inOrder; slices.SortFunc of what is due.
-/
import Derived.Test.YtadppcmbkccmnaaWSortLaid
import Derived.Test.YtadppcmbkccmnaaWWalksA
import Derived.Test.YtadppcmbkccmnaaWOnly
import Derived.LoopN
import Derived.Deep.RegionHeld3
namespace Go.Proofs.Ytadppcmbkccmnaa
open Go.ChangeShapes Go.WideShapes Go.ChangeAt Go.RowKit Wh
open Go.Shelf Go.Sort

def cmpI (x y : Int) : Int := if x < y then -1 else if y < x then 1 else 0
theorem isnan_any (x : Int) (w : World) :
    Calls Try.prog 44 #[.int .i64 x] w fun e w' => e = .returned (.bool false) ∧ w = w' := by
  have hx : (x != x) = false := by simp
  go_enter Try.func44, Try.ntmps44
  go_wp2
  go_ret
  exact ⟨rfl, rfl⟩

theorem compare_any (x y : Int) (w : World) :
    Calls Try.prog 33 #[.int .i64 x, .int .i64 y] w fun e w' => e = .returned (.int .i64 (cmpI x y)) ∧ w = w' := by
  rcases Int.lt_trichotomy x y with h | h | h
  · have Hs := Lib.hid (show cmpI x y = -1 by simp [cmpI, h])
    go_enter Try.func33, Try.ntmps33
    go_wp2_with (go_at_call 44; refine (isnan_any _ _).mono ?_; rintro e w' ⟨rfl, rfl⟩)
    go_ret
    exact ⟨int_back Hs.out.symm, rfl⟩
  · have Hs := Lib.hid (show cmpI x y = 0 by subst h; simp [cmpI])
    have h1 : ¬ x < y := by omega
    have h2 : ¬ y < x := by omega
    clear h
    go_enter Try.func33, Try.ntmps33
    go_wp2_with (go_at_call 44; refine (isnan_any _ _).mono ?_; rintro e w' ⟨rfl, rfl⟩)
    go_ret
    exact ⟨int_back Hs.out.symm, rfl⟩
  · have h1 : ¬ x < y := by omega
    have Hs := Lib.hid (show cmpI x y = 1 by simp [cmpI, h, h1])
    go_enter Try.func33, Try.ntmps33
    go_wp2_with (go_at_call 44; refine (isnan_any _ _).mono ?_; rintro e w' ⟨rfl, rfl⟩)
    go_ret
    exact ⟨int_back Hs.out.symm, rfl⟩

def orI (x y : Int) : Int := if x = 0 then y else x
set_option maxHeartbeats 400000 in
theorem or_any (b : Nat) (x y : Int) (w : World) (hx : w.cell? ⟨b, 0, none⟩ = some (.int .i64 x)) (hy : w.cell? ⟨b, 1, none⟩ = some (.int .i64 y)) :
    Calls Try.prog 32 #[.slice (some ⟨b, 0, none⟩) 2 2] w fun e w' => e = .returned (.int .i64 (orI x y)) ∧ w = w' := by
  by_cases h : x = 0
  · subst h
    by_cases h2 : y = 0
    · subst h2
      go_enter Try.func32, Try.ntmps32
      go_wp2
      refine wp_loop_rounds 3 ?_
      rw [rounds_succ]
      go_wp2
      rw [rounds_succ]
      go_wp2
      rw [rounds_succ]
      go_wp2
      go_ret
      exact ⟨int_back (by simp [orI]), rfl⟩
    · go_enter Try.func32, Try.ntmps32
      go_wp2
      refine wp_loop_rounds 3 ?_
      rw [rounds_succ]
      go_wp2
      rw [rounds_succ]
      go_wp2
      go_ret
      exact ⟨int_back (by simp [orI]), rfl⟩
  · go_enter Try.func32, Try.ntmps32
    go_wp2
    refine wp_loop_rounds 3 ?_
    rw [rounds_succ]
    go_wp2
    go_ret
    exact ⟨int_back (by simp [orI, h]), rfl⟩

theorem grow_three (w : World) (A B C : Obj) : ∃ q os', (((w.alloc A).alloc B).alloc C).drew = grow (w.drewN q) os' := by
  refine ⟨1, #[A] ++ (#[B] ++ #[C]), ?_⟩
  show (((w.drewN 1).alloc A).alloc B).alloc C = _
  rw [alloc_eq_grow, alloc_eq_grow, alloc_eq_grow, grow_grow, grow_grow]
set_option maxHeartbeats 1000000 in
theorem in_order (a b c x y z : Int) (w : World) :
    Calls Try.prog 26 #[.agg #[.int .i64 a, .int .i64 b, .int .i64 c], .agg #[.int .i64 x, .int .i64 y, .int .i64 z]] w fun e w' => e = .returned (.int .i64 (orI (cmpI a x) (cmpI b y))) ∧ ∃ q os', w' = grow (w.drewN q) os' := by
  have C1 := Lib.hid (compare_any a x)
  have C2 := Lib.hid (compare_any b y)
  generalize cmpI a x = r1 at *
  generalize cmpI b y = r2 at *
  go_enter Try.func26, Try.ntmps26
  go_wp2
  obtain ⟨W, hW⟩ : ∃ W, (w.alloc (.cells #[.int .i64 a, .int .i64 b, .int .i64 c] 48 (0, 0))).alloc (.cells #[.int .i64 x, .int .i64 y, .int .i64 z] 48 (0, 0)) = W := ⟨_, rfl⟩
  have a0 : W.cell? ⟨w.heap.size, 0, none⟩ = some (.int .i64 a) := by subst hW; simp
  have a1 : W.cell? ⟨w.heap.size, 1, none⟩ = some (.int .i64 b) := by subst hW; simp
  have b0 : W.cell? ⟨w.heap.size + 1, 0, none⟩ = some (.int .i64 x) := by subst hW; simp
  have b1 : W.cell? ⟨w.heap.size + 1, 1, none⟩ = some (.int .i64 y) := by subst hW; simp
  have s0 : w.heap.size < W.heap.size := by subst hW; simp; omega
  have s1 : w.heap.size + 1 < W.heap.size := by subst hW; simp
  rw [hW]
  have HW := Lib.hid hW
  clear hW
  generalize w.heap.size = p at *
  go_region_held3 (fun w' => w'.cell? ⟨p, 0, none⟩ = some (.int .i64 a) ∧ w'.cell? ⟨p, 1, none⟩ = some (.int .i64 b) ∧ w'.cell? ⟨p + 1, 0, none⟩ = some (.int .i64 x) ∧ w'.cell? ⟨p + 1, 1, none⟩ = some (.int .i64 y)) (go_keep)
    (first | (go_at_call 33; first | ((with_reducible refine (C1.out _).mono ?_); rintro e w2 ⟨rfl, rfl⟩) | ((with_reducible refine (C2.out _).mono ?_); rintro e w2 ⟨rfl, rfl⟩)) | (go_at_call 32; refine (or_any _ r1 r2 _ (by simp) (by simp)).mono ?_; rintro e w2 ⟨rfl, rfl⟩))
  go_wp2
  go_ret
  refine ⟨rfl, ?_⟩
  rw [← HW.out]
  exact grow_three w _ _ _

/-- Which of two is told first. -/
def ahd (x y : Du) : Bool := decide (x.1 < y.1 ∨ x.1 = y.1 ∧ x.2.1 < y.2.1)
def cfD (x y : Du) : Int := orI (cmpI x.1 y.1) (cmpI x.2.1 y.2.1)
theorem cf_ahd (x y : Du) : ltOf cfD x y = ahd x y := by
  unfold ltOf cfD orI cmpI ahd
  by_cases h1 : x.1 < y.1
  · simp [h1]
  · by_cases h2 : y.1 < x.1
    · have h3 : ¬ x.1 = y.1 := by omega
      simp [h1, h2, h3]
    · have h3 : x.1 = y.1 := by omega
      by_cases h4 : x.2.1 < y.2.1
      · simp [h3, h4]
      · by_cases h5 : y.2.1 < x.2.1
        · simp [h3, h4, h5]
        · simp [h3, h4, h5]
theorem swo_cf : SWO (ltOf cfD) where
  irrefl x := by rw [cf_ahd]; simp [ahd]
  trans x y z h1 h2 := by rw [cf_ahd] at *; simp [ahd] at *; omega
  ntrans x y z h1 h2 := by rw [cf_ahd] at *; simp [ahd] at *; omega
def encD (x : Du) : List Value := [.int .i64 x.1, .int .i64 x.2.1, .int .i64 x.2.2]
theorem cmp_lays (blk off size : Nat) (w : World) : CmpLays Try.prog 26 #[] encD 3 cfD blk off size w := fun _ _ _ _ x y => in_order x.1 x.2.1 x.2.2 y.1 y.2.1 y.2.2 _
theorem flat_at (L : List Du) (j : Nat) (hj : j < L.length * 3) : (dcells L)[j]? = some ((flatK encD 3 L.toArray)[j]!) := by
  rw [get_flatK _ _ _ _ (by simpa using hj)]
  obtain ⟨i, r, hr, rfl⟩ : ∃ i r, r < 3 ∧ j = i * 3 + r := ⟨j / 3, j % 3, by omega, by omega⟩
  have hi : i < L.length := by omega
  have e1 : (i * 3 + r) / 3 = i := by omega
  have e2 : (i * 3 + r) % 3 = r := by omega
  have e3 : L.toArray[i]! = L.getD i (0, 0, 0) := by
    rw [List.getD_eq_getElem?_getD, List.getElem?_eq_getElem hi, getElem!_pos _ i (by simpa using hi)]
    simp
  rw [e1, e2, e3]
  have h2 := dcells_at L i hi
  match r, hr with
  | 0, _ => rw [Nat.add_zero, h2.1]; rfl
  | 1, _ => rw [h2.2.1]; rfl
  | 2, _ => rw [h2.2.2]; rfl
theorem heap_put {w : World} {g n : Nat} {os : Array Obj} {cur : Array Value} {e : TypeId} {fr : Nat × Nat} (F : Array Value) (hb : w.heap[g]? = some (.cells cur e fr)) :
    (grow (putRow id (Sort.ahead w n) g 0 F) os).heap[g]? = some (.cells (putCells id 0 F cur) e fr) := by
  have hg : g < w.heap.size := (Array.getElem?_eq_some_iff.1 hb).1
  rw [heap_grow_old _ _ (by simpa using hg)]
  simp [putRow, mapBlock, Sort.ahead, Array.getElem?_modify, hb, onCells]
theorem only_put {w : World} {g n : Nat} {os : Array Obj} (F : Array Value) : Only (· = g) w (grow (putRow id (Sort.ahead w n) g 0 F) os) := by
  refine ⟨rfl, rfl, rfl, by simp, fun k hk hne => ?_⟩
  rw [heap_grow_old _ _ (by simpa using hk)]
  have : g ≠ k := fun e => hne e.symm
  simp [putRow, mapBlock, Sort.ahead, Array.getElem?_modify, this]
theorem take_put (cur F : Array Value) (xs : List Value) (m : Nat) (hm : m ≤ cur.size) (hF : F.size = m) (hl : xs.length = m) (h : ∀ j, j < m → xs[j]? = some F[j]!) : (putCells id 0 F cur).toList.take m = xs := by
  apply List.ext_getElem?
  intro j
  by_cases hj : j < m
  · rw [List.getElem?_take_of_lt hj, Array.getElem?_toList, h j hj]
    simp [putCells, hF, hj, show j < cur.size by omega]
  · rw [List.getElem?_take_eq_none (by omega), List.getElem?_eq_none (by omega)]

/-- In order, none ahead of one that stands before it. -/
def Ord (L : List Du) : Prop := L.Pairwise fun x y => ahd y x = false
/-- The row holds the same in order. -/
def SortedRow (B g c n : Nat) (L : List Du) (w : World) (e : Ending) (w' : World) : Prop :=
  e = .returned (.tuple #[]) ∧ ∃ L' : List Du, L'.Perm L ∧ Ord L' ∧ w'.ownsRow B 48 3 (.slice (some ⟨g, 0, none⟩) n c) n (dcells L') ∧ Only (· = g) w w'
theorem sort_any {w : World} {B g c n : Nat} {L : List Du} (h : w.ownsRow B 48 3 (.slice (some ⟨g, 0, none⟩) n c) n (dcells L)) (hm : n ≤ 1000000) :
    Calls Try.prog 25 #[.slice (some ⟨g, 0, none⟩) n c, .func (.func 26) #[] #[]] w (SortedRow B g c n L w) := by
  have hl := h.1
  rw [dcells_len] at hl
  obtain rfl : n = L.length := by omega
  rcases h.2 with ⟨h1, h2⟩ | ⟨g', cap, cur, hv, hg, hb, hc1, hc2, hc3, hc4⟩
  · simp at h1
  simp only [Value.slice.injEq, Option.some.injEq, Addr.mk.injEq, and_true, true_and] at hv
  obtain ⟨rfl, rfl⟩ := hv
  have eg : ∀ args w, (callFunc 26 args).run Try.prog w = .ok (.enter 26 args) w := enters_of Try.func26 (by kernel_rfl) rfl
  have hH : HoldsK encD 3 w g 0 L.toArray := fun j hj => by
    have hj' : j < L.length * 3 := by simpa using hj
    rw [Nat.zero_add, h.cellAt j (by omega), flat_at L j hj']
    exact ⟨rfl, by simp [World.frozen?, hb]⟩
  have hcon := AnyQ.slices_SortFunc sort_laid 3 Try.isAgg48 Try.sizeOf48 encD (fun _ => rfl) (fun x v hv => by simp [encD] at hv; rcases hv with rfl | rfl | rfl <;> rfl) cfD swo_cf 26 #[] g 0 c L.toArray w eg (cmp_lays g 0 _ w) hH (lt_of_block hb) (by simp; omega)
  change Calls Try.prog 25 _ _ _ at hcon
  refine hcon.mono ?_
  rintro e w' ⟨rfl, d', m, os, hp, hs, rfl⟩
  obtain ⟨p1, p2, p3⟩ := hp
  obtain ⟨L', rfl⟩ : ∃ L' : List Du, d' = L'.toArray := ⟨d'.toList, by simp⟩
  have hlen : L'.length = L.length := by simpa using p1
  refine ⟨rfl, L', by
    have h3 := p3
    simp only [List.extract_toArray, List.extract_eq_take_drop, List.drop_zero, Nat.sub_zero, List.size_toArray] at h3
    rwa [List.take_of_length_le (by omega), List.take_of_length_le (by omega)] at h3, ?_, ⟨by rw [dcells_len, hlen], Or.inr ⟨g, c, _, rfl, hg, heap_put _ hb, hc1, hc2, by simp [putCells, hc3], ?_⟩⟩, only_put _⟩
  · refine List.pairwise_iff_getElem.2 fun i j hi hj hij => ?_
    have := hs i j (Nat.zero_le _) hij (by simp; omega)
    rw [cf_ahd, getElem!_pos _ j (by simpa using hj), getElem!_pos _ i (by simpa using hi)] at this
    simpa using this
  · refine take_put cur _ _ _ ?_ (by simp [hlen]) (by rw [dcells_len, hlen]) (fun j hj => flat_at L' j (by omega))
    have := Nat.mul_le_mul_right 3 hc1
    omega
end Go.Proofs.Ytadppcmbkccmnaa
