/-
  Contracts: cmp.Compare, the order of two slots, slices.SortFunc of slots, order.
-/
import Derived.Test.YthblldojbgeknaaCSortLaid
import Derived.Test.YthblldojbgeknaaCWalksD
import Derived.LoopN
namespace Go.Proofs.Ythblldojbgeknaa
open Go.ChangeShapes Go.WideShapes Go.ChangeAt Go.RowKit
open Go.Shelf Go.Sort

def cmpI (x y : Int) : Int := if x < y then -1 else if y < x then 1 else 0
theorem isnan_any (x : Int) (w : World) :
    Calls Try.prog 57 #[.int .i64 x] w fun e w' => e = .returned (.bool false) ∧ w = w' := by
  have hx : (x != x) = false := by simp
  go_enter Try.func57, Try.ntmps57
  go_wp2
  go_ret
  exact ⟨rfl, rfl⟩
theorem compare_any (x y : Int) (w : World) :
    Calls Try.prog 53 #[.int .i64 x, .int .i64 y] w fun e w' => e = .returned (.int .i64 (cmpI x y)) ∧ w = w' := by
  rcases Int.lt_trichotomy x y with h | h | h
  · have Hs := Lib.hid (show cmpI x y = -1 by simp [cmpI, h])
    go_enter Try.func53, Try.ntmps53
    go_wp2_with (go_at_call 57; refine (isnan_any _ _).mono ?_; rintro e w' ⟨rfl, rfl⟩)
    go_ret
    exact ⟨int_back Hs.out.symm, rfl⟩
  · have Hs := Lib.hid (show cmpI x y = 0 by subst h; simp [cmpI])
    have h1 : ¬ x < y := by omega
    have h2 : ¬ y < x := by omega
    clear h
    go_enter Try.func53, Try.ntmps53
    go_wp2_with (go_at_call 57; refine (isnan_any _ _).mono ?_; rintro e w' ⟨rfl, rfl⟩)
    go_ret
    exact ⟨int_back Hs.out.symm, rfl⟩
  · have h1 : ¬ x < y := by omega
    have Hs := Lib.hid (show cmpI x y = 1 by simp [cmpI, h, h1])
    go_enter Try.func53, Try.ntmps53
    go_wp2_with (go_at_call 57; refine (isnan_any _ _).mono ?_; rintro e w' ⟨rfl, rfl⟩)
    go_ret
    exact ⟨int_back Hs.out.symm, rfl⟩

/-- Draws and new blocks alone. -/
def Grown (w w' : World) : Prop := ∃ q os', w' = grow (w.drewN q) os'
theorem Grown.refl (w : World) : Grown w w := ⟨0, #[], by rw [grow_empty]; rfl⟩
theorem Grown.drew {w w' : World} (h : Grown w w') : Grown w w'.drew := by
  obtain ⟨q, os, rfl⟩ := h
  exact ⟨q + 1, os, rfl⟩
theorem Grown.call {w w' w4 : World} (h : Grown w w') (h2 : Grown w' w4) : Grown w w4 := by
  obtain ⟨q, os, rfl⟩ := h
  obtain ⟨q2, os2, rfl⟩ := h2
  refine ⟨q + q2, os ++ os2, ?_⟩
  show grow (grow ((w.drewN q).drewN q2) os) os2 = _
  rw [grow_grow, World.drewN_drewN]
theorem Grown.below {w w' : World} (h : Grown w w') : Below w.heap.size w w' := below_grow h

theorem field_turn (a b c d e : Int) (w : World) : (Instr.field 28 (.agg #[.int .i64 a, .int .i64 b, .int .i64 c, .int .i64 d, .int .i64 e]) 1).run Try.prog w = .ok (.int .i64 d) w := by kernel_rfl
/-- How two slots stand to each other, by their turns. -/
def cfS (L : List Nd) (x y : Sl) : Int := cmpI (keyS L x) (keyS L y)
set_option maxRecDepth 4000 in
set_option maxHeartbeats 2000000 in
theorem order_cmp {w : World} {b B : Nat} {F : Fo} (H : FoIs w b F) (hB : w.cell? ⟨B, 0, none⟩ = some (.pointer (some ⟨b, 0, none⟩))) (hBl : B < w.heap.size) (x y : Sl) :
    Calls Try.prog 52 #[.agg (encS x).toArray, .agg (encS y).toArray, .pointer (some ⟨B, 0, none⟩)] w fun e w' => e = .returned (.int .i64 (cfS F.l x y)) ∧ Grown w w' := by
  obtain ⟨x1, x2, x3, x4, x5⟩ := x
  obtain ⟨y1, y2, y3, y4, y5⟩ := y
  obtain ⟨p, hp⟩ : ∃ p, w.heap.size = p := ⟨_, rfl⟩
  obtain ⟨W, hW⟩ : ∃ W, (w.alloc (.cells #[.int .i64 x1, .int .i64 x2, .int .i64 x3, .int .i64 x4, .int .i64 x5] 74 (0, 0))).alloc (.cells #[.int .i64 y1, .int .i64 y2, .int .i64 y3, .int .i64 y4, .int .i64 y5] 74 (0, 0)) = W := ⟨_, rfl⟩
  have gW : Grown w W := by
    rw [← hW]
    exact Grown.call ⟨0, _, grow_alloc _ _⟩ ⟨0, _, grow_alloc _ _⟩
  have sW : W.heap.size = p + 2 := by rw [← hW, ← hp]; simp
  have a0 : W.cell? ⟨p, 0, none⟩ = some (.int .i64 x1) := by subst hW hp; simp
  have a1 : W.cell? ⟨p, 1, none⟩ = some (.int .i64 x2) := by subst hW hp; simp
  have b0 : W.cell? ⟨p + 1, 0, none⟩ = some (.int .i64 y1) := by subst hW hp; simp
  have b1 : W.cell? ⟨p + 1, 1, none⟩ = some (.int .i64 y2) := by subst hW hp; simp
  have cB : W.cell? ⟨B, 0, none⟩ = some (.pointer (some ⟨b, 0, none⟩)) := (gW.below.cell (p := ⟨B, 0, none⟩) hBl).trans hB
  have HS : Hid (∀ w', Grown W w' → Grown W w' ∧ w'.cell? ⟨p, 0, none⟩ = some (.int .i64 x1) ∧ w'.cell? ⟨p, 1, none⟩ = some (.int .i64 x2) ∧ w'.cell? ⟨p + 1, 0, none⟩ = some (.int .i64 y1) ∧ w'.cell? ⟨p + 1, 1, none⟩ = some (.int .i64 y2) ∧ w'.cell? ⟨B, 0, none⟩ = some (.pointer (some ⟨b, 0, none⟩))) := Lib.hid fun w' h => by
    have hb := h.below
    exact ⟨h, (hb.cell (p := ⟨p, 0, none⟩) (by show p < _; omega)).trans a0, (hb.cell (p := ⟨p, 1, none⟩) (by show p < _; omega)).trans a1, (hb.cell (p := ⟨p + 1, 0, none⟩) (by show p + 1 < _; omega)).trans b0, (hb.cell (p := ⟨p + 1, 1, none⟩) (by show p + 1 < _; omega)).trans b1, (hb.cell (p := ⟨B, 0, none⟩) (by show B < _; omega)).trans cB⟩
  have HR := Lib.hid (Grown.refl W)
  have HA : Hid (∀ (s : Int × Int) (w' : World), Grown W w' → Calls Try.prog 36 #[.pointer (some ⟨b, 0, none⟩), .int .i64 s.1, .int .i64 s.2] w' fun r w4 => r = .returned (.agg (hcells (fd F.l s.1 s.2)).toArray) ∧ Grown w' w4) := Lib.hid fun s w' h => at_any ((H.below gW.below).below h.below) s.1 s.2
  have C1 : Hid (∀ (w' : World), Grown W w' → Calls Try.prog 36 #[.pointer (some ⟨b, 0, none⟩), .int .i64 x1, .int .i64 x2] w' fun r w4 => r = .returned (.agg #[.int .i64 (hk (fd F.l x1 x2)), .int .i64 (ho (fd F.l x1 x2)), .int .i64 (hr (fd F.l x1 x2)), .int .i64 (hi (fd F.l x1 x2)), .int .i64 (hu (fd F.l x1 x2))]) ∧ Grown w' w4) := Lib.hid (HA.out (x1, x2))
  have C2 : Hid (∀ (w' : World), Grown W w' → Calls Try.prog 36 #[.pointer (some ⟨b, 0, none⟩), .int .i64 y1, .int .i64 y2] w' fun r w4 => r = .returned (.agg #[.int .i64 (hk (fd F.l y1 y2)), .int .i64 (ho (fd F.l y1 y2)), .int .i64 (hr (fd F.l y1 y2)), .int .i64 (hi (fd F.l y1 y2)), .int .i64 (hu (fd F.l y1 y2))]) ∧ Grown w' w4) := Lib.hid (HA.out (y1, y2))
  have CC : Hid (∀ w, _) := Lib.hid fun w => compare_any (hi (fd F.l x1 x2)) (hi (fd F.l y1 y2)) w
  have HV : Hid (cmpI (hi (fd F.l x1 x2)) (hi (fd F.l y1 y2)) = cfS F.l (x1, x2, x3, x4, x5) (y1, y2, y3, y4, y5)) := Lib.hid rfl
  simp only [encS]
  generalize cfS F.l (x1, x2, x3, x4, x5) (y1, y2, y3, y4, y5) = V at *
  generalize cmpI (hi (fd F.l x1 x2)) (hi (fd F.l y1 y2)) = V2 at *
  generalize hk (fd F.l x1 x2) = xk at *
  generalize ho (fd F.l x1 x2) = xo at *
  generalize hr (fd F.l x1 x2) = xr at *
  generalize hi (fd F.l x1 x2) = xi at *
  generalize hu (fd F.l x1 x2) = xu at *
  generalize hk (fd F.l y1 y2) = yk at *
  generalize ho (fd F.l y1 y2) = yo at *
  generalize hr (fd F.l y1 y2) = yr at *
  generalize hi (fd F.l y1 y2) = yi at *
  generalize hu (fd F.l y1 y2) = yu at *
  have HW := Lib.hid hW
  have GW := Lib.hid gW
  have hfx := field_turn xk xo xr xi xu
  have hfy := field_turn yk yo yr yi yu
  clear H hW HA gW hB
  go_enter Try.func52, Try.ntmps52
  go_wp2
  rw [show (w.alloc (.cells #[.int .i64 x1, .int .i64 x2, .int .i64 x3, .int .i64 x4, .int .i64 x5] 74 (0, 0))).alloc (.cells #[.int .i64 y1, .int .i64 y2, .int .i64 y3, .int .i64 y4, .int .i64 y5] 74 (0, 0)) = W from HW.out]
  go_region_held3 (fun w' => Grown W w' ∧ w'.cell? ⟨p, 0, none⟩ = some (.int .i64 x1) ∧ w'.cell? ⟨p, 1, none⟩ = some (.int .i64 x2) ∧ w'.cell? ⟨p + 1, 0, none⟩ = some (.int .i64 y1) ∧ w'.cell? ⟨p + 1, 1, none⟩ = some (.int .i64 y2) ∧ w'.cell? ⟨B, 0, none⟩ = some (.pointer (some ⟨b, 0, none⟩)))
    ((refine HS.out _ ?_; repeat' (first | with_reducible exact HR.out | with_reducible refine Grown.drew ?_ | with_reducible exact And.left (by assumption) | with_reducible refine Grown.call ?_ (by assumption))))
    (first
      | (go_at_call 36; first | ((with_reducible refine (C1.out _ (And.left (by assumption))).mono ?_); rintro r w4 ⟨rfl, hg4⟩) | ((with_reducible refine (C2.out _ (And.left (by assumption))).mono ?_); rintro r w4 ⟨rfl, hg4⟩))
      | (go_at_call 53; refine (CC.out _).mono ?_; rintro r w4 ⟨rfl, rfl⟩))
  go_wp2
  go_ret
  exact ⟨int_back HV.out, GW.out.call (And.left (by assumption))⟩

theorem cf_key (L : List Nd) (x y : Sl) : ltOf (cfS L) x y = decide (keyS L x < keyS L y) := by
  unfold ltOf cfS cmpI
  by_cases h1 : keyS L x < keyS L y
  · simp [h1]
  · by_cases h2 : keyS L y < keyS L x
    · simp [h1, h2]
    · simp [h1, h2]
theorem swo_cf (L : List Nd) : SWO (ltOf (cfS L)) where
  irrefl x := by rw [cf_key]; simp
  trans x y z h1 h2 := by rw [cf_key] at *; simp at *; omega
  ntrans x y z h1 h2 := by rw [cf_key] at *; simp at *; omega
theorem flat_at (L : List Sl) (j : Nat) (hj : j < L.length * 5) : (slc L)[j]? = some ((flatK encS 5 L.toArray)[j]!) := by
  rw [get_flatK _ _ _ _ (by simpa using hj)]
  obtain ⟨i, r, hr, rfl⟩ : ∃ i r, r < 5 ∧ j = i * 5 + r := ⟨j / 5, j % 5, by omega, by omega⟩
  have hi : i < L.length := by omega
  have e1 : (i * 5 + r) / 5 = i := by omega
  have e2 : (i * 5 + r) % 5 = r := by omega
  have e3 : L.toArray[i]! = L[i] := by
    rw [getElem!_pos _ i (by simpa using hi)]
    simp
  rw [e1, e2, e3, slc_at L i r L[i] (List.getElem?_eq_getElem hi) hr]
  have h5 : (encS L[i]).length = 5 := rfl
  rw [getElem!_pos _ r (by omega)]
  exact List.getElem?_eq_getElem _
theorem heap_put {w : World} {g n : Nat} {os : Array Obj} {cur : Array Value} {e : TypeId} {fr : Nat × Nat} (F : Array Value) (hb : w.heap[g]? = some (.cells cur e fr)) :
    (grow (putRow id (Sort.ahead w n) g 0 F) os).heap[g]? = some (.cells (putCells id 0 F cur) e fr) := by
  have hg : g < w.heap.size := (Array.getElem?_eq_some_iff.1 hb).1
  rw [heap_grow_old _ _ (by simpa using hg)]
  simp [putRow, mapBlock, Sort.ahead, Array.getElem?_modify, hb, onCells]
theorem only_put {w : World} {g n : Nat} {os : Array Obj} (F : Array Value) : Only (· = g) w (grow (putRow id (Sort.ahead w n) g 0 F) os) := by
  refine ⟨rfl, rfl, rfl, by simp, fun k hk hne => ?_⟩
  rw [heap_grow_old _ _ (by simpa using hk)]
  have : g ≠ k := fun e => hne e.symm
  simp [putRow, mapBlock, Sort.ahead, Array.getElem?_modify, this]
theorem take_put (cur F : Array Value) (xs : List Value) (m : Nat) (hm : m ≤ cur.size) (hF : F.size = m) (hl : xs.length = m) (h : ∀ j, j < m → xs[j]? = some F[j]!) : (putCells id 0 F cur).toList.take m = xs := by
  apply List.ext_getElem?
  intro j
  by_cases hj : j < m
  · rw [List.getElem?_take_of_lt hj, Array.getElem?_toList, h j hj]
    simp [putCells, hF, hj, show j < cur.size by omega]
  · rw [List.getElem?_take_eq_none (by omega), List.getElem?_eq_none (by omega)]

/-- The row holds the same in order. -/
def SortedRow (B g c n : Nat) (K : List Nd) (L : List Sl) (w : World) (e : Ending) (w' : World) : Prop :=
  e = .returned (.tuple #[]) ∧ ∃ L' : List Sl, L'.Perm L ∧ (L'.Pairwise fun x y => keyS K x ≤ keyS K y) ∧ w'.ownsRow B 74 5 (.slice (some ⟨g, 0, none⟩) n c) n (slc L') ∧ Only (· = g) w w'
theorem sort_any {w : World} {b X B g c n : Nat} {F : Fo} {L : List Sl} (H : FoIs w b F) (hX : w.cell? ⟨X, 0, none⟩ = some (.pointer (some ⟨b, 0, none⟩))) (hXl : X < w.heap.size) (hbg : b ≠ g) (hXg : X ≠ g) (h : w.ownsRow B 74 5 (.slice (some ⟨g, 0, none⟩) n c) n (slc L)) (hm : n ≤ 1000000) :
    Calls Try.prog 51 #[.slice (some ⟨g, 0, none⟩) n c, .func (.func 52) #[] #[.pointer (some ⟨X, 0, none⟩)]] w (SortedRow B g c n F.l L w) := by
  have hl := h.1
  rw [slc_len] at hl
  obtain rfl : n = L.length := by omega
  rcases h.2 with ⟨h1, h2⟩ | ⟨g', cap, cur, hv, hg, hb, hc1, hc2, hc3, hc4⟩
  · simp at h1
  simp only [Value.slice.injEq, Option.some.injEq, Addr.mk.injEq, and_true, true_and] at hv
  obtain ⟨rfl, rfl⟩ := hv
  have eg : ∀ args w, (callFunc 52 args).run Try.prog w = .ok (.enter 52 args) w := enters_of Try.func52 (by kernel_rfl) rfl
  have hH : HoldsK encS 5 w g 0 L.toArray := fun j hj => by
    have hj' : j < L.length * 5 := by simpa using hj
    rw [Nat.zero_add, h.cellAt j (by omega), flat_at L j hj']
    exact ⟨rfl, by simp [World.frozen?, hb]⟩
  have hcmp : CmpLays Try.prog 52 #[.pointer (some ⟨X, 0, none⟩)] encS 5 (cfS F.l) g 0 L.toArray.size w := fun m os dk hs x y => by
    have hO : Only (· = g) w (sortWorldK encS 5 w g 0 m dk os) := only_put _
    exact order_cmp (H.kept (hO.block b H.lt hbg)) ((hO.cell hXl hXg 0).trans hX) (Nat.lt_of_lt_of_le hXl hO.size) x y
  have hcon := AnyQ.slices_SortFunc sort_laid 5 Try.isAgg74 Try.sizeOf74 encS (fun _ => rfl) (fun x v hv => by simp [encS] at hv; rcases hv with rfl | rfl | rfl | rfl | rfl <;> rfl) (cfS F.l) (swo_cf F.l) 52 #[.pointer (some ⟨X, 0, none⟩)] g 0 c L.toArray w eg hcmp hH (lt_of_block hb) (by simp; omega)
  change Calls Try.prog 51 _ _ _ at hcon
  refine hcon.mono ?_
  rintro e w' ⟨rfl, d', m, os, hp, hs, rfl⟩
  obtain ⟨p1, p2, p3⟩ := hp
  obtain ⟨L', rfl⟩ : ∃ L' : List Sl, d' = L'.toArray := ⟨d'.toList, by simp⟩
  have hlen : L'.length = L.length := by simpa using p1
  refine ⟨rfl, L', by
    have h3 := p3
    simp only [List.extract_toArray, List.extract_eq_take_drop, List.drop_zero, Nat.sub_zero, List.size_toArray] at h3
    rwa [List.take_of_length_le (by omega), List.take_of_length_le (by omega)] at h3, ?_, ⟨by rw [slc_len, hlen], Or.inr ⟨g, c, _, rfl, hg, heap_put _ hb, hc1, hc2, by simp [putCells, hc3], ?_⟩⟩, only_put _⟩
  · refine List.pairwise_iff_getElem.2 fun i j hi hj hij => ?_
    have := hs i j (Nat.zero_le _) hij (by simp; omega)
    rw [cf_key, getElem!_pos _ j (by simpa using hj), getElem!_pos _ i (by simpa using hi)] at this
    simpa using this
  · refine take_put cur _ _ _ ?_ (by simp [hlen]) (by rw [slc_len, hlen]) (fun j hj => flat_at L' j (by omega))
    have := Nat.mul_le_mul_right 5 hc1
    omega
end Go.Proofs.Ythblldojbgeknaa
