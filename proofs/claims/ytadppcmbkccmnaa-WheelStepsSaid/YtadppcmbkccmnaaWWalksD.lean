/-
  Contract: drop.
-/
import Derived.Test.YtadppcmbkccmnaaWWalksC
import Derived.BigRegion
namespace Go.Proofs.Ytadppcmbkccmnaa
open Go.ChangeShapes Go.WideShapes Go.ChangeAt Go.RowKit Wh

/-- A timer fewer in slot i. -/
def Dropped (B h i p : Nat) (S : Nat → Value) (X : Nat → List Tm) (y : Tm) (mv : Value) (now k : Nat) (w : World) (e : Ending) (w' : World) : Prop :=
  e = .returned (.tuple #[]) ∧ ∃ v, Slots w' B (upd S i v) (upd X i (rem (X i) p y)) ∧ WCells w' h (upd S i v) mv now k ∧ Only (fun j => SOwn S X j ∨ j = h) w w' ∧ v.ownBlock = (S i).ownBlock

theorem dropped_end {w W : World} {B h i n g c p now k : Nat} {S : Nat → Value} {X : Nat → List Tm} {x y : Tm} {mv : Value} (hs : Slots w B S X) (hc : WCells w h S mv now k) (hi : i < 256) (hn : (X i).length = n + 1)
    (hS : S i = .slice (some ⟨g, 0, none⟩) (n + 1) c) (hx : (X i)[p]? = some x) (hy : (X i)[n]? = some y) (hoh : ¬ SOwn S X h)
    (h1 : W.heap = ((((w.setCell ⟨y.b, 3, none⟩ (.int .i64 (p : Nat))).setCell ⟨g, p, none⟩ (.pointer (some ⟨y.b, 0, none⟩))).setCell ⟨g, n, none⟩ (.pointer none)).setCell ⟨h, i, none⟩ (.slice (some ⟨g, 0, none⟩) n c)).heap) (h2 : W.os = w.os) (h3 : W.tape = w.tape) (h4 : W.output = w.output) :
    Dropped B h i p S X y mv now k w (.returned (.tuple #[])) W := by
  have hp : p < n + 1 := by
    rw [← hn]
    exact (List.getElem?_eq_some_iff.1 hx).1
  have hym := List.mem_of_getElem? hy
  have hown : (S i).ownBlock = some g := by rw [hS]; rfl
  have hgh : g ≠ h := fun e => hoh (Or.inl ⟨i, by rw [hown, e]⟩)
  have hyg : y.b ≠ g := fun e => hs.off i i y hym (by rw [hown, e])
  have hyh : y.b ≠ h := fun e => hoh (Or.inr ⟨i, y, hym, e⟩)
  have hback : ∀ j, j ≠ g → j ≠ h → W.heap[j]? = (w.setCell ⟨y.b, 3, none⟩ (.int .i64 (p : Nat))).heap[j]? := fun j a1 a2 => by
    rw [h1, Below.heap_setCell _ _ _ _ a2, Below.heap_setCell _ _ _ _ a1, Below.heap_setCell _ _ _ _ a1]
  have hon : Only (fun j => j = g ∨ j = y.b ∨ j = h) w W := by
    refine ⟨h2, h3, h4, by rw [h1]; simp [World.setCell], fun j hj hT => ?_⟩
    rw [hback j (fun e => hT (Or.inl e)) (fun e => hT (Or.inr (Or.inr e))), Below.heap_setCell _ _ _ _ (fun e => hT (Or.inr (Or.inl e)))]
  have hrow := hs.row i
  rw [hn, hS] at hrow
  refine ⟨rfl, .slice (some ⟨g, 0, none⟩) n c, hs.drop hn hS hx hy ?_ ?_ hon hoh, ?_, hon.mono ?_, by rw [hown]; rfl⟩
  · have e0 := ownsRow_setCell_other hrow (a := ⟨y.b, 3, none⟩) (fun e => hyg (by simpa [Value.ownBlock] using e.symm)) (.int .i64 (p : Nat))
    have e1 := ((e0.stored p (.pointer (some ⟨y.b, 0, none⟩))).1.stored n (.pointer none)).1
    have e2 := ownsRow_setCell_other e1 (a := ⟨h, i, none⟩) (fun e => hgh (by simpa [Value.ownBlock] using e)) (.slice (some ⟨g, 0, none⟩) n c)
    have e3 : W.ownsRow B 62 1 (.slice (some ⟨g, 0, none⟩) (n + 1) c) (n + 1) ((((X i).map ptrTo).set p (.pointer (some ⟨y.b, 0, none⟩))).set n (.pointer none)) := row_kept e2 fun j _ => by rw [h1]
    obtain ⟨k1, k2⟩ := e3
    rcases k2 with ⟨k2, _⟩ | ⟨g', cap, cur, hv, hg, hh2, hcc, hm, hsz, ht⟩
    · simp at k2
    · simp only [Value.slice.injEq, Option.some.injEq, Addr.mk.injEq, and_true, true_and] at hv
      obtain ⟨rfl, rfl⟩ := hv
      refine ⟨by rw [List.length_map, rem_len hn, Nat.mul_one], Or.inr ⟨g, c, cur, rfl, hg, hh2, by omega, hm, hsz, ?_⟩⟩
      rw [Nat.mul_one] at ht ⊢
      have e4 : cur.toList.take n = (cur.toList.take (n + 1)).take n := by rw [List.take_take, Nat.min_eq_left (by omega)]
      rw [e4, ht, List.take_set_of_le (by omega), rem, List.map_take, List.map_set, hn]
      rfl
  · intro hpn
    obtain ⟨j, hj, hyo⟩ := hs.block hym
    rw [hback _ hyg hyh]
    exact tm_moved hyo
  · refine (WCells.putSlot (w := ((w.setCell ⟨y.b, 3, none⟩ (.int .i64 (p : Nat))).setCell ⟨g, p, none⟩ (.pointer (some ⟨y.b, 0, none⟩))).setCell ⟨g, n, none⟩ (.pointer none)) (hc.kept ?_) hi (.slice (some ⟨g, 0, none⟩) n c)).kept (by rw [h1])
    rw [Below.heap_setCell _ _ _ _ (Ne.symm hgh), Below.heap_setCell _ _ _ _ (Ne.symm hgh), Below.heap_setCell _ _ _ _ (Ne.symm hyh)]
  · rintro j (rfl | rfl | rfl)
    · exact Or.inl (Or.inl ⟨i, hown⟩)
    · exact Or.inl (Or.inr ⟨i, y, hym, rfl⟩)
    · exact Or.inr rfl

set_option maxHeartbeats 1000000 in
theorem drop_any {w : World} {B h i p now0 k now : Nat} {S : Nat → Value} {X : Nat → List Tm} {x : Tm} {mv : Value} (hs : Slots w B S X) (hc : WCells w h S mv now0 k) (hi : slot now x.tick = i) (hm : (X i).length ≤ 900000)
    (hx : (X i)[p]? = some x) (hoh : ¬ SOwn S X h) (hn1 : now < 16777216) (ht1 : x.tick < 16777216) :
    Calls Try.prog 21 #[.pointer (some ⟨h, 0, none⟩), .int .i64 (now : Nat), .pointer (some ⟨x.b, 0, none⟩)] w fun e w' => ∃ y, (X i)[(X i).length - 1]? = some y ∧ Dropped B h i p S X y mv now0 k w e w' := by
  have hi2 : i < 256 := hi ▸ slot_lt now x.tick
  have HO := Lib.hid (fun w => of_any h now x.tick w hn1 ht1)
  unfold SlotOf at HO
  rw [hi] at HO
  have hp : p < (X i).length := (List.getElem?_eq_some_iff.1 hx).1
  obtain ⟨n, hn⟩ : ∃ n, (X i).length = n + 1 := ⟨(X i).length - 1, by omega⟩
  obtain ⟨y, hy⟩ : ∃ y, (X i)[n]? = some y := ⟨_, List.getElem?_eq_getElem (by omega)⟩
  rw [hn]
  suffices H : Calls Try.prog 21 #[.pointer (some ⟨h, 0, none⟩), .int .i64 (now : Nat), .pointer (some ⟨x.b, 0, none⟩)] w (Dropped B h i p S X y mv now0 k w) from H.mono fun e w' hd => ⟨y, hy, hd⟩
  have hxm := List.mem_of_getElem? hx
  have hym := List.mem_of_getElem? hy
  have hxo := hs.thing i p x hx
  have hyo := hs.thing i n y hy
  have hrow := hs.row i
  rw [hn] at hrow hm hp
  obtain ⟨g, c, hv, hnc, hc63, hg⟩ : ∃ g c, S i = .slice (some ⟨g, 0, none⟩) (n + 1) c ∧ n + 1 ≤ c ∧ c ≤ 9223372036854775807 ∧ g < w.heap.size := by
    rcases hrow.2 with ⟨_, h2⟩ | ⟨g, cap, cur, hv, _, hh, hcc, hm, _⟩
    · omega
    · exact ⟨g, cap, hv, hcc, by unfold maxLen at hm; exact hm, lt_of_block hh⟩
  have Hend := Lib.hid fun (W : World) => dropped_end (W := W) hs hc hi2 hn hv hx hy hoh
  have hown : (S i).ownBlock = some g := by rw [hv]; rfl
  have hgh : g ≠ h := fun e => hoh (Or.inl ⟨i, by rw [hown, e]⟩)
  have hyg : y.b ≠ g := fun e => hs.off i i y hym (by rw [hown, e])
  have hyh : y.b ≠ h := fun e => hoh (Or.inr ⟨i, y, hym, e⟩)
  have hxg : x.b ≠ g := fun e => hs.off i i x hxm (by rw [hown, e])
  have hxh : x.b ≠ h := fun e => hoh (Or.inr ⟨i, x, hxm, e⟩)
  rw [hv] at hrow
  have hcs : w.cell? ⟨h, i, none⟩ = some (.slice (some ⟨g, 0, none⟩) (n + 1) c) := by rw [hc.slot hi2, hv]
  have hf := hc.free i
  have hx0 : w.cell? ⟨x.b, 0, none⟩ = some (.int .i64 (x.tick : Nat)) := tm_cell (j := 0) hxo rfl
  have hx3 : w.cell? ⟨x.b, 3, none⟩ = some (.int .i64 (p : Nat)) := tm_cell (j := 3) hxo rfl
  have hy3 : w.cell? ⟨y.b, 3, none⟩ = some (.int .i64 (n : Nat)) := tm_cell (j := 3) hyo rfl
  have hyf := tm_free (j := 3) hyo
  have hcell : ∀ j z, (X i)[j]? = some z → w.cell? ⟨g, j, none⟩ = some (.pointer (some ⟨z.b, 0, none⟩)) := fun j z hz => by
    have h1 := hrow.cells (g := g) rfl j (ptrTo z) (by rw [List.getElem?_map, hz]; rfl)
    rwa [add_at, Nat.zero_add] at h1
  have hgp := hcell p x hx
  have hgn := hcell n y hy
  have hgf : ∀ j, w.frozen? ⟨g, j, none⟩ = false := hrow.frozenAt
  have hgfp := hgf p
  have hgfn := hgf n
  have hX : (w.setCell ⟨y.b, 3, none⟩ (.int .i64 (p : Nat))).cell? ⟨x.b, 3, none⟩ = some (.int .i64 (p : Nat)) := by
    by_cases e : x.b = y.b
    · rw [e]
      exact World.cell?_setCell_same w _ _ hy3
    · exact (World.cell?_setCell_other w ⟨y.b, 3, none⟩ ⟨x.b, 3, none⟩ _ (fun e2 => e (congrArg Addr.block e2).symm)).trans hx3
  have hPN : ((w.setCell ⟨y.b, 3, none⟩ (.int .i64 (p : Nat))).setCell ⟨g, p, none⟩ (.pointer (some ⟨y.b, 0, none⟩))).cell? ⟨g, n, none⟩ = some (.pointer (some ⟨y.b, 0, none⟩)) := by
    have a1 : ∀ j, (w.setCell ⟨y.b, 3, none⟩ (.int .i64 (p : Nat))).cell? ⟨g, j, none⟩ = w.cell? ⟨g, j, none⟩ := fun j => World.cell?_setCell_other w ⟨y.b, 3, none⟩ ⟨g, j, none⟩ _ (fun e2 => hyg (congrArg Addr.block e2))
    by_cases e : n = p
    · rw [e]
      exact World.cell?_setCell_same _ _ _ ((a1 p).trans hgp)
    · exact (World.cell?_setCell_other _ ⟨g, p, none⟩ ⟨g, n, none⟩ _ (fun e2 => e (congrArg Addr.off e2).symm)).trans ((a1 n).trans hgn)
  have hlth := hc.lt
  have hltx := hs.lt hxm
  have hlty := hs.lt hym
  obtain ⟨b, hb⟩ : ∃ b, x.b = b := ⟨_, rfl⟩
  obtain ⟨d, hd⟩ : ∃ d, y.b = d := ⟨_, rfl⟩
  generalize x.tick = t at *
  rw [hb] at hx0 hx3 hxg hxh hgp hltx hX
  rw [hd] at hy3 hyf hyg hyh hgn hlty hX Hend hPN
  rw [hb]
  have hgy := Ne.symm hyg
  have hhg := Ne.symm hgh
  have hhy := Ne.symm hyh
  have hhx := Ne.symm hxh
  have hgx := Ne.symm hxg
  have hn0 : (0 : Int) ≤ n := by omega
  have hn3 : (n : Int) ≤ 900000 := by omega
  have hp0 : (0 : Int) ≤ p := by omega
  have hp2 : (p : Int) < (n : Int) + 1 := by omega
  have hn4 : (n : Int) < (n : Int) + 1 := by omega
  have hn5 : (n : Int) ≤ c := by omega
  clear hs hc hi hi2 hx hy hoh hrow hb hd hn hv hn1 ht1 hxm hym hxo hyo hgf hcell hown hm
  go_enter Try.func21, Try.ntmps21
  go_wp2_with (first
    | (go_at_call 27; refine (HO.out _).mono ?_; rintro e w1 ⟨rfl, q, rfl⟩))
  go_region
  go_wp2
  go_end0
  exact Hend.out _ rfl rfl rfl rfl
end Go.Proofs.Ytadppcmbkccmnaa
