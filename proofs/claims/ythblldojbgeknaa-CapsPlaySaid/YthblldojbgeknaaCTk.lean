/-
  Within take: the forest, what went and its turns, side by side. Contracts: the shelf's Index and Contains of numbers.
-/
import Derived.Test.YthblldojbgeknaaCWalksF
namespace Go.Proofs.Ythblldojbgeknaa
open Go.ChangeShapes Go.WideShapes Go.ChangeAt Go.RowKit
open Go.Shelf Go.Sort

theorem own_only {w w' : World} {S : Nat → Prop} {B n size : Nat} {e : TypeId} {v : Value} {xs : List Value} (h : w.ownsRow B e size v n xs) (O : Only S w w') (hS : ∀ k, S k → ¬ B ≤ k) : w'.ownsRow B e size v n xs := by
  refine ⟨h.1, ?_⟩
  rcases h.2 with h2 | ⟨g, cap, cur, h1, h2, h3, h4⟩
  · exact Or.inl h2
  · exact Or.inr ⟨g, cap, cur, h1, h2, (O.block g (lt_of_blk h3) (fun hs => hS g hs h2)).trans h3, h4⟩
def tI (W : List Nd) : List Int := W.map fun y => ((y.id : Nat) : Int)
theorem tI_snoc (W : List Nd) (x : Nd) : tI (W ++ [x]) = tI W ++ [((x.id : Nat) : Int)] := by simp [tI]
theorem tI_has (W : List Nd) (u : Nat) : decide (((u : Nat) : Int) ∈ tI W) = (W.map (·.id)).contains u := by
  rw [List.contains_eq_mem]
  congr 1
  simp only [tI, List.mem_map, eq_iff_iff]
  constructor
  · rintro ⟨y, hy, e⟩
    exact ⟨y, hy, by omega⟩
  · rintro ⟨y, hy, e⟩
    exact ⟨y, hy, by omega⟩
/-- The forest G; X, what went: W; Y, turns: those of V. -/
structure Tk (w2 : World) (b : Nat) (G : Fo) (W V : List Nd) (X : Option Addr) (m cx : Nat) (Y : Option Addr) (n cy : Nat) (wr : World) : Prop where
  fo : FoIs wr b G
  lt : b < w2.heap.size
  only : Only (· = b) w2 wr
  rowX : wr.ownsRow w2.heap.size 74 5 (.slice X m cx) m (scells W)
  rowY : wr.ownsRow w2.heap.size 3 1 (.slice Y n cy) n (ncells (tI V))
  apart : (Value.slice Y n cy).ownBlock = none ∨ (Value.slice Y n cy).ownBlock ≠ (Value.slice X m cx).ownBlock
section
variable {w2 wr w' : World} {b m cx n cy : Nat} {G : Fo} {W V : List Nd} {X Y : Option Addr}
theorem Tk.below (H : Tk w2 b G W V X m cx Y n cy wr) (hb : Below wr.heap.size wr w') : Tk w2 b G W V X m cx Y n cy w' :=
  ⟨H.fo.below hb, H.lt, H.only.trans (Only.of_below (S := (· = b)) hb) (fun _ h => Or.inl h), own_call H.rowX hb, own_call H.rowY hb, H.apart⟩
theorem Tk.size (H : Tk w2 b G W V X m cx Y n cy wr) : w2.heap.size ≤ wr.heap.size := H.only.size
theorem Tk.nums (H : Tk w2 b G W V X m cx Y n cy wr) : NumsI wr.heap.size wr Y (tI V) := NumsI.own H.rowY
theorem Tk.ltY (H : Tk w2 b G W V X m cx Y n cy wr) : ∀ y, (Value.slice Y n cy).ownBlock = some y → y < wr.heap.size := fun y hy => (H.rowY.lt y hy).2
theorem Tk.lowY (H : Tk w2 b G W V X m cx Y n cy wr) : ∀ y, (Value.slice Y n cy).ownBlock = some y → w2.heap.size ≤ y := fun y hy => (H.rowY.lt y hy).1
theorem Tk.lowX (H : Tk w2 b G W V X m cx Y n cy wr) : ∀ y, (Value.slice X m cx).ownBlock = some y → w2.heap.size ≤ y := fun y hy => (H.rowX.lt y hy).1
theorem Tk.ltX (H : Tk w2 b G W V X m cx Y n cy wr) : ∀ y, (Value.slice X m cx).ownBlock = some y → y < wr.heap.size := fun y hy => (H.rowX.lt y hy).2
def noughts5 : List Value := [.int .i64 0, .int .i64 0, .int .i64 0, .int .i64 0, .int .i64 0]
/-- One goes out of the forest. -/
theorem Tk.cut {K R : List Nd} {x : Nd} {p : Nat} (H : Tk w2 b ⟨K ++ x :: R, p⟩ W V X m cx Y n cy wr) : wr.drew.there b (x.en * 80 + x.sl * 5) 5 ∧ Tk w2 b ⟨K ++ R, p⟩ W V X m cx Y n cy (wr.drew.setCells b (x.en * 80 + x.sl * 5) noughts5) := by
  have hwf := H.fo.wf
  have hx := hwf.rng x (by simp)
  have Hd : FoIs wr.drew b ⟨K ++ x :: R, p⟩ := H.fo.kept rfl
  have hO : Only (· = b) wr (wr.drew.setCells b (x.en * 80 + x.sl * 5) noughts5) := Only.puts (S := (· = b)) (Only.drew (Only.refl (· = b) _)) (Or.inl rfl) _ _
  have hf : fd (K ++ R) x.en x.sl = none := by
    rw [fd_cut hwf.apart, if_pos (on_iff.2 ⟨rfl, rfl⟩)]
  have hput := Hd.putAt (e := x.en) (s := x.sl) (L := K ++ R) hx.1 hx.2.1 hwf.cut (fun i j => by
    rw [fd_cut hwf.apart]
    by_cases h : x.on (i : Nat) (j : Nat) = true
    · obtain ⟨h1, h2⟩ := on_iff.1 h
      exact Or.inl ⟨by omega, by omega⟩
    · exact Or.inr (if_neg h))
  rw [hf] at hput
  have hb : ∀ k, k = b → ¬ w2.heap.size ≤ k := fun k e => by
    have := H.lt
    omega
  exact ⟨Hd.there hx.1 hx.2.1, hput, H.lt, H.only.trans hO (fun _ h => Or.inl h), own_only H.rowX hO hb, own_only H.rowY hO hb, H.apart⟩
/-- A turn more. -/
theorem Tk.pushY {Y' : Option Addr} {n' cy' h : Nat} {V' : List Nd} (H : Tk w2 b G W V X m cx Y n cy wr) (hg : wr.grownBy w' (Value.slice Y n cy).ownBlock) (ho : w'.ownsRow w2.heap.size 3 1 (.slice Y' n' cy') n' (ncells (tI V'))) (hat : (Value.slice Y' n' cy').ownBlock = (Value.slice Y n cy).ownBlock ∨ (Value.slice Y' n' cy').ownBlock = some h) (hh : wr.heap.size = h) : Tk w2 b G W V' X m cx Y' n' cy' w' := by
  subst hh
  have hlt := H.lt
  refine ⟨H.fo.kept (hg.block b H.fo.lt (fun e => ?_)), H.lt, H.only.grown hg (fun k hk => Or.inr (H.lowY k hk)), H.rowX.kept hg (two_turn H.apart), ho, two_turn (two_apart (two_turn H.apart) hat H.ltX)⟩
  have := H.lowY b e.symm
  omega
/-- One more went. -/
theorem Tk.pushX {X' : Option Addr} {m' cx' h : Nat} {W' : List Nd} (H : Tk w2 b G W V X m cx Y n cy wr) (hg : wr.grownBy w' (Value.slice X m cx).ownBlock) (ho : w'.ownsRow w2.heap.size 74 5 (.slice X' m' cx') m' (scells W')) (hat : (Value.slice X' m' cx').ownBlock = (Value.slice X m cx).ownBlock ∨ (Value.slice X' m' cx').ownBlock = some h) (hh : wr.heap.size = h) : Tk w2 b G W' V X' m' cx' Y n cy w' := by
  subst hh
  have hlt := H.lt
  refine ⟨H.fo.kept (hg.block b H.fo.lt (fun e => ?_)), H.lt, H.only.grown hg (fun k hk => Or.inr (H.lowX k hk)), ho, H.rowY.kept hg H.apart, two_apart H.apart hat H.ltY⟩
  have := H.lowX b e.symm
  omega
end

/-! The shelf's Contains. -/
set_option maxRecDepth 4000 in
theorem index_num {A : Option Addr} {n c B : Nat} {T : List Int} (w : World) (hn : n = T.length) (hT : NumsI B w A T) (hc : n ≤ c) (hm : n ≤ 1000000) (v : Int) : Calls Try.prog 54 #[.slice A n c, .int .i64 v] w fun e w' => (∃ r : Int, e = .returned (.int .i64 r) ∧ decide (0 ≤ r) = decide (v ∈ T)) ∧ w = w' := by
  have HT := Lib.hid hT
  have Hn := Lib.hid hn
  clear hT hn
  go_enter Try.func54, Try.ntmps54
  go_wp2
  go_loopw [5, 8] (fun _ i wr => ∃ k : Nat, k ≤ n ∧ i = .int .i64 k ∧ Hid (v ∉ T.take k) ∧ w = wr) (fun _ i _ => (n - intOf i).toNat)
  case atStart => exact ⟨0, Nat.zero_le _, rfl, Lib.hid (by simp), rfl⟩
  case round =>
    obtain ⟨k, hkn, rfl, hv, rfl⟩ := hrel
    by_cases hlt : k < n
    · have hk0 : (0 : Int) ≤ k := by omega
      have hk1 : (k : Int) < n := by omega
      obtain ⟨g, o, rfl, hg, hcell⟩ := HT.out (by rw [← Hn.out]; omega)
      have hk2 := hcell k (by rw [← Hn.out]; exact hlt)
      obtain ⟨y, hy⟩ : ∃ y, T[k]? = some y := ⟨_, List.getElem?_eq_getElem (by rw [← Hn.out]; exact hlt)⟩
      rw [List.getD_eq_getElem?_getD, hy, Option.getD_some] at hk2
      have Htk : Hid (T.take (k + 1) = T.take k ++ [y]) := Lib.hid (by rw [List.take_add_one, hy]; rfl)
      have hc0 : (0 : Int) ≤ c := by omega
      by_cases hvy : v = y
      · subst hvy
        have HF : Hid (decide ((0 : Int) ≤ (k : Nat)) = decide (v ∈ T)) := Lib.hid (by
          have : v ∈ T := List.mem_of_getElem? hy
          rw [decide_eq_true this, decide_eq_true hk0])
        clear hy hcell
        go_wp2
        go_ret
        exact ⟨⟨_, rfl, HF.out⟩, rfl⟩
      · have HN : Hid (v ∉ T.take (k + 1)) := Lib.hid (by
          rw [Htk.out, List.mem_append, not_or]
          exact ⟨hv.out, by simpa using hvy⟩)
        clear hy hcell
        go_wp2
        go_roundw
        case rel => exact ⟨k + 1, by omega, by go_num, HN, trivial⟩
        case measure => simp [intOf]; omega
    · obtain rfl : k = n := by omega
      have HF : Hid (decide ((0 : Int) ≤ -1) = decide (v ∈ T)) := Lib.hid (by
        have h1 := hv.out
        rw [Hn.out, List.take_length] at h1
        rw [decide_eq_false h1]
        rfl)
      go_wp2
      go_ret
      exact ⟨⟨_, rfl, HF.out⟩, rfl⟩
theorem contains_num {A : Option Addr} {n c B : Nat} {T : List Int} (w : World) (hn : n = T.length) (hT : NumsI B w A T) (hc : n ≤ c) (hm : n ≤ 1000000) (v : Int) : Calls Try.prog 48 #[.slice A n c, .int .i64 v] w fun e w' => e = .returned (.bool (decide (v ∈ T))) ∧ w = w' := by
  have HI := Lib.hid (index_num w hn hT hc hm v)
  generalize decide (v ∈ T) = d at *
  clear hT hn
  go_enter Try.func48, Try.ntmps48
  go_wp2_with (go_at_call 54; refine HI.out.mono ?_; rintro e w' ⟨⟨r, rfl, hr⟩, rfl⟩; have HR := Lib.hid hr; clear hr)
  go_ret
  exact ⟨bool_back HR.out, rfl⟩
end Go.Proofs.Ythblldojbgeknaa
