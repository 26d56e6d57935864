/-
  Contracts of ByPeriod and ByDeadline of package tasks, and of the document's order of places.
-/
import Derived.Test.YtnchlgdmpjemhaaTWalksK
import Derived.Deep.RegionHeld3
import Derived.Deep.DrawnRows
namespace Go.Proofs.Ytnchlgdmpjemhaa
open Go.ChangeShapes Go.WideShapes Go.ChangeAt Go.RowKit Go.Shelf
attribute [local go_sem ↓] Go.wp_at_zero Go.wp_at_succ

set_option maxHeartbeats 400000 in
theorem byperiod_cmp (A : Option Addr) (n c b : Nat) (l : List (Int × Int × Int)) (W : World) (hln : l.length = n) (hb : W.heap.size = b) (hL : Tks W.heap.size W A l) :
    Orders 28 (.pointer (some ⟨b, 0, none⟩)) (fun i => (l.getD i (0, 0, 0)).2.1) (b + 1) n (W.alloc (.cells #[.slice A n c] 22)) := by
  subst hb
  intro i j w hi hj hw
  have hv : w.cell? ⟨W.heap.size, 0, none⟩ = some (.slice A n c) := by
    rw [(old_cells hw).1 _ _ (Nat.lt_succ_self _)]
    simp [go_sem]
  have hlw : W.heap.size < w.heap.size := by
    have := hw.size
    simp at this
    omega
  have hT : Tks w.heap.size w A l := (hL.below (((Below.refl _ _).alloc (Nat.le_refl _) _).trans (hw.mono (Nat.le_succ _)))).mono (Nat.le_of_lt hlw)
  obtain ⟨ab, ao, rfl, hB, hcell⟩ := hT (by omega)
  obtain ⟨a1, a2, a3⟩ := hcell i (by omega)
  obtain ⟨b1, b2, b3⟩ := hcell j (by omega)
  clear hcell hT hw hL
  simp only
  obtain ⟨x, hx⟩ : ∃ x, (l.getD i (0, 0, 0)).2.1 = x := ⟨_, rfl⟩
  obtain ⟨y, hy⟩ : ∃ y, (l.getD j (0, 0, 0)).2.1 = y := ⟨_, rfl⟩
  rw [hx] at a2
  rw [hy] at b2
  rw [hx, hy]
  clear hx hy a1 b1 a3 b3
  have hi0 : (0 : Int) ≤ i := by omega
  have hin : (i : Int) < n := by omega
  have hj0 : (0 : Int) ≤ j := by omega
  have hjn : (j : Int) < n := by omega
  go_enter Try.func28, Try.ntmps28
  go_wp2_with fail
  refine wp_region_later w.heap.size w (by kernel_rfl) (by kernel_rfl) (Below.refl _ _) ?_
  repeat (go_big_quiet_step (with_reducible exact Calls.later_same (compare_any x y _)))
  refine wpQuiet_nil ?_
  rintro _ ⟨n1, rfl⟩
  go_wp2
  go_ret
  exact ⟨rfl, n1.below⟩

set_option maxHeartbeats 400000 in
theorem byperiod_any (A : Option Addr) (n c : Nat) (l : List (Int × Int × Int)) (w : World) (hln : l.length = n) (hn : n ≤ 20) (hL : Tks w.heap.size w A l) :
    Calls Try.prog 14 #[.slice A n c] w fun e w' => NumsBack (ints (Tk.byTo (fun i => (l.getD i (0, 0, 0)).2.1) n)) w e w' := by
  have HO := Lib.hid (byperiod_cmp A n c w.heap.size l w hln rfl hL)
  have eg : ∀ args w, (callFunc 28 args).run Try.prog w = .ok (.enter 28 args) w := enters_of Try.func28 (by kernel_rfl) rfl
  have Eg := Lib.hid eg
  clear eg hL hln
  have hmf : ∀ (fn : Fn) (first cap : Array Value) (w : World), (Instr.makeFunc fn first cap).run Try.prog w = .ok (.func fn first cap) w := fun _ _ _ _ => rfl
  go_enter Try.func14, Try.ntmps14
  go_wp2_with fail
  refine (places_any 28 (.pointer (some ⟨w.heap.size, 0, none⟩)) _ n _ hn Eg.out (by simpa using HO.out)).mono ?_
  rintro e w1 ⟨X, cx, rfl, hcx, hX, hb1⟩
  have B1 := Lib.hid hb1
  have X1 := Lib.hid hX
  have C1 := Lib.hid hcx
  clear hb1 hX hcx
  go_wp2
  go_ret
  exact ⟨X, cx, rfl, C1.out, X1.out, ((Below.refl _ _).alloc (Nat.le_refl _) _).trans (B1.out.mono (by simp))⟩

set_option maxHeartbeats 400000 in
theorem bydeadline_cmp (A : Option Addr) (n c b : Nat) (l : List (Int × Int × Int)) (W : World) (hln : l.length = n) (hb : W.heap.size = b) (hL : Tks W.heap.size W A l) :
    Orders 30 (.pointer (some ⟨b, 0, none⟩)) (fun i => (l.getD i (0, 0, 0)).2.2) (b + 1) n (W.alloc (.cells #[.slice A n c] 22)) := by
  subst hb
  intro i j w hi hj hw
  have hv : w.cell? ⟨W.heap.size, 0, none⟩ = some (.slice A n c) := by
    rw [(old_cells hw).1 _ _ (Nat.lt_succ_self _)]
    simp [go_sem]
  have hlw : W.heap.size < w.heap.size := by
    have := hw.size
    simp at this
    omega
  have hT : Tks w.heap.size w A l := (hL.below (((Below.refl _ _).alloc (Nat.le_refl _) _).trans (hw.mono (Nat.le_succ _)))).mono (Nat.le_of_lt hlw)
  obtain ⟨ab, ao, rfl, hB, hcell⟩ := hT (by omega)
  obtain ⟨a1, a2, a3⟩ := hcell i (by omega)
  obtain ⟨b1, b2, b3⟩ := hcell j (by omega)
  clear hcell hT hw hL
  simp only
  obtain ⟨x, hx⟩ : ∃ x, (l.getD i (0, 0, 0)).2.2 = x := ⟨_, rfl⟩
  obtain ⟨y, hy⟩ : ∃ y, (l.getD j (0, 0, 0)).2.2 = y := ⟨_, rfl⟩
  rw [hx] at a3
  rw [hy] at b3
  rw [hx, hy]
  clear hx hy a1 b1 a2 b2
  have hi0 : (0 : Int) ≤ i := by omega
  have hin : (i : Int) < n := by omega
  have hj0 : (0 : Int) ≤ j := by omega
  have hjn : (j : Int) < n := by omega
  go_enter Try.func30, Try.ntmps30
  go_wp2_with fail
  refine wp_region_later w.heap.size w (by kernel_rfl) (by kernel_rfl) (Below.refl _ _) ?_
  repeat (go_big_quiet_step (with_reducible exact Calls.later_same (compare_any x y _)))
  refine wpQuiet_nil ?_
  rintro _ ⟨n1, rfl⟩
  go_wp2
  go_ret
  exact ⟨rfl, n1.below⟩

set_option maxHeartbeats 400000 in
theorem bydeadline_any (A : Option Addr) (n c : Nat) (l : List (Int × Int × Int)) (w : World) (hln : l.length = n) (hn : n ≤ 20) (hL : Tks w.heap.size w A l) :
    Calls Try.prog 16 #[.slice A n c] w fun e w' => NumsBack (ints (Tk.byTo (fun i => (l.getD i (0, 0, 0)).2.2) n)) w e w' := by
  have HO := Lib.hid (bydeadline_cmp A n c w.heap.size l w hln rfl hL)
  have eg : ∀ args w, (callFunc 30 args).run Try.prog w = .ok (.enter 30 args) w := enters_of Try.func30 (by kernel_rfl) rfl
  have Eg := Lib.hid eg
  clear eg hL hln
  have hmf : ∀ (fn : Fn) (first cap : Array Value) (w : World), (Instr.makeFunc fn first cap).run Try.prog w = .ok (.func fn first cap) w := fun _ _ _ _ => rfl
  go_enter Try.func16, Try.ntmps16
  go_wp2_with fail
  refine (places_any 30 (.pointer (some ⟨w.heap.size, 0, none⟩)) _ n _ hn Eg.out (by simpa using HO.out)).mono ?_
  rintro e w1 ⟨X, cx, rfl, hcx, hX, hb1⟩
  have B1 := Lib.hid hb1
  have X1 := Lib.hid hX
  have C1 := Lib.hid hcx
  clear hb1 hX hcx
  go_wp2
  go_ret
  exact ⟨X, cx, rfl, C1.out, X1.out, ((Below.refl _ _).alloc (Nat.le_refl _) _).trans (B1.out.mono (by simp))⟩

theorem ints_ins {f : Nat → Int} {k j : Nat} (hj : Tk.slot f (Tk.byTo f k) k = j) : ints (Tk.byTo f (k + 1)) = (ints (Tk.byTo f k)).take j ++ ([(k : Int)] ++ (ints (Tk.byTo f k)).drop j) := by
  rw [Tk.byTo, hj]
  simp [ints, List.map_take, List.map_drop]

set_option maxHeartbeats 2000000 in
theorem rby_any (A : Option Addr) (n c : Nat) (ks : List Int) (w : World) (hln : ks.length = n) (hn : n ≤ 1000) (hK : NumsI w.heap.size w A ks) :
    Calls Try.prog 15 #[.slice A n c] w fun e w' => NumsBack (ints (Tk.byTo (fun i => ks.getD i 0) n)) w e w' := by
  have HK := Lib.hid hK
  have Hl := Lib.hid hln
  clear hK hln
  obtain ⟨f, hf⟩ : ∃ f : Nat → Int, (fun i => ks.getD i 0) = f := ⟨_, rfl⟩
  have Hf : Hid (∀ i, ks.getD i 0 = f i) := (fun i => by rw [← hf] : ∀ i, ks.getD i 0 = f i)
  rw [hf]
  clear hf
  go_enter Try.func15, Try.ntmps15
  go_wp2_with fail
  go_loopw [3, 4] (fun v i wr => ∃ (k : Nat) (X : Option Addr) (cx : Nat), k ≤ n ∧ i = .int .i64 k ∧ v = .slice X k cx ∧ k ≤ cx ∧ Hid (wr.ownsRow w.heap.size 3 1 (.slice X k cx) k (pcells (Tk.byTo f k))) ∧ Below w.heap.size w wr) (fun _ i _ => (n - intOf i).toNat)
  case atStart => exact ⟨0, none, 0, by omega, rfl, rfl, by omega, World.ownsRow_nil _ _ _ _, Below.refl _ _⟩
  case round =>
    obtain ⟨k, X, cx, hk, rfl, rfl, hkc, hown, hb⟩ := hrel
    have hcx2 : cx ≤ 9223372036854775807 := by
      obtain ⟨A, c, h1, -, h3⟩ := own_shape hown.out
      cases h1
      exact h3
    by_cases hlt : k < n
    · obtain ⟨ab, ao, rfl, hB, hcell⟩ := HK.out (by rw [Hl.out]; omega)
      have Hcell : Hid (∀ i, i < n → w.cell? ⟨ab, ao + i, none⟩ = some (.int .i64 (f i))) := (fun i hi => by rw [hcell i (by rw [Hl.out]; exact hi), Hf.out] : ∀ i, i < n → w.cell? ⟨ab, ao + i, none⟩ = some (.int .i64 (f i)))
      clear hcell
      have hk0 : (0 : Int) ≤ k := by omega
      have hkn : (k : Int) < n := by omega
      have Hown0 := hown
      have Hb0 := Lib.hid hb
      clear hown hb
      go_wp2_with fail
      obtain ⟨wo, rfl⟩ : ∃ wo : World, wo = wr := ⟨_, rfl⟩
      go_loopw [5] (fun u wr => ∃ j : Nat, j ≤ k ∧ u = .int .i64 j ∧ Hid (Tk.slotTo f (Tk.byTo f k) (f k) j = Tk.slot f (Tk.byTo f k) k) ∧ Hid (wr.ownsRow w.heap.size 3 1 (.slice X k cx) k (pcells (Tk.byTo f k))) ∧ Below w.heap.size w wr) (fun u _ => (intOf u).toNat)
      case atStart => exact ⟨k, by omega, rfl, (by rw [Tk.slot, Tk.byTo_len] : Tk.slotTo f (Tk.byTo f k) (f k) k = Tk.slot f (Tk.byTo f k) k), Hown0, Hb0.out⟩
      case round =>
        clear Hown0 Hb0
        obtain ⟨j, hj, rfl, hsl, hown, hb⟩ := hrel
        have hz := hb.size
        have HLl := Lib.hid (Tk.byTo_len f k)
        by_cases h0 : j = 0
        · subst h0
          have hslt := hsl.out.symm
          have Hslt := Lib.hid hslt
          clear hslt
          go_wp2_with fail
          refine wp_region_later wr.heap.size wr (by kernel_rfl) (by kernel_rfl) (Below.refl _ _) ?_
          repeat (go_big_quiet_step (fail))
          refine wpQuiet_nil ?_
          rintro w2 ⟨⟨_, hb2⟩, rfl⟩
          have hown2 := Lib.hid (own_call hown.out hb2)
          have hb3' := hb.trans (hb2.mono hz)
          clear hown hb hb2 hz
          obtain ⟨wr, rfl⟩ : ∃ wr : World, wr = w2 := ⟨_, rfl⟩
          have hown := hown2
          have hb := hb3'
          clear hown2 hb3'
          have hz := hb.size
          have hslt : Tk.slot f (Tk.byTo f k) k = 0 := Hslt.out
          replace hslt := Lib.hid hslt
          have R1 : Hid (Reads wr.heap.size wr X 0 cx ((ints (Tk.byTo f k)).take 0)) := reads_head hown.out
          have R3 : Hid (Reads wr.heap.size wr X k cx ((ints (Tk.byTo f k)).drop 0)) := reads_own hown.out
          go_wp2_with fail
          go_region_held3 (fun _ => True) (trivial) (first
                      | (refine step_ints ((wr.alloc (.cells #[] 3)).alloc (.cells #[.int .i64 (k : Int)] 3)).drew (by rfl) (.tmp 33) (.tmp 36) (by rfl) wr.heap.size (.slice (some ⟨wr.heap.size, 0, none⟩) 0 0) 0 [] (by rfl) (own_drew ((own_empty (Nat.le_refl _)).alloc _)) _ _ _ _ (by rfl) wr.heap.size (R1.out.below ((((Below.refl _ _).alloc (Nat.le_refl _) _).alloc (by simp) _).drew)) 0 (by omega) (by omega) (by simp; omega) ?_; intro A1 cap1 w1 X1 g1; have G1 := Lib.hid (((((Below.refl _ _).alloc (Nat.le_refl _) _).alloc (by simp) _).drew).grown g1 (by simp; omega) (fun k hk => by cases hk; exact Nat.le_refl _)); have K1 := Lib.hid (reads_far ((reads_one2 (w := wr) (o := (.cells #[] 3)) (k : Int) 3).below (Below.refl _ _).drew) g1 (by simp) (by simp [Value.ownBlock])); clear g1)
                      | (refine step_ints ((wr.alloc (.cells #[.int .i64 (k : Int)] 3)).alloc (.cells #[] 3)).drew (by rfl) (.tmp 33) (.tmp 36) (by rfl) wr.heap.size (.slice (some ⟨wr.heap.size + 1, 0, none⟩) 0 0) 0 [] (by rfl) (own_drew (own_empty2 (Nat.le_refl _))) _ _ _ _ (by rfl) wr.heap.size (R1.out.below ((((Below.refl _ _).alloc (Nat.le_refl _) _).alloc (by simp) _).drew)) 0 (by omega) (by omega) (by simp; omega) ?_; intro A1 cap1 w1 X1 g1; have G1 := Lib.hid (((((Below.refl _ _).alloc (Nat.le_refl _) _).alloc (by simp) _).drew).grown g1 (by simp; omega) (fun k hk => by cases hk; exact Nat.le_succ _)); have K1 := Lib.hid (reads_far (((reads_one (w := wr) (k : Int) 3).below ((Below.refl _ _).alloc (by simp) (.cells #[] 3))).below (Below.refl _ _).drew) g1 (by simp; omega) (by simp [Value.ownBlock])); clear g1)
                      | (refine step_ints (wr.alloc (.cells #[] 3)).drew (by rfl) (.tmp 33) (.tmp 36) (by rfl) wr.heap.size (.slice (some ⟨wr.heap.size, 0, none⟩) 0 0) 0 [] (by rfl) (own_drew (own_empty (Nat.le_refl _))) _ _ _ _ (by rfl) wr.heap.size (R1.out.below (((Below.refl _ _).alloc (Nat.le_refl _) _).drew)) 0 (by omega) (by omega) (by simp) ?_; intro A1 cap1 w1 X1 g1; have G1 := Lib.hid ((((Below.refl _ _).alloc (Nat.le_refl _) _).drew).grown g1 (by simp) (fun k hk => by cases hk; exact Nat.le_refl _)); clear g1)
                      | (refine step_ints w1 (by rfl) (.tmp 37) (.tmp 39) (by rfl) wr.heap.size (.slice A1 0 cap1) 0 _ (by rfl) X1 _ 1 1 [(k : Int)] (by rfl) _ K1.out (0 + 1) (by omega) (by omega) G1.out.size ?_; intro A2 cap2 w2 X2 g2; have G2 := Lib.hid (G1.out.grown g2 G1.out.size (fun k hk => (X1.lt k hk).1)); clear g2)
                      | (refine step_ints (w1.alloc (.cells #[.int .i64 (k : Int)] 3)) (by rfl) (.tmp 37) (.tmp 39) (by rfl) wr.heap.size (.slice A1 0 cap1) 0 _ (by rfl) (X1.alloc _) _ 1 1 [(k : Int)] (by rfl) _ (reads_one (k : Int) 3) (0 + 1) (by omega) (by omega) (size_kept (Nat.le_refl _) (G1.out.alloc G1.out.size _)) ?_; intro A2 cap2 w2 X2 g2; have G2 := Lib.hid ((G1.out.alloc G1.out.size _).grown g2 (size_kept (Nat.le_refl _) (G1.out.alloc G1.out.size _)) (fun k hk => (X1.lt k hk).1)); clear g2)
                      | (refine step_ints w2 (by rfl) (.tmp 40) (.tmp 43) (by rfl) wr.heap.size (.slice A2 (0 + 1) cap2) (0 + 1) _ (by rfl) X2 _ _ _ _ (by rfl) wr.heap.size (R3.out.below G2.out) (k + 1) (by omega) (by omega) G2.out.size ?_; intro A3 cap3 w3 X3 g3; have G3 := Lib.hid (G2.out.grown g3 G2.out.size (fun k hk => (X2.lt k hk).1)); clear g3))
          all_goals
            have hb3 : Below w.heap.size w w3 := hb.trans (G3.out.mono hz)
            have Ho : Hid (w3.ownsRow w.heap.size 3 1 (.slice A3 (k + 1) cap3) (k + 1) (pcells (Tk.byTo f (k + 1)))) := by
              have h1 := own_lower X3 hz
              rw [List.nil_append, List.append_assoc, ← ints_ins (j := 0) hslt.out] at h1
              exact h1
            have hcap := own_cap X3
            clear X3 X2 X1 G2 G1 R1 R3 hown hb
            try clear K1
            go_wp2
            go_roundw
            case rel => exact ⟨k + 1, A3, cap3, by omega, by go_num, rfl, hcap, Ho.out, hb3⟩
            case measure => simp [intOf]; omega
        · obtain ⟨m, rfl⟩ : ∃ m, j = m + 1 := ⟨j - 1, by omega⟩
          obtain ⟨g, hg⟩ : ∃ g, X = some ⟨g, 0, none⟩ := by
            obtain ⟨g, cap, h1, -⟩ := hown.out.form (by omega)
            cases h1
            exact ⟨g, rfl⟩
          subst hg
          have hgr := (hown.out.lt g rfl).2
          have hc0 := hown.out.cellAt m (by omega)
          rw [pcells_at (by rw [HLl.out]; omega)] at hc0
          have hyk := Tk.byTo_lt f k _ (show (Tk.byTo f k).getD m 0 ∈ Tk.byTo f k by
            rw [List.getD_eq_getElem?_getD, List.getElem?_eq_getElem (by rw [HLl.out]; omega)]
            exact List.getElem_mem _)
          have hst : Hid (Tk.slotTo f (Tk.byTo f k) (f k) (m + 1) = if f k < f ((Tk.byTo f k).getD m 0) then Tk.slotTo f (Tk.byTo f k) (f k) m else m + 1) := (rfl : Tk.slotTo f (Tk.byTo f k) (f k) (m + 1) = if f k < f ((Tk.byTo f k).getD m 0) then Tk.slotTo f (Tk.byTo f k) (f k) m else m + 1)
          obtain ⟨y, hy⟩ : ∃ y, (Tk.byTo f k).getD m 0 = y := ⟨_, rfl⟩
          rw [hy] at hc0 hyk hst
          clear hy
          have hcy := Hcell.out y (by omega)
          have hck := Hcell.out k (by omega)
          obtain ⟨hc, hf⟩ := old_cells hb
          rw [← hc _ _ hB] at hcy hck
          clear hc hf
          obtain ⟨u, hu⟩ : ∃ u, f y = u := ⟨_, rfl⟩
          obtain ⟨v, hv⟩ : ∃ v, f k = v := ⟨_, rfl⟩
          rw [hu] at hcy hst
          rw [hv] at hck
          have Hv := Lib.hid hv
          have Hst : Hid (Tk.slotTo f (Tk.byTo f k) (f k) (m + 1) = if v < u then Tk.slotTo f (Tk.byTo f k) (f k) m else m + 1) := (by rw [hst.out, hv] : Tk.slotTo f (Tk.byTo f k) (f k) (m + 1) = if v < u then Tk.slotTo f (Tk.byTo f k) (f k) m else m + 1)
          clear hu hv hst
          have hz1 : ab < wr.heap.size := by omega
          have hm0 : (0 : Int) ≤ m := by omega
          have hm2 : (m : Int) < k := by omega
          have hm3 : (0 : Int) ≤ (m : Int) + 1 := by omega
          have hm4 : (0 : Int) < (m : Int) + 1 := by omega
          have hy0 : (0 : Int) ≤ y := by omega
          have hyn : (y : Int) < n := by omega
          have hw1 : IntKind.i64.wrap ((m : Int) + 1 - 1) = m := by rw [IntWalk.i64_in _ (by omega)]; omega
          by_cases hvu : v < u
          · have hslm : Hid (Tk.slotTo f (Tk.byTo f k) (f k) m = Tk.slot f (Tk.byTo f k) k) := by
              have h1 := Hst.out
              rw [if_pos hvu] at h1
              show _ = _
              rw [← h1]
              exact hsl.out
            go_wp2_with fail
            refine wp_region_later wr.heap.size wr (by kernel_rfl) (by kernel_rfl) (Below.refl _ _) ?_
            repeat (go_big_quiet_step (fail))
            refine wpQuiet_nil ?_
            rintro _ ⟨n1, rfl⟩
            go_wp2
            go_roundw
            case rel => exact ⟨m, by omega, by go_num, hslm.out, own_call hown.out n1.below, hb.trans (n1.below.mono hz)⟩
            case measure => simp [intOf]
          · have hsd : decide (v < u) = false := by simp; omega
            have Hslt : Hid (Tk.slot f (Tk.byTo f k) k = m + 1) := by
              have h1 := Hst.out
              rw [if_neg hvu] at h1
              show _ = _
              rw [← h1]
              exact hsl.out.symm
            clear hvu
            go_wp2_with fail
            refine wp_region_later wr.heap.size wr (by kernel_rfl) (by kernel_rfl) (Below.refl _ _) ?_
            repeat (go_big_quiet_step (fail))
            refine wpQuiet_nil ?_
            rintro w2 ⟨⟨_, hb2⟩, rfl⟩
            have hown2 := Lib.hid (own_call hown.out hb2)
            have hb3' := hb.trans (hb2.mono hz)
            clear hown hb hb2 hz hc0 hcy hck hgr hz1
            obtain ⟨wr, rfl⟩ : ∃ wr : World, wr = w2 := ⟨_, rfl⟩
            have hown := hown2
            have hb := hb3'
            clear hown2 hb3'
            have hz := hb.size
            have hslt := Hslt
            have hmc3 : (m : Int) + 1 ≤ cx := by omega
            have hmk2 : (m : Int) + 1 ≤ k := by omega
            have R1 : Hid (Reads wr.heap.size wr (some ⟨g, 0, none⟩) (m + 1) cx ((ints (Tk.byTo f k)).take (m + 1))) := reads_take hown.out (by omega) _
            have R3 : Hid (Reads wr.heap.size wr (if cx = m + 1 then some ⟨g, 0, none⟩ else some ⟨g, m + 1, none⟩) (k - (m + 1)) (cx - (m + 1)) ((ints (Tk.byTo f k)).drop (m + 1))) := reads_cut hown.out (by omega)
            go_wp2_with fail
            go_region_held3 (fun _ => True) (trivial) (first
                          | (refine step_ints ((wr.alloc (.cells #[] 3)).alloc (.cells #[.int .i64 (k : Int)] 3)).drew (by rfl) (.tmp 33) (.tmp 36) (by rfl) wr.heap.size (.slice (some ⟨wr.heap.size, 0, none⟩) 0 0) 0 [] (by rfl) (own_drew ((own_empty (Nat.le_refl _)).alloc _)) _ _ _ _ (by rfl) wr.heap.size (R1.out.below ((((Below.refl _ _).alloc (Nat.le_refl _) _).alloc (by simp) _).drew)) (m + 1) (by omega) (by omega) (by simp; omega) ?_; intro A1 cap1 w1 X1 g1; have G1 := Lib.hid (((((Below.refl _ _).alloc (Nat.le_refl _) _).alloc (by simp) _).drew).grown g1 (by simp; omega) (fun k hk => by cases hk; exact Nat.le_refl _)); have K1 := Lib.hid (reads_far ((reads_one2 (w := wr) (o := (.cells #[] 3)) (k : Int) 3).below (Below.refl _ _).drew) g1 (by simp) (by simp [Value.ownBlock])); clear g1)
                          | (refine step_ints ((wr.alloc (.cells #[.int .i64 (k : Int)] 3)).alloc (.cells #[] 3)).drew (by rfl) (.tmp 33) (.tmp 36) (by rfl) wr.heap.size (.slice (some ⟨wr.heap.size + 1, 0, none⟩) 0 0) 0 [] (by rfl) (own_drew (own_empty2 (Nat.le_refl _))) _ _ _ _ (by rfl) wr.heap.size (R1.out.below ((((Below.refl _ _).alloc (Nat.le_refl _) _).alloc (by simp) _).drew)) (m + 1) (by omega) (by omega) (by simp; omega) ?_; intro A1 cap1 w1 X1 g1; have G1 := Lib.hid (((((Below.refl _ _).alloc (Nat.le_refl _) _).alloc (by simp) _).drew).grown g1 (by simp; omega) (fun k hk => by cases hk; exact Nat.le_succ _)); have K1 := Lib.hid (reads_far (((reads_one (w := wr) (k : Int) 3).below ((Below.refl _ _).alloc (by simp) (.cells #[] 3))).below (Below.refl _ _).drew) g1 (by simp; omega) (by simp [Value.ownBlock])); clear g1)
                          | (refine step_ints (wr.alloc (.cells #[] 3)).drew (by rfl) (.tmp 33) (.tmp 36) (by rfl) wr.heap.size (.slice (some ⟨wr.heap.size, 0, none⟩) 0 0) 0 [] (by rfl) (own_drew (own_empty (Nat.le_refl _))) _ _ _ _ (by rfl) wr.heap.size (R1.out.below (((Below.refl _ _).alloc (Nat.le_refl _) _).drew)) (m + 1) (by omega) (by omega) (by simp) ?_; intro A1 cap1 w1 X1 g1; have G1 := Lib.hid ((((Below.refl _ _).alloc (Nat.le_refl _) _).drew).grown g1 (by simp) (fun k hk => by cases hk; exact Nat.le_refl _)); clear g1)
                          | (refine step_ints w1 (by rfl) (.tmp 37) (.tmp 39) (by rfl) wr.heap.size (.slice A1 (m + 1) cap1) (m + 1) _ (by rfl) X1 _ 1 1 [(k : Int)] (by rfl) _ K1.out ((m + 1) + 1) (by omega) (by omega) G1.out.size ?_; intro A2 cap2 w2 X2 g2; have G2 := Lib.hid (G1.out.grown g2 G1.out.size (fun k hk => (X1.lt k hk).1)); clear g2)
                          | (refine step_ints (w1.alloc (.cells #[.int .i64 (k : Int)] 3)) (by rfl) (.tmp 37) (.tmp 39) (by rfl) wr.heap.size (.slice A1 (m + 1) cap1) (m + 1) _ (by rfl) (X1.alloc _) _ 1 1 [(k : Int)] (by rfl) _ (reads_one (k : Int) 3) ((m + 1) + 1) (by omega) (by omega) (size_kept (Nat.le_refl _) (G1.out.alloc G1.out.size _)) ?_; intro A2 cap2 w2 X2 g2; have G2 := Lib.hid ((G1.out.alloc G1.out.size _).grown g2 (size_kept (Nat.le_refl _) (G1.out.alloc G1.out.size _)) (fun k hk => (X1.lt k hk).1)); clear g2)
                          | (refine step_ints w2 (by rfl) (.tmp 40) (.tmp 43) (by rfl) wr.heap.size (.slice A2 ((m + 1) + 1) cap2) ((m + 1) + 1) _ (by rfl) X2 _ _ _ _ (by rfl) wr.heap.size (R3.out.below G2.out) (k + 1) (by omega) (by omega) G2.out.size ?_; intro A3 cap3 w3 X3 g3; have G3 := Lib.hid (G2.out.grown g3 G2.out.size (fun k hk => (X2.lt k hk).1)); clear g3))
            all_goals
              have hb3 : Below w.heap.size w w3 := hb.trans (G3.out.mono hz)
              have Ho : Hid (w3.ownsRow w.heap.size 3 1 (.slice A3 (k + 1) cap3) (k + 1) (pcells (Tk.byTo f (k + 1)))) := by
                have h1 := own_lower X3 hz
                rw [List.nil_append, List.append_assoc, ← ints_ins (j := m + 1) hslt.out] at h1
                exact h1
              have hcap := own_cap X3
              clear X3 X2 X1 G2 G1 R1 R3 hown hb
              try clear K1
              go_wp2
              go_roundw
              case rel => exact ⟨k + 1, A3, cap3, by omega, by go_num, rfl, hcap, Ho.out, hb3⟩
              case measure => simp [intOf]; omega
    · obtain rfl : n = k := by omega
      go_wp2
      go_ret
      exact nums_back hb (by simp [ints, Tk.byTo_len]) hown.out
end Go.Proofs.Ytnchlgdmpjemhaa
