/-
  The law TasksGrow answers true: its walk out of the contracts.
-/
import Derived.Test.YtnchlgdmpjemhaaTDemand
namespace Go.Proofs.Ytnchlgdmpjemhaa
open Go.ChangeShapes Go.WideShapes Go.ChangeAt Go.RowKit

/-- A list of tasks, as cells. -/
def tcells (l : List (Int × Int × Int)) : List Value := l.flatMap fun t => [.int .i64 t.1, .int .i64 t.2.1, .int .i64 t.2.2]
theorem tcells_len (l : List (Int × Int × Int)) : (tcells l).length = l.length * 3 := by
  induction l with
  | nil => rfl
  | cons a l ih => simp only [tcells, List.flatMap_cons, List.length_append, List.length_cons, List.length_nil] at *; omega
theorem tcells_two (l m : List (Int × Int × Int)) : tcells (l ++ m) = tcells l ++ tcells m := by simp [tcells]
theorem tcells_one (l : List (Int × Int × Int)) : ∀ u ∈ tcells l, u.oneCell' = true := fun u hu => by
  simp only [tcells, List.mem_flatMap, List.mem_cons, List.not_mem_nil, or_false] at hu
  obtain ⟨t, -, rfl | rfl | rfl⟩ := hu <;> rfl
theorem tcells_at : ∀ (l : List (Int × Int × Int)) (i : Nat), i < l.length → (tcells l)[i * 3]? = some (.int .i64 (l.getD i (0, 0, 0)).1) ∧ (tcells l)[i * 3 + 1]? = some (.int .i64 (l.getD i (0, 0, 0)).2.1) ∧ (tcells l)[i * 3 + 2]? = some (.int .i64 (l.getD i (0, 0, 0)).2.2)
  | [], i, h => by simp at h
  | a :: l, 0, _ => by simp [tcells]
  | a :: l, i + 1, h => by
    have := tcells_at l i (by simp at h; omega)
    have e1 : (i + 1) * 3 = i * 3 + 3 := by omega
    rw [e1]
    simpa [tcells] using this
/-- What the call owns reads as the list. -/
theorem Tks.own {w : World} {base : Nat} {A : Option Addr} {n c : Nat} {e : TypeId} {l : List (Int × Int × Int)} (h : w.ownsRow base e 3 (.slice A n c) n (tcells l)) : Tks w.heap.size w A l := fun hn => by
  have hl := h.1
  rw [tcells_len] at hl
  rcases h.2 with ⟨hv, h0⟩ | ⟨g, cap, cur, hv, _, hg, _⟩
  · omega
  · simp only [Value.slice.injEq, true_and] at hv
    obtain ⟨rfl, rfl⟩ := hv
    have hlt := (h.lt g rfl).2
    refine ⟨g, 0, rfl, hlt, fun i hi => ?_⟩
    have := tcells_at l i hi
    refine ⟨?_, ?_, ?_⟩
    · rw [Nat.zero_add, h.cellAt _ (by omega)]; exact this.1
    · rw [Nat.zero_add, h.cellAt _ (by omega)]; exact this.2.1
    · rw [Nat.zero_add, h.cellAt _ (by omega)]; exact this.2.2
/-- Its cells, to be appended. -/
theorem Tks.news {B : Nat} {w : World} {A : Option Addr} {l : List (Int × Int × Int)} (h : Tks B w A l) : ∀ ad, A = some ad → ∀ j u, (tcells l)[j]? = some u → w.cell? (ad.add j) = some u := fun ad e j u hu => by
  have hj : j < l.length * 3 := by
    rw [← tcells_len]
    exact (List.getElem?_eq_some_iff.1 hu).1
  obtain ⟨b, o, e2, -, hc⟩ := h (by omega)
  rw [e2] at e
  cases e
  rw [add_off]
  obtain ⟨i, r, hr, rfl⟩ : ∃ i r, r < 3 ∧ j = i * 3 + r := ⟨j / 3, j % 3, by omega, by omega⟩
  have hi : i < l.length := by omega
  have h1 := hc i hi
  have h2 := tcells_at l i hi
  match r, hr with
  | 0, _ => rw [Nat.add_zero, h2.1] at hu; rw [← hu, ← h1.1]; rfl
  | 1, _ => rw [h2.2.1] at hu; rw [← hu, ← h1.2.1]; rfl
  | 2, _ => rw [h2.2.2] at hu; rw [← hu, ← h1.2.2]; rfl
theorem info_task : (Try.prog.info? 24).map (fun i => (i.zero, i.size, i.bytes)) = some (some (.agg #[.int .i64 0, .int .i64 0, .int .i64 0]), 3, 24) := by kernel_rfl

/-- Where the demand grows its points end. -/
theorem pts_end {l : List (Int × Int × Int)} (h : ∀ t ∈ l, Tk.rt t = true) {t : Int} {r : Nat} (hl : (Tk.pts l (t + 1)).length = r + 1) : (Tk.pts l (t + 1)).getD r 0 = t + 1 ↔ Tk.isPt l (t + 1) = true := by
  have hr : r < (Tk.pts l (t + 1)).length := by omega
  have e : (Tk.pts l (t + 1)).getD r 0 = (Tk.pts l (t + 1))[r] := by rw [List.getD_eq_getElem?_getD, List.getElem?_eq_getElem hr]; rfl
  have hmem : (Tk.pts l (t + 1)).getD r 0 ∈ Tk.pts l (t + 1) := by
    rw [e]
    exact List.getElem_mem hr
  constructor
  · intro h1
    rw [h1] at hmem
    exact ((Tk.pts_mem h).1 hmem).1
  · intro h1
    have h2 : t + 1 ∈ Tk.pts l (t + 1) := (Tk.pts_mem h).2 ⟨h1, by omega⟩
    have h3 := ((Tk.pts_mem h).1 hmem).2
    have e2 : Tk.pts l (t + 1) = (Tk.pts l (t + 1)).take r ++ [(Tk.pts l (t + 1))[r]] := by
      rw [← List.take_succ_eq_append_getElem hr, List.take_of_length_le (by omega)]
    rw [e2, List.mem_append, List.mem_singleton] at h2
    rcases h2 with h2 | h2
    · have := Tk.rising_take (Tk.pts_are h (t + 1)).1 hr _ h2
      omega
    · rw [e]
      exact h2.symm
theorem pts_some {l : List (Int × Int × Int)} (h : ∀ t ∈ l, Tk.rt t = true) {t : Int} (hp : Tk.isPt l (t + 1) = true) : (Tk.pts l (t + 1)).length ≠ 0 := fun h0 => by
  have h2 : t + 1 ∈ Tk.pts l (t + 1) := (Tk.pts_mem h).2 ⟨hp, by omega⟩
  rw [List.eq_nil_of_length_eq_zero h0] at h2
  simp at h2
theorem spans_mk {l : List (Int × Int × Int)} {t : Int} (h : Tk.all l = true) (h0 : 0 ≤ t) (h1 : t ≤ 1048576) : Tk.spans l t = true := by simp [Tk.spans, h, h0, h1]

set_option maxHeartbeats 4000000 in
theorem grow_any (A A2 : Option Addr) (n m c c2 : Nat) (l m' : List (Int × Int × Int)) (x : Int) (w : World) (hln : l.length = n) (hmn : m'.length = m) (hL : Tks w.heap.size w A l) (hM : Tks w.heap.size w A2 m') (hA : A = none → n = 0 ∧ c = 0) (hA2 : A2 = none → m = 0 ∧ c2 = 0) (hx0 : 0 ≤ x) (hx1 : x < 65536) :
    Calls Try.prog 5 #[.slice A n c, .slice A2 m c2, .int .u16 x] w fun e w' => e = .returned (.bool true) ∧ Below w.heap.size w w' := by
  have T0 := Lib.hid hL
  have M0 := Lib.hid hM
  have Hl := Lib.hid hln
  have Hm := Lib.hid hmn
  have HA := Lib.hid hA
  have HA2 := Lib.hid hA2
  have B0 : Hid (Below w.heap.size w w) := (Below.refl _ _ : Below w.heap.size w w)
  clear hL hM hln hmn hA hA2
  by_cases hb1 : n ≤ 4
  · have hd1 : decide ((4 : Int) < (n : Int)) = false := by simp; omega
    by_cases hb2 : m ≤ 4
    · have hd2 : decide ((4 : Int) < (m : Int)) = false := by simp; omega
      have CAl : Hid (∀ w : World, Tks w.heap.size w A l → _) := fun w h => trall_any A n c l w Hl.out (by omega) h
      have CAm : Hid (∀ w : World, Tks w.heap.size w A2 m' → _) := fun w h => trall_any A2 m c2 m' w Hm.out (by omega) h
      cases hal : Tk.all l with
      | false =>
        rw [hal] at CAl
        clear hal
        go_enter Try.func5, Try.ntmps5
        go_wp2_with fail
        refine (CAl.out _ T0.out).mono ?_
        rintro e w1 ⟨rfl, hb1⟩
        have B1 := Lib.hid hb1
        clear hb1
        go_wp2_with fail
        refine (tawake_any _).mono ?_
        rintro e w2 ⟨rfl, hb2⟩
        go_wp2
        go_ret
        exact ⟨rfl, below_call (Nat.le_refl _) B1.out hb2⟩
      | true =>
        have Hall := Lib.hid hal
        rw [hal] at CAl
        cases ham : Tk.all m' with
        | false =>
          rw [ham] at CAm
          clear hal ham
          go_enter Try.func5, Try.ntmps5
          go_wp2_with fail
          refine (CAl.out _ T0.out).mono ?_
          rintro e w1 ⟨rfl, hb1⟩
          have B1 := Lib.hid hb1
          have M1 := Lib.hid (M0.out.later hb1)
          clear hb1
          go_wp2_with fail
          refine (CAm.out _ M1.out).mono ?_
          rintro e w2 ⟨rfl, hb2⟩
          have B2 := Lib.hid (below_call (Nat.le_refl _) B1.out hb2)
          clear hb2
          go_wp2_with fail
          refine (tawake_any _).mono ?_
          rintro e w3 ⟨rfl, hb3⟩
          go_wp2
          go_ret
          exact ⟨rfl, below_call (Nat.le_refl _) B2.out hb3⟩
        | true =>
          have Ham := Lib.hid ham
          rw [ham] at CAm
          have Hmem : Hid (∀ t ∈ l, Tk.rt t = true) := (Tk.all_mem hal : ∀ t ∈ l, Tk.rt t = true)
          have hmm := Tk.all_mem ham
          have hboth := Tk.all_two hal ham (by rw [Hl.out]; exact hb1) (by rw [Hm.out]; exact hb2)
          obtain ⟨t, ht⟩ : ∃ t, x % 2000 = t := ⟨_, rfl⟩
          have ht0 : 0 ≤ t := by omega
          have ht1 : t < 2000 := by omega
          have hs0 := spans_mk hal ht0 (by omega)
          have hs1 := spans_mk (t := t + 1) hal (by omega) (by omega)
          have hsm := spans_mk ham ht0 (by omega)
          have hs2 := spans_mk hboth ht0 (by omega)
          have CP0 : Hid (∀ w : World, Tks w.heap.size w A l → _) := fun w h => points_any A n c l (t + 1) w Hl.out h
          have CD : Hid (∀ w : World, Tks w.heap.size w A l → _) := fun w h => demand_any A n c l t w Hl.out h
          have CD1 : Hid (∀ w : World, Tks w.heap.size w A l → _) := fun w h => demand_any A n c l (t + 1) w Hl.out h
          have CR : Hid (∀ w : World, Tks w.heap.size w A l → _) := fun w h => request_any A n c l t w Hl.out h
          have CmD : Hid (∀ w : World, Tks w.heap.size w A2 m' → _) := fun w h => demand_any A2 m c2 m' t w Hm.out h
          have CmR : Hid (∀ w : World, Tks w.heap.size w A2 m' → _) := fun w h => request_any A2 m c2 m' t w Hm.out h
          have ALLD : Hid (∀ (A : Option Addr) (c : Nat) (w : World), Tks w.heap.size w A (l ++ m') → _) := fun A c w h => demand_any A (n + m) c (l ++ m') t w (by rw [List.length_append, Hl.out, Hm.out]) h
          have ALLR : Hid (∀ (A : Option Addr) (c : Nat) (w : World), Tks w.heap.size w A (l ++ m') → _) := fun A c w h => request_any A (n + m) c (l ++ m') t w (by rw [List.length_append, Hl.out, Hm.out]) h
          rw [ptsAns_yes hs1] at CP0
          rw [demAns_yes hs0] at CD
          rw [demAns_yes hs1] at CD1
          rw [reqAns_yes hs0] at CR
          rw [demAns_yes hsm] at CmD
          rw [reqAns_yes hsm] at CmR
          rw [demAns_yes hs2, Tk.dem_two] at ALLD
          rw [reqAns_yes hs2, Tk.req_two] at ALLR
          have hgr := (Tk.dem_succ (n := t) Hmem.out).2
          have hle := Tk.dem_le_req (n := t) ht0 Hmem.out
          have hbd0 := Tk.dem_bd (n := t) (l := l) (by rw [Hl.out]; omega) Hmem.out (by omega)
          have hbd1 := Tk.dem_bd (n := t) (l := m') (by rw [Hm.out]; omega) hmm (by omega)
          have hbd2 := Tk.req_bd (n := t) (l := l) (by rw [Hl.out]; omega) Hmem.out ht0 (by omega)
          have hbd3 := Tk.req_bd (n := t) (l := m') (by rw [Hm.out]; omega) hmm ht0 (by omega)
          have hsome := pts_some (t := t) Hmem.out
          have hend : ∀ r, (Tk.pts l (t + 1)).length = r + 1 → ((Tk.pts l (t + 1)).getD r 0 = t + 1 ↔ Tk.isPt l (t + 1) = true) := fun r h => pts_end Hmem.out h
          have hplen := Tk.pts_len l (t + 1)
          obtain ⟨L, hLe⟩ : ∃ L, Tk.pts l (t + 1) = L := ⟨_, rfl⟩
          obtain ⟨y, hy⟩ : ∃ y, Tk.dem l t = y := ⟨_, rfl⟩
          obtain ⟨y1, hy1⟩ : ∃ y, Tk.dem l (t + 1) = y := ⟨_, rfl⟩
          obtain ⟨z, hz⟩ : ∃ y, Tk.req l t = y := ⟨_, rfl⟩
          obtain ⟨ym, hym⟩ : ∃ y, Tk.dem m' t = y := ⟨_, rfl⟩
          obtain ⟨zm, hzm⟩ : ∃ y, Tk.req m' t = y := ⟨_, rfl⟩
          obtain ⟨k, hk⟩ : ∃ k, L.length = k := ⟨_, rfl⟩
          rw [hLe] at CP0 hsome hend hplen
          rw [hk] at hsome hplen
          rw [hy] at CD ALLD hgr hle hbd0
          rw [hy1] at CD1 hgr
          rw [hz] at CR ALLR hle hbd2
          rw [hym] at CmD ALLD hbd1
          rw [hzm] at CmR ALLR hbd3
          have HL := Lib.hid hk
          have Hend := Lib.hid hend
          have CP : Hid (∀ w : World, Tks w.heap.size w A l → Calls Try.prog 21 #[.slice A n c, .int .i64 (t + 1)] w fun e w' => ∃ X cx, e = .returned (.slice X k cx) ∧ k ≤ cx ∧ NumsI w'.heap.size w' X L ∧ Below w.heap.size w w') := fun w h => by
            rw [← HL.out]
            exact CP0.out w h
          clear hLe hy hy1 hz hym hzm hk hal ham hboth hs0 hs1 hsm hs2 hmm hend CP0
          have hyy : (y + ym == y + ym) = true := by simp
          have hzz : (z + zm == z + zm) = true := by simp
          have hdle : decide (y ≤ z) = true := by simp; omega
          obtain ⟨i0, hi, hz0, hz1, hz2⟩ := info_parts info_task
          cases hpt : Tk.isPt l (t + 1) with
          | true =>
            have hlt : y < y1 := hgr.2 hpt
            have hlt2 : decide (y < y1) = true := by simp; omega
            obtain ⟨r, hr⟩ : ∃ r, k = r + 1 := ⟨k - 1, by have := hsome hpt; omega⟩
            subst hr
            have hrr : L.getD r 0 = t + 1 := (Hend.out r HL.out).2 hpt
            have hw1 : IntKind.i64.wrap ((r : Int) + 1 - 1) = r := by rw [IntWalk.i64_in _ (by omega)]; omega
            have hr0 : (0 : Int) ≤ r := by omega
            have hrk : (r : Int) < (r : Int) + 1 := by omega
            have htt : (t + 1 == t + 1) = true := by simp
            have Hrr := Lib.hid hrr
            clear hpt hgr hsome hrr
            go_enter Try.func5, Try.ntmps5
            go_wp2_with fail
            refine (CAl.out _ T0.out).mono ?_
            rintro e w1 ⟨rfl, hb1⟩
            have B1 := Lib.hid (below_call (Nat.le_refl _) B0.out hb1)
            have T1 := Lib.hid (T0.out.later hb1)
            have M1 := Lib.hid (M0.out.later hb1)
            clear hb1
            go_wp2_with fail
            refine (CAm.out _ M1.out).mono ?_
            rintro e w2 ⟨rfl, hb2⟩
            have B2 := Lib.hid (below_call (Nat.le_refl _) B1.out hb2)
            have T2 := Lib.hid (T1.out.later hb2)
            have M2 := Lib.hid (M1.out.later hb2)
            clear hb2
            go_wp2_with fail
            refine (CP.out _ T2.out).mono ?_
            rintro e w3 ⟨X, cx, rfl, hcx, hX, hb3⟩
            have B3 := Lib.hid (below_call (Nat.le_refl _) B2.out hb3)
            have T3 := Lib.hid (T2.out.later hb3)
            have M3 := Lib.hid (M2.out.later hb3)
            have X3 := Lib.hid hX
            clear hb3 hX
            go_wp2_with fail
            refine (CD.out _ T3.out).mono ?_
            rintro e w4 ⟨rfl, hb4⟩
            have B4 := Lib.hid (below_call (Nat.le_refl _) B3.out hb4)
            have T4 := Lib.hid (T3.out.later hb4)
            have M4 := Lib.hid (M3.out.later hb4)
            have X4 := Lib.hid (X3.out.later hb4)
            clear hb4
            go_wp2_with fail
            refine (CD1.out _ T4.out).mono ?_
            rintro e w5 ⟨rfl, hb5⟩
            have B5 := Lib.hid (below_call (Nat.le_refl _) B4.out hb5)
            have T5 := Lib.hid (T4.out.later hb5)
            have M5 := Lib.hid (M4.out.later hb5)
            have X5 := Lib.hid (X4.out.later hb5)
            clear hb5
            obtain ⟨xb, xo, hXa, hxb, hxc⟩ := X5.out (by rw [HL.out]; omega)
            subst hXa
            have hcell := hxc r (by rw [HL.out]; omega)
            rw [Hrr.out] at hcell
            have hxlt : xb < w5.heap.size := hxb
            clear hxc
            go_wp2_with (first
              | (at_builtin; refine wpList_append_to (w5.alloc (.cells #[] 24)) rfl (.tmp 60) (.tmp 61) 22 rfl w5.heap.size 24 i0 (.agg #[.int .i64 0, .int .i64 0, .int .i64 0]) 3 24 Try.underlying22 hi hz0 hz1 hz2 rfl (by decide) (.slice (some ⟨w5.heap.size, 0, none⟩) 0 0) 0 [] rfl (own_empty (Nat.le_refl _)) A n c (tcells l) rfl HA.out (by rw [tcells_len, Hl.out]) ((T5.out.below ((Below.refl _ _).alloc (Nat.le_refl _) _)).news) (tcells_one l) (by unfold maxLen; omega) (by omega) (by simp) n (by omega) ?_; intro A6 c6 w6 O6 g6; have B6 := Lib.hid ((B5.out.alloc B5.out.size _).grown g6 (by have := B5.out.size; simp; omega) (fun k hk => by cases hk; exact B5.out.size)); have G6 := Lib.hid (((Below.refl w5.heap.size w5).alloc (Nat.le_refl _) _).grown g6 (by simp) (fun k hk => by cases hk; exact Nat.le_refl _)); have P6 := Lib.hid O6; clear O6 g6)
              | (at_builtin; refine wpList_append_to w6 rfl (.tmp 62) (.tmp 63) 22 rfl w5.heap.size 24 i0 (.agg #[.int .i64 0, .int .i64 0, .int .i64 0]) 3 24 Try.underlying22 hi hz0 hz1 hz2 rfl (by decide) (.slice A6 n c6) n ([] ++ tcells l) rfl P6.out A2 m c2 (tcells m') rfl HA2.out (by rw [tcells_len, Hm.out]) ((M5.out.below G6.out).news) (tcells_one m') (by unfold maxLen; omega) (by omega) G6.out.size (n + m) rfl ?_; intro A7 c7 w7 O7 g7; have B7 := Lib.hid (B6.out.grown g7 B6.out.size (fun k hk => Nat.le_trans B5.out.size (P6.out.lt k hk).1)); have G7 := Lib.hid (G6.out.grown g7 G6.out.size (fun k hk => (P6.out.lt k hk).1)); have P7 := Lib.hid O7; clear O7 g7))
            have T7 := Lib.hid (T5.out.later G7.out)
            have M7 := Lib.hid (M5.out.later G7.out)
            have R7 : Hid (Tks w7.heap.size w7 A7 (l ++ m')) := Tks.own (by have h1 := P7.out; rw [List.nil_append, ← tcells_two] at h1; exact h1)
            have C7D : Hid (∀ w : World, Tks w.heap.size w A7 (l ++ m') → _) := fun w h => ALLD.out A7 c7 w h
            have C7R : Hid (∀ w : World, Tks w.heap.size w A7 (l ++ m') → _) := fun w h => ALLR.out A7 c7 w h
            go_wp2_with fail
            refine (CD.out _ T7.out).mono ?_
            rintro e w8 ⟨rfl, hb8⟩
            have B8 := Lib.hid (below_call (Nat.le_refl _) B7.out hb8)
            have T8 := Lib.hid (T7.out.later hb8)
            have M8 := Lib.hid (M7.out.later hb8)
            have R8 := Lib.hid (R7.out.later hb8)
            clear hb8
            go_wp2_with fail
            refine (CR.out _ T8.out).mono ?_
            rintro e w9 ⟨rfl, hb9⟩
            have B9 := Lib.hid (below_call (Nat.le_refl _) B8.out hb9)
            have T9 := Lib.hid (T8.out.later hb9)
            have M9 := Lib.hid (M8.out.later hb9)
            have R9 := Lib.hid (R8.out.later hb9)
            clear hb9
            go_wp2_with fail
            refine (C7D.out _ R9.out).mono ?_
            rintro e w10 ⟨rfl, hb10⟩
            have B10 := Lib.hid (below_call (Nat.le_refl _) B9.out hb10)
            have T10 := Lib.hid (T9.out.later hb10)
            have M10 := Lib.hid (M9.out.later hb10)
            have R10 := Lib.hid (R9.out.later hb10)
            clear hb10
            go_wp2_with fail
            refine (CD.out _ T10.out).mono ?_
            rintro e w11 ⟨rfl, hb11⟩
            have B11 := Lib.hid (below_call (Nat.le_refl _) B10.out hb11)
            have T11 := Lib.hid (T10.out.later hb11)
            have M11 := Lib.hid (M10.out.later hb11)
            have R11 := Lib.hid (R10.out.later hb11)
            clear hb11
            go_wp2_with fail
            refine (CmD.out _ M11.out).mono ?_
            rintro e w12 ⟨rfl, hb12⟩
            have B12 := Lib.hid (below_call (Nat.le_refl _) B11.out hb12)
            have T12 := Lib.hid (T11.out.later hb12)
            have M12 := Lib.hid (M11.out.later hb12)
            have R12 := Lib.hid (R11.out.later hb12)
            clear hb12
            go_wp2_with fail
            refine (C7R.out _ R12.out).mono ?_
            rintro e w13 ⟨rfl, hb13⟩
            have B13 := Lib.hid (below_call (Nat.le_refl _) B12.out hb13)
            have T13 := Lib.hid (T12.out.later hb13)
            have M13 := Lib.hid (M12.out.later hb13)
            have R13 := Lib.hid (R12.out.later hb13)
            clear hb13
            go_wp2_with fail
            refine (CR.out _ T13.out).mono ?_
            rintro e w14 ⟨rfl, hb14⟩
            have B14 := Lib.hid (below_call (Nat.le_refl _) B13.out hb14)
            have M14 := Lib.hid (M13.out.later hb14)
            clear hb14
            go_wp2_with fail
            refine (CmR.out _ M14.out).mono ?_
            rintro e w15 ⟨rfl, hb15⟩
            have B15 := Lib.hid (below_call (Nat.le_refl _) B14.out hb15)
            clear hb15
            go_wp2_with fail
            refine (tawake_any _).mono ?_
            rintro e w16 ⟨rfl, hb16⟩
            go_wp2
            go_ret
            exact ⟨rfl, below_call (Nat.le_refl _) B15.out hb16⟩
          | false =>
            have hnlt : ¬ y < y1 := fun h => by have := hgr.1 h; rw [hpt] at this; cases this
            have hlt2 : decide (y < y1) = false := by simp; omega
            by_cases hk0 : k = 0
            · subst hk0
              clear hpt hgr hsome
              go_enter Try.func5, Try.ntmps5
              go_wp2_with fail
              refine (CAl.out _ T0.out).mono ?_
              rintro e w1 ⟨rfl, hb1⟩
              have B1 := Lib.hid (below_call (Nat.le_refl _) B0.out hb1)
              have T1 := Lib.hid (T0.out.later hb1)
              have M1 := Lib.hid (M0.out.later hb1)
              clear hb1
              go_wp2_with fail
              refine (CAm.out _ M1.out).mono ?_
              rintro e w2 ⟨rfl, hb2⟩
              have B2 := Lib.hid (below_call (Nat.le_refl _) B1.out hb2)
              have T2 := Lib.hid (T1.out.later hb2)
              have M2 := Lib.hid (M1.out.later hb2)
              clear hb2
              go_wp2_with fail
              refine (CP.out _ T2.out).mono ?_
              rintro e w3 ⟨X, cx, rfl, hcx, hX, hb3⟩
              have B3 := Lib.hid (below_call (Nat.le_refl _) B2.out hb3)
              have T3 := Lib.hid (T2.out.later hb3)
              have M3 := Lib.hid (M2.out.later hb3)
              have X3 := Lib.hid hX
              clear hb3 hX
              go_wp2_with fail
              refine (CD.out _ T3.out).mono ?_
              rintro e w4 ⟨rfl, hb4⟩
              have B4 := Lib.hid (below_call (Nat.le_refl _) B3.out hb4)
              have T4 := Lib.hid (T3.out.later hb4)
              have M4 := Lib.hid (M3.out.later hb4)
              have X4 := Lib.hid (X3.out.later hb4)
              clear hb4
              go_wp2_with fail
              refine (CD1.out _ T4.out).mono ?_
              rintro e w5 ⟨rfl, hb5⟩
              have B5 := Lib.hid (below_call (Nat.le_refl _) B4.out hb5)
              have T5 := Lib.hid (T4.out.later hb5)
              have M5 := Lib.hid (M4.out.later hb5)
              have X5 := Lib.hid (X4.out.later hb5)
              clear hb5
              go_wp2_with (first
                | (at_builtin; refine wpList_append_to (w5.alloc (.cells #[] 24)) rfl (.tmp 60) (.tmp 61) 22 rfl w5.heap.size 24 i0 (.agg #[.int .i64 0, .int .i64 0, .int .i64 0]) 3 24 Try.underlying22 hi hz0 hz1 hz2 rfl (by decide) (.slice (some ⟨w5.heap.size, 0, none⟩) 0 0) 0 [] rfl (own_empty (Nat.le_refl _)) A n c (tcells l) rfl HA.out (by rw [tcells_len, Hl.out]) ((T5.out.below ((Below.refl _ _).alloc (Nat.le_refl _) _)).news) (tcells_one l) (by unfold maxLen; omega) (by omega) (by simp) n (by omega) ?_; intro A6 c6 w6 O6 g6; have B6 := Lib.hid ((B5.out.alloc B5.out.size _).grown g6 (by have := B5.out.size; simp; omega) (fun k hk => by cases hk; exact B5.out.size)); have G6 := Lib.hid (((Below.refl w5.heap.size w5).alloc (Nat.le_refl _) _).grown g6 (by simp) (fun k hk => by cases hk; exact Nat.le_refl _)); have P6 := Lib.hid O6; clear O6 g6)
                | (at_builtin; refine wpList_append_to w6 rfl (.tmp 62) (.tmp 63) 22 rfl w5.heap.size 24 i0 (.agg #[.int .i64 0, .int .i64 0, .int .i64 0]) 3 24 Try.underlying22 hi hz0 hz1 hz2 rfl (by decide) (.slice A6 n c6) n ([] ++ tcells l) rfl P6.out A2 m c2 (tcells m') rfl HA2.out (by rw [tcells_len, Hm.out]) ((M5.out.below G6.out).news) (tcells_one m') (by unfold maxLen; omega) (by omega) G6.out.size (n + m) rfl ?_; intro A7 c7 w7 O7 g7; have B7 := Lib.hid (B6.out.grown g7 B6.out.size (fun k hk => Nat.le_trans B5.out.size (P6.out.lt k hk).1)); have G7 := Lib.hid (G6.out.grown g7 G6.out.size (fun k hk => (P6.out.lt k hk).1)); have P7 := Lib.hid O7; clear O7 g7))
              have T7 := Lib.hid (T5.out.later G7.out)
              have M7 := Lib.hid (M5.out.later G7.out)
              have R7 : Hid (Tks w7.heap.size w7 A7 (l ++ m')) := Tks.own (by have h1 := P7.out; rw [List.nil_append, ← tcells_two] at h1; exact h1)
              have C7D : Hid (∀ w : World, Tks w.heap.size w A7 (l ++ m') → _) := fun w h => ALLD.out A7 c7 w h
              have C7R : Hid (∀ w : World, Tks w.heap.size w A7 (l ++ m') → _) := fun w h => ALLR.out A7 c7 w h
              go_wp2_with fail
              refine (CD.out _ T7.out).mono ?_
              rintro e w8 ⟨rfl, hb8⟩
              have B8 := Lib.hid (below_call (Nat.le_refl _) B7.out hb8)
              have T8 := Lib.hid (T7.out.later hb8)
              have M8 := Lib.hid (M7.out.later hb8)
              have R8 := Lib.hid (R7.out.later hb8)
              clear hb8
              go_wp2_with fail
              refine (CR.out _ T8.out).mono ?_
              rintro e w9 ⟨rfl, hb9⟩
              have B9 := Lib.hid (below_call (Nat.le_refl _) B8.out hb9)
              have T9 := Lib.hid (T8.out.later hb9)
              have M9 := Lib.hid (M8.out.later hb9)
              have R9 := Lib.hid (R8.out.later hb9)
              clear hb9
              go_wp2_with fail
              refine (C7D.out _ R9.out).mono ?_
              rintro e w10 ⟨rfl, hb10⟩
              have B10 := Lib.hid (below_call (Nat.le_refl _) B9.out hb10)
              have T10 := Lib.hid (T9.out.later hb10)
              have M10 := Lib.hid (M9.out.later hb10)
              have R10 := Lib.hid (R9.out.later hb10)
              clear hb10
              go_wp2_with fail
              refine (CD.out _ T10.out).mono ?_
              rintro e w11 ⟨rfl, hb11⟩
              have B11 := Lib.hid (below_call (Nat.le_refl _) B10.out hb11)
              have T11 := Lib.hid (T10.out.later hb11)
              have M11 := Lib.hid (M10.out.later hb11)
              have R11 := Lib.hid (R10.out.later hb11)
              clear hb11
              go_wp2_with fail
              refine (CmD.out _ M11.out).mono ?_
              rintro e w12 ⟨rfl, hb12⟩
              have B12 := Lib.hid (below_call (Nat.le_refl _) B11.out hb12)
              have T12 := Lib.hid (T11.out.later hb12)
              have M12 := Lib.hid (M11.out.later hb12)
              have R12 := Lib.hid (R11.out.later hb12)
              clear hb12
              go_wp2_with fail
              refine (C7R.out _ R12.out).mono ?_
              rintro e w13 ⟨rfl, hb13⟩
              have B13 := Lib.hid (below_call (Nat.le_refl _) B12.out hb13)
              have T13 := Lib.hid (T12.out.later hb13)
              have M13 := Lib.hid (M12.out.later hb13)
              have R13 := Lib.hid (R12.out.later hb13)
              clear hb13
              go_wp2_with fail
              refine (CR.out _ T13.out).mono ?_
              rintro e w14 ⟨rfl, hb14⟩
              have B14 := Lib.hid (below_call (Nat.le_refl _) B13.out hb14)
              have M14 := Lib.hid (M13.out.later hb14)
              clear hb14
              go_wp2_with fail
              refine (CmR.out _ M14.out).mono ?_
              rintro e w15 ⟨rfl, hb15⟩
              have B15 := Lib.hid (below_call (Nat.le_refl _) B14.out hb15)
              clear hb15
              go_wp2_with fail
              refine (tawake_any _).mono ?_
              rintro e w16 ⟨rfl, hb16⟩
              go_wp2
              go_ret
              exact ⟨rfl, below_call (Nat.le_refl _) B15.out hb16⟩
            · obtain ⟨r, hr⟩ : ∃ r, k = r + 1 := ⟨k - 1, by omega⟩
              subst hr
              have hrr : L.getD r 0 ≠ t + 1 := fun h => by have := (Hend.out r HL.out).1 h; rw [hpt] at this; cases this
              obtain ⟨v, hv⟩ : ∃ v, L.getD r 0 = v := ⟨_, rfl⟩
              rw [hv] at hrr
              have hw1 : IntKind.i64.wrap ((r : Int) + 1 - 1) = r := by rw [IntWalk.i64_in _ (by omega)]; omega
              have hr0 : (0 : Int) ≤ r := by omega
              have hrk : (r : Int) < (r : Int) + 1 := by omega
              have htt : (v == t + 1) = false := by simp [hrr]
              have Hrr := Lib.hid hv
              clear hpt hgr hsome hrr hv hk0
              go_enter Try.func5, Try.ntmps5
              go_wp2_with fail
              refine (CAl.out _ T0.out).mono ?_
              rintro e w1 ⟨rfl, hb1⟩
              have B1 := Lib.hid (below_call (Nat.le_refl _) B0.out hb1)
              have T1 := Lib.hid (T0.out.later hb1)
              have M1 := Lib.hid (M0.out.later hb1)
              clear hb1
              go_wp2_with fail
              refine (CAm.out _ M1.out).mono ?_
              rintro e w2 ⟨rfl, hb2⟩
              have B2 := Lib.hid (below_call (Nat.le_refl _) B1.out hb2)
              have T2 := Lib.hid (T1.out.later hb2)
              have M2 := Lib.hid (M1.out.later hb2)
              clear hb2
              go_wp2_with fail
              refine (CP.out _ T2.out).mono ?_
              rintro e w3 ⟨X, cx, rfl, hcx, hX, hb3⟩
              have B3 := Lib.hid (below_call (Nat.le_refl _) B2.out hb3)
              have T3 := Lib.hid (T2.out.later hb3)
              have M3 := Lib.hid (M2.out.later hb3)
              have X3 := Lib.hid hX
              clear hb3 hX
              go_wp2_with fail
              refine (CD.out _ T3.out).mono ?_
              rintro e w4 ⟨rfl, hb4⟩
              have B4 := Lib.hid (below_call (Nat.le_refl _) B3.out hb4)
              have T4 := Lib.hid (T3.out.later hb4)
              have M4 := Lib.hid (M3.out.later hb4)
              have X4 := Lib.hid (X3.out.later hb4)
              clear hb4
              go_wp2_with fail
              refine (CD1.out _ T4.out).mono ?_
              rintro e w5 ⟨rfl, hb5⟩
              have B5 := Lib.hid (below_call (Nat.le_refl _) B4.out hb5)
              have T5 := Lib.hid (T4.out.later hb5)
              have M5 := Lib.hid (M4.out.later hb5)
              have X5 := Lib.hid (X4.out.later hb5)
              clear hb5
              obtain ⟨xb, xo, hXa, hxb, hxc⟩ := X5.out (by rw [HL.out]; omega)
              subst hXa
              have hcell := hxc r (by rw [HL.out]; omega)
              rw [Hrr.out] at hcell
              have hxlt : xb < w5.heap.size := hxb
              clear hxc
              go_wp2_with (first
                | (at_builtin; refine wpList_append_to (w5.alloc (.cells #[] 24)) rfl (.tmp 60) (.tmp 61) 22 rfl w5.heap.size 24 i0 (.agg #[.int .i64 0, .int .i64 0, .int .i64 0]) 3 24 Try.underlying22 hi hz0 hz1 hz2 rfl (by decide) (.slice (some ⟨w5.heap.size, 0, none⟩) 0 0) 0 [] rfl (own_empty (Nat.le_refl _)) A n c (tcells l) rfl HA.out (by rw [tcells_len, Hl.out]) ((T5.out.below ((Below.refl _ _).alloc (Nat.le_refl _) _)).news) (tcells_one l) (by unfold maxLen; omega) (by omega) (by simp) n (by omega) ?_; intro A6 c6 w6 O6 g6; have B6 := Lib.hid ((B5.out.alloc B5.out.size _).grown g6 (by have := B5.out.size; simp; omega) (fun k hk => by cases hk; exact B5.out.size)); have G6 := Lib.hid (((Below.refl w5.heap.size w5).alloc (Nat.le_refl _) _).grown g6 (by simp) (fun k hk => by cases hk; exact Nat.le_refl _)); have P6 := Lib.hid O6; clear O6 g6)
                | (at_builtin; refine wpList_append_to w6 rfl (.tmp 62) (.tmp 63) 22 rfl w5.heap.size 24 i0 (.agg #[.int .i64 0, .int .i64 0, .int .i64 0]) 3 24 Try.underlying22 hi hz0 hz1 hz2 rfl (by decide) (.slice A6 n c6) n ([] ++ tcells l) rfl P6.out A2 m c2 (tcells m') rfl HA2.out (by rw [tcells_len, Hm.out]) ((M5.out.below G6.out).news) (tcells_one m') (by unfold maxLen; omega) (by omega) G6.out.size (n + m) rfl ?_; intro A7 c7 w7 O7 g7; have B7 := Lib.hid (B6.out.grown g7 B6.out.size (fun k hk => Nat.le_trans B5.out.size (P6.out.lt k hk).1)); have G7 := Lib.hid (G6.out.grown g7 G6.out.size (fun k hk => (P6.out.lt k hk).1)); have P7 := Lib.hid O7; clear O7 g7))
              have T7 := Lib.hid (T5.out.later G7.out)
              have M7 := Lib.hid (M5.out.later G7.out)
              have R7 : Hid (Tks w7.heap.size w7 A7 (l ++ m')) := Tks.own (by have h1 := P7.out; rw [List.nil_append, ← tcells_two] at h1; exact h1)
              have C7D : Hid (∀ w : World, Tks w.heap.size w A7 (l ++ m') → _) := fun w h => ALLD.out A7 c7 w h
              have C7R : Hid (∀ w : World, Tks w.heap.size w A7 (l ++ m') → _) := fun w h => ALLR.out A7 c7 w h
              go_wp2_with fail
              refine (CD.out _ T7.out).mono ?_
              rintro e w8 ⟨rfl, hb8⟩
              have B8 := Lib.hid (below_call (Nat.le_refl _) B7.out hb8)
              have T8 := Lib.hid (T7.out.later hb8)
              have M8 := Lib.hid (M7.out.later hb8)
              have R8 := Lib.hid (R7.out.later hb8)
              clear hb8
              go_wp2_with fail
              refine (CR.out _ T8.out).mono ?_
              rintro e w9 ⟨rfl, hb9⟩
              have B9 := Lib.hid (below_call (Nat.le_refl _) B8.out hb9)
              have T9 := Lib.hid (T8.out.later hb9)
              have M9 := Lib.hid (M8.out.later hb9)
              have R9 := Lib.hid (R8.out.later hb9)
              clear hb9
              go_wp2_with fail
              refine (C7D.out _ R9.out).mono ?_
              rintro e w10 ⟨rfl, hb10⟩
              have B10 := Lib.hid (below_call (Nat.le_refl _) B9.out hb10)
              have T10 := Lib.hid (T9.out.later hb10)
              have M10 := Lib.hid (M9.out.later hb10)
              have R10 := Lib.hid (R9.out.later hb10)
              clear hb10
              go_wp2_with fail
              refine (CD.out _ T10.out).mono ?_
              rintro e w11 ⟨rfl, hb11⟩
              have B11 := Lib.hid (below_call (Nat.le_refl _) B10.out hb11)
              have T11 := Lib.hid (T10.out.later hb11)
              have M11 := Lib.hid (M10.out.later hb11)
              have R11 := Lib.hid (R10.out.later hb11)
              clear hb11
              go_wp2_with fail
              refine (CmD.out _ M11.out).mono ?_
              rintro e w12 ⟨rfl, hb12⟩
              have B12 := Lib.hid (below_call (Nat.le_refl _) B11.out hb12)
              have T12 := Lib.hid (T11.out.later hb12)
              have M12 := Lib.hid (M11.out.later hb12)
              have R12 := Lib.hid (R11.out.later hb12)
              clear hb12
              go_wp2_with fail
              refine (C7R.out _ R12.out).mono ?_
              rintro e w13 ⟨rfl, hb13⟩
              have B13 := Lib.hid (below_call (Nat.le_refl _) B12.out hb13)
              have T13 := Lib.hid (T12.out.later hb13)
              have M13 := Lib.hid (M12.out.later hb13)
              have R13 := Lib.hid (R12.out.later hb13)
              clear hb13
              go_wp2_with fail
              refine (CR.out _ T13.out).mono ?_
              rintro e w14 ⟨rfl, hb14⟩
              have B14 := Lib.hid (below_call (Nat.le_refl _) B13.out hb14)
              have M14 := Lib.hid (M13.out.later hb14)
              clear hb14
              go_wp2_with fail
              refine (CmR.out _ M14.out).mono ?_
              rintro e w15 ⟨rfl, hb15⟩
              have B15 := Lib.hid (below_call (Nat.le_refl _) B14.out hb15)
              clear hb15
              go_wp2_with fail
              refine (tawake_any _).mono ?_
              rintro e w16 ⟨rfl, hb16⟩
              go_wp2
              go_ret
              exact ⟨rfl, below_call (Nat.le_refl _) B15.out hb16⟩
    · have hd2 : decide ((4 : Int) < (m : Int)) = true := by simp; omega
      go_enter Try.func5, Try.ntmps5
      go_wp2_with fail
      refine (tawake_any _).mono ?_
      rintro e w5 ⟨rfl, hb5⟩
      go_wp2
      go_ret
      exact ⟨rfl, hb5⟩
  · have hd1 : decide ((4 : Int) < (n : Int)) = true := by simp; omega
    go_enter Try.func5, Try.ntmps5
    go_wp2_with fail
    refine (tawake_any _).mono ?_
    rintro e w5 ⟨rfl, hb5⟩
    go_wp2
    go_ret
    exact ⟨rfl, hb5⟩
end Go.Proofs.Ytnchlgdmpjemhaa
