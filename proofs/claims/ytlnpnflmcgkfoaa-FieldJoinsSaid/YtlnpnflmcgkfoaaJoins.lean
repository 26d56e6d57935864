/-
  The law FieldJoins answers true: its walk out of the contracts.
-/
import Derived.Test.YtlnpnflmcgkfoaaWalksF
namespace Go.Proofs.Ytlnpnflmcgkfoaa
open Go.ChangeShapes Go.WideShapes Go.ChangeAt Go.RowKit

/-- A list of fields, as cells. -/
def fcells (l : List (Int × Int)) : List Value := l.flatMap fun f => [.int .i64 f.1, .int .i64 f.2]
theorem fcells_len (l : List (Int × Int)) : (fcells l).length = l.length * 2 := by
  induction l with
  | nil => rfl
  | cons a l ih => simp only [fcells, List.flatMap_cons, List.length_append, List.length_cons, List.length_nil] at *; omega
theorem fcells_snoc (l : List (Int × Int)) (k : Nat) (h : k < l.length) {p q : Int} (hpq : l.getD k (0, 0) = (p, q)) : fcells (l.take (k + 1)) = fcells (l.take k) ++ [.int .i64 p, .int .i64 q] := by
  have e : l[k] = (p, q) := by rw [← hpq, List.getD_eq_getElem?_getD, List.getElem?_eq_getElem h]; rfl
  simp only [fcells, List.take_succ_eq_append_getElem h, List.flatMap_append, List.flatMap_cons, List.flatMap_nil, List.append_nil, e]
theorem fcells_at : ∀ (l : List (Int × Int)) (i : Nat), i < l.length → (fcells l)[i * 2]? = some (.int .i64 (l.getD i (0, 0)).1) ∧ (fcells l)[i * 2 + 1]? = some (.int .i64 (l.getD i (0, 0)).2)
  | [], i, h => by simp at h
  | a :: l, 0, _ => by simp [fcells]
  | a :: l, i + 1, h => by
    have := fcells_at l i (by simp at h; omega)
    have e1 : (i + 1) * 2 = i * 2 + 2 := by omega
    rw [e1]
    simpa [fcells] using this
/-- What the call owns reads as the list. -/
theorem Flds.own {w : World} {base : Nat} {A : Option Addr} {n c : Nat} {e : TypeId} {l : List (Int × Int)} (h : w.ownsRow base e 2 (.slice A n c) n (fcells l)) : Flds w.heap.size w A l := fun hn => by
  have hl := h.1
  rw [fcells_len] at hl
  rcases h.2 with ⟨hv, h0⟩ | ⟨g, cap, cur, hv, _, hg, _⟩
  · omega
  · simp only [Value.slice.injEq, true_and] at hv
    obtain ⟨rfl, rfl⟩ := hv
    have hlt := (h.lt g rfl).2
    refine ⟨g, 0, rfl, hlt, fun i hi => ?_⟩
    have := fcells_at l i hi
    refine ⟨?_, ?_⟩
    · rw [Nat.zero_add, h.cellAt _ (by omega)]; exact this.1
    · rw [Nat.zero_add, h.cellAt _ (by omega)]; exact this.2

theorem Nums.mono {B B' : Nat} {w : World} {A : Option Addr} {n : List Int} (h : Nums B w A n) (hB : B ≤ B') : Nums B' w A n := fun hn => by
  obtain ⟨b, o, e, hb, hc⟩ := h hn
  exact ⟨b, o, e, by omega, hc⟩
theorem InWords.pos {n : List Int} (h : InWords n) : ∀ x ∈ n, 0 ≤ x := fun x hx => by
  obtain ⟨i, hi, rfl⟩ := List.getElem_of_mem hx
  have := (h i).1
  rwa [List.getD_eq_getElem?_getD, List.getElem?_eq_getElem hi] at this

theorem joined_what (l : List (Int × Int)) (ns : List Int) (n : Nat) (hn : n ≤ l.length) (hW : InWords ns) : ∃ x ok, (Fd.joinTo l ns n).getD 0 = x ∧ (Fd.joinTo l ns n).isSome = ok ∧ 0 ≤ x ∧ x < 18446744073709551616 ∧
    (ok = true → ∀ i, i < n → Fd.get (l.getD i (0, 0)).1 (l.getD i (0, 0)).2 x = ns.getD i 0) := by
  cases h : Fd.joinTo l ns n with
  | none => exact ⟨0, false, rfl, rfl, by omega, by omega, fun h => by cases h⟩
  | some v =>
    have hb := Fd.joinTo_bd hW.pos h
    exact ⟨v, true, rfl, rfl, hb.1, hb.2, fun _ i hi => Fd.joinTo_get hW.pos hn h i hi⟩

theorem own_shape {w : World} {base n size : Nat} {e : TypeId} {v : Value} {xs : List Value} (h : w.ownsRow base e size v n xs) : ∃ A c, v = .slice A n c ∧ n ≤ c ∧ c ≤ 9223372036854775807 := by
  rcases h.2 with ⟨rfl, rfl⟩ | ⟨g, cap, cur, rfl, _, _, hc, hm, _⟩
  · exact ⟨none, 0, rfl, Nat.le_refl _, by omega⟩
  · exact ⟨_, cap, rfl, hc, by unfold maxLen at hm; exact hm⟩
theorem own_base {w : World} {base n size : Nat} {e : TypeId} {v : Value} {xs : List Value} (h : w.ownsRow base e size v n xs) : ∀ k, v.ownBlock = some k → base ≤ k := fun k hk => (h.lt k hk).1

theorem info_field : (Try.prog.info? 25).map (fun i => (i.zero, i.size, i.bytes)) = some (some (.agg #[.int .i64 0, .int .i64 0]), 2, 16) := by kernel_rfl

set_option maxHeartbeats 400000 in
theorem join_ne (A A2 : Option Addr) (n m c c2 : Nat) (w : World) (hne : n ≠ m) :
    Calls Try.prog 20 #[.slice A n c, .slice A2 m c2] w fun e w' => e = .returned (.tuple #[.int .u64 0, .int .i64 1]) ∧ w = w' := by
  have hb : ((n : Int) != (m : Int)) = true := by simp; omega
  go_enter Try.func20, Try.ntmps20
  go_wp2
  go_ret2
  exact ⟨rfl, rfl⟩

theorem two_new (w : World) (p q : Int) (t : TypeId) : ∀ j u, ([.int .i64 p, .int .i64 q] : List Value)[j]? = some u → (w.alloc (.cells #[.int .i64 p, .int .i64 q] t)).cell? ((⟨w.heap.size, 0, none⟩ : Addr).add j) = some u
  | 0, u, h => by simp at h; subst h; rw [show (⟨w.heap.size, 0, none⟩ : Addr).add 0 = ⟨w.heap.size, 0, none⟩ from rfl, World.cell?_alloc_at _ _ _ _ rfl]; rfl
  | 1, u, h => by simp at h; subst h; rw [show (⟨w.heap.size, 0, none⟩ : Addr).add 1 = ⟨w.heap.size, 1, none⟩ from rfl, World.cell?_alloc_at _ _ _ _ rfl]; rfl
  | j + 2, u, h => by simp at h

set_option maxHeartbeats 2000000 in
theorem joins_any (A A2 : Option Addr) (n m c c2 : Nat) (l : List (Int × Int)) (ns : List Int) (w : World) (hln : l.length = n) (hnn : ns.length = m) (hL : Flds w.heap.size w A l) (hN : Nums w.heap.size w A2 ns) (hI : Hid (InInts l)) (hW : Hid (InWords ns)) :
    Calls Try.prog 5 #[.slice A n c, .slice A2 m c2] w fun e w' => e = .returned (.bool true) ∧ Below w.heap.size w w' := by
  have HL := Lib.hid hL
  have HN := Lib.hid hN
  have Hl := Lib.hid hln
  have Hn := Lib.hid hnn
  clear hL hN hln hnn
  obtain ⟨i0, hi, hz0, hz1, hz2⟩ := info_parts info_field
  by_cases hbig : n ≤ 40 ∧ m ≤ 40
  · obtain ⟨hn40, hm40⟩ := hbig
    have hd1 : decide ((40 : Int) < (n : Int)) = false := by simp; omega
    have hd2 : decide ((40 : Int) < (m : Int)) = false := by simp; omega
    go_enter Try.func5, Try.ntmps5
    go_wp2_with fail
    go_loopw [5, 6] (fun x i wr => ∃ (k : Nat) (X : Option Addr) (cx : Nat), k ≤ n ∧ i = .int .i64 k ∧ x = .slice X k cx ∧ k ≤ cx ∧ Hid (wr.ownsRow w.heap.size 25 2 (.slice X k cx) k (fcells (l.take k))) ∧ Below w.heap.size w wr) (fun _ i _ => (n - intOf i).toNat)
    case atStart => exact ⟨0, none, 0, by omega, rfl, rfl, by omega, World.ownsRow_nil _ _ _ _, Below.refl _ _⟩
    case round =>
      obtain ⟨k, X, cx, hk, rfl, rfl, hkc, hown, hb⟩ := hrel
      by_cases hlt : k < n
      · obtain ⟨ab, ao, hA, hB, hcell⟩ := HL.out (by rw [Hl.out]; omega)
        subst hA
        have Hcell := Lib.hid hcell
        obtain ⟨hc1, hc2⟩ := hcell k (by rw [Hl.out]; exact hlt)
        obtain ⟨hc3, hc4⟩ := hcell 0 (by rw [Hl.out]; omega)
        clear hcell
        obtain ⟨hc, hf⟩ := old_cells hb
        have hz := hb.size
        have hz1' : ab < wr.heap.size := by omega
        have hz3 : ab ≤ wr.heap.size := by omega
        have hk0 : (0 : Int) ≤ k := by omega
        have hkn : (k : Int) < n := by omega
        have h0n : (0 : Int) < n := by omega
        obtain ⟨i1, i2, i3, i4⟩ := hI.out k
        obtain ⟨j1, j2, j3, j4⟩ := hI.out 0
        obtain ⟨p, q, hpq⟩ : ∃ p q, l.getD k (0, 0) = (p, q) := ⟨_, _, rfl⟩
        obtain ⟨p0, q0, hpq0⟩ : ∃ p q, l.getD 0 (0, 0) = (p, q) := ⟨_, _, rfl⟩
        have hsn := Lib.hid (fcells_snoc l k (by rw [Hl.out]; exact hlt) hpq)
        rw [hpq] at hc1 hc2 i1 i2 i3 i4
        rw [hpq0] at hc3 hc4 j1 j2 j3 j4
        simp only [Nat.zero_mul, Nat.add_zero] at hc3 hc4
        clear hpq hpq0
        go_wp2_with fail
        refine (to_any _ _ _).mono ?_
        rintro e w2 ⟨rfl, hb2⟩
        have hown2 := Lib.hid ((hown.out.kept (below_grows hb2 none) (by cases X <;> simp [Value.ownBlock])).alloc (.cells #[.int .i64 p, .int .i64 q] 25))
        have hb3 := hb.trans (hb2.mono hz)
        have hz4 := hb3.size
        obtain ⟨hc5, hf5⟩ := old_cells hb3
        clear hc hf
        have hc1' : ∀ j u, ([.int .i64 p, .int .i64 q] : List Value)[j]? = some u → (w2.alloc (.cells #[.int .i64 p, .int .i64 q] 25)).cell? ((⟨w2.heap.size, 0, none⟩ : Addr).add j) = some u := two_new w2 p q _
        have HC := Lib.hid hc1'
        clear hc1'
        go_wp2_with (at_builtin; refine wpList_append_own _ rfl (.tmp 28) (.tmp 34) 45 rfl w.heap.size 25 i0 (.agg #[.int .i64 0, .int .i64 0]) 2 16 Try.underlying45 hi hz0 hz1 hz2 rfl (by decide) (.slice X k cx) k (fcells (l.take k)) rfl hown2.out ⟨w2.heap.size, 0, none⟩ 1 1 [.int .i64 p, .int .i64 q] rfl rfl HC.out (by simp [Value.oneCell']) (by unfold maxLen; omega) (by omega) (by simp; omega) ?_; intro v' w3 hown3 hgrow3 hnn3)
        have hb4 : Below w.heap.size w w3 := (hb3.alloc hz4 _).grown hgrow3 (by simp; omega) (own_base hown2.out)
        have hz5 := hb4.size
        obtain ⟨hc6, hf6⟩ := old_cells hb4
        obtain ⟨X', cx', rfl, hkc', _⟩ := own_shape hown3
        have Hown3 : Hid (w3.ownsRow w.heap.size 25 2 (.slice X' (k + 1) cx') (k + 1) (fcells (l.take (k + 1)))) := (by rw [hsn.out]; exact hown3 : w3.ownsRow w.heap.size _ 2 (.slice X' (k + 1) cx') (k + 1) (fcells (l.take (k + 1))))
        clear hown3 hgrow3 hnn3 hc5 hf5
        have hz6 : ab < w3.heap.size := by omega
        refine wp_region_later w3.heap.size w3 (by kernel_rfl) (by kernel_rfl) (Below.refl _ _) ?_
        repeat (go_big_quiet_step (first
          | ((with_reducible refine Calls.later ?_ (to_any p q _)); exact Nat.le_refl _)
          | ((with_reducible refine Calls.later ?_ (to_any p0 q0 _)); exact Nat.le_refl _)
          | ((with_reducible refine Calls.later ?_ (apart_any p q p0 q0 _ i3 i4 i1 i2 j3 j4 j1 j2)); exact Nat.le_refl _)
          | ((with_reducible refine Calls.later ?_ (rapart_any p q p0 q0 _ i3 i4 i1 i2 j3 j4 j1 j2)); exact Nat.le_refl _)))
        refine wpQuiet_nil ?_
        rintro _ ⟨n1, rfl⟩
        have hb7 : Below w.heap.size w n1.world := hb4.trans (n1.below.mono hz5)
        have Hown4 := Lib.hid (Hown3.out.kept (below_grows n1.below none) (by cases X' <;> simp [Value.ownBlock]))
        go_wp2
        go_roundw
        case rel => exact ⟨k + 1, X', cx', by omega, by go_num, rfl, hkc', Hown4.out, hb7⟩
        case measure => simp [intOf]; omega
      · obtain rfl : n = k := by omega
        have HX : Hid (Flds wr.heap.size wr X l) := Flds.own (by rw [List.take_of_length_le (by rw [Hl.out]; exact Nat.le_refl _)] at hown; exact hown)
        clear hown
        have hz := hb.size
        by_cases hnm : n = m
        · subst hnm
          have HNr : Hid (Nums wr.heap.size wr A2 ns) := (HN.out.below hb).mono hz
          obtain ⟨x, ok, hx, hok, hx1, hx2, hg⟩ := joined_what l ns n (by rw [Hl.out]; exact Nat.le_refl _) hW.out
          have hg := Lib.hid hg
          have Hx := Lib.hid hx
          have Hok := Lib.hid hok
          clear hx hok
          go_wp2_with fail
          refine (join_any X A2 n cx c2 l ns _ Hl.out Hn.out (by omega) hkc HX.out HNr.out hI hW).mono ?_
          rw [Hx.out, Hok.out]
          rintro e w4 ⟨rfl, hb4⟩
          have hb5 := hb.trans (hb4.mono hz)
          have hz5 := hb5.size
          go_wp2_with fail
          refine (rjoin_any A A2 n c c2 l ns _ Hl.out Hn.out (by omega) ((HL.out.below hb5).mono hz5) ((HN.out.below hb5).mono hz5) hI hW).mono ?_
          rw [Hx.out, Hok.out]
          rintro e w5 ⟨rfl, hb6⟩
          have hb7 := hb5.trans (hb6.mono hz5)
          have hz7 := hb7.size
          have HX5 : Hid (Flds w5.heap.size w5 X l) := ((HX.out.below hb4).below (hb6.mono hb4.size)).mono (Nat.le_trans hb4.size hb6.size)
          go_wp2_with fail
          refine (split_any X n cx l x _ Hl.out (by omega) HX5.out hI hx1 hx2).mono ?_
          rintro e w6 ⟨rfl, hb8, hz8, hcs⟩
          replace hb8 := hb7.trans (hb8.mono hz7)
          have hcs := Lib.hid hcs
          cases ok with
          | false =>
            simp only [errOf]
            go_wp2_with fail
            go_loopw [12] (fun i wr => ∃ k2 : Nat, k2 ≤ n ∧ i = .int .i64 k2 ∧ Below w.heap.size w wr ∧ Below (w5.heap.size + 1) w6 wr) (fun i _ => (n - intOf i).toNat)
            case atStart => exact ⟨0, by omega, rfl, hb8, Below.refl _ _⟩
            case round =>
              obtain ⟨k2, hk2, rfl, hb9, hb10⟩ := hrel
              have hz9 := hb9.size
              have hz10 := hb10.size
              by_cases hlt2 : k2 < n
              · obtain ⟨ab, ao, hA, hB, hcell⟩ := HL.out (by rw [Hl.out]; omega)
                subst hA
                obtain ⟨hc1, hc2⟩ := hcell k2 (by rw [Hl.out]; exact hlt2)
                clear hcell
                have hs0 := (hb10.cell (p := ⟨w5.heap.size, k2, none⟩) (Nat.lt_succ_self _)).trans (hcs.out k2 hlt2)
                obtain ⟨hc9, hf9⟩ := old_cells hb9
                have hz11 : ab < wr.heap.size := by omega
                have hz12 : ab ≤ wr.heap.size := by omega
                have hz13 : w5.heap.size < wr.heap.size := by omega
                have hz14 : w5.heap.size ≤ wr.heap.size := by omega
                have hk0 : (0 : Int) ≤ k2 := by omega
                have hkn : (k2 : Int) < n := by omega
                obtain ⟨i1, i2, i3, i4⟩ := hI.out k2
                obtain ⟨p, q, hpq⟩ : ∃ p q, l.getD k2 (0, 0) = (p, q) := ⟨_, _, rfl⟩
                rw [hpq] at hc1 hc2 i1 i2 i3 i4 hs0
                clear hpq
                go_wp2_with fail
                refine wp_region_later wr.heap.size wr (by kernel_rfl) (by kernel_rfl) (Below.refl _ _) ?_
                repeat (go_big_quiet_step (first
                  | ((with_reducible refine Calls.later ?_ (rget_any p q x _ i3 i4 i1 i2 hx1 hx2)); exact Nat.le_refl _)))
                refine wpQuiet_nil ?_
                rintro _ ⟨n1, rfl⟩
                go_wp2
                go_roundw
                case rel => exact ⟨k2 + 1, by omega, by go_num, hb9.trans (n1.below.mono hz9), hb10.trans (n1.below.mono (by omega))⟩
                case measure => simp [intOf]; omega
              · go_wp2_with fail
                refine (awake_any _).mono ?_
                rintro e w7 ⟨rfl, hb11⟩
                go_wp2
                go_ret
                exact ⟨rfl, hb9.trans (hb11.mono hz9)⟩
          | true =>
            simp only [errOf, if_true]
            go_wp2_with fail
            go_loopw [12] (fun i wr => ∃ k2 : Nat, k2 ≤ n ∧ i = .int .i64 k2 ∧ Below w.heap.size w wr ∧ Below (w5.heap.size + 1) w6 wr) (fun i _ => (n - intOf i).toNat)
            case atStart => exact ⟨0, by omega, rfl, hb8, Below.refl _ _⟩
            case round =>
              obtain ⟨k2, hk2, rfl, hb9, hb10⟩ := hrel
              have hz9 := hb9.size
              have hz10 := hb10.size
              by_cases hlt2 : k2 < n
              · obtain ⟨ab, ao, hA, hB, hcell⟩ := HL.out (by rw [Hl.out]; omega)
                subst hA
                obtain ⟨hc1, hc2⟩ := hcell k2 (by rw [Hl.out]; exact hlt2)
                clear hcell
                have hs0 := (hb10.cell (p := ⟨w5.heap.size, k2, none⟩) (Nat.lt_succ_self _)).trans (hcs.out k2 hlt2)
                obtain ⟨ab2, ao2, hA2, hB2, hcell2⟩ := HN.out (by rw [Hn.out]; omega)
                subst hA2
                have hc3 := hcell2 k2 (by rw [Hn.out]; exact hlt2)
                clear hcell2
                have hz15 : ab2 < wr.heap.size := by omega
                have hz16 : ab2 ≤ wr.heap.size := by omega
                have hgk := hg.out (by trivial) k2 hlt2
                obtain ⟨hc9, hf9⟩ := old_cells hb9
                have hz11 : ab < wr.heap.size := by omega
                have hz12 : ab ≤ wr.heap.size := by omega
                have hz13 : w5.heap.size < wr.heap.size := by omega
                have hz14 : w5.heap.size ≤ wr.heap.size := by omega
                have hk0 : (0 : Int) ≤ k2 := by omega
                have hkn : (k2 : Int) < n := by omega
                obtain ⟨i1, i2, i3, i4⟩ := hI.out k2
                obtain ⟨p, q, hpq⟩ : ∃ p q, l.getD k2 (0, 0) = (p, q) := ⟨_, _, rfl⟩
                rw [hpq] at hc1 hc2 i1 i2 i3 i4 hs0 hgk
                rw [← hgk] at hc3
                clear hgk
                clear hpq
                go_wp2_with fail
                refine wp_region_later wr.heap.size wr (by kernel_rfl) (by kernel_rfl) (Below.refl _ _) ?_
                repeat (go_big_quiet_step (first
                  | ((with_reducible refine Calls.later ?_ (rget_any p q x _ i3 i4 i1 i2 hx1 hx2)); exact Nat.le_refl _)))
                refine wpQuiet_nil ?_
                rintro _ ⟨n1, rfl⟩
                go_wp2
                go_roundw
                case rel => exact ⟨k2 + 1, by omega, by go_num, hb9.trans (n1.below.mono hz9), hb10.trans (n1.below.mono (by omega))⟩
                case measure => simp [intOf]; omega
              · go_wp2_with fail
                refine (awake_any _).mono ?_
                rintro e w7 ⟨rfl, hb11⟩
                go_wp2
                go_ret
                exact ⟨rfl, hb9.trans (hb11.mono hz9)⟩
        · have hb1 : ((n : Int) != (m : Int)) = true := by simp; omega
          go_wp2_with fail
          refine (join_ne X A2 n m cx c2 _ hnm).mono ?_
          rintro e w4 ⟨rfl, rfl⟩
          go_wp2_with fail
          refine (awake_any _).mono ?_
          rintro e w5 ⟨rfl, hb5⟩
          go_wp2
          go_ret
          exact ⟨rfl, hb.trans (hb5.mono hz)⟩
  · have hbig' : 40 < n ∨ 40 < m := by omega
    by_cases h1 : 40 < n
    · have hd1 : decide ((40 : Int) < (n : Int)) = true := by simp; omega
      go_enter Try.func5, Try.ntmps5
      go_wp2_with fail
      refine (awake_any _).mono ?_
      rintro e w5 ⟨rfl, hb5⟩
      go_wp2
      go_ret
      exact ⟨rfl, hb5⟩
    · have hd1 : decide ((40 : Int) < (n : Int)) = false := by simp; omega
      have hd2 : decide ((40 : Int) < (m : Int)) = true := by simp; omega
      go_enter Try.func5, Try.ntmps5
      go_wp2_with fail
      refine (awake_any _).mono ?_
      rintro e w5 ⟨rfl, hb5⟩
      go_wp2
      go_ret
      exact ⟨rfl, hb5⟩
end Go.Proofs.Ytlnpnflmcgkfoaa
