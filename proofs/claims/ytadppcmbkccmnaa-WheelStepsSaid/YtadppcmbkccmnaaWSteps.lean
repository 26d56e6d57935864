/-
  The law WheelSteps, walked (typed by tools/gen_wsteps.py).
-/
import Derived.Test.YtadppcmbkccmnaaWStage
namespace Go.Proofs.Ytadppcmbkccmnaa
open Go.ChangeShapes Go.WideShapes Go.ChangeAt Go.RowKit Wh

theorem nat_past {nw : Nat} {T : Int} (h1 : (nw : Int) < T) (h2 : T ≤ 2097152) : ∃ t : Nat, T = (t : Int) ∧ nw < t ∧ t ≤ 2097152 := ⟨T.toNat, by omega, by omega, by omega⟩
theorem nat_from {nw E : Nat} {T : Int} (h1 : (nw : Int) ≤ T) (h2 : T ≤ E) : ∃ t : Nat, T = (t : Int) ∧ nw ≤ t ∧ t ≤ E := ⟨T.toNat, by omega, by omega, by omega⟩
set_option maxRecDepth 1000000 in
set_option maxHeartbeats 40000000 in
theorem steps_any {w : World} {nw tn : Nat} (hnw : nw < 65536) (htn : tn < 65536) {A1 A2 : Option Addr} {n1 c1 n2 c2 : Nat} {l1 l2 : List Int} (hl1 : l1.length = n1) (hl2 : l2.length = n2) (hs1 : Shorts w.heap.size w A1 l1) (hs2 : Shorts w.heap.size w A2 l2) :
    Calls Try.prog 4 #[.int .u16 (nw : Nat), .slice A1 n1 c1, .slice A2 n2 c2, .int .u16 (tn : Nat)] w fun e w' => e = .returned (.bool true) ∧ Below w.heap.size w w' := by
  by_cases f1 : 40 < n1
  · have f2 : (40 : Int) < n1 := by omega
    have HX1 := Lib.hid hnw
    clear hs1 hs2 hl1 hl2 hnw htn
    go_enter Try.func4, Try.ntmps4
    go_wp2_with fail
    refine (awake_any _).mono ?_
    rintro e w1 ⟨rfl, hb1⟩
    have HB1 := Lib.hid hb1
    clear hb1
    go_wp2_with fail
    refine (awake_any _).mono ?_
    rintro e w3 ⟨rfl, hb3⟩
    have HB3 := Lib.hid (HB1.out.trans (hb3.mono HB1.out.size))
    clear hb3
    go_wp2
    go_ret
    exact ⟨rfl, HB3.out⟩
  · by_cases f3 : 40 < n2
    · have f4 : (40 : Int) < n2 := by omega
      have f5 : (n1 : Int) ≤ 40 := by omega
      have HX1 := Lib.hid hnw
      clear hs1 hs2 hl1 hl2 hnw htn
      go_enter Try.func4, Try.ntmps4
      go_wp2_with fail
      refine (awake_any _).mono ?_
      rintro e w1 ⟨rfl, hb1⟩
      have HB1 := Lib.hid hb1
      clear hb1
      go_wp2_with fail
      refine (awake_any _).mono ?_
      rintro e w3 ⟨rfl, hb3⟩
      have HB3 := Lib.hid (HB1.out.trans (hb3.mono HB1.out.size))
      clear hb3
      go_wp2
      go_ret
      exact ⟨rfl, HB3.out⟩
    · have H1 := Lib.hid hs1
      have H2 := Lib.hid hs2
      have Hl1 := Lib.hid hl1
      have Hl2 := Lib.hid hl2
      clear hs1 hs2 hl1 hl2
      have a0 : (n1 : Int) ≤ 40 := by omega
      have a1 : (n2 : Int) ≤ 40 := by omega
      have s1 : IntKind.i64.wrap (nw : Int) = nw := IntWalk.i64_in _ (by omega)
      have s2 : IntKind.i64.wrap (tn : Int) = tn := IntWalk.i64_in _ (by omega)
      have hnw2 : nw ≤ 1048576 := by omega
      have HN := Lib.hid hnw2
      have hE3 : nw + tn ≤ 1048576 := by omega
      have hE4 : nw + tn < 131072 := by omega
      have hE5 : nw ≤ nw + tn := by omega
      obtain ⟨E, hE⟩ : ∃ E, nw + tn = E := ⟨_, rfl⟩
      rw [hE] at hE3 hE4 hE5
      have s3 : IntKind.i64.wrap ((nw : Int) + (tn : Int)) = E := by rw [← hE, IntWalk.i64_in _ (by omega)]; omega
      have s4 : wrap64 ((nw : Int) + (tn : Int)) = E := by rw [← hE, IntWalk.wrap64_in _ ⟨by omega, by omega⟩]; omega
      clear hE
      go_enter Try.func4, Try.ntmps4
      go_wp2_with fail
      refine (awake_any _).mono ?_
      rintro e w1 ⟨rfl, hb1⟩
      have HB1 := Lib.hid hb1
      clear hb1
      go_wp2_with fail
      refine (new_at (B := w.heap.size) nw _ HB1.out.size HN.out).mono ?_
      rintro e w2 ⟨h, m, O, rfl, q1, q2, q3⟩
      have HA1 := Lib.hid q1
      have HA2 := Lib.hid (HB1.out.trans (q2.mono HB1.out.size))
      have HA3 := Lib.hid q3
      clear q1 q2 q3
      go_wp2_with fail
      refine (new_at (B := w.heap.size) nw _ HA2.out.size HN.out).mono ?_
      rintro e w3 ⟨h2, m2, O2, rfl, q1, q2, q3⟩
      have HS0 : Hid (Sets w h m h2 m2 0 nw [] [] 0 O O2 [] w3) := Lib.hid ⟨⟨HA1.out.below q2, q1, fun j hj hj2 => by have := (HA1.out.lt hj).2; have := q3 j hj2; omega, HA2.out.trans (q2.mono HA2.out.size)⟩, List.Perm.refl _, List.Perm.refl _, List.Pairwise.nil, Nat.le_refl _, Nat.le_refl _⟩
      clear q1 q2 q3 HA1 HA2 HA3
      go_wp2
      go_loopw [13] (fun u13 wr => ∃ (i : Nat) (L L2 : List Tm) (k : Nat) (O O2 : Nat → Prop) (r : List Du), i ≤ n1 ∧ u13 = .int .i64 (i : Nat) ∧ Sets w h m h2 m2 i nw L L2 k O O2 r wr) (fun u13 _ => n1 - (intOf u13).toNat)
      case atStart => exact ⟨0, [], [], 0, O, O2, [], by omega, rfl, HS0.out⟩
      case round =>
        clear HS0 HB1
        obtain ⟨i, L, L2, k, O, O2, r, hi, rfl, hS⟩ := hrel
        have HS := Lib.hid hS
        have hkb := hS.told
        have hf1 := hS.few1
        have hf2 := hS.few2
        have hfr := hS.few
        have i0 : (0 : Int) ≤ i := by omega
        clear hS
        by_cases hlt : i < n1
        · have i1 : (i : Int) < n1 := by omega
          have i2 : (i : Int) ≤ 40 := by omega
          obtain ⟨ab, ao, rfl, hab, hcell⟩ := H1.out.at_ (by rw [Hl1.out]; omega)
          have c0 := hcell i (by rw [Hl1.out]; exact hlt)
          obtain ⟨x0, x1⟩ := H1.out.bd i (by rw [Hl1.out]; exact hlt)
          have Hab := Lib.hid hab
          have Hc := Lib.hid c0
          have hcs : wr.cell? ⟨ab, ao + i, none⟩ = w.cell? ⟨ab, ao + i, none⟩ := HS.out.pair.below.cell (p := ⟨ab, ao + i, none⟩) hab
          rw [← hcs] at c0
          clear hcell hcs hab
          generalize short l1 i = x at *
          have s5 : IntKind.i64.wrap x = x := IntWalk.i64_in _ (by omega)
          obtain ⟨T, hT⟩ : ∃ T, (nw : Int) + x = T := ⟨_, rfl⟩
          have s6 : wrap64 T = T := IntWalk.wrap64_in _ ⟨by omega, by omega⟩
          have s7 : IntKind.i64.wrap T = T := IntWalk.i64_in _ (by omega)
          by_cases hx : T ≤ nw
          · have HS1 := Lib.hid (seton_at_bad HS.out.pair.a T i (by omega))
            have HS2 := Lib.hid (seton_at_bad HS.out.pair.b T i (by omega))
            go_wp2_with fail
            refine HS1.out.mono ?_
            rintro e w4 ⟨rfl, rfl⟩
            go_wp2_with fail
            refine HS2.out.mono ?_
            rintro e w5 ⟨rfl, rfl⟩
            go_wp2
            go_roundw
            case rel => exact ⟨i + 1, L, L2, k, O, O2, r, by omega, by go_num, sets_stay HS.out⟩
            case measure => simp [intOf]; omega
          · obtain ⟨t, ht, ht1, ht2⟩ := nat_past (nw := nw) (T := T) (by omega) (by omega)
            have HT := Lib.hid ht
            have HT1 := Lib.hid ht1
            have HT2 := Lib.hid ht2
            clear ht ht1 ht2
            have HS1 := Lib.hid (pair_set1 HS.out.pair (by omega) (by omega) t i HT1.out HT2.out)
            rw [← HT.out] at HS1
            go_wp2_with fail
            refine HS1.out.mono ?_
            rintro e w4 ⟨rfl, b4, O4, P4⟩
            have HP4 := Lib.hid P4
            have c4 : w4.cell? ⟨ab, ao + i, none⟩ = some (.int .u16 x) := (HP4.out.below.cell (p := ⟨ab, ao + i, none⟩) Hab.out).trans Hc.out
            have HS2 := Lib.hid (pair_set2 P4 (by omega) (by omega) t i HT1.out HT2.out)
            rw [← HT.out] at HS2
            clear P4 c0
            go_wp2_with fail
            refine HS2.out.mono ?_
            rintro e w5 ⟨rfl, b5, O5, P5⟩
            obtain ⟨r', hr'⟩ := sets_next HS.out P5
            have HR := Lib.hid hr'
            clear P5 hr' c4
            go_wp2
            go_roundw
            case rel => exact ⟨i + 1, _, _, k + 1, O4, O5, r', by omega, by go_num, HR.out⟩
            case measure => simp [intOf]; omega
        · obtain rfl : i = n1 := by omega
          have HSr := Lib.hid HS.out.srt
          have HrL : Hid (r.length ≤ 40) := Lib.hid (by omega)
          have HAd := Lib.hid (pair_advance HS.out.pair (by omega) (by omega) hE5 hE3 HS.out.p1 HS.out.srt)
          have Hp2 := Lib.hid HS.out.p2
          have Hk : Hid (k ≤ 900000) := Lib.hid (by omega)
          clear hkb hf1 hf2 hfr i0 hlt hi
          clear H1 Hl1
          obtain ⟨U, hU⟩ : ∃ U, upto (E : Int) r = U := ⟨_, rfl⟩
          have HU := Lib.hid hU
          have HUr : Hid ((r.take U).length = U) := Lib.hid (by rw [List.length_take, ← hU]; have := upto_le (E : Int) r; omega)
          have hU40 : (U : Int) ≤ 40 := by have := upto_le (E : Int) r; have := HrL.out; omega
          rw [hU] at HAd
          clear hU
          go_wp2_with fail
          refine HAd.out.mono ?_
          rintro e w6 ⟨X, cx, rfl, C6⟩
          have HC6 : Hid (Stage w h2 m2 E k r X w6.heap.size U 0 nw L2 O2 none 0 w6) := Lib.hid ⟨C6, Hp2.out, Nat.zero_le _, hE5⟩
          clear C6 HS
          generalize w6.heap.size = B at HC6
          go_wp2
          go_loopw [17, 18] (fun u17 u18 wr => ∃ (i u nw' : Nat) (L : List Tm) (O : Nat → Prop) (Y : Option Addr) (c : Nat), i ≤ n2 ∧ u18 = .int .i64 (i : Nat) ∧ u17 = .slice Y u c ∧ Stage w h2 m2 E k r X B U u nw' L O Y c wr) (fun _ u18 _ => n2 - (intOf u18).toNat)
          case atStart => exact ⟨0, 0, nw, L2, O2, none, 0, by omega, rfl, rfl, HC6.out⟩
          case round =>
            clear HC6 Hp2 HAd
            obtain ⟨i, u, nw', L, O, Y, c, hi, rfl, rfl, hS⟩ := hrel
            have HS := Lib.hid hS
            have hnow := hS.now
            have hle := hS.le
            have i0 : (0 : Int) ≤ i := by omega
            have u0 : (0 : Int) ≤ u := by omega
            have nw0' : (0 : Int) ≤ nw' := by omega
            clear hS
            by_cases hlt : i < n2
            · have i1 : (i : Int) < n2 := by omega
              have i2 : (i : Int) ≤ 40 := by omega
              obtain ⟨ab, ao, rfl, hab, hcell⟩ := H2.out.at_ (by rw [Hl2.out]; omega)
              have c0 := hcell i (by rw [Hl2.out]; exact hlt)
              obtain ⟨x0, x1⟩ := H2.out.bd i (by rw [Hl2.out]; exact hlt)
              have hcs : wr.cell? ⟨ab, ao + i, none⟩ = w.cell? ⟨ab, ao + i, none⟩ := HS.out.cuts.below.cell (p := ⟨ab, ao + i, none⟩) hab
              rw [← hcs] at c0
              clear hcell hcs hab
              generalize short l2 i = x at *
              have s5 : IntKind.i64.wrap x = x := IntWalk.i64_in _ (by omega)
              obtain ⟨T, hT⟩ : ∃ T, (nw' : Int) + x = T := ⟨_, rfl⟩
              have s6 : wrap64 T = T := IntWalk.wrap64_in _ ⟨by omega, by omega⟩
              have s7 : IntKind.i64.wrap T = T := IntWalk.i64_in _ (by omega)
              have HNw := Lib.hid fun q : Nat => (now_at (HS.out.cuts.drawn q).at_).mono fun _ _ hh => (⟨hh.1, hh.2.symm⟩ : _ ∧ _)
              go_wp2_with fail
              go_quiet ((go_at_call 16; exact Calls.quiet_of_same (HNw.out _)))
              by_cases hTE : T ≤ E
              · obtain ⟨t, ht, ht1, ht2⟩ := nat_from (nw := nw') (T := T) (E := E) (by omega) (by omega)
                have HT := Lib.hid ht
                have hcS : Stage w h2 m2 E k r X B U u nw' L O Y c (wr.drewN nq) := ⟨HS.out.cuts.drawn nq, HS.out.perm, HS.out.le, HS.out.now⟩
                have HA := Lib.hid (stage_advance (to := t) hcS Hk.out HrL.out HSr.out HU.out ht1 ht2 hE3)
                rw [← HT.out] at HA
                clear hcS ht ht1 ht2
                go_wp2_with fail
                refine HA.out.mono ?_
                rintro e w7 ⟨p, Z, cz, rfl, O7, L7, g1, g2, g3, g4, g5, g6, -, g7⟩
                have G1 := Lib.hid g1
                have G2 := Lib.hid g2
                have G3 := Lib.hid g3
                have G4 := Lib.hid g4
                have G7 := Lib.hid g7
                have G5 := Lib.hid g5
                have G8 : Hid (u + p ≤ 1000000) := Lib.hid (by omega)
                clear g1 g2 g3 g4 g7 g5 g6 c0
                go_wp2_with (at_builtin; refine wpList_onto rfl _ _ rfl G1.out rfl rfl G2.out G3.out G4.out G8.out rfl ?_; intro Y8 c8 w8 h8; have H8 := Lib.hid (G7.out _ _ _ h8); clear h8)
                go_roundw
                case rel => exact ⟨i + 1, u + p, t, L7, O7, Y8, c8, by omega, by go_num, rfl, H8.out⟩
                case measure => simp [intOf]; omega
              · go_wp2
                go_roundw
                case rel => exact ⟨i + 1, u, nw', L, O, Y, c, by omega, by go_num, rfl, ⟨HS.out.cuts.drawn nq, HS.out.perm, HS.out.le, HS.out.now⟩⟩
                case measure => simp [intOf]; omega
            · obtain rfl : i = n2 := by omega
              clear H2 Hl2
              have HA := Lib.hid (stage_advance (to := E) HS.out Hk.out HrL.out HSr.out HU.out hnow (Nat.le_refl _) hE3)
              go_wp2_with fail
              refine HA.out.mono ?_
              rintro e w7 ⟨p, Z, cz, rfl, O7, L7, g1, g2, g3, g4, g5, g6, g9, g7⟩
              have G1 := Lib.hid g1
              have G2 := Lib.hid g2
              have G3 := Lib.hid g3
              have G4 := Lib.hid g4
              have G7 := Lib.hid g7
              have G9 : Hid (u + p = U) := Lib.hid (by simpa using g9)
              have G8 : Hid (u + p ≤ 1000000) := Lib.hid (by omega)
              clear g1 g2 g3 g4 g7 g5 g6 g9 HS HA
              go_wp2_with (at_builtin; refine wpList_onto rfl _ _ rfl G1.out rfl rfl G2.out G3.out G4.out G8.out G9.out ?_; intro Y8 c8 w8 h8; have H8 := Lib.hid (G7.out _ _ _ (by rw [G9.out]; exact h8)); rw [G9.out] at H8; clear h8)
              have hB8 : Hid (Below w.heap.size w w8) := Lib.hid H8.out.cuts.below
              have hX8 := Lib.hid H8.out.cuts.xr
              have hY8 := Lib.hid H8.out.cuts.reads
              have hUU : ((U : Int) == U) = true := by simp
              clear G1 G2 G3 G4 G7 G8 G9
              go_wp2
              go_loopw [24] (fun u24 wr => ∃ (j q : Nat), j ≤ U ∧ u24 = .int .i64 (j : Nat) ∧ wr = w8.drewN q) (fun u24 _ => U - (intOf u24).toNat)
              case atStart => exact ⟨0, 0, Nat.zero_le _, rfl, rfl⟩
              case round =>
                obtain ⟨j, q, hj, rfl, rfl⟩ := hrel
                have j0 : (0 : Int) ≤ j := by omega
                by_cases hjl : j < U
                · obtain ⟨b, o, rfl, -, d1⟩ := hX8.out.cells (by rw [HUr.out]; omega)
                  obtain ⟨b2, o2, rfl, -, d2⟩ := hY8.out.cells (by rw [HUr.out]; omega)
                  obtain ⟨e0, e1, e2⟩ := d1 j (by rw [HUr.out]; exact hjl)
                  obtain ⟨f0, f1, f2⟩ := d2 j (by rw [HUr.out]; exact hjl)
                  clear d1 d2
                  have j1 : (j : Int) < U := by omega
                  generalize (nth (r.take U) j).1 = x at *
                  generalize (nth (r.take U) j).2.1 = y at *
                  generalize (nth (r.take U) j).2.2 = z at *
                  have hq : ∀ w : World, (binOp .neq 48 (.agg #[.int .i64 x, .int .i64 y, .int .i64 z]) (.agg #[.int .i64 x, .int .i64 y, .int .i64 z])).run Try.prog w = .ok (.bool false) w := fun w => by
                    have := due_neq x y z x y z w
                    simpa using this
                  go_wp2
                  go_quiet (fail)
                  go_wp2
                  go_roundw
                  case rel => exact ⟨j + 1, q + nq, by omega, by go_num, rfl⟩
                  case measure => simp [intOf]; omega
                · obtain rfl : j = U := by omega
                  have HB9 : Hid (Below w.heap.size w (w8.drewN q)) := Lib.hid (below_drawn hB8.out)
                  clear hX8 hY8 H8 hB8 HSr HrL Hk HU HUr
                  generalize w8.drewN q = w9 at *
                  obtain ⟨Z, hz, hzs, -, z2, -⟩ := zero_wheel
                  have HZc : Hid (∀ w : World, (w.alloc (.cells Z 56 (0, 0))).cell? ⟨w.heap.size, 256, none⟩ = some (.map none)) := Lib.hid (fun w => w_cell (heap_alloc_new w (wObj Z)) z2)
                  clear z2
                  go_wp2_with fail
                  refine (set_none _ _ _).mono ?_
                  rintro e z1 ⟨rfl, rfl⟩
                  go_wp2_with fail
                  refine (advance_none _ _).mono ?_
                  rintro e z1 ⟨rfl, rfl⟩
                  go_wp2_with fail
                  have HC1 := Lib.hid (HZc.out w9)
                  refine (set_zero _ _ _ _ HC1.out).mono ?_
                  rintro e z1 ⟨rfl, rfl⟩
                  obtain ⟨w10, hw10⟩ : ∃ w10, w9.alloc (.cells Z 56 (0, 0)) = w10 := ⟨_, rfl⟩
                  have HB10 : Hid (Below w.heap.size w w10) := Lib.hid (by rw [← hw10]; exact HB9.out.alloc HB9.out.size _)
                  rw [hw10]
                  clear hw10 HC1 HB9
                  go_wp2_with fail
                  have HC2 := Lib.hid (HZc.out w10)
                  refine (advance_zero _ _ _ HC2.out).mono ?_
                  rintro e z1 ⟨rfl, rfl⟩
                  obtain ⟨w11, hw11⟩ : ∃ w11, w10.alloc (.cells Z 56 (0, 0)) = w11 := ⟨_, rfl⟩
                  have HB11 : Hid (Below w.heap.size w w11) := Lib.hid (by rw [← hw11]; exact HB10.out.alloc HB10.out.size _)
                  rw [hw11]
                  clear hw11 HC2 HB10 HZc hz hzs
                  go_wp2_with fail
                  refine (get_none _ _).mono ?_
                  rintro e w12 ⟨rfl, hz1⟩
                  have HB12 : Hid (Below w.heap.size w w12) := Lib.hid (HB11.out.trans (hz1.mono HB11.out.size))
                  clear hz1 HB11
                  go_wp2_with fail
                  refine (next_none _).mono ?_
                  rintro e z1 ⟨rfl, rfl⟩
                  go_wp2_with fail
                  refine (cancel_none _ _).mono ?_
                  rintro e z1 ⟨rfl, rfl⟩
                  go_wp2_with fail
                  refine (len_none _).mono ?_
                  rintro e z1 ⟨rfl, rfl⟩
                  go_wp2_with fail
                  refine (now_none _).mono ?_
                  rintro e z1 ⟨rfl, rfl⟩
                  go_wp2_with fail
                  have HB13 : Hid (Below w.heap.size w (w12.alloc (.cells #[.int .i64 0, .int .i64 0, .int .i64 0] 48 (0, 0)))) := Lib.hid (HB12.out.alloc HB12.out.size _)
                  refine (awake_any _).mono ?_
                  rintro e w14 ⟨rfl, hb14⟩
                  have HB14 := Lib.hid (HB13.out.trans (hb14.mono HB13.out.size))
                  clear hb14
                  go_wp2
                  go_ret
                  exact ⟨rfl, HB14.out⟩
end Go.Proofs.Ytadppcmbkccmnaa
