/-
  The law WheelPlays, walked (typed by tools/gen_wplays.py).
-/
import Derived.Test.YtadppcmbkccmnaaWSt
import Derived.Test.YtadppcmbkccmnaaOpens
namespace Go.Proofs.Ytadppcmbkccmnaa
open Go.ChangeShapes Go.WideShapes Go.ChangeAt Go.RowKit Wh

/-- A list of acts, within bounds. -/
def Acts (B : Nat) (w : World) (A : Option Addr) (l : List Du) : Prop := Dus (· < B) w A l ∧ ∀ i, i < l.length → -9223372036854775808 ≤ (nth l i).2.1 ∧ (nth l i).2.1 < 9223372036854775808
/-- What holds at each act's head. -/
structure Play (w : World) (h m i : Nat) (L : List Tm) (k nw : Nat) (O : Nat → Prop) (r : List Du) (A : Option Addr) (n c : Nat) (wr : World) : Prop where
  st : St w h m L k nw O r A n c wr
  told : k ≤ i
  few : L.length ≤ i
  perm : r.Perm (L.map du)
  srt : Srt r
theorem play_len {w wr : World} {h m i k nw n c : Nat} {L : List Tm} {O : Nat → Prop} {r : List Du} {A : Option Addr} (P : Play w h m i L k nw O r A n c wr) : n = L.length := by rw [← P.st.len, P.perm.length_eq, List.length_map]
theorem cut_perm {L L' : List Tm} {t : Tm} {r : List Du} {i : Nat} (hp : r.Perm (L.map du)) (hL : L.Perm (t :: L')) (hi : i < r.length) (ht : nth r i = du t) : (r.take i ++ r.drop (i + 1)).Perm (L'.map du) := by
  have h1 : r.Perm (du t :: (r.take i ++ r.drop (i + 1))) := by
    have h2 : r = r.take i ++ (r[i] :: r.drop (i + 1)) := by rw [← List.drop_eq_getElem_cons hi, List.take_append_drop]
    have h3 : r[i] = du t := by
      rw [← ht]
      unfold nth
      rw [List.getD_eq_getElem?_getD, List.getElem?_eq_getElem hi]
      rfl
    rw [h3] at h2
    exact (List.Perm.of_eq h2).trans List.perm_middle
  exact (h1.symm.trans (hp.trans (hL.map du))).cons_inv
theorem srt_drop {r : List Du} (h : Srt r) (i : Nat) : Srt (r.take i ++ r.drop (i + 1)) := by
  refine h.sublist ?_
  have h1 : r.take i ++ r.drop i = r := List.take_append_drop i r
  have h2 : (r.take i ++ r.drop (i + 1)).Sublist (r.take i ++ r.drop i) := List.Sublist.append (List.Sublist.refl _) (by
    rw [← List.drop_drop]
    exact List.drop_sublist 1 _)
  rwa [h1] at h2
theorem nat_set {nw : Nat} {T : Int} (h1 : (nw : Int) < T) (h2 : ¬ 2097152 < T) : ∃ t : Nat, T = (t : Int) ∧ nw < t ∧ t ≤ 2097152 := ⟨T.toNat, by omega, by omega, by omega⟩
theorem nat_adv {nw : Nat} {T : Int} (h1 : (nw : Int) ≤ T) (h2 : T ≤ 1048576) : ∃ t : Nat, T = (t : Int) ∧ nw ≤ t ∧ t ≤ 1048576 := ⟨T.toNat, by omega, by omega, by omega⟩
theorem val_back {a b : Int} (h : a = b) : Value.int .i64 a = .int .i64 b := by rw [h]
theorem tmod_bd (N : Int) : -100000 < N.tmod 100000 ∧ N.tmod 100000 < 100000 := by
  have h1 := Int.tmod_lt_of_pos N (show (0 : Int) < 100000 by decide)
  have h2 := Int.lt_tmod_of_pos N (show (0 : Int) < 100000 by decide)
  exact ⟨h2, h1⟩

set_option maxRecDepth 1000000 in
set_option maxHeartbeats 40000000 in
theorem plays_any {w : World} {now : Int} {Al : Option Addr} {nl cl : Nat} {l : List Du} (hl : l.length = nl) (hA : Acts w.heap.size w Al l) :
    Calls Try.prog 3 #[.int .i64 now, .slice Al nl cl] w fun e w' => e = .returned (.bool true) ∧ Below w.heap.size w w' := by
  by_cases hnow : now < 0 ∨ 1048576 < now
  · have HNb := Lib.hid fun w => new_bad now w hnow
    by_cases h0 : now < 0
    · clear hnow hA
      go_enter Try.func3, Try.ntmps3
      go_wp2_with fail
      refine (awake_any _).mono ?_
      rintro e w1 ⟨rfl, hb1⟩
      have HB1 := Lib.hid hb1
      clear hb1
      go_wp2_with (go_at_call 6; refine (HNb.out _).mono ?_; rintro e w2 ⟨rfl, rfl⟩)
      refine (awake_any _).mono ?_
      rintro e w3 ⟨rfl, hb3⟩
      have HB3 := Lib.hid (HB1.out.trans (hb3.mono HB1.out.size))
      clear hb3
      go_wp2
      go_ret
      exact ⟨rfl, HB3.out⟩
    · have h1 : 1048576 < now := by omega
      clear hnow hA
      go_enter Try.func3, Try.ntmps3
      go_wp2_with fail
      refine (awake_any _).mono ?_
      rintro e w1 ⟨rfl, hb1⟩
      have HB1 := Lib.hid hb1
      clear hb1
      go_wp2_with (go_at_call 6; refine (HNb.out _).mono ?_; rintro e w2 ⟨rfl, rfl⟩)
      refine (awake_any _).mono ?_
      rintro e w3 ⟨rfl, hb3⟩
      have HB3 := Lib.hid (HB1.out.trans (hb3.mono HB1.out.size))
      clear hb3
      go_wp2
      go_ret
      exact ⟨rfl, HB3.out⟩
  · obtain ⟨nw0, rfl⟩ : ∃ nw0 : Nat, now = (nw0 : Int) := ⟨now.toNat, by omega⟩
    have hn0 : (0 : Int) ≤ nw0 := by omega
    have hn1 : (nw0 : Int) ≤ 1048576 := by omega
    have HA := Lib.hid hA
    have Hl := Lib.hid hl
    clear hnow hA hl
    go_enter Try.func3, Try.ntmps3
    go_wp2_with fail
    refine (awake_any _).mono ?_
    rintro e w1 ⟨rfl, hb1⟩
    have HB1 := Lib.hid hb1
    clear hb1
    go_wp2_with (go_at_call 6; refine (new_at (B := w.heap.size) nw0 _ HB1.out.size (by omega)).mono ?_; rintro e w2 ⟨h, m, O, rfl, a1, a2, a3⟩; have HS2 : Hid (St w h m [] 0 nw0 O [] none 0 0 w2) := Lib.hid ⟨a1, HB1.out.trans (a2.mono HB1.out.size), rfl, Nat.le_refl _, by omega, fun _ => ⟨rfl, rfl⟩, Or.inl rfl, ⟨fun hh => by simp at hh⟩, fun j ⟨o, hj⟩ => by cases hj⟩; clear a1 a2 a3)
    go_loopw [0, 7, 8, 9] (fun u0 u7 u8 u9 wr => ∃ (i : Nat) (L : List Tm) (k nw : Nat) (O : Nat → Prop) (r : List Du) (A : Option Addr) (n c : Nat), i ≤ 60 ∧ i ≤ nl ∧ u9 = .int .i64 (i : Nat) ∧ u0 = .int .i64 (nw : Nat) ∧ u7 = .slice A n c ∧ u8 = .int .i64 (k : Nat) ∧ Play w h m i L k nw O r A n c wr) (fun _ _ _ u9 _ => 60 - (intOf u9).toNat)
    case atStart => exact ⟨0, [], 0, nw0, O, [], none, 0, 0, by omega, by omega, rfl, rfl, rfl, rfl, ⟨HS2.out, by omega, by simp, List.Perm.refl _, List.Pairwise.nil⟩⟩
    case round =>
      clear HS2 hn0 hn1
      obtain ⟨i, L, k, nw, O, r, A, n, c, hi60, hil, rfl, rfl, rfl, rfl, hP⟩ := hrel
      have HP := Lib.hid hP
      have hnL := play_len hP
      have hkb := hP.told
      have hLb := hP.few
      have hnwb := hP.st.at_.facts.2.2
      have hcap := hP.st.cap
      have hc63 := hP.st.c63
      have i0 : (0 : Int) ≤ i := by omega
      have nw0' : (0 : Int) ≤ nw := by omega
      have nw1' : (nw : Int) ≤ 1048576 := by omega
      have hnb : n ≤ i := by omega
      have hk9 : k ≤ 900000 := by omega
      have hL9 : L.length ≤ 900000 := by omega
      have hn9 : n ≤ 900000 := by omega
      clear hP hnL
      by_cases hlt : i < nl ∧ i < 60
      · obtain ⟨hlt1, hlt2⟩ := hlt
        have i1 : (i : Int) < nl := by omega
        have i2 : (i : Int) < 60 := by omega
        obtain ⟨ab, ao, rfl, hab, hcell⟩ := HA.out.1.cells (by rw [Hl.out]; omega)
        obtain ⟨c0, c1, c2⟩ := hcell i (by rw [Hl.out]; exact hlt1)
        obtain ⟨n0, n1⟩ := HA.out.2 i (by rw [Hl.out]; exact hlt1)
        have hcs : ∀ j, wr.cell? ⟨ab, j, none⟩ = w.cell? ⟨ab, j, none⟩ := fun j => HP.out.st.below.cell (p := ⟨ab, j, none⟩) hab
        rw [← hcs] at c0 c1 c2
        clear hcell hcs
        generalize (nth l i).1 = kd at *
        generalize (nth l i).2.1 = N at *
        have N0 := Lib.hid n0
        have N1 := Lib.hid n1
        clear n0 n1
        generalize (nth l i).2.2 = wh at *
        obtain ⟨p, hp⟩ : ∃ p, wr.heap.size = p := ⟨_, rfl⟩
        obtain ⟨W, hW⟩ : ∃ W, wr.alloc (.cells #[.int .i64 kd, .int .i64 N, .int .i64 wh] 30 (0, 0)) = W := ⟨_, rfl⟩
        have H1 : Hid (St w h m L k nw O r A n c W) := Lib.hid (by rw [← hW]; exact HP.out.st.later ((Below.refl _ _).alloc (Nat.le_refl _) _))
        have X1 : Hid (Bx p kd N wh O W) := Lib.hid (by
          rw [← hW, ← hp]
          exact ⟨by simp, by simp, by simp, by simp, fun ho => by have := (HP.out.st.at_.lt ho).2; omega⟩)
        have b0 := X1.out.b0
        have b1 := X1.out.b1
        have b2 := X1.out.b2
        have HW := Lib.hid hW
        have Hp := Lib.hid hp
        by_cases k1 : kd = 1
        · subst k1
          by_cases hit : ∃ x, x ∈ L ∧ (x.handle : Int) = N
          · as_aux_lemma =>
              -- Cancel of a timer that is there
              obtain ⟨t, htL, rfl⟩ := hit
              obtain ⟨s1, s2, hLs⟩ := List.append_of_mem htL
              have HL : Hid (L.Perm (t :: (s1 ++ s2))) := Lib.hid (by rw [hLs]; exact List.perm_middle)
              obtain ⟨ix, hix, hixt, hixf⟩ := place_of HP.out.perm HP.out.st.at_.facts.1 htL
              have hixn : ix < n := by rw [← HP.out.st.len]; exact hix
              have HIx : Hid (Calls Try.prog 7 #[.slice A n c, .int .i64 (t.handle : Nat)] W fun e w' => e = .returned (.int .i64 (ix : Nat)) ∧ W = w') := Lib.hid (index_hit H1.out.low H1.out.len (by omega) _ ix hixn (by rw [hixt]; rfl) hixf)
              have HCa := Lib.hid (st_cancel H1.out X1.out (by omega) (by omega) HL.out)
              have HLl : Hid ((s1 ++ s2).length + 1 = L.length) := Lib.hid (by have := HL.out.length_eq; simp at this ⊢; omega)
              have HNp := Lib.hid (cut_perm HP.out.perm HL.out hix hixt)
              have HNs := Lib.hid (srt_drop HP.out.srt ix)
              have i0 : (0 : Int) ≤ ix := by omega
              have ib : (ix : Int) ≤ 100 := by omega
              generalize (t.handle : Int) = N at *
              clear hix hixt hixf hLs htL
              generalize s1 ++ s2 = L2 at *
              go_wp2_with fail
              clear hW hp
              refine HIx.out.mono ?_
              rintro e w3 ⟨rfl, rfl⟩
              go_wp2_with fail
              refine HCa.out.mono ?_
              rintro e w4 ⟨rfl, O4, h4, x4⟩
              have H4 := Lib.hid h4
              have X4 := Lib.hid x4
              have c41 := x4.b1
              clear h4 x4 b0 b1 b2
              have HDr := Lib.hid (st_drop H4.out X4.out (by omega) hixn)
              go_wp2_with (go_at_call 9; refine HDr.out.mono ?_; rintro e w5 ⟨A5, n5, c5, rfl, h5, x5⟩; have H5 := Lib.hid h5; have X5 := Lib.hid x5; have c51 := x5.b1; clear h5 x5)
              have hn5 : n5 ≤ 1000 := by
                have h6 := H5.out.len
                rw [HNp.out.length_eq, List.length_map] at h6
                have := HLl.out
                omega
              have HSa := Lib.hid (st_same H5.out X5.out (by omega) (by omega) HNp.out HNs.out N0.out N1.out)
              go_wp2_with (go_at_call 15; refine HSa.out.mono ?_; rintro e w6 ⟨rfl, h6, x6⟩; have H6 := Lib.hid h6; clear h6 x6)
              go_roundw
              case rel => exact ⟨i + 1, L2, k, nw, O4, _, A5, n5, c5, by omega, by omega, by go_num, rfl, rfl, rfl, ⟨H6.out, by omega, by have := HLl.out; omega, HNp.out, HNs.out⟩⟩
              case measure => simp [intOf]; omega
          · as_aux_lemma =>
              have hq : ∀ x, x ∈ L → (x.handle : Int) ≠ N := fun x hx e => hit ⟨x, hx, e⟩
              have HIx : Hid (Calls Try.prog 7 #[.slice A n c, .int .i64 N] W fun e w' => e = .returned (.int .i64 (-1)) ∧ W = w') := Lib.hid (index_miss H1.out.low H1.out.len (by omega) _ (fun j hj => none_of HP.out.perm hq j (by rw [HP.out.st.len]; exact hj)))
              have HCa := Lib.hid (cancel_at_miss H1.out.at_ N0.out N1.out hq)
              have HSa := Lib.hid (st_same H1.out X1.out (by omega) (by omega) HP.out.perm HP.out.srt N0.out N1.out)
              clear hq hit
              go_wp2_with fail
              clear hW hp
              refine HIx.out.mono ?_
              rintro e w3 ⟨rfl, rfl⟩
              go_wp2_with (first
                | (go_at_call 8; refine HCa.out.mono ?_; rintro e w4 ⟨rfl, rfl⟩)
                | (go_at_call 15; refine HSa.out.mono ?_; rintro e w6 ⟨rfl, h6, x6⟩; have H6 := Lib.hid h6; clear h6 x6))
              go_roundw
              case rel => exact ⟨i + 1, L, k, nw, O, r, A, n, c, by omega, by omega, by go_num, rfl, rfl, rfl, ⟨H6.out, by omega, by omega, HP.out.perm, HP.out.srt⟩⟩
              case measure => simp [intOf]; omega
        · by_cases k2 : kd = 2
          · subst k2
            have hmod := tmod_bd N
            obtain ⟨T, hT⟩ : ∃ T, (nw : Int) + N.tmod 100000 = T := ⟨_, rfl⟩
            have hT1 : wrap64 T = T := IntWalk.wrap64_in _ ⟨by omega, by omega⟩
            have hT2 : IntKind.i64.wrap T = T := IntWalk.i64_in _ (by omega)
            clear hmod
            obtain ⟨z, hz1⟩ : ∃ z : Int, wrap64 (T - (nw : Int)) = z := ⟨_, rfl⟩
            by_cases hz : 200000 < z
            · by_cases hb1 : T ≤ 1048576
              · as_aux_lemma =>
                  go_wp2_with fail
                  clear hW hp
                  clear hT hT1 hT2
                  refine (awake_any _).mono ?_
                  rintro e w3 ⟨rfl, hb3⟩
                  have HB3 := Lib.hid hb3
                  clear hb3
                  go_wp2
                  go_ret
                  exact ⟨rfl, H1.out.below.trans (HB3.out.mono H1.out.size)⟩
              · have hb2 : 1048576 < T := by omega
                have hb3 : (nw : Int) ≤ T := by omega
                as_aux_lemma =>
                  have HAd := Lib.hid (advance_at_bad H1.out.at_ T (by omega))
                  go_wp2_with fail
                  clear hW hp
                  clear hT hT1 hT2
                  refine HAd.out.mono ?_
                  rintro e w3 ⟨rfl, rfl⟩
                  go_wp2
                  go_roundw
                  case rel => exact ⟨i + 1, L, k, nw, O, r, A, n, c, by omega, by omega, by go_num, rfl, rfl, rfl, ⟨H1.out, by omega, by omega, HP.out.perm, HP.out.srt⟩⟩
                  case measure => simp [intOf]; omega
            · by_cases hb1 : T < nw
              · as_aux_lemma =>
                  have HAd := Lib.hid (advance_at_bad H1.out.at_ T (by omega))
                  go_wp2_with fail
                  clear hW hp
                  clear hT hT1 hT2
                  refine HAd.out.mono ?_
                  rintro e w3 ⟨rfl, rfl⟩
                  go_wp2
                  go_roundw
                  case rel => exact ⟨i + 1, L, k, nw, O, r, A, n, c, by omega, by omega, by go_num, rfl, rfl, rfl, ⟨H1.out, by omega, by omega, HP.out.perm, HP.out.srt⟩⟩
                  case measure => simp [intOf]; omega
              · have hb3 : (nw : Int) ≤ T := by omega
                by_cases hb2 : 1048576 < T
                · as_aux_lemma =>
                    have HAd := Lib.hid (advance_at_bad H1.out.at_ T (by omega))
                    go_wp2_with fail
                    clear hW hp
                    clear hT hT1 hT2
                    refine HAd.out.mono ?_
                    rintro e w3 ⟨rfl, rfl⟩
                    go_wp2
                    go_roundw
                    case rel => exact ⟨i + 1, L, k, nw, O, r, A, n, c, by omega, by omega, by go_num, rfl, rfl, rfl, ⟨H1.out, by omega, by omega, HP.out.perm, HP.out.srt⟩⟩
                    case measure => simp [intOf]; omega
                · have hb4 : T ≤ 1048576 := by omega
                  have hz3 : ¬ 200000 < T - (nw : Int) := by rw [← hz1, IntWalk.wrap64_in _ ⟨by omega, by omega⟩] at hz; exact hz
                  rcases HP.out.st.form with hA | ⟨g, o, hA⟩
                  · obtain ⟨hn0, hc0⟩ := HP.out.st.nil hA
                    subst hA
                    subst hn0
                    subst hc0
                    as_aux_lemma =>
                      obtain ⟨t, ht, ht1, ht2⟩ := nat_adv hb3 hb4
                      have HT := Lib.hid ht
                      have HAd : Hid (Calls Try.prog 10 #[.pointer (some ⟨h, 0, none⟩), .int .i64 T] W fun e w2 => ∃ Ag cg, e = .returned (.tuple #[.slice Ag (upto T r) cg, .int .i64 0]) ∧ ∃ O' L', St w h m L' k t O' r none 0 0 w2 ∧ Bx p 2 N wh O' w2 ∧
                          Dus (fun _ => True) w2 Ag (r.take (upto T r)) ∧ (r.drop (upto T r)).Perm (L'.map du) ∧ L'.length ≤ L.length) := Lib.hid (by
                        have := st_advance H1.out X1.out hk9 hL9 t ht1 ht2 HP.out.perm HP.out.srt
                        rw [← ht] at this
                        exact this)
                      obtain ⟨-, -, HU1, HU2⟩ := srt_cut T HP.out.srt
                      have hul : upto T r ≤ 0 := by
                        have := upto_le T r
                        rw [HP.out.st.len] at this
                        exact this
                      have HU3 := Lib.hid HU1
                      have HU4 := Lib.hid HU2
                      clear HU1 HU2 ht ht1 ht2
                      have HNs : Hid (Srt (r.drop (upto T r))) := Lib.hid (HP.out.srt.sublist (List.drop_sublist _ _))
                      have HRl := Lib.hid HP.out.st.len
                      obtain ⟨u, hu⟩ : ∃ u, upto T r = u := ⟨_, rfl⟩
                      rw [hu] at HAd HU3 HU4 hul HNs
                      have HTl : Hid ((r.take u).length = u) := Lib.hid (by rw [List.length_take, HRl.out]; omega)
                      clear hu
                      obtain rfl : u = 0 := by omega
                      have HNr : Hid (r.drop 0 = r) := Lib.hid (List.drop_zero)
                      rw [HNr.out] at HAd HNs
                      go_wp2_with fail
                      clear hW hp
                      clear hT hT1 hT2
                      refine HAd.out.mono ?_
                      rintro e w3 ⟨Ag, cg, rfl, O3, L3, h3, x3, hg, hp3, hl3⟩
                      have H3 := Lib.hid h3
                      have X3 := Lib.hid x3
                      have c31 := x3.b1
                      have HG := Lib.hid hg
                      have HNp := Lib.hid hp3
                      have HL3 := Lib.hid hl3
                      clear h3 x3 hg hp3 b0 b1 b2
                      have HUp := Lib.hid (upto_any (c := 0) H3.out.low H3.out.len (by omega) T 0 hul (fun hlt => HU4.out (by rw [HRl.out]; exact hlt)) HU3.out)
                      have HIs := Lib.hid fun c1 c2 : Nat => is_any (c := c1) (c2 := c2) HG.out (H3.out.reads.head 0) HTl.out (by omega)
                      go_wp2_with fail
                      refine HUp.out.mono ?_
                      rintro e w4 ⟨rfl, rfl⟩
                      go_wp2_with (go_at_call 12; refine (HIs.out _ _).mono ?_; rintro e w5 ⟨rfl, q5, rfl⟩; have H5 := Lib.hid (H3.out.drawn q5); have X5 := Lib.hid (X3.out.drawn q5); have c51 := X5.out.b1)
                      have HSa := Lib.hid (st_same H5.out X5.out hk9 (by omega) HNp.out HNs.out N0.out N1.out)
                      rw [← HT.out] at HSa
                      refine HSa.out.mono ?_
                      rintro e w6 ⟨rfl, h6, x6⟩
                      have H6 := Lib.hid h6
                      clear h6 x6
                      go_wp2
                      go_roundw
                      case rel => exact ⟨i + 1, L3, k, t, O3, r, none, 0, 0, by omega, by omega, by go_num, val_back HT.out, rfl, rfl, ⟨H6.out, by omega, by have := HL3.out; omega, HNp.out, HNs.out⟩⟩
                      case measure => simp [intOf]; omega
                  · subst hA
                    as_aux_lemma =>
                      obtain ⟨t, ht, ht1, ht2⟩ := nat_adv hb3 hb4
                      have HT := Lib.hid ht
                      have HAd : Hid (Calls Try.prog 10 #[.pointer (some ⟨h, 0, none⟩), .int .i64 T] W fun e w2 => ∃ Ag cg, e = .returned (.tuple #[.slice Ag (upto T r) cg, .int .i64 0]) ∧ ∃ O' L', St w h m L' k t O' r (some ⟨g, o, none⟩) n c w2 ∧ Bx p 2 N wh O' w2 ∧
                          Dus (fun _ => True) w2 Ag (r.take (upto T r)) ∧ (r.drop (upto T r)).Perm (L'.map du) ∧ L'.length ≤ L.length) := Lib.hid (by
                        have := st_advance H1.out X1.out hk9 hL9 t ht1 ht2 HP.out.perm HP.out.srt
                        rw [← ht] at this
                        exact this)
                      obtain ⟨-, -, HU1, HU2⟩ := srt_cut T HP.out.srt
                      have hul : upto T r ≤ n := by
                        have := upto_le T r
                        rw [HP.out.st.len] at this
                        exact this
                      have HU3 := Lib.hid HU1
                      have HU4 := Lib.hid HU2
                      clear HU1 HU2 ht ht1 ht2
                      have HC1 : Hid (∀ (O2 : Nat → Prop) (L2 : List Tm) (w2 : World), c = upto T r → St w h m L2 k t O2 r (some ⟨g, o, none⟩) n c w2 → St w h m L2 k t O2 (r.drop (upto T r)) (some ⟨g, o, none⟩) (n - upto T r) 0 w2) := Lib.hid (fun O2 L2 w2 e hs => by
                        have h6 := hs.cut hul
                        rw [if_pos e] at h6
                        have h7 : c - upto T r = 0 := by omega
                        rw [h7] at h6
                        exact h6)
                      have HC2 : Hid (∀ (O2 : Nat → Prop) (L2 : List Tm) (w2 : World), ¬ c = upto T r → St w h m L2 k t O2 r (some ⟨g, o, none⟩) n c w2 → St w h m L2 k t O2 (r.drop (upto T r)) (some ⟨g, o + upto T r * 3, none⟩) (n - upto T r) (c - upto T r) w2) := Lib.hid (fun O2 L2 w2 e hs => by
                        have h6 := hs.cut hul
                        rw [if_neg e] at h6
                        exact h6)
                      have HNs : Hid (Srt (r.drop (upto T r))) := Lib.hid (HP.out.srt.sublist (List.drop_sublist _ _))
                      have HRl := Lib.hid HP.out.st.len
                      obtain ⟨u, hu⟩ : ∃ u, upto T r = u := ⟨_, rfl⟩
                      rw [hu] at HAd HU3 HU4 hul HNs HC1 HC2
                      have HTl : Hid ((r.take u).length = u) := Lib.hid (by rw [List.length_take, HRl.out]; omega)
                      clear hu
                      have u0 : (0 : Int) ≤ u := by omega
                      have u1 : (u : Int) ≤ n := by omega
                      have u2 : (u : Int) ≤ c := by omega
                      have u3 : (n : Int) ≤ 1000 := by omega
                      go_wp2_with fail
                      clear hW hp
                      clear hT hT1 hT2
                      refine HAd.out.mono ?_
                      rintro e w3 ⟨Ag, cg, rfl, O3, L3, h3, x3, hg, hp3, hl3⟩
                      have H3 := Lib.hid h3
                      have X3 := Lib.hid x3
                      have c31 := x3.b1
                      have HG := Lib.hid hg
                      have HNp := Lib.hid hp3
                      have HL3 := Lib.hid hl3
                      clear h3 x3 hg hp3 b0 b1 b2
                      have HUp := Lib.hid (upto_any (c := c) H3.out.low H3.out.len (by omega) T u hul (fun hlt => HU4.out (by rw [HRl.out]; exact hlt)) HU3.out)
                      have HIs := Lib.hid fun c1 c2 : Nat => is_any (c := c1) (c2 := c2) HG.out (H3.out.reads.head u) HTl.out (by omega)
                      go_wp2_with fail
                      refine HUp.out.mono ?_
                      rintro e w4 ⟨rfl, rfl⟩
                      go_wp2_with (go_at_call 12; refine (HIs.out _ _).mono ?_; rintro e w5 ⟨rfl, q5, rfl⟩; have H5 := Lib.hid (H3.out.drawn q5); have X5 := Lib.hid (X3.out.drawn q5); have c51 := X5.out.b1)
                      all_goals
                        first
                          | (have HSa := Lib.hid (st_same (HC1.out _ _ _ (by omega) H5.out) X5.out hk9 (by omega) HNp.out HNs.out N0.out N1.out); rw [← HT.out] at HSa; refine HSa.out.mono ?_)
                          | (have HSa := Lib.hid (st_same (HC2.out _ _ _ (by omega) H5.out) X5.out hk9 (by omega) HNp.out HNs.out N0.out N1.out); rw [← HT.out] at HSa; refine HSa.out.mono ?_)
                        rintro e w6 ⟨rfl, h6, x6⟩
                        have H6 := Lib.hid h6
                        clear h6 x6
                        go_wp2
                        go_roundw
                        case rel => exact ⟨i + 1, L3, k, t, O3, _, _, _, _, by omega, by omega, by go_num, val_back HT.out, rfl, rfl, ⟨H6.out, by omega, by have := HL3.out; omega, HNp.out, HNs.out⟩⟩
                        case measure => simp [intOf]; omega
          · by_cases k4 : kd = 4
            · subst k4
              obtain ⟨z, hz1⟩ : ∃ z : Int, wrap64 (N - (nw : Int)) = z := ⟨_, rfl⟩
              by_cases hz : 200000 < z
              · by_cases hb1 : N ≤ 1048576
                · as_aux_lemma =>
                    go_wp2_with fail
                    clear hW hp
                    refine (awake_any _).mono ?_
                    rintro e w3 ⟨rfl, hb3⟩
                    have HB3 := Lib.hid hb3
                    clear hb3
                    go_wp2
                    go_ret
                    exact ⟨rfl, H1.out.below.trans (HB3.out.mono H1.out.size)⟩
                · have hb2 : 1048576 < N := by omega
                  have hb3 : (nw : Int) ≤ N := by omega
                  as_aux_lemma =>
                    have HAd := Lib.hid (advance_at_bad H1.out.at_ N (by omega))
                    go_wp2_with fail
                    clear hW hp
                    refine HAd.out.mono ?_
                    rintro e w3 ⟨rfl, rfl⟩
                    go_wp2
                    go_roundw
                    case rel => exact ⟨i + 1, L, k, nw, O, r, A, n, c, by omega, by omega, by go_num, rfl, rfl, rfl, ⟨H1.out, by omega, by omega, HP.out.perm, HP.out.srt⟩⟩
                    case measure => simp [intOf]; omega
              · by_cases hb1 : N < nw
                · as_aux_lemma =>
                    have HAd := Lib.hid (advance_at_bad H1.out.at_ N (by omega))
                    go_wp2_with fail
                    clear hW hp
                    refine HAd.out.mono ?_
                    rintro e w3 ⟨rfl, rfl⟩
                    go_wp2
                    go_roundw
                    case rel => exact ⟨i + 1, L, k, nw, O, r, A, n, c, by omega, by omega, by go_num, rfl, rfl, rfl, ⟨H1.out, by omega, by omega, HP.out.perm, HP.out.srt⟩⟩
                    case measure => simp [intOf]; omega
                · have hb3 : (nw : Int) ≤ N := by omega
                  by_cases hb2 : 1048576 < N
                  · as_aux_lemma =>
                      have HAd := Lib.hid (advance_at_bad H1.out.at_ N (by omega))
                      go_wp2_with fail
                      clear hW hp
                      refine HAd.out.mono ?_
                      rintro e w3 ⟨rfl, rfl⟩
                      go_wp2
                      go_roundw
                      case rel => exact ⟨i + 1, L, k, nw, O, r, A, n, c, by omega, by omega, by go_num, rfl, rfl, rfl, ⟨H1.out, by omega, by omega, HP.out.perm, HP.out.srt⟩⟩
                      case measure => simp [intOf]; omega
                  · have hb4 : N ≤ 1048576 := by omega
                    have hz3 : ¬ 200000 < N - (nw : Int) := by rw [← hz1, IntWalk.wrap64_in _ ⟨by omega, by omega⟩] at hz; exact hz
                    rcases HP.out.st.form with hA | ⟨g, o, hA⟩
                    · obtain ⟨hn0, hc0⟩ := HP.out.st.nil hA
                      subst hA
                      subst hn0
                      subst hc0
                      as_aux_lemma =>
                        obtain ⟨t, ht, ht1, ht2⟩ := nat_adv hb3 hb4
                        have HT := Lib.hid ht
                        have HAd : Hid (Calls Try.prog 10 #[.pointer (some ⟨h, 0, none⟩), .int .i64 N] W fun e w2 => ∃ Ag cg, e = .returned (.tuple #[.slice Ag (upto N r) cg, .int .i64 0]) ∧ ∃ O' L', St w h m L' k t O' r none 0 0 w2 ∧ Bx p 4 N wh O' w2 ∧
                            Dus (fun _ => True) w2 Ag (r.take (upto N r)) ∧ (r.drop (upto N r)).Perm (L'.map du) ∧ L'.length ≤ L.length) := Lib.hid (by
                          have := st_advance H1.out X1.out hk9 hL9 t ht1 ht2 HP.out.perm HP.out.srt
                          rw [← ht] at this
                          exact this)
                        obtain ⟨-, -, HU1, HU2⟩ := srt_cut N HP.out.srt
                        have hul : upto N r ≤ 0 := by
                          have := upto_le N r
                          rw [HP.out.st.len] at this
                          exact this
                        have HU3 := Lib.hid HU1
                        have HU4 := Lib.hid HU2
                        clear HU1 HU2 ht ht1 ht2
                        have HNs : Hid (Srt (r.drop (upto N r))) := Lib.hid (HP.out.srt.sublist (List.drop_sublist _ _))
                        have HRl := Lib.hid HP.out.st.len
                        obtain ⟨u, hu⟩ : ∃ u, upto N r = u := ⟨_, rfl⟩
                        rw [hu] at HAd HU3 HU4 hul HNs
                        have HTl : Hid ((r.take u).length = u) := Lib.hid (by rw [List.length_take, HRl.out]; omega)
                        clear hu
                        obtain rfl : u = 0 := by omega
                        have HNr : Hid (r.drop 0 = r) := Lib.hid (List.drop_zero)
                        rw [HNr.out] at HAd HNs
                        go_wp2_with fail
                        clear hW hp
                        refine HAd.out.mono ?_
                        rintro e w3 ⟨Ag, cg, rfl, O3, L3, h3, x3, hg, hp3, hl3⟩
                        have H3 := Lib.hid h3
                        have X3 := Lib.hid x3
                        have c31 := x3.b1
                        have HG := Lib.hid hg
                        have HNp := Lib.hid hp3
                        have HL3 := Lib.hid hl3
                        clear h3 x3 hg hp3 b0 b1 b2
                        have HUp := Lib.hid (upto_any (c := 0) H3.out.low H3.out.len (by omega) N 0 hul (fun hlt => HU4.out (by rw [HRl.out]; exact hlt)) HU3.out)
                        have HIs := Lib.hid fun c1 c2 : Nat => is_any (c := c1) (c2 := c2) HG.out (H3.out.reads.head 0) HTl.out (by omega)
                        go_wp2_with fail
                        refine HUp.out.mono ?_
                        rintro e w4 ⟨rfl, rfl⟩
                        go_wp2_with (go_at_call 12; refine (HIs.out _ _).mono ?_; rintro e w5 ⟨rfl, q5, rfl⟩; have H5 := Lib.hid (H3.out.drawn q5); have X5 := Lib.hid (X3.out.drawn q5); have c51 := X5.out.b1)
                        have HSa := Lib.hid (st_same H5.out X5.out hk9 (by omega) HNp.out HNs.out N0.out N1.out)
                        rw [← HT.out] at HSa
                        refine HSa.out.mono ?_
                        rintro e w6 ⟨rfl, h6, x6⟩
                        have H6 := Lib.hid h6
                        clear h6 x6
                        go_wp2
                        go_roundw
                        case rel => exact ⟨i + 1, L3, k, t, O3, r, none, 0, 0, by omega, by omega, by go_num, val_back HT.out, rfl, rfl, ⟨H6.out, by omega, by have := HL3.out; omega, HNp.out, HNs.out⟩⟩
                        case measure => simp [intOf]; omega
                    · subst hA
                      as_aux_lemma =>
                        obtain ⟨t, ht, ht1, ht2⟩ := nat_adv hb3 hb4
                        have HT := Lib.hid ht
                        have HAd : Hid (Calls Try.prog 10 #[.pointer (some ⟨h, 0, none⟩), .int .i64 N] W fun e w2 => ∃ Ag cg, e = .returned (.tuple #[.slice Ag (upto N r) cg, .int .i64 0]) ∧ ∃ O' L', St w h m L' k t O' r (some ⟨g, o, none⟩) n c w2 ∧ Bx p 4 N wh O' w2 ∧
                            Dus (fun _ => True) w2 Ag (r.take (upto N r)) ∧ (r.drop (upto N r)).Perm (L'.map du) ∧ L'.length ≤ L.length) := Lib.hid (by
                          have := st_advance H1.out X1.out hk9 hL9 t ht1 ht2 HP.out.perm HP.out.srt
                          rw [← ht] at this
                          exact this)
                        obtain ⟨-, -, HU1, HU2⟩ := srt_cut N HP.out.srt
                        have hul : upto N r ≤ n := by
                          have := upto_le N r
                          rw [HP.out.st.len] at this
                          exact this
                        have HU3 := Lib.hid HU1
                        have HU4 := Lib.hid HU2
                        clear HU1 HU2 ht ht1 ht2
                        have HC1 : Hid (∀ (O2 : Nat → Prop) (L2 : List Tm) (w2 : World), c = upto N r → St w h m L2 k t O2 r (some ⟨g, o, none⟩) n c w2 → St w h m L2 k t O2 (r.drop (upto N r)) (some ⟨g, o, none⟩) (n - upto N r) 0 w2) := Lib.hid (fun O2 L2 w2 e hs => by
                          have h6 := hs.cut hul
                          rw [if_pos e] at h6
                          have h7 : c - upto N r = 0 := by omega
                          rw [h7] at h6
                          exact h6)
                        have HC2 : Hid (∀ (O2 : Nat → Prop) (L2 : List Tm) (w2 : World), ¬ c = upto N r → St w h m L2 k t O2 r (some ⟨g, o, none⟩) n c w2 → St w h m L2 k t O2 (r.drop (upto N r)) (some ⟨g, o + upto N r * 3, none⟩) (n - upto N r) (c - upto N r) w2) := Lib.hid (fun O2 L2 w2 e hs => by
                          have h6 := hs.cut hul
                          rw [if_neg e] at h6
                          exact h6)
                        have HNs : Hid (Srt (r.drop (upto N r))) := Lib.hid (HP.out.srt.sublist (List.drop_sublist _ _))
                        have HRl := Lib.hid HP.out.st.len
                        obtain ⟨u, hu⟩ : ∃ u, upto N r = u := ⟨_, rfl⟩
                        rw [hu] at HAd HU3 HU4 hul HNs HC1 HC2
                        have HTl : Hid ((r.take u).length = u) := Lib.hid (by rw [List.length_take, HRl.out]; omega)
                        clear hu
                        have u0 : (0 : Int) ≤ u := by omega
                        have u1 : (u : Int) ≤ n := by omega
                        have u2 : (u : Int) ≤ c := by omega
                        have u3 : (n : Int) ≤ 1000 := by omega
                        go_wp2_with fail
                        clear hW hp
                        refine HAd.out.mono ?_
                        rintro e w3 ⟨Ag, cg, rfl, O3, L3, h3, x3, hg, hp3, hl3⟩
                        have H3 := Lib.hid h3
                        have X3 := Lib.hid x3
                        have c31 := x3.b1
                        have HG := Lib.hid hg
                        have HNp := Lib.hid hp3
                        have HL3 := Lib.hid hl3
                        clear h3 x3 hg hp3 b0 b1 b2
                        have HUp := Lib.hid (upto_any (c := c) H3.out.low H3.out.len (by omega) N u hul (fun hlt => HU4.out (by rw [HRl.out]; exact hlt)) HU3.out)
                        have HIs := Lib.hid fun c1 c2 : Nat => is_any (c := c1) (c2 := c2) HG.out (H3.out.reads.head u) HTl.out (by omega)
                        go_wp2_with fail
                        refine HUp.out.mono ?_
                        rintro e w4 ⟨rfl, rfl⟩
                        go_wp2_with (go_at_call 12; refine (HIs.out _ _).mono ?_; rintro e w5 ⟨rfl, q5, rfl⟩; have H5 := Lib.hid (H3.out.drawn q5); have X5 := Lib.hid (X3.out.drawn q5); have c51 := X5.out.b1)
                        all_goals
                          first
                            | (have HSa := Lib.hid (st_same (HC1.out _ _ _ (by omega) H5.out) X5.out hk9 (by omega) HNp.out HNs.out N0.out N1.out); rw [← HT.out] at HSa; refine HSa.out.mono ?_)
                            | (have HSa := Lib.hid (st_same (HC2.out _ _ _ (by omega) H5.out) X5.out hk9 (by omega) HNp.out HNs.out N0.out N1.out); rw [← HT.out] at HSa; refine HSa.out.mono ?_)
                          rintro e w6 ⟨rfl, h6, x6⟩
                          have H6 := Lib.hid h6
                          clear h6 x6
                          go_wp2
                          go_roundw
                          case rel => exact ⟨i + 1, L3, k, t, O3, _, _, _, _, by omega, by omega, by go_num, val_back HT.out, rfl, rfl, ⟨H6.out, by omega, by have := HL3.out; omega, HNp.out, HNs.out⟩⟩
                          case measure => simp [intOf]; omega
            · by_cases k0 : kd = 0
              · subst k0
                have hmod := tmod_bd N
                obtain ⟨T, hT⟩ : ∃ T, (nw : Int) + N.tmod 100000 = T := ⟨_, rfl⟩
                have hT1 : wrap64 T = T := IntWalk.wrap64_in _ ⟨by omega, by omega⟩
                have hT2 : IntKind.i64.wrap T = T := IntWalk.i64_in _ (by omega)
                clear hmod
                by_cases hb1 : T ≤ nw
                · have hb2 : ¬ (nw : Int) < T := by omega
                  as_aux_lemma =>
                    have HSt := Lib.hid (seton_at_bad H1.out.at_ T wh (by omega))
                    go_wp2_with fail
                    clear hW hp
                    clear hT hT1 hT2
                    refine HSt.out.mono ?_
                    rintro e w3 ⟨rfl, rfl⟩
                    go_wp2
                    go_roundw
                    case rel => exact ⟨i + 1, L, k, nw, O, r, A, n, c, by omega, by omega, by go_num, rfl, rfl, rfl, ⟨H1.out, by omega, by omega, HP.out.perm, HP.out.srt⟩⟩
                    case measure => simp [intOf]; omega
                · have hb2 : (nw : Int) < T := by omega
                  by_cases hb3 : 2097152 < T
                  · as_aux_lemma =>
                      have HSt := Lib.hid (seton_at_bad H1.out.at_ T wh (by omega))
                      go_wp2_with fail
                      clear hW hp
                      clear hT hT1 hT2
                      refine HSt.out.mono ?_
                      rintro e w3 ⟨rfl, rfl⟩
                      go_wp2
                      go_roundw
                      case rel => exact ⟨i + 1, L, k, nw, O, r, A, n, c, by omega, by omega, by go_num, rfl, rfl, rfl, ⟨H1.out, by omega, by omega, HP.out.perm, HP.out.srt⟩⟩
                      case measure => simp [intOf]; omega
                  · as_aux_lemma =>
                      obtain ⟨t, ht, ht1, ht2⟩ := nat_set hb2 hb3
                      have HT := Lib.hid ht
                      have HSt : Hid (Calls Try.prog 13 #[.pointer (some ⟨h, 0, none⟩), .int .i64 T, .int .i64 wh] W fun e w2 => e = .returned (.tuple #[.int .i64 ((k : Int) + 1), .int .i64 0]) ∧ ∃ b O', St w h m (⟨b, t, k + 1, wh⟩ :: L) (k + 1) nw O' r A n c w2 ∧ Bx p 0 N wh O' w2) := Lib.hid (by
                        have := st_set H1.out X1.out hk9 hL9 t wh ht1 ht2
                        rw [← ht] at this
                        exact this)
                      have HT1 := Lib.hid ht1
                      have HT2 := Lib.hid ht2
                      clear ht ht1 ht2
                      have kb : (k : Int) ≤ 60 := by omega
                      go_wp2_with fail
                      clear hW hp
                      clear hT hT1 hT2
                      refine HSt.out.mono ?_
                      rintro e w3 ⟨rfl, b3, O3, h3, x3⟩
                      have H3 := Lib.hid h3
                      have X3 := Lib.hid x3
                      have c31 := x3.b1
                      have c32 := x3.b2
                      clear h3 x3 b0 b1 b2
                      have HPu := Lib.hid (st_put H3.out X3.out hn9 (T, (k : Int) + 1, wh))
                      go_wp2_with fail
                      refine HPu.out.mono ?_
                      rintro e w5 ⟨A5, n5, c5, rfl, h5, x5⟩
                      have H5 := Lib.hid h5
                      have X5 := Lib.hid x5
                      have c51 := x5.b1
                      clear h5 x5
                      have HNp : Hid ((r.take (spot (T, (k : Int) + 1, wh) r) ++ (T, (k : Int) + 1, wh) :: r.drop (spot (T, (k : Int) + 1, wh) r)).Perm ((⟨b3, t, k + 1, wh⟩ :: L : List Tm).map du)) := Lib.hid (by
                        refine (put_perm _ r _).trans ?_
                        rw [HT.out]
                        exact HP.out.perm.cons _)
                      have HNs := Lib.hid (srt_put (T, (k : Int) + 1, wh) HP.out.srt (fun x hx e => by
                        obtain ⟨y, hy, e2⟩ := List.mem_map.1 (HP.out.perm.mem_iff.1 hx)
                        have h6 := (HP.out.st.at_.facts.2.1 y hy).2.1
                        rw [← e2] at e
                        simp only [du] at e
                        omega))
                      generalize r.take (spot (T, (k : Int) + 1, wh) r) ++ (T, (k : Int) + 1, wh) :: r.drop (spot (T, (k : Int) + 1, wh) r) = r5 at *
                      have hn5 : n5 ≤ 1000 := by
                        have h6 := H5.out.len
                        rw [HNp.out.length_eq, List.length_map, List.length_cons] at h6
                        omega
                      have HSa := Lib.hid (st_same H5.out X5.out (by omega) (by omega) HNp.out HNs.out N0.out N1.out)
                      go_wp2_with (go_at_call 15; refine HSa.out.mono ?_; rintro e w6 ⟨rfl, h6, x6⟩; have H6 := Lib.hid h6; clear h6 x6)
                      go_roundw
                      case rel => exact ⟨i + 1, ⟨b3, t, k + 1, wh⟩ :: L, k + 1, nw, O3, r5, A5, n5, c5, by omega, by omega, by go_num, rfl, rfl, by go_num, ⟨H6.out, by omega, by simp; omega, HNp.out, HNs.out⟩⟩
                      case measure => simp [intOf]; omega
              · have d0 : (kd == 0) = false := by simpa using k0
                have d1 : (kd == 1) = false := by simpa using k1
                have d2 : (kd == 2) = false := by simpa using k2
                have d4 : (kd == 4) = false := by simpa using k4
                by_cases hb1 : N ≤ nw
                · have hb2 : ¬ (nw : Int) < N := by omega
                  as_aux_lemma =>
                    have HSt := Lib.hid (seton_at_bad H1.out.at_ N wh (by omega))
                    go_wp2_with fail
                    clear hW hp
                    refine HSt.out.mono ?_
                    rintro e w3 ⟨rfl, rfl⟩
                    go_wp2
                    go_roundw
                    case rel => exact ⟨i + 1, L, k, nw, O, r, A, n, c, by omega, by omega, by go_num, rfl, rfl, rfl, ⟨H1.out, by omega, by omega, HP.out.perm, HP.out.srt⟩⟩
                    case measure => simp [intOf]; omega
                · have hb2 : (nw : Int) < N := by omega
                  by_cases hb3 : 2097152 < N
                  · as_aux_lemma =>
                      have HSt := Lib.hid (seton_at_bad H1.out.at_ N wh (by omega))
                      go_wp2_with fail
                      clear hW hp
                      refine HSt.out.mono ?_
                      rintro e w3 ⟨rfl, rfl⟩
                      go_wp2
                      go_roundw
                      case rel => exact ⟨i + 1, L, k, nw, O, r, A, n, c, by omega, by omega, by go_num, rfl, rfl, rfl, ⟨H1.out, by omega, by omega, HP.out.perm, HP.out.srt⟩⟩
                      case measure => simp [intOf]; omega
                  · as_aux_lemma =>
                      obtain ⟨t, ht, ht1, ht2⟩ := nat_set hb2 hb3
                      have HT := Lib.hid ht
                      have HSt : Hid (Calls Try.prog 13 #[.pointer (some ⟨h, 0, none⟩), .int .i64 N, .int .i64 wh] W fun e w2 => e = .returned (.tuple #[.int .i64 ((k : Int) + 1), .int .i64 0]) ∧ ∃ b O', St w h m (⟨b, t, k + 1, wh⟩ :: L) (k + 1) nw O' r A n c w2 ∧ Bx p kd N wh O' w2) := Lib.hid (by
                        have := st_set H1.out X1.out hk9 hL9 t wh ht1 ht2
                        rw [← ht] at this
                        exact this)
                      have HT1 := Lib.hid ht1
                      have HT2 := Lib.hid ht2
                      clear ht ht1 ht2
                      have kb : (k : Int) ≤ 60 := by omega
                      go_wp2_with fail
                      clear hW hp
                      refine HSt.out.mono ?_
                      rintro e w3 ⟨rfl, b3, O3, h3, x3⟩
                      have H3 := Lib.hid h3
                      have X3 := Lib.hid x3
                      have c31 := x3.b1
                      have c32 := x3.b2
                      clear h3 x3 b0 b1 b2
                      have HPu := Lib.hid (st_put H3.out X3.out hn9 (N, (k : Int) + 1, wh))
                      go_wp2_with fail
                      refine HPu.out.mono ?_
                      rintro e w5 ⟨A5, n5, c5, rfl, h5, x5⟩
                      have H5 := Lib.hid h5
                      have X5 := Lib.hid x5
                      have c51 := x5.b1
                      clear h5 x5
                      have HNp : Hid ((r.take (spot (N, (k : Int) + 1, wh) r) ++ (N, (k : Int) + 1, wh) :: r.drop (spot (N, (k : Int) + 1, wh) r)).Perm ((⟨b3, t, k + 1, wh⟩ :: L : List Tm).map du)) := Lib.hid (by
                        refine (put_perm _ r _).trans ?_
                        rw [HT.out]
                        exact HP.out.perm.cons _)
                      have HNs := Lib.hid (srt_put (N, (k : Int) + 1, wh) HP.out.srt (fun x hx e => by
                        obtain ⟨y, hy, e2⟩ := List.mem_map.1 (HP.out.perm.mem_iff.1 hx)
                        have h6 := (HP.out.st.at_.facts.2.1 y hy).2.1
                        rw [← e2] at e
                        simp only [du] at e
                        omega))
                      generalize r.take (spot (N, (k : Int) + 1, wh) r) ++ (N, (k : Int) + 1, wh) :: r.drop (spot (N, (k : Int) + 1, wh) r) = r5 at *
                      have hn5 : n5 ≤ 1000 := by
                        have h6 := H5.out.len
                        rw [HNp.out.length_eq, List.length_map, List.length_cons] at h6
                        omega
                      have HSa := Lib.hid (st_same H5.out X5.out (by omega) (by omega) HNp.out HNs.out N0.out N1.out)
                      go_wp2_with (go_at_call 15; refine HSa.out.mono ?_; rintro e w6 ⟨rfl, h6, x6⟩; have H6 := Lib.hid h6; clear h6 x6)
                      go_roundw
                      case rel => exact ⟨i + 1, ⟨b3, t, k + 1, wh⟩ :: L, k + 1, nw, O3, r5, A5, n5, c5, by omega, by omega, by go_num, rfl, rfl, by go_num, ⟨H6.out, by omega, by simp; omega, HNp.out, HNs.out⟩⟩
                      case measure => simp [intOf]; omega
      · have hex : i = 60 ∨ (¬ i < nl) := by omega
        have HX : Hid (Below w.heap.size w wr) := Lib.hid HP.out.st.below
        by_cases hx2 : i < nl
        · obtain rfl : i = 60 := by omega
          go_wp2_with fail
          refine (awake_any _).mono ?_
          rintro e w3 ⟨rfl, hb3⟩
          have HB3 := Lib.hid (HX.out.trans (hb3.mono HX.out.size))
          clear hb3
          go_wp2
          go_ret
          exact ⟨rfl, HB3.out⟩
        · clear hex hlt
          go_wp2_with fail
          refine (awake_any _).mono ?_
          rintro e w3 ⟨rfl, hb3⟩
          have HB3 := Lib.hid (HX.out.trans (hb3.mono HX.out.size))
          clear hb3
          go_wp2
          go_ret
          exact ⟨rfl, HB3.out⟩
end Go.Proofs.Ytadppcmbkccmnaa
