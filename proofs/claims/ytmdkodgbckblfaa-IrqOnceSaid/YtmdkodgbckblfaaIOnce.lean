/-
  The law IrqOnce, walked (typed by tools/gen_ionce.py).
-/
import Derived.Test.YtmdkodgbckblfaaICnt
import Derived.Deep.DeepCutAuto
import Derived.Deep.RegionHeld3
namespace Go.Proofs.Ytmdkodgbckblfaa
open Go.ChangeShapes Go.WideShapes Go.ChangeAt Go.RowKit

theorem info_bool : (Try.prog.info? 4).map (fun i => (i.zero, i.size, i.bytes)) = some (some (.bool false), 1, 1) := by kernel_rfl
section
variable {w wr : World} {h g A R T n p : Nat} {L : List Ln} {fa fr : Nat → Int} {ft : Nat → Bool} {kd i : Int} {b : Bool}
theorem keep_raise (H : Keep w h g A R T n L fa fr ft wr) (X : Bx p kd i b g wr) (j : Int) : Calls Try.prog 9 #[.pointer (some ⟨h, 0, none⟩), .int .i64 j] wr fun e w2 => e = .returned (.int .i64 (raiseE L j)) ∧ Keep w h g A R T n (raiseL L j) fa fr ft w2 ∧ Bx p kd i b g w2 :=
  (raise_any H.mem j).mono fun _ _ ⟨he, h1, h2⟩ => ⟨he, H.turn h1 h2 (raiseL_len L j), X.turn h2⟩
theorem keep_mask (H : Keep w h g A R T n L fa fr ft wr) (X : Bx p kd i b g wr) (j : Int) (v : Bool) : Calls Try.prog 10 #[.pointer (some ⟨h, 0, none⟩), .int .i64 j, .bool v] wr fun e w2 => e = .returned (.int .i64 (maskE L j)) ∧ Keep w h g A R T n (maskL L j v) fa fr ft w2 ∧ Bx p kd i b g w2 :=
  (mask_any H.mem j v).mono fun _ _ ⟨he, h1, h2⟩ => ⟨he, H.turn h1 h2 (maskL_len L j v), X.turn h2⟩
theorem keep_ack (H : Keep w h g A R T n L fa fr ft wr) (X : Bx p kd i b g wr) (j : Int) : Calls Try.prog 11 #[.pointer (some ⟨h, 0, none⟩), .int .i64 j] wr fun e w2 => e = .returned (.int .i64 (ackE L j)) ∧ Keep w h g A R T n (ackL L j) fa fr ft w2 ∧ Bx p kd i b g w2 :=
  (ack_any H.mem j).mono fun _ _ ⟨he, h1, h2⟩ => ⟨he, H.turn h1 h2 (ackL_len L j), X.turn h2⟩
theorem keep_next (H : Keep w h g A R T n L fa fr ft wr) (X : Bx p kd i b g wr) : Calls Try.prog 7 #[.pointer (some ⟨h, 0, none⟩)] wr fun e w2 => e = .returned (.tuple #[.int .i64 (nextN L), .bool (nextB L)]) ∧ Keep w h g A R T n (nextL L) fa fr ft w2 ∧ Bx p kd i b g w2 :=
  (next_any H.mem).mono fun _ _ ⟨he, h1, h2⟩ => ⟨he, H.turn h1 h2 (nextL_len L), X.turn h2⟩
end
/-- Two rows of eight noughts, each in a block of its own. -/
def MadeTwo (Z : Array Value) (W : World) (p q : Value) (wx : World) : Prop := ∃ A R, p = .slice (some ⟨A, 0, none⟩) 8 8 ∧ q = .slice (some ⟨R, 0, none⟩) 8 8 ∧ wx.heap[A]? = some (.cells Z 3 (0, 0)) ∧ wx.heap[R]? = some (.cells Z 3 (0, 0)) ∧ A ≠ R ∧ W.heap.size ≤ A ∧ W.heap.size ≤ R ∧ Below W.heap.size W wx

theorem made_two (Z : Array Value) (W : World) : MadeTwo Z W (.slice (some ⟨W.heap.size, 0, none⟩) 8 8) (.slice (some ⟨W.heap.size + 1, 0, none⟩) 8 8) ((W.alloc (.cells Z 3)).alloc (.cells Z 3)).drew := by
  have h1 : ((W.alloc (.cells Z 3)).alloc (.cells Z 3)).heap[W.heap.size]? = some (.cells Z 3 (0, 0)) := by
    rw [Below.heap_alloc _ _ _ (by simp)]
    exact heap_alloc_new _ _
  have h2 : ((W.alloc (.cells Z 3)).alloc (.cells Z 3)).heap[W.heap.size + 1]? = some (.cells Z 3 (0, 0)) := by
    have := heap_alloc_new (W.alloc (.cells Z 3)) (.cells Z 3 (0, 0))
    simpa using this
  exact ⟨_, _, rfl, rfl, h1, h2, by omega, by omega, by omega, (((Below.refl _ _).alloc (Nat.le_refl _) _).alloc (by simp) _).drew⟩
theorem MadeTwo.swap {Z : Array Value} {W wx : World} {p q : Value} (h : MadeTwo Z W p q wx) : MadeTwo Z W q p wx := by
  obtain ⟨A, R, h1, h2, h3, h4, h5, h6, h7, h8⟩ := h
  exact ⟨R, A, h2, h1, h4, h3, Ne.symm h5, h7, h6, h8⟩

set_option maxRecDepth 1000000 in
set_option maxHeartbeats 40000000 in
theorem once_any {w : World} {m : Nat} {Al : Option Addr} {nl cl : Nat} {l : List Ac} (hm : m < 256) (hl : l.length = nl) (hA : Acs w.heap.size w Al l) :
    Calls Try.prog 4 #[.int .u8 (m : Nat), .slice Al nl cl] w fun e w' => e = .returned (.bool true) ∧ Below w.heap.size w w' := by
  obtain ⟨n, hn⟩ : ∃ n, 1 + m % 8 = n := ⟨_, rfl⟩
  have hn0 : 1 ≤ n := by omega
  have hn1 : n ≤ 8 := by omega
  have HA := Lib.hid hA
  have Hl := Lib.hid hl
  have m0 : (0 : Int) ≤ m := by omega
  have m1 : (m : Int) < 256 := by omega
  have Hn := Lib.hid hn
  clear hA hl
  go_enter Try.func4, Try.ntmps4
  go_wp2_with fail
  refine (awake_any _).mono ?_
  rintro e w1 ⟨rfl, hb1⟩
  have HB1 := Lib.hid hb1
  clear hb1
  go_wp2_with fail
  rw [show (1 + (m : Int) % 8) = (n : Int) from by omega]
  refine (new_any n _ hn0 hn1).mono ?_
  rintro e w2 ⟨h, rfl, a1, a2, a3⟩
  have HM := Lib.hid a1
  have HB2 := Lib.hid (HB1.out.trans (a3.mono HB1.out.size))
  have hw12 := HB1.out.size
  clear a1 a2 a3
  obtain ⟨i0, hi, hz0, hz1, hz2⟩ := info_parts info_int
  obtain ⟨b0, hbi, hbz0, hbz1, hbz2⟩ := info_parts info_bool
  obtain ⟨Z, hZ⟩ : ∃ Z, ocells (vi fun _ => 0) = Z := ⟨_, rfl⟩
  obtain ⟨Y, hY⟩ : ∃ Y, ocells (vb fun _ => false) = Y := ⟨_, rfl⟩
  have HZ := Lib.hid hZ
  have HY := Lib.hid hY
  have hmk : ∀ w : World, (Instr.makeSlice 48 (.int .i64 8) (.int .i64 8)).run Try.prog w = .ok (.slice (some ⟨w.heap.size, 0, none⟩) 8 8) (w.alloc (.cells Z 3)) := fun w => by
    have := run_make (P := Try.prog) w 48 3 i0 _ Try.underlying48 hi hz0 .i64 .i64 8 8 (by omega) (by omega) (by rw [hz2]; omega) (by omega)
    rw [this, hz1, ← hZ]
    exact congrArg (fun C => Result.ok (Value.slice (some ⟨w.heap.size, 0, none⟩) 8 8) (w.alloc (.cells C 3))) (made_octet (.int .i64 0))
  have hmb : ∀ w : World, (Instr.makeSlice 49 (.int .i64 8) (.int .i64 8)).run Try.prog w = .ok (.slice (some ⟨w.heap.size, 0, none⟩) 8 8) (w.alloc (.cells Y 4)) := fun w => by
    have := run_make (P := Try.prog) w 49 4 b0 _ Try.underlying49 hbi hbz0 .i64 .i64 8 8 (by omega) (by omega) (by rw [hbz2]; omega) (by omega)
    rw [this, hbz1, ← hY]
    exact congrArg (fun C => Result.ok (Value.slice (some ⟨w.heap.size, 0, none⟩) 8 8) (w.alloc (.cells C 4))) (made_octet (.bool false))
  clear hi hz0 hz1 hz2 hbi hbz0 hbz1 hbz2 hZ hY hn
  go_upto_region 6 with (fail)
  go_cut [7, 8] from 26 to 27 (fun p q wx => MadeTwo Z w2 p q wx)
  case first =>
    go_region
    all_goals (go_wp2_with fail; go_meet)
    all_goals first | exact made_two Z w2 | exact (made_two Z w2).swap
  case rest =>
    obtain ⟨A, R, rfl, rfl, q1, q2, q3, q4, q5, q6⟩ := hcut
    have HS : Hid (Keep w h w1.heap.size A R wc.heap.size n (List.replicate n dark) (fun _ => 0) (fun _ => 0) (fun _ => false) (wc.alloc (.cells Y 4))) := Lib.hid (by
      have hA := lt_of_blk q1
      have hR := lt_of_blk q2
      have hM := HM.out.below q6
      have hM1 := HM.out.glt
      have hM2 := HM.out.hlt
      have hsz := q6.size
      have hbb : Below wc.heap.size wc (wc.alloc (.cells Y 4)) := (Below.refl _ _).alloc (Nat.le_refl _) _
      refine ⟨hM.below hbb, by simp, ?_, ?_, ?_, by omega, by omega, by omega, ⟨q3, by omega, by omega⟩, (HB2.out.trans (q6.mono HB2.out.size)).trans (hbb.mono (by omega))⟩
      · rw [Oct, hbb.block A hA, q1, HZ.out]
      · rw [Oct, hbb.block R hR, q2, HZ.out]
      · rw [Oct, HY.out]
        exact heap_alloc_new _ _)
    obtain ⟨g, hg⟩ : ∃ g, w1.heap.size = g := ⟨_, rfl⟩
    rw [hg] at HS
    clear q1 q2 q3 q4 q5 q6 HM HB1 HB2 HZ hg hmk hw12
    go_wp2_with fail
    obtain ⟨T, hT⟩ : ∃ T, wc.heap.size = T := ⟨_, rfl⟩
    rw [hT] at HS ⊢
    clear hT hmb
    go_loopw [10] (fun u10 wr => ∃ (i : Nat) (L : List Ln) (fa fr : Nat → Int) (ft : Nat → Bool), i ≤ 100 ∧ i ≤ nl ∧ u10 = .int .i64 (i : Nat) ∧ Keep w h g A R T n L fa fr ft wr ∧ Inv i L fa fr ft) (fun u10 _ => 100 - (intOf u10).toNat)
    case atStart => exact ⟨0, _, _, _, _, by omega, by omega, rfl, HS.out, inv_start n⟩
    case round =>
      clear HS HY
      obtain ⟨i, L, fa, fr, ft, hi100, hil, rfl, hP, hI⟩ := hrel
      have HP := Lib.hid hP
      have HI := Lib.hid hI
      have i0 : (0 : Int) ≤ i := by omega
      clear hP hI
      by_cases hlt : i < nl ∧ i < 100
      · obtain ⟨hlt1, hlt2⟩ := hlt
        have i1 : (i : Int) < nl := by omega
        have i2 : (i : Int) < 100 := by omega
        obtain ⟨ab, ao, rfl, hab, hcell⟩ := HA.out (by rw [Hl.out]; omega)
        obtain ⟨⟨kd, I, b⟩, hx⟩ : ∃ x, l[i]? = some x := ⟨_, List.getElem?_eq_getElem (by rw [Hl.out]; exact hlt1)⟩
        obtain ⟨c0, c1, c2⟩ := hcell i _ hx
        have hcs : ∀ j, wr.cell? ⟨ab, j, none⟩ = w.cell? ⟨ab, j, none⟩ := fun j => HP.out.below.cell (p := ⟨ab, j, none⟩) hab
        rw [← hcs] at c0 c1 c2
        dsimp only at c0 c1 c2
        clear hcell hcs hx
        obtain ⟨p, hp⟩ : ∃ p, wr.heap.size = p := ⟨_, rfl⟩
        obtain ⟨W, hW⟩ : ∃ W, wr.alloc (.cells #[.int .i64 kd, .int .i64 I, .bool b] 39 (0, 0)) = W := ⟨_, rfl⟩
        have H1 : Hid (Keep w h g A R T n L fa fr ft W) := Lib.hid (by rw [← hW]; exact HP.out.later ((Below.refl _ _).alloc (Nat.le_refl _) _))
        have X1 : Hid (Bx p kd I b g W) := Lib.hid (by
          rw [← hW, ← hp]
          exact ⟨by simp, by simp, by simp, by simp, fun ho => by have := HP.out.mem.glt; omega⟩)
        have b0 := X1.out.b0
        have b1 := X1.out.b1
        have b2 := X1.out.b2
        have HW := Lib.hid hW
        have Hp := Lib.hid hp
        by_cases j1 : kd = 1
        · subst j1
          as_aux_lemma =>
            have HFr := Lib.hid (keep_mask H1.out X1.out I b)
            go_wp2_with fail
            clear hW hp
            refine HFr.out.mono ?_
            rintro e w2 ⟨rfl, h2, x2⟩
            have H2 := Lib.hid h2
            have f1 := x2.b1
            clear h2 x2 b0 b1 b2 HFr
            have HI2 := Lib.hid (inv_mask HI.out I b)
            clear f1 H1 X1
            generalize maskL L I b = L3 at *
            go_wp2
            go_roundw
            case rel => exact ⟨i + 1, L3, fa, fr, ft, by omega, by omega, by go_num, H2.out, HI2.out⟩
            case measure => simp [intOf]; omega
        · by_cases j2 : kd = 2
          · subst j2
            rcases inv_next HI.out with ⟨z2, z1, z3⟩ | ⟨N, hN, z1, z2, z3, z4, hI2⟩
            · as_aux_lemma =>
                have HFr := Lib.hid (keep_next H1.out X1.out)
                rw [z1, z2, z3] at HFr
                go_wp2_with fail
                clear hW hp
                refine HFr.out.mono ?_
                rintro e w2 ⟨rfl, h2, x2⟩
                have H2 := Lib.hid h2
                have f1 := x2.b1
                clear h2 x2 b0 b1 b2 HFr
                have HI2 := Lib.hid HI.out.up
                clear f1 H1 X1 z1 z2 z3
                go_wp2
                go_roundw
                case rel => exact ⟨i + 1, L, fa, fr, ft, by omega, by omega, by go_num, H2.out, HI2.out⟩
                case measure => simp [intOf]; omega
            · as_aux_lemma =>
                by_cases ht : ft N = true
                · have HFr := Lib.hid (keep_next H1.out X1.out)
                  rw [z1, z2] at HFr
                  go_wp2_with fail
                  clear hW hp
                  refine HFr.out.mono ?_
                  rintro e w2 ⟨rfl, h2, x2⟩
                  have H2 := Lib.hid h2
                  have f1 := x2.b1
                  clear h2 x2 b0 b1 b2 HFr
                  have hN8 : N < 8 := by
                    have := H2.out.len
                    rw [nextL_len] at this
                    omega
                  have HI2 := Lib.hid hI2
                  have N0 : (0 : Int) ≤ N := by omega
                  have N1 : (N : Int) < 8 := by omega
                  have ca := H2.out.ca.cell hN8
                  have cr := H2.out.cr.cell hN8
                  have ct := H2.out.ct.cell hN8
                  have ka := H2.out.ca.free N
                  have kr := H2.out.cr.free N
                  have kt := H2.out.ct.free N
                  simp only [vi, vb] at ca cr ct
                  have HE := Lib.hid (((H2.out.putT hN8 true).putA hN8 0).putR hN8 0)
                  have dd := H2.out.dd
                  obtain ⟨dd1, dd2, dd3⟩ := dd
                  rw [ht] at ct
                  have ga := z4 ht
                  generalize fa N = qa at *
                  generalize fr N = qr at *
                  clear f1 H1 X1 z1 z2 z4 ht hI2 H2 HI
                  generalize nextL L = L3 at *
                  go_wp2
                  go_roundw
                  case rel => exact ⟨i + 1, L3, upd fa N 0, upd fr N 0, upd ft N true, by omega, by omega, by go_num, HE.out, HI2.out⟩
                  case measure => simp [intOf]; omega
                · have HFr := Lib.hid (keep_next H1.out X1.out)
                  rw [z1, z2] at HFr
                  go_wp2_with fail
                  clear hW hp
                  refine HFr.out.mono ?_
                  rintro e w2 ⟨rfl, h2, x2⟩
                  have H2 := Lib.hid h2
                  have f1 := x2.b1
                  clear h2 x2 b0 b1 b2 HFr
                  have hN8 : N < 8 := by
                    have := H2.out.len
                    rw [nextL_len] at this
                    omega
                  have HI2 := Lib.hid hI2
                  have N0 : (0 : Int) ≤ N := by omega
                  have N1 : (N : Int) < 8 := by omega
                  have ca := H2.out.ca.cell hN8
                  have cr := H2.out.cr.cell hN8
                  have ct := H2.out.ct.cell hN8
                  have ka := H2.out.ca.free N
                  have kr := H2.out.cr.free N
                  have kt := H2.out.ct.free N
                  simp only [vi, vb] at ca cr ct
                  have HE := Lib.hid (((H2.out.putT hN8 true).putA hN8 0).putR hN8 0)
                  have dd := H2.out.dd
                  obtain ⟨dd1, dd2, dd3⟩ := dd
                  rw [Bool.not_eq_true] at ht
                  rw [ht] at ct
                  generalize fa N = qa at *
                  generalize fr N = qr at *
                  clear f1 H1 X1 z1 z2 z4 ht hI2 H2 HI
                  generalize nextL L = L3 at *
                  go_wp2
                  go_roundw
                  case rel => exact ⟨i + 1, L3, upd fa N 0, upd fr N 0, upd ft N true, by omega, by omega, by go_num, HE.out, HI2.out⟩
                  case measure => simp [intOf]; omega
          · by_cases j3 : kd = 3
            · subst j3
              by_cases h0 : ackE L I = 0
              · as_aux_lemma =>
                  obtain ⟨k, rfl, hkl, hI2⟩ := inv_ack_ok HI.out I h0
                  have HI2 := Lib.hid hI2
                  have HFr := Lib.hid (keep_ack H1.out X1.out (k : Int))
                  rw [h0] at HFr
                  clear hI2 h0
                  go_wp2_with fail
                  clear hW hp
                  refine HFr.out.mono ?_
                  rintro e w2 ⟨rfl, h2, x2⟩
                  have H2 := Lib.hid h2
                  have f1 := x2.b1
                  clear h2 x2 b0 b1 b2 HFr
                  have hk8 : k < 8 := by
                    have := H2.out.len
                    rw [ackL_len] at this
                    omega
                  have k0 : (0 : Int) ≤ k := by omega
                  have k1 : (k : Int) < 8 := by omega
                  have cc := H2.out.ca.cell hk8
                  have cf := H2.out.ca.free k
                  have hbd := HI.out.bd k
                  obtain ⟨q, hq⟩ : ∃ q, fa k = q := ⟨_, rfl⟩
                  rw [hq] at HI2 hbd
                  simp only [vi] at cc
                  rw [hq] at cc
                  have q0 : 0 ≤ q := by omega
                  have q1 : q ≤ 100 := by omega
                  have HE := Lib.hid (H2.out.putA hk8 (q + 1))
                  clear hbd hq H2 H1 X1
                  generalize ackL L (k : Int) = L3 at *
                  go_wp2
                  go_roundw
                  case rel => exact ⟨i + 1, L3, upd fa k (q + 1), fr, ft, by omega, by omega, by go_num, HE.out, HI2.out⟩
                  case measure => simp [intOf]; omega
              · as_aux_lemma =>
                  have HFr := Lib.hid (keep_ack H1.out X1.out I)
                  go_wp2_with fail
                  clear hW hp
                  refine HFr.out.mono ?_
                  rintro e w2 ⟨rfl, h2, x2⟩
                  have H2 := Lib.hid h2
                  have f1 := x2.b1
                  clear h2 x2 b0 b1 b2 HFr
                  have HI2 := Lib.hid (inv_ack_no HI.out I h0)
                  have e0 : (ackE L I == 0) = false := by simpa using h0
                  clear f1 H1 X1 h0
                  generalize ackL L I = L3 at *
                  generalize ackE L I = E at *
                  go_wp2
                  go_roundw
                  case rel => exact ⟨i + 1, L3, fa, fr, ft, by omega, by omega, by go_num, H2.out, HI2.out⟩
                  case measure => simp [intOf]; omega
            · by_cases h0 : raiseE L I = 0
              · as_aux_lemma =>
                  have q1' : (kd == 1) = false := by simpa using j1
                  have q2' : (kd == 2) = false := by simpa using j2
                  have q3' : (kd == 3) = false := by simpa using j3
                  obtain ⟨k, rfl, hkl, hI2⟩ := inv_raise_ok HI.out I h0
                  have HI2 := Lib.hid hI2
                  have HFr := Lib.hid (keep_raise H1.out X1.out (k : Int))
                  rw [h0] at HFr
                  clear hI2 h0
                  go_wp2_with fail
                  clear hW hp
                  refine HFr.out.mono ?_
                  rintro e w2 ⟨rfl, h2, x2⟩
                  have H2 := Lib.hid h2
                  have f1 := x2.b1
                  clear h2 x2 b0 b1 b2 HFr
                  have hk8 : k < 8 := by
                    have := H2.out.len
                    rw [raiseL_len] at this
                    omega
                  have k0 : (0 : Int) ≤ k := by omega
                  have k1 : (k : Int) < 8 := by omega
                  have cc := H2.out.cr.cell hk8
                  have cf := H2.out.cr.free k
                  have hbd := HI.out.bd k
                  obtain ⟨q, hq⟩ : ∃ q, fr k = q := ⟨_, rfl⟩
                  rw [hq] at HI2 hbd
                  simp only [vi] at cc
                  rw [hq] at cc
                  have q0 : 0 ≤ q := by omega
                  have q1 : q ≤ 100 := by omega
                  have HE := Lib.hid (H2.out.putR hk8 (q + 1))
                  clear hbd hq H2 H1 X1
                  generalize raiseL L (k : Int) = L3 at *
                  go_wp2
                  go_roundw
                  case rel => exact ⟨i + 1, L3, fa, upd fr k (q + 1), ft, by omega, by omega, by go_num, HE.out, HI2.out⟩
                  case measure => simp [intOf]; omega
              · as_aux_lemma =>
                  have q1' : (kd == 1) = false := by simpa using j1
                  have q2' : (kd == 2) = false := by simpa using j2
                  have q3' : (kd == 3) = false := by simpa using j3
                  have HFr := Lib.hid (keep_raise H1.out X1.out I)
                  go_wp2_with fail
                  clear hW hp
                  refine HFr.out.mono ?_
                  rintro e w2 ⟨rfl, h2, x2⟩
                  have H2 := Lib.hid h2
                  have f1 := x2.b1
                  clear h2 x2 b0 b1 b2 HFr
                  have HI2 := Lib.hid (inv_raise_no HI.out I h0)
                  have e0 : (raiseE L I == 0) = false := by simpa using h0
                  clear f1 H1 X1 h0
                  generalize raiseL L I = L3 at *
                  generalize raiseE L I = E at *
                  go_wp2
                  go_roundw
                  case rel => exact ⟨i + 1, L3, fa, fr, ft, by omega, by omega, by go_num, H2.out, HI2.out⟩
                  case measure => simp [intOf]; omega
      · have HX : Hid (Below w.heap.size w wr) := Lib.hid HP.out.below
        by_cases hx2 : i < nl
        · obtain rfl : i = 100 := by omega
          go_wp2_with fail
          refine (awake_any _).mono ?_
          rintro e w3 ⟨rfl, hb3⟩
          have HB3 := Lib.hid (HX.out.trans (hb3.mono HX.out.size))
          clear hb3
          go_wp2
          go_ret
          exact ⟨rfl, HB3.out⟩
        · clear hlt
          go_wp2_with fail
          refine (awake_any _).mono ?_
          rintro e w3 ⟨rfl, hb3⟩
          have HB3 := Lib.hid (HX.out.trans (hb3.mono HX.out.size))
          clear hb3
          go_wp2
          go_ret
          exact ⟨rfl, HB3.out⟩
end Go.Proofs.Ytmdkodgbckblfaa
