/-
  The law FramesPlay, walked (typed by tools/gen_yplays.py).
-/
import Derived.Test.YtajmpmehfekokaaYAt
import Derived.Test.YtajmpmehfekokaaOpens
namespace Go.Proofs.Ytajmpmehfekokaa
open Go.ChangeShapes Go.WideShapes Go.ChangeAt Go.RowKit

/-- An act: which, I, At, B. -/
abbrev Ac := Int × Int × Int × UInt8
/-- A list of acts, as it comes in. -/
def Acs (B : Nat) (w : World) (A : Option Addr) (l : List Ac) : Prop := 0 < l.length → ∃ b o, A = some ⟨b, o, none⟩ ∧ b < B ∧ ∀ i x, l[i]? = some x → w.cell? ⟨b, o + i * 4, none⟩ = some (.int .i64 x.1) ∧ w.cell? ⟨b, o + i * 4 + 1, none⟩ = some (.int .i64 x.2.1) ∧ w.cell? ⟨b, o + i * 4 + 2, none⟩ = some (.int .i64 x.2.2.1) ∧ w.cell? ⟨b, o + i * 4 + 3, none⟩ = some (.int .u8 (x.2.2.2.toNat : Int))

set_option maxRecDepth 1000000 in
set_option maxHeartbeats 40000000 in
theorem plays_any {w : World} {n0 : Int} {Al : Option Addr} {nl cl : Nat} {l : List Ac} (hl : l.length = nl) (hA : Acs w.heap.size w Al l) :
    Calls Try.prog 3 #[.int .i64 n0, .slice Al nl cl] w fun e w' => e = .returned (.bool true) ∧ Below w.heap.size w w' := by
  by_cases hn : n0 < 1 ∨ 32 < n0
  · have HNb := Lib.hid fun w => new_bad n0 w hn
    by_cases h0 : n0 < 1
    · clear hn hA
      go_enter Try.func3, Try.ntmps3
      go_wp2_with fail
      refine (awake_any _).mono ?_
      rintro e w1 ⟨rfl, hb1⟩
      have HB1 := Lib.hid hb1
      clear hb1
      go_wp2_with (go_at_call 5; refine (HNb.out _).mono ?_; rintro e w2 ⟨rfl, rfl⟩)
      refine (awake_any _).mono ?_
      rintro e w3 ⟨rfl, hb3⟩
      have HB3 := Lib.hid (HB1.out.trans (hb3.mono HB1.out.size))
      clear hb3
      go_wp2
      go_ret
      exact ⟨rfl, HB3.out⟩
    · have h1 : 32 < n0 := by omega
      clear hn hA
      go_enter Try.func3, Try.ntmps3
      go_wp2_with fail
      refine (awake_any _).mono ?_
      rintro e w1 ⟨rfl, hb1⟩
      have HB1 := Lib.hid hb1
      clear hb1
      go_wp2_with (go_at_call 5; refine (HNb.out _).mono ?_; rintro e w2 ⟨rfl, rfl⟩)
      refine (awake_any _).mono ?_
      rintro e w3 ⟨rfl, hb3⟩
      have HB3 := Lib.hid (HB1.out.trans (hb3.mono HB1.out.size))
      clear hb3
      go_wp2
      go_ret
      exact ⟨rfl, HB3.out⟩
  · obtain ⟨n, rfl⟩ : ∃ n : Nat, n0 = (n : Int) := ⟨n0.toNat, by omega⟩
    have hn0 : (1 : Int) ≤ n := by omega
    have hn1 : (n : Int) ≤ 32 := by omega
    have HA := Lib.hid hA
    have Hl := Lib.hid hl
    clear hn hA hl
    go_enter Try.func3, Try.ntmps3
    go_wp2_with fail
    refine (awake_any _).mono ?_
    rintro e w1 ⟨rfl, hb1⟩
    have HB1 := Lib.hid hb1
    clear hb1
    go_wp2_with fail
    refine (new_any n _ (by omega) (by omega)).mono ?_
    rintro e w2 ⟨rfl, a1, a2⟩
    have HM := Lib.hid a1
    have HB2 := Lib.hid (HB1.out.trans (a2.mono HB1.out.size))
    have hw12 := HB1.out.size
    clear a1 a2
    go_wp2_with fail
    refine (rnew_any n _ (by omega) (by omega)).mono ?_
    rintro e w3 ⟨rfl, a3, a4, a5⟩
    have HS : Hid (Two w w1.heap.size w2.heap.size n n (blank n) (blank n) w3) := Lib.hid ⟨HM.out.below a5, a3, by simp [blank], by simp [blank], hw12, by have := HM.out.lt; omega, a4, Nat.le_refl _, by omega, HB2.out.trans (a5.mono HB2.out.size)⟩
    obtain ⟨h, hh⟩ : ∃ h, w1.heap.size = h := ⟨_, rfl⟩
    rw [hh] at HS ⊢
    obtain ⟨g0, hg0⟩ : ∃ g0, w2.heap.size = g0 := ⟨_, rfl⟩
    rw [hg0] at HS ⊢
    clear a3 a4 a5 HM hh hg0 hw12 HB1 HB2
    go_wp2_with fail
    go_loopw [7, 8] (fun u7 u8 wr => ∃ (i g c : Nat) (L : List Fr), i ≤ 80 ∧ i ≤ nl ∧ u7 = .slice (some ⟨g, 0, none⟩) n c ∧ u8 = .int .i64 (i : Nat) ∧ Two w h g n c L L wr) (fun _ u8 _ => 80 - (intOf u8).toNat)
    case atStart => exact ⟨0, g0, n, blank n, by omega, by omega, rfl, rfl, HS.out⟩
    case round =>
      clear HS
      obtain ⟨i, g, c, L, hi80, hil, rfl, rfl, hP⟩ := hrel
      have HP := Lib.hid hP
      have hcap := hP.cap
      have hc63 := hP.c63
      have i0 : (0 : Int) ≤ i := by omega
      clear hP
      by_cases hlt : i < nl ∧ i < 80
      · obtain ⟨hlt1, hlt2⟩ := hlt
        have i1 : (i : Int) < nl := by omega
        have i2 : (i : Int) < 80 := by omega
        obtain ⟨ab, ao, rfl, hab, hcell⟩ := HA.out (by rw [Hl.out]; omega)
        obtain ⟨⟨kd, I, T, b⟩, hx⟩ : ∃ x, l[i]? = some x := ⟨_, List.getElem?_eq_getElem (by rw [Hl.out]; exact hlt1)⟩
        obtain ⟨c0, c1, c2, c3⟩ := hcell i _ hx
        have hcs : ∀ j, wr.cell? ⟨ab, j, none⟩ = w.cell? ⟨ab, j, none⟩ := fun j => HP.out.below.cell (p := ⟨ab, j, none⟩) hab
        rw [← hcs] at c0 c1 c2 c3
        dsimp only at c0 c1 c2 c3
        clear hcell hcs hx
        obtain ⟨p, hp⟩ : ∃ p, wr.heap.size = p := ⟨_, rfl⟩
        obtain ⟨W, hW⟩ : ∃ W, wr.alloc (.cells #[.int .i64 kd, .int .i64 I, .int .i64 T, .int .u8 (b.toNat : Int)] 31 (0, 0)) = W := ⟨_, rfl⟩
        have H1 : Hid (Two w h g n c L L W) := Lib.hid (by rw [← hW]; exact HP.out.later ((Below.refl _ _).alloc (Nat.le_refl _) _))
        have X1 : Hid (Bx p kd I T b h W) := Lib.hid (by
          rw [← hW, ← hp]
          exact ⟨by simp, by simp, by simp, by simp, by simp, fun ho => by have := HP.out.mem.lt; omega⟩)
        have b0 := X1.out.b0
        have b1 := X1.out.b1
        have b2 := X1.out.b2
        have b3 := X1.out.b3
        have HW := Lib.hid hW
        have Hp := Lib.hid hp
        by_cases k1 : kd = 1
        · subst k1
          as_aux_lemma =>
            have HFr := Lib.hid (two_free H1.out X1.out I)
            go_wp2_with fail
            clear hW hp
            refine HFr.out.mono ?_
            rintro e w2 ⟨rfl, h2, x2⟩
            have H2 := Lib.hid h2
            have X2 := Lib.hid x2
            have f1 := x2.b1
            clear h2 x2 b0 b1 b2 b3
            have HGi := Lib.hid (two_give H2.out X2.out I)
            go_wp2_with fail
            refine HGi.out.mono ?_
            rintro e w3 ⟨g3, c3, rfl, h3, x3⟩
            have H3 := Lib.hid h3
            have X3 := Lib.hid x3
            clear h3 x3 f1 HFr HGi H2 X2
            generalize giveE L I = E at *
            generalize giveL L I = L3 at *
            have HSa : Hid (∀ w', Below w3.heap.size w3 w' → Calls Try.prog 15 #[.pointer (some ⟨h, 0, none⟩), .slice (some ⟨g3, 0, none⟩) n c3] w' fun e w'' => e = .returned (.bool true) ∧ Below w'.heap.size w' w'') := Lib.hid fun w' hb => same_any (H3.out.later hb).mem (H3.out.later hb).doc (H3.out.later hb).glt H3.out.len
            have HTk : Hid (∀ w', Below w3.heap.size w3 w' → Calls Try.prog 16 #[.pointer (some ⟨h, 0, none⟩), .int .i64 I] w' fun e w'' => e = .returned (.bool (tkAt L3 I)) ∧ w' = w'') := Lib.hid fun w' hb => taken_any (H3.out.later hb).mem I
            have HIs : Hid (∀ w', Below w3.heap.size w3 w' → Calls Try.prog 17 #[.slice (some ⟨g3, 0, none⟩) n c3, .int .i64 I] w' fun e w'' => e = .returned (.bool (tkAt L3 I)) ∧ w' = w'') := Lib.hid fun w' hb => is_any (H3.out.later hb).doc H3.out.len I
            have hplt := X3.out.lt
            have d1 := X3.out.b1
            have e1 : (E != E) = false := by simp
            have e2 : (tkAt L3 I != tkAt L3 I) = false := by simp
            have HF : Hid (∀ m : Later w3.heap.size w3, Two w h g3 n c3 L3 L3 m.world) := Lib.hid fun m => H3.out.later m.below
            generalize tkAt L3 I = tk at *
            clear H1 X1
            go_wp2_with fail
            refine wp_region_later w3.heap.size w3 (by kernel_rfl) (by kernel_rfl) (Below.refl _ _) ?_
            repeat (go_big_quiet_step (first
              | (go_at_call 15; (with_reducible refine Calls.later ?_ (HSa.out _ (Later.below _))); exact Nat.le_refl _)
              | (go_at_call 16; with_reducible refine Calls.later_same (HTk.out _ (Later.below _)))
              | (go_at_call 17; with_reducible refine Calls.later_same (HIs.out _ (Later.below _)))))
            refine wpQuiet_nil ?_
            rintro _ ⟨m1, rfl⟩
            go_wp2
            go_roundw
            case rel => exact ⟨i + 1, g3, c3, L3, by omega, by omega, rfl, by go_num, HF.out m1⟩
            case measure => simp [intOf]; omega
        · by_cases k2 : kd = 2
          · subst k2
            as_aux_lemma =>
              have HRe := Lib.hid (read_any H1.out.mem I T)
              have HRr := Lib.hid (rread_any (c := c) H1.out.doc H1.out.lem I T)
              have H3 := Lib.hid H1.out
              have X3 := Lib.hid X1.out
              have e0 : (readV L I T != readV L I T) = false := by simp
              generalize readV L I T = v at *
              generalize rwE L I T = E at *
              go_wp2_with fail
              clear hW hp
              refine HRe.out.mono ?_
              rintro e w2 ⟨rfl, rfl⟩
              go_wp2_with fail
              refine HRr.out.mono ?_
              rintro e w3 ⟨rfl, rfl⟩
              clear b0 b1 b2 b3 HRe HRr
              have HSa : Hid (∀ w', Below W.heap.size W w' → Calls Try.prog 15 #[.pointer (some ⟨h, 0, none⟩), .slice (some ⟨g, 0, none⟩) n c] w' fun e w'' => e = .returned (.bool true) ∧ Below w'.heap.size w' w'') := Lib.hid fun w' hb => same_any (H3.out.later hb).mem (H3.out.later hb).doc (H3.out.later hb).glt H3.out.len
              have HTk : Hid (∀ w', Below W.heap.size W w' → Calls Try.prog 16 #[.pointer (some ⟨h, 0, none⟩), .int .i64 I] w' fun e w'' => e = .returned (.bool (tkAt L I)) ∧ w' = w'') := Lib.hid fun w' hb => taken_any (H3.out.later hb).mem I
              have HIs : Hid (∀ w', Below W.heap.size W w' → Calls Try.prog 17 #[.slice (some ⟨g, 0, none⟩) n c, .int .i64 I] w' fun e w'' => e = .returned (.bool (tkAt L I)) ∧ w' = w'') := Lib.hid fun w' hb => is_any (H3.out.later hb).doc H3.out.len I
              have hplt := X3.out.lt
              have d1 := X3.out.b1
              have e1 : (E != E) = false := by simp
              have e2 : (tkAt L I != tkAt L I) = false := by simp
              have HF : Hid (∀ m : Later W.heap.size W, Two w h g n c L L m.world) := Lib.hid fun m => H3.out.later m.below
              generalize tkAt L I = tk at *
              clear H1 X1
              go_wp2_with fail
              refine wp_region_later W.heap.size W (by kernel_rfl) (by kernel_rfl) (Below.refl _ _) ?_
              repeat (go_big_quiet_step (first
                | (go_at_call 15; (with_reducible refine Calls.later ?_ (HSa.out _ (Later.below _))); exact Nat.le_refl _)
                | (go_at_call 16; with_reducible refine Calls.later_same (HTk.out _ (Later.below _)))
                | (go_at_call 17; with_reducible refine Calls.later_same (HIs.out _ (Later.below _)))))
              refine wpQuiet_nil ?_
              rintro _ ⟨m1, rfl⟩
              go_wp2
              go_roundw
              case rel => exact ⟨i + 1, g, c, L, by omega, by omega, rfl, by go_num, HF.out m1⟩
              case measure => simp [intOf]; omega
          · by_cases k3 : kd = 3
            · subst k3
              as_aux_lemma =>
                have HWr := Lib.hid (two_write H1.out X1.out I T b)
                go_wp2_with fail
                clear hW hp
                refine HWr.out.mono ?_
                rintro e w2 ⟨rfl, h2, x2⟩
                have H2 := Lib.hid h2
                have X2 := Lib.hid x2
                have f1 := x2.b1
                have f2 := x2.b2
                have f3 := x2.b3
                clear h2 x2 b0 b1 b2 b3
                have HGi := Lib.hid (two_rwrite H2.out X2.out I T b)
                go_wp2_with fail
                refine HGi.out.mono ?_
                rintro e w3 ⟨g3, c3, rfl, h3, x3⟩
                have H3 := Lib.hid h3
                have X3 := Lib.hid x3
                clear h3 x3 f1 f2 f3 HWr HGi H2 X2
                generalize rwE L I T = E at *
                generalize writeL L I T b = L3 at *
                have HSa : Hid (∀ w', Below w3.heap.size w3 w' → Calls Try.prog 15 #[.pointer (some ⟨h, 0, none⟩), .slice (some ⟨g3, 0, none⟩) n c3] w' fun e w'' => e = .returned (.bool true) ∧ Below w'.heap.size w' w'') := Lib.hid fun w' hb => same_any (H3.out.later hb).mem (H3.out.later hb).doc (H3.out.later hb).glt H3.out.len
                have HTk : Hid (∀ w', Below w3.heap.size w3 w' → Calls Try.prog 16 #[.pointer (some ⟨h, 0, none⟩), .int .i64 I] w' fun e w'' => e = .returned (.bool (tkAt L3 I)) ∧ w' = w'') := Lib.hid fun w' hb => taken_any (H3.out.later hb).mem I
                have HIs : Hid (∀ w', Below w3.heap.size w3 w' → Calls Try.prog 17 #[.slice (some ⟨g3, 0, none⟩) n c3, .int .i64 I] w' fun e w'' => e = .returned (.bool (tkAt L3 I)) ∧ w' = w'') := Lib.hid fun w' hb => is_any (H3.out.later hb).doc H3.out.len I
                have hplt := X3.out.lt
                have d1 := X3.out.b1
                have e1 : (E != E) = false := by simp
                have e2 : (tkAt L3 I != tkAt L3 I) = false := by simp
                have HF : Hid (∀ m : Later w3.heap.size w3, Two w h g3 n c3 L3 L3 m.world) := Lib.hid fun m => H3.out.later m.below
                generalize tkAt L3 I = tk at *
                clear H1 X1
                go_wp2_with fail
                refine wp_region_later w3.heap.size w3 (by kernel_rfl) (by kernel_rfl) (Below.refl _ _) ?_
                repeat (go_big_quiet_step (first
                  | (go_at_call 15; (with_reducible refine Calls.later ?_ (HSa.out _ (Later.below _))); exact Nat.le_refl _)
                  | (go_at_call 16; with_reducible refine Calls.later_same (HTk.out _ (Later.below _)))
                  | (go_at_call 17; with_reducible refine Calls.later_same (HIs.out _ (Later.below _)))))
                refine wpQuiet_nil ?_
                rintro _ ⟨m1, rfl⟩
                go_wp2
                go_roundw
                case rel => exact ⟨i + 1, g3, c3, L3, by omega, by omega, rfl, by go_num, HF.out m1⟩
                case measure => simp [intOf]; omega
            · as_aux_lemma =>
                have d1 : (kd == 1) = false := by simpa using k1
                have d2 : (kd == 2) = false := by simpa using k2
                have d3 : (kd == 3) = false := by simpa using k3
                have HTa := Lib.hid (two_take H1.out X1.out)
                go_wp2_with fail
                clear hW hp
                refine HTa.out.mono ?_
                rintro e w2 ⟨rfl, h2, x2⟩
                have H2 := Lib.hid h2
                have X2 := Lib.hid x2
                clear h2 x2 b0 b1 b2 b3
                have HGi := Lib.hid (two_rtake H2.out X2.out)
                have e0 : (takeN L != takeN L) = false := by simp
                go_wp2_with fail
                refine HGi.out.mono ?_
                rintro e w3 ⟨g3, c3, rfl, h3, x3⟩
                have H3 := Lib.hid h3
                have X3 := Lib.hid x3
                clear h3 x3 HTa HGi H2 X2 d1 d2 d3
                generalize takeN L = N at *
                generalize takeE L = E at *
                generalize takeL L = L3 at *
                have HSa : Hid (∀ w', Below w3.heap.size w3 w' → Calls Try.prog 15 #[.pointer (some ⟨h, 0, none⟩), .slice (some ⟨g3, 0, none⟩) n c3] w' fun e w'' => e = .returned (.bool true) ∧ Below w'.heap.size w' w'') := Lib.hid fun w' hb => same_any (H3.out.later hb).mem (H3.out.later hb).doc (H3.out.later hb).glt H3.out.len
                have HTk : Hid (∀ w', Below w3.heap.size w3 w' → Calls Try.prog 16 #[.pointer (some ⟨h, 0, none⟩), .int .i64 I] w' fun e w'' => e = .returned (.bool (tkAt L3 I)) ∧ w' = w'') := Lib.hid fun w' hb => taken_any (H3.out.later hb).mem I
                have HIs : Hid (∀ w', Below w3.heap.size w3 w' → Calls Try.prog 17 #[.slice (some ⟨g3, 0, none⟩) n c3, .int .i64 I] w' fun e w'' => e = .returned (.bool (tkAt L3 I)) ∧ w' = w'') := Lib.hid fun w' hb => is_any (H3.out.later hb).doc H3.out.len I
                have hplt := X3.out.lt
                have d1 := X3.out.b1
                have e1 : (E != E) = false := by simp
                have e2 : (tkAt L3 I != tkAt L3 I) = false := by simp
                have HF : Hid (∀ m : Later w3.heap.size w3, Two w h g3 n c3 L3 L3 m.world) := Lib.hid fun m => H3.out.later m.below
                generalize tkAt L3 I = tk at *
                clear H1 X1
                go_wp2_with fail
                refine wp_region_later w3.heap.size w3 (by kernel_rfl) (by kernel_rfl) (Below.refl _ _) ?_
                repeat (go_big_quiet_step (first
                  | (go_at_call 15; (with_reducible refine Calls.later ?_ (HSa.out _ (Later.below _))); exact Nat.le_refl _)
                  | (go_at_call 16; with_reducible refine Calls.later_same (HTk.out _ (Later.below _)))
                  | (go_at_call 17; with_reducible refine Calls.later_same (HIs.out _ (Later.below _)))))
                refine wpQuiet_nil ?_
                rintro _ ⟨m1, rfl⟩
                go_wp2
                go_roundw
                case rel => exact ⟨i + 1, g3, c3, L3, by omega, by omega, rfl, by go_num, HF.out m1⟩
                case measure => simp [intOf]; omega
      · have HX : Hid (Below w.heap.size w wr) := Lib.hid HP.out.below
        by_cases hx2 : i < nl
        · obtain rfl : i = 80 := by omega
          go_wp2_with fail
          refine (awake_any _).mono ?_
          rintro e w3 ⟨rfl, hb3⟩
          have HB3 := Lib.hid (HX.out.trans (hb3.mono HX.out.size))
          clear hb3
          go_wp2
          go_ret
          exact ⟨rfl, HB3.out⟩
        · clear hlt
          go_wp2_with fail
          refine (awake_any _).mono ?_
          rintro e w3 ⟨rfl, hb3⟩
          have HB3 := Lib.hid (HX.out.trans (hb3.mono HX.out.size))
          clear hb3
          go_wp2
          go_ret
          exact ⟨rfl, HB3.out⟩
end Go.Proofs.Ytajmpmehfekokaa
