/-
  The law FitWiths answers true: its walk out of the contracts.
-/
import Derived.Test.YtlpmcmgalodfeaaFWalksD
import Derived.Test.YtlpmcmgalodfeaaFWalksH
namespace Go.Proofs.Ytlpmcmgalodfeaa
open Go.ChangeShapes Go.WideShapes Go.ChangeAt Go.RowKit

/-- A list of tasks, made. -/
def AllMade (W : World) (L : List (Int × Int × Int)) (k : Nat) (p : Value) (w : World) : Prop := ∃ A c, p = .slice A k c ∧ Below W.heap.size W w ∧ Tks w.heap.size w A L
def slen : Value → Nat
  | .slice _ k _ => k
  | _ => 0
theorem tasks_empty2 {w : World} {base : Nat} {e : TypeId} {size : Nat} {o : Obj} (hb : base ≤ w.heap.size) : ((w.alloc o).alloc (.cells #[] e)).ownsRow base e size (.slice (some ⟨w.heap.size + 1, 0, none⟩) 0 0) 0 [] := by
  have := own_empty (w := w.alloc o) (base := base) (e := e) (size := size) (by simp; omega)
  simpa using this
theorem pad_more (s : List Int) (m k : Nat) (h : m ≤ k) : s ++ List.replicate (k + 1 - m) 0 = s ++ List.replicate (k - m) 0 ++ [(0 : Int)] := by
  rw [show k + 1 - m = (k - m) + 1 by omega, List.replicate_succ', List.append_assoc]

set_option maxRecDepth 100000 in
set_option maxHeartbeats 8000000 in
theorem fwiths_any (A : Option Addr) (n c : Nat) (l : List (Int × Int × Int)) (A2 : Option Addr) (m c2 : Nat) (s : List Int) (tc tp td x b p t : Int) (w : World) (hln : l.length = n) (hL : Tks w.heap.size w A l) (hsm : s.length = m) (hS : NumsI w.heap.size w A2 s)
    (hA : A = none → n = 0 ∧ c = 0) (hA2 : A2 = none → m = 0 ∧ c2 = 0) :
    Calls Try.prog 6 #[.slice A n c, .slice A2 m c2, .agg #[.int .i64 tc, .int .i64 tp, .int .i64 td], .int .i64 x, .agg #[.int .i64 b, .int .i64 p], .int .i64 t] w fun e w' => e = .returned (.bool true) ∧ Below w.heap.size w w' := by
  obtain ⟨W, hW⟩ : ∃ W, W = (w.alloc (.cells #[.int .i64 tc, .int .i64 tp, .int .i64 td] 48)).alloc (.cells #[.int .i64 b, .int .i64 p] 25) := ⟨_, rfl⟩
  have hbox : Below w.heap.size w W := by rw [hW]; go_grown
  have HB := Lib.hid hbox
  have T0 := Lib.hid (hL.later hbox)
  have N0 := Lib.hid (hS.later hbox)
  have hsz : W.heap.size = w.heap.size + 2 := by rw [hW]; simp
  have k0 : W.cell? ⟨w.heap.size, 0, none⟩ = some (.int .i64 tc) := by rw [hW]; simp [go_sem]
  have k1 : W.cell? ⟨w.heap.size, 1, none⟩ = some (.int .i64 tp) := by rw [hW]; simp [go_sem]
  have k2 : W.cell? ⟨w.heap.size, 2, none⟩ = some (.int .i64 td) := by rw [hW]; simp [go_sem]
  have r0 : W.cell? ⟨w.heap.size + 1, 0, none⟩ = some (.int .i64 b) := by rw [hW]; simp [go_sem]
  have r1 : W.cell? ⟨w.heap.size + 1, 1, none⟩ = some (.int .i64 p) := by rw [hW]; simp [go_sem]
  have hz0 : w.heap.size < W.heap.size := by omega
  have hz1 : w.heap.size + 1 < W.heap.size := by omega
  have HW := Lib.hid hW
  have HK : Hid (∀ w' : World, Below W.heap.size W w' → (w'.cell? ⟨w.heap.size, 0, none⟩ = some (.int .i64 tc) ∧ w'.cell? ⟨w.heap.size, 1, none⟩ = some (.int .i64 tp) ∧ w'.cell? ⟨w.heap.size, 2, none⟩ = some (.int .i64 td)) ∧ (w'.cell? ⟨w.heap.size + 1, 0, none⟩ = some (.int .i64 b) ∧ w'.cell? ⟨w.heap.size + 1, 1, none⟩ = some (.int .i64 p)) ∧ w.heap.size < w'.heap.size ∧ w.heap.size + 1 < w'.heap.size) := Lib.hid fun w' h => by
    obtain ⟨e1, -⟩ := old_cells h
    have := h.size
    exact ⟨⟨(e1 _ _ hz0).trans k0, (e1 _ _ hz0).trans k1, (e1 _ _ hz0).trans k2⟩, ⟨(e1 _ _ hz1).trans r0, (e1 _ _ hz1).trans r1⟩, by omega, by omega⟩
  have HBW : Hid (∀ w' : World, Below W.heap.size W w' → Below w.heap.size w w') := Lib.hid fun w' h => hbox.trans (h.mono hbox.size)
  clear hbox hL hS hW hsz
  have CQ : Hid (∀ w : World, _) := fun w => few_any A n c A2 m c2 t w
  cases hq : fewB n m t with
  | false =>
    rw [hq] at CQ
    clear hq hln hsm hA hA2 k0 k1 k2 r0 r1 hz0 hz1
    go_enter Try.func6, Try.ntmps6
    go_wp2_with fail
    refine (CQ.out _).mono ?_
    rintro e ws ⟨rfl, rfl⟩
    rw [← HW.out]
    go_wp2_with fail
    refine (fawake_any _).mono ?_
    rintro e w3 ⟨rfl, hb3⟩
    have W3 := Lib.hid (HBW.out _ hb3)
    clear hb3
    go_wp2
    go_ret
    exact ⟨rfl, W3.out⟩
  | true =>
    rw [hq] at CQ
    have hn12 : n ≤ 12 ∧ m ≤ 12 := by simp only [fewB, Bool.and_eq_true, decide_eq_true_eq] at hq; exact hq.1
    obtain ⟨hn12, hm12⟩ := hn12
    clear hq
    by_cases hmn : m ≤ n
    · have hd1 : decide (n < m) = false := by simp; omega
      have CW : Hid (∀ w' : World, Tks w'.heap.size w' A l → NumsI w'.heap.size w' A2 s → _) := Lib.hid fun w' h h2 => with_any A n c l A2 m c2 s tc tp td x b p t w' hln h hsm h2 hA hn12 hmn
      have hLL : (l ++ [(tc, tp, td)]).length = n + 1 := by simp [hln]
      have hSS : (heldL s n x).length = n + 1 := heldL_len x (by omega)
      have CR : Hid (∀ (w' : World) (X : Option Addr) (cx : Nat) (Y : Option Addr) (cy : Nat), Tks w'.heap.size w' X (l ++ [(tc, tp, td)]) → NumsI w'.heap.size w' Y (heldL s n x) → _) := Lib.hid fun w' X cx Y cy h h2 => frright_any X (n + 1) cx (l ++ [(tc, tp, td)]) Y (n + 1) cy (heldL s n x) b p w' hLL h hSS h2 (by omega)
      have CI : Hid (∀ (w' : World) (X : Option Addr) (cx : Nat) (Y : Option Addr) (cy : Nat), Ft.right (l ++ [(tc, tp, td)]) (heldL s n x) b p = true → 0 ≤ t → t ≤ 1048576 → Tks w'.heap.size w' X (l ++ [(tc, tp, td)]) → NumsI w'.heap.size w' Y (heldL s n x) → _) := Lib.hid fun w' X cx Y cy hr h0 h1 h h2 => rfirst_any X (n + 1) cx (l ++ [(tc, tp, td)]) Y (n + 1) cy (heldL s n x) b p t w' hLL h hSS h2 (Lib.hid (Ft.right_iff.1 hr).1) (Lib.hid (Ft.right_iff.1 hr).2.1) (by have := Sp.right_iff.1 (Ft.right_iff.1 hr).2.2; omega) (by have := Sp.right_iff.1 (Ft.right_iff.1 hr).2.2; omega) (by have := Sp.right_iff.1 (Ft.right_iff.1 hr).2.2; omega) (by have := Sp.right_iff.1 (Ft.right_iff.1 hr).2.2; omega) h0 h1
      obtain ⟨LL, hLe⟩ : ∃ LL, l ++ [(tc, tp, td)] = LL := ⟨_, rfl⟩
      obtain ⟨SS, hSe⟩ : ∃ SS, heldL s n x = SS := ⟨_, rfl⟩
      rw [hLe] at CW CR CI hLL
      rw [hSe] at CW CR CI hSS
      have HLe := Lib.hid hLe
      have HSe := Lib.hid hSe
      have Hl := Lib.hid hln
      have Hs := Lib.hid hsm
      have HLL := Lib.hid hLL
      have HSS := Lib.hid hSS
      have HA := Lib.hid hA
      have HA2 := Lib.hid hA2
      clear hLe hSe hln hsm hLL hSS hA hA2
      obtain ⟨ans, hans⟩ : ∃ ans, Ft.keeps LL SS b p t = ans := ⟨_, rfl⟩
      obtain ⟨rr, hrr⟩ : ∃ rr, Ft.right LL SS b p = rr := ⟨_, rfl⟩
      rw [hans] at CW
      rw [hrr] at CR
      have HANS := Lib.hid hans
      have HRR := Lib.hid hrr
      clear hans hrr
      go_enter Try.func6, Try.ntmps6
      go_wp2_with fail
      refine (CQ.out _).mono ?_
      rintro e ws ⟨rfl, rfl⟩
      rw [← HW.out]
      go_wp2_with fail
      refine wp_region_later W.heap.size W (by kernel_rfl) (by kernel_rfl) (Below.refl _ _) ?_
      repeat (go_big_quiet_step (first
        | ((with_reducible refine Calls.later ?_ (fto_any b p _)); exact Nat.le_refl _)
        | ((with_reducible refine Calls.later ?_ (CW.out _ (T0.out.later (Later.below _)) (N0.out.later (Later.below _)))); exact Nat.le_refl _)))
      refine wpQuiet_nil ?_
      rintro w3 ⟨⟨_, hw3⟩, rfl⟩
      have B3 := Lib.hid hw3
      have T3 := Lib.hid (T0.out.later hw3)
      have N3 := Lib.hid (N0.out.later hw3)
      clear hw3 k0 k1 k2 r0 r1 hz0 hz1
      obtain ⟨⟨k0, k1, k2⟩, ⟨r0, r1⟩, hz0, hz1⟩ := HK.out _ B3.out
      go_upto_region 6 with (fail)
      go_cut [14] from 41 to 46 (fun q wx => AllMade w3 LL (n + 1) q wx)
      case first =>
        have HS : Hid (∀ w' : World, Below w3.heap.size w3 w' → w'.cell? ⟨w.heap.size, 0, none⟩ = some (.int .i64 tc) ∧ w'.cell? ⟨w.heap.size, 1, none⟩ = some (.int .i64 tp) ∧ w'.cell? ⟨w.heap.size, 2, none⟩ = some (.int .i64 td)) := Lib.hid fun w' h => (HK.out _ (below_call (Nat.le_refl _) B3.out h)).1
        go_region_held3 (fun w' => w'.cell? ⟨w.heap.size, 0, none⟩ = some (.int .i64 tc) ∧ w'.cell? ⟨w.heap.size, 1, none⟩ = some (.int .i64 tp) ∧ w'.cell? ⟨w.heap.size, 2, none⟩ = some (.int .i64 td))
          ((refine HS.out _ ?_; repeat' (first | with_reducible exact Below.refl _ _ | with_reducible exact G2.out | with_reducible exact G1.out | with_reducible refine Below.drew ?_ | with_reducible refine below_new (Nat.le_refl _) ?_ _)))
          (first
            | (refine step_tasks ((w3.alloc (.cells #[] 48)).alloc (.cells #[.int .i64 tc, .int .i64 tp, .int .i64 td] 48)).drew (by rfl) (.tmp 41) (.tmp 42) (by rfl) w3.heap.size (.slice (some ⟨w3.heap.size, 0, none⟩) 0 0) 0 [] (by rfl) (own_drew ((own_empty (Nat.le_refl _)).alloc _)) A n c l (by rfl) Hl.out HA.out w3.heap.size (T3.out.below ((((Below.refl _ _).alloc (Nat.le_refl _) _).alloc (by simp) _).drew)) n (by omega) (by omega) (by simp; omega) ?_; intro A1 cap1 w1 X1 g1; have G1 := Lib.hid (((((Below.refl _ _).alloc (Nat.le_refl _) _).alloc (by simp) _).drew).grown g1 (by simp; omega) (fun k hk => by cases hk; exact Nat.le_refl _)); have K1 := Lib.hid (Tks.far (tks_one ((w3.alloc (.cells #[] 48)).alloc (.cells #[.int .i64 tc, .int .i64 tp, .int .i64 td] 48)).drew (w3.heap.size + 1) tc tp td (by first | (simp; done) | (simp; omega)) (by simp [go_sem]) (by simp [go_sem]) (by simp [go_sem])) g1 (by simp) (by simp [Value.ownBlock])); clear g1)
            | (refine step_tasks ((w3.alloc (.cells #[.int .i64 tc, .int .i64 tp, .int .i64 td] 48)).alloc (.cells #[] 48)).drew (by rfl) (.tmp 41) (.tmp 42) (by rfl) w3.heap.size (.slice (some ⟨w3.heap.size + 1, 0, none⟩) 0 0) 0 [] (by rfl) (own_drew (tasks_empty2 (Nat.le_refl _))) A n c l (by rfl) Hl.out HA.out w3.heap.size (T3.out.below ((((Below.refl _ _).alloc (Nat.le_refl _) _).alloc (by simp) _).drew)) n (by omega) (by omega) (by simp; omega) ?_; intro A1 cap1 w1 X1 g1; have G1 := Lib.hid (((((Below.refl _ _).alloc (Nat.le_refl _) _).alloc (by simp) _).drew).grown g1 (by simp; omega) (fun k hk => by cases hk; exact Nat.le_succ _)); have K1 := Lib.hid (Tks.far (tks_one ((w3.alloc (.cells #[.int .i64 tc, .int .i64 tp, .int .i64 td] 48)).alloc (.cells #[] 48)).drew w3.heap.size tc tp td (by first | (simp; done) | (simp; omega)) (by simp [go_sem]) (by simp [go_sem]) (by simp [go_sem])) g1 (by simp; omega) (by simp [Value.ownBlock])); clear g1)
            | (refine step_tasks (w3.alloc (.cells #[] 48)).drew (by rfl) (.tmp 41) (.tmp 42) (by rfl) w3.heap.size (.slice (some ⟨w3.heap.size, 0, none⟩) 0 0) 0 [] (by rfl) (own_drew (own_empty (Nat.le_refl _))) A n c l (by rfl) Hl.out HA.out w3.heap.size (T3.out.below (((Below.refl _ _).alloc (Nat.le_refl _) _).drew)) n (by omega) (by omega) (by simp) ?_; intro A1 cap1 w1 X1 g1; have G1 := Lib.hid ((((Below.refl _ _).alloc (Nat.le_refl _) _).drew).grown g1 (by simp) (fun k hk => by cases hk; exact Nat.le_refl _)); clear g1)
            | (refine step_tasks w1 (by rfl) (.tmp 43) (.tmp 45) (by rfl) w3.heap.size (.slice A1 n cap1) n ([] ++ l) (by rfl) X1 _ 1 1 [(tc, tp, td)] (by rfl) rfl (fun h => by cases h) _ K1.out (n + 1) rfl (by omega) G1.out.size ?_; intro A5 c5 w5 X2 g2; have G2 := Lib.hid (G1.out.grown g2 G1.out.size (fun k hk => (X1.lt k hk).1)); clear g2)
            | (refine step_tasks (w1.alloc (.cells #[.int .i64 tc, .int .i64 tp, .int .i64 td] 48)) (by rfl) (.tmp 43) (.tmp 45) (by rfl) w3.heap.size (.slice A1 n cap1) n ([] ++ l) (by rfl) (X1.alloc _) _ 1 1 [(tc, tp, td)] (by rfl) rfl (fun h => by cases h) _ (tks_one (w1.alloc (.cells #[.int .i64 tc, .int .i64 tp, .int .i64 td] 48)) w1.heap.size tc tp td (by first | (simp; done) | (simp; omega)) (by simp [go_sem]) (by simp [go_sem]) (by simp [go_sem])) (n + 1) rfl (by omega) (size_kept (Nat.le_refl _) (G1.out.alloc G1.out.size _)) ?_; intro A5 c5 w5 X2 g2; have G2 := Lib.hid ((G1.out.alloc G1.out.size _).grown g2 (size_kept (Nat.le_refl _) (G1.out.alloc G1.out.size _)) (fun k hk => (X1.lt k hk).1)); clear g2))
        all_goals
          go_wp2_with fail
          go_meet
          refine ⟨A5, c5, rfl, G2.out, ?_⟩
          rw [← HLe.out]
          exact Tks.own X2
      case rest =>
        obtain ⟨A5, c5, rfl, hb5, hT5⟩ := hcut
        have B5 := Lib.hid (below_call (Nat.le_refl _) B3.out hb5)
        have T5 := Lib.hid hT5
        have N5 := Lib.hid (N3.out.later hb5)
        clear hb5 hT5 k0 k1 k2 r0 r1 hz0 hz1
        go_wp2_with (at_builtin; refine wpList_nums (wc.alloc (.cells #[] 3)) rfl (.tmp 47) (.tmp 48) rfl wc.heap.size (.slice (some ⟨wc.heap.size, 0, none⟩) 0 0) 0 [] rfl (own_empty (Nat.le_refl _)) A2 m c2 s rfl Hs.out HA2.out wc.heap.size (N5.out.below ((Below.refl _ _).alloc (Nat.le_refl _) _)) m (by omega) (by omega) (by simp) ?_; intro X6 cx6 w6 O6 g6; have G6 := Lib.hid (((Below.refl wc.heap.size wc).alloc (Nat.le_refl _) _).grown g6 (by simp) (fun k hk => by cases hk; exact Nat.le_refl _)); have P6 := Lib.hid O6; clear O6 g6)
        go_loopw [15] (fun v wr => ∃ (k : Nat) (X : Option Addr) (cx : Nat), m ≤ k ∧ k ≤ n ∧ v = .slice X k cx ∧ Hid (wr.ownsRow wc.heap.size 3 1 (.slice X k cx) k (ncells (s ++ List.replicate (k - m) 0))) ∧ Hid (Below wc.heap.size wc wr)) (fun v _ => n - slen v)
        case atStart => exact ⟨m, X6, cx6, Nat.le_refl _, hmn, rfl, Lib.hid (by simpa using P6.out), G6⟩
        case round =>
          obtain ⟨k, X, cx, hmk, hk, rfl, hown, hb⟩ := hrel
          by_cases hlt : k < n
          · have hd2 : decide ((k : Int) < (n : Int)) = true := by simp; omega
            go_wp2_with (at_builtin; refine wpList_nums (wr.alloc (.cells #[.int .i64 0] 3)) rfl (.tmp 55) (.tmp 56) rfl wc.heap.size (.slice X k cx) k (s ++ List.replicate (k - m) 0) rfl (hown.out.alloc _) _ 1 1 [0] rfl rfl (fun h => by cases h) (wr.heap.size + 1) (nums_one wr 0 _) (k + 1) rfl (by omega) (by have := hb.out.size; simp; omega) ?_; intro X7 cx7 w7 O7 g7)
            have G7 := Lib.hid ((below_new (Nat.le_refl _) hb.out _).grown g7 (by have := hb.out.size; simp; omega) (fun k hk => (hown.out.lt k hk).1))
            have P7 := Lib.hid O7
            clear O7 g7
            go_wp2
            go_roundw
            case rel => exact ⟨k + 1, X7, cx7, by omega, by omega, rfl, Lib.hid (by rw [pad_more s m k hmk]; exact P7.out), G7⟩
            case measure => simp [slen]; omega
          · obtain rfl : n = k := by omega
            have hd2 : decide ((n : Int) < (n : Int)) = false := by simp
            go_wp2_with (at_builtin; refine wpList_nums (wr.alloc (.cells #[.int .i64 x] 3)) rfl (.tmp 58) (.tmp 60) rfl wc.heap.size (.slice X n cx) n (s ++ List.replicate (n - m) 0) rfl (hown.out.alloc _) _ 1 1 [x] rfl rfl (fun h => by cases h) (wr.heap.size + 1) (nums_one wr x _) (n + 1) rfl (by omega) (by have := hb.out.size; simp; omega) ?_; intro X7 cx7 w7 O7 g7; have G7 := Lib.hid ((below_new (Nat.le_refl _) hb.out _).grown g7 (by have := hb.out.size; simp; omega) (fun k hk => (hown.out.lt k hk).1)); have P7 := Lib.hid O7; clear O7 g7; have B7 := Lib.hid (below_call (Nat.le_refl _) B5.out G7.out); obtain ⟨-, ⟨r0, r1⟩, -, hz1⟩ := HK.out _ B7.out)
            have T7 := Lib.hid (T5.out.later G7.out)
            have e7 : s ++ List.replicate (n - m) 0 ++ [x] = SS := by rw [← HSe.out, heldL, Hs.out]
            have p7 := P7.out
            rw [e7] at p7
            have N7 := Lib.hid (NumsI.own p7)
            clear e7 p7 hown hb
            refine (CR.out _ _ _ _ _ T7.out N7.out).mono ?_
            rintro e w8 ⟨rfl, hb8⟩
            have B8 := Lib.hid (below_call (Nat.le_refl _) B7.out hb8)
            have T8 := Lib.hid (T7.out.later hb8)
            have N8 := Lib.hid (N7.out.later hb8)
            clear hb8 r0 r1 hz1
            obtain ⟨-, ⟨r0, r1⟩, -, hz1⟩ := HK.out _ B8.out
            cases rr with
            | false =>
              obtain rfl : ans = false := by rw [← HANS.out]; simp [Ft.keeps, Ft.asks, HRR.out]
              have B9 := B8
              go_wp2_with fail
              refine (fawake_any _).mono ?_
              rintro e w9 ⟨rfl, hb9⟩
              have W9 := Lib.hid (HBW.out _ (below_call (Nat.le_refl _) B9.out hb9))
              clear hb9 r0 r1 hz1
              go_wp2
              go_ret
              exact ⟨rfl, W9.out⟩
            | true =>
              by_cases htr : 0 ≤ t ∧ t ≤ 1048576
              · obtain ⟨ht0, ht1⟩ := htr
                replace CI := Lib.hid (fun w' X cx Y cy => CI.out w' X cx Y cy HRR.out ht0 ht1)
                have hall := Lib.hid (Ft.right_iff.1 HRR.out).1
                have ha : Hid (Ft.asks LL SS b p t = true) := Lib.hid (by rw [Ft.asks, HRR.out, Sp.asks_iff.2 ⟨ht0, ht1⟩]; rfl)
                cases hf : Ft.first LL SS b p t with
                | none =>
                  obtain rfl : ans = true := by rw [← HANS.out]; simp [Ft.keeps, ha.out, hf]
                  rw [show Ft.firstI LL SS b p t = -1 by simp [Ft.firstI, hf]] at CI
                  clear hf
                  go_wp2_with fail
                  rw [show max (min t 1048576) (0 : Int) = t by omega]
                  with_reducible refine (CI.out _ _ _ _ _ T8.out N8.out).mono ?_
                  rintro e w9 ⟨rfl, hb9⟩
                  have B9 := Lib.hid (below_call (Nat.le_refl _) B8.out hb9)
                  clear hb9 r0 r1 hz1
                  obtain ⟨-, ⟨r0, r1⟩, -, hz1⟩ := HK.out _ B9.out
                  go_wp2_with fail
                  refine (fawake_any _).mono ?_
                  rintro e w9 ⟨rfl, hb9⟩
                  have W9 := Lib.hid (HBW.out _ (below_call (Nat.le_refl _) B9.out hb9))
                  clear hb9 r0 r1 hz1
                  go_wp2
                  go_ret
                  exact ⟨rfl, W9.out⟩
                | some y =>
                  have hy := Tk.pts_bd (Tk.all_mem hall.out) y (List.mem_of_find?_eq_some hf)
                  obtain rfl : ans = false := by rw [← HANS.out]; simp [Ft.keeps, ha.out, hf]
                  rw [show Ft.firstI LL SS b p t = y by simp [Ft.firstI, hf]] at CI
                  have hd0 : decide (y < 0) = false := by simp; omega
                  clear hf
                  go_wp2_with fail
                  rw [show max (min t 1048576) (0 : Int) = t by omega]
                  with_reducible refine (CI.out _ _ _ _ _ T8.out N8.out).mono ?_
                  rintro e w9 ⟨rfl, hb9⟩
                  have B9 := Lib.hid (below_call (Nat.le_refl _) B8.out hb9)
                  clear hb9 r0 r1 hz1
                  obtain ⟨-, ⟨r0, r1⟩, -, hz1⟩ := HK.out _ B9.out
                  go_wp2_with fail
                  refine (fawake_any _).mono ?_
                  rintro e w9 ⟨rfl, hb9⟩
                  have W9 := Lib.hid (HBW.out _ (below_call (Nat.le_refl _) B9.out hb9))
                  clear hb9 r0 r1 hz1
                  go_wp2
                  go_ret
                  exact ⟨rfl, W9.out⟩
              · have hcs : t < 0 ∨ (0 ≤ t ∧ 1048576 < t) := by omega
                have hno : Sp.asks t = false := by
                  cases h : Sp.asks t with
                  | false => rfl
                  | true => exact absurd (Sp.asks_iff.1 h) htr
                obtain rfl : ans = false := by rw [← HANS.out]; simp [Ft.keeps, Ft.asks, hno]
                clear htr hno
                have B9 := B8
                rcases hcs with i1 | ⟨i1, i2⟩
                all_goals
                  go_wp2_with fail
                  refine (fawake_any _).mono ?_
                  rintro e w9 ⟨rfl, hb9⟩
                  have W9 := Lib.hid (HBW.out _ (below_call (Nat.le_refl _) B9.out hb9))
                  clear hb9 r0 r1 hz1
                  go_wp2
                  go_ret
                  exact ⟨rfl, W9.out⟩
    · have hd1 : decide (n < m) = true := by simp; omega
      have CW : Hid (∀ w' : World, _) := Lib.hid fun w' => with_no A n c A2 m c2 tc tp td x b p t w' (by omega)
      clear hln hsm hA hA2
      go_enter Try.func6, Try.ntmps6
      go_wp2_with fail
      refine (CQ.out _).mono ?_
      rintro e ws ⟨rfl, rfl⟩
      rw [← HW.out]
      go_wp2_with fail
      refine wp_region_later W.heap.size W (by kernel_rfl) (by kernel_rfl) (Below.refl _ _) ?_
      repeat (go_big_quiet_step (first
        | ((with_reducible refine Calls.later ?_ (fto_any b p _)); exact Nat.le_refl _)
        | ((with_reducible refine Calls.later ?_ (CW.out _)); exact Nat.le_refl _)))
      refine wpQuiet_nil ?_
      rintro w3 ⟨⟨_, hw3⟩, rfl⟩
      have B3 := Lib.hid hw3
      clear hw3 k0 k1 k2 r0 r1 hz0 hz1
      go_wp2_with fail
      refine (fawake_any _).mono ?_
      rintro e w9 ⟨rfl, hb9⟩
      have W9 := Lib.hid (HBW.out _ (below_call (Nat.le_refl _) B3.out hb9))
      clear hb9
      go_wp2
      go_ret
      exact ⟨rfl, W9.out⟩
end Go.Proofs.Ytlpmcmgalodfeaa
