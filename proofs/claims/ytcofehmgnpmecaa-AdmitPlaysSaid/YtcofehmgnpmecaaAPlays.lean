/-
  The law AdmitPlays, walked (typed by tools/gen_aplays.py).
-/
import Derived.Test.YtcofehmgnpmecaaAAwake
import Derived.Test.YtcofehmgnpmecaaAOpen
namespace Go.Proofs.Ytcofehmgnpmecaa
open Go.ChangeShapes Go.WideShapes Go.ChangeAt Go.RowKit Ap

/-- The two sides between acts: a book, and the document's list in a box. -/
structure Pl (W0 : World) (b rb K : Nat) (P : Nat → Prop) (L : List En) (now : Int) (A : Option Addr) (n c : Nat) (wr : World) : Prop where
  bs : Bs W0 b K P L now wr
  box : wr.heap[rb]? = some (rBox now A n c)
  doc : Dc (fun k => P k ∧ k ≠ rb) wr A n c L
  prb : P rb
  low : W0.heap.size ≤ rb
/-- Within a round: the program's list may be ahead; the act's box. -/
structure Md (W0 : World) (b rb K : Nat) (P : Nat → Prop) (M : List En) (t : Int) (L : List En) (now : Int) (A : Option Addr) (n c p : Nat) (cs : Array Value) (wr : World) : Prop where
  bs : Bs W0 b K P M t wr
  box : wr.heap[rb]? = some (rBox now A n c)
  doc : Dc (fun k => P k ∧ k ≠ rb) wr A n c L
  prb : P rb
  low : W0.heap.size ≤ rb
  act : wr.heap[p]? = some (.cells cs 37 (0, 0))
  pp : P p
  ne : p ≠ rb
  few : n ≤ K
section
variable {W0 wr w' w2 : World} {b rb K K' n c p : Nat} {P : Nat → Prop} {M M' L L' : List En} {t t' now now' : Int} {A : Option Addr} {cs : Array Value}
theorem Bs.grow (H : Bs W0 b K P M t wr) (h : K ≤ K') : Bs W0 b K' P M t wr := by
  obtain ⟨mv, v, f, xs, u, h1, h2, h3⟩ := H.ex
  exact ⟨⟨mv, v, f, xs, u, ⟨h1.obj, h1.map.elim Or.inl (fun ⟨m, a1, a2, a3⟩ => Or.inr ⟨m, a1, a2, a3.mono h⟩), h1.row, h1.order, h1.base, h1.off⟩, h2, h3⟩, Nat.le_trans H.few h, H.below⟩
theorem Pl.md (H : Pl W0 b rb K P L now A n c wr) (cs : Array Value) : Md W0 b rb K (fun k => P k ∨ k = wr.heap.size) L now L now A n c wr.heap.size cs (wr.alloc (.cells cs 37 (0, 0))) := by
  have hb : Below wr.heap.size wr (wr.alloc (.cells cs 37 (0, 0))) := (Below.refl _ _).alloc (Nat.le_refl _) _
  refine ⟨H.bs.more hb fun k hk => ?_, (hb.block rb (H.bs.lt H.prb)).trans H.box, H.doc.kept (fun k hk => hb.block k (H.bs.lt hk.1)) (fun k hk => ⟨Or.inl hk.1, hk.2⟩), Or.inl H.prb, H.low, heap_alloc_new _ _, Or.inr rfl, fun e => ?_, ?_⟩
  · rcases hk with hk | hk
    · exact Or.inl hk
    · refine Or.inr ⟨by omega, ?_⟩
      rw [hk]
      simp
  · have := H.bs.lt H.prb
    omega
  · rw [← H.doc.len]
    exact H.bs.few
theorem Md.later (H : Md W0 b rb K P M t L now A n c p cs wr) (hb : Below wr.heap.size wr w') : Md W0 b rb K P M t L now A n c p cs w' :=
  ⟨H.bs.later hb, (hb.block rb (H.bs.lt H.prb)).trans H.box, H.doc.kept (fun k hk => hb.block k (H.bs.lt hk.1)) (fun _ h => h), H.prb, H.low, (hb.block p (H.bs.lt H.pp)).trans H.act, H.pp, H.ne, H.few⟩
/-- The program's call is behind us. -/
theorem Md.turn (H : Md W0 b rb K P M t L now A n c p cs wr) (h : Turn W0 b K' P M' t' wr w') (hK : K ≤ K') : Md W0 b rb K' P M' t' L now A n c p cs w' :=
  ⟨h.1, (h.2.1 rb H.prb).trans H.box, H.doc.kept (fun k hk => h.2.1 k hk.1) (fun _ h => h), H.prb, H.low, (h.2.1 p H.pp).trans H.act, H.pp, H.ne, Nat.le_trans H.few hK⟩
theorem Md.lts (H : Md W0 b rb K P M t L now A n c p cs wr) : ∀ k, P k ∧ k ≠ rb → k < wr.heap.size := fun _ hk => H.bs.lt hk.1
/-- The document's call is behind us: what it handed back is stored. -/
theorem Md.got {E : Int} {e : Ending} (H : Md W0 b rb K P M t L now A n c p cs wr) (h : DocP (fun k => P k ∧ k ≠ rb) now' L' E wr e w') (hl : L'.length ≤ K) :
    ∃ A' n' c', e = .returned (.tuple #[.agg #[.int .i64 now', .slice A' n' c'], .int .i64 E]) ∧ ((w'.cell? ⟨rb, 0, none⟩ = some (.int .i64 now) ∧ w'.frozen? ⟨rb, 0, none⟩ = false) ∧ w'.cell? ⟨rb, 1, none⟩ = some (.slice A n c) ∧ w'.frozen? ⟨rb, 1, none⟩ = false) ∧
      ∃ w4, (w'.setCell ⟨rb, 0, none⟩ (.int .i64 now')).setCell ⟨rb, 1, none⟩ (.slice A' n' c') = w4 ∧ ∃ P', Hid (Md W0 b rb K P' M t L' now' A' n' c' p cs w4) := by
  obtain ⟨A', n', c', rfl, D, hb⟩ := h
  have H2 := H.later hb
  have hrl := H.bs.lt H.prb
  have h0 := heap_setCell_same _ rb 1 _ _ (.slice A' n' c') (heap_setCell_same w' rb 0 _ _ (.int .i64 now') H2.box)
  have hset : ∀ k, k ≠ rb → ((w'.setCell ⟨rb, 0, none⟩ (.int .i64 now')).setCell ⟨rb, 1, none⟩ (.slice A' n' c')).heap[k]? = w'.heap[k]? := fun k hk => (Below.heap_setCell _ _ _ _ hk).trans (Below.heap_setCell _ _ _ _ hk)
  have B2 := H.bs.more hb (P' := fun k => P k ∨ (wr.heap.size ≤ k ∧ k < w'.heap.size)) (fun k hk => hk)
  have B3 := (B2.put (k := rb) (Or.inl H.prb) H.low 0 (.int .i64 now')).put (k := rb) (Or.inl H.prb) H.low 1 (.slice A' n' c')
  refine ⟨A', n', c', rfl, ⟨bx_cell (j := 0) H2.box rfl, bx_cell (j := 1) H2.box rfl⟩, _, rfl, fun k => P k ∨ (wr.heap.size ≤ k ∧ k < w'.heap.size), Lib.hid ⟨B3, h0, D.kept (fun k hk => hset k ?_) (fun k hk => ?_), Or.inl H.prb, H.low, (hset p H.ne).trans H2.act, Or.inl H.pp, H.ne, by rw [← D.len]; exact hl⟩⟩
  · rcases hk with hk | hk
    · exact hk.2
    · omega
  · rcases hk with hk | hk
    · exact ⟨Or.inl hk.1, hk.2⟩
    · exact ⟨Or.inr hk, by omega⟩
theorem Md.pl (H : Md W0 b rb K P L now L now A n c p cs wr) (h : K ≤ K') : Pl W0 b rb K' P L now A n c wr := ⟨H.bs.grow h, H.box, H.doc, H.prb, H.low⟩
theorem Md.rbs (H : Md W0 b rb K P M t L now A n c p cs wr) : wr.cell? ⟨rb, 0, none⟩ = some (.int .i64 now) ∧ wr.cell? ⟨rb, 1, none⟩ = some (.slice A n c) := ⟨(bx_cell (j := 0) H.box rfl).1, (bx_cell (j := 1) H.box rfl).1⟩
variable {kd q x y nn : Int}
theorem Md.acts (H : Md W0 b rb K P M t L now A n c p #[.int .i64 kd, .int .i64 q, .int .i64 x, .int .i64 y, .int .i64 nn] wr) : wr.cell? ⟨p, 0, none⟩ = some (.int .i64 kd) ∧ wr.cell? ⟨p, 1, none⟩ = some (.int .i64 q) ∧ wr.cell? ⟨p, 2, none⟩ = some (.int .i64 x) ∧ wr.cell? ⟨p, 3, none⟩ = some (.int .i64 y) ∧ wr.cell? ⟨p, 4, none⟩ = some (.int .i64 nn) :=
  ⟨(bx_cell (j := 0) H.act rfl).1, (bx_cell (j := 1) H.act rfl).1, (bx_cell (j := 2) H.act rfl).1, (bx_cell (j := 3) H.act rfl).1, (bx_cell (j := 4) H.act rfl).1⟩
end
/-- What the round's last statement asks of both sides. -/
structure Asks (b : Nat) (q : Int) (L : List En) (now : Int) (A : Option Addr) (n c : Nat) (U V : Int) (R : Nat) (w' : World) : Prop where
  u : Calls Try.prog 16 #[.pointer (some ⟨b, 0, none⟩)] w' fun e w'' => e = .returned (.int .u64 U) ∧ w' = w''
  h : Calls Try.prog 18 #[.pointer (some ⟨b, 0, none⟩), .int .i64 q] w' fun e w'' => e = .returned (.bool (decide (0 ≤ V))) ∧ w' = w''
  p : Calls Try.prog 20 #[.pointer (some ⟨b, 0, none⟩)] w' fun e w'' => e = .returned (.int .i64 (R : Nat)) ∧ w' = w''
  ru : Calls Try.prog 17 #[.agg #[.int .i64 now, .slice A n c]] w' fun e w'' => e = .returned (.int .u64 U) ∧ Below w'.heap.size w' w''
  rf : Calls Try.prog 19 #[.agg #[.int .i64 now, .slice A n c], .int .i64 q] w' fun e w'' => e = .returned (.int .i64 V) ∧ Below w'.heap.size w' w''
  rp : Calls Try.prog 21 #[.agg #[.int .i64 now, .slice A n c]] w' fun e w'' => e = .returned (.int .i64 (R : Nat)) ∧ Below w'.heap.size w' w''
theorem Md.asks {W0 wr : World} {b rb K n c p : Nat} {P : Nat → Prop} {L : List En} {now q : Int} {A : Option Addr} {cs : Array Value} (H : Md W0 b rb K P L now L now A n c p cs wr) (hK : K ≤ 1000) (hq : In64 q) : ∃ U V R, ∀ w', Below wr.heap.size wr w' → Asks b q L now A n c U V R w' := by
  refine ⟨used L, findV L q, pend L, fun w' hb => ?_⟩
  have H2 := H.later hb
  obtain ⟨l1, l2, l3⟩ := H2.bs.low
  have hn : n ≤ 900000 := by have := H.few; omega
  exact ⟨bs_used H2.bs, bs_has H2.bs hq, bs_pending H2.bs, rused_any H2.doc H2.lts hn l1 l3, rfind_any H2.doc H2.lts hn q, rpend_any H2.doc H2.lts hn⟩

set_option maxRecDepth 100000 in
set_option maxHeartbeats 8000000 in
theorem plays_any (A : Option Addr) (n c : Nat) (l : List Ac) (w : World) (hln : l.length = n) (hL : Acs w.heap.size w A l) :
    Calls Try.prog 3 #[.slice A n c] w fun e w' => e = .returned (.bool true) ∧ Below w.heap.size w w' := by
  have HL := Lib.hid hL
  have Hl := Lib.hid hln
  clear hL hln
  go_enter Try.func3, Try.ntmps3
  go_wp2_with fail
  refine (awake_any _).mono ?_
  rintro e w1 ⟨rfl, hb1⟩
  have HB1 := Lib.hid hb1
  clear hb1
  obtain ⟨W2, hW2⟩ : ∃ W2, (w1.alloc (bObj (.map none) (.slice none 0 0) (.int .u64 0) (.int .i64 0))).alloc (.cells #[.int .i64 0, .slice none 0 0] 33 (0, 0)) = W2 := ⟨_, rfl⟩
  have HP0 : Hid (Pl w1 w1.heap.size (w1.heap.size + 1) 0 (fun k => k = w1.heap.size + 1) [] 0 none 0 0 W2) := Lib.hid (by
    have hs : (w1.alloc (bObj (.map none) (.slice none 0 0) (.int .u64 0) (.int .i64 0))).heap.size = w1.heap.size + 1 := by simp
    have hb : Below (w1.alloc (bObj (.map none) (.slice none 0 0) (.int .u64 0) (.int .i64 0))).heap.size (w1.alloc (bObj (.map none) (.slice none 0 0) (.int .u64 0) (.int .i64 0))) W2 := by
      rw [← hW2]
      exact (Below.refl _ _).alloc (Nat.le_refl _) _
    have hs2 : W2.heap.size = w1.heap.size + 2 := by rw [← hW2]; simp
    refine ⟨(bs_new w1).more hb fun k hk => Or.inr ⟨by omega, by omega⟩, ?_, Dc.empty _, rfl, Nat.le_succ _⟩
    rw [← hW2, ← hs]
    exact heap_alloc_new _ _)
  have HW2 := Lib.hid hW2
  unfold bObj at HW2
  clear hW2
  obtain ⟨b, hb⟩ : ∃ b, w1.heap.size = b := ⟨_, rfl⟩
  obtain ⟨rb, hrb⟩ : ∃ rb, b + 1 = rb := ⟨_, rfl⟩
  rw [hb, hrb] at HP0
  go_wp2_with fail
  rw [HW2.out]

  clear hb hrb
  go_loopw [5] (fun i wr => ∃ (k : Nat) (P : Nat → Prop) (L : List En) (now : Int) (A2 : Option Addr) (n2 c2 : Nat), k ≤ n ∧ k ≤ 60 ∧ i = .int .i64 k ∧ Hid (Pl w1 b rb k P L now A2 n2 c2 wr)) (fun i _ => (60 - intOf i).toNat)
  case atStart => exact ⟨0, _, [], 0, none, 0, 0, by omega, by omega, rfl, HP0⟩
  case round =>
    clear HP0
    obtain ⟨k, P, L, now, A2, n2, c2, hk1, hk2, rfl, HP⟩ := hrel
    by_cases hlt : k < n
    · by_cases h60 : k < 60
      · obtain ⟨ab, ao, rfl, hab, hat⟩ := HL.out (by rw [Hl.out]; omega)
        obtain ⟨a, ha⟩ : ∃ a, l[k]? = some a := ⟨_, List.getElem?_eq_getElem (by rw [Hl.out]; exact hlt)⟩
        obtain ⟨⟨hq, hnn⟩, hcs⟩ := hat k a ha
        obtain ⟨kd, q, x, y, nn⟩ := a
        dsimp only at hq hnn
        have hcell : ∀ j u, (acells ⟨kd, q, x, y, nn⟩)[j]? = some u → wr.cell? ⟨ab, ao + k * 5 + j, none⟩ = some u := fun j u hu => by
          have hbw : Below w.heap.size w wr := HB1.out.trans (HP.out.bs.below.mono HB1.out.size)
          exact ((old_cells hbw).1 ab _ hab).trans (hcs j u hu)
        have c0 : wr.cell? ⟨ab, ao + k * 5, none⟩ = some (.int .i64 kd) := hcell 0 _ rfl
        have c1 : wr.cell? ⟨ab, ao + k * 5 + 1, none⟩ = some (.int .i64 q) := hcell 1 _ rfl
        have c2' : wr.cell? ⟨ab, ao + k * 5 + 2, none⟩ = some (.int .i64 x) := hcell 2 _ rfl
        have c3 : wr.cell? ⟨ab, ao + k * 5 + 3, none⟩ = some (.int .i64 y) := hcell 3 _ rfl
        have c4 : wr.cell? ⟨ab, ao + k * 5 + 4, none⟩ = some (.int .i64 nn) := hcell 4 _ rfl
        have Hq : Hid (In64 q) := Lib.hid hq
        have Hnn : Hid (In64 nn) := Lib.hid hnn
        have hki : (k : Int) < n := by omega
        have hk60 : (k : Int) < 60 := by omega
        have hk0 : (0 : Int) ≤ k := by omega
        have hK : k + 1 ≤ 1000 := by omega
        obtain ⟨W3, hW3⟩ : ∃ W3, wr.alloc (.cells #[.int .i64 kd, .int .i64 q, .int .i64 x, .int .i64 y, .int .i64 nn] 37 (0, 0)) = W3 := ⟨_, rfl⟩
        have HM : Hid (Md w1 b rb k (fun k => P k ∨ k = wr.heap.size) L now L now A2 n2 c2 wr.heap.size #[.int .i64 kd, .int .i64 q, .int .i64 x, .int .i64 y, .int .i64 nn] W3) := Lib.hid (by rw [← hW3]; exact HP.out.md _)
        have HW3 := Lib.hid hW3
        have HLt := Lib.hid HP.out.bs.few
        clear hat hcs hcell hq hnn ha hW3 HP HL
        generalize (fun k => P k ∨ k = wr.heap.size) = P1 at HM
        cases hr : rightB x y with
        | false =>
          have CR : Hid (∀ w : World, _) := Lib.hid (arright_any x y)
          have CA : Hid (∀ w : World, _) := Lib.hid (ashare_any x y)
          rw [hr] at CR
          have h0 : shr0 x y = 0 := by rw [shr0, hr]; rfl
          rw [h0] at CA
          clear hr h0
          by_cases hk1' : kd = 1
          · subst hk1'
            as_aux_lemma =>
              go_wp2_with fail
              rw [HW3.out]
              clear c0 c1 c2' c3 c4 HW3
              generalize hpb : wr.heap.size = pb at *
              clear hpb
              refine (CR.out W3).mono ?_
              rintro e w4 ⟨rfl, hb4⟩
              have M4 := Lib.hid (HM.out.later hb4)
              clear hb4 HM CR
              obtain ⟨a0, a1, a2, a3, a4⟩ := M4.out.acts
              go_wp2_with fail
              refine (ato_any x y w4).mono ?_
              rintro e w6 ⟨rfl, hb6⟩
              have M6 := Lib.hid (M4.out.later hb6)
              clear hb6 a0 a1 a2 a3 a4
              go_wp2_with fail
              refine (CA.out w6).mono ?_
              rintro e w7 ⟨rfl, hb7⟩
              have M7 := Lib.hid (M6.out.later hb7)
              clear hb7 CA
              obtain ⟨a0, a1, a2, a3, a4⟩ := M7.out.acts
              have hn7 : n2 ≤ 900000 := by have := M7.out.few; omega
              go_wp2_with fail
              refine (bs_release M7.out.bs (by omega) Hq.out Hnn.out).mono ?_
              rintro e w8 ⟨rfl, ht8⟩
              have M8 := Lib.hid (M7.out.turn ht8 (Nat.le_refl _))
              clear ht8 a0 a1 a2 a3 a4
              obtain ⟨a0, a1, a2, a3, a4⟩ := M8.out.acts
              obtain ⟨r0, r1⟩ := M8.out.rbs
              generalize hE : relE L q = E at *
              have HE := Lib.hid hE
              clear hE
              go_wp2_with fail
              refine (rrelease_any M8.out.doc M8.out.lts hn7 q nn).mono ?_
              intro e w9 hd9
              rw [HE.out] at hd9
              obtain ⟨A9, n9, c9, rfl, ⟨⟨r2, r3⟩, r4, r5⟩, w10, hw10, P9, M10⟩ := M8.out.got hd9 (Nat.le_trans (relL_len _ _ _ _) HLt.out)
              have HW10 := Lib.hid hw10
              clear hd9 hw10 r0 r1 a0 a1 a2 a3 a4
              generalize relL L q nn now = L9 at *
              go_wp2_with fail
              rw [HW10.out]
              clear r2 r3 r4 r5
              obtain ⟨U, V, R, hasks⟩ := M10.out.asks (by omega) Hq.out
              have HAk := Lib.hid hasks
              obtain ⟨r0, r1⟩ := M10.out.rbs
              obtain ⟨-, a1, -, -, -⟩ := M10.out.acts
              have hlr := M10.out.bs.lt M10.out.prb
              have hlp := M10.out.bs.lt M10.out.pp
              have Hlat : Hid (∀ w', Below w10.heap.size w10 w' → _) := Lib.hid fun w' hb => M10.out.later (w' := w') hb
              clear hasks
              refine wp_region_later w10.heap.size w10 (by kernel_rfl) (by kernel_rfl) (Below.refl _ _) ?_
              repeat (go_big_quiet_step (first
                | (go_at_call 16; (with_reducible refine Calls.later_same (HAk.out _ (Later.below _)).u))
                | (go_at_call 17; (with_reducible refine Calls.later ?_ (HAk.out _ (Later.below _)).ru); exact Nat.le_refl _)
                | (go_at_call 18; (with_reducible refine Calls.later_same (HAk.out _ (Later.below _)).h))
                | (go_at_call 19; (with_reducible refine Calls.later ?_ (HAk.out _ (Later.below _)).rf); exact Nat.le_refl _)
                | (go_at_call 20; (with_reducible refine Calls.later_same (HAk.out _ (Later.below _)).p))
                | (go_at_call 21; (with_reducible refine Calls.later ?_ (HAk.out _ (Later.below _)).rp); exact Nat.le_refl _)))
              refine wpQuiet_nil ?_
              rintro w9 ⟨n9, rfl⟩
              have H9 := Lib.hid (Hlat.out _ n9.below)
              generalize n9.world = w9 at *
              clear r0 r1 a1 HAk Hlat
              go_wp2
              go_roundw
              case rel => exact ⟨k + 1, _, _, _, _, _, _, by omega, by omega, by go_num, Lib.hid (H9.out.pl (by omega))⟩
              case measure => simp [intOf]; omega
          · have hkb1 : (kd == 1) = false := by simpa using hk1'
            by_cases hk2' : kd = 2
            · subst hk2'
              as_aux_lemma =>
                go_wp2_with fail
                rw [HW3.out]
                clear c0 c1 c2' c3 c4 HW3
                generalize hpb : wr.heap.size = pb at *
                clear hpb
                refine (CR.out W3).mono ?_
                rintro e w4 ⟨rfl, hb4⟩
                have M4 := Lib.hid (HM.out.later hb4)
                clear hb4 HM CR
                obtain ⟨a0, a1, a2, a3, a4⟩ := M4.out.acts
                go_wp2_with fail
                refine (ato_any x y w4).mono ?_
                rintro e w6 ⟨rfl, hb6⟩
                have M6 := Lib.hid (M4.out.later hb6)
                clear hb6 a0 a1 a2 a3 a4
                go_wp2_with fail
                refine (CA.out w6).mono ?_
                rintro e w7 ⟨rfl, hb7⟩
                have M7 := Lib.hid (M6.out.later hb7)
                clear hb7 CA
                obtain ⟨a0, a1, a2, a3, a4⟩ := M7.out.acts
                have hn7 : n2 ≤ 900000 := by have := M7.out.few; omega
                obtain ⟨r0, r1⟩ := M7.out.rbs
                go_wp2_with fail
                refine (radvance_any M7.out.doc M7.out.lts hn7 nn).mono ?_
                intro e w8 hd8
                obtain ⟨A9, n9, c9, rfl, ⟨⟨r2, r3⟩, r4, r5⟩, w10, hw10, P9, M10⟩ := M7.out.got hd8 (Nat.le_trans (advL_len _ _ _) HLt.out)
                have HW10 := Lib.hid hw10
                clear a0 a1 a2 a3 a4
                have hbb : Below w7.heap.size w7 w8 := by
                  obtain ⟨_, _, _, _, _, h⟩ := hd8
                  exact h
                obtain ⟨-, -, -, -, a4⟩ := (M7.out.later hbb).acts
                have hne := M7.out.ne
                have hne2 := Ne.symm hne
                clear hd8 hw10 r0 r1 hbb
                have HAv := Lib.hid (bs_advance M10.out.bs (by omega) nn)
                generalize advL L now nn = L9 at *
                generalize advN L now nn = E at *
                generalize advT now nn = t9 at *
                go_wp2_with fail
                rw [HW10.out]
                clear r2 r3 r4 r5
                refine HAv.out.mono ?_
                rintro e w11 ⟨rfl, ht11⟩
                have M11 := Lib.hid (M10.out.turn ht11 (Nat.le_refl _))
                clear ht11 HAv a4 hne hne2
                go_wp2_with fail
                obtain ⟨U, V, R, hasks⟩ := M11.out.asks (by omega) Hq.out
                have HAk := Lib.hid hasks
                obtain ⟨r0, r1⟩ := M11.out.rbs
                obtain ⟨-, a1, -, -, -⟩ := M11.out.acts
                have hlr := M11.out.bs.lt M11.out.prb
                have hlp := M11.out.bs.lt M11.out.pp
                have Hlat : Hid (∀ w', Below w11.heap.size w11 w' → _) := Lib.hid fun w' hb => M11.out.later (w' := w') hb
                clear hasks
                refine wp_region_later w11.heap.size w11 (by kernel_rfl) (by kernel_rfl) (Below.refl _ _) ?_
                repeat (go_big_quiet_step (first
                  | (go_at_call 16; (with_reducible refine Calls.later_same (HAk.out _ (Later.below _)).u))
                  | (go_at_call 17; (with_reducible refine Calls.later ?_ (HAk.out _ (Later.below _)).ru); exact Nat.le_refl _)
                  | (go_at_call 18; (with_reducible refine Calls.later_same (HAk.out _ (Later.below _)).h))
                  | (go_at_call 19; (with_reducible refine Calls.later ?_ (HAk.out _ (Later.below _)).rf); exact Nat.le_refl _)
                  | (go_at_call 20; (with_reducible refine Calls.later_same (HAk.out _ (Later.below _)).p))
                  | (go_at_call 21; (with_reducible refine Calls.later ?_ (HAk.out _ (Later.below _)).rp); exact Nat.le_refl _)))
                refine wpQuiet_nil ?_
                rintro w9 ⟨n9, rfl⟩
                have H9 := Lib.hid (Hlat.out _ n9.below)
                generalize n9.world = w9 at *
                clear r0 r1 a1 HAk Hlat
                go_wp2
                go_roundw
                case rel => exact ⟨k + 1, _, _, _, _, _, _, by omega, by omega, by go_num, Lib.hid (H9.out.pl (by omega))⟩
                case measure => simp [intOf]; omega
            · have hkb2 : (kd == 2) = false := by simpa using hk2'
              as_aux_lemma =>
                go_wp2_with fail
                rw [HW3.out]
                clear c0 c1 c2' c3 c4 HW3
                generalize hpb : wr.heap.size = pb at *
                clear hpb
                refine (CR.out W3).mono ?_
                rintro e w4 ⟨rfl, hb4⟩
                have M4 := Lib.hid (HM.out.later hb4)
                clear hb4 HM CR
                obtain ⟨a0, a1, a2, a3, a4⟩ := M4.out.acts
                go_wp2_with fail
                refine (ato_any x y w4).mono ?_
                rintro e w6 ⟨rfl, hb6⟩
                have M6 := Lib.hid (M4.out.later hb6)
                clear hb6 a0 a1 a2 a3 a4
                go_wp2_with fail
                refine (CA.out w6).mono ?_
                rintro e w7 ⟨rfl, hb7⟩
                have M7 := Lib.hid (M6.out.later hb7)
                clear hb7 CA
                obtain ⟨a0, a1, a2, a3, a4⟩ := M7.out.acts
                have HS : Hid (∀ w', Below w7.heap.size w7 w' → w'.cell? ⟨pb, 1, none⟩ = some (.int .i64 q) ∧ w'.cell? ⟨pb, 2, none⟩ = some (.int .i64 x) ∧ w'.cell? ⟨pb, 3, none⟩ = some (.int .i64 y)) := Lib.hid fun w' hb => by
                  obtain ⟨-, b1, b2, b3, -⟩ := (M7.out.later hb).acts
                  exact ⟨b1, b2, b3⟩
                have HAd : Hid (∀ w', Below w7.heap.size w7 w' → Calls Try.prog 14 #[.pointer (some ⟨b, 0, none⟩), .int .i64 q, .agg #[.int .i64 x, .int .i64 y]] w' fun e w'' => e = .returned (.int .i64 (admE L q x y)) ∧ Hid (Md w1 b rb (k + 1) P1 (admL L q x y) now L now A2 n2 c2 pb #[.int .i64 kd, .int .i64 q, .int .i64 x, .int .i64 y, .int .i64 nn] w'')) := Lib.hid fun w' hb => by
                  have h1 := M7.out.later hb
                  exact (bs_admit h1.bs (by omega) Hq.out x y).mono fun e w'' ⟨h2, h3⟩ => ⟨h2, Lib.hid (h1.turn h3 (Nat.le_succ _))⟩
                generalize hE : admE L q x y = E at *
                have HE := Lib.hid hE
                clear hE a0 a1 a2 a3 a4
                obtain ⟨a0, -, -, -, -⟩ := M7.out.acts
                go_wp2_with fail
                go_region_held3 (fun w' => w'.cell? ⟨pb, 1, none⟩ = some (.int .i64 q) ∧ w'.cell? ⟨pb, 2, none⟩ = some (.int .i64 x) ∧ w'.cell? ⟨pb, 3, none⟩ = some (.int .i64 y))
                  (first | with_reducible exact HS9.out | with_reducible exact HS.out _ G8.out | with_reducible exact HS.out _ (Below.refl _ _).drew)
                  (first
                    | (go_at_call 9; (with_reducible refine (ato_any x y _).mono ?_); rintro e w8 ⟨rfl, hb8⟩; have G8 := Lib.hid (below_call (Nat.le_refl _) (Below.refl _ _).drew hb8); clear hb8)
                    | (go_at_call 14; (with_reducible refine (HAd.out _ G8.out).mono ?_); rintro e w9 ⟨rfl, M9⟩; have HS9 : Hid (w9.cell? ⟨pb, 1, none⟩ = some (.int .i64 q) ∧ w9.cell? ⟨pb, 2, none⟩ = some (.int .i64 x) ∧ w9.cell? ⟨pb, 3, none⟩ = some (.int .i64 y)) := Lib.hid (by obtain ⟨-, b1, b2, b3, -⟩ := M9.out.acts; exact ⟨b1, b2, b3⟩)))
                clear a0
                obtain ⟨a0, a1, a2, a3, a4⟩ := M9.out.acts
                obtain ⟨r0, r1⟩ := M9.out.rbs
                have hn9 : n2 ≤ 900000 := by have := M9.out.few; omega
                have HLo := Lib.hid M7.out.bs.low
                go_wp2_with fail
                refine (radmit_any M9.out.doc M9.out.lts hn9 HLo.out.1 HLo.out.2.2 q x y).mono ?_
                intro e w10 hd10
                rw [HE.out] at hd10
                obtain ⟨A9, n9, c9, rfl, ⟨⟨r2, r3⟩, r4, r5⟩, w11, hw11, P9, M11⟩ := M9.out.got hd10 (Nat.le_trans (admL_len _ _ _ _) (Nat.succ_le_succ HLt.out))
                have HW11 := Lib.hid hw11
                clear hd10 hw11 r0 r1 a0 a1 a2 a3 a4
                generalize admL L q x y = L9 at *
                go_wp2_with fail
                rw [HW11.out]
                clear r2 r3 r4 r5
                obtain ⟨U, V, R, hasks⟩ := M11.out.asks (by omega) Hq.out
                have HAk := Lib.hid hasks
                obtain ⟨r0, r1⟩ := M11.out.rbs
                obtain ⟨-, a1, -, -, -⟩ := M11.out.acts
                have hlr := M11.out.bs.lt M11.out.prb
                have hlp := M11.out.bs.lt M11.out.pp
                have Hlat : Hid (∀ w', Below w11.heap.size w11 w' → _) := Lib.hid fun w' hb => M11.out.later (w' := w') hb
                clear hasks
                refine wp_region_later w11.heap.size w11 (by kernel_rfl) (by kernel_rfl) (Below.refl _ _) ?_
                repeat (go_big_quiet_step (first
                  | (go_at_call 16; (with_reducible refine Calls.later_same (HAk.out _ (Later.below _)).u))
                  | (go_at_call 17; (with_reducible refine Calls.later ?_ (HAk.out _ (Later.below _)).ru); exact Nat.le_refl _)
                  | (go_at_call 18; (with_reducible refine Calls.later_same (HAk.out _ (Later.below _)).h))
                  | (go_at_call 19; (with_reducible refine Calls.later ?_ (HAk.out _ (Later.below _)).rf); exact Nat.le_refl _)
                  | (go_at_call 20; (with_reducible refine Calls.later_same (HAk.out _ (Later.below _)).p))
                  | (go_at_call 21; (with_reducible refine Calls.later ?_ (HAk.out _ (Later.below _)).rp); exact Nat.le_refl _)))
                refine wpQuiet_nil ?_
                rintro w9 ⟨n9, rfl⟩
                have H9 := Lib.hid (Hlat.out _ n9.below)
                generalize n9.world = w9 at *
                clear r0 r1 a1 HAk Hlat
                go_wp2
                go_roundw
                case rel => exact ⟨k + 1, _, _, _, _, _, _, by omega, by omega, by go_num, Lib.hid (H9.out.pl (by omega))⟩
                case measure => simp [intOf]; omega
        | true =>
          have CR : Hid (∀ w : World, _) := Lib.hid (arright_any x y)
          have CS : Hid (∀ w : World, _) := Lib.hid fun w => rshare_any x y w hr
          have CA : Hid (∀ w : World, _) := Lib.hid (ashare_any x y)
          rw [hr] at CR
          have h0 : shr0 x y = shr x y := if_pos hr
          rw [h0] at CA
          clear hr h0
          generalize shr x y = sh at *
          by_cases hk1' : kd = 1
          · subst hk1'
            as_aux_lemma =>
              go_wp2_with fail
              rw [HW3.out]
              clear c0 c1 c2' c3 c4 HW3
              generalize hpb : wr.heap.size = pb at *
              clear hpb
              refine (CR.out W3).mono ?_
              rintro e w4 ⟨rfl, hb4⟩
              have M4 := Lib.hid (HM.out.later hb4)
              clear hb4 HM CR
              obtain ⟨a0, a1, a2, a3, a4⟩ := M4.out.acts
              go_wp2_with fail
              refine (CS.out w4).mono ?_
              rintro e w5 ⟨rfl, hb5⟩
              have M5 := Lib.hid (M4.out.later hb5)
              clear hb5 a0 a1 a2 a3 a4 CS
              obtain ⟨a0, a1, a2, a3, a4⟩ := M5.out.acts
              go_wp2_with fail
              refine (ato_any x y w5).mono ?_
              rintro e w6 ⟨rfl, hb6⟩
              have M6 := Lib.hid (M5.out.later hb6)
              clear hb6 a0 a1 a2 a3 a4
              go_wp2_with fail
              refine (CA.out w6).mono ?_
              rintro e w7 ⟨rfl, hb7⟩
              have M7 := Lib.hid (M6.out.later hb7)
              clear hb7 CA
              obtain ⟨a0, a1, a2, a3, a4⟩ := M7.out.acts
              have hn7 : n2 ≤ 900000 := by have := M7.out.few; omega
              go_wp2_with fail
              refine (bs_release M7.out.bs (by omega) Hq.out Hnn.out).mono ?_
              rintro e w8 ⟨rfl, ht8⟩
              have M8 := Lib.hid (M7.out.turn ht8 (Nat.le_refl _))
              clear ht8 a0 a1 a2 a3 a4
              obtain ⟨a0, a1, a2, a3, a4⟩ := M8.out.acts
              obtain ⟨r0, r1⟩ := M8.out.rbs
              generalize hE : relE L q = E at *
              have HE := Lib.hid hE
              clear hE
              go_wp2_with fail
              refine (rrelease_any M8.out.doc M8.out.lts hn7 q nn).mono ?_
              intro e w9 hd9
              rw [HE.out] at hd9
              obtain ⟨A9, n9, c9, rfl, ⟨⟨r2, r3⟩, r4, r5⟩, w10, hw10, P9, M10⟩ := M8.out.got hd9 (Nat.le_trans (relL_len _ _ _ _) HLt.out)
              have HW10 := Lib.hid hw10
              clear hd9 hw10 r0 r1 a0 a1 a2 a3 a4
              generalize relL L q nn now = L9 at *
              go_wp2_with fail
              rw [HW10.out]
              clear r2 r3 r4 r5
              obtain ⟨U, V, R, hasks⟩ := M10.out.asks (by omega) Hq.out
              have HAk := Lib.hid hasks
              obtain ⟨r0, r1⟩ := M10.out.rbs
              obtain ⟨-, a1, -, -, -⟩ := M10.out.acts
              have hlr := M10.out.bs.lt M10.out.prb
              have hlp := M10.out.bs.lt M10.out.pp
              have Hlat : Hid (∀ w', Below w10.heap.size w10 w' → _) := Lib.hid fun w' hb => M10.out.later (w' := w') hb
              clear hasks
              refine wp_region_later w10.heap.size w10 (by kernel_rfl) (by kernel_rfl) (Below.refl _ _) ?_
              repeat (go_big_quiet_step (first
                | (go_at_call 16; (with_reducible refine Calls.later_same (HAk.out _ (Later.below _)).u))
                | (go_at_call 17; (with_reducible refine Calls.later ?_ (HAk.out _ (Later.below _)).ru); exact Nat.le_refl _)
                | (go_at_call 18; (with_reducible refine Calls.later_same (HAk.out _ (Later.below _)).h))
                | (go_at_call 19; (with_reducible refine Calls.later ?_ (HAk.out _ (Later.below _)).rf); exact Nat.le_refl _)
                | (go_at_call 20; (with_reducible refine Calls.later_same (HAk.out _ (Later.below _)).p))
                | (go_at_call 21; (with_reducible refine Calls.later ?_ (HAk.out _ (Later.below _)).rp); exact Nat.le_refl _)))
              refine wpQuiet_nil ?_
              rintro w9 ⟨n9, rfl⟩
              have H9 := Lib.hid (Hlat.out _ n9.below)
              generalize n9.world = w9 at *
              clear r0 r1 a1 HAk Hlat
              go_wp2
              go_roundw
              case rel => exact ⟨k + 1, _, _, _, _, _, _, by omega, by omega, by go_num, Lib.hid (H9.out.pl (by omega))⟩
              case measure => simp [intOf]; omega
          · have hkb1 : (kd == 1) = false := by simpa using hk1'
            by_cases hk2' : kd = 2
            · subst hk2'
              as_aux_lemma =>
                go_wp2_with fail
                rw [HW3.out]
                clear c0 c1 c2' c3 c4 HW3
                generalize hpb : wr.heap.size = pb at *
                clear hpb
                refine (CR.out W3).mono ?_
                rintro e w4 ⟨rfl, hb4⟩
                have M4 := Lib.hid (HM.out.later hb4)
                clear hb4 HM CR
                obtain ⟨a0, a1, a2, a3, a4⟩ := M4.out.acts
                go_wp2_with fail
                refine (CS.out w4).mono ?_
                rintro e w5 ⟨rfl, hb5⟩
                have M5 := Lib.hid (M4.out.later hb5)
                clear hb5 a0 a1 a2 a3 a4 CS
                obtain ⟨a0, a1, a2, a3, a4⟩ := M5.out.acts
                go_wp2_with fail
                refine (ato_any x y w5).mono ?_
                rintro e w6 ⟨rfl, hb6⟩
                have M6 := Lib.hid (M5.out.later hb6)
                clear hb6 a0 a1 a2 a3 a4
                go_wp2_with fail
                refine (CA.out w6).mono ?_
                rintro e w7 ⟨rfl, hb7⟩
                have M7 := Lib.hid (M6.out.later hb7)
                clear hb7 CA
                obtain ⟨a0, a1, a2, a3, a4⟩ := M7.out.acts
                have hn7 : n2 ≤ 900000 := by have := M7.out.few; omega
                obtain ⟨r0, r1⟩ := M7.out.rbs
                go_wp2_with fail
                refine (radvance_any M7.out.doc M7.out.lts hn7 nn).mono ?_
                intro e w8 hd8
                obtain ⟨A9, n9, c9, rfl, ⟨⟨r2, r3⟩, r4, r5⟩, w10, hw10, P9, M10⟩ := M7.out.got hd8 (Nat.le_trans (advL_len _ _ _) HLt.out)
                have HW10 := Lib.hid hw10
                clear a0 a1 a2 a3 a4
                have hbb : Below w7.heap.size w7 w8 := by
                  obtain ⟨_, _, _, _, _, h⟩ := hd8
                  exact h
                obtain ⟨-, -, -, -, a4⟩ := (M7.out.later hbb).acts
                have hne := M7.out.ne
                have hne2 := Ne.symm hne
                clear hd8 hw10 r0 r1 hbb
                have HAv := Lib.hid (bs_advance M10.out.bs (by omega) nn)
                generalize advL L now nn = L9 at *
                generalize advN L now nn = E at *
                generalize advT now nn = t9 at *
                go_wp2_with fail
                rw [HW10.out]
                clear r2 r3 r4 r5
                refine HAv.out.mono ?_
                rintro e w11 ⟨rfl, ht11⟩
                have M11 := Lib.hid (M10.out.turn ht11 (Nat.le_refl _))
                clear ht11 HAv a4 hne hne2
                go_wp2_with fail
                obtain ⟨U, V, R, hasks⟩ := M11.out.asks (by omega) Hq.out
                have HAk := Lib.hid hasks
                obtain ⟨r0, r1⟩ := M11.out.rbs
                obtain ⟨-, a1, -, -, -⟩ := M11.out.acts
                have hlr := M11.out.bs.lt M11.out.prb
                have hlp := M11.out.bs.lt M11.out.pp
                have Hlat : Hid (∀ w', Below w11.heap.size w11 w' → _) := Lib.hid fun w' hb => M11.out.later (w' := w') hb
                clear hasks
                refine wp_region_later w11.heap.size w11 (by kernel_rfl) (by kernel_rfl) (Below.refl _ _) ?_
                repeat (go_big_quiet_step (first
                  | (go_at_call 16; (with_reducible refine Calls.later_same (HAk.out _ (Later.below _)).u))
                  | (go_at_call 17; (with_reducible refine Calls.later ?_ (HAk.out _ (Later.below _)).ru); exact Nat.le_refl _)
                  | (go_at_call 18; (with_reducible refine Calls.later_same (HAk.out _ (Later.below _)).h))
                  | (go_at_call 19; (with_reducible refine Calls.later ?_ (HAk.out _ (Later.below _)).rf); exact Nat.le_refl _)
                  | (go_at_call 20; (with_reducible refine Calls.later_same (HAk.out _ (Later.below _)).p))
                  | (go_at_call 21; (with_reducible refine Calls.later ?_ (HAk.out _ (Later.below _)).rp); exact Nat.le_refl _)))
                refine wpQuiet_nil ?_
                rintro w9 ⟨n9, rfl⟩
                have H9 := Lib.hid (Hlat.out _ n9.below)
                generalize n9.world = w9 at *
                clear r0 r1 a1 HAk Hlat
                go_wp2
                go_roundw
                case rel => exact ⟨k + 1, _, _, _, _, _, _, by omega, by omega, by go_num, Lib.hid (H9.out.pl (by omega))⟩
                case measure => simp [intOf]; omega
            · have hkb2 : (kd == 2) = false := by simpa using hk2'
              as_aux_lemma =>
                go_wp2_with fail
                rw [HW3.out]
                clear c0 c1 c2' c3 c4 HW3
                generalize hpb : wr.heap.size = pb at *
                clear hpb
                refine (CR.out W3).mono ?_
                rintro e w4 ⟨rfl, hb4⟩
                have M4 := Lib.hid (HM.out.later hb4)
                clear hb4 HM CR
                obtain ⟨a0, a1, a2, a3, a4⟩ := M4.out.acts
                go_wp2_with fail
                refine (CS.out w4).mono ?_
                rintro e w5 ⟨rfl, hb5⟩
                have M5 := Lib.hid (M4.out.later hb5)
                clear hb5 a0 a1 a2 a3 a4 CS
                obtain ⟨a0, a1, a2, a3, a4⟩ := M5.out.acts
                go_wp2_with fail
                refine (ato_any x y w5).mono ?_
                rintro e w6 ⟨rfl, hb6⟩
                have M6 := Lib.hid (M5.out.later hb6)
                clear hb6 a0 a1 a2 a3 a4
                go_wp2_with fail
                refine (CA.out w6).mono ?_
                rintro e w7 ⟨rfl, hb7⟩
                have M7 := Lib.hid (M6.out.later hb7)
                clear hb7 CA
                obtain ⟨a0, a1, a2, a3, a4⟩ := M7.out.acts
                have HS : Hid (∀ w', Below w7.heap.size w7 w' → w'.cell? ⟨pb, 1, none⟩ = some (.int .i64 q) ∧ w'.cell? ⟨pb, 2, none⟩ = some (.int .i64 x) ∧ w'.cell? ⟨pb, 3, none⟩ = some (.int .i64 y)) := Lib.hid fun w' hb => by
                  obtain ⟨-, b1, b2, b3, -⟩ := (M7.out.later hb).acts
                  exact ⟨b1, b2, b3⟩
                have HAd : Hid (∀ w', Below w7.heap.size w7 w' → Calls Try.prog 14 #[.pointer (some ⟨b, 0, none⟩), .int .i64 q, .agg #[.int .i64 x, .int .i64 y]] w' fun e w'' => e = .returned (.int .i64 (admE L q x y)) ∧ Hid (Md w1 b rb (k + 1) P1 (admL L q x y) now L now A2 n2 c2 pb #[.int .i64 kd, .int .i64 q, .int .i64 x, .int .i64 y, .int .i64 nn] w'')) := Lib.hid fun w' hb => by
                  have h1 := M7.out.later hb
                  exact (bs_admit h1.bs (by omega) Hq.out x y).mono fun e w'' ⟨h2, h3⟩ => ⟨h2, Lib.hid (h1.turn h3 (Nat.le_succ _))⟩
                generalize hE : admE L q x y = E at *
                have HE := Lib.hid hE
                clear hE a0 a1 a2 a3 a4
                obtain ⟨a0, -, -, -, -⟩ := M7.out.acts
                go_wp2_with fail
                go_region_held3 (fun w' => w'.cell? ⟨pb, 1, none⟩ = some (.int .i64 q) ∧ w'.cell? ⟨pb, 2, none⟩ = some (.int .i64 x) ∧ w'.cell? ⟨pb, 3, none⟩ = some (.int .i64 y))
                  (first | with_reducible exact HS9.out | with_reducible exact HS.out _ G8.out | with_reducible exact HS.out _ (Below.refl _ _).drew)
                  (first
                    | (go_at_call 9; (with_reducible refine (ato_any x y _).mono ?_); rintro e w8 ⟨rfl, hb8⟩; have G8 := Lib.hid (below_call (Nat.le_refl _) (Below.refl _ _).drew hb8); clear hb8)
                    | (go_at_call 14; (with_reducible refine (HAd.out _ G8.out).mono ?_); rintro e w9 ⟨rfl, M9⟩; have HS9 : Hid (w9.cell? ⟨pb, 1, none⟩ = some (.int .i64 q) ∧ w9.cell? ⟨pb, 2, none⟩ = some (.int .i64 x) ∧ w9.cell? ⟨pb, 3, none⟩ = some (.int .i64 y)) := Lib.hid (by obtain ⟨-, b1, b2, b3, -⟩ := M9.out.acts; exact ⟨b1, b2, b3⟩)))
                clear a0
                obtain ⟨a0, a1, a2, a3, a4⟩ := M9.out.acts
                obtain ⟨r0, r1⟩ := M9.out.rbs
                have hn9 : n2 ≤ 900000 := by have := M9.out.few; omega
                have HLo := Lib.hid M7.out.bs.low
                go_wp2_with fail
                refine (radmit_any M9.out.doc M9.out.lts hn9 HLo.out.1 HLo.out.2.2 q x y).mono ?_
                intro e w10 hd10
                rw [HE.out] at hd10
                obtain ⟨A9, n9, c9, rfl, ⟨⟨r2, r3⟩, r4, r5⟩, w11, hw11, P9, M11⟩ := M9.out.got hd10 (Nat.le_trans (admL_len _ _ _ _) (Nat.succ_le_succ HLt.out))
                have HW11 := Lib.hid hw11
                clear hd10 hw11 r0 r1 a0 a1 a2 a3 a4
                generalize admL L q x y = L9 at *
                go_wp2_with fail
                rw [HW11.out]
                clear r2 r3 r4 r5
                obtain ⟨U, V, R, hasks⟩ := M11.out.asks (by omega) Hq.out
                have HAk := Lib.hid hasks
                obtain ⟨r0, r1⟩ := M11.out.rbs
                obtain ⟨-, a1, -, -, -⟩ := M11.out.acts
                have hlr := M11.out.bs.lt M11.out.prb
                have hlp := M11.out.bs.lt M11.out.pp
                have Hlat : Hid (∀ w', Below w11.heap.size w11 w' → _) := Lib.hid fun w' hb => M11.out.later (w' := w') hb
                clear hasks
                refine wp_region_later w11.heap.size w11 (by kernel_rfl) (by kernel_rfl) (Below.refl _ _) ?_
                repeat (go_big_quiet_step (first
                  | (go_at_call 16; (with_reducible refine Calls.later_same (HAk.out _ (Later.below _)).u))
                  | (go_at_call 17; (with_reducible refine Calls.later ?_ (HAk.out _ (Later.below _)).ru); exact Nat.le_refl _)
                  | (go_at_call 18; (with_reducible refine Calls.later_same (HAk.out _ (Later.below _)).h))
                  | (go_at_call 19; (with_reducible refine Calls.later ?_ (HAk.out _ (Later.below _)).rf); exact Nat.le_refl _)
                  | (go_at_call 20; (with_reducible refine Calls.later_same (HAk.out _ (Later.below _)).p))
                  | (go_at_call 21; (with_reducible refine Calls.later ?_ (HAk.out _ (Later.below _)).rp); exact Nat.le_refl _)))
                refine wpQuiet_nil ?_
                rintro w9 ⟨n9, rfl⟩
                have H9 := Lib.hid (Hlat.out _ n9.below)
                generalize n9.world = w9 at *
                clear r0 r1 a1 HAk Hlat
                go_wp2
                go_roundw
                case rel => exact ⟨k + 1, _, _, _, _, _, _, by omega, by omega, by go_num, Lib.hid (H9.out.pl (by omega))⟩
                case measure => simp [intOf]; omega
      · obtain rfl : k = 60 := by omega
        clear HL
        have HBE := Lib.hid (HB1.out.trans (HP.out.bs.below.mono HB1.out.size))
        go_wp2_with (first
          | (go_at_call 16; refine (used_none _).mono ?_; rintro e w' ⟨rfl, rfl⟩)
          | (go_at_call 18; refine (has_none _ _).mono ?_; rintro e w' ⟨rfl, rfl⟩)
          | (go_at_call 14; refine (admit_none _ _ _ _).mono ?_; rintro e w5 ⟨rfl, hb5⟩; have HB5 := Lib.hid (below_call (Nat.le_refl _) HBE.out hb5); clear hb5)
          | (go_at_call 10; refine (release_none _ _ _).mono ?_; rintro e w' ⟨rfl, rfl⟩)
          | (go_at_call 13; refine (advance_none _ _).mono ?_; rintro e w' ⟨rfl, rfl⟩)
          | (go_at_call 20; refine (pending_none _).mono ?_; rintro e w' ⟨rfl, rfl⟩)
          | (go_at_call 5; refine (awake_any _).mono ?_; rintro e w6 ⟨rfl, hb6⟩; have HB6 := Lib.hid (below_call (Nat.le_refl _) HB5.out hb6); clear hb6))
        go_ret
        exact ⟨rfl, HB6.out⟩
    · obtain rfl : k = n := by omega
      clear HL
      have HBE := Lib.hid (HB1.out.trans (HP.out.bs.below.mono HB1.out.size))
      go_wp2_with (first
        | (go_at_call 16; refine (used_none _).mono ?_; rintro e w' ⟨rfl, rfl⟩)
        | (go_at_call 18; refine (has_none _ _).mono ?_; rintro e w' ⟨rfl, rfl⟩)
        | (go_at_call 14; refine (admit_none _ _ _ _).mono ?_; rintro e w5 ⟨rfl, hb5⟩; have HB5 := Lib.hid (below_call (Nat.le_refl _) HBE.out hb5); clear hb5)
        | (go_at_call 10; refine (release_none _ _ _).mono ?_; rintro e w' ⟨rfl, rfl⟩)
        | (go_at_call 13; refine (advance_none _ _).mono ?_; rintro e w' ⟨rfl, rfl⟩)
        | (go_at_call 20; refine (pending_none _).mono ?_; rintro e w' ⟨rfl, rfl⟩)
        | (go_at_call 5; refine (awake_any _).mono ?_; rintro e w6 ⟨rfl, hb6⟩; have HB6 := Lib.hid (below_call (Nat.le_refl _) HB5.out hb6); clear hb6))
      go_ret
      exact ⟨rfl, HB6.out⟩
end Go.Proofs.Ytcofehmgnpmecaa
