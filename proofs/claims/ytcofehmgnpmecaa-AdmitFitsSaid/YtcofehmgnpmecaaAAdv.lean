/-
  The contract of Advance.
-/
import Derived.Test.YtcofehmgnpmecaaARel
import Derived.BigQuiet
namespace Go.Proofs.Ytcofehmgnpmecaa
open Go.ChangeShapes Go.WideShapes Go.ChangeAt Go.RowKit Ap

section
variable {w w' w2 : World} {B b N : Nat} {mv v : Value} {f : Int → Option Int} {xs : List Gv} {u t : Int}
theorem BkIs.queue (H : BkIs w B b mv v N f xs u t) (hn : 0 < xs.length) : ∃ g c, v = .slice (some ⟨g, 0, none⟩) xs.length c ∧ QIs w B g xs.length c xs ∧ g ≠ b := by
  have hr := H.row
  have hl := hr.1
  rw [gcells_len] at hl
  rcases hr.2 with ⟨h1, h2⟩ | ⟨g, cap, cur, hv, _⟩
  · omega
  · subst hv
    exact ⟨g, cap, rfl, ⟨hr, rfl⟩, fun e => H.off.1 (by rw [e]; rfl)⟩
/-- What is used has changed. -/
theorem BkIs.use (H : BkIs w B b mv v N f xs u t) (u' : Int) : BkIs (w.setCell ⟨b, 2, none⟩ (.int .u64 u')) B b mv v N f xs u' t ∧ Only (Mine b mv v) w (w.setCell ⟨b, 2, none⟩ (.int .u64 u')) := by
  obtain ⟨o1, o2⟩ := H.off
  refine ⟨⟨?_, H.map.kept fun k hk => Below.heap_setCell _ _ _ _ (o2 k hk).1, row_kept H.row fun k hk => Below.heap_setCell _ _ _ _ (fun e => o1 (by rw [hk, e])), H.order, H.base, H.off⟩, (Only.refl _ w).put (p := ⟨b, 2, none⟩) (Or.inl (Or.inl rfl)) _⟩
  rw [heap_setCell_same w b 2 _ _ _ H.obj]
  rfl
theorem BkIs.go (H : BkIs w B b mv v N f xs u t) (t' : Int) : BkIs (w.setCell ⟨b, 3, none⟩ (.int .i64 t')) B b mv v N f xs u t' ∧ Only (Mine b mv v) w (w.setCell ⟨b, 3, none⟩ (.int .i64 t')) := by
  obtain ⟨o1, o2⟩ := H.off
  refine ⟨⟨?_, H.map.kept fun k hk => Below.heap_setCell _ _ _ _ (o2 k hk).1, row_kept H.row fun k hk => Below.heap_setCell _ _ _ _ (fun e => o1 (by rw [hk, e])), H.order, H.base, H.off⟩, (Only.refl _ w).put (p := ⟨b, 3, none⟩) (Or.inl (Or.inl rfl)) _⟩
  rw [heap_setCell_same w b 3 _ _ _ H.obj]
  rfl
/-- The first one was taken out. -/
theorem BkIs.popped {n g c : Nat} (H : BkIs w B b mv (.slice (some ⟨g, 0, none⟩) (n + 1) c) N f xs u t) {e : Ending} (h : Removed B b g n c mv (.int .u64 u) (.int .i64 t) xs w e w') : ∃ ys, (at_ xs 0 :: ys).Perm xs ∧ BkIs w' B b mv (.slice (some ⟨g, 0, none⟩) n c) N f ys u t ∧ Only (Mine b mv (.slice (some ⟨g, 0, none⟩) (n + 1) c)) w w' ∧ ys.length = n := by
  obtain ⟨-, ys, hp, hq, hh, hb, hO⟩ := h
  obtain ⟨o1, o2⟩ := H.off
  refine ⟨ys, hp, ⟨hb, H.map.kept fun k hk => ?_, ?_, ?_, H.base, o1, o2⟩, hO.mono fun k hk => ?_, hq.len⟩
  · refine hO.block k (H.mine_lt (Or.inr (Or.inl hk))).2 (fun e => ?_)
    rcases e with e | e
    · exact (o2 k hk).2 (by rw [e]; rfl)
    · exact (o2 k hk).1 e
  · rw [hq.len]
    exact hq.row
  · rw [hq.len]
    exact hh
  · rcases hk with rfl | rfl
    · exact Or.inr (Or.inr rfl)
    · exact Or.inl rfl

theorem field0 (a b : Int) (w : World) : (Instr.field 65 (.agg #[.int .i64 a, .int .u64 b]) 0).run Try.prog w = .ok (.int .i64 a) w := by kernel_rfl
theorem field1 (a b : Int) (w : World) : (Instr.field 65 (.agg #[.int .i64 a, .int .u64 b]) 1).run Try.prog w = .ok (.int .u64 b) w := by kernel_rfl
/-- Behind Advance: what counts no more, what still does. -/
def AdvP (B b : Nat) (mv v : Value) (N : Nat) (f : Int → Option Int) (xs : List Gv) (u t n : Int) (w : World) (e : Ending) (w' : World) : Prop :=
  (n < t → e = .returned (.int .i64 0) ∧ w = w') ∧ (t ≤ n → ∃ R G, (R ++ G).Perm xs ∧ (∀ x, x ∈ R → x.till ≤ n) ∧ (∀ x, x ∈ G → n < x.till) ∧ e = .returned (.int .i64 R.length) ∧ Bkd B b mv v N f G (u - gsum R) n w w')
/-- Within the loop. -/
structure Mid (B b : Nat) (mv v : Value) (N : Nat) (f : Int → Option Int) (xs : List Gv) (u n : Int) (w : World) (R ys : List Gv) (v' : Value) (wr : World) : Prop where
  bk : BkIs wr B b mv v' N f ys (u - gsum R) n
  perm : (R ++ ys).Perm xs
  due : ∀ x, x ∈ R → x.till ≤ n
  only : Only (Mine b mv v) w wr
  mine : ∀ k, v'.ownBlock = some k → v.ownBlock = some k
theorem Mid.later {n : Int} {R ys : List Gv} {v' : Value} {wr w2 : World} (M : Mid B b mv v N f xs u n w R ys v' wr) (hb : Below wr.heap.size wr w2) : Mid B b mv v N f xs u n w R ys v' w2 :=
  ⟨M.bk.below hb, M.perm, M.due, M.only.trans (Only.of_below (S := fun _ => False) hb) (fun _ h => h.elim), M.mine⟩
/-- One more counts no more. -/
theorem Mid.next {n : Int} {R ys : List Gv} {g c m : Nat} {wr w3 w4 : World} {e : Ending} (M : Mid B b mv v N f xs u n w R ys (.slice (some ⟨g, 0, none⟩) (m + 1) c) wr) (hd : (at_ ys 0).till ≤ n)
    (h3 : wr.setCell ⟨b, 2, none⟩ (.int .u64 (u - gsum R - (at_ ys 0).sh)) = w3) (h4 : Removed B b g m c mv (.int .u64 (u - gsum R - (at_ ys 0).sh)) (.int .i64 n) ys w3 e w4) :
    ∃ zs, Mid B b mv v N f xs u n w (R ++ [at_ ys 0]) zs (.slice (some ⟨g, 0, none⟩) m c) w4 ∧ zs.length = m := by
  obtain ⟨h5, h6⟩ := M.bk.use (u - gsum R - (at_ ys 0).sh)
  rw [h3] at h5 h6
  obtain ⟨zs, h7, h8, h9, h10⟩ := h5.popped h4
  have hmine : ∀ k, Mine b mv (.slice (some ⟨g, 0, none⟩) (m + 1) c) k → Mine b mv v k := fun k hk => hk.imp id (fun h => h.imp id (M.mine k))
  refine ⟨zs, ⟨?_, ?_, ?_, (M.only.trans h6 fun k hk => Or.inl (hmine k hk)).trans h9 fun k hk => Or.inl (hmine k hk), fun k hk => M.mine k hk⟩, h10⟩
  · have : gsum (R ++ [at_ ys 0]) = gsum R + (at_ ys 0).sh := by rw [gsum_app]; simp [gsum]
    rw [this, show u - (gsum R + (at_ ys 0).sh) = u - gsum R - (at_ ys 0).sh by omega]
    exact h8
  · rw [List.append_assoc]
    exact (h7.append_left R).trans M.perm
  · intro x hx
    rcases List.mem_append.1 hx with hx | hx
    · exact M.due x hx
    · rw [List.mem_singleton.1 hx]
      exact hd
def qlen (b : Nat) (w : World) : Nat := match w.cell? ⟨b, 1, none⟩ with
  | some (.slice _ n _) => n
  | _ => 0
set_option maxHeartbeats 4000000 in
theorem advance_any (H : BkIs w B b mv v N f xs u t) (hu : 0 ≤ u ∧ u ≤ 4294967296) (hx : xs.length ≤ 900000) (hsum : gsum xs ≤ u) (hlow : ∀ x, x ∈ xs → 0 ≤ x.sh) (n : Int) :
    Calls Try.prog 13 #[.pointer (some ⟨b, 0, none⟩), .int .i64 n] w (AdvP B b mv v N f xs u t n w) := by
  obtain ⟨-, -, -, c3⟩ := H.cells
  by_cases hlt : n < t
  · have HE : Hid (AdvP B b mv v N f xs u t n w (.returned (.int .i64 0)) w) := Lib.hid ⟨fun _ => ⟨rfl, rfl⟩, fun h => by omega⟩
    clear H
    go_enter Try.func13, Try.ntmps13
    go_wp2
    go_ret
    exact HE.out
  · have hf3 := (bx_cell (j := 3) H.obj rfl).2
    obtain ⟨H1, hO1⟩ := H.go n
    obtain ⟨W1, hW1⟩ : ∃ W1, w.setCell ⟨b, 3, none⟩ (.int .i64 n) = W1 := ⟨_, rfl⟩
    rw [hW1] at H1 hO1
    have HW1 := Lib.hid hW1
    have HM1 : Hid (Mid B b mv v N f xs u n w [] xs v W1) := Lib.hid ⟨by simpa [gsum] using H1, by simp, fun x hx => by simp at hx, hO1, fun _ h => h⟩
    have HP1 := Lib.hid (pending_any H1)
    have HL : Hid (∀ (R ys : List Gv) (v' : Value) (wr : World), Mid B b mv v N f xs u n w R ys v' wr → ys.length ≤ 900000 ∧ xs.length = R.length + ys.length ∧ gsum R + gsum ys ≤ u ∧ 0 ≤ gsum R ∧ (∀ x, x ∈ ys → 0 ≤ x.sh)) := Lib.hid fun R ys v' wr M => by
      have h1 := M.perm.length_eq
      have h2 := gsum_perm M.perm
      rw [List.length_append] at h1
      rw [gsum_app] at h2
      exact ⟨by omega, by omega, by omega, gsum_low fun x hx => hlow x (M.perm.mem_iff.1 (List.mem_append_left _ hx)), fun x hx => hlow x (M.perm.mem_iff.1 (List.mem_append_right _ hx))⟩
    have HF : Hid (∀ (R ys : List Gv) (v' : Value) (wr : World), Mid B b mv v N f xs u n w R ys v' wr → (∀ x, x ∈ ys → n < x.till) → AdvP B b mv v N f xs u t n w (.returned (.int .i64 R.length)) wr) := Lib.hid fun R ys v' wr M hG =>
      ⟨fun h => absurd h hlt, fun _ => ⟨R, ys, M.perm, M.due, hG, rfl, mv, v', ys, List.Perm.refl _, M.bk, M.only, fun k hk => Or.inl (hk.imp id (fun h => h.imp id (M.mine k)))⟩⟩
    obtain ⟨X, hX⟩ : ∃ X : Nat, xs.length = X := ⟨_, rfl⟩
    rw [hX] at HP1 HL hx
    have hX1 : (X : Int) ≤ 900000 := by omega
    have z0 := field0
    have z1 := field1
    clear H H1 hO1 hW1 hsum hlow hX
    go_enter Try.func13, Try.ntmps13
    go_wp2_with fail
    rw [HW1.out]
    refine HP1.out.mono ?_
    rintro e w' ⟨rfl, rfl⟩
    clear HP1
    go_wp2_with fail
    go_loopw [] (fun wr => ∃ (R ys : List Gv) (v' : Value), Hid (Mid B b mv v N f xs u n w R ys v' wr)) (fun wr => qlen b wr)
    case atStart => exact ⟨[], xs, v, HM1⟩
    case round =>
      clear HM1
      obtain ⟨R, ys, v', HM⟩ := hrel
      obtain ⟨l1, l2, l3, l4, l5⟩ := HL.out _ _ _ _ HM.out
      have HPr := Lib.hid (pending_any HM.out.bk)
      by_cases h0 : ys.length = 0
      · have Hfin := Lib.hid (HF.out R ys v' wr HM.out (fun x hx => by rw [List.length_eq_zero_iff.1 h0] at hx; simp at hx))
        have hR : (R.length : Int) = X := by omega
        rw [h0] at HPr
        rw [hR] at Hfin
        go_wp2_with (go_at_call 20; refine HPr.out.mono ?_; rintro e w' ⟨rfl, rfl⟩)
        go_ret
        exact Hfin.out
      · obtain ⟨m, hm⟩ : ∃ m, ys.length = m + 1 := ⟨ys.length - 1, by omega⟩
        obtain ⟨g, c, hv', hq, hgb⟩ := HM.out.bk.queue (by omega)
        rw [hm] at hq hv' HPr
        subst hv'
        have HFr := Lib.hid (first_any hq (by omega) (by omega))
        obtain ⟨-, d1, -, -⟩ := HM.out.bk.cells
        have hm0 : (0 : Int) < ((m + 1 : Nat) : Int) := by omega
        have hm1 : ((m + 1 : Nat) : Int) ≤ 900000 := by omega
        by_cases hd : (at_ ys 0).till ≤ n
        · have HZ : Hid (∀ w1, Below wr.heap.size wr w1 → (w1.cell? ⟨b, 1, none⟩ = some (.slice (some ⟨g, 0, none⟩) (m + 1) c) ∧ w1.cell? ⟨b, 2, none⟩ = some (.int .u64 (u - gsum R)) ∧ b < w1.heap.size) ∧ Hid (∀ w2, Below w1.heap.size w1 w2 → Calls Try.prog 26 #[.slice (some ⟨g, 0, none⟩) (m + 1) c] w2 fun e w' => e = .returned (.agg #[.int .i64 (at_ ys 0).till, .int .u64 (at_ ys 0).sh]) ∧ Below w2.heap.size w2 w')) := Lib.hid fun w1 hb => by
            have h1 := HM.out.later hb
            refine ⟨⟨h1.bk.cells.2.1, h1.bk.cells.2.2.1, h1.bk.lt⟩, Lib.hid fun w2 hb2 => ?_⟩
            exact first_any ((hq.below hb).below hb2) (by omega) (by omega)
          have HY : Hid (∀ w1, Below wr.heap.size wr w1 → (w1.cell? ⟨b, 2, none⟩ = some (.int .u64 (u - gsum R)) ∧ w1.frozen? ⟨b, 2, none⟩ = false) ∧ Hid (∀ w3, w1.setCell ⟨b, 2, none⟩ (.int .u64 (u - gsum R - (at_ ys 0).sh)) = w3 → Calls Try.prog 27 #[.iface 63 (.pointer (some ⟨b, 1, none⟩))] w3 fun e w4 => (∃ v, e = .returned v) ∧ ∃ R' zs v', Mid B b mv v N f xs u n w R' zs v' w4 ∧ zs.length = m)) := Lib.hid fun w1 hb => by
            have h1 := HM.out.later hb
            refine ⟨bx_cell (j := 2) h1.bk.obj rfl, Lib.hid fun w3 h3 => ?_⟩
            obtain ⟨h5, h6⟩ := h1.bk.use (u - gsum R - (at_ ys 0).sh)
            rw [h3] at h5 h6
            obtain ⟨g', c', e1, hq3, hgb3⟩ := h5.queue (by omega)
            rw [hm] at hq3 e1
            cases e1
            have ho := h5.order
            rw [hm] at ho
            exact (hpop_any hq3 ho (by omega) h5.obj hgb3).mono fun e w4 h7 => ⟨h7.1, by
              obtain ⟨zs, h8, h9⟩ := h1.next hd h3 h7
              exact ⟨_, zs, _, h8, h9⟩⟩
          have hsm : at_ ys 0 ∈ ys := at_mem (by omega)
          have hs0 := l5 _ hsm
          have hs1 : (at_ ys 0).sh ≤ gsum ys := by
            obtain ⟨A, C, hAC⟩ := List.append_of_mem hsm
            have h1 := gsum_low (K := A) fun x hx => l5 x (by rw [hAC]; exact List.mem_append_left _ hx)
            have h2 := gsum_low (K := C) fun x hx => l5 x (by rw [hAC]; exact List.mem_append_right _ (List.mem_cons_of_mem _ hx))
            have h3 : gsum ys = gsum A + ((at_ ys 0).sh + gsum C) := by
              conv => lhs; rw [hAC]
              simp [gsum]
            omega
          have hwr : IntKind.u64.wrap (u - gsum R - (at_ ys 0).sh) = u - gsum R - (at_ ys 0).sh := IntWalk.u64_in _ (by omega)
          have HQm : Hid (qlen b wr = m + 1) := Lib.hid (by rw [qlen, d1])
          have HQ2 : Hid (∀ (R' zs : List Gv) (v' : Value) (w4 : World), Mid B b mv v N f xs u n w R' zs v' w4 → zs.length = m → qlen b w4 = m) := Lib.hid fun R' zs v' w4 M hz => by
            obtain ⟨A, c, h1, -, -⟩ := own_shape M.bk.row
            rw [qlen, M.bk.cells.2.1, h1]
            exact hz
          generalize ((m + 1 : Nat) : Int) = M at *
          generalize (at_ ys 0).sh = zs at *
          generalize (at_ ys 0).till = zt at *
          generalize u - gsum R = ur at *
          clear l1 l2 l3 l4 l5 hq hgb HM hsm hs1
          go_wp2_with (first
            | (go_at_call 20; refine HPr.out.mono ?_; rintro e w' ⟨rfl, rfl⟩)
            | (go_at_call 26; refine HFr.out.mono ?_; rintro e w1 ⟨rfl, hb1⟩; obtain ⟨⟨e1, e2, lt1⟩, HC1⟩ := HZ.out w1 hb1; have Hb1 := Lib.hid hb1; clear hb1 HPr HFr))
          go_region_with ((go_at_call 26; refine (HC1.out _ (Below.refl _ _).drew).mono ?_; rintro e w2 ⟨rfl, hb2⟩; obtain ⟨⟨k2, f2⟩, HP2⟩ := HY.out w2 (below_call (Nat.le_refl _) Hb1.out ((Below.refl _ _).drew.trans hb2)); clear hb2))
          all_goals
            obtain ⟨w3, hw3⟩ : ∃ w3, w2.setCell ⟨b, 2, none⟩ (.int .u64 (ur - zs)) = w3 := ⟨_, rfl⟩
            have HPP := Lib.hid (HP2.out w3 hw3)
            have HW3 := Lib.hid hw3
            clear hw3 HP2
            rw [show w2.setCell ⟨b, 2, none⟩ (.int .u64 (ur - zs)) = w3 from HW3.out]
            go_wp2_with (go_at_call 27; refine HPP.out.mono ?_; rintro e w4 ⟨⟨v4, rfl⟩, R', zl, v', hM4, hz4⟩; have HM4 := Lib.hid hM4; have HQ4 := Lib.hid (HQ2.out _ _ _ _ hM4 hz4); clear hM4 hz4)
            go_roundw
            case rel => exact ⟨R', zl, v', HM4⟩
            case measure =>
              rw [HQm.out, HQ4.out]
              omega
        · have hleast : ∀ x, x ∈ ys → n < x.till := fun x hx => by
            have h1 := heap_least HM.out.bk.order hx
            simp only [lead, decide_eq_false_iff_not] at h1
            omega
          have HX : Hid (∀ w1, Below wr.heap.size wr w1 → Hid (Calls Try.prog 20 #[.pointer (some ⟨b, 0, none⟩)] w1 fun e w' => e = .returned (.int .i64 ((m + 1 : Nat) : Int)) ∧ w1 = w') ∧ Hid (AdvP B b mv v N f xs u t n w (.returned (.int .i64 R.length)) w1)) := Lib.hid fun w1 hb => by
            have h1 := pending_any (HM.out.later hb).bk
            rw [hm] at h1
            exact ⟨Lib.hid h1, Lib.hid (HF.out R ys _ w1 (HM.out.later hb) hleast)⟩
          have hR : (X : Int) - ((m + 1 : Nat) : Int) = R.length := by omega
          generalize ((m + 1 : Nat) : Int) = M at *
          generalize (at_ ys 0).sh = zs at *
          generalize (at_ ys 0).till = zt at *
          clear hleast l1 l2 l3 l4 l5 hq hgb HM
          go_wp2_with (first
            | (go_at_call 20; refine HPr.out.mono ?_; rintro e w' ⟨rfl, rfl⟩)
            | (go_at_call 26; refine HFr.out.mono ?_; rintro e w1 ⟨rfl, hb1⟩; obtain ⟨HP1, HE1⟩ := HX.out w1 hb1; clear hb1 HPr)
            | (go_at_call 20; refine HP1.out.mono ?_; rintro e w' ⟨rfl, rfl⟩))
          go_ret
          exact HE1.out
end
end Go.Proofs.Ytcofehmgnpmecaa
