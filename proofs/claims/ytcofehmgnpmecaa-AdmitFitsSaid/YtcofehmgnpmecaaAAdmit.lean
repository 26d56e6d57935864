/-
  The contract of Admit.
-/
import Derived.Test.YtcofehmgnpmecaaAWalksE
namespace Go.Proofs.Ytcofehmgnpmecaa
open Go.ChangeShapes Go.WideShapes Go.ChangeAt Go.RowKit Ap

/-- A book behind a call. -/
def Bkd (B b : Nat) (mv v : Value) (N : Nat) (f : Int → Option Int) (xs : List Gv) (u t : Int) (w w' : World) : Prop :=
  ∃ mv' v' ys, ys.Perm xs ∧ BkIs w' B b mv' v' N f ys u t ∧ Only (Mine b mv v) w w' ∧ ∀ k, Mine b mv' v' k → Mine b mv v k ∨ w.heap.size ≤ k
section
variable {w w' w2 : World} {B b N : Nat} {mv v : Value} {f : Int → Option Int} {xs : List Gv} {u t : Int}
theorem BkIs.same (H : BkIs w B b mv v N f xs u t) (hb : Below w.heap.size w w') : Bkd B b mv v N f xs u t w w' := ⟨mv, v, xs, List.Perm.refl _, H.below hb, Only.of_below hb, fun _ h => Or.inl h⟩
theorem nil_map (w : World) : (binOp .eql 25 (.map none) (.map none)).run Try.prog w = .ok (.bool true) w := by kernel_rfl
theorem some_map (m : Nat) (w : World) : (binOp .eql 25 (.map (some m)) (.map none)).run Try.prog w = .ok (.bool false) w := by kernel_rfl
/-- One more, in a map that is there. -/
theorem adm_old {m : Nat} (H : BkIs w B b (.map (some m)) v N f xs u t) (hN : N ≤ 1000000) {q : Int} (hq : In64 q) (s : Int) : ∃ w4, (Instr.mapUpdate 25 (.map (some m)) (.int .i64 q) (.int .u64 s)).run Try.prog w = .ok () w4 ∧ (w4.cell? ⟨b, 2, none⟩ = some (.int .u64 u) ∧ w4.frozen? ⟨b, 2, none⟩ = false) ∧ Hid (BkIs (w4.setCell ⟨b, 2, none⟩ (.int .u64 (u + s))) B b (.map (some m)) v (N + 1) (updF f q (some s)) xs (u + s) t) ∧ Hid (Only (Mine b (.map (some m)) v) w (w4.setCell ⟨b, 2, none⟩ (.int .u64 (u + s)))) := by
  rcases H.map with ⟨h1, -⟩ | ⟨m', h1, h2, h3⟩
  · cases h1
  · cases h1
    obtain ⟨w4, hr, h4, h5⟩ := h3.store hN hq s
    obtain ⟨o1, o2⟩ := H.off
    have hmb := (o2 m rfl).1
    have hvm := (o2 m rfl).2
    have hlt := H.lt
    have hb4 : w4.heap[b]? = some (bObj (.map (some m)) v (.int .u64 u) (.int .i64 t)) := (h5.block b hlt (fun e => by simp at e; exact hmb e.symm)).trans H.obj
    have hO : Only (Mine b (.map (some m)) v) w w4 := (Only.refl _ w).grown h5 (fun k hk => by simp at hk; subst hk; exact Or.inl (Or.inr (Or.inl rfl)))
    refine ⟨w4, hr, bx_cell (j := 2) hb4 rfl, Lib.hid ⟨?_, Or.inr ⟨m, rfl, h2, h4.kept (Below.heap_setCell _ _ _ _ hmb)⟩, row_kept H.row fun k hk => ?_, H.order, H.base, H.off⟩, Lib.hid (hO.put (p := ⟨b, 2, none⟩) (Or.inl (Or.inl rfl)) _)⟩
    · rw [heap_setCell_same w4 b 2 _ _ _ hb4]
      rfl
    · rw [Below.heap_setCell _ _ _ _ (fun e => o1 (by rw [hk, e]))]
      exact h5.block k (H.row.lt k hk).2 (fun e => hvm (by rw [hk, e]))
/-- One more, in a new map. -/
theorem adm_new (H : BkIs w B b (.map none) v N f xs u t) {q : Int} (hq : In64 q) (s : Int) : ∃ w4, (Instr.mapUpdate 25 (.map (some w.heap.size)) (.int .i64 q) (.int .u64 s)).run Try.prog ((w.setCell ⟨b, 0, none⟩ (.map (some w.heap.size))).alloc (.map #[] 0)) = .ok () w4 ∧ (w4.cell? ⟨b, 2, none⟩ = some (.int .u64 u) ∧ w4.frozen? ⟨b, 2, none⟩ = false) ∧ Hid (BkIs (w4.setCell ⟨b, 2, none⟩ (.int .u64 (u + s))) B b (.map (some w.heap.size)) v (N + 1) (updF f q (some s)) xs (u + s) t) ∧ Hid (Only (Mine b (.map none) v) w (w4.setCell ⟨b, 2, none⟩ (.int .u64 (u + s)))) := by
  have hlt := H.lt
  have hcm : (w.setCell ⟨b, 0, none⟩ (.map (some w.heap.size))).alloc (.map #[] 0) = (w.alloc (.map #[] 0)).setCell ⟨b, 0, none⟩ (.map (some w.heap.size)) := by
    exact (World.setCell_alloc_past (w := w) _ b 0 _ hlt).symm
  rw [hcm]
  have hf : f = fun _ => none := by
    rcases H.map with ⟨-, h⟩ | ⟨m', h1, -⟩
    · exact funext h
    · cases h1
  have hm0 : MapIs ((w.alloc (.map #[] 0)).setCell ⟨b, 0, none⟩ (.map (some w.heap.size))) w.heap.size 0 f := by
    rw [hf]
    exact (map_made w).kept (Below.heap_setCell _ _ _ _ (by show w.heap.size ≠ b; omega))
  have hb3 : ((w.alloc (.map #[] 0)).setCell ⟨b, 0, none⟩ (.map (some w.heap.size))).heap[b]? = some (bObj (.map (some w.heap.size)) v (.int .u64 u) (.int .i64 t)) := by
    rw [heap_setCell_same (w.alloc (.map #[] 0)) b 0 _ _ _ ((Below.heap_alloc _ _ _ hlt).trans H.obj)]
    rfl
  obtain ⟨w4, hr, h4, h5⟩ := hm0.store (by omega) hq s
  obtain ⟨o1, o2⟩ := H.off
  have hs3 : ((w.alloc (.map #[] 0)).setCell ⟨b, 0, none⟩ (.map (some w.heap.size))).heap.size = w.heap.size + 1 := by simp [World.setCell]
  have hb4 : w4.heap[b]? = some (bObj (.map (some w.heap.size)) v (.int .u64 u) (.int .i64 t)) := (h5.block b (by omega) (fun e => by simp at e; omega)).trans hb3
  have hO3 : Only (Mine b (.map none) v) w ((w.alloc (.map #[] 0)).setCell ⟨b, 0, none⟩ (.map (some w.heap.size))) := ((Only.refl _ w).new _).put (p := ⟨b, 0, none⟩) (Or.inl (Or.inl rfl)) _
  have hO : Only (Mine b (.map none) v) w w4 := hO3.grown h5 (fun k hk => by simp at hk; subst hk; exact Or.inr (Nat.le_refl _))
  refine ⟨w4, hr, bx_cell (j := 2) hb4 rfl, Lib.hid ⟨?_, Or.inr ⟨w.heap.size, rfl, ?_, (h4.mono (by omega)).kept (Below.heap_setCell _ _ _ _ (by show w.heap.size ≠ b; omega))⟩, row_kept H.row fun k hk => ?_, H.order, H.base, o1, fun m hm => ?_⟩, Lib.hid (hO.put (p := ⟨b, 2, none⟩) (Or.inl (Or.inl rfl)) _)⟩
  · rw [heap_setCell_same w4 b 2 _ _ _ hb4]
    rfl
  · have := H.base
    omega
  · have hk2 := (H.row.lt k hk).2
    have hkb : k ≠ b := fun e => o1 (by rw [hk, e])
    rw [Below.heap_setCell _ _ _ _ hkb, h5.block k (by omega) (fun e => by simp at e; omega), Below.heap_setCell _ _ _ _ hkb]
    exact Below.heap_alloc _ _ _ hk2
  · cases hm
    refine ⟨by omega, fun e => ?_⟩
    have := (H.row.lt _ e).2
    omega

/-- What Admit answers. -/
def admX (f : Int → Option Int) (u q x y : Int) : Int := if rightB x y = false then 1 else if (f q).isSome = true then 7 else if 4294967296 < u + shr x y then 24 else 0
def AdmP (B b : Nat) (mv v : Value) (N : Nat) (f : Int → Option Int) (xs : List Gv) (u t q x y : Int) (w : World) (e : Ending) (w' : World) : Prop :=
  e = .returned (.int .i64 (admX f u q x y)) ∧ (admX f u q x y = 0 → Bkd B b mv v (N + 1) (updF f q (some (shr x y))) xs (u + shr x y) t w w') ∧ (admX f u q x y ≠ 0 → Bkd B b mv v N f xs u t w w')
theorem adm_no {q x y E : Int} (H : BkIs w B b mv v N f xs u t) (he : admX f u q x y = E) (h0 : E ≠ 0) (w' : World) (hb : Below w.heap.size w w') : AdmP B b mv v N f xs u t q x y w (.returned (.int .i64 E)) w' := by
  unfold AdmP
  rw [he]
  exact ⟨rfl, fun h => absurd h h0, fun _ => H.same hb⟩
set_option maxHeartbeats 1000000 in
theorem admit_any (H : BkIs w B b mv v N f xs u t) (hN : N ≤ 1000000) (hu : 0 ≤ u ∧ u ≤ 4294967296) {q : Int} (hq : In64 q) (x y : Int) :
    Calls Try.prog 14 #[.pointer (some ⟨b, 0, none⟩), .int .i64 q, .agg #[.int .i64 x, .int .i64 y]] w (AdmP B b mv v N f xs u t q x y w) := by
  obtain ⟨W0, hW0⟩ : ∃ W0, w.alloc (.cells #[.int .i64 x, .int .i64 y] 41 (0, 0)) = W0 := ⟨_, rfl⟩
  have HB0 : Hid (Below w.heap.size w W0) := Lib.hid (by rw [← hW0]; exact (Below.refl _ _).alloc (Nat.le_refl _) _)
  have HZ0 : Hid (W0.heap.size = w.heap.size + 1) := Lib.hid (by rw [← hW0]; simp)
  have HX : Hid (∀ w' : World, Below W0.heap.size W0 w' → Hid (Below w.heap.size w w') ∧ Hid (BkIs w' B b mv v N f xs u t) ∧ w'.cell? ⟨w.heap.size, 0, none⟩ = some (.int .i64 x) ∧ w'.cell? ⟨w.heap.size, 1, none⟩ = some (.int .i64 y)) := Lib.hid fun w' hb => by
    have hc := (old_cells hb).1
    have h1 : Below w.heap.size w w' := HB0.out.trans (hb.mono (by rw [HZ0.out]; omega))
    refine ⟨Lib.hid h1, Lib.hid (H.below h1), ?_, ?_⟩
    · rw [hc _ _ (by rw [HZ0.out]; omega), ← hW0]; simp [go_sem]
    · rw [hc _ _ (by rw [HZ0.out]; omega), ← hW0]; simp [go_sem]
  have HW0 := Lib.hid hW0
  have CR : Hid (∀ w : World, _) := Lib.hid (aright_any x y)
  cases hr : rightB x y with
  | false =>
    have HE : Hid (∀ w' : World, Below w.heap.size w w' → AdmP B b mv v N f xs u t q x y w (.returned (.int .i64 1)) w') := Lib.hid (adm_no H (by rw [admX, if_pos hr]) (by decide))
    rw [hr] at CR
    clear hr hW0
    go_enter Try.func14, Try.ntmps14
    go_wp2_with fail
    rw [HW0.out]
    refine (CR.out _).mono ?_
    rintro e w1 ⟨rfl, hb1⟩
    obtain ⟨HB1, -, -, -⟩ := HX.out w1 hb1
    clear hb1
    go_wp2
    go_ret
    exact HE.out _ HB1.out
  | true =>
    have CS : Hid (∀ w : World, Calls Try.prog 8 #[.agg #[.int .i64 x, .int .i64 y]] w fun e w' => e = .returned (.int .u64 (shr x y)) ∧ Below w.heap.size w w') := Lib.hid fun w => by
      have := ashare_any x y w
      rwa [shr0, if_pos hr] at this
    have hsb := shr_bd hr
    cases hf : (f q).isSome with
    | true =>
      have HE : Hid (∀ w' : World, Below w.heap.size w w' → AdmP B b mv v N f xs u t q x y w (.returned (.int .i64 7)) w') := Lib.hid (adm_no H (by rw [admX, hr, if_neg (by simp), if_pos hf]) (by decide))
      have CH : Hid (∀ w : World, BkIs w B b mv v N f xs u t → Calls Try.prog 18 #[.pointer (some ⟨b, 0, none⟩), .int .i64 q] w fun e w' => e = .returned (.bool true) ∧ w = w') := Lib.hid fun w h => by
        have := has_any h hq
        rwa [hf] at this
      rw [hr] at CR
      clear hr hf hW0
      go_enter Try.func14, Try.ntmps14
      go_wp2_with fail
      rw [HW0.out]
      refine (CR.out _).mono ?_
      rintro e w1 ⟨rfl, hb1⟩
      obtain ⟨HB1, HK1, -, -⟩ := HX.out w1 hb1
      clear hb1
      go_wp2_with (go_at_call 18; refine (CH.out _ HK1.out).mono ?_; rintro e w' ⟨rfl, rfl⟩)
      go_ret
      exact HE.out _ HB1.out
    | false =>
      have CH : Hid (∀ w : World, BkIs w B b mv v N f xs u t → Calls Try.prog 18 #[.pointer (some ⟨b, 0, none⟩), .int .i64 q] w fun e w' => e = .returned (.bool false) ∧ w = w') := Lib.hid fun w h => by
        have := has_any h hq
        rwa [hf] at this
      have hw : IntKind.u64.wrap (u + shr x y) = u + shr x y := IntWalk.u64_in _ (by omega)
      by_cases hov : 4294967296 < u + shr x y
      · have HE : Hid (∀ w' : World, Below w.heap.size w w' → AdmP B b mv v N f xs u t q x y w (.returned (.int .i64 24)) w') := Lib.hid (adm_no H (by rw [admX, hr, if_neg (by simp), hf, if_neg (by simp), if_pos hov]) (by decide))
        rw [hr] at CR
        generalize shr x y = s at *
        clear hr hf hW0
        go_enter Try.func14, Try.ntmps14
        go_wp2_with fail
        rw [HW0.out]
        refine (CR.out _).mono ?_
        rintro e w1 ⟨rfl, hb1⟩
        obtain ⟨HB1, HK1, x0, x1⟩ := HX.out w1 hb1
        clear hb1
        go_wp2_with (first
          | (go_at_call 18; refine (CH.out _ HK1.out).mono ?_; rintro e w' ⟨rfl, rfl⟩)
          | (go_at_call 8; refine (CS.out _).mono ?_; rintro e w2 ⟨rfl, hb2⟩; obtain ⟨-, -, c2, -⟩ := (HK1.out.below hb2).cells; have HB2 := Lib.hid (below_call (Nat.le_refl _) HB1.out hb2); clear hb2))
        go_ret
        exact HE.out _ HB2.out
      · have he : admX f u q x y = 0 := by rw [admX, hr, if_neg (by simp), hf, if_neg (by simp), if_neg hov]
        have HE : Hid (∀ w' mv', BkIs w' B b mv' v (N + 1) (updF f q (some (shr x y))) xs (u + shr x y) t → Only (Mine b mv v) w w' → (∀ k, Mine b mv' v k → Mine b mv v k ∨ w.heap.size ≤ k) → AdmP B b mv v N f xs u t q x y w (.returned (.int .i64 0)) w') := Lib.hid fun w' mv' h1 h2 h3 =>
by
          unfold AdmP
          rw [he]
          exact ⟨rfl, fun _ => ⟨mv', v, xs, List.Perm.refl _, h1, h2, h3⟩, fun h => absurd rfl h⟩
        rw [hr] at CR
        clear hr hf hW0 he
        generalize shr x y = s at *
        have hmm := @run_makeMap Try.prog
        have e0 := nil_map
        have e1 := some_map
        rcases H.map with ⟨rfl, -⟩ | ⟨m, rfl, -⟩
        · have HN : Hid (∀ w1 w2 : World, Below w.heap.size w w1 → BkIs w1 B b (.map none) v N f xs u t → Below w1.heap.size w1 w2 → (w2.cell? ⟨b, 0, none⟩ = some (.map none) ∧ w2.cell? ⟨b, 2, none⟩ = some (.int .u64 u) ∧ w2.frozen? ⟨b, 0, none⟩ = false ∧ b < w2.heap.size) ∧ ∃ w4, (Instr.mapUpdate 25 (.map (some w2.heap.size)) (.int .i64 q) (.int .u64 s)).run Try.prog ((w2.setCell ⟨b, 0, none⟩ (.map (some w2.heap.size))).alloc (.map #[] 0)) = .ok () w4 ∧ (w4.cell? ⟨b, 2, none⟩ = some (.int .u64 u) ∧ w4.frozen? ⟨b, 2, none⟩ = false) ∧ Hid (AdmP B b (.map none) v N f xs u t q x y w (.returned (.int .i64 0)) (w4.setCell ⟨b, 2, none⟩ (.int .u64 (u + s))))) := Lib.hid fun w1 w2 hb1 h1 hb2 => by
            have h2 := h1.below hb2
            have hb3 := below_call (Nat.le_refl _) hb1 hb2
            obtain ⟨w4, h3, h4, h5, h6⟩ := adm_new h2 hq s
            refine ⟨⟨h2.cells.1, h2.cells.2.2.1, (bx_cell (j := 0) h2.obj rfl).2, h2.lt⟩, w4, h3, h4, Lib.hid (HE.out _ _ h5.out ((Only.of_below hb3).trans h6.out fun k hk => Or.inl hk) fun k hk => ?_)⟩
            rcases hk with hk | hk | hk
            · exact Or.inl (Or.inl hk)
            · cases hk
              exact Or.inr hb3.size
            · exact Or.inl (Or.inr (Or.inr hk))
          go_enter Try.func14, Try.ntmps14
          go_wp2_with fail
          rw [HW0.out]
          refine (CR.out _).mono ?_
          rintro e w1 ⟨rfl, hb1⟩
          obtain ⟨HB1, HK1, x0, x1⟩ := HX.out w1 hb1
          clear hb1
          go_wp2_with (first
            | (go_at_call 18; refine (CH.out _ HK1.out).mono ?_; rintro e w' ⟨rfl, rfl⟩)
            | (go_at_call 8; refine (CS.out _).mono ?_; rintro e w2 ⟨rfl, hb2⟩; obtain ⟨⟨c0, c2, f0, l0⟩, w4, hrun, ⟨d2, g2⟩, Hfin⟩ := HN.out _ w2 HB1.out HK1.out hb2; clear hb2))
          go_ret
          exact Hfin.out
        · have HN : Hid (∀ w1 w2 : World, Below w.heap.size w w1 → BkIs w1 B b (.map (some m)) v N f xs u t → Below w1.heap.size w1 w2 → (w2.cell? ⟨b, 0, none⟩ = some (.map (some m)) ∧ w2.cell? ⟨b, 2, none⟩ = some (.int .u64 u)) ∧ ∃ w4, (Instr.mapUpdate 25 (.map (some m)) (.int .i64 q) (.int .u64 s)).run Try.prog w2 = .ok () w4 ∧ (w4.cell? ⟨b, 2, none⟩ = some (.int .u64 u) ∧ w4.frozen? ⟨b, 2, none⟩ = false) ∧ Hid (AdmP B b (.map (some m)) v N f xs u t q x y w (.returned (.int .i64 0)) (w4.setCell ⟨b, 2, none⟩ (.int .u64 (u + s))))) := Lib.hid fun w1 w2 hb1 h1 hb2 => by
            have h2 := h1.below hb2
            have hb3 := below_call (Nat.le_refl _) hb1 hb2
            obtain ⟨w4, h3, h4, h5, h6⟩ := adm_old h2 hN hq s
            exact ⟨⟨h2.cells.1, h2.cells.2.2.1⟩, w4, h3, h4, Lib.hid (HE.out _ _ h5.out ((Only.of_below hb3).trans h6.out fun k hk => Or.inl hk) fun k hk => Or.inl hk)⟩
          go_enter Try.func14, Try.ntmps14
          go_wp2_with fail
          rw [HW0.out]
          refine (CR.out _).mono ?_
          rintro e w1 ⟨rfl, hb1⟩
          obtain ⟨HB1, HK1, x0, x1⟩ := HX.out w1 hb1
          clear hb1
          go_wp2_with (first
            | (go_at_call 18; refine (CH.out _ HK1.out).mono ?_; rintro e w' ⟨rfl, rfl⟩)
            | (go_at_call 8; refine (CS.out _).mono ?_; rintro e w2 ⟨rfl, hb2⟩; obtain ⟨⟨c0, c2⟩, w4, hrun, ⟨d2, g2⟩, Hfin⟩ := HN.out _ w2 HB1.out HK1.out hb2; clear hb2))
          go_ret
          exact Hfin.out
end
end Go.Proofs.Ytcofehmgnpmecaa
