/-
  The law CapsLess, walked.
-/
import Derived.Test.YthblldojbgeknaaCAwake
import Derived.Test.YthblldojbgeknaaCOpen
namespace Go.Proofs.Ythblldojbgeknaa
open Go.ChangeShapes Go.WideShapes Go.ChangeAt Go.RowKit
open Go.Shelf Go.Sort

/-- Within the law: the forest (block h), the first capability's box (block C). -/
structure Pl (w : World) (h C : Nat) (o : Int) (r N : Nat) (wr : World) : Prop where
  fo : ∃ F, FoIs wr h F ∧ LInv F o r ∧ F.p ≤ N
  box : wr.heap[C]? = some (.cells #[.int .i64 1, .int .i64 o, .int .i64 (r : Nat)] 26 (0, 0))
  below : Below w.heap.size w wr
  base : w.heap.size ≤ h
  off : C ≠ h
section
variable {w wr w2 : World} {h C r N : Nat} {o : Int}
theorem Pl.later (P : Pl w h C o r N wr) (hb : Below wr.heap.size wr w2) : Pl w h C o r N w2 := by
  obtain ⟨F, f1, f2⟩ := P.fo
  exact ⟨⟨F, f1.below hb, f2⟩, (hb.block _ (lt_of_blk P.box)).trans P.box, P.below.trans (hb.mono P.below.size), P.base, P.off⟩
theorem Pl.turn {F : Fo} {M : Nat} (P : Pl w h C o r N wr) (h1 : FoIs w2 h F) (h2 : Only (· = h) wr w2) (h3 : LInv F o r) (h4 : F.p ≤ M) : Pl w h C o r M w2 :=
  ⟨⟨F, h1, h3, h4⟩, (h2.block _ (lt_of_blk P.box) P.off).trans P.box, P.below.trans (h2.below P.below.size fun k hk => by subst hk; exact P.base), P.base, P.off⟩
theorem Pl.drew (P : Pl w h C o r N wr) : Pl w h C o r N wr.drew := P.later (Below.refl _ _).drew
theorem Pl.up (P : Pl w h C o r N wr) : Pl w h C o r (N + 1) wr := by
  obtain ⟨F, f1, f2, f3⟩ := P.fo
  exact ⟨⟨F, f1, f2, by omega⟩, P.box, P.below, P.base, P.off⟩
theorem blk_cell {w : World} {g : Nat} {cs : Array Value} {T : TypeId} (hb : w.heap[g]? = some (.cells cs T (0, 0))) {j : Nat} {v : Value} (hv : cs[j]? = some v) : w.cell? ⟨g, j, none⟩ = some v := by
  simp only [World.cell?, hb]
  exact hv
theorem Pl.cells (P : Pl w h C o r N wr) : wr.cell? ⟨C, 0, none⟩ = some (.int .i64 1) ∧ wr.cell? ⟨C, 1, none⟩ = some (.int .i64 o) ∧ wr.cell? ⟨C, 2, none⟩ = some (.int .i64 (r : Nat)) := ⟨blk_cell P.box rfl, blk_cell P.box rfl, blk_cell P.box rfl⟩
theorem pl_derive (P : Pl w h C o r N wr) (hN : N < 100) (e f s : Int) {R : Int} (hR : R < 9223372036854775808) : Calls Try.prog 17 #[.pointer (some ⟨h, 0, none⟩), .int .i64 e, .int .i64 f, .int .i64 s, .int .i64 R] wr fun x w2 => (∃ v, x = .returned v) ∧ Pl w h C o r (N + 1) w2 := by
  obtain ⟨F, f1, f2, f3⟩ := P.fo
  refine (derive_any f1 (by omega) e f s hR).mono fun _ w2 ⟨he, h1, h2⟩ => ⟨⟨_, he⟩, P.turn h1 h2 (linv_br f2 e f e s hR (Or.inl rfl)) ?_⟩
  have := brF_p F e f e s R 0
  omega
theorem pl_give (P : Pl w h C o r N wr) (hN : N < 100) (e f t s : Int) {R : Int} (hR : R < 9223372036854775808) : Calls Try.prog 18 #[.pointer (some ⟨h, 0, none⟩), .int .i64 e, .int .i64 f, .int .i64 t, .int .i64 s, .int .i64 R] wr fun x w2 => (∃ v, x = .returned v) ∧ Pl w h C o r (N + 1) w2 := by
  obtain ⟨F, f1, f2, f3⟩ := P.fo
  refine (give_any f1 (by omega) e f t s hR).mono fun _ w2 ⟨he, h1, h2⟩ => ⟨⟨_, he⟩, P.turn h1 h2 (linv_br f2 e f t s hR (Or.inr rfl)) ?_⟩
  have := brF_p F e f t s R 4
  omega
theorem pl_revoke (P : Pl w h C o r N wr) (e s : Int) : Calls Try.prog 19 #[.pointer (some ⟨h, 0, none⟩), .int .i64 e, .int .i64 s] wr fun x w2 => (∃ v, x = .returned v) ∧ Pl w h C o r (N + 1) w2 := by
  obtain ⟨F, f1, f2, f3⟩ := P.fo
  cases hx : fd F.l e s with
  | none => exact (revoke_none f1 hx).mono fun _ w2 ⟨he, h1⟩ => ⟨⟨_, he⟩, (P.later h1).up⟩
  | some x =>
    cases hm : mayB x.r 8 with
    | false => exact (revoke_not f1 hx hm).mono fun _ w2 ⟨he, h1⟩ => ⟨⟨_, he⟩, (P.later h1).up⟩
    | true =>
      refine (revoke_hit f1 hx hm).mono ?_
      rintro _ w2 ⟨A, n, c, rfl, -, -, -, h4, h5⟩
      exact ⟨⟨_, rfl⟩, P.turn h4 h5 (linv_tk f2 (fd_mem hx).1) (by show F.p ≤ N + 1; omega)⟩
theorem pl_find (P : Pl w h C o r N wr) (e : Int) : Calls Try.prog 11 #[.pointer (some ⟨h, 0, none⟩), .int .i64 e, .int .i64 1, .int .i64 o] wr fun x w2 => (∃ V, x = .returned (.int .i64 V) ∧ bits .andNot .i64 V (r : Nat) = 0) ∧ Pl w h C o r N w2 := by
  obtain ⟨F, f1, f2, f3⟩ := P.fo
  exact (find_any f1 e 1 o).mono fun _ w2 ⟨he, h1⟩ => ⟨⟨_, he, linv_find f2 e⟩, P.later h1⟩
/-- Behind the last revocation. -/
structure Pe (w : World) (h C : Nat) (o : Int) (r : Nat) (wr : World) : Prop where
  fo : ∃ p, FoIs wr h ⟨[rootN o r], p⟩
  low : r < 16
  box : wr.heap[C]? = some (.cells #[.int .i64 1, .int .i64 o, .int .i64 (r : Nat)] 26 (0, 0))
  below : Below w.heap.size w wr
theorem Pe.later (P : Pe w h C o r wr) (hb : Below wr.heap.size wr w2) : Pe w h C o r w2 := by
  obtain ⟨p, f1⟩ := P.fo
  exact ⟨⟨p, f1.below hb⟩, P.low, (hb.block _ (lt_of_blk P.box)).trans P.box, P.below.trans (hb.mono P.below.size)⟩
theorem Pe.drew (P : Pe w h C o r wr) : Pe w h C o r wr.drew := P.later (Below.refl _ _).drew
theorem Pe.cells (P : Pe w h C o r wr) : wr.cell? ⟨C, 0, none⟩ = some (.int .i64 1) ∧ wr.cell? ⟨C, 1, none⟩ = some (.int .i64 o) ∧ wr.cell? ⟨C, 2, none⟩ = some (.int .i64 (r : Nat)) := ⟨blk_cell P.box rfl, blk_cell P.box rfl, blk_cell P.box rfl⟩
theorem pl_end (P : Pl w h C o r N wr) (h8 : mayB r 8 = true) : Calls Try.prog 19 #[.pointer (some ⟨h, 0, none⟩), .int .i64 0, .int .i64 0] wr fun x w2 => (∃ A n c, x = .returned (.tuple #[.slice A n c, .int .i64 0])) ∧ Pe w h C o r w2 := by
  obtain ⟨F, f1, f2, f3⟩ := P.fo
  refine (revoke_hit f1 (linv_root f2) h8).mono ?_
  rintro _ w2 ⟨A, n, c, rfl, -, -, -, h4, h5⟩
  have h6 : tkF (ofB (rootN o r)) F = ⟨[rootN o r], F.p⟩ := by
    have := linv_end f2
    unfold tkF at this ⊢
    dsimp only at this
    rw [this]
  rw [h6] at h4
  exact ⟨⟨A, n, c, rfl⟩, ⟨_, h4⟩, f2.low, (h5.block _ (lt_of_blk P.box) P.off).trans P.box, P.below.trans (h5.below P.below.size fun k hk => by subst hk; exact P.base)⟩
theorem pe_find (P : Pe w h C o r wr) {e : Nat} (he : 1 ≤ e) : Calls Try.prog 11 #[.pointer (some ⟨h, 0, none⟩), .int .i64 (e : Nat), .int .i64 1, .int .i64 o] wr fun x w2 => x = .returned (.int .i64 0) ∧ Pe w h C o r w2 := by
  obtain ⟨p, f1⟩ := P.fo
  have := find_any f1 (e : Nat) 1 o
  rw [find_else o r he] at this
  exact this.mono fun _ w2 ⟨h1, h2⟩ => ⟨h1, P.later h2⟩
theorem pe_find0 (P : Pe w h C o r wr) : Calls Try.prog 11 #[.pointer (some ⟨h, 0, none⟩), .int .i64 0, .int .i64 1, .int .i64 o] wr fun x w2 => x = .returned (.int .i64 (r : Nat)) ∧ Pe w h C o r w2 := by
  obtain ⟨p, f1⟩ := P.fo
  have := find_any f1 0 1 o
  rw [find_sole o P.low] at this
  exact this.mono fun _ w2 ⟨h1, h2⟩ => ⟨h1, P.later h2⟩
theorem pe_list (P : Pe w h C o r wr) {e : Nat} (he : 1 ≤ e) : Calls Try.prog 20 #[.pointer (some ⟨h, 0, none⟩), .int .i64 (e : Nat)] wr fun x w2 => (∃ A c, x = .returned (.slice A 0 c)) ∧ Pe w h C o r w2 := by
  obtain ⟨p, f1⟩ := P.fo
  refine (list_any f1 (e : Nat)).mono ?_
  rintro _ w2 ⟨A, n, c, rfl, h1, -, h3⟩
  rw [row_else o r he] at h1
  subst h1
  exact ⟨⟨A, c, rfl⟩, P.later h3⟩
theorem pe_list0 (P : Pe w h C o r wr) : Calls Try.prog 20 #[.pointer (some ⟨h, 0, none⟩), .int .i64 0] wr fun x w2 => (∃ A c, x = .returned (.slice A 1 c)) ∧ Pe w h C o r w2 := by
  obtain ⟨p, f1⟩ := P.fo
  refine (list_any f1 0).mono ?_
  rintro _ w2 ⟨A, n, c, rfl, h1, -, h3⟩
  rw [row_sole o r] at h1
  subst h1
  exact ⟨⟨A, c, rfl⟩, P.later h3⟩
theorem pe_awake (P : Pe w h C o r wr) : Calls Try.prog 5 #[] wr fun x w2 => x = .returned (.bool true) ∧ Pe w h C o r w2 := (awake_any wr).mono fun _ _ ⟨h1, h2⟩ => ⟨h1, P.later h2⟩
end
theorem first_put (o : Int) {r : Nat} (ho : 0 ≤ o) (ho2 : o ≤ 31) (hr : r < 16) : rootF ⟨[], 0⟩ 0 0 1 o (r : Nat) = ⟨[rootN o r], 1⟩ ∧ rootE ⟨[], 0⟩ 0 0 1 o (r : Nat) = 0 := by
  have h1 : rightB 1 o (r : Nat) = true := by
    simp only [rightB, Bool.and_eq_true, decide_eq_true_eq]
    omega
  unfold rootF rootE
  rw [if_pos h1, if_pos h1]
  exact ⟨rfl, rfl⟩
theorem or_eight : ∀ m : Fin 16, (m.val ||| 8) &&& 8 = 8 := by decide
theorem first_rights (m : Nat) (hm : m < 16) : ∃ r : Nat, bits .or .i64 (m : Nat) 8 = (r : Nat) ∧ r < 16 ∧ mayB r 8 = true := by
  have h1 := bits_or_nat m 8 (by omega) (by omega)
  have h2 : m ||| 8 < 16 := Nat.or_lt_two_pow (n := 4) hm (by omega)
  refine ⟨m ||| 8, h1, h2, ?_⟩
  have h3 := may_nat (r := m ||| 8) (R := 8) h2 (by omega)
  exact h3.trans (decide_eq_true (or_eight ⟨m, hm⟩))
set_option maxRecDepth 100000 in
set_option maxHeartbeats 4000000 in
theorem less_any {w : World} {Al : Option Addr} {nl cl : Nat} {l : List Ac} {rr oo : Nat} (hl : l.length = nl) (hA : Acs w.heap.size w Al l) (hr : rr < 256) (ho : oo < 256) : Calls Try.prog 4 #[.slice Al nl cl, .int .u8 (rr : Nat), .int .u8 (oo : Nat)] w fun e w' => e = .returned (.bool true) ∧ Below w.heap.size w w' := by
  have n0 : (0 : Int) ≤ nl := by omega
  have HA := Lib.hid hA
  have Hl := Lib.hid hl
  obtain ⟨o, ho2⟩ : ∃ o : Int, (oo : Int) % 32 = o := ⟨_, rfl⟩
  have o0 : 0 ≤ o ∧ o ≤ 31 := by omega
  obtain ⟨m, hm⟩ : ∃ m : Nat, (rr : Int) % 16 = m := ⟨rr % 16, by omega⟩
  obtain ⟨r, hrr, r16, r8⟩ := first_rights m (by omega)
  have H0 := Lib.hid o0
  have H16 := Lib.hid r16
  have H8 := Lib.hid r8
  clear hA hl o0 r16 r8
  have hZ := zero_forest
  have HN := Lib.hid new_is
  generalize zcells = Z at *
  go_enter Try.func4, Try.ntmps4
  go_wp2_with fail
  refine (awake_any _).mono ?_
  rintro e w1 ⟨rfl, hb1⟩
  have HO1 := Lib.hid hb1
  clear hb1
  obtain ⟨h, hh⟩ : ∃ h, w1.heap.size = h := ⟨_, rfl⟩
  obtain ⟨W, hW⟩ : ∃ W, (w1.alloc (.cells Z 32 (0, 0))).alloc (.cells #[.int .i64 1, .int .i64 o, .int .i64 (r : Nat)] 26 (0, 0)) = W := ⟨_, rfl⟩
  have HFo : Hid (FoIs W h ⟨[], 0⟩) := Lib.hid (by
    rw [← hW, ← hh]
    exact (HN.out w1).below (below_new (Nat.le_refl _) (Below.refl _ _) _))
  have HX : Hid (W.heap[h + 1]? = some (.cells #[.int .i64 1, .int .i64 o, .int .i64 (r : Nat)] 26 (0, 0))) := Lib.hid (by
    rw [← hW, ← hh]
    have := heap_alloc_new (w1.alloc (.cells Z 32 (0, 0))) (.cells #[.int .i64 1, .int .i64 o, .int .i64 (r : Nat)] 26 (0, 0))
    simpa using this)
  have HbW : Hid (Below w.heap.size w W) := Lib.hid (by
    rw [← hW]
    exact HO1.out.trans ((below_new (Nat.le_refl _) (below_new (Nat.le_refl _) (Below.refl _ w1) _) _).mono HO1.out.size))
  have Hh : Hid (w.heap.size ≤ h) := Lib.hid (by
    rw [← hh]
    exact HO1.out.size)
  have HRt := Lib.hid (root_any HFo.out (by decide) 0 0 1 o (r : Nat))
  have hfp := first_put o H0.out.1 H0.out.2 H16.out
  rw [hfp.1, hfp.2] at HRt
  have HW := Lib.hid hW
  clear hW hfp
  go_wp2_with fail
  rw [show (w1.alloc (.cells Z 32 (0, 0))).alloc (.cells #[.int .i64 1, .int .i64 o, .int .i64 (r : Nat)] 26 (0, 0)) = W from HW.out]
  refine HRt.out.mono ?_
  rintro e w2 ⟨rfl, t2, o2⟩
  have HP2 : Hid (Pl w h (h + 1) o r 1 w2) := Lib.hid ⟨⟨_, t2, linv_start H16.out, Nat.le_refl _⟩, (o2.block _ (lt_of_blk HX.out) (by omega)).trans HX.out, HbW.out.trans (o2.below HbW.out.size fun k hk => by subst hk; exact Hh.out), Hh.out, by omega⟩
  clear t2 o2 HRt hZ HN HX HbW HFo hrr hm ho2 hr ho
  go_wp2_with fail
  -- THE LOOP
  go_loopw [9] (fun u wr => ∃ i : Nat, i ≤ nl ∧ i ≤ 60 ∧ u = .int .i64 (i : Nat) ∧ Hid (Pl w h (h + 1) o r (i + 1) wr)) (fun u _ => nl - (intOf u).toNat)
  case atStart => exact ⟨0, by omega, by omega, rfl, HP2⟩
  case round =>
    obtain ⟨i, hin, hi60, rfl, HP⟩ := hrel
    have i0 : (0 : Int) ≤ i := by omega
    by_cases hlt : i < nl
    · have i1 : (i : Int) < nl := by omega
      by_cases hlt60 : i < 60
      · have i2 : (i : Int) < 60 := by omega
        obtain ⟨ab, ao, rfl, hab, hcell⟩ := HA.out (by rw [Hl.out]; omega)
        obtain ⟨⟨kd, e, s, t, u, n, k, oc, rc⟩, hy⟩ : ∃ y, l[i]? = some y := ⟨_, List.getElem?_eq_getElem (by rw [Hl.out]; exact hlt)⟩
        obtain ⟨hn63, hq⟩ := hcell i _ hy
        dsimp only at hn63
        have Hn63 := Lib.hid hn63
        have Hq : Hid (∀ j v, (acells ⟨kd, e, s, t, u, n, k, oc, rc⟩)[j]? = some v → wr.cell? ⟨ab, ao + i * 9 + j, none⟩ = some v) := Lib.hid fun j v hv => (HP.out.below.cell (p := ⟨ab, _, none⟩) hab).trans (hq j v hv)
        have q0 : wr.cell? ⟨ab, ao + i * 9, none⟩ = some (.int .i64 kd) := Hq.out 0 _ rfl
        have q1 : wr.cell? ⟨ab, ao + i * 9 + 1, none⟩ = some (.int .i64 e) := Hq.out 1 _ rfl
        have q2 : wr.cell? ⟨ab, ao + i * 9 + 2, none⟩ = some (.int .i64 s) := Hq.out 2 _ rfl
        have q3 : wr.cell? ⟨ab, ao + i * 9 + 3, none⟩ = some (.int .i64 t) := Hq.out 3 _ rfl
        have q4 : wr.cell? ⟨ab, ao + i * 9 + 4, none⟩ = some (.int .i64 u) := Hq.out 4 _ rfl
        have q5 : wr.cell? ⟨ab, ao + i * 9 + 5, none⟩ = some (.int .i64 n) := Hq.out 5 _ rfl
        have q6 : wr.cell? ⟨ab, ao + i * 9 + 6, none⟩ = some (.int .i64 k) := Hq.out 6 _ rfl
        have q7 : wr.cell? ⟨ab, ao + i * 9 + 7, none⟩ = some (.int .i64 oc) := Hq.out 7 _ rfl
        have q8 : wr.cell? ⟨ab, ao + i * 9 + 8, none⟩ = some (.int .i64 rc) := Hq.out 8 _ rfl
        have ab2 : ab < wr.heap.size := Nat.lt_of_lt_of_le hab HP.out.below.size
        clear hq hcell hy hn63 hab
        obtain ⟨w3, hw3⟩ : ∃ w3, wr.alloc (.cells #[.int .i64 kd, .int .i64 e, .int .i64 s, .int .i64 t, .int .i64 u, .int .i64 n, .int .i64 k, .int .i64 oc, .int .i64 rc] 39 (0, 0)) = w3 := ⟨_, rfl⟩
        have HP3 : Hid (Pl w h (h + 1) o r (i + 1) w3) := Lib.hid (by
          rw [← hw3]
          exact HP.out.later ((Below.refl _ _).alloc (Nat.le_refl _) _))
        have HX3 : Hid (w3.heap[wr.heap.size]? = some (.cells #[.int .i64 kd, .int .i64 e, .int .i64 s, .int .i64 t, .int .i64 u, .int .i64 n, .int .i64 k, .int .i64 oc, .int .i64 rc] 39 (0, 0))) := Lib.hid (by
          rw [← hw3]
          exact heap_alloc_new wr _)
        have k0 := blk_cell (j := 0) HX3.out rfl
        have k1 := blk_cell (j := 1) HX3.out rfl
        have k2 := blk_cell (j := 2) HX3.out rfl
        have k3 := blk_cell (j := 3) HX3.out rfl
        have k4 := blk_cell (j := 4) HX3.out rfl
        have k5 := blk_cell (j := 5) HX3.out rfl
        have HS : Hid (∀ w', Pl w h (h + 1) o r (i + 2) w' → Pl w h (h + 1) o r (i + 2) w' ∧ w'.cell? ⟨h + 1, 1, none⟩ = some (.int .i64 o) ∧ w'.cell? ⟨h + 1, 2, none⟩ = some (.int .i64 (r : Nat))) := Lib.hid fun w' P => ⟨P, P.cells.2⟩
        have HF : Hid (∀ (j : Int) w', Pl w h (h + 1) o r (i + 2) w' → Calls Try.prog 11 #[.pointer (some ⟨h, 0, none⟩), .int .i64 j, .int .i64 1, .int .i64 o] w' fun x w2 => (∃ V, x = .returned (.int .i64 V) ∧ bits .andNot .i64 V (r : Nat) = 0) ∧ Pl w h (h + 1) o r (i + 2) w2) := Lib.hid fun j w' P => pl_find P j
        have HD := Lib.hid (pl_derive HP3.out (by omega) e s u Hn63.out)
        have HG := Lib.hid (pl_give HP3.out (by omega) e s t u Hn63.out)
        have HV := Lib.hid (pl_revoke HP3.out e s)
        clear HP
        by_cases h1 : kd = 1
        · subst h1
          as_aux_lemma =>
            clear Hq
            go_wp2_with fail
            refine (HD.out).mono ?_
            rintro z w4 ⟨⟨v4, rfl⟩, hp4⟩
            have HP4 := Lib.hid hp4
            clear hp4 hw3 k0 k1 k2 k3 k4 k5
            go_wp2_with fail
            go_loopw [11] (fun u wx => ∃ j : Nat, j ≤ 8 ∧ u = .int .i64 (j : Nat) ∧ Hid (Pl w h (h + 1) o r (i + 2) wx)) (fun u _ => 8 - (intOf u).toNat)
            case atStart => exact ⟨0, by omega, rfl, HP4⟩
            case round =>
              obtain ⟨j, hj, rfl, HPj⟩ := hrel
              by_cases hj8 : j < 8
              · have j0 : (0 : Int) ≤ j := by omega
                have j1 : (j : Int) < 8 := by omega
                go_wp2
                go_region_held3 (fun w' => Pl w h (h + 1) o r (i + 2) w' ∧ w'.cell? ⟨h + 1, 1, none⟩ = some (.int .i64 o) ∧ w'.cell? ⟨h + 1, 2, none⟩ = some (.int .i64 (r : Nat)))
                  ((refine HS.out _ ?_; repeat' (first | with_reducible exact HPj.out | with_reducible refine Pl.drew ?_ | with_reducible exact And.left (by assumption) | assumption)))
                  (first
                    | (go_at_call 11; with_reducible refine (HF.out _ _ (And.left (by assumption))).mono ?_; rintro z w9 ⟨⟨V, rfl, hV⟩, hp9⟩))
                go_wp2
                go_roundw
                case rel => exact ⟨j + 1, by omega, by go_num, Lib.hid (And.left (by assumption))⟩
                case measure => simp [intOf]; omega
              · obtain rfl : j = 8 := by omega
                go_wp2
                go_roundw
                case rel => exact ⟨i + 1, by omega, by omega, by go_num, HPj⟩
                case measure => simp [intOf]; omega
        · by_cases h2 : kd = 2
          · subst h2
            as_aux_lemma =>
              clear Hq
              go_wp2_with fail
              refine (HG.out).mono ?_
              rintro z w4 ⟨⟨v4, rfl⟩, hp4⟩
              have HP4 := Lib.hid hp4
              clear hp4 hw3 k0 k1 k2 k3 k4 k5
              go_wp2_with fail
              go_loopw [11] (fun u wx => ∃ j : Nat, j ≤ 8 ∧ u = .int .i64 (j : Nat) ∧ Hid (Pl w h (h + 1) o r (i + 2) wx)) (fun u _ => 8 - (intOf u).toNat)
              case atStart => exact ⟨0, by omega, rfl, HP4⟩
              case round =>
                obtain ⟨j, hj, rfl, HPj⟩ := hrel
                by_cases hj8 : j < 8
                · have j0 : (0 : Int) ≤ j := by omega
                  have j1 : (j : Int) < 8 := by omega
                  go_wp2
                  go_region_held3 (fun w' => Pl w h (h + 1) o r (i + 2) w' ∧ w'.cell? ⟨h + 1, 1, none⟩ = some (.int .i64 o) ∧ w'.cell? ⟨h + 1, 2, none⟩ = some (.int .i64 (r : Nat)))
                    ((refine HS.out _ ?_; repeat' (first | with_reducible exact HPj.out | with_reducible refine Pl.drew ?_ | with_reducible exact And.left (by assumption) | assumption)))
                    (first
                      | (go_at_call 11; with_reducible refine (HF.out _ _ (And.left (by assumption))).mono ?_; rintro z w9 ⟨⟨V, rfl, hV⟩, hp9⟩))
                  go_wp2
                  go_roundw
                  case rel => exact ⟨j + 1, by omega, by go_num, Lib.hid (And.left (by assumption))⟩
                  case measure => simp [intOf]; omega
                · obtain rfl : j = 8 := by omega
                  go_wp2
                  go_roundw
                  case rel => exact ⟨i + 1, by omega, by omega, by go_num, HPj⟩
                  case measure => simp [intOf]; omega
          · by_cases h0 : kd = 0
            · subst h0
              as_aux_lemma =>
                clear Hq
                go_wp2_with fail
                refine (HG.out).mono ?_
                rintro z w4 ⟨⟨v4, rfl⟩, hp4⟩
                have HP4 := Lib.hid hp4
                clear hp4 hw3 k0 k1 k2 k3 k4 k5
                go_wp2_with fail
                go_loopw [11] (fun u wx => ∃ j : Nat, j ≤ 8 ∧ u = .int .i64 (j : Nat) ∧ Hid (Pl w h (h + 1) o r (i + 2) wx)) (fun u _ => 8 - (intOf u).toNat)
                case atStart => exact ⟨0, by omega, rfl, HP4⟩
                case round =>
                  obtain ⟨j, hj, rfl, HPj⟩ := hrel
                  by_cases hj8 : j < 8
                  · have j0 : (0 : Int) ≤ j := by omega
                    have j1 : (j : Int) < 8 := by omega
                    go_wp2
                    go_region_held3 (fun w' => Pl w h (h + 1) o r (i + 2) w' ∧ w'.cell? ⟨h + 1, 1, none⟩ = some (.int .i64 o) ∧ w'.cell? ⟨h + 1, 2, none⟩ = some (.int .i64 (r : Nat)))
                      ((refine HS.out _ ?_; repeat' (first | with_reducible exact HPj.out | with_reducible refine Pl.drew ?_ | with_reducible exact And.left (by assumption) | assumption)))
                      (first
                        | (go_at_call 11; with_reducible refine (HF.out _ _ (And.left (by assumption))).mono ?_; rintro z w9 ⟨⟨V, rfl, hV⟩, hp9⟩))
                    go_wp2
                    go_roundw
                    case rel => exact ⟨j + 1, by omega, by go_num, Lib.hid (And.left (by assumption))⟩
                    case measure => simp [intOf]; omega
                  · obtain rfl : j = 8 := by omega
                    go_wp2
                    go_roundw
                    case rel => exact ⟨i + 1, by omega, by omega, by go_num, HPj⟩
                    case measure => simp [intOf]; omega
            · by_cases h3 : kd = 3
              · subst h3
                by_cases he : e = 0
                · by_cases hs : s = 0
                  · subst he hs
                    as_aux_lemma =>
                      clear Hq
                      have HP4 := Lib.hid HP3.out.up
                      go_wp2_with fail
                      clear hw3 k0 k1 k2 k3 k4 k5
                      try clear e1 e2 e0 e3
                      go_loopw [11] (fun u wx => ∃ j : Nat, j ≤ 8 ∧ u = .int .i64 (j : Nat) ∧ Hid (Pl w h (h + 1) o r (i + 2) wx)) (fun u _ => 8 - (intOf u).toNat)
                      case atStart => exact ⟨0, by omega, rfl, HP4⟩
                      case round =>
                        obtain ⟨j, hj, rfl, HPj⟩ := hrel
                        by_cases hj8 : j < 8
                        · have j0 : (0 : Int) ≤ j := by omega
                          have j1 : (j : Int) < 8 := by omega
                          go_wp2
                          go_region_held3 (fun w' => Pl w h (h + 1) o r (i + 2) w' ∧ w'.cell? ⟨h + 1, 1, none⟩ = some (.int .i64 o) ∧ w'.cell? ⟨h + 1, 2, none⟩ = some (.int .i64 (r : Nat)))
                            ((refine HS.out _ ?_; repeat' (first | with_reducible exact HPj.out | with_reducible refine Pl.drew ?_ | with_reducible exact And.left (by assumption) | assumption)))
                            (first
                              | (go_at_call 11; with_reducible refine (HF.out _ _ (And.left (by assumption))).mono ?_; rintro z w9 ⟨⟨V, rfl, hV⟩, hp9⟩))
                          go_wp2
                          go_roundw
                          case rel => exact ⟨j + 1, by omega, by go_num, Lib.hid (And.left (by assumption))⟩
                          case measure => simp [intOf]; omega
                        · obtain rfl : j = 8 := by omega
                          go_wp2
                          go_roundw
                          case rel => exact ⟨i + 1, by omega, by omega, by go_num, HPj⟩
                          case measure => simp [intOf]; omega
                  · subst he
                    as_aux_lemma =>
                      clear Hq
                      go_wp2_with fail
                      refine (HV.out).mono ?_
                      rintro z w4 ⟨⟨v4, rfl⟩, hp4⟩
                      have HP4 := Lib.hid hp4
                      clear hp4 hw3 k0 k1 k2 k3 k4 k5
                      go_wp2_with fail
                      go_loopw [11] (fun u wx => ∃ j : Nat, j ≤ 8 ∧ u = .int .i64 (j : Nat) ∧ Hid (Pl w h (h + 1) o r (i + 2) wx)) (fun u _ => 8 - (intOf u).toNat)
                      case atStart => exact ⟨0, by omega, rfl, HP4⟩
                      case round =>
                        obtain ⟨j, hj, rfl, HPj⟩ := hrel
                        by_cases hj8 : j < 8
                        · have j0 : (0 : Int) ≤ j := by omega
                          have j1 : (j : Int) < 8 := by omega
                          go_wp2
                          go_region_held3 (fun w' => Pl w h (h + 1) o r (i + 2) w' ∧ w'.cell? ⟨h + 1, 1, none⟩ = some (.int .i64 o) ∧ w'.cell? ⟨h + 1, 2, none⟩ = some (.int .i64 (r : Nat)))
                            ((refine HS.out _ ?_; repeat' (first | with_reducible exact HPj.out | with_reducible refine Pl.drew ?_ | with_reducible exact And.left (by assumption) | assumption)))
                            (first
                              | (go_at_call 11; with_reducible refine (HF.out _ _ (And.left (by assumption))).mono ?_; rintro z w9 ⟨⟨V, rfl, hV⟩, hp9⟩))
                          go_wp2
                          go_roundw
                          case rel => exact ⟨j + 1, by omega, by go_num, Lib.hid (And.left (by assumption))⟩
                          case measure => simp [intOf]; omega
                        · obtain rfl : j = 8 := by omega
                          go_wp2
                          go_roundw
                          case rel => exact ⟨i + 1, by omega, by omega, by go_num, HPj⟩
                          case measure => simp [intOf]; omega
                · skip
                  as_aux_lemma =>
                    clear Hq
                    go_wp2_with fail
                    refine (HV.out).mono ?_
                    rintro z w4 ⟨⟨v4, rfl⟩, hp4⟩
                    have HP4 := Lib.hid hp4
                    clear hp4 hw3 k0 k1 k2 k3 k4 k5
                    go_wp2_with fail
                    go_loopw [11] (fun u wx => ∃ j : Nat, j ≤ 8 ∧ u = .int .i64 (j : Nat) ∧ Hid (Pl w h (h + 1) o r (i + 2) wx)) (fun u _ => 8 - (intOf u).toNat)
                    case atStart => exact ⟨0, by omega, rfl, HP4⟩
                    case round =>
                      obtain ⟨j, hj, rfl, HPj⟩ := hrel
                      by_cases hj8 : j < 8
                      · have j0 : (0 : Int) ≤ j := by omega
                        have j1 : (j : Int) < 8 := by omega
                        go_wp2
                        go_region_held3 (fun w' => Pl w h (h + 1) o r (i + 2) w' ∧ w'.cell? ⟨h + 1, 1, none⟩ = some (.int .i64 o) ∧ w'.cell? ⟨h + 1, 2, none⟩ = some (.int .i64 (r : Nat)))
                          ((refine HS.out _ ?_; repeat' (first | with_reducible exact HPj.out | with_reducible refine Pl.drew ?_ | with_reducible exact And.left (by assumption) | assumption)))
                          (first
                            | (go_at_call 11; with_reducible refine (HF.out _ _ (And.left (by assumption))).mono ?_; rintro z w9 ⟨⟨V, rfl, hV⟩, hp9⟩))
                        go_wp2
                        go_roundw
                        case rel => exact ⟨j + 1, by omega, by go_num, Lib.hid (And.left (by assumption))⟩
                        case measure => simp [intOf]; omega
                      · obtain rfl : j = 8 := by omega
                        go_wp2
                        go_roundw
                        case rel => exact ⟨i + 1, by omega, by omega, by go_num, HPj⟩
                        case measure => simp [intOf]; omega
              · have e1 : (kd == 1) = false := by simp [h1]
                have e2 : (kd == 2) = false := by simp [h2]
                have e0 : (kd == 0) = false := by simp [h0]
                have e3 : (kd == 3) = false := by simp [h3]
                clear h1 h2 h0 h3
                as_aux_lemma =>
                  clear Hq
                  have HP4 := Lib.hid HP3.out.up
                  go_wp2_with fail
                  clear hw3 k0 k1 k2 k3 k4 k5
                  try clear e1 e2 e0 e3
                  go_loopw [11] (fun u wx => ∃ j : Nat, j ≤ 8 ∧ u = .int .i64 (j : Nat) ∧ Hid (Pl w h (h + 1) o r (i + 2) wx)) (fun u _ => 8 - (intOf u).toNat)
                  case atStart => exact ⟨0, by omega, rfl, HP4⟩
                  case round =>
                    obtain ⟨j, hj, rfl, HPj⟩ := hrel
                    by_cases hj8 : j < 8
                    · have j0 : (0 : Int) ≤ j := by omega
                      have j1 : (j : Int) < 8 := by omega
                      go_wp2
                      go_region_held3 (fun w' => Pl w h (h + 1) o r (i + 2) w' ∧ w'.cell? ⟨h + 1, 1, none⟩ = some (.int .i64 o) ∧ w'.cell? ⟨h + 1, 2, none⟩ = some (.int .i64 (r : Nat)))
                        ((refine HS.out _ ?_; repeat' (first | with_reducible exact HPj.out | with_reducible refine Pl.drew ?_ | with_reducible exact And.left (by assumption) | assumption)))
                        (first
                          | (go_at_call 11; with_reducible refine (HF.out _ _ (And.left (by assumption))).mono ?_; rintro z w9 ⟨⟨V, rfl, hV⟩, hp9⟩))
                      go_wp2
                      go_roundw
                      case rel => exact ⟨j + 1, by omega, by go_num, Lib.hid (And.left (by assumption))⟩
                      case measure => simp [intOf]; omega
                    · obtain rfl : j = 8 := by omega
                      go_wp2
                      go_roundw
                      case rel => exact ⟨i + 1, by omega, by omega, by go_num, HPj⟩
                      case measure => simp [intOf]; omega
      · obtain rfl : i = 60 := by omega
        as_aux_lemma =>
          have HE := Lib.hid (pl_end HP.out H8.out)
          have HS : Hid (∀ w', Pe w h (h + 1) o r w' → Pe w h (h + 1) o r w' ∧ w'.cell? ⟨h + 1, 1, none⟩ = some (.int .i64 o) ∧ w'.cell? ⟨h + 1, 2, none⟩ = some (.int .i64 (r : Nat))) := Lib.hid fun w' P => ⟨P, P.cells.2⟩
          have HF0 : Hid (∀ w', Pe w h (h + 1) o r w' → Calls Try.prog 11 #[.pointer (some ⟨h, 0, none⟩), .int .i64 0, .int .i64 1, .int .i64 o] w' fun x w2 => x = .returned (.int .i64 (r : Nat)) ∧ Pe w h (h + 1) o r w2) := Lib.hid fun w' P => pe_find0 P
          have HL0 : Hid (∀ w', Pe w h (h + 1) o r w' → Calls Try.prog 20 #[.pointer (some ⟨h, 0, none⟩), .int .i64 0] w' fun x w2 => (∃ A c, x = .returned (.slice A 1 c)) ∧ Pe w h (h + 1) o r w2) := Lib.hid fun w' P => pe_list0 P
          have HA0 : Hid (∀ w', Pe w h (h + 1) o r w' → Calls Try.prog 5 #[] w' fun x w2 => x = .returned (.bool true) ∧ Pe w h (h + 1) o r w2) := Lib.hid fun w' P => pe_awake P
          clear HA HP HP2
          go_wp2_with fail
          refine HE.out.mono ?_
          rintro z w4 ⟨⟨A4, n4, c4, rfl⟩, p4⟩
          have HP4 := Lib.hid p4
          clear p4
          go_wp2_with fail
          go_loopw [14] (fun u wx => ∃ j : Nat, 1 ≤ j ∧ j ≤ 8 ∧ u = .int .i64 (j : Nat) ∧ Hid (Pe w h (h + 1) o r wx)) (fun u _ => 8 - (intOf u).toNat)
          case atStart => exact ⟨1, by omega, by omega, rfl, HP4⟩
          case round =>
            obtain ⟨j, hj, hj8, rfl, HPj⟩ := hrel
            have j0 : (0 : Int) ≤ j := by omega
            obtain ⟨d0, d1, d2⟩ := HPj.out.cells
            by_cases hj9 : j < 8
            · have j1 : (j : Int) < 8 := by omega
              have HF := Lib.hid (pe_find HPj.out hj)
              go_wp2_with fail
              refine HF.out.mono ?_
              rintro z w5 ⟨rfl, p5⟩
              have HP5 := Lib.hid p5
              have HL := Lib.hid (pe_list p5 hj)
              clear p5 d0 d1 d2
              go_wp2_with fail
              refine HL.out.mono ?_
              rintro z w6 ⟨⟨A6, c6, rfl⟩, p6⟩
              have HP6 := Lib.hid p6
              clear p6
              go_wp2
              go_roundw
              case rel => exact ⟨j + 1, by omega, by omega, by go_num, HP6⟩
              case measure => simp [intOf]; omega
            · obtain rfl : j = 8 := by omega
              go_wp2
              go_region_held3 (fun w' => Pe w h (h + 1) o r w' ∧ w'.cell? ⟨h + 1, 1, none⟩ = some (.int .i64 o) ∧ w'.cell? ⟨h + 1, 2, none⟩ = some (.int .i64 (r : Nat)))
                ((refine HS.out _ ?_; repeat' (first | with_reducible exact HPj.out | with_reducible refine Pe.drew ?_ | with_reducible exact And.left (by assumption) | assumption)))
                (first
                  | (go_at_call 11; with_reducible refine (HF0.out _ (And.left (by assumption))).mono ?_; rintro z w9 ⟨rfl, hp9⟩)
                  | (go_at_call 20; with_reducible refine (HL0.out _ (And.left (by assumption))).mono ?_; rintro z w9 ⟨⟨A9, c9, rfl⟩, hp9⟩)
                  | (go_at_call 5; with_reducible refine (HA0.out _ (And.left (by assumption))).mono ?_; rintro z w9 ⟨rfl, hp9⟩))
              go_wp2
              go_ret
              exact ⟨rfl, Pe.below (And.left (by assumption))⟩
    · obtain rfl : i = nl := by omega
      as_aux_lemma =>
        have HE := Lib.hid (pl_end HP.out H8.out)
        have HS : Hid (∀ w', Pe w h (h + 1) o r w' → Pe w h (h + 1) o r w' ∧ w'.cell? ⟨h + 1, 1, none⟩ = some (.int .i64 o) ∧ w'.cell? ⟨h + 1, 2, none⟩ = some (.int .i64 (r : Nat))) := Lib.hid fun w' P => ⟨P, P.cells.2⟩
        have HF0 : Hid (∀ w', Pe w h (h + 1) o r w' → Calls Try.prog 11 #[.pointer (some ⟨h, 0, none⟩), .int .i64 0, .int .i64 1, .int .i64 o] w' fun x w2 => x = .returned (.int .i64 (r : Nat)) ∧ Pe w h (h + 1) o r w2) := Lib.hid fun w' P => pe_find0 P
        have HL0 : Hid (∀ w', Pe w h (h + 1) o r w' → Calls Try.prog 20 #[.pointer (some ⟨h, 0, none⟩), .int .i64 0] w' fun x w2 => (∃ A c, x = .returned (.slice A 1 c)) ∧ Pe w h (h + 1) o r w2) := Lib.hid fun w' P => pe_list0 P
        have HA0 : Hid (∀ w', Pe w h (h + 1) o r w' → Calls Try.prog 5 #[] w' fun x w2 => x = .returned (.bool true) ∧ Pe w h (h + 1) o r w2) := Lib.hid fun w' P => pe_awake P
        clear HA HP HP2
        go_wp2_with fail
        refine HE.out.mono ?_
        rintro z w4 ⟨⟨A4, n4, c4, rfl⟩, p4⟩
        have HP4 := Lib.hid p4
        clear p4
        go_wp2_with fail
        go_loopw [14] (fun u wx => ∃ j : Nat, 1 ≤ j ∧ j ≤ 8 ∧ u = .int .i64 (j : Nat) ∧ Hid (Pe w h (h + 1) o r wx)) (fun u _ => 8 - (intOf u).toNat)
        case atStart => exact ⟨1, by omega, by omega, rfl, HP4⟩
        case round =>
          obtain ⟨j, hj, hj8, rfl, HPj⟩ := hrel
          have j0 : (0 : Int) ≤ j := by omega
          obtain ⟨d0, d1, d2⟩ := HPj.out.cells
          by_cases hj9 : j < 8
          · have j1 : (j : Int) < 8 := by omega
            have HF := Lib.hid (pe_find HPj.out hj)
            go_wp2_with fail
            refine HF.out.mono ?_
            rintro z w5 ⟨rfl, p5⟩
            have HP5 := Lib.hid p5
            have HL := Lib.hid (pe_list p5 hj)
            clear p5 d0 d1 d2
            go_wp2_with fail
            refine HL.out.mono ?_
            rintro z w6 ⟨⟨A6, c6, rfl⟩, p6⟩
            have HP6 := Lib.hid p6
            clear p6
            go_wp2
            go_roundw
            case rel => exact ⟨j + 1, by omega, by omega, by go_num, HP6⟩
            case measure => simp [intOf]; omega
          · obtain rfl : j = 8 := by omega
            go_wp2
            go_region_held3 (fun w' => Pe w h (h + 1) o r w' ∧ w'.cell? ⟨h + 1, 1, none⟩ = some (.int .i64 o) ∧ w'.cell? ⟨h + 1, 2, none⟩ = some (.int .i64 (r : Nat)))
              ((refine HS.out _ ?_; repeat' (first | with_reducible exact HPj.out | with_reducible refine Pe.drew ?_ | with_reducible exact And.left (by assumption) | assumption)))
              (first
                | (go_at_call 11; with_reducible refine (HF0.out _ (And.left (by assumption))).mono ?_; rintro z w9 ⟨rfl, hp9⟩)
                | (go_at_call 20; with_reducible refine (HL0.out _ (And.left (by assumption))).mono ?_; rintro z w9 ⟨⟨A9, c9, rfl⟩, hp9⟩)
                | (go_at_call 5; with_reducible refine (HA0.out _ (And.left (by assumption))).mono ?_; rintro z w9 ⟨rfl, hp9⟩))
            go_wp2
            go_ret
            exact ⟨rfl, Pe.below (And.left (by assumption))⟩
end Go.Proofs.Ythblldojbgeknaa
