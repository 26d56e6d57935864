/-
  Contracts: put, branch, Root, Derive, Give.
-/
import Derived.Test.YthblldojbgeknaaCWalksA
import Derived.Test.YthblldojbgeknaaCBits
import Derived.StillTailTactics
namespace Go.Proofs.Ythblldojbgeknaa
open Go.ChangeShapes Go.WideShapes Go.ChangeAt Go.RowKit
open Go.Sort

theorem size_held : (Try.prog.info? 28).map (·.size) = some 5 := by kernel_rfl
/-- The forest has changed, and nothing else. -/
def Turned (b : Nat) (F' : Fo) (v : Value) (w : World) (e : Ending) (w' : World) : Prop := e = .returned v ∧ FoIs w' b F' ∧ Only (· = b) w w'
section
variable {w : World} {b : Nat} {F : Fo}
theorem FoIs.same (H : FoIs w b F) {w' : World} (hb : Below w.heap.size w w') {v : Value} : Turned b F v w (.returned v) w' := ⟨rfl, H.below hb, Only.of_below hb⟩
theorem put_miss (H : FoIs w b F) {e s : Int} (he : putE F e s ≠ 0) (cs : List Value) (k o r u : Int) (hcs : cs = [.int .i64 k, .int .i64 o, .int .i64 r, .int .i64 0, .int .i64 u]) : Calls Try.prog 34 #[.pointer (some ⟨b, 0, none⟩), .int .i64 e, .int .i64 s, .agg cs.toArray] w (Turned b F (.int .i64 (putE F e s)) w) := by
  subst hcs
  obtain ⟨W, hW⟩ : ∃ W, w.alloc (.cells #[.int .i64 k, .int .i64 o, .int .i64 r, .int .i64 0, .int .i64 u] 28 (0, 0)) = W := ⟨_, rfl⟩
  have HbW : Hid (Below w.heap.size w W) := Lib.hid (by
    rw [← hW]
    exact (Below.refl _ _).alloc (Nat.le_refl _) _)
  have HE : Hid (∀ w' v, Below W.heap.size W w' → Turned b F v w (.returned v) w') := Lib.hid fun w' v h => H.same (HbW.out.trans (h.mono HbW.out.size))
  have HS := Lib.hid (slot_any e s)
  have HA := Lib.hid (at_any (H.below HbW.out) e s)
  have ht := H.wf.there e s
  have HW := Lib.hid hW
  unfold putE at he ⊢
  cases hs : inS e s with
  | false =>
    rw [hs] at HS
    rw [if_neg (by simp)]
    clear H hW he ht HA hs
    go_enter Try.func34, Try.ntmps34
    go_wp2_with fail
    rw [show w.alloc (.cells #[.int .i64 k, .int .i64 o, .int .i64 r, .int .i64 0, .int .i64 u] 28 (0, 0)) = W from HW.out]
    go_wp2_with (go_at_call 46; refine (HS.out _).mono ?_; rintro r w' ⟨rfl, rfl⟩)
    go_ret
    exact HE.out _ _ (Below.refl _ _)
  | true =>
    rw [hs] at HS he
    rw [if_pos rfl] at he ⊢
    cases hf : (fd F.l e s).isSome with
    | false =>
      rw [hf] at he
      simp at he
    | true =>
      rw [if_pos rfl]
      rw [hf, decide_eq_true_eq] at ht
      simp only [hcells] at HA
      generalize hk (fd F.l e s) = xk at *
      generalize ho (fd F.l e s) = xo at *
      generalize hr (fd F.l e s) = xr at *
      generalize hi (fd F.l e s) = xi at *
      generalize hu (fd F.l e s) = xu at *
      have HT : Hid (∀ w, _) := Lib.hid fun w => there_any xk xo xr xi xu w
      rw [decide_eq_true ht] at HT
      clear H hW he hf hs ht
      go_enter Try.func34, Try.ntmps34
      go_wp2_with fail
      rw [show w.alloc (.cells #[.int .i64 k, .int .i64 o, .int .i64 r, .int .i64 0, .int .i64 u] 28 (0, 0)) = W from HW.out]
      go_wp2_with (first
        | (go_at_call 46; refine (HS.out _).mono ?_; rintro r w' ⟨rfl, rfl⟩)
        | (go_at_call 36; refine HA.out.mono ?_; rintro r w2 ⟨rfl, hg⟩; have HB := Lib.hid (below_grow hg); clear hg)
        | (go_at_call 37; refine (HT.out _).mono ?_; rintro r w3 ⟨rfl, hb3⟩; have HB3 := Lib.hid (HB.out.trans (hb3.mono HB.out.size)); clear hb3))
      go_ret
      exact HE.out _ _ HB3.out
theorem wrap_next (n : Nat) : ((n : Nat) : Int) + 1 = ((n + 1 : Nat) : Int) := by simp
set_option maxRecDepth 4000 in
set_option maxHeartbeats 1000000 in
theorem put_hit (H : FoIs w b F) {a c : Nat} (ha : a < 8) (hc : c < 16) (hn : fd F.l a c = none) (hp : F.p < 1000000) (k o : Int) {r u : Nat} (h16 : r < 16) (hup : u ≤ F.p) (cs : List Value) (hcs : cs = [.int .i64 k, .int .i64 o, .int .i64 (r : Nat), .int .i64 0, .int .i64 (u : Nat)]) :
    Calls Try.prog 34 #[.pointer (some ⟨b, 0, none⟩), .int .i64 (a : Nat), .int .i64 (c : Nat), .agg cs.toArray] w (Turned b ⟨F.l ++ [⟨F.p + 1, u, a, c, k, o, r⟩], F.p + 1⟩ (.int .i64 0) w) := by
  subst hcs
  obtain ⟨W, hW⟩ : ∃ W, w.alloc (.cells #[.int .i64 k, .int .i64 o, .int .i64 (r : Nat), .int .i64 0, .int .i64 (u : Nat)] 28 (0, 0)) = W := ⟨_, rfl⟩
  have hbW : Below w.heap.size w W := by
    rw [← hW]
    exact (Below.refl _ _).alloc (Nat.le_refl _) _
  have hWs : w.heap.size < W.heap.size := by
    rw [← hW]
    simp
  have hWh : W.heap[w.heap.size]? = some (.cells #[.int .i64 k, .int .i64 o, .int .i64 (r : Nat), .int .i64 0, .int .i64 (u : Nat)] 28 (0, 0)) := by
    rw [← hW]
    exact heap_alloc_new w _
  have hbp : b < w.heap.size := H.lt
  have HS : Hid (∀ w, Calls Try.prog 46 #[.int .i64 (a : Nat), .int .i64 (c : Nat)] w fun r w' => r = .returned (.bool true) ∧ w = w') := Lib.hid fun w => by
    have h1 := slot_any (a : Nat) (c : Nat) w
    have h2 : inS (a : Nat) (c : Nat) = true := inS_iff.2 (by omega)
    rwa [h2] at h1
  have HA := Lib.hid (at_any (H.below hbW) a c)
  rw [hn] at HA
  simp only [hcells, hk, ho, hr, hi, hu] at HA
  have HT : Hid (∀ w, _) := Lib.hid fun w => there_any 0 0 0 0 0 w
  rw [show decide ((0 : Int) < 0) = false from rfl] at HT
  have HP : Hid (∀ w3, Below W.heap.size W w3 → ∃ w4 w5 : World, w3.cell? ⟨b, 640, none⟩ = some (.int .i64 (F.p : Nat)) ∧ w3.frozen? ⟨b, 640, none⟩ = false ∧ w3.setCell ⟨b, 640, none⟩ (.int .i64 ((F.p : Nat) + 1)) = w4 ∧ w4.cell? ⟨b, 640, none⟩ = some (.int .i64 ((F.p : Nat) + 1)) ∧ (w4.cell? ⟨w.heap.size, 3, none⟩ = some (.int .i64 0) ∧ w4.frozen? ⟨w.heap.size, 3, none⟩ = false) ∧ w4.setCell ⟨w.heap.size, 3, none⟩ (.int .i64 ((F.p : Nat) + 1)) = w5 ∧
      (w5.cell? ⟨w.heap.size, 0, none⟩ = some (.int .i64 k) ∧ w5.cell? ⟨w.heap.size, 1, none⟩ = some (.int .i64 o) ∧ w5.cell? ⟨w.heap.size, 2, none⟩ = some (.int .i64 (r : Nat)) ∧ w5.cell? ⟨w.heap.size, 3, none⟩ = some (.int .i64 ((F.p : Nat) + 1)) ∧ w5.cell? ⟨w.heap.size, 4, none⟩ = some (.int .i64 (u : Nat))) ∧ Hid (w5.drew.there b (a * 80 + c * 5) 5) ∧ Hid (Turned b ⟨F.l ++ [⟨F.p + 1, u, a, c, k, o, r⟩], F.p + 1⟩ (.int .i64 0) w (.returned (.int .i64 0)) (w5.drew.setCells b (a * 80 + c * 5) [.int .i64 k, .int .i64 o, .int .i64 (r : Nat), .int .i64 ((F.p : Nat) + 1), .int .i64 (u : Nat)]))) := Lib.hid fun w3 h3 => by
    have H3 : FoIs w3 b F := (H.below hbW).below h3
    have H4 := H3.putTurns
    rw [← wrap_next] at H4
    have hb3 : w3.heap[w.heap.size]? = _ := (h3.block w.heap.size hWs).trans hWh
    have o3 : Only (· = b) w w3 := Only.of_below (hbW.trans (h3.mono hbW.size))
    have o4 := Only.put (S := (· = b)) o3 (p := ⟨b, 640, none⟩) (Or.inl rfl) (.int .i64 ((F.p : Nat) + 1))
    have hb4 : (w3.setCell ⟨b, 640, none⟩ (.int .i64 ((F.p : Nat) + 1))).heap[w.heap.size]? = _ := (Below.heap_setCell _ _ _ _ (by show w.heap.size ≠ b; omega)).trans hb3
    have H5 := H4.kept (w' := (w3.setCell ⟨b, 640, none⟩ (.int .i64 ((F.p : Nat) + 1))).setCell ⟨w.heap.size, 3, none⟩ (.int .i64 ((F.p : Nat) + 1))) (Below.heap_setCell _ _ _ _ (by show b ≠ w.heap.size; omega))
    have hb5 := heap_setCell_same _ w.heap.size 3 _ _ (.int .i64 ((F.p : Nat) + 1)) hb4
    have o5 := Only.put (S := (· = b)) o4 (p := ⟨w.heap.size, 3, none⟩) (Or.inr (Nat.le_refl _)) (.int .i64 ((F.p : Nat) + 1))
    have H6 : FoIs ((w3.setCell ⟨b, 640, none⟩ (.int .i64 ((F.p : Nat) + 1))).setCell ⟨w.heap.size, 3, none⟩ (.int .i64 ((F.p : Nat) + 1))).drew b ⟨F.l, F.p + 1⟩ := H5.kept rfl
    have hfd : ∀ i j : Nat, fd (F.l ++ [⟨F.p + 1, u, a, c, k, o, r⟩]) i j = if i = a ∧ j = c then some ⟨F.p + 1, u, a, c, k, o, r⟩ else fd F.l i j := fun i j => by
      rw [fd_push]
      by_cases h : i = a ∧ j = c
      · obtain ⟨rfl, rfl⟩ := h
        rw [hn]
        simp [Nd.on]
      · rw [if_neg h]
        have : (Nd.on (i : Nat) (j : Nat) ⟨F.p + 1, u, a, c, k, o, r⟩) = false := by
          simp only [Nd.on, Bool.and_eq_false_iff, decide_eq_false_iff_not]
          omega
        rw [this]
        simp
    have H7 := H6.putAt (L := F.l ++ [⟨F.p + 1, u, a, c, k, o, r⟩]) ha hc (H.wf.push ha hc hn k o h16 hup) (fun i j => by
      rw [hfd i j]
      by_cases h : i = a ∧ j = c
      · exact Or.inl h
      · exact Or.inr (if_neg h))
    rw [hfd, if_pos ⟨rfl, rfl⟩] at H7
    simp only [hcells, hk, ho, hr, hi, hu, ← wrap_next] at H7
    refine ⟨_, _, H3.turns, H3.free _, rfl, ?_, ⟨?_, ?_⟩, rfl, ⟨?_, ?_, ?_, ?_, ?_⟩, Lib.hid (H6.there ha hc), Lib.hid ⟨rfl, H7, Only.puts (Only.drew o5) (Or.inl rfl) _ _⟩⟩
    · have := H4.turns
      dsimp only at this
      rw [← wrap_next] at this
      exact this
    · simp only [World.cell?, hb4]
      rfl
    · simp only [World.frozen?, hb4]
      rfl
    all_goals
      simp only [World.cell?, hb5]
      rfl
  have HW := Lib.hid hW
  generalize F.l ++ [⟨F.p + 1, u, a, c, k, o, r⟩] = L' at *
  generalize F.p = n at *
  have n0 : (0 : Int) ≤ n := by omega
  have n1 : (n : Int) < 1000000 := by omega
  have a0 : (0 : Int) ≤ a := by omega
  have a1 : (a : Int) < 8 := by omega
  have c0 : (0 : Int) ≤ c := by omega
  have c1 : (c : Int) < 16 := by omega
  have HL : Hid (∀ w2 w3 : World, Below W.heap.size W w2 → Below w2.heap.size w2 w3 → Below W.heap.size W w3) := Lib.hid fun w2 w3 h h2 => h.trans (h2.mono h.size)
  clear H hW hn hp hup h16 hWh hbW ha hc
  go_enter Try.func34, Try.ntmps34
  go_wp2_with fail
  rw [show w.alloc (.cells #[.int .i64 k, .int .i64 o, .int .i64 (r : Nat), .int .i64 0, .int .i64 (u : Nat)] 28 (0, 0)) = W from HW.out]
  go_wp2_with (first
    | (go_at_call 46; refine (HS.out _).mono ?_; rintro r w' ⟨rfl, rfl⟩)
    | (go_at_call 36; refine HA.out.mono ?_; rintro r w2 ⟨rfl, hg⟩; have HB := Lib.hid (below_grow hg); clear hg)
    | (go_at_call 37; refine (HT.out _).mono ?_; rintro r w3 ⟨rfl, hb3⟩; obtain ⟨w4, w5, d1, d2, d3, d4, ⟨d5, d6⟩, d7, ⟨e0, e1, e2, e3, e4⟩, P1, HE⟩ := HP.out w3 (HL.out w2 w3 HB.out hb3); clear hb3))
  go_still_tail 8, (by kernel_rfl)
  change wpList _ _ _ _ _ w5.drew
  refine (wpList_store_mid rfl 28 (.tmp 37) (.tmp 33) rfl b (a * 80 + c * 5) #[.int .i64 k, .int .i64 o, .int .i64 (r : Nat), .int .i64 ((n : Nat) + 1), .int .i64 (u : Nat)] rfl rfl P1.out size_held (by simp [Value.oneCell']) ?_)
  go_wp2
  go_ret
  exact HE.out
theorem put_any (H : FoIs w b F) (hp : F.p < 1000000) (e s k o : Int) {r u : Nat} (h16 : r < 16) (hup : u ≤ F.p) : Calls Try.prog 34 #[.pointer (some ⟨b, 0, none⟩), .int .i64 e, .int .i64 s, .agg #[.int .i64 k, .int .i64 o, .int .i64 (r : Nat), .int .i64 0, .int .i64 (u : Nat)]] w (Turned b (putF F e s k o r u) (.int .i64 (putE F e s)) w) := by
  by_cases he : putE F e s = 0
  · obtain ⟨⟨a, c, rfl, rfl, ha, hc⟩, hn⟩ := putE_hit he
    have := put_hit H ha hc hn hp k o h16 hup _ rfl
    unfold putF
    rw [if_pos he, he]
    exact this
  · have := put_miss H he _ k o (r : Nat) (u : Nat) rfl
    unfold putF
    rw [if_neg he]
    exact this

/-! Derive, Give. -/
def brE (F : Fo) (e f t s R n : Int) : Int := match fd F.l e f with
  | none => 23
  | some x => if R < 0 then 23 else if mayB x.r (orB R n) = true then putE F t s else 23
def brF (F : Fo) (e f t s R n : Int) : Fo := match fd F.l e f with
  | none => F
  | some x => if R < 0 then F else if mayB x.r (orB R n) = true then putF F t s x.k x.o R.toNat x.id else F
set_option maxHeartbeats 1000000 in
theorem branch_miss (H : FoIs w b F) {e f : Int} (hn : fd F.l e f = none) (t s R n : Int) : Calls Try.prog 35 #[.pointer (some ⟨b, 0, none⟩), .int .i64 e, .int .i64 f, .int .i64 t, .int .i64 s, .int .i64 R, .int .i64 n] w (Turned b F (.int .i64 23) w) := by
  have HE : Hid (∀ w' v, Below w.heap.size w w' → Turned b F v w (.returned v) w') := Lib.hid fun w' v h => H.same h
  have HA := Lib.hid (at_any H e f)
  rw [hn] at HA
  simp only [hcells, hk, ho, hr, hi, hu] at HA
  have HT : Hid (∀ w, _) := Lib.hid fun w => there_any 0 0 0 0 0 w
  rw [show decide ((0 : Int) < 0) = false from rfl] at HT
  have HL : Hid (∀ (w2 : World) (o : Obj) (w3 : World), Below w.heap.size w w2 → Below (w2.alloc o).heap.size (w2.alloc o) w3 → Below w.heap.size w w3) := Lib.hid fun w2 o w3 h h2 => (below_new (Nat.le_refl _) h o).trans (h2.mono (below_new (Nat.le_refl _) h o).size)
  clear H hn
  go_enter Try.func35, Try.ntmps35
  go_wp2_with (first
    | (go_at_call 36; refine HA.out.mono ?_; rintro r w2 ⟨rfl, hg⟩; have HB := Lib.hid (below_grow hg); clear hg)
    | (go_at_call 37; refine (HT.out _).mono ?_; rintro r w3 ⟨rfl, hb3⟩; have HB3 := Lib.hid (HL.out w2 _ w3 HB.out hb3); clear hb3))
  go_ret
  exact HE.out _ _ HB3.out
set_option maxHeartbeats 2000000 in
theorem branch_hit (H : FoIs w b F) (hp : F.p < 1000000) {e f : Int} {x : Nd} (hx : fd F.l e f = some x) (t s R n : Int) (hq : mayB x.r (orB R n) = true → R < 16) : Calls Try.prog 35 #[.pointer (some ⟨b, 0, none⟩), .int .i64 e, .int .i64 f, .int .i64 t, .int .i64 s, .int .i64 R, .int .i64 n] w (Turned b (if R < 0 then F else if mayB x.r (orB R n) = true then putF F t s x.k x.o R.toNat x.id else F) (.int .i64 (if R < 0 then 23 else if mayB x.r (orB R n) = true then putE F t s else 23)) w) := by
  have HE : Hid (∀ w' v, Below w.heap.size w w' → Turned b F v w (.returned v) w') := Lib.hid fun w' v h => H.same h
  have HA := Lib.hid (at_any H e f)
  rw [hx] at HA
  simp only [hcells, hk, ho, hr, hi, hu] at HA
  obtain ⟨r0, r1, r2, r3, r4, r5⟩ := H.wf.rng x (fd_mem hx).1
  have HT : Hid (∀ w, _) := Lib.hid fun w => there_any x.k x.o (x.r : Nat) (x.id : Nat) (x.up : Nat) w
  rw [show decide ((0 : Int) < (x.id : Nat)) = true from decide_eq_true (by omega)] at HT
  have HM : Hid (∀ w, _) := Lib.hid fun w => may_any x.k x.o (x.r : Nat) (orB R n) w
  have HL : Hid (∀ (w2 : World) (o : Obj) (w3 : World), Below w.heap.size w w2 → Below (w2.alloc o).heap.size (w2.alloc o) w3 → Below w.heap.size w w3) := Lib.hid fun w2 o w3 h h2 => (below_new (Nat.le_refl _) h o).trans (h2.mono (below_new (Nat.le_refl _) h o).size)
  by_cases hR : R < 0
  · rw [if_pos hR, if_pos hR]
    clear H hx HM
    go_enter Try.func35, Try.ntmps35
    go_wp2_with (first
      | (go_at_call 36; refine HA.out.mono ?_; rintro r w2 ⟨rfl, hg⟩; have HB := Lib.hid (below_grow hg); clear hg)
      | (go_at_call 37; refine (HT.out _).mono ?_; rintro r w3 ⟨rfl, hb3⟩; have HB3 := Lib.hid (HL.out w2 _ w3 HB.out hb3); clear hb3))
    go_ret
    exact HE.out _ _ HB3.out
  · rw [if_neg hR, if_neg hR]
    obtain ⟨Q, rfl⟩ : ∃ Q : Nat, R = Q := ⟨R.toNat, by omega⟩
    have hQ : (0 : Int) ≤ Q := by omega
    have HC : Hid (∀ w2 w3 : World, Below w.heap.size w w2 → Below (w2.alloc (.cells #[.int .i64 x.k, .int .i64 x.o, .int .i64 (x.r : Nat), .int .i64 (x.id : Nat), .int .i64 (x.up : Nat)] 28 (0, 0))).heap.size (w2.alloc (.cells #[.int .i64 x.k, .int .i64 x.o, .int .i64 (x.r : Nat), .int .i64 (x.id : Nat), .int .i64 (x.up : Nat)] 28 (0, 0))) w3 →
        Hid (Below w.heap.size w w3) ∧ w2.heap.size < w3.heap.size ∧ w3.cell? ⟨w2.heap.size, 0, none⟩ = some (.int .i64 x.k) ∧ w3.cell? ⟨w2.heap.size, 1, none⟩ = some (.int .i64 x.o) ∧ w3.cell? ⟨w2.heap.size, 2, none⟩ = some (.int .i64 (x.r : Nat)) ∧ w3.cell? ⟨w2.heap.size, 3, none⟩ = some (.int .i64 (x.id : Nat))) := Lib.hid fun w2 w3 h h2 => by
      have hs : (w2.alloc (.cells #[.int .i64 x.k, .int .i64 x.o, .int .i64 (x.r : Nat), .int .i64 (x.id : Nat), .int .i64 (x.up : Nat)] 28 (0, 0))).heap.size = w2.heap.size + 1 := by simp
      have hs2 := h2.size
      have hh := (h2.block w2.heap.size (by omega)).trans (heap_alloc_new w2 _)
      refine ⟨Lib.hid (HL.out w2 _ w3 h h2), by omega, ?_, ?_, ?_, ?_⟩ <;> (simp only [World.cell?, hh]; rfl)
    have HK : Hid (∀ (p : Nat) (w3 w4 : World), p < w3.heap.size → Below w3.heap.size w3 w4 → p < w4.heap.size ∧ ∀ j v, w3.cell? ⟨p, j, none⟩ = some v → w4.cell? ⟨p, j, none⟩ = some v) := Lib.hid fun p w3 w4 h h2 => ⟨Nat.lt_of_lt_of_le h h2.size, fun j v hv => (h2.cell (p := ⟨p, j, none⟩) h).trans hv⟩
    cases hm : mayB x.r (orB Q n) with
    | false =>
      rw [if_neg (by simp), if_neg (by simp)]
      rw [hm] at HM
      unfold orB at HM
      clear H hx hm r0 r1 r2 r3 r4 r5
      go_enter Try.func35, Try.ntmps35
      go_wp2_with (first
        | (go_at_call 36; refine HA.out.mono ?_; rintro r w2 ⟨rfl, hg⟩; have HB := Lib.hid (below_grow hg); clear hg)
        | (go_at_call 37; refine (HT.out _).mono ?_; rintro r w3 ⟨rfl, hb3⟩; obtain ⟨HB3, l3, k0, k1, k2, k3⟩ := HC.out w2 w3 HB.out hb3; clear hb3)
        | (go_at_call 33; refine (HM.out _).mono ?_; rintro r w4 ⟨rfl, hb4⟩; have HB4 := Lib.hid (HB3.out.trans (hb4.mono HB3.out.size)); clear hb4))
      go_ret
      exact HE.out _ _ HB4.out
    | true =>
      rw [if_pos rfl, if_pos rfl]
      rw [hm] at HM
      unfold orB at HM
      have HP : Hid (∀ w5, Below w.heap.size w w5 → Calls Try.prog 34 #[.pointer (some ⟨b, 0, none⟩), .int .i64 t, .int .i64 s, .agg #[.int .i64 x.k, .int .i64 x.o, .int .i64 (Q : Nat), .int .i64 0, .int .i64 (x.id : Nat)]] w5 (Turned b (putF F t s x.k x.o Q x.id) (.int .i64 (putE F t s)) w)) := Lib.hid fun w5 h5 => (put_any (H.below h5) hp t s x.k x.o (by have := hq hm; omega) r4).mono fun _ _ ⟨he, h1, h2⟩ => ⟨he, h1, (Only.of_below h5).trans h2 fun i hi => Or.inl hi⟩
      rw [show ((Q : Int)).toNat = Q from rfl]
      clear H hx hm r0 r1 r2 r3 r4 r5 hq
      generalize putF F t s x.k x.o Q x.id = F' at *
      generalize putE F t s = E at *
      go_enter Try.func35, Try.ntmps35
      go_wp2_with (first
        | (go_at_call 36; refine HA.out.mono ?_; rintro r w2 ⟨rfl, hg⟩; have HB := Lib.hid (below_grow hg); clear hg)
        | (go_at_call 37; refine (HT.out _).mono ?_; rintro r w3 ⟨rfl, hb3⟩; obtain ⟨HB3, l3, k0, k1, k2, k3⟩ := HC.out w2 w3 HB.out hb3; clear hb3)
        | (go_at_call 33; refine (HM.out _).mono ?_; rintro r w4 ⟨rfl, hb4⟩; have HB4 := Lib.hid (HB3.out.trans (hb4.mono HB3.out.size)); obtain ⟨l4, kk⟩ := HK.out w2.heap.size w3 w4 l3 hb4; have m0 := kk _ _ k0; have m1 := kk _ _ k1; have m2 := kk _ _ k2; have m3 := kk _ _ k3; clear hb4 kk))
      refine (HP.out _ (below_new (Nat.le_refl _) HB4.out _)).mono ?_
      rintro r w6 ⟨rfl, H1, H2⟩
      have HF : Hid (Turned b F' (.int .i64 E) w (.returned (.int .i64 E)) w6) := Lib.hid ⟨rfl, H1, H2⟩
      clear H1 H2
      go_wp2
      go_ret
      exact HF.out
theorem branch_any (H : FoIs w b F) (hp : F.p < 1000000) (e f t s : Int) {R n : Int} (hR : R < 9223372036854775808) (hn : n = 0 ∨ n = 4) : Calls Try.prog 35 #[.pointer (some ⟨b, 0, none⟩), .int .i64 e, .int .i64 f, .int .i64 t, .int .i64 s, .int .i64 R, .int .i64 n] w (Turned b (brF F e f t s R n) (.int .i64 (brE F e f t s R n)) w) := by
  unfold brE brF
  cases hx : fd F.l e f with
  | none => exact branch_miss H hx t s R n
  | some x =>
    have hr := (H.wf.rng x (fd_mem hx).1).2.2.1
    by_cases h0 : R < 0
    · exact branch_hit H hp hx t s R n (fun _ => by omega)
    · obtain ⟨Q, rfl⟩ : ∃ Q : Nat, R = Q := ⟨R.toNat, by omega⟩
      refine branch_hit H hp hx t s Q n (fun hm => ?_)
      obtain ⟨m, rfl, hm16⟩ : ∃ m : Nat, n = m ∧ m < 16 := by
        rcases hn with rfl | rfl
        · exact ⟨0, rfl, by omega⟩
        · exact ⟨4, rfl, by omega⟩
      rw [may_or hr (by omega) hm16, Bool.and_eq_true] at hm
      have := (may_lt hr (by omega) hm.1).2
      omega
theorem derive_any (H : FoIs w b F) (hp : F.p < 1000000) (e f s : Int) {R : Int} (hR : R < 9223372036854775808) : Calls Try.prog 17 #[.pointer (some ⟨b, 0, none⟩), .int .i64 e, .int .i64 f, .int .i64 s, .int .i64 R] w (Turned b (brF F e f e s R 0) (.int .i64 (brE F e f e s R 0)) w) := by
  have HB := Lib.hid (branch_any H hp e f e s hR (Or.inl rfl))
  generalize brF F e f e s R 0 = F' at *
  generalize brE F e f e s R 0 = E at *
  clear H hp hR
  go_enter Try.func17, Try.ntmps17
  go_wp2_with (go_at_call 35; refine HB.out.mono ?_; rintro r w2 ⟨rfl, H1, H2⟩; have HF : Hid (Turned b F' (.int .i64 E) w (.returned (.int .i64 E)) w2) := Lib.hid ⟨rfl, H1, H2⟩; clear H1 H2)
  go_ret
  exact HF.out
theorem give_any (H : FoIs w b F) (hp : F.p < 1000000) (e f t s : Int) {R : Int} (hR : R < 9223372036854775808) : Calls Try.prog 18 #[.pointer (some ⟨b, 0, none⟩), .int .i64 e, .int .i64 f, .int .i64 t, .int .i64 s, .int .i64 R] w (Turned b (brF F e f t s R 4) (.int .i64 (brE F e f t s R 4)) w) := by
  have HB := Lib.hid (branch_any H hp e f t s hR (Or.inr rfl))
  generalize brF F e f t s R 4 = F' at *
  generalize brE F e f t s R 4 = E at *
  clear H hp hR
  go_enter Try.func18, Try.ntmps18
  go_wp2_with (go_at_call 35; refine HB.out.mono ?_; rintro r w2 ⟨rfl, H1, H2⟩; have HF : Hid (Turned b F' (.int .i64 E) w (.returned (.int .i64 E)) w2) := Lib.hid ⟨rfl, H1, H2⟩; clear H1 H2)
  go_ret
  exact HF.out

/-! Root. -/
theorem rightB_parts (k o r : Int) : rightB k o r = ((decide (1 ≤ k) && decide (k ≤ 4)) && ((decide (0 ≤ o) && decide (o ≤ 31)) && (decide (0 ≤ r) && decide (r ≤ 15)))) := rfl
set_option maxHeartbeats 1000000 in
theorem right_any (k o r : Int) (w : World) : Calls Try.prog 7 #[.agg #[.int .i64 k, .int .i64 o, .int .i64 r]] w fun e w' => e = .returned (.bool (rightB k o r)) ∧ Below w.heap.size w w' := by
  rw [rightB_parts]
  have hbl : ∀ o, Below w.heap.size w (w.alloc o) := fun o => (Below.refl _ _).alloc (Nat.le_refl _) o
  have HB : ∀ w, _ := within_any o 31
  have HC : ∀ w, _ := within_any r 15
  generalize (decide (0 ≤ o) && decide (o ≤ 31)) = p at *
  generalize (decide (0 ≤ r) && decide (r ≤ 15)) = c at *
  by_cases h1 : (1 : Int) ≤ k
  · by_cases h2 : k ≤ 4
    · rw [show (decide (1 ≤ k) && decide (k ≤ 4)) = true by simp [h1, h2], Bool.true_and]
      cases p with
      | false =>
        go_enter Try.func7, Try.ntmps7
        go_wp2_with fail
        refine (HB _).mono ?_
        rintro e w' ⟨rfl, rfl⟩
        go_wp2
        go_ret
        exact ⟨rfl, hbl _⟩
      | true =>
        go_enter Try.func7, Try.ntmps7
        go_wp2_with fail
        refine (HB _).mono ?_
        rintro e w' ⟨rfl, rfl⟩
        go_wp2_with fail
        refine (HC _).mono ?_
        rintro e w' ⟨rfl, rfl⟩
        go_wp2
        go_ret
        exact ⟨rfl, hbl _⟩
    · rw [show (decide (1 ≤ k) && decide (k ≤ 4)) = false by simp [h2], Bool.false_and]
      go_enter Try.func7, Try.ntmps7
      go_wp2
      go_ret
      exact ⟨rfl, hbl _⟩
  · rw [show (decide (1 ≤ k) && decide (k ≤ 4)) = false by simp [h1], Bool.false_and]
    go_enter Try.func7, Try.ntmps7
    go_wp2
    go_ret
    exact ⟨rfl, hbl _⟩
def rootE (F : Fo) (e s k o r : Int) : Int := if rightB k o r = true then putE F e s else 1
def rootF (F : Fo) (e s k o r : Int) : Fo := if rightB k o r = true then putF F e s k o r.toNat 0 else F
theorem root_any (H : FoIs w b F) (hp : F.p < 1000000) (e s k o r : Int) : Calls Try.prog 16 #[.pointer (some ⟨b, 0, none⟩), .int .i64 e, .int .i64 s, .agg #[.int .i64 k, .int .i64 o, .int .i64 r]] w (Turned b (rootF F e s k o r) (.int .i64 (rootE F e s k o r)) w) := by
  have HR : Hid (∀ w, _) := Lib.hid fun w => right_any k o r w
  have HBb : Hid (Below w.heap.size w (w.alloc (.cells #[.int .i64 k, .int .i64 o, .int .i64 r] 26 (0, 0)))) := Lib.hid ((Below.refl _ _).alloc (Nat.le_refl _) _)
  have HK : Hid (∀ w3, Below (w.alloc (.cells #[.int .i64 k, .int .i64 o, .int .i64 r] 26 (0, 0))).heap.size (w.alloc (.cells #[.int .i64 k, .int .i64 o, .int .i64 r] 26 (0, 0))) w3 → Hid (Below w.heap.size w w3) ∧ w3.cell? ⟨w.heap.size, 0, none⟩ = some (.int .i64 k) ∧ w3.cell? ⟨w.heap.size, 1, none⟩ = some (.int .i64 o) ∧ w3.cell? ⟨w.heap.size, 2, none⟩ = some (.int .i64 r)) := Lib.hid fun w3 h => by
    have hh := (h.block w.heap.size (by simp)).trans (heap_alloc_new w _)
    refine ⟨Lib.hid (HBb.out.trans (h.mono HBb.out.size)), ?_, ?_, ?_⟩ <;> (simp only [World.cell?, hh]; rfl)
  cases hr : rightB k o r with
  | false =>
    have HE : Hid (∀ w' v, Below w.heap.size w w' → Turned b F v w (.returned v) w') := Lib.hid fun w' v h => H.same h
    unfold rootE rootF
    rw [hr, if_neg (by simp), if_neg (by simp)]
    rw [hr] at HR
    clear H hr
    go_enter Try.func16, Try.ntmps16
    go_wp2_with (go_at_call 7; refine (HR.out _).mono ?_; rintro r w3 ⟨rfl, hb3⟩; obtain ⟨HB3, k0, k1, k2⟩ := HK.out w3 hb3; clear hb3)
    go_ret
    exact HE.out _ _ HB3.out
  | true =>
    unfold rootE rootF
    rw [hr, if_pos rfl, if_pos rfl]
    obtain ⟨Q, rfl⟩ : ∃ Q : Nat, r = Q := ⟨r.toNat, by simp [rightB] at hr; omega⟩
    have h16 : Q < 16 := by simp [rightB] at hr; omega
    rw [hr] at HR
    have HP : Hid (∀ w5, Below w.heap.size w w5 → Calls Try.prog 34 #[.pointer (some ⟨b, 0, none⟩), .int .i64 e, .int .i64 s, .agg #[.int .i64 k, .int .i64 o, .int .i64 (Q : Nat), .int .i64 0, .int .i64 0]] w5 (Turned b (putF F e s k o Q 0) (.int .i64 (putE F e s)) w)) := Lib.hid fun w5 h5 => (put_any (H.below h5) hp e s k o h16 (Nat.zero_le _)).mono fun _ _ ⟨he, h1, h2⟩ => ⟨he, h1, (Only.of_below h5).trans h2 fun i hi => Or.inl hi⟩
    rw [show ((Q : Int)).toNat = Q from rfl]
    clear H hr h16
    generalize putF F e s k o Q 0 = F' at *
    generalize putE F e s = E at *
    go_enter Try.func16, Try.ntmps16
    go_wp2_with (first
      | (go_at_call 7; refine (HR.out _).mono ?_; rintro r w3 ⟨rfl, hb3⟩; obtain ⟨HB3, k0, k1, k2⟩ := HK.out w3 hb3; clear hb3)
      | (go_at_call 34; refine (HP.out _ HB3.out).mono ?_; rintro r w6 ⟨rfl, H1, H2⟩; have HF : Hid (Turned b F' (.int .i64 E) w (.returned (.int .i64 E)) w6) := Lib.hid ⟨rfl, H1, H2⟩; clear H1 H2))
    go_ret
    exact HF.out
end
end Go.Proofs.Ythblldojbgeknaa
