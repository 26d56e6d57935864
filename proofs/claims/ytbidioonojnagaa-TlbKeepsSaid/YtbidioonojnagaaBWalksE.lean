/-
  Contracts: Load (typed by tools/gen_bload.py).
-/
import Derived.Test.YtbidioonojnagaaBWalksD
namespace Go.Proofs.Ytbidioonojnagaa
open Go.ChangeShapes Go.WideShapes Go.ChangeAt Go.RowKit

/-- Within Load: the buffer, the box of what is loaded (block b), what is told (block b + 1). -/
structure At (w : World) (b h : Nat) (x : En) (L : List En) (hi mi : Int) (w' : World) : Prop where
  mem : TbIs w' h L hi mi
  box : w'.heap[b]? = some (.cells (ecells x).toArray 28 (0, 0))
  res : w'.heap[b + 1]? = some (.cells (ecells noEn).toArray 28 (0, 0))
  only : Only (· = h) w w'
  off : h < b
  base : w.heap.size ≤ b
theorem blk_cell {w : World} {b j : Nat} {C : Array Value} {T : TypeId} {u : Value} (h : w.heap[b]? = some (.cells C T (0, 0))) (hu : C[j]? = some u) : w.cell? ⟨b, j, none⟩ = some u := by
  simp only [World.cell?, h]
  exact hu
theorem blk_free {w : World} {b : Nat} {C : Array Value} {T : TypeId} (h : w.heap[b]? = some (.cells C T (0, 0))) (j : Nat) : w.frozen? ⟨b, j, none⟩ = false := by
  simp [World.frozen?, h]
section
variable {w w1 w2 : World} {b h : Nat} {x : En} {L L' : List En} {hi mi hi' mi' : Int}
theorem At.below (A : At w b h x L hi mi w1) (hb : Below w1.heap.size w1 w2) : At w b h x L hi mi w2 :=
  ⟨A.mem.below hb, (hb.block _ (lt_of_blk A.box)).trans A.box, (hb.block _ (lt_of_blk A.res)).trans A.res, A.only.trans (Only.of_below (S := fun _ => False) hb) (fun _ h => h.elim), A.off, A.base⟩
theorem At.turn (A : At w b h x L hi mi w1) (h1 : TbIs w2 h L' hi' mi') (h2 : Only (· = h) w1 w2) : At w b h x L' hi' mi' w2 := by
  have ho := A.off
  exact ⟨h1, (h2.block _ (lt_of_blk A.box) (by omega)).trans A.box, (h2.block _ (lt_of_blk A.res) (by omega)).trans A.res, A.only.trans h2 (fun _ h => Or.inl h), A.off, A.base⟩
theorem At.bx (A : At w b h x L hi mi w1) : w1.cell? ⟨b, 0, none⟩ = some (.int .i64 x.en) ∧ w1.cell? ⟨b, 1, none⟩ = some (.int .i64 x.pg) ∧ w1.cell? ⟨b, 2, none⟩ = some (.int .i64 x.fr) ∧ w1.cell? ⟨b, 3, none⟩ = some (.bool x.wr) :=
  ⟨blk_cell A.box rfl, blk_cell A.box rfl, blk_cell A.box rfl, blk_cell A.box rfl⟩
theorem At.rs (A : At w b h x L hi mi w1) : w1.cell? ⟨b + 1, 0, none⟩ = some (.int .i64 0) ∧ w1.cell? ⟨b + 1, 1, none⟩ = some (.int .i64 0) ∧ w1.cell? ⟨b + 1, 2, none⟩ = some (.int .i64 0) ∧ w1.cell? ⟨b + 1, 3, none⟩ = some (.bool false) :=
  ⟨blk_cell A.res rfl, blk_cell A.res rfl, blk_cell A.res rfl, blk_cell A.res rfl⟩
/-- What is told is stored last. -/
theorem At.told (A : At w b h x L hi mi w1) (v : Value) (v0 v1 v2 v3 : Value) : Turned h L hi mi v w (.returned v) ((((w1.setCell ⟨b + 1, 0, none⟩ v0).setCell ⟨b + 1, 1, none⟩ v1).setCell ⟨b + 1, 2, none⟩ v2).setCell ⟨b + 1, 3, none⟩ v3) := by
  have ho := A.off
  have hb := A.base
  have n1 : h ≠ b + 1 := by omega
  have n2 : w.heap.size ≤ b + 1 := by omega
  refine ⟨rfl, (((A.mem.away n1 _).away n1 _).away n1 _).away n1 _, ?_⟩
  refine Only.put ?_ (Or.inr n2) _
  refine Only.put ?_ (Or.inr n2) _
  refine Only.put ?_ (Or.inr n2) _
  exact Only.put A.only (Or.inr n2) _
theorem At.start (H : TbIs w h L hi mi) (x : En) : At w w.heap.size h x L hi mi ((w.alloc (.cells (ecells x).toArray 28 (0, 0))).alloc (.cells (ecells noEn).toArray 28 (0, 0))) := by
  have hbw : Below w.heap.size w ((w.alloc (.cells (ecells x).toArray 28 (0, 0))).alloc (.cells (ecells noEn).toArray 28 (0, 0))) := ((Below.refl _ _).alloc (Nat.le_refl _) _).alloc (by simp) _
  refine ⟨H.below hbw, ?_, ?_, Only.of_below hbw, H.lt, Nat.le_refl _⟩
  · rw [Below.heap_alloc _ _ _ (by simp)]
    exact heap_alloc_new _ _
  · have := heap_alloc_new (w.alloc (.cells (ecells x).toArray 28 (0, 0))) (.cells (ecells noEn).toArray 28 (0, 0))
    simpa using this
end

section
variable {w : World} {h : Nat} {L : List En} {hi mi : Int}
set_option maxHeartbeats 1000000 in
theorem load_wrong (H : TbIs w h L hi mi) (x : En) (hr : x.right = false) : Calls Try.prog 6 #[.pointer (some ⟨h, 0, none⟩), .agg (ecells x).toArray] w (Turned h L hi mi (.tuple #[.agg (ecells noEn).toArray, .bool false, .int .i64 1]) w) := by
  obtain ⟨W, hW⟩ : ∃ W, (w.alloc (.cells (ecells x).toArray 28 (0, 0))).alloc (.cells (ecells noEn).toArray 28 (0, 0)) = W := ⟨_, rfl⟩
  obtain ⟨b, hb⟩ : ∃ b, w.heap.size = b := ⟨_, rfl⟩
  have A0 : Hid (At w b h x L hi mi W) := Lib.hid (by
    rw [← hW, ← hb]
    exact At.start H x)
  have HR := Lib.hid (right_any x W)
  rw [hr] at HR
  obtain ⟨en, pg, fr, wr⟩ := x
  simp only [ecells, noEn] at *
  have HW := Lib.hid hW
  have Hb := Lib.hid hb
  clear hW hb hr H
  go_enter Try.func6, Try.ntmps6
  go_wp2_with fail
  rw [show (w.alloc (.cells #[.int .i64 en, .int .i64 pg, .int .i64 fr, .bool wr] 28 (0, 0))).alloc (.cells #[.int .i64 0, .int .i64 0, .int .i64 0, .bool false] 28 (0, 0)) = W from HW.out, Hb.out]
  refine HR.out.mono ?_
  rintro e w1 ⟨rfl, hb1⟩
  have A1 := Lib.hid (A0.out.below hb1)
  obtain ⟨q0, q1, q2, q3⟩ := A1.out.bx
  obtain ⟨p0, p1, p2, p3⟩ := A1.out.rs
  have f1 := blk_free A1.out.res
  clear hb1
  go_wp2
  refine bodyPost_ret (v := .tuple #[.agg #[.int .i64 0, .int .i64 0, .int .i64 0, .bool false], .bool false, .int .i64 1]) (by simp [results, Try.results6, go_sem, p0, p1, p2, p3]) rfl ?_
  exact A1.out.told _ _ _ _ _
set_option maxHeartbeats 1000000 in
theorem load_room (H : TbIs w h L hi mi) (x : En) (hr : x.right = true) (hm : ¬ fs L x.en x.pg < L.length) (hl : L.length < 16) : Calls Try.prog 6 #[.pointer (some ⟨h, 0, none⟩), .agg (ecells x).toArray] w (Turned h (L ++ [x]) hi mi (.tuple #[.agg (ecells noEn).toArray, .bool false, .int .i64 0]) w) := by
  have HF : Hid (findN L x.en x.pg = -1) := Lib.hid (by rw [findN, if_neg hm])
  have HP : Hid (∀ w3, TbIs w3 h L hi mi → Calls Try.prog 11 #[.pointer (some ⟨h, 0, none⟩), .agg (ecells x).toArray] w3 (Turned h (L ++ [x]) hi mi (.tuple #[]) w3)) := Lib.hid fun w3 h3 => put_any h3 hl x
  obtain ⟨L', hL'⟩ : ∃ L', L ++ [x] = L' := ⟨_, rfl⟩
  rw [hL'] at HP ⊢
  obtain ⟨n, hn⟩ : ∃ n, L.length = n := ⟨_, rfl⟩
  have Hn := Lib.hid hn
  have n0 : ¬ (n : Int) = 16 := by omega
  clear hm hl hn hL'
  obtain ⟨W, hW⟩ : ∃ W, (w.alloc (.cells (ecells x).toArray 28 (0, 0))).alloc (.cells (ecells noEn).toArray 28 (0, 0)) = W := ⟨_, rfl⟩
  obtain ⟨b, hb⟩ : ∃ b, w.heap.size = b := ⟨_, rfl⟩
  have A0 : Hid (At w b h x L hi mi W) := Lib.hid (by
    rw [← hW, ← hb]
    exact At.start H x)
  have HR := Lib.hid (right_any x W)
  rw [hr] at HR
  obtain ⟨en, pg, fr, wr⟩ := x
  simp only [ecells, noEn] at *
  have HW := Lib.hid hW
  have Hb := Lib.hid hb
  clear hW hb hr H
  go_enter Try.func6, Try.ntmps6
  go_wp2_with fail
  rw [show (w.alloc (.cells #[.int .i64 en, .int .i64 pg, .int .i64 fr, .bool wr] 28 (0, 0))).alloc (.cells #[.int .i64 0, .int .i64 0, .int .i64 0, .bool false] 28 (0, 0)) = W from HW.out, Hb.out]
  refine HR.out.mono ?_
  rintro e w1 ⟨rfl, hb1⟩
  have A1 := Lib.hid (A0.out.below hb1)
  obtain ⟨q0, q1, q2, q3⟩ := A1.out.bx
  obtain ⟨p0, p1, p2, p3⟩ := A1.out.rs
  have f1 := blk_free A1.out.res
  clear hb1
  go_wp2_with fail
  refine ((find_any A1.out.mem en pg).mono ?_)
  rintro e w2 ⟨rfl, hb2⟩
  rw [HF.out]
  have A2 := Lib.hid (A1.out.below hb2)
  clear hb2 p0 p1 p2 p3 q0 q1 q2 q3 f1
  obtain ⟨q0, q1, q2, q3⟩ := A2.out.bx
  obtain ⟨p0, p1, p2, p3⟩ := A2.out.rs
  have f1 := blk_free A2.out.res
  have a1 := A2.out.mem.all.1
  rw [Hn.out] at a1
  go_wp2_with fail
  refine (HP.out _ A2.out.mem).mono ?_
  rintro e w3 ⟨rfl, t1, t2⟩
  have A3 := Lib.hid (A2.out.turn t1 t2)
  clear t1 t2 p0 p1 p2 p3 q0 q1 q2 q3 f1 a1
  obtain ⟨p0, p1, p2, p3⟩ := A3.out.rs
  have f1 := blk_free A3.out.res
  go_wp2
  refine bodyPost_ret (v := .tuple #[.agg #[.int .i64 0, .int .i64 0, .int .i64 0, .bool false], .bool false, .int .i64 0]) (by simp [results, Try.results6, go_sem, p0, p1, p2, p3]) rfl ?_
  exact A3.out.told _ _ _ _ _
set_option maxHeartbeats 1000000 in
theorem load_goes (H : TbIs w h L hi mi) (x : En) (hr : x.right = true) {k : Nat} {z : En} (hz : L[k]? = some z) (hm : (fs L x.en x.pg = k ∧ k < L.length) ∨ (k = 0 ∧ ¬ fs L x.en x.pg < L.length ∧ L.length = 16)) : Calls Try.prog 6 #[.pointer (some ⟨h, 0, none⟩), .agg (ecells x).toArray] w (Turned h (L.eraseIdx k ++ [x]) hi mi (.tuple #[.agg (ecells z).toArray, .bool true, .int .i64 0]) w) := by
  have hk := (List.getElem?_eq_some_iff.1 hz).1
  have hlow := H.low
  have HT : Hid (∀ w3, TbIs w3 h L hi mi → Calls Try.prog 12 #[.pointer (some ⟨h, 0, none⟩), .int .i64 (k : Nat)] w3 (Turned h (L.eraseIdx k) hi mi (.agg (ecells z).toArray) w3)) := Lib.hid fun w3 h3 => take_any h3 hz
  have HP : Hid (∀ w3, TbIs w3 h (L.eraseIdx k) hi mi → Calls Try.prog 11 #[.pointer (some ⟨h, 0, none⟩), .agg (ecells x).toArray] w3 (Turned h (L.eraseIdx k ++ [x]) hi mi (.tuple #[]) w3)) := Lib.hid fun w3 h3 => put_any h3 (by rw [List.length_eraseIdx, if_pos hk]; omega) x
  obtain ⟨L', hL'⟩ : ∃ L', L.eraseIdx k ++ [x] = L' := ⟨_, rfl⟩
  rw [hL'] at HP ⊢
  obtain ⟨L2, hL2⟩ : ∃ L2, L.eraseIdx k = L2 := ⟨_, rfl⟩
  rw [hL2] at HP HT
  have k0 : (0 : Int) ≤ k := by omega
  have k1 : ¬ (k : Int) < 0 := by omega
  clear hL' hL2 hz
  rcases hm with ⟨hf, hk2⟩ | ⟨hk0, hm, hl⟩
  · have HF : Hid (findN L x.en x.pg = (k : Int)) := Lib.hid (by rw [findN, hf, if_pos hk2])
    clear hf hk2 hk
    obtain ⟨W, hW⟩ : ∃ W, (w.alloc (.cells (ecells x).toArray 28 (0, 0))).alloc (.cells (ecells noEn).toArray 28 (0, 0)) = W := ⟨_, rfl⟩
    obtain ⟨b, hb⟩ : ∃ b, w.heap.size = b := ⟨_, rfl⟩
    have A0 : Hid (At w b h x L hi mi W) := Lib.hid (by
      rw [← hW, ← hb]
      exact At.start H x)
    have HR := Lib.hid (right_any x W)
    rw [hr] at HR
    obtain ⟨en, pg, fr, wr⟩ := x
    obtain ⟨ze, zp, zf, zw⟩ := z
    simp only [ecells, noEn] at *
    have HW := Lib.hid hW
    have Hb := Lib.hid hb
    clear hW hb hr H
    go_enter Try.func6, Try.ntmps6
    go_wp2_with fail
    rw [show (w.alloc (.cells #[.int .i64 en, .int .i64 pg, .int .i64 fr, .bool wr] 28 (0, 0))).alloc (.cells #[.int .i64 0, .int .i64 0, .int .i64 0, .bool false] 28 (0, 0)) = W from HW.out, Hb.out]
    refine HR.out.mono ?_
    rintro e w1 ⟨rfl, hb1⟩
    have A1 := Lib.hid (A0.out.below hb1)
    obtain ⟨q0, q1, q2, q3⟩ := A1.out.bx
    obtain ⟨p0, p1, p2, p3⟩ := A1.out.rs
    have f1 := blk_free A1.out.res
    clear hb1
    go_wp2_with fail
    refine ((find_any A1.out.mem en pg).mono ?_)
    rintro e w2 ⟨rfl, hb2⟩
    rw [HF.out]
    have A2 := Lib.hid (A1.out.below hb2)
    clear hb2 p0 p1 p2 p3 q0 q1 q2 q3 f1
    obtain ⟨q0, q1, q2, q3⟩ := A2.out.bx
    obtain ⟨p0, p1, p2, p3⟩ := A2.out.rs
    have f1 := blk_free A2.out.res
    go_wp2_with fail
    refine (HT.out _ A2.out.mem).mono ?_
    rintro e w3 ⟨rfl, t1, t2⟩
    have A3 := Lib.hid (A2.out.turn t1 t2)
    clear t1 t2 p0 p1 p2 p3 q0 q1 q2 q3 f1
    obtain ⟨q0, q1, q2, q3⟩ := A3.out.bx
    have l3 := lt_of_blk A3.out.box
    obtain ⟨W4, hW4⟩ : ∃ W4, w3.alloc (.cells #[.int .i64 ze, .int .i64 zp, .int .i64 zf, .bool zw] 28 (0, 0)) = W4 := ⟨_, rfl⟩
    obtain ⟨c, hc⟩ : ∃ c, w3.heap.size = c := ⟨_, rfl⟩
    have A4 : Hid (At w b h ⟨en, pg, fr, wr⟩ L2 hi mi W4) := Lib.hid (by
      rw [← hW4]
      exact A3.out.below ((Below.refl _ _).alloc (Nat.le_refl _) _))
    have B4 : Hid (W4.heap[c]? = some (.cells #[.int .i64 ze, .int .i64 zp, .int .i64 zf, .bool zw] 28 (0, 0))) := Lib.hid (by
      rw [← hW4, ← hc]
      exact heap_alloc_new _ _)
    have HW4 := Lib.hid hW4
    have Hc := Lib.hid hc
    clear hW4 hc
    go_wp2_with fail
    rw [show w3.alloc (.cells #[.int .i64 ze, .int .i64 zp, .int .i64 zf, .bool zw] 28 (0, 0)) = W4 from HW4.out, Hc.out]
    refine (HP.out _ A4.out.mem).mono ?_
    rintro e w5 ⟨rfl, t1, t2⟩
    have A5 := Lib.hid (A4.out.turn t1 t2)
    have B5 : w5.heap[c]? = some (.cells #[.int .i64 ze, .int .i64 zp, .int .i64 zf, .bool zw] 28 (0, 0)) := by
      have h1 := lt_of_blk B4.out
      have h2 := A4.out.off
      have h3 := Hc.out
      rw [t2.block c h1 (by omega)]
      exact B4.out
    have nc : b + 1 ≠ c := by
      have h1 := lt_of_blk A3.out.res
      have h3 := Hc.out
      omega
    obtain ⟨p0, p1, p2, p3⟩ := A5.out.rs
    have r0 := blk_cell (j := 0) B5 rfl
    have r1 := blk_cell (j := 1) B5 rfl
    have r2 := blk_cell (j := 2) B5 rfl
    have r3 := blk_cell (j := 3) B5 rfl
    have f1 := blk_free A5.out.res
    clear t1 t2 B5 q0 q1 q2 q3 l3
    go_wp2
    refine bodyPost_ret (v := .tuple #[.agg #[.int .i64 ze, .int .i64 zp, .int .i64 zf, .bool zw], .bool true, .int .i64 0]) (by simp [results, Try.results6, go_sem, p0, p1, p2, p3]) rfl ?_
    exact A5.out.told _ _ _ _ _
  · have HF : Hid (findN L x.en x.pg = -1) := Lib.hid (by rw [findN, if_neg hm])
    obtain ⟨n, hn⟩ : ∃ n, L.length = n := ⟨_, rfl⟩
    have Hn := Lib.hid hn
    have Hl : Hid (n = 16) := Lib.hid (by omega)
    subst hk0
    have k3 : ((0 : Nat) : Int) = 0 := rfl
    rw [k3] at HT
    clear hm hl hk hn hlow k0 k1 k3
    obtain ⟨W, hW⟩ : ∃ W, (w.alloc (.cells (ecells x).toArray 28 (0, 0))).alloc (.cells (ecells noEn).toArray 28 (0, 0)) = W := ⟨_, rfl⟩
    obtain ⟨b, hb⟩ : ∃ b, w.heap.size = b := ⟨_, rfl⟩
    have A0 : Hid (At w b h x L hi mi W) := Lib.hid (by
      rw [← hW, ← hb]
      exact At.start H x)
    have HR := Lib.hid (right_any x W)
    rw [hr] at HR
    obtain ⟨en, pg, fr, wr⟩ := x
    obtain ⟨ze, zp, zf, zw⟩ := z
    simp only [ecells, noEn] at *
    have HW := Lib.hid hW
    have Hb := Lib.hid hb
    clear hW hb hr H
    go_enter Try.func6, Try.ntmps6
    go_wp2_with fail
    rw [show (w.alloc (.cells #[.int .i64 en, .int .i64 pg, .int .i64 fr, .bool wr] 28 (0, 0))).alloc (.cells #[.int .i64 0, .int .i64 0, .int .i64 0, .bool false] 28 (0, 0)) = W from HW.out, Hb.out]
    refine HR.out.mono ?_
    rintro e w1 ⟨rfl, hb1⟩
    have A1 := Lib.hid (A0.out.below hb1)
    obtain ⟨q0, q1, q2, q3⟩ := A1.out.bx
    obtain ⟨p0, p1, p2, p3⟩ := A1.out.rs
    have f1 := blk_free A1.out.res
    clear hb1
    go_wp2_with fail
    refine ((find_any A1.out.mem en pg).mono ?_)
    rintro e w2 ⟨rfl, hb2⟩
    rw [HF.out]
    have A2 := Lib.hid (A1.out.below hb2)
    clear hb2 p0 p1 p2 p3 q0 q1 q2 q3 f1
    obtain ⟨q0, q1, q2, q3⟩ := A2.out.bx
    obtain ⟨p0, p1, p2, p3⟩ := A2.out.rs
    have f1 := blk_free A2.out.res
    have a1 := A2.out.mem.all.1
    rw [Hn.out, Hl.out] at a1
    go_wp2_with fail
    refine (HT.out _ A2.out.mem).mono ?_
    rintro e w3 ⟨rfl, t1, t2⟩
    have A3 := Lib.hid (A2.out.turn t1 t2)
    clear t1 t2 p0 p1 p2 p3 q0 q1 q2 q3 f1 a1
    obtain ⟨q0, q1, q2, q3⟩ := A3.out.bx
    have l3 := lt_of_blk A3.out.box
    obtain ⟨W4, hW4⟩ : ∃ W4, w3.alloc (.cells #[.int .i64 ze, .int .i64 zp, .int .i64 zf, .bool zw] 28 (0, 0)) = W4 := ⟨_, rfl⟩
    obtain ⟨c, hc⟩ : ∃ c, w3.heap.size = c := ⟨_, rfl⟩
    have A4 : Hid (At w b h ⟨en, pg, fr, wr⟩ L2 hi mi W4) := Lib.hid (by
      rw [← hW4]
      exact A3.out.below ((Below.refl _ _).alloc (Nat.le_refl _) _))
    have B4 : Hid (W4.heap[c]? = some (.cells #[.int .i64 ze, .int .i64 zp, .int .i64 zf, .bool zw] 28 (0, 0))) := Lib.hid (by
      rw [← hW4, ← hc]
      exact heap_alloc_new _ _)
    have HW4 := Lib.hid hW4
    have Hc := Lib.hid hc
    clear hW4 hc
    go_wp2_with fail
    rw [show w3.alloc (.cells #[.int .i64 ze, .int .i64 zp, .int .i64 zf, .bool zw] 28 (0, 0)) = W4 from HW4.out, Hc.out]
    refine (HP.out _ A4.out.mem).mono ?_
    rintro e w5 ⟨rfl, t1, t2⟩
    have A5 := Lib.hid (A4.out.turn t1 t2)
    have B5 : w5.heap[c]? = some (.cells #[.int .i64 ze, .int .i64 zp, .int .i64 zf, .bool zw] 28 (0, 0)) := by
      have h1 := lt_of_blk B4.out
      have h2 := A4.out.off
      have h3 := Hc.out
      rw [t2.block c h1 (by omega)]
      exact B4.out
    have nc : b + 1 ≠ c := by
      have h1 := lt_of_blk A3.out.res
      have h3 := Hc.out
      omega
    obtain ⟨p0, p1, p2, p3⟩ := A5.out.rs
    have r0 := blk_cell (j := 0) B5 rfl
    have r1 := blk_cell (j := 1) B5 rfl
    have r2 := blk_cell (j := 2) B5 rfl
    have r3 := blk_cell (j := 3) B5 rfl
    have f1 := blk_free A5.out.res
    clear t1 t2 B5 q0 q1 q2 q3 l3
    go_wp2
    refine bodyPost_ret (v := .tuple #[.agg #[.int .i64 ze, .int .i64 zp, .int .i64 zf, .bool zw], .bool true, .int .i64 0]) (by simp [results, Try.results6, go_sem, p0, p1, p2, p3]) rfl ?_
    exact A5.out.told _ _ _ _ _
/-- Load, of whatever. -/
theorem load_any (H : TbIs w h L hi mi) (x : En) : Calls Try.prog 6 #[.pointer (some ⟨h, 0, none⟩), .agg (ecells x).toArray] w (Turned h (loadL L x) hi mi (.tuple #[.agg (ecells (loadG L x)).toArray, .bool (loadB L x), .int .i64 (loadE x)]) w) := by
  unfold loadL loadG loadB loadE
  by_cases hr : x.right = true
  · by_cases hf : fs L x.en x.pg < L.length
    · have hg : goes L x = some (fs L x.en x.pg) := by rw [goes, if_pos hr, if_pos hf]
      obtain ⟨z, hz, _⟩ := fs_at L x.en x.pg hf
      rw [if_pos hr, if_pos hr, hg]
      dsimp only [Option.isSome]
      rw [enAt_in hz]
      exact load_goes H x hr hz (Or.inl ⟨rfl, hf⟩)
    · by_cases hl : L.length = 16
      · have hg : goes L x = some 0 := by rw [goes, if_pos hr, if_neg hf, if_pos hl]
        obtain ⟨z, hz⟩ : ∃ z, L[0]? = some z := ⟨_, List.getElem?_eq_getElem (by omega)⟩
        rw [if_pos hr, if_pos hr, hg]
        dsimp only [Option.isSome]
        rw [enAt_in hz]
        exact load_goes H x hr hz (Or.inr ⟨rfl, hf, hl⟩)
      · have hg : goes L x = none := by rw [goes, if_pos hr, if_neg hf, if_neg hl]
        rw [if_pos hr, if_pos hr, hg]
        dsimp only [Option.isSome]
        have := H.low
        exact load_room H x hr hf (by omega)
  · have hg : goes L x = none := by rw [goes, if_neg hr]
    rw [if_neg hr, if_neg hr, hg]
    dsimp only [Option.isSome]
    exact load_wrong H x (by simpa using hr)
end
end Go.Proofs.Ytbidioonojnagaa
