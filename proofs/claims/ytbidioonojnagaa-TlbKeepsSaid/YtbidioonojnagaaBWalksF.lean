/-
  Contracts: Look.
-/
import Derived.Test.YtbidioonojnagaaBWalksE
namespace Go.Proofs.Ytbidioonojnagaa
open Go.ChangeShapes Go.WideShapes Go.ChangeAt Go.RowKit

section
variable {w : World} {h : Nat} {L : List En} {hi mi : Int}
set_option maxHeartbeats 1000000 in
theorem look_miss (H : TbIs w h L hi mi) (e p : Int) (wt : Bool) (hm : ¬ fs L e p < L.length) : Calls Try.prog 8 #[.pointer (some ⟨h, 0, none⟩), .int .i64 e, .int .i64 p, .bool wt] w (Turned h L hi (IntKind.i64.wrap (mi + 1)) (.tuple #[.int .i64 0, .int .i64 29]) w) := by
  obtain ⟨m', hm'⟩ : ∃ m', IntKind.i64.wrap (mi + 1) = m' := ⟨_, rfl⟩
  have hF : findN L e p = -1 := by rw [findN, if_neg hm]
  have HF := Lib.hid (find_any H e p)
  rw [hF] at HF
  rw [hm']
  have HE : Hid (∀ w2, Below w.heap.size w w2 → w2.cell? ⟨h, 66, none⟩ = some (.int .i64 mi) ∧ w2.frozen? ⟨h, 66, none⟩ = false ∧ Turned h L hi m' (.tuple #[.int .i64 0, .int .i64 29]) w (.returned (.tuple #[.int .i64 0, .int .i64 29])) (w2.setCell ⟨h, 66, none⟩ (.int .i64 m'))) := Lib.hid fun w2 hb2 => by
    have h2 := H.below hb2
    exact ⟨h2.all.2.2, h2.free _, rfl, h2.putMisses m', (Only.of_below (S := (· = h)) hb2).put (p := ⟨h, 66, none⟩) (Or.inl rfl) _⟩
  clear H hm hF
  go_enter Try.func8, Try.ntmps8
  go_wp2_with fail
  refine HF.out.mono ?_
  rintro e' w2 ⟨rfl, hb2⟩
  obtain ⟨q0, q1, hend⟩ := HE.out w2 hb2
  have Hend := Lib.hid hend
  clear hb2 hend
  go_wp2
  go_ret2
  exact Hend.out
set_option maxHeartbeats 1000000 in
theorem look_cap (H : TbIs w h L hi mi) (e p : Int) {k : Nat} {z : En} (hz : L[k]? = some z) (hk : fs L e p = k) (hr : z.wr = false) : Calls Try.prog 8 #[.pointer (some ⟨h, 0, none⟩), .int .i64 e, .int .i64 p, .bool true] w (Turned h L hi mi (.tuple #[.int .i64 0, .int .i64 23]) w) := by
  have hlt := (List.getElem?_eq_some_iff.1 hz).1
  have hlow := H.low
  have hF : findN L e p = (k : Int) := by rw [findN, hk, if_pos hlt]
  have HF := Lib.hid (find_any H e p)
  rw [hF] at HF
  have HE : Hid (∀ w2, Below w.heap.size w w2 → w2.cell? ⟨h, k * 4 + 3, none⟩ = some (.bool false) ∧ Turned h L hi mi (.tuple #[.int .i64 0, .int .i64 23]) w (.returned (.tuple #[.int .i64 0, .int .i64 23])) w2) := Lib.hid fun w2 hb2 => by
    have h2 := H.below hb2
    refine ⟨?_, rfl, h2, Only.of_below hb2⟩
    rw [← hr]
    exact (h2.at_ hz).2.2.2
  have k0 : (0 : Int) ≤ k := by omega
  have k1 : ¬ (k : Int) < 0 := by omega
  have k2 : (k : Int) < 16 := by omega
  clear H hz hk hr hF hlow hlt
  go_enter Try.func8, Try.ntmps8
  go_wp2_with fail
  refine HF.out.mono ?_
  rintro e' w2 ⟨rfl, hb2⟩
  obtain ⟨q0, hend⟩ := HE.out w2 hb2
  have Hend := Lib.hid hend
  clear hb2 hend
  go_wp2
  go_ret2
  exact Hend.out
set_option maxHeartbeats 1000000 in
theorem look_hit (H : TbIs w h L hi mi) (e p : Int) {wt : Bool} {k : Nat} {z : En} (hz : L[k]? = some z) (hk : fs L e p = k) (hr : (wt && !z.wr) = false) : Calls Try.prog 8 #[.pointer (some ⟨h, 0, none⟩), .int .i64 e, .int .i64 p, .bool wt] w (Turned h (L.eraseIdx k ++ [z]) (IntKind.i64.wrap (hi + 1)) mi (.tuple #[.int .i64 z.fr, .int .i64 0]) w) := by
  have hlt := (List.getElem?_eq_some_iff.1 hz).1
  have hlow := H.low
  obtain ⟨h', hh'⟩ : ∃ h', IntKind.i64.wrap (hi + 1) = h' := ⟨_, rfl⟩
  have hF : findN L e p = (k : Int) := by rw [findN, hk, if_pos hlt]
  have HF := Lib.hid (find_any H e p)
  rw [hF] at HF
  rw [hh']
  have HE : Hid (∀ w2, Below w.heap.size w w2 → w2.cell? ⟨h, k * 4 + 3, none⟩ = some (.bool z.wr) ∧ w2.cell? ⟨h, 65, none⟩ = some (.int .i64 hi) ∧ w2.frozen? ⟨h, 65, none⟩ = false ∧ TbIs (w2.setCell ⟨h, 65, none⟩ (.int .i64 h')) h L h' mi ∧ Only (· = h) w (w2.setCell ⟨h, 65, none⟩ (.int .i64 h'))) := Lib.hid fun w2 hb2 => by
    have h2 := H.below hb2
    exact ⟨(h2.at_ hz).2.2.2, h2.all.2.1, h2.free _, h2.putHits h', (Only.of_below (S := (· = h)) hb2).put (p := ⟨h, 65, none⟩) (Or.inl rfl) _⟩
  have HT : Hid (∀ w3, TbIs w3 h L h' mi → Calls Try.prog 12 #[.pointer (some ⟨h, 0, none⟩), .int .i64 (k : Nat)] w3 (Turned h (L.eraseIdx k) h' mi (.agg (ecells z).toArray) w3)) := Lib.hid fun w3 h3 => take_any h3 hz
  have HP : Hid (∀ w3, TbIs w3 h (L.eraseIdx k) h' mi → Calls Try.prog 11 #[.pointer (some ⟨h, 0, none⟩), .agg (ecells z).toArray] w3 (Turned h (L.eraseIdx k ++ [z]) h' mi (.tuple #[]) w3)) := Lib.hid fun w3 h3 => put_any h3 (by rw [List.length_eraseIdx, if_pos hlt]; omega) z
  have Hlt := Lib.hid H.lt
  obtain ⟨L', hL'⟩ : ∃ L', L.eraseIdx k ++ [z] = L' := ⟨_, rfl⟩
  rw [hL'] at HP ⊢
  obtain ⟨L2, hL2⟩ : ∃ L2, L.eraseIdx k = L2 := ⟨_, rfl⟩
  rw [hL2] at HP HT
  have k0 : (0 : Int) ≤ k := by omega
  have k1 : ¬ (k : Int) < 0 := by omega
  have k2 : (k : Int) < 16 := by omega
  obtain ⟨ze, zp, zf, zw⟩ := z
  simp only [ecells] at *
  clear H hz hk hF hlow hlt hL' hL2
  have fin : ∀ w2, Below w.heap.size w w2 → TbIs (w2.setCell ⟨h, 65, none⟩ (.int .i64 h')) h L h' mi := fun w2 hb2 => (HE.out w2 hb2).2.2.2.1
  have Fin := Lib.hid fin
  clear fin
  have way : ∀ w2, Below w.heap.size w w2 → ∀ w3, TbIs w3 h L2 h' mi → Only (· = h) (w2.setCell ⟨h, 65, none⟩ (.int .i64 h')) w3 → TbIs (w3.alloc (.cells #[.int .i64 ze, .int .i64 zp, .int .i64 zf, .bool zw] 28 (0, 0))) h L2 h' mi ∧
      ∀ w5, TbIs w5 h L' h' mi → Only (· = h) (w3.alloc (.cells #[.int .i64 ze, .int .i64 zp, .int .i64 zf, .bool zw] 28 (0, 0))) w5 → w5.cell? ⟨w3.heap.size, 2, none⟩ = some (.int .i64 zf) ∧ Turned h L' h' mi (.tuple #[.int .i64 zf, .int .i64 0]) w (.returned (.tuple #[.int .i64 zf, .int .i64 0])) w5 := fun w2 hb2 w3 h3 o3 => by
    have hb4 : Below w3.heap.size w3 (w3.alloc (.cells #[.int .i64 ze, .int .i64 zp, .int .i64 zf, .bool zw] 28 (0, 0))) := (Below.refl _ _).alloc (Nat.le_refl _) _
    have hl3 := h3.lt
    refine ⟨h3.below hb4, fun w5 h5 o5 => ⟨?_, rfl, h5, ?_⟩⟩
    · have h6 := heap_alloc_new w3 (.cells #[.int .i64 ze, .int .i64 zp, .int .i64 zf, .bool zw] 28 (0, 0))
      have h7 := (o5.block w3.heap.size (lt_of_blk h6) (by omega)).trans h6
      exact blk_cell h7 rfl
    · have o4 := ((HE.out w2 hb2).2.2.2.2.trans o3 (fun _ h => Or.inl h)).trans (Only.of_below (S := fun _ => False) hb4) (fun _ h => h.elim)
      exact o4.trans o5 (fun _ h => Or.inl h)
  have Way := Lib.hid way
  clear way
  cases wt with
  | false =>
    clear hr
    go_enter Try.func8, Try.ntmps8
    go_wp2_with fail
    refine HF.out.mono ?_
    rintro e' w2 ⟨rfl, hb2⟩
    obtain ⟨q0, q1, q2, _⟩ := HE.out w2 hb2
    have HB2 := Lib.hid hb2
    clear hb2
    go_wp2_with fail
    refine (HT.out _ (Fin.out w2 HB2.out)).mono ?_
    rintro e' w3 ⟨rfl, t1, t2⟩
    obtain ⟨u1, u2⟩ := Way.out w2 HB2.out w3 t1 t2
    have U1 := Lib.hid u1
    have U2 := Lib.hid u2
    clear t1 t2 u1 u2 q0 q1 q2
    go_wp2_with fail
    refine (HP.out _ U1.out).mono ?_
    rintro e' w5 ⟨rfl, t1, t2⟩
    obtain ⟨v1, v2⟩ := U2.out w5 t1 t2
    have V2 := Lib.hid v2
    clear v2 t1 t2
    go_wp2
    go_ret2
    exact V2.out
  | true =>
    have hzw : zw = true := by cases zw <;> simp_all
    subst hzw
    clear hr
    go_enter Try.func8, Try.ntmps8
    go_wp2_with fail
    refine HF.out.mono ?_
    rintro e' w2 ⟨rfl, hb2⟩
    obtain ⟨q0, q1, q2, _⟩ := HE.out w2 hb2
    have HB2 := Lib.hid hb2
    clear hb2
    go_wp2_with fail
    refine (HT.out _ (Fin.out w2 HB2.out)).mono ?_
    rintro e' w3 ⟨rfl, t1, t2⟩
    obtain ⟨u1, u2⟩ := Way.out w2 HB2.out w3 t1 t2
    have U1 := Lib.hid u1
    have U2 := Lib.hid u2
    clear t1 t2 u1 u2 q0 q1 q2
    go_wp2_with fail
    refine (HP.out _ U1.out).mono ?_
    rintro e' w5 ⟨rfl, t1, t2⟩
    obtain ⟨v1, v2⟩ := U2.out w5 t1 t2
    have V2 := Lib.hid v2
    clear v2 t1 t2
    go_wp2
    go_ret2
    exact V2.out
/-- Look, of whatever. -/
theorem look_any (H : TbIs w h L hi mi) (e p : Int) (wt : Bool) : Calls Try.prog 8 #[.pointer (some ⟨h, 0, none⟩), .int .i64 e, .int .i64 p, .bool wt] w (Turned h (lookL L e p wt) (lookH L e p wt hi) (lookM L e p wt mi) (.tuple #[.int .i64 (lookN L e p wt), .int .i64 (lookE L e p wt)]) w) := by
  unfold lookL lookH lookM lookN
  by_cases hf : fs L e p < L.length
  · obtain ⟨z, hz, _⟩ := fs_at L e p hf
    cases hr : (wt && !z.wr) with
    | true =>
      have hE : lookE L e p wt = 23 := by rw [lookE, if_pos hf, enAt_in hz, if_pos hr]
      rw [hE]
      simp only [Bool.and_eq_true, Bool.not_eq_true'] at hr
      obtain ⟨rfl, hr⟩ := hr
      exact look_cap H e p hz rfl hr
    | false =>
      have hE : lookE L e p wt = 0 := by rw [lookE, if_pos hf, enAt_in hz, if_neg (by rw [hr]; decide)]
      rw [hE, enAt_in hz]
      exact look_hit H e p hz rfl hr
  · have hE : lookE L e p wt = 29 := by rw [lookE, if_neg hf]
    rw [hE]
    exact look_miss H e p wt hf
end
end Go.Proofs.Ytbidioonojnagaa
