/-
  A buffer's block, as it lies in memory; what stores leave of it.
-/
import Derived.Test.YtbidioonojnagaaBMath
import Derived.Test.YtbidioonojnagaaWOnly
import Derived.Test.YtbidioonojnagaaLaw
namespace Go.Proofs.Ytbidioonojnagaa
open Go.ChangeShapes Go.WideShapes Go.ChangeAt Go.RowKit

theorem lt_of_blk {w : World} {b : Nat} {o : Obj} (h : w.heap[b]? = some o) : b < w.heap.size := (Array.getElem?_eq_some_iff.1 h).1

/-! Many cells stored at once. -/
theorem setCells_frame (b : Nat) : ∀ (vs : List Value) (o : Nat) (w : World), (w.setCells b o vs).os = w.os ∧ (w.setCells b o vs).tape = w.tape ∧ (w.setCells b o vs).output = w.output ∧ (w.setCells b o vs).heap.size = w.heap.size ∧ ∀ k, k ≠ b → (w.setCells b o vs).heap[k]? = w.heap[k]?
  | [], _, _ => ⟨rfl, rfl, rfl, rfl, fun _ _ => rfl⟩
  | v :: r, o, w => by
    obtain ⟨h1, h2, h3, h4, h5⟩ := setCells_frame b r (o + 1) (w.setCell ⟨b, o, none⟩ v)
    rw [World.setCells]
    refine ⟨h1, h2, h3, h4.trans (by simp [World.setCell]), fun k hk => (h5 k hk).trans (Below.heap_setCell _ _ _ _ hk)⟩
theorem Only.puts {S : Nat → Prop} {w w' : World} (h : Only S w w') {b : Nat} (hb : S b ∨ w.heap.size ≤ b) (o : Nat) (vs : List Value) : Only S w (w'.setCells b o vs) := by
  obtain ⟨h1, h2, h3, h4, h5⟩ := setCells_frame b vs o w'
  exact ⟨h1.trans h.os, h2.trans h.tape, h3.trans h.output, by rw [h4]; exact h.size, fun k hk hs => (h5 k (fun e => by subst e; exact hb.elim hs (fun h6 => by omega))).trans (h.block k hk hs)⟩
/-- A block told as a list: what is stored takes the place of as many cells. -/
theorem setCells_mid (b : Nat) (T : TypeId) : ∀ (vs B A C : List Value) (o : Nat) (w : World), w.heap[b]? = some (.cells (A ++ (B ++ C)).toArray T (0, 0)) → A.length = o → B.length = vs.length → (w.setCells b o vs).heap[b]? = some (.cells (A ++ (vs ++ C)).toArray T (0, 0))
  | [], [], A, C, o, w, h, _, _ => h
  | [], _ :: _, A, C, o, w, _, _, hl => by simp at hl
  | _ :: _, [], A, C, o, w, _, _, hl => by simp at hl
  | v :: r, u :: B, A, C, o, w, h, ho, hl => by
    subst ho
    have h1 : (w.setCell ⟨b, A.length, none⟩ v).heap[b]? = some (.cells ((A ++ [v]) ++ (B ++ C)).toArray T (0, 0)) := by
      rw [heap_setCell_same w b _ _ T v h]
      simp
    have := setCells_mid b T r B (A ++ [v]) C (A.length + 1) _ h1 (by simp) (by simpa using hl)
    rw [World.setCells, this]
    simp

/-! The buffer. -/
def tcells (K : List En) (n : Nat) (hi mi : Int) : List Value := rcells K ++ [.int .i64 n, .int .i64 hi, .int .i64 mi]
def tObj (K : List En) (n : Nat) (hi mi : Int) : Obj := .cells (tcells K n hi mi).toArray 31 (0, 0)
/-- Block h is a buffer with these translations, so many hits and misses. -/
structure TbIs (w : World) (h : Nat) (L : List En) (hi mi : Int) : Prop where
  block : ∃ M, w.heap[h]? = some (tObj (L ++ M) L.length hi mi) ∧ L.length + M.length = 16
section
variable {w w' : World} {h : Nat} {L K : List En} {hi mi : Int} {n : Nat}
theorem tb_cell {j : Nat} {u : Value} (hC : w.heap[h]? = some (tObj K n hi mi)) (hu : (tcells K n hi mi)[j]? = some u) : w.cell? ⟨h, j, none⟩ = some u := by
  simp only [World.cell?, hC, tObj]
  simpa using hu
theorem tb_last (hK : K.length = 16) : (tcells K n hi mi)[64]? = some (.int .i64 n) ∧ (tcells K n hi mi)[65]? = some (.int .i64 hi) ∧ (tcells K n hi mi)[66]? = some (.int .i64 mi) := by
  have hl : (rcells K).length = 64 := by rw [rcells_len, hK]
  unfold tcells
  refine ⟨?_, ?_, ?_⟩ <;> rw [List.getElem?_append_right (by omega), hl] <;> rfl
theorem tb_at {i j : Nat} {x : En} (hx : K[i]? = some x) (hj : j < 4) : (tcells K n hi mi)[i * 4 + j]? = (ecells x)[j]? := by
  have hi := (List.getElem?_eq_some_iff.1 hx).1
  unfold tcells
  rw [List.getElem?_append_left (by rw [rcells_len]; omega), rcells_at K i j x hx hj]
theorem TbIs.lt (H : TbIs w h L hi mi) : h < w.heap.size := by
  obtain ⟨M, hM, _⟩ := H.block
  exact lt_of_blk hM
theorem TbIs.low (H : TbIs w h L hi mi) : L.length ≤ 16 := by
  obtain ⟨M, _, hM⟩ := H.block
  omega
theorem TbIs.kept (H : TbIs w h L hi mi) (hb : w'.heap[h]? = w.heap[h]?) : TbIs w' h L hi mi := by
  obtain ⟨M, hM, h1⟩ := H.block
  exact ⟨⟨M, hb.trans hM, h1⟩⟩
theorem TbIs.below (H : TbIs w h L hi mi) (hb : Below w.heap.size w w') : TbIs w' h L hi mi := H.kept (hb.block h H.lt)
theorem TbIs.all (H : TbIs w h L hi mi) : w.cell? ⟨h, 64, none⟩ = some (.int .i64 (L.length : Nat)) ∧ w.cell? ⟨h, 65, none⟩ = some (.int .i64 hi) ∧ w.cell? ⟨h, 66, none⟩ = some (.int .i64 mi) := by
  obtain ⟨M, hM, h1⟩ := H.block
  have h2 := tb_last (K := L ++ M) (n := L.length) (hi := hi) (mi := mi) (by rw [List.length_append]; exact h1)
  exact ⟨tb_cell hM h2.1, tb_cell hM h2.2.1, tb_cell hM h2.2.2⟩
theorem TbIs.at_ (H : TbIs w h L hi mi) {i : Nat} {x : En} (hx : L[i]? = some x) : w.cell? ⟨h, i * 4, none⟩ = some (.int .i64 x.en) ∧ w.cell? ⟨h, i * 4 + 1, none⟩ = some (.int .i64 x.pg) ∧ w.cell? ⟨h, i * 4 + 2, none⟩ = some (.int .i64 x.fr) ∧ w.cell? ⟨h, i * 4 + 3, none⟩ = some (.bool x.wr) := by
  obtain ⟨M, hM, h1⟩ := H.block
  have hx2 : (L ++ M)[i]? = some x := by
    rw [List.getElem?_append_left (List.getElem?_eq_some_iff.1 hx).1]
    exact hx
  exact ⟨tb_cell hM (tb_at (j := 0) hx2 (by omega)), tb_cell hM (tb_at (j := 1) hx2 (by omega)), tb_cell hM (tb_at (j := 2) hx2 (by omega)), tb_cell hM (tb_at (j := 3) hx2 (by omega))⟩
theorem TbIs.free (H : TbIs w h L hi mi) (j : Nat) : w.frozen? ⟨h, j, none⟩ = false := by
  obtain ⟨M, hM, h1⟩ := H.block
  simp [World.frozen?, hM, tObj]
theorem tb_put64 (hC : w.heap[h]? = some (tObj K n hi mi)) (hK : K.length = 16) (m : Nat) : (w.setCell ⟨h, 64, none⟩ (.int .i64 m)).heap[h]? = some (tObj K m hi mi) := by
  have hl : (rcells K).length = 64 := by rw [rcells_len, hK]
  rw [heap_setCell_same w h _ _ _ _ hC]
  simp [tObj, tcells, hl]
theorem tb_put65 (hC : w.heap[h]? = some (tObj K n hi mi)) (hK : K.length = 16) (m : Int) : (w.setCell ⟨h, 65, none⟩ (.int .i64 m)).heap[h]? = some (tObj K n m mi) := by
  have hl : (rcells K).length = 64 := by rw [rcells_len, hK]
  rw [heap_setCell_same w h _ _ _ _ hC]
  simp [tObj, tcells, hl]
theorem tb_put66 (hC : w.heap[h]? = some (tObj K n hi mi)) (hK : K.length = 16) (m : Int) : (w.setCell ⟨h, 66, none⟩ (.int .i64 m)).heap[h]? = some (tObj K n hi m) := by
  have hl : (rcells K).length = 64 := by rw [rcells_len, hK]
  rw [heap_setCell_same w h _ _ _ _ hC]
  simp [tObj, tcells, hl]
theorem TbIs.putHits (H : TbIs w h L hi mi) (m : Int) : TbIs (w.setCell ⟨h, 65, none⟩ (.int .i64 m)) h L m mi := by
  obtain ⟨M, hM, h1⟩ := H.block
  exact ⟨⟨M, tb_put65 hM (by rw [List.length_append]; exact h1) m, h1⟩⟩
theorem TbIs.putMisses (H : TbIs w h L hi mi) (m : Int) : TbIs (w.setCell ⟨h, 66, none⟩ (.int .i64 m)) h L hi m := by
  obtain ⟨M, hM, h1⟩ := H.block
  exact ⟨⟨M, tb_put66 hM (by rw [List.length_append]; exact h1) m, h1⟩⟩
theorem TbIs.away (H : TbIs w h L hi mi) {b j : Nat} (hb : h ≠ b) (v : Value) : TbIs (w.setCell ⟨b, j, none⟩ v) h L hi mi := H.kept (Below.heap_setCell _ _ _ _ hb)
/-- One more, behind all others. -/
theorem TbIs.push (H : TbIs w h L hi mi) (hl : L.length < 16) (x : En) : w.there h (L.length * 4) 4 ∧ TbIs ((w.setCells h (L.length * 4) (ecells x)).setCell ⟨h, 64, none⟩ (.int .i64 ((L.length + 1 : Nat) : Nat))) h (L ++ [x]) hi mi ∧ (w.setCells h (L.length * 4) (ecells x)).cell? ⟨h, 64, none⟩ = some (.int .i64 (L.length : Nat)) := by
  have hf := H.free
  obtain ⟨M, hM, h1⟩ := H.block
  obtain ⟨y, M', rfl⟩ : ∃ y M', M = y :: M' := by
    cases M with
    | nil => simp at h1; omega
    | cons y M' => exact ⟨y, M', rfl⟩
  simp only [List.length_cons] at h1
  have hy : (L ++ y :: M')[L.length]? = some y := by simp
  have h2 : (w.setCells h (L.length * 4) (ecells x)).heap[h]? = some (tObj ((L ++ [x]) ++ M') L.length hi mi) := by
    have := setCells_mid h 31 (ecells x) (ecells y) (rcells L) (rcells M' ++ [.int .i64 (L.length : Nat), .int .i64 hi, .int .i64 mi]) (L.length * 4) w (by
      rw [hM, tObj, tcells, rcells_two, rcells_cons]
      simp) (rcells_len L) rfl
    rw [this, tObj, tcells, rcells_two, rcells_two, rcells_sole]
    simp
  have h3 : (L ++ [x] ++ M').length = 16 := by
    simp only [List.length_append, List.length_cons, List.length_nil]
    omega
  refine ⟨fun j hj => ⟨?_, hf _⟩, ⟨M', ?_, by simp only [List.length_append, List.length_cons, List.length_nil]; omega⟩, tb_cell h2 (tb_last h3).1⟩
  · have h4 : (ecells y)[j]? = some ((ecells y)[j]'(by rw [ecells_len]; exact hj)) := List.getElem?_eq_getElem _
    rw [tb_cell hM ((tb_at hy hj).trans h4)]
    rfl
  · have h5 : (L ++ [x]).length = L.length + 1 := by simp
    rw [h5]
    exact tb_put64 h2 h3 _
/-- Told in two parts: one less, the rest moved up, behind them noughts. -/
theorem TbIs.split (H : TbIs w h L hi mi) : ∃ Z, w.heap[h]? = some (.cells (rcells L ++ Z).toArray 31 (0, 0)) ∧ ∀ (w' : World) (k : Nat), k < L.length → w'.heap[h]? = some (.cells (rcells (L.eraseIdx k ++ [noEn]) ++ Z).toArray 31 (0, 0)) →
    w'.cell? ⟨h, 64, none⟩ = some (.int .i64 (L.length : Nat)) ∧ w'.frozen? ⟨h, 64, none⟩ = false ∧ TbIs (w'.setCell ⟨h, 64, none⟩ (.int .i64 ((L.length - 1 : Nat) : Nat))) h (L.eraseIdx k) hi mi := by
  obtain ⟨M, hM, h1⟩ := H.block
  refine ⟨rcells M ++ [.int .i64 (L.length : Nat), .int .i64 hi, .int .i64 mi], by rw [hM, tObj, tcells, rcells_two]; simp, fun w' k hk hw => ?_⟩
  have h2 : w'.heap[h]? = some (tObj (L.eraseIdx k ++ [noEn] ++ M) L.length hi mi) := by
    rw [hw, tObj, tcells, rcells_two _ M]
    simp
  have hl : (L.eraseIdx k).length = L.length - 1 := by rw [List.length_eraseIdx, if_pos hk]
  have h3 : (L.eraseIdx k ++ [noEn] ++ M).length = 16 := by
    simp only [List.length_append, List.length_cons, List.length_nil, hl]
    omega
  refine ⟨tb_cell h2 (tb_last h3).1, by simp [World.frozen?, h2, tObj], ⟨noEn :: M, ?_, by rw [hl, List.length_cons]; omega⟩⟩
  rw [hl]
  have := tb_put64 h2 h3 (L.length - 1)
  rw [this]
  simp
end
end Go.Proofs.Ytbidioonojnagaa
