/-
  The forest and the document's, side by side; the program's calls that take, said with an error.
-/
import Derived.Test.YthblldojbgeknaaCRefU
namespace Go.Proofs.Ythblldojbgeknaa
open Go.ChangeShapes Go.WideShapes Go.ChangeAt Go.RowKit

/-! The program's Revoke, Drop, Purge. -/
def revE (F : Fo) (e s : Int) : Int := match fd F.l e s with
  | none => 23
  | some x => if mayB x.r 8 = true then 0 else 23
def revF (F : Fo) (e s : Int) : Fo := match fd F.l e s with
  | none => F
  | some x => if mayB x.r 8 = true then tkF (ofB x) F else F
def revW (F : Fo) (e s : Int) : List Nd := match fd F.l e s with
  | none => []
  | some x => if mayB x.r 8 = true then tkW (ofB x) F else []
def dropE (F : Fo) (e s : Int) : Int := match fd F.l e s with
  | none => 23
  | some _ => 0
def dropF (F : Fo) (e s : Int) : Fo := match fd F.l e s with
  | none => F
  | some x => tkF (isB x) F
def dropW (F : Fo) (e s : Int) : List Nd := match fd F.l e s with
  | none => []
  | some x => tkW (isB x) F
theorem revF_p (F : Fo) (e s : Int) : (revF F e s).p = F.p := by
  unfold revF
  cases fd F.l e s with
  | none => rfl
  | some x =>
    dsimp only
    split <;> rfl
theorem dropF_p (F : Fo) (e s : Int) : (dropF F e s).p = F.p := by
  unfold dropF
  cases fd F.l e s <;> rfl
theorem rootF_p (F : Fo) (e s k o r : Int) : (rootF F e s k o r).p ≤ F.p + 1 := by
  unfold rootF
  split
  · exact putF_p _ _ _ _ _ _ _
  · exact Nat.le_succ _
/-- Slots are told, of the call's own. -/
def Slots (Wl : List Nd) (w : World) (A : Option Addr) (n c : Nat) (w' : World) : Prop := n = Wl.length ∧ n ≤ 1000000 ∧ n ≤ c ∧ Sls (fun k => w.heap.size ≤ k ∧ k < w'.heap.size) w' A (Wl.map Nd.s)
def GoneS (b : Nat) (F' : Fo) (Wl : List Nd) (E : Int) (w : World) (y : Ending) (w' : World) : Prop := ∃ A n c, y = .returned (.tuple #[.slice A n c, .int .i64 E]) ∧ Slots Wl w A n c w' ∧ FoIs w' b F' ∧ Only (· = b) w w'
section
variable {w : World} {b : Nat} {F : Fo}
theorem slots_none (w w' : World) : Slots [] w none 0 0 w' := ⟨rfl, by omega, Nat.le_refl _, fun h => by simp at h⟩
theorem gone_s {q : Nd → Bool} {y : Ending} {w' : World} (h : Gone2 b F q w y w') : GoneS b (tkF q F) (tkW q F) 0 w y w' := by
  obtain ⟨A, n, c, rfl, h1, h2, h3, h4, h5⟩ := h
  exact ⟨A, n, c, rfl, ⟨h1, h2, own_cap h3, Sls.own h3⟩, h4, h5⟩
theorem none_s (H : FoIs w b F) {y : Ending} {w' : World} (h : y = .returned (.tuple #[.slice none 0 0, .int .i64 23]) ∧ Below w.heap.size w w') : GoneS b F [] 23 w y w' := ⟨none, 0, 0, h.1, slots_none _ _, H.below h.2, Only.of_below h.2⟩
theorem revoke_u (H : FoIs w b F) (e s : Int) : Calls Try.prog 19 #[.pointer (some ⟨b, 0, none⟩), .int .i64 e, .int .i64 s] w (GoneS b (revF F e s) (revW F e s) (revE F e s) w) := by
  unfold revF revW revE
  cases hf : fd F.l e s with
  | none => exact (revoke_none H hf).mono fun y w' h => none_s H h
  | some x =>
    dsimp only
    cases hm : mayB x.r 8 with
    | false => exact (revoke_not H hf hm).mono fun y w' h => none_s H h
    | true => exact (revoke_hit H hf hm).mono fun y w' h => gone_s h
theorem drop_u (H : FoIs w b F) (e s : Int) : Calls Try.prog 24 #[.pointer (some ⟨b, 0, none⟩), .int .i64 e, .int .i64 s] w (GoneS b (dropF F e s) (dropW F e s) (dropE F e s) w) := by
  unfold dropF dropW dropE
  cases hf : fd F.l e s with
  | none => exact (drop_none H hf).mono fun y w' h => none_s H h
  | some x =>
    dsimp only
    exact (drop_hit H hf).mono fun y w' h => gone_s h
end
section
variable {S : Nat → Prop} {w : World} {A : Option Addr} {n c : Nat} {D : Dc}
theorem rrevoke_v (H : DInv D) (K : DocIs S w A n c D.l) (hS : ∀ k, S k → k < w.heap.size) (hp : D.p ≤ 900) (e f : Int) :
    Calls Try.prog 23 #[.agg #[.slice A n c, .int .i64 (D.p : Nat)], .int .i64 e, .int .i64 f] w (GoneP S (revF D.fo e f) (revW D.fo e f) (revE D.fo e f) w) := by
  refine (rrevoke_u H K hS hp e f).mono fun y w' h => ?_
  unfold revF revW revE
  cases hf : fd D.fo.l e f with
  | none =>
    rw [hf] at h
    exact h
  | some x =>
    rw [hf] at h
    dsimp only at h ⊢
    cases hm : mayB x.r 8 with
    | false =>
      rw [hm] at h
      exact h
    | true =>
      rw [hm] at h
      exact h
theorem rdrop_v (H : DInv D) (K : DocIs S w A n c D.l) (hS : ∀ k, S k → k < w.heap.size) (hp : D.p ≤ 900) (e f : Int) :
    Calls Try.prog 25 #[.agg #[.slice A n c, .int .i64 (D.p : Nat)], .int .i64 e, .int .i64 f] w (GoneP S (dropF D.fo e f) (dropW D.fo e f) (dropE D.fo e f) w) := by
  refine (rdrop_u H K hS hp e f).mono fun y w' h => ?_
  unfold dropF dropW dropE
  cases hf : fd D.fo.l e f with
  | none =>
    rw [hf] at h
    exact h
  | some x =>
    rw [hf] at h
    exact h
end

/-! Side by side. -/
def Sz (B b rb : Nat) (w : World) (k : Nat) : Prop := B ≤ k ∧ k < w.heap.size ∧ k ≠ b ∧ k ≠ rb
def dBox (A : Option Addr) (n c p : Nat) : Obj := .cells #[.slice A n c, .int .i64 (p : Nat)] 36 (0, 0)
structure St (B b rb : Nat) (D : Dc) (A : Option Addr) (n c : Nat) (w : World) : Prop where
  fo : FoIs w b D.fo
  box : w.heap[rb]? = some (dBox A n c D.p)
  doc : DocIs (Sz B b rb w) w A n c D.l
  inv : DInv D
  ne : b ≠ rb
  lb : B ≤ b
  lr : B ≤ rb
section
variable {B b rb : Nat} {D : Dc} {A : Option Addr} {n c : Nat} {w W w2 w3 w' : World}
theorem St.ltb (H : St B b rb D A n c w) : b < w.heap.size := H.fo.lt
theorem St.ltr (H : St B b rb D A n c w) : rb < w.heap.size := lt_of_blk H.box
theorem sz_lt : ∀ k, Sz B b rb w k → k < w.heap.size := fun _ h => h.2.1
theorem St.kept (H : St B b rb D A n c w) (h : ∀ k, B ≤ k → k < w.heap.size → w'.heap[k]? = w.heap[k]?) (hs : w.heap.size ≤ w'.heap.size) : St B b rb D A n c w' :=
  ⟨H.fo.kept (h b H.lb H.ltb), (h rb H.lr H.ltr).trans H.box, H.doc.kept (fun _ hk => h _ hk.1 hk.2.1) (fun _ hk => ⟨hk.1, Nat.lt_of_lt_of_le hk.2.1 hs, hk.2.2⟩), H.inv, H.ne, H.lb, H.lr⟩
theorem St.below (H : St B b rb D A n c w) (h : Below w.heap.size w w') : St B b rb D A n c w' := H.kept (fun k _ hk => h.block k hk) h.size
/-- The forest's block may have changed: the document's side. -/
theorem St.doc_only (H : St B b rb D A n c W) (hO : Only (· = b) W w2) : w2.heap[rb]? = some (dBox A n c D.p) ∧ DocIs (Sz B b rb w2) w2 A n c D.l :=
  ⟨(hO.block rb H.ltr (fun e => H.ne e.symm)).trans H.box, H.doc.kept (fun k hk => hO.block k hk.2.1 hk.2.2.1) (fun _ hk => ⟨hk.1, Nat.lt_of_lt_of_le hk.2.1 hO.size, hk.2.2⟩)⟩
theorem dbox_cells {g : Nat} {p : Nat} (h : w.heap[g]? = some (dBox A n c p)) : (w.cell? ⟨g, 0, none⟩ = some (.slice A n c) ∧ w.frozen? ⟨g, 0, none⟩ = false) ∧ w.cell? ⟨g, 1, none⟩ = some (.int .i64 (p : Nat)) ∧ w.frozen? ⟨g, 1, none⟩ = false := ⟨bx_cell h rfl, bx_cell h rfl⟩
/-- What the document's call handed back is stored. -/
theorem st_core {F' : Fo} {D' : Dc} {A' : Option Addr} {n' c' : Nat} (H : St B b rb D A n c W) (hO : Only (· = b) W w2) (F2 : FoIs w2 b F') (hb : Below w2.heap.size w2 w') (hi : DInv D') (hf : D'.fo = F') (K : DocIs (Fresh (Sz B b rb w2) w' w3) w3 A' n' c' D'.l) (h3 : Below w'.heap.size w' w3) :
    Only (· = rb) w2 w3 ∧ w3.heap[rb]? = some (dBox A n c D.p) ∧ Only (· = rb) w2 ((w3.setCell ⟨rb, 0, none⟩ (.slice A' n' c')).setCell ⟨rb, 1, none⟩ (.int .i64 (D'.p : Nat))) ∧ St B b rb D' A' n' c' ((w3.setCell ⟨rb, 0, none⟩ (.slice A' n' c')).setCell ⟨rb, 1, none⟩ (.int .i64 (D'.p : Nat))) := by
  have h23 : Below w2.heap.size w2 w3 := below_call (Nat.le_refl _) hb h3
  have hr : rb < w2.heap.size := Nat.lt_of_lt_of_le H.ltr hO.size
  have hx3 : w3.heap[rb]? = some (dBox A n c D.p) := (h23.block rb hr).trans (H.doc_only hO).1
  have hO3 : Only (· = rb) w2 w3 := Only.of_below h23
  have hset : ∀ k, k ≠ rb → ((w3.setCell ⟨rb, 0, none⟩ (.slice A' n' c')).setCell ⟨rb, 1, none⟩ (.int .i64 (D'.p : Nat))).heap[k]? = w3.heap[k]? := fun k hk => (Below.heap_setCell _ _ _ _ hk).trans (Below.heap_setCell _ _ _ _ hk)
  have hsz : ((w3.setCell ⟨rb, 0, none⟩ (.slice A' n' c')).setCell ⟨rb, 1, none⟩ (.int .i64 (D'.p : Nat))).heap.size = w3.heap.size := by simp [World.setCell]
  have h2s := hb.size
  have h3s := h3.size
  have hbl := F2.lt
  refine ⟨hO3, hx3, (hO3.put (p := ⟨rb, 0, none⟩) (Or.inl rfl) _).put (p := ⟨rb, 1, none⟩) (Or.inl rfl) _, ?_, heap_setCell_same _ rb 1 _ _ _ (heap_setCell_same w3 rb 0 _ _ _ hx3), ?_, hi, H.ne, H.lb, H.lr⟩
  · rw [hf]
    exact F2.kept ((hset b H.ne).trans (h23.block b hbl))
  · refine K.kept (fun k hk => hset k ?_) (fun k hk => ?_)
    · rcases hk with hk | hk
      · exact hk.2.2.2
      · omega
    · have hlb := H.lb
      have hlr := H.lr
      unfold Sz
      rw [hsz]
      rcases hk with hk | hk
      · exact ⟨hk.1, by have := hk.2.1; omega, hk.2.2⟩
      · exact ⟨by omega, hk.2, by omega, by omega⟩
/-- Behind a call that hands a list back with an error. -/
theorem st_act {F' : Fo} {E : Int} {y : Ending} (H : St B b rb D A n c W) (hO : Only (· = b) W w2) (F2 : FoIs w2 b F') (hb : Below w2.heap.size w2 w') (h : ActP (Sz B b rb w2) F' E w' y w3) : ∃ A' n' c' p', y = .returned (.tuple #[.agg #[.slice A' n' c', .int .i64 ((p' : Nat) : Int)], .int .i64 E]) ∧ Hid (Only (· = rb) w2 w3) ∧ ((w3.cell? ⟨rb, 0, none⟩ = some (.slice A n c) ∧ w3.frozen? ⟨rb, 0, none⟩ = false) ∧ w3.cell? ⟨rb, 1, none⟩ = some (.int .i64 (D.p : Nat)) ∧ w3.frozen? ⟨rb, 1, none⟩ = false) ∧ ∃ w4, (w3.setCell ⟨rb, 0, none⟩ (.slice A' n' c')).setCell ⟨rb, 1, none⟩ (.int .i64 ((p' : Nat) : Int)) = w4 ∧ Hid (Only (· = rb) w2 w4) ∧ Hid (∃ D', St B b rb D' A' n' c' w4 ∧ D'.fo = F') := by
  obtain ⟨D', A', n', c', hi, hf, rfl, K, h3⟩ := h
  obtain ⟨h1, h2, h4, h5⟩ := st_core H hO F2 hb hi hf K h3
  exact ⟨A', n', c', D'.p, rfl, Lib.hid h1, dbox_cells h2, _, rfl, Lib.hid h4, Lib.hid ⟨D', h5, hf⟩⟩
/-- What went lies there. -/
def Rows (Wl : List Nd) (G : Option Addr) (m cg : Nat) (w : World) : Prop := ∃ L T, L.map Rn.nd = Wl ∧ DocIs T w G m cg L ∧ ∀ k, T k → k < w.heap.size
theorem rows_core {D' : Dc} {L : List Rn} {A' G : Option Addr} {n' c' m cg : Nat} (H : St B b rb D A n c W) (hO : Only (· = b) W w2) (hb : Below w2.heap.size w2 w') (K : DocIs (Fresh (Sz B b rb w2) w' w3) w3 G m cg L) (h3 : Below w'.heap.size w' w3) : Rows (L.map Rn.nd) G m cg ((w3.setCell ⟨rb, 0, none⟩ (.slice A' n' c')).setCell ⟨rb, 1, none⟩ (.int .i64 (D'.p : Nat))) := by
  have hr : rb < w2.heap.size := Nat.lt_of_lt_of_le H.ltr hO.size
  have hset : ∀ k, k ≠ rb → ((w3.setCell ⟨rb, 0, none⟩ (.slice A' n' c')).setCell ⟨rb, 1, none⟩ (.int .i64 (D'.p : Nat))).heap[k]? = w3.heap[k]? := fun k hk => (Below.heap_setCell _ _ _ _ hk).trans (Below.heap_setCell _ _ _ _ hk)
  have hsz : ((w3.setCell ⟨rb, 0, none⟩ (.slice A' n' c')).setCell ⟨rb, 1, none⟩ (.int .i64 (D'.p : Nat))).heap.size = w3.heap.size := by simp [World.setCell]
  have h2s := hb.size
  have h3s := h3.size
  refine ⟨L, _, rfl, K.kept (T := Fresh (Sz B b rb w2) w' w3) (fun k hk => hset k ?_) (fun _ h => h), fun k hk => ?_⟩
  · rcases hk with hk | hk
    · exact hk.2.2.2
    · omega
  · rw [hsz]
    rcases hk with hk | hk
    · have := hk.2.1
      omega
    · exact hk.2
theorem st_gone {F' : Fo} {Wl : List Nd} {E : Int} {y : Ending} (H : St B b rb D A n c W) (hO : Only (· = b) W w2) (F2 : FoIs w2 b F') (hb : Below w2.heap.size w2 w') (h : GoneP (Sz B b rb w2) F' Wl E w' y w3) : ∃ A' n' c' p' G m cg, y = .returned (.tuple #[.agg #[.slice A' n' c', .int .i64 ((p' : Nat) : Int)], .slice G m cg, .int .i64 E]) ∧ Hid (Only (· = rb) w2 w3) ∧ ((w3.cell? ⟨rb, 0, none⟩ = some (.slice A n c) ∧ w3.frozen? ⟨rb, 0, none⟩ = false) ∧ w3.cell? ⟨rb, 1, none⟩ = some (.int .i64 (D.p : Nat)) ∧ w3.frozen? ⟨rb, 1, none⟩ = false) ∧ ∃ w4, (w3.setCell ⟨rb, 0, none⟩ (.slice A' n' c')).setCell ⟨rb, 1, none⟩ (.int .i64 ((p' : Nat) : Int)) = w4 ∧ Hid (Only (· = rb) w2 w4) ∧ Hid ((∃ D', St B b rb D' A' n' c' w4 ∧ D'.fo = F') ∧ Rows Wl G m cg w4) := by
  obtain ⟨D', L, A', n', c', G, m, cg, hi, hf, rfl, rfl, K, K2, h3⟩ := h
  obtain ⟨h1, h2, h4, h5⟩ := st_core H hO F2 hb hi hf K h3
  exact ⟨A', n', c', D'.p, G, m, cg, rfl, Lib.hid h1, dbox_cells h2, _, rfl, Lib.hid h4, Lib.hid ⟨⟨D', h5, hf⟩, rows_core H hO hb K2 h3⟩⟩
theorem st_goneq {F' : Fo} {Wl : List Nd} {y : Ending} (H : St B b rb D A n c W) (hO : Only (· = b) W w2) (F2 : FoIs w2 b F') (hb : Below w2.heap.size w2 w') (h : GoneQ (Sz B b rb w2) F' Wl w' y w3) : ∃ A' n' c' p' G m cg, y = .returned (.tuple #[.agg #[.slice A' n' c', .int .i64 ((p' : Nat) : Int)], .slice G m cg]) ∧ Hid (Only (· = rb) w2 w3) ∧ ((w3.cell? ⟨rb, 0, none⟩ = some (.slice A n c) ∧ w3.frozen? ⟨rb, 0, none⟩ = false) ∧ w3.cell? ⟨rb, 1, none⟩ = some (.int .i64 (D.p : Nat)) ∧ w3.frozen? ⟨rb, 1, none⟩ = false) ∧ ∃ w4, (w3.setCell ⟨rb, 0, none⟩ (.slice A' n' c')).setCell ⟨rb, 1, none⟩ (.int .i64 ((p' : Nat) : Int)) = w4 ∧ Hid (Only (· = rb) w2 w4) ∧ Hid ((∃ D', St B b rb D' A' n' c' w4 ∧ D'.fo = F') ∧ Rows Wl G m cg w4) := by
  obtain ⟨D', L, A', n', c', G, m, cg, hi, hf, rfl, rfl, K, K2, h3⟩ := h
  obtain ⟨h1, h2, h4, h5⟩ := st_core H hO F2 hb hi hf K h3
  exact ⟨A', n', c', D'.p, G, m, cg, rfl, Lib.hid h1, dbox_cells h2, _, rfl, Lib.hid h4, Lib.hid ⟨⟨D', h5, hf⟩, rows_core H hO hb K2 h3⟩⟩
/-- Slots that were told before still are the document's. -/
theorem rows_are {Wl : List Nd} {A0 G : Option Addr} {n0 c0 m cg rb : Nat} {w4 : World} (hs : Slots Wl W A0 n0 c0 w2) (hrb : rb < W.heap.size) (hO : Only (· = rb) w2 w4) (hR : Rows Wl G m cg w4) : Calls Try.prog 29 #[.slice A0 n0 c0, .slice G m cg] w4 fun e w' => e = .returned (.bool true) ∧ Below w4.heap.size w4 w' := by
  obtain ⟨L, T, rfl, K, hT⟩ := hR
  obtain ⟨h1, h2, h3, h4⟩ := hs
  have h5 : rs L = (L.map Rn.nd).map Nd.s := by simp [rs]
  refine are_any (S := fun k => W.heap.size ≤ k ∧ k < w2.heap.size) (L := L) ?_ (fun k hk => Nat.lt_of_lt_of_le hk.2 hO.size) (by rw [h1, List.length_map]) h2 h3 K hT
  rw [h5]
  exact h4.kept fun k hk => hO.block k hk.2 (fun e => by have := hk.1; omega)
theorem nil_are (w : World) : Calls Try.prog 29 #[.slice none 0 0, .slice none 0 0] w fun e w' => e = .returned (.bool true) ∧ Below w.heap.size w w' :=
  are_any (S := fun _ => False) (T := fun _ => False) (L := []) (fun h => by simp [rs] at h) (fun _ h => h.elim) rfl (by omega) (Nat.le_refl _) (DocIs.empty _ _) (fun _ h => h.elim)
end
end Go.Proofs.Ythblldojbgeknaa
