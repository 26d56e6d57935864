/-
  A book, told by the document's list: what each call answers and makes; other blocks stay as they are.
-/
import Derived.Test.YtcofehmgnpmecaaAAdv
import Derived.Test.YtcofehmgnpmecaaARefD
namespace Go.Proofs.Ytcofehmgnpmecaa
open Go.ChangeShapes Go.WideShapes Go.ChangeAt Go.RowKit Ap

/-- Block b is a book of the reservations M at tick t; the blocks of P are none of it. -/
structure Bs (W0 : World) (b K : Nat) (P : Nat → Prop) (M : List En) (t : Int) (w : World) : Prop where
  ex : ∃ mv v f xs u, BkIs w W0.heap.size b mv v K f xs u t ∧ Sides M t f xs u ∧ ∀ k, P k → k < w.heap.size ∧ ¬ Mine b mv v k
  few : M.length ≤ K
  below : Below W0.heap.size W0 w
section
variable {W0 w w' : World} {b K : Nat} {P P' : Nat → Prop} {M : List En} {t : Int}
theorem Bs.size (H : Bs W0 b K P M t w) : W0.heap.size ≤ w.heap.size := H.below.size
theorem Bs.lt (H : Bs W0 b K P M t w) {k : Nat} (hk : P k) : k < w.heap.size := by
  obtain ⟨mv, v, f, xs, u, -, -, h⟩ := H.ex
  exact (h k hk).1
/-- New memory; maybe more blocks that are none of the book's. -/
theorem Bs.more (H : Bs W0 b K P M t w) (hb : Below w.heap.size w w') (hP : ∀ k, P' k → P k ∨ (w.heap.size ≤ k ∧ k < w'.heap.size)) : Bs W0 b K P' M t w' := by
  obtain ⟨mv, v, f, xs, u, h1, h2, h3⟩ := H.ex
  refine ⟨⟨mv, v, f, xs, u, h1.below hb, h2, fun k hk => ?_⟩, H.few, H.below.trans (hb.mono H.size)⟩
  rcases hP k hk with h | h
  · exact ⟨Nat.lt_of_lt_of_le (h3 k h).1 hb.size, (h3 k h).2⟩
  · exact ⟨h.2, fun hm => by have := (h1.mine_lt hm).2; omega⟩
theorem Bs.later (H : Bs W0 b K P M t w) (hb : Below w.heap.size w w') : Bs W0 b K P M t w' := H.more hb fun _ h => Or.inl h
/-- A cell of another block is stored. -/
theorem Bs.put (H : Bs W0 b K P M t w) {k : Nat} (hk : P k) (hl : W0.heap.size ≤ k) (j : Nat) (v : Value) : Bs W0 b K P M t (w.setCell ⟨k, j, none⟩ v) := by
  obtain ⟨mv, v', f, xs, u, h1, h2, h3⟩ := H.ex
  have hs : (w.setCell ⟨k, j, none⟩ v).heap.size = w.heap.size := by simp [World.setCell]
  refine ⟨⟨mv, v', f, xs, u, h1.kept fun i hi => Below.heap_setCell _ _ _ _ (fun e => (h3 k hk).2 (by rw [← show i = k from e]; exact hi)), h2, fun i hi => ?_⟩, H.few, H.below.setCell hl _⟩
  rw [hs]
  exact h3 i hi
/-- What a call of the program leaves. -/
def Turn (W0 : World) (b K : Nat) (P : Nat → Prop) (M : List En) (t : Int) (w w' : World) : Prop := Bs W0 b K P M t w' ∧ (∀ k, P k → w'.heap[k]? = w.heap[k]?) ∧ w.heap.size ≤ w'.heap.size
theorem turn_of {mv v : Value} {f' : Int → Option Int} {G : List Gv} {u' t' : Int} {K' : Nat} {M' : List En} (hb : Below W0.heap.size W0 w) (hB : ∀ k, Mine b mv v k → W0.heap.size ≤ k) (hP : ∀ k, P k → k < w.heap.size ∧ ¬ Mine b mv v k) (h : Bkd W0.heap.size b mv v K' f' G u' t' w w') (hs : Sides M' t' f' G u') (hf : M'.length ≤ K') : Turn W0 b K' P M' t' w w' := by
  obtain ⟨mv', v', ys, h1, h2, h3, h4⟩ := h
  refine ⟨⟨⟨mv', v', f', ys, u', h2, hs.perm h1, fun k hk => ⟨Nat.lt_of_lt_of_le (hP k hk).1 h3.size, fun hm => ?_⟩⟩, hf, hb.trans (h3.below hb.size hB)⟩, fun k hk => h3.block k (hP k hk).1 (hP k hk).2, h3.size⟩
  rcases h4 k hm with h5 | h5
  · exact (hP k hk).2 h5
  · have := (hP k hk).1
    omega

theorem bs_admit (H : Bs W0 b K P M t w) (hK : K ≤ 1000000) {q : Int} (hq : In64 q) (x y : Int) :
    Calls Try.prog 14 #[.pointer (some ⟨b, 0, none⟩), .int .i64 q, .agg #[.int .i64 x, .int .i64 y]] w fun e w' => e = .returned (.int .i64 (admE M q x y)) ∧ Turn W0 b (K + 1) P (admL M q x y) t w w' := by
  obtain ⟨mv, v, f, xs, u, h1, h2, h3⟩ := H.ex
  have hX : admX f u q x y = admE M q x y := by rw [admX, admE, h2.hasS q, h2.us]
  refine (admit_any h1 hK ⟨h2.u0, h2.most⟩ hq x y).mono fun e w' h => ?_
  unfold AdmP at h
  rw [hX] at h
  obtain ⟨he, h4, h5⟩ := h
  refine ⟨he, ?_⟩
  by_cases h0 : admE M q x y = 0
  · obtain ⟨hr, hf, hm⟩ := admE_zero h0
    have hsb := shr_bd hr
    have hs := h2.admit (s := shr x y) hf (by omega) (by rw [h2.us]; exact hm)
    have hl : admL M q x y = M ++ [⟨q, shr x y, false, 0⟩] := by rw [admL, if_pos h0]
    rw [hl]
    exact turn_of H.below (fun k hk => (h1.mine_lt hk).1) h3 (h4 h0) hs (by rw [List.length_append]; have := H.few; simp; omega)
  · have hl : admL M q x y = M := by rw [admL, if_neg h0]
    rw [hl]
    obtain ⟨mv', v', ys, g1, g2, g3, g4⟩ := h5 h0
    have h6 : Bkd W0.heap.size b mv v (K + 1) f xs u t w w' := ⟨mv', v', ys, g1, ⟨g2.obj, g2.map.elim Or.inl (fun ⟨m, a1, a2, a3⟩ => Or.inr ⟨m, a1, a2, a3.mono (Nat.le_succ _)⟩), g2.row, g2.order, g2.base, g2.off⟩, g3, g4⟩
    exact turn_of H.below (fun k hk => (h1.mine_lt hk).1) h3 h6 h2 (by have := H.few; omega)

theorem Bs.bounds (H : Bs W0 b K P M t w) (hK : K ≤ 900000) {mv v : Value} {f : Int → Option Int} {xs : List Gv} {u : Int} (_h1 : BkIs w W0.heap.size b mv v K f xs u t) (h2 : Sides M t f xs u) : xs.length ≤ 900000 := by
  have h3 := h2.len
  have h4 := pend_le M
  have h5 := H.few
  omega
theorem bs_release (H : Bs W0 b K P M t w) (hK : K ≤ 900000) {q n : Int} (hq : In64 q) (hn : In64 n) :
    Calls Try.prog 10 #[.pointer (some ⟨b, 0, none⟩), .int .i64 q, .int .i64 n] w fun e w' => e = .returned (.int .i64 (relE M q)) ∧ Turn W0 b K P (relL M q n t) t w w' := by
  obtain ⟨mv, v, f, xs, u, h1, h2, h3⟩ := H.ex
  refine (release_any h1 H.size ⟨h2.u0, h2.most⟩ (H.bounds hK h1 h2) hq (fun s hs => h2.sh_le hs) n).mono fun e w' h => ?_
  obtain ⟨h4, h5⟩ := h
  have hlen := Nat.le_trans (relL_len M q n t) H.few
  cases hf : findO M q with
  | none =>
    obtain ⟨he, rfl⟩ := h4 (h2.noS hf)
    have e1 : relL M q n t = M := by rw [relL, hf]
    rw [e1]
    exact ⟨by rw [he, relE, hf]; rfl, H, fun _ _ => rfl, Nat.le_refl _⟩
  | some i =>
    obtain ⟨he, h6, h7⟩ := h5 _ (h2.at_ hf)
    obtain ⟨h8, h9⟩ := h2.release hf hn
    refine ⟨by rw [he, relE, hf]; rfl, ?_⟩
    by_cases ht : t < n
    · exact turn_of H.below (fun k hk => (h1.mine_lt hk).1) h3 (h6 ht) (h8 ht) hlen
    · exact turn_of H.below (fun k hk => (h1.mine_lt hk).1) h3 (h7 (by omega)) (h9 (by omega)) hlen
theorem bs_advance (H : Bs W0 b K P M t w) (hK : K ≤ 900000) (n : Int) :
    Calls Try.prog 13 #[.pointer (some ⟨b, 0, none⟩), .int .i64 n] w fun e w' => e = .returned (.int .i64 (advN M t n)) ∧ Turn W0 b K P (advL M t n) (advT t n) w w' := by
  obtain ⟨mv, v, f, xs, u, h1, h2, h3⟩ := H.ex
  refine (advance_any h1 ⟨h2.u0, h2.most⟩ (H.bounds hK h1 h2) h2.few.1 h2.few.2 n).mono fun e w' h => ?_
  obtain ⟨h4, h5⟩ := h
  by_cases ht : n < t
  · obtain ⟨he, rfl⟩ := h4 ht
    have e1 : advL M t n = M := if_pos ht
    have e2 : advT t n = t := if_pos ht
    rw [e1, e2]
    exact ⟨by rw [he, advN, if_pos ht], H, fun _ _ => rfl, Nat.le_refl _⟩
  · obtain ⟨R, G, h6, h7, h8, he, h9⟩ := h5 (by omega)
    obtain ⟨g1, g2⟩ := h2.advance h6 h7 h8
    have e1 : advL M t n = over M n := if_neg ht
    have e2 : advT t n = n := if_neg ht
    rw [e1, e2]
    refine ⟨by rw [he, advN, if_neg ht]; congr 2; omega, turn_of H.below (fun k hk => (h1.mine_lt hk).1) h3 h9 g1 (Nat.le_trans (over_len _ _) H.few)⟩
theorem bs_used (H : Bs W0 b K P M t w) : Calls Try.prog 16 #[.pointer (some ⟨b, 0, none⟩)] w fun e w' => e = .returned (.int .u64 (used M)) ∧ w = w' := by
  obtain ⟨mv, v, f, xs, u, h1, h2, h3⟩ := H.ex
  have := used_any h1
  rwa [h2.us] at this
theorem bs_has (H : Bs W0 b K P M t w) {q : Int} (hq : In64 q) : Calls Try.prog 18 #[.pointer (some ⟨b, 0, none⟩), .int .i64 q] w fun e w' => e = .returned (.bool (decide (0 ≤ findV M q))) ∧ w = w' := by
  obtain ⟨mv, v, f, xs, u, h1, h2, h3⟩ := H.ex
  have := has_any h1 hq
  rwa [h2.hasS q, ← findV_ge] at this
theorem bs_pending (H : Bs W0 b K P M t w) : Calls Try.prog 20 #[.pointer (some ⟨b, 0, none⟩)] w fun e w' => e = .returned (.int .i64 (pend M : Nat)) ∧ w = w' := by
  obtain ⟨mv, v, f, xs, u, h1, h2, h3⟩ := H.ex
  have := pending_any h1
  rwa [h2.len] at this
theorem Bs.low (H : Bs W0 b K P M t w) : Low M ∧ 0 ≤ used M ∧ used M ≤ 4294967296 := by
  obtain ⟨mv, v, f, xs, u, h1, h2, h3⟩ := H.ex
  refine ⟨h2.low, used_low h2.low, ?_⟩
  rw [← h2.us]
  exact h2.most
/-- A new book. -/
theorem bs_new (w0 : World) : Bs w0 w0.heap.size 0 (fun _ => False) [] 0 (w0.alloc (bObj (.map none) (.slice none 0 0) (.int .u64 0) (.int .i64 0))) := by
  refine ⟨⟨.map none, .slice none 0 0, fun _ => none, [], 0, ⟨heap_alloc_new _ _, Or.inl ⟨rfl, fun _ => rfl⟩, World.ownsRow_nil _ _ _ _, fun c h0 hc => by simp at hc, Nat.le_refl _, by simp [Value.ownBlock], fun m hm => by cases hm⟩, Sides.empty, fun k hk => hk.elim⟩, Nat.le_refl _, (Below.refl _ _).alloc (Nat.le_refl _) _⟩
end
end Go.Proofs.Ytcofehmgnpmecaa
