/-
  Contracts: take.
-/
import Derived.Test.YtbidioonojnagaaBWalksC
namespace Go.Proofs.Ytbidioonojnagaa
open Go.ChangeShapes Go.WideShapes Go.ChangeAt Go.RowKit

section
variable {w : World} {h : Nat} {L : List En} {hi mi : Int}
set_option maxHeartbeats 1000000 in
theorem take_any (H : TbIs w h L hi mi) {k : Nat} {x : En} (hx : L[k]? = some x) : Calls Try.prog 12 #[.pointer (some ⟨h, 0, none⟩), .int .i64 (k : Nat)] w (Turned h (L.eraseIdx k) hi mi (.agg (ecells x).toArray) w) := by
  obtain ⟨c0, c1, c2, c3⟩ := H.at_ hx
  have hk := (List.getElem?_eq_some_iff.1 hx).1
  have hl := H.low
  have k0 : (0 : Int) ≤ k := by omega
  have k1 : (k : Int) < 16 := by omega
  have hlt := H.lt
  obtain ⟨en, pg, fr, wr⟩ := x
  simp only [ecells] at *
  obtain ⟨b, hb⟩ : ∃ b, w.heap.size = b := ⟨_, rfl⟩
  obtain ⟨n, hn⟩ : ∃ n, L.length = n := ⟨_, rfl⟩
  obtain ⟨m, hm⟩ : ∃ m, n - 1 = m := ⟨_, rfl⟩
  obtain ⟨L', hL'⟩ : ∃ L', L.eraseIdx k = L' := ⟨_, rfl⟩
  obtain ⟨W, hW⟩ : ∃ W, (w.alloc (.cells #[.int .i64 0, .int .i64 0, .int .i64 0, .bool false] 28 (0, 0))).alloc (.cells #[.int .i64 en, .int .i64 pg, .int .i64 fr, .bool wr] 28 (0, 0)) = W := ⟨_, rfl⟩
  have HbW : Hid (Below w.heap.size w W) := Lib.hid (by
    rw [← hW]
    exact ((Below.refl _ _).alloc (Nat.le_refl _) _).alloc (by simp) _)
  have hB0 : W.heap[b]? = some (.cells #[.int .i64 0, .int .i64 0, .int .i64 0, .bool false] 28 (0, 0)) := by
    rw [← hW, ← hb, Below.heap_alloc _ _ _ (by simp)]
    exact heap_alloc_new _ _
  have hB1 : W.heap[b + 1]? = some (.cells #[.int .i64 en, .int .i64 pg, .int .i64 fr, .bool wr] 28 (0, 0)) := by
    have := heap_alloc_new (w.alloc (.cells #[.int .i64 0, .int .i64 0, .int .i64 0, .bool false] 28 (0, 0))) (.cells #[.int .i64 en, .int .i64 pg, .int .i64 fr, .bool wr] 28 (0, 0))
    rw [← hW, ← hb]
    simpa using this
  have HT := Lib.hid (there_any (H.below HbW.out) hn)
  have HD : Hid (∀ w2, Below W.heap.size W w2 → Calls Try.prog 17 #[.slice (some ⟨h, 0, none⟩) n 16, .int .i64 (k : Nat), .int .i64 ((k : Nat) + 1)] w2 fun e w3 => e = .returned (.slice (some ⟨h, 0, none⟩) m 16) ∧
      w3.cell? ⟨h, 64, none⟩ = some (.int .i64 n) ∧ w3.frozen? ⟨h, 64, none⟩ = false ∧
      w3.heap[b]? = some (.cells #[.int .i64 0, .int .i64 0, .int .i64 0, .bool false] 28 (0, 0)) ∧ w3.heap[b + 1]? = some (.cells #[.int .i64 en, .int .i64 pg, .int .i64 fr, .bool wr] 28 (0, 0)) ∧
      TbIs (w3.setCell ⟨h, 64, none⟩ (.int .i64 (m : Nat))) h L' hi mi ∧ Only (· = h) w w3) := Lib.hid fun w2 hb2 => by
    have hbw := HbW.out.trans (hb2.mono HbW.out.size)
    obtain ⟨Z, z1, z2⟩ := (H.below hbw).split
    have s1 := lt_of_blk hB1
    have e1 : ((k : Nat) : Int) + 1 = ((k + 1 : Nat) : Int) := by simp
    rw [e1]
    refine (delete_any z1 hn (by omega) rfl (by omega)).mono ?_
    rintro e w3 ⟨rfl, y1, y2⟩
    obtain ⟨z3, z4, z5⟩ := z2 w3 k hk y1
    rw [hn] at z3 z5
    rw [hm] at z5
    rw [hL'] at z5
    have hs2 := hb2.size
    refine ⟨by rw [hm], z3, z4, ?_, ?_, z5, (Only.of_below hbw).trans y2 (fun _ h => Or.inl h)⟩
    · rw [y2.block b (by omega) (by omega), hb2.block b (by omega)]
      exact hB0
    · rw [y2.block (b + 1) (by omega) (by omega), hb2.block (b + 1) (by omega)]
      exact hB1
  have hhb : h < b := by omega
  have n1 : h ≠ b := by omega
  have n2 : h ≠ b + 1 := by omega
  have HW := Lib.hid hW
  have Hb := Lib.hid hb
  rw [hL']
  clear H hx hk hl hn hm hL' hW hB0 hB1 hb
  go_enter Try.func12, Try.ntmps12
  go_wp2_with fail
  rw [show (w.alloc (.cells #[.int .i64 0, .int .i64 0, .int .i64 0, .bool false] 28 (0, 0))).alloc (.cells #[.int .i64 en, .int .i64 pg, .int .i64 fr, .bool wr] 28 (0, 0)) = W from HW.out, Hb.out]
  refine HT.out.mono ?_
  rintro e w2 ⟨rfl, hb2⟩
  have HB2 := Lib.hid hb2
  clear hb2 hlt c0 c1 c2 c3
  go_wp2_with fail
  refine (HD.out w2 HB2.out).mono ?_
  rintro e w3 ⟨rfl, d1, d2, d3, d4, d5, d6⟩
  have D5 := Lib.hid d5
  have D6 := Lib.hid d6
  have g0 : ∀ j u, #[Value.int .i64 0, .int .i64 0, .int .i64 0, .bool false][j]? = some u → w3.cell? ⟨b, j, none⟩ = some u := fun j u hu => by
    simp only [World.cell?, d3]
    exact hu
  have g1 : ∀ j u, #[Value.int .i64 en, .int .i64 pg, .int .i64 fr, .bool wr][j]? = some u → w3.cell? ⟨b + 1, j, none⟩ = some u := fun j u hu => by
    simp only [World.cell?, d4]
    exact hu
  have p0 := g0 0 _ rfl
  have p1 := g0 1 _ rfl
  have p2 := g0 2 _ rfl
  have p3 := g0 3 _ rfl
  have q0 := g1 0 _ rfl
  have q1 := g1 1 _ rfl
  have q2 := g1 2 _ rfl
  have q3 := g1 3 _ rfl
  have f0 : ∀ j, w3.frozen? ⟨b, j, none⟩ = false := fun j => by simp [World.frozen?, d3]
  clear g0 g1 d3 d4 d5 d6
  go_wp2
  refine bodyPost_ret (v := .agg #[.int .i64 en, .int .i64 pg, .int .i64 fr, .bool wr]) (by simp [results, Try.results12, go_sem, p0, p1, p2, p3]) rfl ?_
  have hbw : w.heap.size ≤ b := Nat.le_of_eq Hb.out
  refine ⟨rfl, (((D5.out.away n1 _).away n1 _).away n1 _).away n1 _, ?_⟩
  refine Only.put ?_ (Or.inr hbw) _
  refine Only.put ?_ (Or.inr hbw) _
  refine Only.put ?_ (Or.inr hbw) _
  refine Only.put ?_ (Or.inr hbw) _
  exact Only.put D6.out (Or.inl rfl) _
end
end Go.Proofs.Ytbidioonojnagaa
