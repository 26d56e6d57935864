/-
  Contracts: put, the shelf's Delete of one, take.
-/
import Derived.Test.YtbidioonojnagaaBWalksB
import Derived.Deep.RegionLaw
import Derived.StillTailTactics
import Derived.Lib.SliceRun
namespace Go.Proofs.Ytbidioonojnagaa
open Go.ChangeShapes Go.WideShapes Go.ChangeAt Go.RowKit

/-- 'clear' of one element: its cells hold the type's zero value. -/
theorem run_clear_one {P : Program} (w : World) (t e ty : TypeId) (z : Value) (cs : List Value) (ht : P.underlying t = some (.slice e)) (hv : ∀ w, (zeroValue e).run P w = .ok z w) (hz : z.cells = cs.toArray) (h1 : ∀ u ∈ cs, u.oneCell' = true) (b o n c : Nat) (hn : n = 1)
    (hc : w.there b o cs.length) :
    (Builtin.clear_ #[t] ty #[.slice (some ⟨b, o, none⟩) n c]).run P w = .ok (.tuple #[]) (w.setCells b o cs) := by
  subst hn
  have hzc : (Builtin.zeroCells z.cells 1).toList = cs := by
    rw [hz]
    apply List.ext_getElem
    · simp [Builtin.zeroCells]
    · intro i h1 h2
      simp [Builtin.zeroCells, Nat.mod_eq_of_lt h2, h2]
  have hst := run_storeCells_cells (P := P) b o cs 0 w (fun j hj => by simpa using (hc j hj).1) (fun j hj => by simpa using (hc j hj).2) h1
  simp only [Nat.add_zero] at hst
  simp [Builtin.clear_, run_underlying ht, hv, hzc, hst]
theorem zero_entry : ∀ w : World, (zeroValue 28).run Try.prog w = .ok (.agg (ecells noEn).toArray) w := fun w => by kernel_rfl
theorem info_entry : (Try.prog.info? 28).map (fun i => (i.zero, i.size, i.bytes)) = some (some (.agg (ecells noEn).toArray), 4, 32) := by kernel_rfl
theorem size_entry : (Try.prog.info? 28).map (·.size) = some 4 := by kernel_rfl
section
variable {w : World} {h : Nat} {L : List En} {hi mi : Int}
/-- The translations have changed, and nothing else. -/
def Turned (h : Nat) (L' : List En) (hi' mi' : Int) (v : Value) (w : World) (e : Ending) (w' : World) : Prop := e = .returned v ∧ TbIs w' h L' hi' mi' ∧ Only (· = h) w w'
set_option maxHeartbeats 1000000 in
theorem put_any (H : TbIs w h L hi mi) (hl : L.length < 16) (x : En) : Calls Try.prog 11 #[.pointer (some ⟨h, 0, none⟩), .agg (ecells x).toArray] w (Turned h (L ++ [x]) hi mi (.tuple #[]) w) := by
  obtain ⟨W, hW⟩ : ∃ W, w.alloc (.cells (ecells x).toArray 28 (0, 0)) = W := ⟨_, rfl⟩
  have HbW : Hid (Below w.heap.size w W) := Lib.hid (by
    rw [← hW]
    exact (Below.refl _ _).alloc (Nat.le_refl _) _)
  have H1 := H.below HbW.out
  have H2 : TbIs W.drew h L hi mi := H1.kept rfl
  obtain ⟨p1, p2, p3⟩ := H2.push hl x
  have q1 := H1.all.1
  have q2 := H1.free
  obtain ⟨b, hb⟩ : ∃ b, w.heap.size = b := ⟨_, rfl⟩
  have hc : ∀ j u, (ecells x)[j]? = some u → W.cell? ⟨b, j, none⟩ = some u := fun j u hu => by
    rw [← hW, ← hb]
    simpa using hu
  have c0 := hc 0 _ rfl
  have c1 := hc 1 _ rfl
  have c2 := hc 2 _ rfl
  have c3 := hc 3 _ rfl
  have q3 : ∀ j, (W.drew.setCells h (L.length * 4) (ecells x)).frozen? ⟨h, j, none⟩ = false := fun j => by
    rw [World.frozen?_setCells]
    exact q2 j
  have HE : Hid (Turned h (L ++ [x]) hi mi (.tuple #[]) w (.returned (.tuple #[])) ((W.drew.setCells h (L.length * 4) (ecells x)).setCell ⟨h, 64, none⟩ (.int .i64 ((L.length : Nat) + 1)))) := Lib.hid (by
    have : ((L.length : Nat) : Int) + 1 = ((L.length + 1 : Nat) : Int) := by simp
    rw [this]
    exact ⟨rfl, p2, Only.put (S := (· = h)) (Only.puts (S := (· = h)) (Only.of_below (below_drawn (n := 1) HbW.out)) (Or.inl rfl) _ _) (p := ⟨h, 64, none⟩) (Or.inl rfl) _⟩)
  have HW := Lib.hid hW
  have P1 := Lib.hid p1
  generalize L ++ [x] = L' at *
  obtain ⟨en, pg, fr, wr⟩ := x
  simp only [ecells] at *
  generalize L.length = n at *
  have n0 : (0 : Int) ≤ n := by omega
  have n1 : (n : Int) < 16 := by omega
  clear H H1 H2 p1 p2 hW hc hl
  go_enter Try.func11, Try.ntmps11
  go_wp2
  rw [show w.alloc (.cells #[.int .i64 en, .int .i64 pg, .int .i64 fr, .bool wr] 28 (0, 0)) = W from HW.out]
  go_still_tail 9, (by kernel_rfl)
  change wpList _ _ _ _ _ W.drew
  refine (wpList_store_mid rfl 28 (.tmp 12) (.tmp 9) rfl h (n * 4) #[.int .i64 en, .int .i64 pg, .int .i64 fr, .bool wr] rfl rfl P1.out size_entry (all_oneCell_toArray (ecells_one ⟨en, pg, fr, wr⟩)) ?_)
  go_wp2
  try simp only [Exit.inBlock, Exit.then]
  first
  | refine bodyPost_ret (results_none rfl _ _ _) rfl ?_
  | refine bodyPost_end (results_none rfl _ _ _) rfl ?_
  exact HE.out
/-- One element goes: the rest moves up, behind it noughts. -/
def Gone (b n c k : Nat) (T : TypeId) (L : List En) (Z : List Value) (w : World) (e : Ending) (w' : World) : Prop :=
  e = .returned (.slice (some ⟨b, 0, none⟩) (n - 1) c) ∧ w'.heap[b]? = some (.cells (rcells (L.eraseIdx k ++ [noEn]) ++ Z).toArray T (0, 0)) ∧ Only (· = b) w w'
set_option maxHeartbeats 4000000 in
theorem delete_any {b n c k j : Nat} {T : TypeId} {Z : List Value} (hb : w.heap[b]? = some (.cells (rcells L ++ Z).toArray T (0, 0))) (hn : L.length = n) (hk : k < n) (hj : j = k + 1) (hc : n ≤ c) :
    Calls Try.prog 17 #[.slice (some ⟨b, 0, none⟩) n c, .int .i64 (k : Nat), .int .i64 (j : Nat)] w (Gone b n c k T L Z w) := by
  obtain ⟨i0, hi0, hz0, hz1, hz2⟩ := info_parts info_entry
  obtain ⟨D, hD⟩ : ∃ D, L.drop j = D := ⟨_, rfl⟩
  have hDl : D.length = n - j := by rw [← hD, List.length_drop, hn]
  -- what the elements' places hold, told in three parts
  obtain ⟨E, y, hE⟩ : ∃ E y, L = L.take k ++ (E ++ [y]) ∧ E.length = D.length := by
    have h1 : L.drop k ≠ [] := fun h => by
      have := congrArg List.length h
      rw [List.length_drop, List.length_nil] at this
      omega
    refine ⟨(L.drop k).dropLast, (L.drop k).getLast h1, ?_, ?_⟩
    · rw [List.dropLast_concat_getLast, List.take_append_drop]
    · rw [List.length_dropLast, List.length_drop, hDl, hn]
      omega
  obtain ⟨hE, hEl⟩ := hE
  have hkl : (L.take k).length = k := by rw [List.length_take]; omega
  have hdr : w.drew.heap[b]? = some (.cells (rcells (L.take k) ++ (rcells E ++ (ecells y ++ Z))).toArray T (0, 0)) := by
    have h1 : w.drew.heap[b]? = w.heap[b]? := rfl
    rw [h1, hb]
    conv => lhs; rw [hE]
    rw [rcells_two, rcells_two, rcells_sole]
    simp
  obtain ⟨news, hnews⟩ : ∃ news, rcells D = news := ⟨_, rfl⟩
  have hlen : news.length = (n - j) * 4 := by rw [← hnews, rcells_len, hDl]
  obtain ⟨W1, hW1⟩ : ∃ W1, w.drew.setCells b (0 + k * 4) news = W1 := ⟨_, rfl⟩
  have h2 : W1.heap[b]? = some (.cells (rcells (L.take k) ++ (news ++ (ecells y ++ Z))).toArray T (0, 0)) := by
    rw [← hW1, Nat.zero_add]
    exact setCells_mid b T news (rcells E) (rcells (L.take k)) (ecells y ++ Z) (k * 4) w.drew hdr (by rw [rcells_len, hkl]) (by rw [hlen, rcells_len, hEl, hDl])
  have h3 : W1.heap[b]? = some (.cells ((rcells (L.take k) ++ news) ++ (ecells y ++ Z)).toArray T (0, 0)) := by rw [h2]; simp
  have h4 : (W1.setCells b ((k + (n - j)) * 4) (ecells noEn)).heap[b]? = some (.cells ((rcells (L.take k) ++ news) ++ (ecells noEn ++ Z)).toArray T (0, 0)) :=
    setCells_mid b T (ecells noEn) (ecells y) (rcells (L.take k) ++ news) Z ((k + (n - j)) * 4) W1 h3 (by rw [List.length_append, rcells_len, hkl, hlen]; omega) rfl
  have hth : W1.there b ((k + (n - j)) * 4) 4 := fun i hi => by
    constructor
    · have hs : ((rcells (L.take k) ++ news) ++ (ecells y ++ Z))[(k + (n - j)) * 4 + i]? = some ((ecells y)[i]'(by rw [ecells_len]; exact hi)) := by
        rw [List.getElem?_append_right (by rw [List.length_append, rcells_len, hkl, hlen]; omega), List.getElem?_append_left (by rw [List.length_append, rcells_len, hkl, hlen, ecells_len]; omega)]
        have : (k + (n - j)) * 4 + i - (rcells (L.take k) ++ news).length = i := by rw [List.length_append, rcells_len, hkl, hlen]; omega
        rw [this, List.getElem?_eq_getElem]
      simp only [World.cell?, h3]
      have hs2 : ((rcells (L.take k) ++ news) ++ (ecells y ++ Z)).toArray[(k + (n - j)) * 4 + i]? = some ((ecells y)[i]'(by rw [ecells_len]; exact hi)) := by simpa using hs
      rw [hs2]
      rfl
    · simp [World.frozen?, h3]
  have hcl : ∀ ty, (Builtin.clear_ #[44] ty #[.slice (some ⟨b, (k + (n - j)) * 4, none⟩) (n - (k + (n - j))) (c - (k + (n - j)))]).run Try.prog W1 = .ok (.tuple #[]) (W1.setCells b ((k + (n - j)) * 4) (ecells noEn)) :=
    fun ty => run_clear_one W1 _ _ ty _ (ecells noEn) Try.underlying44 zero_entry rfl (ecells_one _) b _ _ _ (by omega) hth
  have HE : Hid (Gone b n c k T L Z w (.returned (.slice (some ⟨b, 0, none⟩) (k + (n - j)) c)) (W1.setCells b ((k + (n - j)) * 4) (ecells noEn))) := Lib.hid (by
    refine ⟨by rw [show k + (n - j) = n - 1 by omega], ?_, ?_⟩
    · rw [h4, List.eraseIdx_eq_take_drop_succ, ← hj, hD, rcells_two, rcells_two, rcells_sole, hnews]
      simp
    · rw [← hW1]
      exact Only.puts (S := (· = b)) (Only.puts (S := (· = b)) (Only.of_below (below_drawn (n := 1) (Below.refl _ _))) (Or.inl rfl) _ _) (Or.inl rfl) _ _)
  have hcells : ∀ i u, news[i]? = some u → w.drew.cell? ⟨b, j * 4 + i, none⟩ = some u := fun i u hu => by
    have hi : i < (n - j) * 4 := by rw [← hlen]; exact (List.getElem?_eq_some_iff.1 hu).1
    have h5 : rcells L = rcells (L.take j) ++ news := by rw [← hnews, ← hD, ← rcells_two, List.take_append_drop]
    have h6 : (rcells L ++ Z)[j * 4 + i]? = some u := by
      have h7 : (rcells (L.take j)).length = j * 4 := by rw [rcells_len, List.length_take]; congr 1; omega
      rw [h5, List.append_assoc, List.getElem?_append_right (by omega), List.getElem?_append_left (by rw [h7, hlen]; omega), h7]
      have : j * 4 + i - j * 4 = i := by omega
      rw [this, hu]
    show w.cell? _ = _
    simp only [World.cell?, hb]
    simpa using h6
  obtain ⟨A, hA, hsrc⟩ : ∃ A : Addr, (if c = j then some (⟨b, 0, none⟩ : Addr) else some ⟨b, j * 4, none⟩) = some A ∧ Hid (∀ t u, news[t]? = some u → w.drew.cell? (A.add t) = some u) := by
    by_cases h : c = j
    · refine ⟨⟨b, 0, none⟩, by simp [h], Lib.hid fun t u hu => ?_⟩
      have h0 : news.length = 0 := by rw [hlen]; omega
      rw [List.length_eq_zero_iff.1 h0] at hu
      simp at hu
    · refine ⟨⟨b, j * 4, none⟩, by simp [h], Lib.hid fun t u hu => ?_⟩
      rw [Addr.add_mid]
      exact hcells t u hu
  have S1 := Lib.hid hlen
  have S2 : Hid (∀ u ∈ news, u.oneCell' = true) := Lib.hid (by
    rw [← hnews]
    exact rcells_one D)
  have S3 : Hid (∀ t, t < news.length → (w.drew.cell? ⟨b, 0 + k * 4 + t, none⟩).isSome = true ∧ w.drew.frozen? ⟨b, 0 + k * 4 + t, none⟩ = false) := Lib.hid fun t ht => by
    have h5 : 0 + k * 4 + t < (rcells (L.take k) ++ (rcells E ++ (ecells y ++ Z))).length := by
      simp only [List.length_append, rcells_len, hkl, hEl, hDl, ecells_len]
      omega
    constructor
    · have hs := List.getElem?_eq_getElem h5
      simp only [World.cell?, hdr]
      have hs2 : (rcells (L.take k) ++ (rcells E ++ (ecells y ++ Z))).toArray[0 + k * 4 + t]? = some ((rcells (L.take k) ++ (rcells E ++ (ecells y ++ Z)))[0 + k * 4 + t]) := by simp
      rw [hs2]
      rfl
    · simp [World.frozen?, hdr]
  have HW := Lib.hid hW1
  have k0 : (0 : Int) ≤ k := by omega
  have k1 : (k : Int) ≤ j := by omega
  have k2 : (j : Int) ≤ n := by omega
  have k3 : (n : Int) ≤ c := by omega
  have k4 : (k : Int) ≤ n := by omega
  have k5 : ¬ (k : Int) = j := by omega
  have k6 : k ≤ j := by omega
  have k7 : j ≤ n := by omega
  have k8 : k ≤ c := by omega
  have k9 : j ≤ c := by omega
  have k10 : k ≤ n := by omega
  have k11 : ((k + (n - j) : Nat) : Int) ≤ n := by omega
  have k12 : k + (n - j) ≤ n := by omega
  have k13 : k + (n - j) ≤ c := by omega
  have k14 : ¬ c = k + (n - j) := by omega
  clear hb hD hDl hE hEl hkl hdr hnews hlen h2 h3 h4 hth hcells hW1 hn hj
  go_enter Try.func17, Try.ntmps17
  go_wp2_with fail
  go_region_law (refine step_append_room rfl (.tmp 22) (.tmp 25) 44 rfl 28 i0 4 Try.underlying44 hi0 hz1 b 0 k c (by simp [Act.eval, Act.put]) A (n - j) (c - j) news (by simp [Act.eval, Act.put]) S1.out hsrc.out S2.out (by omega) S3.out ?_; rw [HW.out])
  go_wp2
  go_ret
  exact HE.out
end
end Go.Proofs.Ytbidioonojnagaa
