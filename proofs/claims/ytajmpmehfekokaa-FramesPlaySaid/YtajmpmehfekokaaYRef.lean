/-
  The document's answers: New, Is, Free, with.
-/
import Derived.Test.YtajmpmehfekokaaYWalksB
import Derived.Test.YtajmpmehfekokaaAppend
namespace Go.Proofs.Ytajmpmehfekokaa
open Go.ChangeShapes Go.WideShapes Go.ChangeAt Go.RowKit

theorem info_frame : (Try.prog.info? 55).map (fun i => (i.zero, i.size, i.bytes)) = some (some (.agg (fcells ⟨false, noughts⟩).toArray), 17, 17) := by kernel_rfl
theorem size_frame : (Try.prog.info? 55).map (·.size) = some 17 := by kernel_rfl

/-- A row of frames as it stands behind a call: the same, or new. -/
structure Next (w w' : World) (g g' n c' : Nat) (L' : List Fr) : Prop where
  rw_ : Rw w' g' L'
  at_ : g' = g ∨ w.heap.size ≤ g'
  lt : g' < w'.heap.size
  cap : n ≤ c'
  c63 : c' ≤ 9223372036854775807
  below : Below w.heap.size w w'

section
variable {w : World} {g n c : Nat} {L : List Fr}
theorem is_any (H : Rw w g L) (hn : L.length = n) (i : Int) : Calls Try.prog 17 #[.slice (some ⟨g, 0, none⟩) n c, .int .i64 i] w fun e w' => e = .returned (.bool (tkAt L i)) ∧ w = w' := by
  by_cases h0 : i < 0
  · rw [tkAt_out (Or.inl h0)]
    have h1 : ¬ (0 : Int) ≤ i := by omega
    clear H hn
    go_enter Try.func17, Try.ntmps17
    go_wp2
    go_ret
    exact ⟨rfl, rfl⟩
  · by_cases h1 : (n : Int) ≤ i
    · rw [tkAt_out (Or.inr (by omega))]
      have h2 : (0 : Int) ≤ i := by omega
      have h3 : ¬ i < n := by omega
      clear H hn h0
      go_enter Try.func17, Try.ntmps17
      go_wp2
      go_ret
      exact ⟨rfl, rfl⟩
    · obtain ⟨k, rfl⟩ : ∃ k : Nat, i = k := ⟨i.toNat, by omega⟩
      obtain ⟨x, hx⟩ : ∃ x, L[k]? = some x := ⟨_, List.getElem?_eq_getElem (by omega)⟩
      have hc := H.taken hx
      rw [tkAt_in hx]
      generalize x.tk = b at *
      have h2 : (0 : Int) ≤ k := by omega
      have h3 : (k : Int) < n := by omega
      clear H hx hn h0 h1
      go_enter Try.func17, Try.ntmps17
      go_wp2
      go_ret
      exact ⟨rfl, rfl⟩
set_option maxHeartbeats 1000000 in
theorem rfree_any (H : Rw w g L) (hn : L.length = n) (hm : n ≤ 32) : Calls Try.prog 21 #[.slice (some ⟨g, 0, none⟩) n c] w fun e w' => e = .returned (.int .i64 (frees L : Nat)) ∧ w = w' := by
  have HT : Hid (∀ i x, L[i]? = some x → w.cell? ⟨g, i * 17, none⟩ = some (.bool x.tk)) := Lib.hid fun i x hx => H.taken hx
  have Hn := Lib.hid hn
  have h1 : (n : Int) ≤ 32 := by omega
  clear H hn
  go_enter Try.func21, Try.ntmps21
  go_wp2
  go_loopw [3, 4] (fun u3 u4 wr => ∃ (i : Nat), i ≤ n ∧ u3 = .int .i64 (frees (L.take i) : Nat) ∧ u4 = .int .i64 (i : Nat) ∧ wr = w) (fun _ u4 _ => n - (intOf u4).toNat)
  case atStart => exact ⟨0, Nat.zero_le _, rfl, rfl, rfl⟩
  case round =>
    obtain ⟨i, hi, rfl, rfl, rfl⟩ := hrel
    by_cases hlt : i < n
    · obtain ⟨x, hx⟩ : ∃ x, L[i]? = some x := ⟨_, List.getElem?_eq_getElem (by rw [Hn.out]; exact hlt)⟩
      have hct := HT.out i _ hx
      have hfr := frees_take L i _ hx
      have hle := frees_le (L.take i)
      rw [List.length_take] at hle
      generalize x.tk = b at *
      obtain ⟨F, hF⟩ : ∃ F, frees (L.take i) = F := ⟨_, rfl⟩
      rw [hF] at hfr hle ⊢
      have HF2 := Lib.hid hfr
      have i0 : (0 : Int) ≤ i := by omega
      have i1 : (i : Int) < n := by omega
      have F1 : (F : Int) ≤ 32 := by omega
      clear hfr hF hx hle
      cases b with
      | true =>
        go_wp2
        go_roundw
        case rel => exact ⟨i + 1, by omega, by rw [HF2.out]; simp, by go_num, trivial⟩
        case measure => simp [intOf]; omega
      | false =>
        go_wp2
        go_roundw
        case rel => exact ⟨i + 1, by omega, by rw [HF2.out]; simp, by go_num, trivial⟩
        case measure => simp [intOf]; omega
    · obtain rfl : i = n := by omega
      have hF : frees (L.take i) = frees L := by rw [← Hn.out, List.take_length]
      rw [hF]
      go_wp2
      go_ret
      exact ⟨rfl, rfl⟩

/-- Another frame in its place, in new memory. -/
theorem with_end {w' : World} {gr cap base i n : Nat} {x : Fr} (hrow : w'.ownsRow base 55 17 (.slice (some ⟨gr, 0, none⟩) n cap) n (rcells L)) (hn : L.length = n) (hi : i < n) (hb : Below w.heap.size w w') (hbase : w.heap.size ≤ base) :
    w'.there gr (i * 17) 17 ∧ Next w (w'.setCells gr (i * 17) (fcells x)) g gr n cap (L.set i x) := by
  have hR := Rw.own hrow
  have hcap := own_cap hrow
  have hlt := hrow.lt gr rfl
  have hc63 : cap ≤ 9223372036854775807 := by
    obtain ⟨A', c', hv, h1, h2⟩ := own_shape hrow
    simp only [Value.slice.injEq, true_and] at hv
    rw [hv.2]
    exact h2
  have hth : w'.there gr (i * 17) 17 := by
    rcases hrow.2 with ⟨hv, _⟩ | ⟨g2, cap2, cur, hv, h3, h4, h5, h6, h7, h8⟩
    · simp at hv
    · simp only [Value.slice.injEq, Option.some.injEq, Addr.mk.injEq] at hv
      obtain ⟨⟨rfl, -⟩, -, rfl⟩ := hv
      intro j hj
      refine ⟨?_, by simp [World.frozen?, h4]⟩
      have h9 : i * 17 + j < cur.size := by
        rw [h7]
        have := Nat.mul_le_mul_right 17 (show i + 1 ≤ cap by omega)
        omega
      simp only [World.cell?, h4]
      simp [h9]
  obtain ⟨f1, f2, f3, f4, f5⟩ := setCells_frame gr (fcells x) (i * 17) w'
  refine ⟨hth, fun k y hy => ?_, Or.inr (by omega), by rw [f4]; exact hlt.2, hcap, hc63, ⟨f1.trans hb.os, f2.trans hb.tape, f3.trans hb.output, by rw [f4]; exact hb.size, fun k hk => (f5 k (by omega)).trans (hb.block k hk)⟩⟩
  obtain ⟨z, hz⟩ : ∃ z, L[i]? = some z := ⟨_, List.getElem?_eq_getElem (by omega)⟩
  rcases set_in hz hy with ⟨rfl, rfl⟩ | ⟨hk, hy⟩
  · exact World.rangeAt_setCells_same _ _ _ _ (by rw [fcells_len]; exact hth)
  · refine World.rangeAt_setCells_apart (hR k y hy) _ _ _ (Or.inr ?_)
    rw [fcells_len, fcells_len]
    omega
theorem own_some {w' : World} {A : Option Addr} {base n cap : Nat} {e : TypeId} {xs : List Value} {s : Nat} (h : w'.ownsRow base e s (.slice A n cap) n xs) (hn : 0 < n) : ∃ gr, A = some ⟨gr, 0, none⟩ := by
  rcases h.2 with ⟨_, h0⟩ | ⟨g2, cap2, cur, hv, _⟩
  · omega
  · simp only [Value.slice.injEq] at hv
    exact ⟨g2, hv.1⟩
theorem own_empty2 {w : World} {base : Nat} {e : TypeId} {size : Nat} {o : Obj} (hb : base ≤ w.heap.size) : ((w.alloc o).alloc (.cells #[] e)).ownsRow base e size (.slice (some ⟨w.heap.size + 1, 0, none⟩) 0 0) 0 [] := by
  have := own_empty (w := w.alloc o) (base := base) (e := e) (size := size) (by simp; omega)
  simpa using this
set_option maxHeartbeats 1000000 in
theorem with_any (H : Rw w g L) (hg : g < w.heap.size) (hn : L.length = n) (hm : n ≤ 32) {i : Nat} (hi : i < n) (x : Fr) : Calls Try.prog 18 #[.slice (some ⟨g, 0, none⟩) n c, .int .i64 (i : Nat), .agg (fcells x).toArray] w fun e w' => ∃ g' c', e = .returned (.slice (some ⟨g', 0, none⟩) n c') ∧ Next w w' g g' n c' (L.set i x) := by
  obtain ⟨i0, hi0, hz0, hz1, hz2⟩ := info_parts info_frame
  have HN : Hid (∀ o o' : Obj, ∀ ad, some (⟨g, 0, none⟩ : Addr) = some ad → ∀ j u, (rcells L)[j]? = some u → ((w.alloc o).alloc o').cell? (ad.add j) = some u) := Lib.hid fun o o' => Rw.news (H.below hg (((Below.refl _ _).alloc (Nat.le_refl _) o).alloc (by simp) o'))
  have HI := Lib.hid hi0
  have Hz0 := Lib.hid hz0
  have Hz1 := Lib.hid hz1
  have Hz2 := Lib.hid hz2
  have HX : Hid ((fcells x).length = 17) := Lib.hid (fcells_len x)
  have HX1 : Hid (∀ u ∈ fcells x, u.oneCell' = true) := Lib.hid (fcells_one x)
  have HL : Hid ((rcells L).length = n * 17) := Lib.hid (by rw [rcells_len, hn])
  have HL1 : Hid (∀ u ∈ rcells L, u.oneCell' = true) := Lib.hid (rcells_one L)
  have HE : Hid (∀ (w' : World) (gr cap : Nat), w'.ownsRow w.heap.size 55 17 (.slice (some ⟨gr, 0, none⟩) n cap) n (rcells L) → Below w.heap.size w w' → w'.there gr (i * 17) 17 ∧ Next w (w'.setCells gr (i * 17) (fcells x)) g gr n cap (L.set i x)) := Lib.hid fun w' gr cap hrow hb => with_end hrow hn hi hb (Nat.le_refl _)
  have HE2 : Hid (∀ (A : Option Addr) (cap : Nat) (w' : World), w'.ownsRow w.heap.size 55 17 (.slice A n cap) n ([] ++ rcells L) → ((w.alloc (.cells (fcells x).toArray 55)).alloc (.cells #[] 55)).grownBy w' (Value.slice (some ⟨w.heap.size + 1, 0, none⟩) 0 0).ownBlock →
      w'.heap[w.heap.size]? = some (.cells (fcells x).toArray 55 (0, 0)) ∧ ∃ gr, A = some ⟨gr, 0, none⟩ ∧ w'.there gr (i * 17) (fcells x).toArray.size ∧ Next w (w'.setCells gr (i * 17) (fcells x).toArray.toList) g gr n cap (L.set i x)) := Lib.hid fun A cap w' hrow hgr => by
    obtain ⟨gr, rfl⟩ := own_some hrow (by omega)
    rw [List.nil_append] at hrow
    have hb : Below w.heap.size w w' := (((Below.refl _ _).alloc (Nat.le_refl _) _).alloc (by simp) _).grown hgr (by simp; omega) (fun k hk => by simp [Value.ownBlock] at hk; omega)
    obtain ⟨h1, h2⟩ := HE.out w' gr cap hrow hb
    refine ⟨?_, gr, rfl, by simpa [fcells_len] using h1, h2⟩
    rw [hgr.block w.heap.size (by simp; omega) (by simp [Value.ownBlock]), Below.heap_alloc _ _ _ (by simp)]
    exact heap_alloc_new _ _
  have h1 : (i : Int) < n := by omega
  have h0 : (0 : Int) ≤ i := by omega
  have h2 : (n : Int) ≤ 32 := by omega
  clear H hn hg hi0 hz0 hz1 hz2 HE
  generalize rcells L = xs at *
  generalize fcells x = cs at *
  generalize L.set i x = L' at *
  go_enter Try.func18, Try.ntmps18
  go_wp2_with (first
    | (at_builtin; refine wpList_append_to _ rfl (.tmp 8) (.tmp 9) 28 rfl w.heap.size 55 i0 _ 17 17 Try.underlying28 HI.out Hz0.out Hz1.out Hz2.out rfl (by decide) (.slice (some ⟨w.heap.size + 1, 0, none⟩) 0 0) 0 [] rfl (own_empty2 (Nat.le_refl _)) (some ⟨g, 0, none⟩) n c xs rfl (fun h => by cases h) HL.out (HN.out _ _) HL1.out (by unfold maxLen; omega) (by omega) (by simp; omega) n (by omega) ?_; intro A cap w1 hrow hgr; obtain ⟨hbox, gr, rfl, hth, hnext⟩ := HE2.out _ _ _ hrow hgr; have Hnext := Lib.hid hnext; have Hth := Lib.hid hth; have Hbox := Lib.hid hbox; clear hrow hgr hnext hth hbox)
    | (refine wpList_load_row rfl 55 (.tmp 5) rfl w.heap.size rfl 55 cs.toArray (0, 0) _ Hbox.out Try.underlying55 rfl (size_frame.trans (by simp [HX.out])) ?_)
    | (refine wpList_store_mid rfl 55 (.tmp 14) (.tmp 13) rfl gr (i * 17) cs.toArray rfl rfl Hth.out (size_frame.trans (by simp [HX.out])) (all_oneCell_toArray HX1.out) ?_))
  go_ret
  exact ⟨gr, cap, rfl, Hnext.out⟩
end
end Go.Proofs.Ytajmpmehfekokaa
