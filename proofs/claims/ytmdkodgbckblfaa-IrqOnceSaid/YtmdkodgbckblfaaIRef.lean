/-
  The document's answers: Has, with, Raise, Mask, Ack.
-/
import Derived.Test.YtmdkodgbckblfaaIWalksA
import Derived.Test.YtmdkodgbckblfaaAppend
import Derived.Deep.WholeRow
namespace Go.Proofs.Ytmdkodgbckblfaa
open Go.ChangeShapes Go.WideShapes Go.ChangeAt Go.RowKit

theorem info_line : (Try.prog.info? 45).map (fun i => (i.zero, i.size, i.bytes)) = some (some (.agg (lcells bare).toArray), 4, 16) := by kernel_rfl
theorem size_line : (Try.prog.info? 45).map (·.size) = some 4 := by kernel_rfl

/-- A row of lines as it stands behind a call: the same, or new. -/
structure Next (w w' : World) (g g' n c' : Nat) (L' : List Ln) : Prop where
  rw_ : Rw w' g' L'
  at_ : g' = g ∨ w.heap.size ≤ g'
  lt : g' < w'.heap.size
  cap : n ≤ c'
  c63 : c' ≤ 9223372036854775807
  below : Below w.heap.size w w'

section
variable {w : World} {g n c : Nat} {L : List Ln}
theorem rhas_any (hn : L.length = n) (A : Option Addr) (i : Int) (w : World) : Calls Try.prog 19 #[.slice A n c, .int .i64 i] w fun e w' => e = .returned (.bool (hasL L i)) ∧ w = w' := by
  by_cases h0 : i < 0
  · rw [hasL_out (Or.inl h0)]
    have h1 : ¬ (0 : Int) ≤ i := by omega
    clear hn
    go_enter Try.func19, Try.ntmps19
    go_wp2
    go_ret
    exact ⟨rfl, rfl⟩
  · have h1 : (0 : Int) ≤ i := by omega
    obtain ⟨b, hb⟩ : ∃ b, hasL L i = b := ⟨_, rfl⟩
    rw [hb]
    have h2 : decide (i < (n : Int)) = b := by
      rw [← hb, hasL, hn]
      simp [h1]
    clear hn hb h0
    go_enter Try.func19, Try.ntmps19
    go_wp2
    go_ret
    exact ⟨rfl, rfl⟩

theorem set_in {i k : Nat} {x y z : Ln} (hx : L[i]? = some x) (hz : (L.set i y)[k]? = some z) : (k = i ∧ z = y) ∨ (k ≠ i ∧ L[k]? = some z) := by
  have hi := (List.getElem?_eq_some_iff.1 hx).1
  rw [List.getElem?_set] at hz
  by_cases e : i = k
  · subst e
    rw [if_pos rfl, if_pos hi] at hz
    exact Or.inl ⟨rfl, by simpa using hz.symm⟩
  · rw [if_neg e] at hz
    exact Or.inr ⟨Ne.symm e, hz⟩
theorem setCells_frame (b : Nat) : ∀ (vs : List Value) (o : Nat) (w : World), (w.setCells b o vs).os = w.os ∧ (w.setCells b o vs).tape = w.tape ∧ (w.setCells b o vs).output = w.output ∧ (w.setCells b o vs).heap.size = w.heap.size ∧ ∀ k, k ≠ b → (w.setCells b o vs).heap[k]? = w.heap[k]?
  | [], _, _ => ⟨rfl, rfl, rfl, rfl, fun _ _ => rfl⟩
  | v :: r, o, w => by
    obtain ⟨h1, h2, h3, h4, h5⟩ := setCells_frame b r (o + 1) (w.setCell ⟨b, o, none⟩ v)
    rw [World.setCells]
    refine ⟨h1, h2, h3, h4.trans (by simp [World.setCell]), fun k hk => (h5 k hk).trans (Below.heap_setCell _ _ _ _ hk)⟩
/-- Another line in its place, in new memory. -/
theorem with_end {w' : World} {gr cap base i n : Nat} {x : Ln} (hrow : w'.ownsRow base 45 4 (.slice (some ⟨gr, 0, none⟩) n cap) n (rcells L)) (hn : L.length = n) (hi : i < n) (hb : Below w.heap.size w w') (hbase : w.heap.size ≤ base) :
    w'.there gr (i * 4) 4 ∧ Next w (w'.setCells gr (i * 4) (lcells x)) g gr n cap (L.set i x) := by
  have hR := Rw.own hrow
  have hcap := own_cap hrow
  have hlt := hrow.lt gr rfl
  have hc63 : cap ≤ 9223372036854775807 := by
    obtain ⟨A', c', hv, h1, h2⟩ := own_shape hrow
    simp only [Value.slice.injEq, true_and] at hv
    rw [hv.2]
    exact h2
  have hth : w'.there gr (i * 4) 4 := by
    rcases hrow.2 with ⟨hv, _⟩ | ⟨g2, cap2, cur, hv, h3, h4, h5, h6, h7, h8⟩
    · simp at hv
    · simp only [Value.slice.injEq, Option.some.injEq, Addr.mk.injEq] at hv
      obtain ⟨⟨rfl, -⟩, -, rfl⟩ := hv
      intro j hj
      refine ⟨?_, by simp [World.frozen?, h4]⟩
      have h9 : i * 4 + j < cur.size := by
        rw [h7]
        have := Nat.mul_le_mul_right 4 (show i + 1 ≤ cap by omega)
        omega
      simp only [World.cell?, h4]
      simp [h9]
  obtain ⟨f1, f2, f3, f4, f5⟩ := setCells_frame gr (lcells x) (i * 4) w'
  refine ⟨hth, fun j u hu => ?_, Or.inr (by omega), by rw [f4]; exact hlt.2, hcap, hc63, ⟨f1.trans hb.os, f2.trans hb.tape, f3.trans hb.output, by rw [f4]; exact hb.size, fun k hk => (f5 k (by omega)).trans (hb.block k hk)⟩⟩
  obtain ⟨z, hz⟩ : ∃ z, L[i]? = some z := ⟨_, List.getElem?_eq_getElem (by omega)⟩
  have hj := (List.getElem?_eq_some_iff.1 hu).1
  rw [rcells_len, List.length_set] at hj
  obtain ⟨k, r, hr, rfl⟩ : ∃ k r, r < 4 ∧ j = k * 4 + r := ⟨j / 4, j % 4, by omega, by omega⟩
  obtain ⟨y, hy⟩ : ∃ y, (L.set i x)[k]? = some y := ⟨_, List.getElem?_eq_getElem (by rw [List.length_set]; omega)⟩
  rw [rcells_at _ k r y hy hr] at hu
  rcases set_in hz hy with ⟨rfl, rfl⟩ | ⟨hk, hy⟩
  · exact World.rangeAt_setCells_same _ _ _ _ hth r u hu
  · refine World.rangeAt_setCells_apart (b' := gr) (o' := k * 4) (cs := lcells y) (fun r' v hv => ?_) gr (i * 4) (lcells x) (Or.inr ?_) r u hu
    · have hr' : r' < 4 := by simpa [lcells] using (List.getElem?_eq_some_iff.1 hv).1
      exact hR _ _ (by rw [rcells_at L k r' y hy hr', hv])
    · simp [lcells]
      omega
theorem own_some {w' : World} {A : Option Addr} {base n cap : Nat} {e : TypeId} {xs : List Value} {s : Nat} (h : w'.ownsRow base e s (.slice A n cap) n xs) (hn : 0 < n) : ∃ gr, A = some ⟨gr, 0, none⟩ := by
  rcases h.2 with ⟨_, h0⟩ | ⟨g2, cap2, cur, hv, _⟩
  · omega
  · simp only [Value.slice.injEq] at hv
    exact ⟨g2, hv.1⟩
theorem own_empty2 {w : World} {base : Nat} {e : TypeId} {size : Nat} {o : Obj} (hb : base ≤ w.heap.size) : ((w.alloc o).alloc (.cells #[] e)).ownsRow base e size (.slice (some ⟨w.heap.size + 1, 0, none⟩) 0 0) 0 [] := by
  have := own_empty (w := w.alloc o) (base := base) (e := e) (size := size) (by simp; omega)
  simpa using this
set_option maxHeartbeats 1000000 in
theorem with_any (H : Rw w g L) (hg : g < w.heap.size) (hn : L.length = n) (hm : n ≤ 8) {i : Nat} (hi : i < n) (x : Ln) : Calls Try.prog 22 #[.slice (some ⟨g, 0, none⟩) n c, .int .i64 (i : Nat), .agg (lcells x).toArray] w fun e w' => ∃ g' c', e = .returned (.slice (some ⟨g', 0, none⟩) n c') ∧ Next w w' g g' n c' (L.set i x) := by
  obtain ⟨i0, hi0, hz0, hz1, hz2⟩ := info_parts info_line
  have HN : Hid (∀ o o' : Obj, ∀ ad, some (⟨g, 0, none⟩ : Addr) = some ad → ∀ j u, (rcells L)[j]? = some u → ((w.alloc o).alloc o').cell? (ad.add j) = some u) := Lib.hid fun o o' => Rw.news (H.below hg (((Below.refl _ _).alloc (Nat.le_refl _) o).alloc (by simp) o'))
  have HI := Lib.hid hi0
  have Hz0 := Lib.hid hz0
  have Hz1 := Lib.hid hz1
  have Hz2 := Lib.hid hz2
  have HX : Hid ((lcells x).length = 4) := Lib.hid rfl
  have HX1 : Hid (∀ u ∈ lcells x, u.oneCell' = true) := Lib.hid (lcells_one x)
  have HL : Hid ((rcells L).length = n * 4) := Lib.hid (by rw [rcells_len, hn])
  have HL1 : Hid (∀ u ∈ rcells L, u.oneCell' = true) := Lib.hid (rcells_one L)
  have HE : Hid (∀ (w' : World) (gr cap : Nat), w'.ownsRow w.heap.size 45 4 (.slice (some ⟨gr, 0, none⟩) n cap) n (rcells L) → Below w.heap.size w w' → w'.there gr (i * 4) 4 ∧ Next w (w'.setCells gr (i * 4) (lcells x)) g gr n cap (L.set i x)) := Lib.hid fun w' gr cap hrow hb => with_end hrow hn hi hb (Nat.le_refl _)
  have HE2 : Hid (∀ (A : Option Addr) (cap : Nat) (w' : World), w'.ownsRow w.heap.size 45 4 (.slice A n cap) n ([] ++ rcells L) → ((w.alloc (.cells (lcells x).toArray 45)).alloc (.cells #[] 45)).grownBy w' (Value.slice (some ⟨w.heap.size + 1, 0, none⟩) 0 0).ownBlock →
      w'.heap[w.heap.size]? = some (.cells (lcells x).toArray 45 (0, 0)) ∧ ∃ gr, A = some ⟨gr, 0, none⟩ ∧ w'.there gr (i * 4) (lcells x).toArray.size ∧ Next w (w'.setCells gr (i * 4) (lcells x).toArray.toList) g gr n cap (L.set i x)) := Lib.hid fun A cap w' hrow hgr => by
    obtain ⟨gr, rfl⟩ := own_some hrow (by omega)
    rw [List.nil_append] at hrow
    have hb : Below w.heap.size w w' := (((Below.refl _ _).alloc (Nat.le_refl _) _).alloc (by simp) _).grown hgr (by simp; omega) (fun k hk => by simp [Value.ownBlock] at hk; omega)
    obtain ⟨h1, h2⟩ := HE.out w' gr cap hrow hb
    refine ⟨?_, gr, rfl, by simpa [HX.out] using h1, h2⟩
    rw [hgr.block w.heap.size (by simp; omega) (by simp [Value.ownBlock]), Below.heap_alloc _ _ _ (by simp)]
    exact heap_alloc_new _ _
  have h1 : (i : Int) < n := by omega
  have h0 : (0 : Int) ≤ i := by omega
  have h2 : (n : Int) ≤ 8 := by omega
  clear H hn hg hi0 hz0 hz1 hz2 HE
  generalize rcells L = xs at *
  generalize lcells x = cs at *
  generalize L.set i x = L' at *
  go_enter Try.func22, Try.ntmps22
  go_wp2_with (first
    | (at_builtin; refine wpList_append_to _ rfl (.tmp 8) (.tmp 9) 36 rfl w.heap.size 45 i0 _ 4 16 Try.underlying36 HI.out Hz0.out Hz1.out Hz2.out rfl (by decide) (.slice (some ⟨w.heap.size + 1, 0, none⟩) 0 0) 0 [] rfl (own_empty2 (Nat.le_refl _)) (some ⟨g, 0, none⟩) n c xs rfl (fun h => by cases h) HL.out (HN.out _ _) HL1.out (by unfold maxLen; omega) (by omega) (by simp; omega) n (by omega) ?_; intro A cap w1 hrow hgr; obtain ⟨hbox, gr, rfl, hth, hnext⟩ := HE2.out _ _ _ hrow hgr; have Hnext := Lib.hid hnext; have Hth := Lib.hid hth; have Hbox := Lib.hid hbox; clear hrow hgr hnext hth hbox)
    | (refine wpList_load_row rfl 45 (.tmp 5) rfl w.heap.size rfl 45 cs.toArray (0, 0) _ Hbox.out Try.underlying45 rfl (size_line.trans (by simp [HX.out])) ?_)
    | (refine wpList_store_mid rfl 45 (.tmp 14) (.tmp 13) rfl gr (i * 4) cs.toArray rfl rfl Hth.out (size_line.trans (by simp [HX.out])) (all_oneCell_toArray HX1.out) ?_))
  go_ret
  exact ⟨gr, cap, rfl, Hnext.out⟩
end
end Go.Proofs.Ytmdkodgbckblfaa
