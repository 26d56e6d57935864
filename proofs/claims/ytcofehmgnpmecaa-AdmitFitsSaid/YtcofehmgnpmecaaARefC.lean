/-
  The document's answers: Advance, Release.
-/
import Derived.Test.YtcofehmgnpmecaaARefB
namespace Go.Proofs.Ytcofehmgnpmecaa
open Go.ChangeShapes Go.WideShapes Go.ChangeAt Go.RowKit Ap

/-- A book is handed back, and a number: its list is where it was, or in new memory. -/
def DocP (S : Nat → Prop) (now : Int) (L : List En) (E : Int) (w : World) (e : Ending) (w' : World) : Prop :=
  ∃ A n c, e = .returned (.tuple #[.agg #[.int .i64 now, .slice A n c], .int .i64 E]) ∧ Dc (fun k => S k ∨ (w.heap.size ≤ k ∧ k < w'.heap.size)) w' A n c L ∧ Below w.heap.size w w'
/-- append of a list onto an empty row. -/
theorem wpList_copy_en (w : World) {ops : Array Oper} {rest : List Oper} {o : Oper} {a : Act} {Q : Exit → Act → World → Prop} (hgd : o.guard = none) (s x : Operand)
    (ho : o.op = .call { callee := .builtin .append, args := #[s, x], argTypes := #[31, 31] })
    (base : Nat) (v : Value) (hs : a.eval s = v) (hown : w.ownsRow base 67 4 v 0 [])
    {S : Nat → Prop} (A : Option Addr) (n c : Nat) (L : List En) (hx : a.eval x = .slice A n c) (D : Dc S w A n c L) (hm : n ≤ 1000000) (hbase : base ≤ w.heap.size)
    (h : ∀ A' cap w', w'.ownsRow base 67 4 (.slice A' n cap) n (rcells L) → w.grownBy w' v.ownBlock → wpList Try.prog ops Q rest (a.put o.dst (.slice A' n cap)) w') : wpList Try.prog ops Q (o :: rest) a w := by
  obtain ⟨i0, hi, hz0, hz1, hz2⟩ := info_parts info_entry
  refine wpList_append_to w hgd s x _ ho base 67 i0 _ 4 32 Try.underlying31 hi hz0 hz1 hz2 rfl (by decide) v 0 [] hs hown A n c (rcells L) hx D.nil (by rw [rcells_len, D.len]) D.news (rcells_one _) (by unfold maxLen; omega) (by omega) hbase n (Nat.zero_add _) ?_
  intro A' cap w' h1 h2
  exact h A' cap w' h1 h2

section
variable {S T : Nat → Prop} {w w' w1 w2 : World} {A : Option Addr} {n c : Nat} {L : List En} {now : Int} {X Y : Value}
theorem Bxs.give {A' : Option Addr} {n' c' : Nat} {now' : Int} {M : List En} (B : Bxs w now A n c X Y w') (D : Dc T w' A' n' c' M) (hS : ∀ k, S k → k < w.heap.size) (hT : ∀ k, T k → S k ∨ (w.heap.size + 2 ≤ k ∧ k < w'.heap.size)) (E : Int) :
    ∃ w9, (w'.setCell ⟨w.heap.size + 1, 0, none⟩ (.int .i64 now')).setCell ⟨w.heap.size + 1, 1, none⟩ (.slice A' n' c') = w9 ∧ w9.cell? ⟨w.heap.size + 1, 0, none⟩ = some (.int .i64 now') ∧ w9.cell? ⟨w.heap.size + 1, 1, none⟩ = some (.slice A' n' c') ∧ Hid (DocP S now' M E w (.returned (.tuple #[.agg #[.int .i64 now', .slice A' n' c'], .int .i64 E])) w9) := by
  obtain ⟨s0, s1⟩ := outs_seen (x := .int .i64 now') (y := .slice A' n' c') B.b1
  refine ⟨_, rfl, s0, s1, Lib.hid ⟨A', n', c', rfl, D.kept (fun k hk => ?_) (fun k hk => ?_), (B.below.setCell (Nat.le_succ _) _).setCell (Nat.le_succ _) _⟩⟩
  · have hne : k ≠ w.heap.size + 1 := by
      rcases hT k hk with h | h
      · have := hS k h
        omega
      · omega
    rw [Below.heap_setCell _ _ _ _ hne, Below.heap_setCell _ _ _ _ hne]
  · rcases hT k hk with h | h
    · exact Or.inl h
    · refine Or.inr ⟨by omega, ?_⟩
      have : ((w'.setCell ⟨w.heap.size + 1, 0, none⟩ (.int .i64 now')).setCell ⟨w.heap.size + 1, 1, none⟩ (.slice A' n' c')).heap.size = w'.heap.size := by simp [World.setCell]
      omega
/-- The box is another one. -/
theorem Bxs.turn {now' : Int} (B : Bxs w now A n c X Y w') : Bxs w now' A n c X Y (w'.setCell ⟨w.heap.size, 0, none⟩ (.int .i64 now')) := by
  refine ⟨?_, B.put, B.below.setCell (Nat.le_refl _) _, by simp [World.setCell]; exact B.size⟩
  rw [heap_setCell_same _ w.heap.size 0 _ _ _ B.b0]
  rfl
theorem Bxs.list_put {A' : Option Addr} {n' c' : Nat} (B : Bxs w now A n c X Y w') : Bxs w now A' n' c' X Y (w'.setCell ⟨w.heap.size, 1, none⟩ (.slice A' n' c')) := by
  refine ⟨?_, B.put, B.below.setCell (Nat.le_refl _) _, by simp [World.setCell]; exact B.size⟩
  rw [heap_setCell_same _ w.heap.size 1 _ _ _ B.b0]
  rfl

theorem docp_same (D : Dc S w A n c L) (hS : ∀ k, S k → k < w.heap.size) (E : Int) (hb : Below w.heap.size w w') : DocP S now L E w (.returned (.tuple #[.agg #[.int .i64 now, .slice A n c], .int .i64 E])) w' :=
  ⟨A, n, c, rfl, D.kept (fun k hk => hb.block k (hS k hk)) (fun _ h => Or.inl h), hb⟩
theorem two_boxes (w : World) (o o' : Obj) : Below w.heap.size w ((w.alloc o).alloc o') := ((Below.refl _ _).alloc (Nat.le_refl _) o).alloc (by simp) o'

set_option maxHeartbeats 1000000 in
theorem radvance_any (D : Dc S w A n c L) (hS : ∀ k, S k → k < w.heap.size) (hn : n ≤ 900000) (t : Int) :
    Calls Try.prog 12 #[.agg #[.int .i64 now, .slice A n c], .int .i64 t] w (DocP S (advT now t) (advL L now t) (advN L now t) w) := by
  by_cases hlt : t < now
  · have e1 : Hid (advT now t = now ∧ advL L now t = L ∧ advN L now t = 0) := Lib.hid ⟨if_pos hlt, if_pos hlt, if_pos hlt⟩
    have HE : Hid (∀ w', Below w.heap.size w w' → DocP S now L 0 w (.returned (.tuple #[.agg #[.int .i64 now, .slice A n c], .int .i64 0])) w') := Lib.hid fun w' hb => docp_same D hS 0 hb
    rw [e1.out.1, e1.out.2.1, e1.out.2.2]
    clear D hS e1
    go_enter Try.func12, Try.ntmps12
    go_wp2
    refine bodyPost_ret (v := .tuple #[.agg #[.int .i64 now, .slice A n c], .int .i64 0]) (by simp [results, Try.results12, go_sem]) rfl ?_
    exact HE.out _ (two_boxes _ _ _)
  · have e1 : Hid (advT now t = t ∧ advL L now t = over L t ∧ advN L now t = (L.length : Int) - (over L t).length) := Lib.hid ⟨if_neg hlt, if_neg hlt, if_neg hlt⟩
    rw [e1.out.1, e1.out.2.1, e1.out.2.2]
    have B1 := Bxs.made w t A n c (.int .i64 0) (.slice none 0 0)
    obtain ⟨W1, hW1⟩ : ∃ W1, (w.alloc (rBox t A n c)).alloc (.cells #[.int .i64 0, .slice none 0 0] 33 (0, 0)) = W1 := ⟨_, rfl⟩
    rw [hW1] at B1
    have HW1 := Lib.hid hW1
    have D2 := B1.list D hS
    have HC := Lib.hid (rover_any (now := t) D2 (fun k hk => by have := hS k hk; have := B1.size; omega) hn)
    have hN : Hid (∀ w2 A' n' c', Below W1.heap.size W1 w2 → w2.ownsRow W1.heap.size 67 4 (.slice A' n' c') n' (rcells (over L t)) → (w2.cell? ⟨w.heap.size + 1, 0, none⟩ = some (.int .i64 0) ∧ w2.cell? ⟨w.heap.size + 1, 1, none⟩ = some (.slice none 0 0) ∧ w2.frozen? ⟨w.heap.size + 1, 0, none⟩ = false ∧ w2.frozen? ⟨w.heap.size + 1, 1, none⟩ = false) ∧ ∃ w9, (w2.setCell ⟨w.heap.size + 1, 0, none⟩ (.int .i64 t)).setCell ⟨w.heap.size + 1, 1, none⟩ (.slice A' n' c') = w9 ∧ w9.cell? ⟨w.heap.size + 1, 0, none⟩ = some (.int .i64 t) ∧ w9.cell? ⟨w.heap.size + 1, 1, none⟩ = some (.slice A' n' c') ∧ Hid (DocP S t (over L t) ((L.length : Int) - (over L t).length) w (.returned (.tuple #[.agg #[.int .i64 t, .slice A' n' c'], .int .i64 ((L.length : Int) - (over L t).length)])) w9)) := Lib.hid fun w2 A' n' c' hb hr => by
      have hz := B1.size
      have B2 := B1.later (hb.mono hz)
      exact ⟨⟨B2.outs.1.1, B2.outs.2.1, B2.outs.1.2, B2.outs.2.2⟩, B2.give (Dc.own hr) hS (fun k hk => Or.inr ⟨by omega, hk.2⟩) _⟩
    unfold rBox at HW1
    clear hW1 D D2 hS B1 e1
    go_enter Try.func12, Try.ntmps12
    go_wp2_with fail
    rw [HW1.out]
    refine HC.out.mono ?_
    rintro e w2 ⟨A', n', c', rfl, hr, hl', hb2⟩
    obtain ⟨⟨x0, x1, y0, y1⟩, w9, hw9, s0, s1, HE⟩ := hN.out w2 A' n' c' hb2 hr
    have HW9 := Lib.hid hw9
    clear hr hl' hb2 hw9 hN
    generalize (L.length : Int) - (over L t).length = E at *
    go_wp2
    rw [show (w2.setCell ⟨w.heap.size + 1, 0, none⟩ (.int .i64 t)).setCell ⟨w.heap.size + 1, 1, none⟩ (.slice A' n' c') = w9 from HW9.out]
    refine bodyPost_ret (v := .tuple #[.agg #[.int .i64 t, .slice A' n' c'], .int .i64 E]) (by simp [results, Try.results12, go_sem, s0, s1]) rfl ?_
    exact HE.out

set_option maxHeartbeats 2000000 in
theorem rrelease_any (D : Dc S w A n c L) (hS : ∀ k, S k → k < w.heap.size) (hn : n ≤ 900000) (q t : Int) :
    Calls Try.prog 11 #[.agg #[.int .i64 now, .slice A n c], .int .i64 q, .int .i64 t] w (DocP S now (relL L q t now) (relE L q) w) := by
  have B0 := Bxs.made w now A n c (.int .i64 0) (.slice none 0 0)
  obtain ⟨W0, hW0⟩ : ∃ W0, (w.alloc (rBox now A n c)).alloc (.cells #[.int .i64 0, .slice none 0 0] 33 (0, 0)) = W0 := ⟨_, rfl⟩
  rw [hW0] at B0
  have HW0 := Lib.hid hW0
  have D0 := B0.list D hS
  have hS0 : ∀ k, S k → k < W0.heap.size := fun k hk => by have := hS k hk; have := B0.size; omega
  have HF := Lib.hid (rfind_any (now := now) D0 hS0 hn q)
  unfold rBox at HW0
  cases hf : findO L q with
  | none =>
    have e1 : Hid (relL L q t now = L ∧ relE L q = 6) := Lib.hid ⟨by rw [relL, hf], by rw [relE, hf]; rfl⟩
    rw [e1.out.1, e1.out.2]
    rw [findV_none hf] at HF
    have HN : Hid (∀ w1, Below W0.heap.size W0 w1 → (w1.cell? ⟨w.heap.size, 0, none⟩ = some (.int .i64 now) ∧ w1.cell? ⟨w.heap.size, 1, none⟩ = some (.slice A n c) ∧ w1.cell? ⟨w.heap.size + 1, 0, none⟩ = some (.int .i64 0) ∧ w1.cell? ⟨w.heap.size + 1, 1, none⟩ = some (.slice none 0 0) ∧ w1.frozen? ⟨w.heap.size + 1, 0, none⟩ = false ∧ w1.frozen? ⟨w.heap.size + 1, 1, none⟩ = false) ∧ ∃ w9, (w1.setCell ⟨w.heap.size + 1, 0, none⟩ (.int .i64 now)).setCell ⟨w.heap.size + 1, 1, none⟩ (.slice A n c) = w9 ∧ w9.cell? ⟨w.heap.size + 1, 0, none⟩ = some (.int .i64 now) ∧ w9.cell? ⟨w.heap.size + 1, 1, none⟩ = some (.slice A n c) ∧ Hid (DocP S now L 6 w (.returned (.tuple #[.agg #[.int .i64 now, .slice A n c], .int .i64 6])) w9)) := Lib.hid fun w1 hb => by
      have B1 := B0.later (hb.mono B0.size)
      exact ⟨⟨B1.cells.1, B1.cells.2.1, B1.outs.1.1, B1.outs.2.1, B1.outs.1.2, B1.outs.2.2⟩, B1.give (B1.list D hS) hS (fun k hk => Or.inl hk) 6⟩
    clear hf e1 D D0 hS hS0 B0 hW0
    go_enter Try.func11, Try.ntmps11
    go_wp2_with fail
    rw [HW0.out]
    refine HF.out.mono ?_
    rintro e w1 ⟨rfl, hb1⟩
    obtain ⟨⟨b0, b1, x0, x1, y0, y1⟩, w9, hw9, s0, s1, HE⟩ := HN.out w1 hb1
    have HW9 := Lib.hid hw9
    clear hb1 hw9 HN HF
    go_wp2
    rw [show (w1.setCell ⟨w.heap.size + 1, 0, none⟩ (.int .i64 now)).setCell ⟨w.heap.size + 1, 1, none⟩ (.slice A n c) = w9 from HW9.out]
    refine bodyPost_ret (v := .tuple #[.agg #[.int .i64 now, .slice A n c], .int .i64 6]) (by simp [results, Try.results11, go_sem, s0, s1]) rfl ?_
    exact HE.out
  | some i =>
    obtain ⟨hi, -⟩ := findO_at hf
    rw [D.len] at hi
    have e1 : Hid (relL L q t now = over (Ap.mark L i t) now ∧ relE L q = 0) := Lib.hid ⟨by rw [relL, hf], by rw [relE, hf]; rfl⟩
    rw [e1.out.1, e1.out.2]
    rw [findV_some hf] at HF
    have hmk : (Ap.mark L i t).length = n := by rw [Ap.mark, List.length_set]; exact D.len
    have hmc := rcells_mark L i t (by rw [D.len]; exact hi)
    have hat := rcells_at L i (by rw [D.len]; exact hi)
    have HLn := Lib.hid D.len
    generalize Ap.mark L i t = M at *
    have HN : Hid (∀ w1, Below W0.heap.size W0 w1 → (w1.cell? ⟨w.heap.size, 1, none⟩ = some (.slice A n c) ∧ w.heap.size < w1.heap.size) ∧ w.heap.size + 2 ≤ w1.heap.size ∧ Hid (Dc S (w1.alloc (.cells #[] 67 (0, 0))) A n c L) ∧ Hid (Bxs w now A n c (.int .i64 0) (.slice none 0 0) w1)) := Lib.hid fun w1 hb => by
      have B1 := B0.later (hb.mono B0.size)
      have hz := B1.size
      exact ⟨⟨B1.cells.2.1, by omega⟩, B1.size, Lib.hid ((B1.list D hS).kept (fun k hk => Below.heap_alloc _ _ _ (by have := hS k hk; omega)) fun _ h => h), Lib.hid B1⟩
    have HN2 : Hid (∀ w1 A1 c1 w2, Bxs w now A n c (.int .i64 0) (.slice none 0 0) w1 → w2.ownsRow (w.heap.size + 2) 67 4 (.slice A1 n c1) n (rcells L) → (w1.alloc (.cells #[] 67 (0, 0))).grownBy w2 (Value.slice (some ⟨w1.heap.size, 0, none⟩) 0 0).ownBlock →
        ∃ g, A1 = some ⟨g, 0, none⟩ ∧ (w2.cell? ⟨w.heap.size, 1, none⟩ = some (.slice A n c) ∧ w2.frozen? ⟨w.heap.size, 1, none⟩ = false ∧ w2.cell? ⟨g, i * 4 + 2, none⟩ = some (.bool (eat L i).gone) ∧ w2.cell? ⟨g, i * 4 + 3, none⟩ = some (.int .i64 (eat L i).till) ∧ w2.frozen? ⟨g, i * 4 + 2, none⟩ = false ∧ w2.frozen? ⟨g, i * 4 + 3, none⟩ = false ∧ w2.cell? ⟨w.heap.size, 0, none⟩ = some (.int .i64 now) ∧ g ≠ w.heap.size ∧ n ≤ c1) ∧
        ∃ w5, ((w2.setCell ⟨w.heap.size, 1, none⟩ (.slice (some ⟨g, 0, none⟩) n c1)).setCell ⟨g, i * 4 + 2, none⟩ (.bool true)).setCell ⟨g, i * 4 + 3, none⟩ (.int .i64 t) = w5 ∧ Hid (Calls Try.prog 25 #[.agg #[.int .i64 now, .slice (some ⟨g, 0, none⟩) n c1]] w5 (RBk now (over M now) ((M.length : Int) - (over M now).length) w5)) ∧ Hid (Bxs w now (some ⟨g, 0, none⟩) n c1 (.int .i64 0) (.slice none 0 0) w5)) := Lib.hid fun w1 A1 c1 w2 B1 hr hg => by
      have hz := B1.size
      have hbl : Below (w.heap.size + 2) w1 w2 := ((Below.refl _ w1).alloc hz _).grown hg (by simp; omega) (fun k hk => by simp [Value.ownBlock] at hk; omega)
      have B2 := B1.later hbl
      obtain ⟨A', c', hv, hc1, -⟩ := own_shape hr
      simp only [Value.slice.injEq, true_and] at hv
      obtain ⟨rfl, rfl⟩ := hv
      obtain ⟨g, rfl, hgS, d0, d1, d2, d3⟩ := (Dc.own hr).cells hi
      have hgne : g ≠ w.heap.size := by omega
      have hr3 := ownsRow_setCell_other hr (a := ⟨w.heap.size, 1, none⟩) (by simp [Value.ownBlock]; omega) (.slice (some ⟨g, 0, none⟩) n c1)
      have hr5 := ((hr3.stored (i * 4 + 2) (.bool true)).1.stored (i * 4 + 3) (.int .i64 t)).1
      rw [hmc] at hr5
      have B5 := ((B2.list_put (A' := some ⟨g, 0, none⟩) (n' := n) (c' := c1)).later (((Below.refl _ _).setCell (p := ⟨g, i * 4 + 2, none⟩) hgS.1 (.bool true)).setCell (p := ⟨g, i * 4 + 3, none⟩) hgS.1 (.int .i64 t)))
      refine ⟨g, rfl, ⟨B2.cells.2.1, B2.cells.2.2, d2, d3, hr.frozenAt _, hr.frozenAt _, B2.cells.1, hgne, hc1⟩, _, rfl, Lib.hid (rover_any (Dc.own hr5) (fun k hk => hk.2) hn), Lib.hid B5⟩
    have HN3 : Hid (∀ w5 g c1 w6 A3 n3 c3, Bxs w now (some ⟨g, 0, none⟩) n c1 (.int .i64 0) (.slice none 0 0) w5 → Below w5.heap.size w5 w6 → w6.ownsRow w5.heap.size 67 4 (.slice A3 n3 c3) n3 (rcells (over M now)) → (w6.cell? ⟨w.heap.size, 0, none⟩ = some (.int .i64 now) ∧ w6.cell? ⟨w.heap.size, 1, none⟩ = some (.slice (some ⟨g, 0, none⟩) n c1) ∧ w6.frozen? ⟨w.heap.size, 0, none⟩ = false ∧ w6.frozen? ⟨w.heap.size, 1, none⟩ = false ∧ w6.cell? ⟨w.heap.size + 1, 0, none⟩ = some (.int .i64 0) ∧ w6.cell? ⟨w.heap.size + 1, 1, none⟩ = some (.slice none 0 0) ∧ w6.frozen? ⟨w.heap.size + 1, 0, none⟩ = false ∧ w6.frozen? ⟨w.heap.size + 1, 1, none⟩ = false) ∧
        ∃ w9, ((((w6.setCell ⟨w.heap.size, 0, none⟩ (.int .i64 now)).setCell ⟨w.heap.size, 1, none⟩ (.slice A3 n3 c3)).setCell ⟨w.heap.size + 1, 0, none⟩ (.int .i64 now)).setCell ⟨w.heap.size + 1, 1, none⟩ (.slice A3 n3 c3)) = w9 ∧ w9.cell? ⟨w.heap.size + 1, 0, none⟩ = some (.int .i64 now) ∧ w9.cell? ⟨w.heap.size + 1, 1, none⟩ = some (.slice A3 n3 c3) ∧ Hid (DocP S now (over M now) 0 w (.returned (.tuple #[.agg #[.int .i64 now, .slice A3 n3 c3], .int .i64 0])) w9)) := Lib.hid fun w5 g c1 w6 A3 n3 c3 B5 hb hr => by
      have hz := B5.size
      have B6 := B5.later (hb.mono hz)
      have B8 := (B6.turn (now' := now)).list_put (A' := A3) (n' := n3) (c' := c3)
      have hsz : ((w6.setCell ⟨w.heap.size, 0, none⟩ (.int .i64 now)).setCell ⟨w.heap.size, 1, none⟩ (.slice A3 n3 c3)).heap.size = w6.heap.size := by simp [World.setCell]
      have D8 : Dc (fun k => w5.heap.size ≤ k ∧ k < w6.heap.size) ((w6.setCell ⟨w.heap.size, 0, none⟩ (.int .i64 now)).setCell ⟨w.heap.size, 1, none⟩ (.slice A3 n3 c3)) A3 n3 c3 (over M now) := (Dc.own hr).kept (fun k hk => by rw [Below.heap_setCell _ _ _ _ (show k ≠ w.heap.size by omega), Below.heap_setCell _ _ _ _ (show k ≠ w.heap.size by omega)]) fun _ h => h
      refine ⟨⟨B6.cells.1, B6.cells.2.1, (bx_cell (j := 0) B6.b0 rfl).2, B6.cells.2.2, B6.outs.1.1, B6.outs.2.1, B6.outs.1.2, B6.outs.2.2⟩, B8.give D8 hS (fun k hk => Or.inr ⟨by omega, by rw [hsz]; exact hk.2⟩) 0⟩
    have hii : (i : Int) < n := by omega
    have hi0 : (0 : Int) ≤ i := by omega
    have hi9 : (i : Int) ≤ 900000 := by omega
    have hn9 : n ≤ 1000000 := by omega
    clear hf e1 D D0 hS hS0 B0 hW0 hmc hat hmk HLn
    go_enter Try.func11, Try.ntmps11
    go_wp2_with fail
    rw [HW0.out]
    refine HF.out.mono ?_
    rintro e w1 ⟨rfl, hb1⟩
    obtain ⟨⟨b1, l1⟩, z1, HD1, HB1⟩ := HN.out w1 hb1
    have Hemp : Hid ((w1.alloc (.cells #[] 67 (0, 0))).ownsRow (w.heap.size + 2) 67 4 (.slice (some ⟨w1.heap.size, 0, none⟩) 0 0) 0 []) := Lib.hid (own_empty z1)
    clear hb1 HN HF
    go_wp2_with (at_builtin; refine wpList_copy_en _ rfl _ _ rfl (w.heap.size + 2) (.slice (some ⟨w1.heap.size, 0, none⟩) 0 0) rfl Hemp.out A n c L rfl HD1.out hn9 (by simp; omega) ?_; intro A1 c1 w2 hr2 hg2; obtain ⟨g, rfl, ⟨k1, k2, k3, k4, k5, k6, k7, k8, k9⟩, w5, hw5, HC5, HB5⟩ := HN2.out w1 A1 c1 w2 HB1.out hr2 hg2; clear hr2 hg2; have HW5 := Lib.hid hw5; clear hw5)
    rw [show ((w2.setCell ⟨w.heap.size, 1, none⟩ (.slice (some ⟨g, 0, none⟩) n c1)).setCell ⟨g, i * 4 + 2, none⟩ (.bool true)).setCell ⟨g, i * 4 + 3, none⟩ (.int .i64 t) = w5 from HW5.out]
    refine HC5.out.mono ?_
    rintro e w6 ⟨A3, n3, c3, rfl, hr6, hl6, hb6⟩
    obtain ⟨⟨m0, m1, m2, m3, m4, m5, m6, m7⟩, w9, hw9, s0, s1, HE⟩ := HN3.out w5 g c1 w6 A3 n3 c3 HB5.out hb6 hr6
    have HW9 := Lib.hid hw9
    clear hr6 hl6 hb6 hw9 k1 k2 k3 k4 k5 k6 k7 HN2 HN3
    generalize (M.length : Int) - (over M now).length = E at *
    go_wp2
    rw [show ((((w6.setCell ⟨w.heap.size, 0, none⟩ (.int .i64 now)).setCell ⟨w.heap.size, 1, none⟩ (.slice A3 n3 c3)).setCell ⟨w.heap.size + 1, 0, none⟩ (.int .i64 now)).setCell ⟨w.heap.size + 1, 1, none⟩ (.slice A3 n3 c3)) = w9 from HW9.out]
    refine bodyPost_ret (v := .tuple #[.agg #[.int .i64 now, .slice A3 n3 c3], .int .i64 0]) (by simp [results, Try.results11, go_sem, s0, s1]) rfl ?_
    exact HE.out
end
end Go.Proofs.Ytcofehmgnpmecaa
