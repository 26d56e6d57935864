/-
  The document's answers: Admit.
-/
import Derived.Test.YtcofehmgnpmecaaARefC
import Derived.Test.YtcofehmgnpmecaaAWalksE
import Derived.Deep.RegionHeld3
namespace Go.Proofs.Ytcofehmgnpmecaa
open Go.ChangeShapes Go.WideShapes Go.ChangeAt Go.RowKit Ap

/-- append of a list onto an empty row, of one onto a row: at a step of a region that draws its order. -/
theorem step_copy_en (w : World) {ops : Array Oper} {o : Oper} {a : Act} {K : Act → World → Prop} {Q : Exit → Act → World → Prop} {F : Prop} (hgd : o.guard = none) (s x : Operand)
    (ho : o.op = .call { callee := .builtin .append, args := #[s, x], argTypes := #[31, 31] })
    (base : Nat) (v : Value) (hs : a.eval s = v) (hown : w.ownsRow base 67 4 v 0 [])
    {S : Nat → Prop} (A : Option Addr) (n c : Nat) (L : List En) (hx : a.eval x = .slice A n c) (D : Dc S w A n c L) (hm : n ≤ 1000000) (hbase : base ≤ w.heap.size)
    (h : ∀ A' cap w', w'.ownsRow base 67 4 (.slice A' n cap) n (rcells L) → w.grownBy w' v.ownBlock → K (a.put o.dst (.slice A' n cap)) w') :
    if Region.wanted o (yielded ops a.tmps) = true then Oper.wp Try.prog o a w K Q else F := by
  obtain ⟨i0, hi, hz0, hz1, hz2⟩ := info_parts info_entry
  refine step_append_all w hgd s x _ ho base 67 i0 _ 4 32 Try.underlying31 hi hz0 hz1 hz2 rfl (by decide) v 0 [] hs hown A n c (rcells L) hx D.nil (by rw [rcells_len, D.len]) D.news (rcells_one _) (by unfold maxLen; omega) (by omega) hbase w.heap.size rfl ?_
  intro A' cap w' h1 h2 _
  rw [Nat.zero_add] at h1
  rw [Nat.zero_add]
  exact h A' cap w' h1 h2
theorem step_add_en (w : World) {ops : Array Oper} {o : Oper} {a : Act} {K : Act → World → Prop} {Q : Exit → Act → World → Prop} {F : Prop} (hgd : o.guard = none) (s x : Operand)
    (ho : o.op = .call { callee := .builtin .append, args := #[s, x], argTypes := #[31, 31] })
    (base : Nat) (v : Value) (n : Nat) (L : List En) (hs : a.eval s = v) (hown : w.ownsRow base 67 4 v n (rcells L))
    (g1 : Nat) (hx : a.eval x = .slice (some ⟨g1, 0, none⟩) 1 1) (e : En) (T : TypeId) (hc : w.heap[g1]? = some (.cells (ecells e).toArray T (0, 0))) (hm : n ≤ 1000000) (hbase : base ≤ w.heap.size)
    (h : ∀ A cap w', w'.ownsRow base 67 4 (.slice A (n + 1) cap) (n + 1) (rcells (L ++ [e])) → w.grownBy w' v.ownBlock → K (a.put o.dst (.slice A (n + 1) cap)) w') :
    if Region.wanted o (yielded ops a.tmps) = true then Oper.wp Try.prog o a w K Q else F := by
  obtain ⟨i0, hi, hz0, hz1, hz2⟩ := info_parts info_entry
  refine step_append_all w hgd s x _ ho base 67 i0 _ 4 32 Try.underlying31 hi hz0 hz1 hz2 rfl (by decide) v n _ hs hown (some ⟨g1, 0, none⟩) 1 1 (rcells [e]) hx (fun h => by cases h) (by rw [rcells_len]; rfl) (fun ad had j u hu => ?_) (rcells_one _) (by unfold maxLen; omega) (by omega) hbase w.heap.size rfl ?_
  · cases had
    rw [Addr.add_mid, Nat.zero_add]
    rw [rcells_sole] at hu
    simp only [World.cell?, hc]
    simpa using hu
  · intro A cap w' h1 h2 _
    refine h A cap w' ?_ h2
    rw [rcells_two]
    exact h1

/-- Three boxes, new: the book, the reservation, the result. -/
structure Bx3 (w : World) (now : Int) (A : Option Addr) (n c : Nat) (x y : Int) (w' : World) : Prop where
  b0 : w'.heap[w.heap.size]? = some (rBox now A n c)
  b1 : w'.heap[w.heap.size + 1]? = some (.cells #[.int .i64 x, .int .i64 y] 35 (0, 0))
  b2 : w'.heap[w.heap.size + 1 + 1]? = some (.cells #[.int .i64 0, .slice none 0 0] 33 (0, 0))
  below : Below w.heap.size w w'
  size : w.heap.size + 1 + 1 + 1 ≤ w'.heap.size
section
variable {S T : Nat → Prop} {w w' w1 w2 : World} {A : Option Addr} {n c : Nat} {L : List En} {now x y : Int}
theorem Bx3.later (B : Bx3 w now A n c x y w') (hb : Below (w.heap.size + 1 + 1 + 1) w' w2) : Bx3 w now A n c x y w2 :=
  ⟨(hb.block _ (by omega)).trans B.b0, (hb.block _ (by omega)).trans B.b1, (hb.block _ (by omega)).trans B.b2, B.below.trans (hb.mono (by omega)), Nat.le_trans B.size hb.size⟩
theorem Bx3.made (w : World) (now : Int) (A : Option Addr) (n c : Nat) (x y : Int) : Bx3 w now A n c x y (((w.alloc (rBox now A n c)).alloc (.cells #[.int .i64 x, .int .i64 y] 35 (0, 0))).alloc (.cells #[.int .i64 0, .slice none 0 0] 33 (0, 0))) := by
  have h1 := heap_alloc_new (w.alloc (rBox now A n c)) (.cells #[.int .i64 x, .int .i64 y] 35 (0, 0))
  have h2 := heap_alloc_new ((w.alloc (rBox now A n c)).alloc (.cells #[.int .i64 x, .int .i64 y] 35 (0, 0))) (.cells #[.int .i64 0, .slice none 0 0] 33 (0, 0))
  have e : (w.alloc (rBox now A n c)).heap.size = w.heap.size + 1 := by simp
  have e2 : ((w.alloc (rBox now A n c)).alloc (.cells #[.int .i64 x, .int .i64 y] 35 (0, 0))).heap.size = w.heap.size + 1 + 1 := by simp
  rw [e] at h1
  rw [e2] at h2
  refine ⟨?_, ?_, h2, (two_boxes w _ _).alloc (by simp; omega) _, by simp⟩
  · rw [Below.heap_alloc _ _ _ (by simp; omega), Below.heap_alloc _ _ _ (by simp)]
    exact heap_alloc_new w _
  · rw [Below.heap_alloc _ _ _ (by simp)]
    exact h1
theorem Bx3.cells (B : Bx3 w now A n c x y w') : (w'.cell? ⟨w.heap.size, 0, none⟩ = some (.int .i64 now) ∧ w'.cell? ⟨w.heap.size, 1, none⟩ = some (.slice A n c) ∧ w'.frozen? ⟨w.heap.size, 1, none⟩ = false) ∧ (w'.cell? ⟨w.heap.size + 1, 0, none⟩ = some (.int .i64 x) ∧ w'.cell? ⟨w.heap.size + 1, 1, none⟩ = some (.int .i64 y)) ∧ w'.cell? ⟨w.heap.size + 1 + 1, 0, none⟩ = some (.int .i64 0) ∧ w'.cell? ⟨w.heap.size + 1 + 1, 1, none⟩ = some (.slice none 0 0) ∧ w'.frozen? ⟨w.heap.size + 1 + 1, 0, none⟩ = false ∧ w'.frozen? ⟨w.heap.size + 1 + 1, 1, none⟩ = false :=
  ⟨⟨(bx_cell (j := 0) B.b0 rfl).1, bx_cell (j := 1) B.b0 rfl⟩, ⟨(bx_cell (j := 0) B.b1 rfl).1, (bx_cell (j := 1) B.b1 rfl).1⟩, (bx_cell (j := 0) B.b2 rfl).1, (bx_cell (j := 1) B.b2 rfl).1, (bx_cell (j := 0) B.b2 rfl).2, (bx_cell (j := 1) B.b2 rfl).2⟩
theorem Bx3.list (B : Bx3 w now A n c x y w') (D : Dc S w A n c L) (hS : ∀ k, S k → k < w.heap.size) : Dc S w' A n c L := D.kept (fun k hk => B.below.block k (hS k hk)) fun _ h => h
theorem Bx3.give {A' : Option Addr} {n' c' : Nat} {M : List En} (hb : Below w.heap.size w w') (hx : w'.heap[w.heap.size + 1 + 1]? = some (.cells #[.int .i64 0, .slice none 0 0] 33 (0, 0))) (D : Dc T w' A' n' c' M) (hS : ∀ k, S k → k < w.heap.size) (hT : ∀ k, T k → S k ∨ (w.heap.size + 1 + 1 + 1 ≤ k ∧ k < w'.heap.size)) (E : Int) :
    ∃ w9, (w'.setCell ⟨w.heap.size + 1 + 1, 0, none⟩ (.int .i64 now)).setCell ⟨w.heap.size + 1 + 1, 1, none⟩ (.slice A' n' c') = w9 ∧ w9.cell? ⟨w.heap.size + 1 + 1, 0, none⟩ = some (.int .i64 now) ∧ w9.cell? ⟨w.heap.size + 1 + 1, 1, none⟩ = some (.slice A' n' c') ∧ Hid (DocP S now M E w (.returned (.tuple #[.agg #[.int .i64 now, .slice A' n' c'], .int .i64 E])) w9) := by
  obtain ⟨s0, s1⟩ := outs_seen (x := .int .i64 now) (y := .slice A' n' c') hx
  refine ⟨_, rfl, s0, s1, Lib.hid ⟨A', n', c', rfl, D.kept (fun k hk => ?_) (fun k hk => ?_), (hb.setCell (by show w.heap.size ≤ w.heap.size + 1 + 1; omega) _).setCell (by show w.heap.size ≤ w.heap.size + 1 + 1; omega) _⟩⟩
  · have hne : k ≠ w.heap.size + 1 + 1 := by
      rcases hT k hk with h | h
      · have := hS k h
        omega
      · omega
    rw [Below.heap_setCell _ _ _ _ hne, Below.heap_setCell _ _ _ _ hne]
  · rcases hT k hk with h | h
    · exact Or.inl h
    · refine Or.inr ⟨by omega, ?_⟩
      have : ((w'.setCell ⟨w.heap.size + 1 + 1, 0, none⟩ (.int .i64 now)).setCell ⟨w.heap.size + 1 + 1, 1, none⟩ (.slice A' n' c')).heap.size = w'.heap.size := by simp [World.setCell]
      omega
/-- Nothing has changed: an error is told. -/
theorem Bx3.same (B : Bx3 w now A n c x y w') (D : Dc S w A n c L) (hS : ∀ k, S k → k < w.heap.size) (E : Int) :
    ∃ w9, (w'.setCell ⟨w.heap.size + 1 + 1, 0, none⟩ (.int .i64 now)).setCell ⟨w.heap.size + 1 + 1, 1, none⟩ (.slice A n c) = w9 ∧ w9.cell? ⟨w.heap.size + 1 + 1, 0, none⟩ = some (.int .i64 now) ∧ w9.cell? ⟨w.heap.size + 1 + 1, 1, none⟩ = some (.slice A n c) ∧ Hid (DocP S now L E w (.returned (.tuple #[.agg #[.int .i64 now, .slice A n c], .int .i64 E])) w9) :=
  Bx3.give B.below B.b2 (B.list D hS) hS (fun _ hk => Or.inl hk) E

set_option maxHeartbeats 4000000 in
theorem radmit_any (D : Dc S w A n c L) (hS : ∀ k, S k → k < w.heap.size) (hn : n ≤ 900000) (hl : Low L) (hu : used L ≤ 4294967296) (q x y : Int) :
    Calls Try.prog 15 #[.agg #[.int .i64 now, .slice A n c], .int .i64 q, .agg #[.int .i64 x, .int .i64 y]] w (DocP S now (admL L q x y) (admE L q x y) w) := by
  have B0 := Bx3.made w now A n c x y
  obtain ⟨W0, hW0⟩ : ∃ W0, ((w.alloc (rBox now A n c)).alloc (.cells #[.int .i64 x, .int .i64 y] 35 (0, 0))).alloc (.cells #[.int .i64 0, .slice none 0 0] 33 (0, 0)) = W0 := ⟨_, rfl⟩
  rw [hW0] at B0
  have HW0 := Lib.hid hW0
  have CR : Hid (∀ w : World, _) := Lib.hid (arright_any x y)
  have hSl : ∀ w' : World, w.heap.size + 1 + 1 + 1 ≤ w'.heap.size → ∀ k, S k → k < w'.heap.size := fun w' h k hk => by have := hS k hk; omega
  have HX : Hid (∀ w1, Below W0.heap.size W0 w1 → Hid (Bx3 w now A n c x y w1) ∧ (w1.cell? ⟨w.heap.size, 0, none⟩ = some (.int .i64 now) ∧ w1.cell? ⟨w.heap.size, 1, none⟩ = some (.slice A n c) ∧ w1.cell? ⟨w.heap.size + 1, 0, none⟩ = some (.int .i64 x) ∧ w1.cell? ⟨w.heap.size + 1, 1, none⟩ = some (.int .i64 y) ∧ w1.cell? ⟨w.heap.size + 1 + 1, 0, none⟩ = some (.int .i64 0) ∧ w1.cell? ⟨w.heap.size + 1 + 1, 1, none⟩ = some (.slice none 0 0) ∧ w1.frozen? ⟨w.heap.size + 1 + 1, 0, none⟩ = false ∧ w1.frozen? ⟨w.heap.size + 1 + 1, 1, none⟩ = false)) := Lib.hid fun w1 hb => by
    have B1 := B0.later (hb.mono B0.size)
    obtain ⟨⟨a, b, -⟩, ⟨d, e⟩, r⟩ := B1.cells
    exact ⟨Lib.hid B1, a, b, d, e, r⟩
  have HFd : Hid (∀ w1, Bx3 w now A n c x y w1 → Calls Try.prog 19 #[.agg #[.int .i64 now, .slice A n c], .int .i64 q] w1 fun e w' => e = .returned (.int .i64 (findV L q)) ∧ Below w1.heap.size w1 w') := Lib.hid fun w1 B1 => rfind_any (B1.list D hS) (hSl w1 B1.size) hn q
  unfold rBox at HW0
  cases hr : rightB x y with
  | false =>
    have e1 : Hid (admL L q x y = L ∧ admE L q x y = 1) := Lib.hid (by
      have h1 : admE L q x y = 1 := by rw [admE, if_pos hr]
      exact ⟨by rw [admL, h1]; rfl, h1⟩)
    rw [e1.out.1, e1.out.2]
    have HN : Hid (∀ w1, Bx3 w now A n c x y w1 → _) := Lib.hid fun w1 B1 => Bx3.same B1 D hS 1
    rw [hr] at CR
    clear hr e1 D hS B0 hW0 HFd hSl hl hu
    go_enter Try.func15, Try.ntmps15
    go_wp2_with fail
    rw [HW0.out]
    refine (CR.out _).mono ?_
    rintro e w1 ⟨rfl, hb1⟩
    obtain ⟨HB1, a0, a1, a2, a3, a4, a5, a6, a7⟩ := HX.out w1 hb1
    obtain ⟨w9, hw9, s0, s1, HE⟩ := HN.out w1 HB1.out
    have HW9 := Lib.hid hw9
    clear hb1 hw9 HN HX
    go_wp2
    rw [show (w1.setCell ⟨w.heap.size + 1 + 1, 0, none⟩ (.int .i64 now)).setCell ⟨w.heap.size + 1 + 1, 1, none⟩ (.slice A n c) = w9 from HW9.out]
    refine bodyPost_ret (v := .tuple #[.agg #[.int .i64 now, .slice A n c], .int .i64 1]) (by simp [results, Try.results15, go_sem, s0, s1]) rfl ?_
    exact HE.out
  | true =>
    rw [hr] at CR
    cases hf : findO L q with
    | some i =>
      have e1 : Hid (admL L q x y = L ∧ admE L q x y = 7) := Lib.hid (by
        have h1 : admE L q x y = 7 := by rw [admE, hr, if_neg (by simp), hf]; rfl
        exact ⟨by rw [admL, h1]; rfl, h1⟩)
      rw [e1.out.1, e1.out.2]
      rw [findV_some hf] at HFd
      have HN : Hid (∀ w1, Bx3 w now A n c x y w1 → _) := Lib.hid fun w1 B1 => Bx3.same B1 D hS 7
      have HX2 : Hid (∀ w1 w2, Bx3 w now A n c x y w1 → Below w1.heap.size w1 w2 → Hid (Bx3 w now A n c x y w2) ∧ (w2.cell? ⟨w.heap.size, 0, none⟩ = some (.int .i64 now) ∧ w2.cell? ⟨w.heap.size, 1, none⟩ = some (.slice A n c) ∧ w2.cell? ⟨w.heap.size + 1 + 1, 0, none⟩ = some (.int .i64 0) ∧ w2.cell? ⟨w.heap.size + 1 + 1, 1, none⟩ = some (.slice none 0 0) ∧ w2.frozen? ⟨w.heap.size + 1 + 1, 0, none⟩ = false ∧ w2.frozen? ⟨w.heap.size + 1 + 1, 1, none⟩ = false)) := Lib.hid fun w1 w2 B1 hb => by
        have B2 := B1.later (hb.mono B1.size)
        obtain ⟨⟨a, b, -⟩, -, r⟩ := B2.cells
        exact ⟨Lib.hid B2, a, b, r⟩
      have hi0 : (0 : Int) ≤ i := by omega
      clear hr hf e1 D hS B0 hW0 hSl hl hu
      go_enter Try.func15, Try.ntmps15
      go_wp2_with fail
      rw [HW0.out]
      refine (CR.out _).mono ?_
      rintro e w1 ⟨rfl, hb1⟩
      obtain ⟨HB1, a0, a1, a2, a3, a4, a5, a6, a7⟩ := HX.out w1 hb1
      clear hb1 HX
      go_wp2_with fail
      refine (HFd.out w1 HB1.out).mono ?_
      rintro e w2 ⟨rfl, hb2⟩
      clear a0 a1 a2 a3 a4 a5 a6 a7
      obtain ⟨HB2, a0, a1, a4, a5, a6, a7⟩ := HX2.out w1 w2 HB1.out hb2
      obtain ⟨w9, hw9, s0, s1, HE⟩ := HN.out w2 HB2.out
      have HW9 := Lib.hid hw9
      clear hb2 hw9 HN HX2
      go_wp2
      rw [show (w2.setCell ⟨w.heap.size + 1 + 1, 0, none⟩ (.int .i64 now)).setCell ⟨w.heap.size + 1 + 1, 1, none⟩ (.slice A n c) = w9 from HW9.out]
      refine bodyPost_ret (v := .tuple #[.agg #[.int .i64 now, .slice A n c], .int .i64 7]) (by simp [results, Try.results15, go_sem, s0, s1]) rfl ?_
      exact HE.out
    | none =>
      rw [findV_none hf] at HFd
      have CS : Hid (∀ w : World, _) := Lib.hid fun w => rshare_any x y w hr
      have hsb := shr_bd hr
      have hul := used_low hl
      have hw : IntKind.u64.wrap (used L + shr x y) = used L + shr x y := IntWalk.u64_in _ (by omega)
      have HX2 : Hid (∀ w1 w2, Bx3 w now A n c x y w1 → Below w1.heap.size w1 w2 → Hid (Bx3 w now A n c x y w2) ∧ (w2.cell? ⟨w.heap.size, 0, none⟩ = some (.int .i64 now) ∧ w2.cell? ⟨w.heap.size, 1, none⟩ = some (.slice A n c) ∧ w2.cell? ⟨w.heap.size + 1, 0, none⟩ = some (.int .i64 x) ∧ w2.cell? ⟨w.heap.size + 1, 1, none⟩ = some (.int .i64 y) ∧ w2.cell? ⟨w.heap.size + 1 + 1, 0, none⟩ = some (.int .i64 0) ∧ w2.cell? ⟨w.heap.size + 1 + 1, 1, none⟩ = some (.slice none 0 0) ∧ w2.frozen? ⟨w.heap.size + 1 + 1, 0, none⟩ = false ∧ w2.frozen? ⟨w.heap.size + 1 + 1, 1, none⟩ = false) ∧ w.heap.size + 1 + 1 < w2.heap.size) := Lib.hid fun w1 w2 B1 hb => by
        have B2 := B1.later (hb.mono B1.size)
        obtain ⟨⟨a, b, -⟩, ⟨d, e⟩, r⟩ := B2.cells
        exact ⟨Lib.hid B2, ⟨a, b, d, e, r⟩, by have := B2.size; omega⟩
      have HU : Hid (∀ w2 w', Bx3 w now A n c x y w2 → Below w2.heap.size w2 w' → Calls Try.prog 17 #[.agg #[.int .i64 now, .slice A n c]] w' fun e w'' => e = .returned (.int .u64 (used L)) ∧ Below w'.heap.size w' w'') := Lib.hid fun w2 w' B2 hb => by
        have B3 := B2.later (hb.mono B2.size)
        exact rused_any (B3.list D hS) (hSl w' B3.size) hn hl hu
      by_cases hov : 4294967296 < used L + shr x y
      · have e1 : Hid (admL L q x y = L ∧ admE L q x y = 24) := Lib.hid (by
          have h1 : admE L q x y = 24 := by rw [admE, hr, if_neg (by simp), hf, if_neg (by simp), if_pos hov]
          exact ⟨by rw [admL, h1]; rfl, h1⟩)
        rw [e1.out.1, e1.out.2]
        have HN : Hid (∀ w1, Bx3 w now A n c x y w1 → _) := Lib.hid fun w1 B1 => Bx3.same B1 D hS 24
        generalize shr x y = s at *
        generalize used L = u at *
        clear hr hf e1 D hS B0 hW0 hSl hl hu hsb hul
        go_enter Try.func15, Try.ntmps15
        go_wp2_with fail
        rw [HW0.out]
        refine (CR.out _).mono ?_
        rintro e w1 ⟨rfl, hb1⟩
        obtain ⟨HB1, a0, a1, a2, a3, a4, a5, a6, a7⟩ := HX.out w1 hb1
        clear hb1 HX
        go_wp2_with fail
        refine (HFd.out w1 HB1.out).mono ?_
        rintro e w2 ⟨rfl, hb2⟩
        clear a0 a1 a2 a3 a4 a5 a6 a7
        obtain ⟨HB2, ⟨a0, a1, a2, a3, a4, a5, a6, a7⟩, z2⟩ := HX2.out w1 w2 HB1.out hb2
        have z21 : w.heap.size + 1 < w2.heap.size := by omega
        have z20 : w.heap.size < w2.heap.size := by omega
        have HU2 : Hid (∀ w', Below w2.heap.size w2 w' → _) := Lib.hid fun w' => HU.out w2 w' HB2.out
        clear hb2 HU
        go_wp2_with fail
        refine wp_region_later w2.heap.size w2 (by kernel_rfl) (by kernel_rfl) (Below.refl _ _) ?_
        repeat (go_big_quiet_step (first
          | (go_at_call 17; (with_reducible refine Calls.later ?_ (HU2.out _ (Later.below _))); exact Nat.le_refl _)
          | (go_at_call 7; (with_reducible refine Calls.later ?_ (CS.out _)); exact Nat.le_refl _)))
        refine wpQuiet_nil ?_
        rintro w3 ⟨n3, rfl⟩
        clear a0 a1 a2 a3 a4 a5 a6 a7
        obtain ⟨HB3, ⟨a0, a1, a2, a3, a4, a5, a6, a7⟩, z3⟩ := HX2.out w2 _ HB2.out n3.below
        generalize n3.world = w3 at *
        obtain ⟨w9, hw9, s0, s1, HE⟩ := HN.out w3 HB3.out
        have HW9 := Lib.hid hw9
        clear hw9 HN HX2 HU2
        go_wp2
        rw [show (w3.setCell ⟨w.heap.size + 1 + 1, 0, none⟩ (.int .i64 now)).setCell ⟨w.heap.size + 1 + 1, 1, none⟩ (.slice A n c) = w9 from HW9.out]
        refine bodyPost_ret (v := .tuple #[.agg #[.int .i64 now, .slice A n c], .int .i64 24]) (by simp [results, Try.results15, go_sem, s0, s1]) rfl ?_
        exact HE.out
      · have e1 : Hid (admL L q x y = L ++ [⟨q, shr x y, false, 0⟩] ∧ admE L q x y = 0) := Lib.hid (by
          have h1 : admE L q x y = 0 := by rw [admE, hr, if_neg (by simp), hf, if_neg (by simp), if_neg hov]
          exact ⟨by rw [admL, h1]; rfl, h1⟩)
        rw [e1.out.1, e1.out.2]
        generalize shr x y = s at *
        generalize used L = u at *
        clear hr hf e1 B0 hW0 hl hu hsb hul
        go_enter Try.func15, Try.ntmps15
        go_wp2_with fail
        rw [HW0.out]
        refine (CR.out _).mono ?_
        rintro e w1 ⟨rfl, hb1⟩
        obtain ⟨HB1, a0, a1, a2, a3, a4, a5, a6, a7⟩ := HX.out w1 hb1
        clear hb1 HX
        go_wp2_with fail
        refine (HFd.out w1 HB1.out).mono ?_
        rintro e w2 ⟨rfl, hb2⟩
        clear a0 a1 a2 a3 a4 a5 a6 a7
        obtain ⟨HB2, ⟨a0, a1, a2, a3, a4, a5, a6, a7⟩, z2⟩ := HX2.out w1 w2 HB1.out hb2
        have z21 : w.heap.size + 1 < w2.heap.size := by omega
        have z20 : w.heap.size < w2.heap.size := by omega
        have HU2 : Hid (∀ w', Below w2.heap.size w2 w' → _) := Lib.hid fun w' => HU.out w2 w' HB2.out
        clear hb2 HU
        go_wp2_with fail
        refine wp_region_later w2.heap.size w2 (by kernel_rfl) (by kernel_rfl) (Below.refl _ _) ?_
        repeat (go_big_quiet_step (first
          | (go_at_call 17; (with_reducible refine Calls.later ?_ (HU2.out _ (Later.below _))); exact Nat.le_refl _)
          | (go_at_call 7; (with_reducible refine Calls.later ?_ (CS.out _)); exact Nat.le_refl _)))
        refine wpQuiet_nil ?_
        rintro w3 ⟨n3, rfl⟩
        clear a0 a1 a2 a3 a4 a5 a6 a7
        obtain ⟨HB3, ⟨a0, a1, a2, a3, a4, a5, a6, a7⟩, z3⟩ := HX2.out w2 _ HB2.out n3.below
        generalize n3.world = w3 at *
        have z31 : w.heap.size + 1 < w3.heap.size := by omega
        have z30 : w.heap.size < w3.heap.size := by omega
        have HS : Hid (∀ w', Below (w.heap.size + 1 + 1 + 1) w3 w' → w'.cell? ⟨w.heap.size, 1, none⟩ = some (.slice A n c) ∧ w'.frozen? ⟨w.heap.size, 1, none⟩ = false ∧ w'.cell? ⟨w.heap.size + 1, 0, none⟩ = some (.int .i64 x) ∧ w'.cell? ⟨w.heap.size + 1, 1, none⟩ = some (.int .i64 y)) := Lib.hid fun w' hb => by
          obtain ⟨⟨-, a, b⟩, ⟨d, e⟩, -⟩ := (HB3.out.later hb).cells
          exact ⟨a, b, d, e⟩
        have HS2 : Hid (∀ w', Below (w.heap.size + 1 + 1 + 1) w3 w' → ∀ v, (w'.setCell ⟨w.heap.size, 1, none⟩ v).cell? ⟨w.heap.size + 1, 0, none⟩ = some (.int .i64 x) ∧ (w'.setCell ⟨w.heap.size, 1, none⟩ v).cell? ⟨w.heap.size + 1, 1, none⟩ = some (.int .i64 y)) := Lib.hid fun w' hb v => by
          have h1 := (Below.heap_setCell w' ⟨w.heap.size, 1, none⟩ v (w.heap.size + 1) (by show w.heap.size + 1 ≠ w.heap.size; omega)).trans (HB3.out.later hb).b1
          exact ⟨(bx_cell (j := 0) h1 rfl).1, (bx_cell (j := 1) h1 rfl).1⟩
        have HZ := Lib.hid HB3.out.size
        have HD3 : Hid (Dc S ((w3.alloc (.cells #[] 67 (0, 0))).drew) A n c L) := Lib.hid ((HB3.out.list D hS).kept (fun k hk => Below.heap_alloc _ _ _ (hSl w3 HB3.out.size k hk)) fun _ h => h)
        have H0 : Hid ((w3.alloc (.cells #[] 67 (0, 0))).drew.ownsRow (w.heap.size + 1 + 1 + 1) 67 4 (.slice (some ⟨w3.heap.size, 0, none⟩) 0 0) 0 []) := Lib.hid (own_drew (own_empty HB3.out.size))
        have HG0 : Hid (Below (w.heap.size + 1 + 1 + 1) w3 (w3.alloc (.cells #[] 67 (0, 0))).drew) := Lib.hid (below_new HB3.out.size (Below.refl _ _) _).drew
        have hn9 : n ≤ 1000000 := by omega
        have HFin : Hid (∀ w6 A6 c6, Below (w.heap.size + 1 + 1 + 1) w3 w6 → w6.ownsRow (w.heap.size + 1 + 1 + 1) 67 4 (.slice A6 (n + 1) c6) (n + 1) (rcells (L ++ [⟨q, s, false, 0⟩])) → (w6.cell? ⟨w.heap.size, 0, none⟩ = some (.int .i64 now) ∧ w6.cell? ⟨w.heap.size + 1 + 1, 0, none⟩ = some (.int .i64 0) ∧ w6.cell? ⟨w.heap.size + 1 + 1, 1, none⟩ = some (.slice none 0 0) ∧ w6.frozen? ⟨w.heap.size + 1 + 1, 0, none⟩ = false ∧ w6.frozen? ⟨w.heap.size + 1 + 1, 1, none⟩ = false) ∧ ∃ w9, ((w6.setCell ⟨w.heap.size, 1, none⟩ (.slice A6 (n + 1) c6)).setCell ⟨w.heap.size + 1 + 1, 0, none⟩ (.int .i64 now)).setCell ⟨w.heap.size + 1 + 1, 1, none⟩ (.slice A6 (n + 1) c6) = w9 ∧ w9.cell? ⟨w.heap.size + 1 + 1, 0, none⟩ = some (.int .i64 now) ∧ w9.cell? ⟨w.heap.size + 1 + 1, 1, none⟩ = some (.slice A6 (n + 1) c6) ∧ Hid (DocP S now (L ++ [⟨q, s, false, 0⟩]) 0 w (.returned (.tuple #[.agg #[.int .i64 now, .slice A6 (n + 1) c6], .int .i64 0])) w9)) := Lib.hid fun w6 A6 c6 hb hr => by
          have B6 := HB3.out.later hb
          obtain ⟨⟨e0, -, -⟩, -, e1, e2, e3, e4⟩ := B6.cells
          refine ⟨⟨e0, e1, e2, e3, e4⟩, Bx3.give (T := fun k => w.heap.size + 1 + 1 + 1 ≤ k ∧ k < w6.heap.size) (B6.below.setCell (Nat.le_refl _) _) ?_ ((Dc.own hr).kept (fun k hk => Below.heap_setCell _ _ _ _ (show k ≠ w.heap.size by omega)) fun _ h => h) hS (fun k hk => Or.inr ⟨hk.1, by simpa [World.setCell] using hk.2⟩) 0⟩
          rw [Below.heap_setCell _ _ _ _ (show w.heap.size + 1 + 1 ≠ w.heap.size by omega)]
          exact B6.b2
        clear a0 a4 a5 a6 a7 D hS hSl HX2 HU2
        go_wp2_with fail
        -- REGION
        refine wp_region_held_drew (S := fun w' => w'.cell? ⟨w.heap.size + 1, 0, none⟩ = some (.int .i64 x) ∧ w'.cell? ⟨w.heap.size + 1, 1, none⟩ = some (.int .i64 y)) (by kernel_rfl) ?_ (fun hHeld => ?_)
        · exact (HS.out _ (Below.refl _ _).drew).2.2
        refine wpAnyH_take (i := 1) (oi := _) (v := ?v0) rfl (by kernel_rfl) (by kernel_rfl) (by kernel_rfl) (fun _ _ _ h => h) (Or.inl ⟨by rfl, ?h0⟩) hHeld ?r0
        case h0 => (intro w0 hSw; (try dsimp only at hSw); go_simp; first | done | with_reducible rfl)
        case r0 =>
        try simp only [Act.put, List.getElem_toArray, List.getElem_cons_succ, List.getElem_cons_zero, List.setIfInBounds_toArray, List.set_cons_zero, List.set_cons_succ]
        refine wpAnyH_take (i := 4) (oi := _) (v := ?v1) rfl (by kernel_rfl) (by kernel_rfl) (by kernel_rfl) (fun _ _ _ h => h) (Or.inl ⟨by rfl, ?h1⟩) hHeld ?r1
        case h1 => (intro w0 hSw; (try dsimp only at hSw); go_simp; first | done | with_reducible rfl)
        case r1 =>
        try simp only [Act.put, List.getElem_toArray, List.getElem_cons_succ, List.getElem_cons_zero, List.setIfInBounds_toArray, List.set_cons_zero, List.set_cons_succ]
        refine wpAnyH_take (i := 5) (oi := _) (v := ?v2) rfl (by kernel_rfl) (by kernel_rfl) (by kernel_rfl) (fun _ _ _ h => h) (Or.inl ⟨by rfl, ?h2⟩) hHeld ?r2
        case h2 => (intro w0 hSw; (try dsimp only at hSw); go_simp; first | done | with_reducible rfl)
        case r2 =>
        try simp only [Act.put, List.getElem_toArray, List.getElem_cons_succ, List.getElem_cons_zero, List.setIfInBounds_toArray, List.set_cons_zero, List.set_cons_succ]
        refine wpAnyH_ready (rs := [0, 2]) (by kernel_rfl) (by simp) ?_
        refine AllReadyH.cons (o := _) rfl (fun K hK => ?_) (AllReadyH.cons (o := _) rfl (fun K hK => ?_) AllReadyH.nil)
        · go_simp
          refine hK.out _ _ ?_ (fun hHeld => ?_)
          · exact (HS.out _ HG0.out).2.2
          clear hK K
          try simp only [Act.put, List.getElem_toArray, List.getElem_cons_succ, List.getElem_cons_zero, List.setIfInBounds_toArray, List.set_cons_zero, List.set_cons_succ]
          refine wpAnyH_ready (rs := [2]) (by kernel_rfl) (by simp) ?_
          refine AllReadyH.cons (o := _) rfl (fun K hK => ?_) AllReadyH.nil
          go_simp
          refine hK.out _ _ ?_ (fun hHeld => ?_)
          · exact (HS.out _ HG0.out).2.2
          clear hK K
          try simp only [Act.put, List.getElem_toArray, List.getElem_cons_succ, List.getElem_cons_zero, List.setIfInBounds_toArray, List.set_cons_zero, List.set_cons_succ]
          refine wpAnyH_ready (rs := [3]) (by kernel_rfl) (by simp) ?_
          refine AllReadyH.cons (o := _) rfl (fun K hK => ?_) AllReadyH.nil
          refine step_copy_en _ rfl (.tmp 24) (.tmp 26) rfl (w.heap.size + 1 + 1 + 1) (.slice (some ⟨w3.heap.size, 0, none⟩) 0 0) rfl H0.out A n c L rfl HD3.out hn9 (by have := HZ.out; simp; omega) ?_
          intro A4 c4 w4 hr4 hg4
          have X4 := Lib.hid hr4
          have G4 := Lib.hid (HG0.out.grown hg4 (by have := HZ.out; simp; omega) (fun k hk => by have := HZ.out; simp [Value.ownBlock] at hk; omega))
          clear hr4 hg4
          refine hK.out _ _ ?_ (fun hHeld => ?_)
          · exact (HS.out _ G4.out).2.2
          clear hK K
          try simp only [Act.put, List.getElem_toArray, List.getElem_cons_succ, List.getElem_cons_zero, List.setIfInBounds_toArray, List.set_cons_zero, List.set_cons_succ]
          refine wpAnyH_ready (rs := [6]) (by kernel_rfl) (by simp) ?_
          refine AllReadyH.cons (o := _) rfl (fun K hK => ?_) AllReadyH.nil
          go_simp
          go_at_call 7
          refine (CS.out _).mono ?_
          rintro e w5 ⟨rfl, hb5⟩
          have G5 := Lib.hid (below_call HZ.out G4.out hb5)
          have X5 := Lib.hid (own_call X4.out hb5)
          clear hb5
          go_wp2_with fail
          refine hK.out _ _ ?_ (fun hHeld => ?_)
          · exact (HS.out _ G5.out).2.2
          clear hK K
          try simp only [Act.put, List.getElem_toArray, List.getElem_cons_succ, List.getElem_cons_zero, List.setIfInBounds_toArray, List.set_cons_zero, List.set_cons_succ]
          refine wpAnyH_take (i := 7) (oi := _) (v := ?v3) rfl (by kernel_rfl) (by kernel_rfl) (by kernel_rfl) (fun _ _ _ h => h) (Or.inl ⟨by rfl, ?h3⟩) hHeld ?r3
          case h3 => (intro w0 hSw; (try dsimp only at hSw); go_simp; first | done | with_reducible rfl)
          case r3 =>
          try simp only [Act.put, List.getElem_toArray, List.getElem_cons_succ, List.getElem_cons_zero, List.setIfInBounds_toArray, List.set_cons_zero, List.set_cons_succ]
          refine wpAnyH_ready (rs := [8]) (by kernel_rfl) (by simp) ?_
          refine AllReadyH.cons (o := _) rfl (fun K hK => ?_) AllReadyH.nil
          go_simp
          refine hK.out _ _ ?_ (fun hHeld => ?_)
          · exact (HS.out _ (below_new HZ.out G5.out _)).2.2
          clear hK K
          try simp only [Act.put, List.getElem_toArray, List.getElem_cons_succ, List.getElem_cons_zero, List.setIfInBounds_toArray, List.set_cons_zero, List.set_cons_succ]
          refine wpAnyH_ready (rs := [9]) (by kernel_rfl) (by simp) ?_
          refine AllReadyH.cons (o := _) rfl (fun K hK => ?_) AllReadyH.nil
          refine step_add_en _ rfl (.tmp 27) (.tmp 32) rfl (w.heap.size + 1 + 1 + 1) (.slice A4 n c4) n L rfl (X5.out.alloc _) w5.heap.size rfl ⟨q, s, false, 0⟩ _ (heap_alloc_new _ _) hn9 (by have := HZ.out; have := G5.out.size; simp; omega) ?_
          intro A6 c6 w6 hr6 hg6
          have X6 := Lib.hid hr6
          have G6 := Lib.hid ((below_new HZ.out G5.out _).grown hg6 (by have := HZ.out; have := G5.out.size; simp; omega) (own_base X5.out))
          obtain ⟨r1, r2, -, -⟩ := HS.out _ G6.out
          clear hr6 hg6
          refine hK.out _ _ ?_ (fun hHeld => ?_)
          · exact (HS.out _ G6.out).2.2
          clear hK K
          try simp only [Act.put, List.getElem_toArray, List.getElem_cons_succ, List.getElem_cons_zero, List.setIfInBounds_toArray, List.set_cons_zero, List.set_cons_succ]
          refine wpAnyH_take (i := 10) (oi := _) (v := ?v4) rfl (by kernel_rfl) (by kernel_rfl) (by kernel_rfl) (fun _ _ _ h => h) (Or.inl ⟨by rfl, ?h4⟩) hHeld ?r4
          case h4 => (intro w0 hSw; (try dsimp only at hSw); go_simp; first | done | with_reducible rfl)
          case r4 =>
          try simp only [Act.put, List.getElem_toArray, List.getElem_cons_succ, List.getElem_cons_zero, List.setIfInBounds_toArray, List.set_cons_zero, List.set_cons_succ]
          refine wpAnyH_ready (rs := [11]) (by kernel_rfl) (by simp) ?_
          refine AllReadyH.cons (o := _) rfl (fun K hK => ?_) AllReadyH.nil
          go_simp
          refine hK.out _ _ ?_ (fun hHeld => ?_)
          · exact HS2.out _ G6.out _
          clear hK K
          refine wpAnyH_done (by kernel_rfl) ?_ _
          obtain ⟨⟨e0, e1, e2, e3, e4⟩, w9, hw9, s0, s1, HE⟩ := HFin.out w6 A6 c6 G6.out X6.out
          have HW9 := Lib.hid hw9
          clear hw9 HFin
          go_wp2
          rw [show ((w6.setCell ⟨w.heap.size, 1, none⟩ (.slice A6 (n + 1) c6)).setCell ⟨w.heap.size + 1 + 1, 0, none⟩ (.int .i64 now)).setCell ⟨w.heap.size + 1 + 1, 1, none⟩ (.slice A6 (n + 1) c6) = w9 from HW9.out]
          refine bodyPost_ret (v := .tuple #[.agg #[.int .i64 now, .slice A6 (n + 1) c6], .int .i64 0]) (by simp [results, Try.results15, go_sem, s0, s1]) rfl ?_
          exact HE.out
        · go_simp
          refine hK.out _ _ ?_ (fun hHeld => ?_)
          · exact (HS.out _ (Below.refl _ _).drew).2.2
          clear hK K
          try simp only [Act.put, List.getElem_toArray, List.getElem_cons_succ, List.getElem_cons_zero, List.setIfInBounds_toArray, List.set_cons_zero, List.set_cons_succ]
          refine wpAnyH_ready (rs := [0]) (by kernel_rfl) (by simp) ?_
          refine AllReadyH.cons (o := _) rfl (fun K hK => ?_) AllReadyH.nil
          go_simp
          refine hK.out _ _ ?_ (fun hHeld => ?_)
          · exact (HS.out _ HG0.out).2.2
          clear hK K
          try simp only [Act.put, List.getElem_toArray, List.getElem_cons_succ, List.getElem_cons_zero, List.setIfInBounds_toArray, List.set_cons_zero, List.set_cons_succ]
          refine wpAnyH_ready (rs := [3]) (by kernel_rfl) (by simp) ?_
          refine AllReadyH.cons (o := _) rfl (fun K hK => ?_) AllReadyH.nil
          refine step_copy_en _ rfl (.tmp 24) (.tmp 26) rfl (w.heap.size + 1 + 1 + 1) (.slice (some ⟨w3.heap.size, 0, none⟩) 0 0) rfl H0.out A n c L rfl HD3.out hn9 (by have := HZ.out; simp; omega) ?_
          intro A4 c4 w4 hr4 hg4
          have X4 := Lib.hid hr4
          have G4 := Lib.hid (HG0.out.grown hg4 (by have := HZ.out; simp; omega) (fun k hk => by have := HZ.out; simp [Value.ownBlock] at hk; omega))
          clear hr4 hg4
          refine hK.out _ _ ?_ (fun hHeld => ?_)
          · exact (HS.out _ G4.out).2.2
          clear hK K
          try simp only [Act.put, List.getElem_toArray, List.getElem_cons_succ, List.getElem_cons_zero, List.setIfInBounds_toArray, List.set_cons_zero, List.set_cons_succ]
          refine wpAnyH_ready (rs := [6]) (by kernel_rfl) (by simp) ?_
          refine AllReadyH.cons (o := _) rfl (fun K hK => ?_) AllReadyH.nil
          go_simp
          go_at_call 7
          refine (CS.out _).mono ?_
          rintro e w5 ⟨rfl, hb5⟩
          have G5 := Lib.hid (below_call HZ.out G4.out hb5)
          have X5 := Lib.hid (own_call X4.out hb5)
          clear hb5
          go_wp2_with fail
          refine hK.out _ _ ?_ (fun hHeld => ?_)
          · exact (HS.out _ G5.out).2.2
          clear hK K
          try simp only [Act.put, List.getElem_toArray, List.getElem_cons_succ, List.getElem_cons_zero, List.setIfInBounds_toArray, List.set_cons_zero, List.set_cons_succ]
          refine wpAnyH_take (i := 7) (oi := _) (v := ?v5) rfl (by kernel_rfl) (by kernel_rfl) (by kernel_rfl) (fun _ _ _ h => h) (Or.inl ⟨by rfl, ?h5⟩) hHeld ?r5
          case h5 => (intro w0 hSw; (try dsimp only at hSw); go_simp; first | done | with_reducible rfl)
          case r5 =>
          try simp only [Act.put, List.getElem_toArray, List.getElem_cons_succ, List.getElem_cons_zero, List.setIfInBounds_toArray, List.set_cons_zero, List.set_cons_succ]
          refine wpAnyH_ready (rs := [8]) (by kernel_rfl) (by simp) ?_
          refine AllReadyH.cons (o := _) rfl (fun K hK => ?_) AllReadyH.nil
          go_simp
          refine hK.out _ _ ?_ (fun hHeld => ?_)
          · exact (HS.out _ (below_new HZ.out G5.out _)).2.2
          clear hK K
          try simp only [Act.put, List.getElem_toArray, List.getElem_cons_succ, List.getElem_cons_zero, List.setIfInBounds_toArray, List.set_cons_zero, List.set_cons_succ]
          refine wpAnyH_ready (rs := [9]) (by kernel_rfl) (by simp) ?_
          refine AllReadyH.cons (o := _) rfl (fun K hK => ?_) AllReadyH.nil
          refine step_add_en _ rfl (.tmp 27) (.tmp 32) rfl (w.heap.size + 1 + 1 + 1) (.slice A4 n c4) n L rfl (X5.out.alloc _) w5.heap.size rfl ⟨q, s, false, 0⟩ _ (heap_alloc_new _ _) hn9 (by have := HZ.out; have := G5.out.size; simp; omega) ?_
          intro A6 c6 w6 hr6 hg6
          have X6 := Lib.hid hr6
          have G6 := Lib.hid ((below_new HZ.out G5.out _).grown hg6 (by have := HZ.out; have := G5.out.size; simp; omega) (own_base X5.out))
          obtain ⟨r1, r2, -, -⟩ := HS.out _ G6.out
          clear hr6 hg6
          refine hK.out _ _ ?_ (fun hHeld => ?_)
          · exact (HS.out _ G6.out).2.2
          clear hK K
          try simp only [Act.put, List.getElem_toArray, List.getElem_cons_succ, List.getElem_cons_zero, List.setIfInBounds_toArray, List.set_cons_zero, List.set_cons_succ]
          refine wpAnyH_take (i := 10) (oi := _) (v := ?v6) rfl (by kernel_rfl) (by kernel_rfl) (by kernel_rfl) (fun _ _ _ h => h) (Or.inl ⟨by rfl, ?h6⟩) hHeld ?r6
          case h6 => (intro w0 hSw; (try dsimp only at hSw); go_simp; first | done | with_reducible rfl)
          case r6 =>
          try simp only [Act.put, List.getElem_toArray, List.getElem_cons_succ, List.getElem_cons_zero, List.setIfInBounds_toArray, List.set_cons_zero, List.set_cons_succ]
          refine wpAnyH_ready (rs := [11]) (by kernel_rfl) (by simp) ?_
          refine AllReadyH.cons (o := _) rfl (fun K hK => ?_) AllReadyH.nil
          go_simp
          refine hK.out _ _ ?_ (fun hHeld => ?_)
          · exact HS2.out _ G6.out _
          clear hK K
          refine wpAnyH_done (by kernel_rfl) ?_ _
          obtain ⟨⟨e0, e1, e2, e3, e4⟩, w9, hw9, s0, s1, HE⟩ := HFin.out w6 A6 c6 G6.out X6.out
          have HW9 := Lib.hid hw9
          clear hw9 HFin
          go_wp2
          rw [show ((w6.setCell ⟨w.heap.size, 1, none⟩ (.slice A6 (n + 1) c6)).setCell ⟨w.heap.size + 1 + 1, 0, none⟩ (.int .i64 now)).setCell ⟨w.heap.size + 1 + 1, 1, none⟩ (.slice A6 (n + 1) c6) = w9 from HW9.out]
          refine bodyPost_ret (v := .tuple #[.agg #[.int .i64 now, .slice A6 (n + 1) c6], .int .i64 0]) (by simp [results, Try.results15, go_sem, s0, s1]) rfl ?_
          exact HE.out
        -- END
end
end Go.Proofs.Ytcofehmgnpmecaa
