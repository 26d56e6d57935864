/-
  The document's answers: Drop, Put (typed by tools/gen_wrefb.py).
-/
import Derived.Test.YtadppcmbkccmnaaWRef
import Derived.Test.YtadppcmbkccmnaaWWalksB
import Derived.Deep.DrawnRows
namespace Go.Proofs.Ytadppcmbkccmnaa
open Go.ChangeShapes Go.WideShapes Go.ChangeAt Go.RowKit

theorem info_rdue : (Try.prog.info? 42).map (fun i => (i.zero, i.size, i.bytes)) = some (some (.agg #[.int .i64 0, .int .i64 0, .int .i64 0]), 3, 24) := by kernel_rfl
/-- append of timers onto a row of the call's own, at a step of a region that draws its order. -/
theorem step_dus (w : World) {ops : Array Oper} {o : Oper} {a : Act} {K : Act → World → Prop} {Q : Exit → Act → World → Prop} {F : Prop} (hgd : o.guard = none) (s x : Operand)
    (ho : o.op = .call { callee := .builtin .append, args := #[s, x], argTypes := #[28, 28] })
    (base : Nat) (v : Value) (n : Nat) (L : List Du) (hs : a.eval s = v) (hown : w.ownsRow base 42 3 v n (dcells L))
    (ao : Option Addr) (m c : Nat) (M : List Du) (hx : a.eval x = .slice ao m c) (hM : M.length = m) (hnil : ao = none → m = 0 ∧ c = 0) {T : Nat → Prop} (hr : Dus T w ao M) (N : Nat) (hN : n + m = N) (hm : N ≤ 1000000000) (hbase : base ≤ w.heap.size)
    (h : ∀ A cap w', w'.ownsRow base 42 3 (.slice A N cap) N (dcells (L ++ M)) → w.grownBy w' v.ownBlock → K (a.put o.dst (.slice A N cap)) w') :
    if Region.wanted o (yielded ops a.tmps) = true then Oper.wp Try.prog o a w K Q else F := by
  subst hN
  obtain ⟨i0, hi, hz0, hz1, hz2⟩ := info_parts info_rdue
  refine step_append_all w hgd s x 28 ho base 42 i0 (.agg #[.int .i64 0, .int .i64 0, .int .i64 0]) 3 24 Try.underlying28 hi hz0 hz1 hz2 rfl (by decide) v n (dcells L) hs hown ao m c (dcells M) hx hnil (by rw [dcells_len, hM]) hr.news (dcells_one M) (by unfold maxLen; omega) (by omega) hbase w.heap.size rfl ?_
  intro A cap w' h1 h2 _
  refine h A cap w' ?_ h2
  rw [dcells_two]
  exact h1

/-- A list of timers is handed back, in memory of the call's own. -/
def DuBack (L : List Du) (w : World) (e : Ending) (w' : World) : Prop := ∃ A n c, e = .returned (.slice A n c) ∧ L.length = n ∧ w'.ownsRow w.heap.size 42 3 (.slice A n c) n (dcells L) ∧ Below w.heap.size w w'
theorem Dus.below {B : Nat} {w w' : World} {A : Option Addr} {l : List Du} (h : Dus (· < B) w A l) (hb : Below B w w') : Dus (· < B) w' A l := h.kept fun k hk => hb.block k hk
theorem Dus.later {w w' : World} {A : Option Addr} {l : List Du} (h : Dus (· < w.heap.size) w A l) (hb : Below w.heap.size w w') : Dus (· < w'.heap.size) w' A l := (h.below hb).mono fun _ hk => Nat.lt_of_lt_of_le hk hb.size
theorem dus_cut {T : Nat → Prop} {w : World} {b o c k : Nat} {r : List Du} (h : Dus T w (some ⟨b, o, none⟩) r) (hc : r.length ≤ c) : Dus T w (if c = k then some ⟨b, o, none⟩ else some ⟨b, o + k * 3, none⟩) (r.drop k) := by
  split
  · rename_i e
    rw [List.drop_eq_nil_of_le (by omega)]
    exact ⟨fun h => by simp at h⟩
  · exact h.part k
theorem dus_far {T : Nat → Prop} {w w' : World} {row : Option Nat} {g : Nat} {M : List Du} (h : Dus T w (some ⟨g, 0, none⟩) M) (hg : w.grownBy w' row) (hlt : g < w.heap.size) (hne : some g ≠ row) : Dus (· = g) w' (some ⟨g, 0, none⟩) M := ⟨fun hn => by
  obtain ⟨b, o, e, hB, hc⟩ := h.at_ hn
  cases e
  exact ⟨g, 0, rfl, rfl, fun i hi => ⟨(hg.cell_far _ hlt hne).trans (hc i hi).1, (hg.cell_far _ hlt hne).trans (hc i hi).2.1, (hg.cell_far _ hlt hne).trans (hc i hi).2.2⟩⟩⟩
theorem dus_one {w : World} {g : Nat} (d : Du) (h0 : w.cell? ⟨g, 0, none⟩ = some (.int .i64 d.1)) (h1 : w.cell? ⟨g, 1, none⟩ = some (.int .i64 d.2.1)) (h2 : w.cell? ⟨g, 2, none⟩ = some (.int .i64 d.2.2)) : Dus (· = g) w (some ⟨g, 0, none⟩) [d] := ⟨fun _ =>
  ⟨g, 0, rfl, rfl, fun i hi => by
    obtain rfl : i = 0 := by simp at hi; omega
    exact ⟨h0, h1, h2⟩⟩⟩
theorem dus_new (w : World) (d : Du) : Dus (· = w.heap.size) (w.alloc (.cells #[.int .i64 d.1, .int .i64 d.2.1, .int .i64 d.2.2] 42)) (some ⟨w.heap.size, 0, none⟩) [d] := dus_one d (by simp) (by simp) (by simp)
theorem dus_new2 (w : World) (E : Obj) (d : Du) : Dus (· = w.heap.size + 1) (((w.alloc E).alloc (.cells #[.int .i64 d.1, .int .i64 d.2.1, .int .i64 d.2.2] 42)).drew) (some ⟨w.heap.size + 1, 0, none⟩) [d] := dus_one d (by simp) (by simp) (by simp)
theorem dus_new1 (w : World) (E : Obj) (d : Du) : Dus (· = w.heap.size) (((w.alloc (.cells #[.int .i64 d.1, .int .i64 d.2.1, .int .i64 d.2.2] 42)).alloc E).drew) (some ⟨w.heap.size, 0, none⟩) [d] := dus_one d (by simp) (by simp) (by simp)
theorem own_empty2 {w : World} {base : Nat} {e : TypeId} {size : Nat} {o : Obj} (hb : base ≤ w.heap.size) : ((w.alloc o).alloc (.cells #[] e)).ownsRow base e size (.slice (some ⟨w.heap.size + 1, 0, none⟩) 0 0) 0 [] := by
  have := own_empty (w := w.alloc o) (base := base) (e := e) (size := size) (by simp; omega)
  simpa using this

/-- The boxed timer, where it lies. -/
structure Boxd (w : World) (p : Nat) (x y z : Int) (wr : World) : Prop where
  below : Below p w wr
  c0 : wr.cell? ⟨p, 0, none⟩ = some (.int .i64 x)
  c1 : wr.cell? ⟨p, 1, none⟩ = some (.int .i64 y)
  c2 : wr.cell? ⟨p, 2, none⟩ = some (.int .i64 z)
  lt : p < wr.heap.size
theorem boxd_new (w : World) (x y z : Int) : Boxd w w.heap.size x y z (w.alloc (.cells #[.int .i64 x, .int .i64 y, .int .i64 z] 42)) := ⟨(Below.refl _ _).alloc (Nat.le_refl _) _, by simp, by simp, by simp, by simp⟩
theorem Boxd.drawn {w wr : World} {p : Nat} {x y z : Int} (h : Boxd w p x y z wr) (n : Nat) : Boxd w p x y z (wr.drewN n) := ⟨below_drawn h.below, h.c0, h.c1, h.c2, h.lt⟩
theorem Boxd.later {w wr w' : World} {p : Nat} {x y z : Int} (h : Boxd w p x y z wr) (hb : Below wr.heap.size wr w') : w'.cell? ⟨p, 0, none⟩ = some (.int .i64 x) ∧ w'.cell? ⟨p, 1, none⟩ = some (.int .i64 y) ∧ w'.cell? ⟨p, 2, none⟩ = some (.int .i64 z) :=
  ⟨(hb.cell (p := ⟨p, 0, none⟩) h.lt).trans h.c0, (hb.cell (p := ⟨p, 1, none⟩) h.lt).trans h.c1, (hb.cell (p := ⟨p, 2, none⟩) h.lt).trans h.c2⟩
theorem own_lower {w : World} {base base' n size : Nat} {e : TypeId} {v : Value} {xs : List Value} (h : w.ownsRow base e size v n xs) (hb : base' ≤ base) : w.ownsRow base' e size v n xs := by
  refine ⟨h.1, ?_⟩
  rcases h.2 with h2 | ⟨g, cap, cur, h1, h2, h3⟩
  · exact Or.inl h2
  · exact Or.inr ⟨g, cap, cur, h1, Nat.le_trans hb h2, h3⟩

/-! Drop. -/
set_option maxHeartbeats 2000000 in
theorem rdrop_any {w : World} {b o n c i : Nat} {r : List Du} (hr : Dus (· < w.heap.size) w (some ⟨b, o, none⟩) r) (hn : r.length = n) (hm : n ≤ 900000) (hc : n ≤ c) (hc63 : c ≤ 9223372036854775807) (hpos : i < n) :
    Calls Try.prog 9 #[.slice (some ⟨b, o, none⟩) n c, .int .i64 (i : Nat)] w (DuBack (r.take i ++ r.drop (i + 1)) w) := by
  have R1 := Lib.hid (hr.head i)
  have R3 : Hid (Dus (· < w.heap.size) w (if c = i + 1 then some ⟨b, o, none⟩ else some ⟨b, o + (i + 1) * 3, none⟩) (r.drop (i + 1))) := Lib.hid (dus_cut (k := i + 1) hr (by omega))
  have R1n : Hid ((some (⟨b, o, none⟩ : Addr)) = none → (i : Nat) = 0 ∧ c = 0) := Lib.hid fun h => by cases h
  have R3n : Hid ((if c = i + 1 then some (⟨b, o, none⟩ : Addr) else some ⟨b, o + (i + 1) * 3, none⟩) = none → n - (i + 1) = 0 ∧ c - (i + 1) = 0) := Lib.hid fun h => by split at h <;> cases h
  have R3l : Hid ((r.drop (i + 1)).length = n - (i + 1)) := Lib.hid (by rw [List.length_drop, hn])
  have Rl : Hid ((r.take i).length = i) := Lib.hid (by rw [List.length_take, hn]; omega)
  have HF : Hid (∀ (A3 : Option Addr) (cap3 : Nat) (w3 : World), Below w.heap.size w w3 → w3.ownsRow w.heap.size 42 3 (.slice A3 (n - 1) cap3) (n - 1) (dcells (([] ++ r.take i) ++ r.drop (i + 1))) → DuBack (r.take i ++ r.drop (i + 1)) w (.returned (.slice A3 (n - 1) cap3)) w3) := Lib.hid fun A3 cap3 w3 hb hrow => ⟨A3, n - 1, cap3, rfl, by simp; omega, by simpa using hrow, hb⟩
  clear hr hn
  have hn0 : (0 : Int) ≤ n := by omega
  have hn1 : (n : Int) ≤ 900000 := by omega
  have hc0 : (n : Int) ≤ c := by omega
  have hm0 : (0 : Int) ≤ (i : Int) := by omega
  have hm1 : (i : Int) ≤ c := by omega
  have hmt : ((i : Int) + 1).toNat = i + 1 := by omega
  have hm2 : (i : Int) + 1 ≤ n := by omega
  have hm3 : (0 : Int) ≤ (i : Int) + 1 := by omega
  have hm4 : (i : Int) + 1 ≤ c := by omega
  have hmw : IntKind.i64.wrap ((i : Int) + 1) = (i : Int) + 1 := IntWalk.i64_in _ (by omega)
  go_enter Try.func9, Try.ntmps9
  go_wp2
  go_region_held3 (fun _ => True) (trivial) (first
    | (refine step_dus (w.alloc (.cells #[] 42)).drew (by rfl) (.tmp 5) (.tmp 8) (by rfl) w.heap.size (.slice (some ⟨w.heap.size, 0, none⟩) 0 0) 0 [] (by rfl) (own_drew (own_empty (Nat.le_refl _))) _ _ _ _ (by rfl) Rl.out R1n.out (R1.out.below (((Below.refl _ _).alloc (Nat.le_refl _) _).drew)) i (by omega) (by omega) (by simp) ?_; intro A1 cap1 w1 X1 g1; have G1 := Lib.hid ((((Below.refl _ _).alloc (Nat.le_refl _) _).drew).grown g1 (by simp) (fun k hk => by cases hk; exact Nat.le_refl _)); clear g1)
    | (refine step_dus w1 (by rfl) (.tmp 9) (.tmp 13) (by rfl) w.heap.size (.slice A1 i cap1) i _ (by rfl) X1 _ _ _ _ (by rfl) R3l.out R3n.out (R3.out.below G1.out) (n - 1) (by omega) (by omega) G1.out.size ?_; intro A3 cap3 w3 X3 g3; have G3 := Lib.hid (G1.out.grown g3 G1.out.size (fun k hk => (X1.lt k hk).1)); clear g3))
  have Hfin := Lib.hid (HF.out _ _ _ G3.out X3)
  clear X3 X1
  go_wp2
  all_goals
    go_ret
    exact Hfin.out

/-! Put. -/
set_option maxRecDepth 100000 in
set_option maxHeartbeats 4000000 in
theorem rput_none (A : Option Addr) (c : Nat) (hA : A = none → c = 0) (hc63 : c ≤ 9223372036854775807) (d : Du) (w : World) :
    Calls Try.prog 14 #[.slice A 0 c, .agg #[.int .i64 d.1, .int .i64 d.2.1, .int .i64 d.2.2]] w (DuBack [d] w) := by
  have R1h : ∀ wr : World, Hid (Dus (· < wr.heap.size) wr A []) := fun wr => Lib.hid ⟨fun h => by simp at h⟩
  have R1n : Hid (A = none → c = 0) := Lib.hid hA
  have hc0 : (0 : Int) ≤ c := by omega
  clear hA
  have Rl : Hid (([] : List Du).length = 0) := Lib.hid rfl
  have R3l := Rl
  obtain ⟨x, y, z⟩ := d
  have HF : Hid (∀ (A3 : Option Addr) (cap3 : Nat) (w3 : World), Below w.heap.size w w3 → w3.ownsRow w.heap.size 42 3 (.slice A3 1 cap3) 1 (dcells ((([] ++ []) ++ [(x, y, z)]) ++ [])) → DuBack [(x, y, z)] w (.returned (.slice A3 1 cap3)) w3) := Lib.hid fun A3 cap3 w3 hb hrow => ⟨A3, 1, cap3, rfl, by simp, by simpa using hrow, hb⟩
  go_enter Try.func14, Try.ntmps14
  go_wp2
  obtain ⟨p, hp⟩ : ∃ p, w.heap.size = p := ⟨_, rfl⟩
  have HB0 := Lib.hid (boxd_new w x y z)
  have Hp : Hid (w.heap.size = p) := Lib.hid hp
  rw [hp] at HB0 ⊢
  clear hp
  generalize w.alloc (.cells #[.int .i64 x, .int .i64 y, .int .i64 z] 42) = W at *
  have hd : decide ((0 : Nat) < 0) = false := rfl
  refine wp_loop_rounds 1 ?_
  rw [rounds_succ]
  go_wp2
  go_quiet (fail)
  obtain ⟨wr, hwr⟩ : ∃ wr, W.drewN nq = wr := ⟨_, rfl⟩
  have HB : Hid (Boxd w p x y z wr) := by rw [← hwr]; exact Lib.hid (HB0.out.drawn nq)
  rw [hwr]
  clear hwr
  have hbw : Below w.heap.size w wr := by rw [Hp.out]; exact HB.out.below
  have HS : Hid (∀ w' : World, Below wr.heap.size wr w' → w'.cell? ⟨p, 0, none⟩ = some (.int .i64 x) ∧ w'.cell? ⟨p, 1, none⟩ = some (.int .i64 y) ∧ w'.cell? ⟨p, 2, none⟩ = some (.int .i64 z)) := Lib.hid fun w' hb => HB.out.later hb
  have f0 := HB.out.c0
  have f1 := HB.out.c1
  have f2 := HB.out.c2
  have e3 := HB.out.lt
  have R1 := (R1h wr)
  have R3 := (R1h wr)
  go_wp2
  go_region_held3 (fun w' => w'.cell? ⟨p, 0, none⟩ = some (.int .i64 x) ∧ w'.cell? ⟨p, 1, none⟩ = some (.int .i64 y) ∧ w'.cell? ⟨p, 2, none⟩ = some (.int .i64 z)) ((refine HS.out _ ?_; repeat' (first | with_reducible exact G3.out | with_reducible exact G2.out | with_reducible exact G1.out | with_reducible exact Below.refl _ _ | with_reducible refine Below.drew ?_ | with_reducible refine below_new (Nat.le_refl _) ?_ _)))
    (first
      | (refine step_dus ((wr.alloc (.cells #[] 42)).alloc (.cells #[.int .i64 x, .int .i64 y, .int .i64 z] 42)).drew (by rfl) (.tmp 42) (.tmp 45) (by rfl) wr.heap.size (.slice (some ⟨wr.heap.size, 0, none⟩) 0 0) 0 [] (by rfl) (own_drew ((own_empty (Nat.le_refl _)).alloc _)) _ _ _ _ (by rfl) Rl.out (fun h => ⟨rfl, R1n.out h⟩) (R1.out.below ((((Below.refl _ _).alloc (Nat.le_refl _) _).alloc (by simp) _).drew)) 0 (by omega) (by omega) (by simp; omega) ?_; intro A1 cap1 w1 X1 g1; have G1 := Lib.hid (((((Below.refl _ _).alloc (Nat.le_refl _) _).alloc (by simp) _).drew).grown g1 (by simp; omega) (fun k hk => by cases hk; exact Nat.le_refl _)); have K1 := Lib.hid (dus_far (dus_new2 wr (.cells #[] 42) (x, y, z)) g1 (by simp) (by simp [Value.ownBlock])); clear g1)
      | (refine step_dus ((wr.alloc (.cells #[.int .i64 x, .int .i64 y, .int .i64 z] 42)).alloc (.cells #[] 42)).drew (by rfl) (.tmp 42) (.tmp 45) (by rfl) wr.heap.size (.slice (some ⟨wr.heap.size + 1, 0, none⟩) 0 0) 0 [] (by rfl) (own_drew (own_empty2 (Nat.le_refl _))) _ _ _ _ (by rfl) Rl.out (fun h => ⟨rfl, R1n.out h⟩) (R1.out.below ((((Below.refl _ _).alloc (Nat.le_refl _) _).alloc (by simp) _).drew)) 0 (by omega) (by omega) (by simp; omega) ?_; intro A1 cap1 w1 X1 g1; have G1 := Lib.hid (((((Below.refl _ _).alloc (Nat.le_refl _) _).alloc (by simp) _).drew).grown g1 (by simp; omega) (fun k hk => by cases hk; exact Nat.le_succ _)); have K1 := Lib.hid (dus_far (dus_new1 wr (.cells #[] 42) (x, y, z)) g1 (by simp; omega) (by simp [Value.ownBlock])); clear g1)
      | (refine step_dus (wr.alloc (.cells #[] 42)).drew (by rfl) (.tmp 42) (.tmp 45) (by rfl) wr.heap.size (.slice (some ⟨wr.heap.size, 0, none⟩) 0 0) 0 [] (by rfl) (own_drew (own_empty (Nat.le_refl _))) _ _ _ _ (by rfl) Rl.out (fun h => ⟨rfl, R1n.out h⟩) (R1.out.below (((Below.refl _ _).alloc (Nat.le_refl _) _).drew)) 0 (by omega) (by omega) (by simp) ?_; intro A1 cap1 w1 X1 g1; have G1 := Lib.hid ((((Below.refl _ _).alloc (Nat.le_refl _) _).drew).grown g1 (by simp) (fun k hk => by cases hk; exact Nat.le_refl _)); clear g1)
      | (refine step_dus w1 (by rfl) (.tmp 46) (.tmp 48) (by rfl) wr.heap.size (.slice A1 0 cap1) 0 _ (by rfl) X1 _ 1 1 [(x, y, z)] (by rfl) (by rfl) (fun h => by cases h) K1.out 1 (by omega) (by omega) G1.out.size ?_; intro A2 cap2 w2 X2 g2; have G2 := Lib.hid (G1.out.grown g2 G1.out.size (fun k hk => (X1.lt k hk).1)); clear g2)
      | (refine step_dus (w1.alloc (.cells #[.int .i64 x, .int .i64 y, .int .i64 z] 42)) (by rfl) (.tmp 46) (.tmp 48) (by rfl) wr.heap.size (.slice A1 0 cap1) 0 _ (by rfl) (X1.alloc _) _ 1 1 [(x, y, z)] (by rfl) (by rfl) (fun h => by cases h) (dus_new w1 (x, y, z)) 1 (by omega) (by omega) (size_kept (Nat.le_refl _) (G1.out.alloc G1.out.size _)) ?_; intro A2 cap2 w2 X2 g2; have G2 := Lib.hid ((G1.out.alloc G1.out.size _).grown g2 (size_kept (Nat.le_refl _) (G1.out.alloc G1.out.size _)) (fun k hk => (X1.lt k hk).1)); clear g2)
      | (refine step_dus w2 (by rfl) (.tmp 49) (.tmp 52) (by rfl) wr.heap.size (.slice A2 1 cap2) 1 _ (by rfl) X2 _ _ _ _ (by rfl) R3l.out (fun h => ⟨rfl, R1n.out h⟩) (R3.out.below G2.out) 1 (by omega) (by omega) G2.out.size ?_; intro A3 cap3 w3 X3 g3; have G3 := Lib.hid (G2.out.grown g3 G2.out.size (fun k hk => (X2.lt k hk).1)); clear g3))
  all_goals
    have Hfin := Lib.hid (HF.out _ _ _ (hbw.trans (G3.out.mono hbw.size)) (own_lower X3 hbw.size))
    clear X3 X2 X1
    go_wp2
    all_goals
      go_ret
      exact Hfin.out
set_option maxRecDepth 100000 in
set_option maxHeartbeats 4000000 in
theorem rput_any {w : World} {b o n c i : Nat} {r : List Du} (hr : Dus (· < w.heap.size) w (some ⟨b, o, none⟩) r) (hn : r.length = n) (hm : n ≤ 900000) (hc : n ≤ c) (hc63 : c ≤ 9223372036854775807) (d : Du) (hi : i ≤ n) (hq : i < n → ahd (nth r i) d = false) (hf : ∀ j, j < i → ahd (nth r j) d = true) :
    Calls Try.prog 14 #[.slice (some ⟨b, o, none⟩) n c, .agg #[.int .i64 d.1, .int .i64 d.2.1, .int .i64 d.2.2]] w (DuBack (r.take i ++ d :: r.drop i) w) := by
  have R1h : ∀ wr : World, Below w.heap.size w wr → Hid (Dus (· < wr.heap.size) wr (some ⟨b, o, none⟩) (r.take i)) := fun wr hb => Lib.hid ((hr.later hb).head _)
  have R3h : ∀ wr : World, Below w.heap.size w wr → Hid (Dus (· < wr.heap.size) wr (if c = i then some ⟨b, o, none⟩ else some ⟨b, o + i * 3, none⟩) (r.drop i)) := fun wr hb => Lib.hid (dus_cut (hr.later hb) (by omega))
  have R1n : Hid ((some (⟨b, o, none⟩ : Addr)) = none → (i : Nat) = 0 ∧ c = 0) := Lib.hid fun h => by cases h
  have R3n : Hid ((if c = i then some (⟨b, o, none⟩ : Addr) else some ⟨b, o + i * 3, none⟩) = none → n - i = 0 ∧ c - i = 0) := Lib.hid fun h => by split at h <;> cases h
  have R3l : Hid ((r.drop i).length = n - i) := Lib.hid (by rw [List.length_drop, hn])
  have Rl : Hid ((r.take i).length = i) := Lib.hid (by rw [List.length_take, hn]; omega)
  have hm0 : (0 : Int) ≤ i := by omega
  have hm1 : (i : Int) ≤ c := by omega
  have hm2 : (i : Int) ≤ n := by omega
  have HC : Hid (∀ wr : World, Below w.heap.size w wr → ∀ j, j < n → wr.cell? ⟨b, o + j * 3, none⟩ = some (.int .i64 (nth r j).1) ∧ wr.cell? ⟨b, o + j * 3 + 1, none⟩ = some (.int .i64 (nth r j).2.1)) := Lib.hid fun wr hb j hj => by
    obtain ⟨b', o', e, hB, hcell⟩ := (hr.below hb).cells (by omega)
    cases e
    exact ⟨(hcell j (by omega)).1, (hcell j (by omega)).2.1⟩
  have Hq := Lib.hid hq
  have Hf := Lib.hid hf
  obtain ⟨x, y, z⟩ := d
  have HF : Hid (∀ (A3 : Option Addr) (cap3 : Nat) (w3 : World), Below w.heap.size w w3 → w3.ownsRow w.heap.size 42 3 (.slice A3 (n + 1) cap3) (n + 1) (dcells ((([] ++ r.take i) ++ [(x, y, z)]) ++ r.drop i)) → DuBack (r.take i ++ (x, y, z) :: r.drop i) w (.returned (.slice A3 (n + 1) cap3)) w3) := Lib.hid fun A3 cap3 w3 hb hrow => ⟨A3, n + 1, cap3, rfl, by simp; omega, by simpa using hrow, hb⟩
  clear hr hn hq hf
  have hn0 : (0 : Int) ≤ n := by omega
  have hn1 : (n : Int) ≤ 900000 := by omega
  have hc0 : (n : Int) ≤ c := by omega
  go_enter Try.func14, Try.ntmps14
  go_wp2
  obtain ⟨p, hp⟩ : ∃ p, w.heap.size = p := ⟨_, rfl⟩
  have HB0 := Lib.hid (boxd_new w x y z)
  have Hp : Hid (w.heap.size = p) := Lib.hid hp
  rw [hp] at HB0 ⊢
  clear hp
  generalize w.alloc (.cells #[.int .i64 x, .int .i64 y, .int .i64 z] 42) = W at *
  go_loopw [5] (fun u wr => ∃ k : Nat, k ≤ i ∧ u = .int .i64 (k : Nat) ∧ Boxd w p x y z wr) (fun u _ => n - (intOf u).toNat)
  case atStart => exact ⟨0, Nat.zero_le _, rfl, HB0.out⟩
  case round =>
    obtain ⟨k, hk, rfl, hbox⟩ := hrel
    have HX := Lib.hid hbox
    have k0 : (0 : Int) ≤ k := by omega
    have kc : (k : Int) ≤ 900000 := by omega
    have g0 := hbox.c0
    have g1 := hbox.c1
    have hbw0 : Below w.heap.size w wr := by rw [Hp.out]; exact hbox.below
    clear hbox
    by_cases hki : k = i
    · obtain rfl : i = k := hki.symm
      have hcase : n ≤ i ∨ (i < n ∧ x < (nth r i).1) ∨ (i < n ∧ (nth r i).1 = x ∧ y ≤ (nth r i).2.1) := by
        by_cases hlt : i < n
        · have h1 := Hq.out hlt
          simp only [ahd, decide_eq_false_iff_not] at h1
          omega
        · omega
      rcases hcase with h1 | ⟨h1, h2⟩ | ⟨h1, h2, h3⟩
      · have hd : decide (i < n) = false := by simpa using h1
        go_wp2
        go_quiet (fail)
        clear h1 hd
        obtain ⟨wr, hwr⟩ : ∃ wq, wr.drewN nq = wq := ⟨_, rfl⟩
        have HB : Hid (Boxd w p x y z wr) := by rw [← hwr]; exact Lib.hid (HX.out.drawn nq)
        rw [hwr]
        clear hwr
        have hbw : Below w.heap.size w wr := by rw [Hp.out]; exact HB.out.below
        have HS : Hid (∀ w' : World, Below wr.heap.size wr w' → w'.cell? ⟨p, 0, none⟩ = some (.int .i64 x) ∧ w'.cell? ⟨p, 1, none⟩ = some (.int .i64 y) ∧ w'.cell? ⟨p, 2, none⟩ = some (.int .i64 z)) := Lib.hid fun w' hb => HB.out.later hb
        have f0 := HB.out.c0
        have f1 := HB.out.c1
        have f2 := HB.out.c2
        have e3 := HB.out.lt
        have R1 := (R1h wr hbw)
        have R3 := (R3h wr hbw)
        go_wp2
        go_region_held3 (fun w' => w'.cell? ⟨p, 0, none⟩ = some (.int .i64 x) ∧ w'.cell? ⟨p, 1, none⟩ = some (.int .i64 y) ∧ w'.cell? ⟨p, 2, none⟩ = some (.int .i64 z)) ((refine HS.out _ ?_; repeat' (first | with_reducible exact G3.out | with_reducible exact G2.out | with_reducible exact G1.out | with_reducible exact Below.refl _ _ | with_reducible refine Below.drew ?_ | with_reducible refine below_new (Nat.le_refl _) ?_ _)))
          (first
            | (refine step_dus ((wr.alloc (.cells #[] 42)).alloc (.cells #[.int .i64 x, .int .i64 y, .int .i64 z] 42)).drew (by rfl) (.tmp 42) (.tmp 45) (by rfl) wr.heap.size (.slice (some ⟨wr.heap.size, 0, none⟩) 0 0) 0 [] (by rfl) (own_drew ((own_empty (Nat.le_refl _)).alloc _)) _ _ _ _ (by rfl) Rl.out R1n.out (R1.out.below ((((Below.refl _ _).alloc (Nat.le_refl _) _).alloc (by simp) _).drew)) i (by omega) (by omega) (by simp; omega) ?_; intro A1 cap1 w1 X1 g1; have G1 := Lib.hid (((((Below.refl _ _).alloc (Nat.le_refl _) _).alloc (by simp) _).drew).grown g1 (by simp; omega) (fun k hk => by cases hk; exact Nat.le_refl _)); have K1 := Lib.hid (dus_far (dus_new2 wr (.cells #[] 42) (x, y, z)) g1 (by simp) (by simp [Value.ownBlock])); clear g1)
            | (refine step_dus ((wr.alloc (.cells #[.int .i64 x, .int .i64 y, .int .i64 z] 42)).alloc (.cells #[] 42)).drew (by rfl) (.tmp 42) (.tmp 45) (by rfl) wr.heap.size (.slice (some ⟨wr.heap.size + 1, 0, none⟩) 0 0) 0 [] (by rfl) (own_drew (own_empty2 (Nat.le_refl _))) _ _ _ _ (by rfl) Rl.out R1n.out (R1.out.below ((((Below.refl _ _).alloc (Nat.le_refl _) _).alloc (by simp) _).drew)) i (by omega) (by omega) (by simp; omega) ?_; intro A1 cap1 w1 X1 g1; have G1 := Lib.hid (((((Below.refl _ _).alloc (Nat.le_refl _) _).alloc (by simp) _).drew).grown g1 (by simp; omega) (fun k hk => by cases hk; exact Nat.le_succ _)); have K1 := Lib.hid (dus_far (dus_new1 wr (.cells #[] 42) (x, y, z)) g1 (by simp; omega) (by simp [Value.ownBlock])); clear g1)
            | (refine step_dus (wr.alloc (.cells #[] 42)).drew (by rfl) (.tmp 42) (.tmp 45) (by rfl) wr.heap.size (.slice (some ⟨wr.heap.size, 0, none⟩) 0 0) 0 [] (by rfl) (own_drew (own_empty (Nat.le_refl _))) _ _ _ _ (by rfl) Rl.out R1n.out (R1.out.below (((Below.refl _ _).alloc (Nat.le_refl _) _).drew)) i (by omega) (by omega) (by simp) ?_; intro A1 cap1 w1 X1 g1; have G1 := Lib.hid ((((Below.refl _ _).alloc (Nat.le_refl _) _).drew).grown g1 (by simp) (fun k hk => by cases hk; exact Nat.le_refl _)); clear g1)
            | (refine step_dus w1 (by rfl) (.tmp 46) (.tmp 48) (by rfl) wr.heap.size (.slice A1 i cap1) i _ (by rfl) X1 _ 1 1 [(x, y, z)] (by rfl) (by rfl) (fun h => by cases h) K1.out (i + 1) (by omega) (by omega) G1.out.size ?_; intro A2 cap2 w2 X2 g2; have G2 := Lib.hid (G1.out.grown g2 G1.out.size (fun k hk => (X1.lt k hk).1)); clear g2)
            | (refine step_dus (w1.alloc (.cells #[.int .i64 x, .int .i64 y, .int .i64 z] 42)) (by rfl) (.tmp 46) (.tmp 48) (by rfl) wr.heap.size (.slice A1 i cap1) i _ (by rfl) (X1.alloc _) _ 1 1 [(x, y, z)] (by rfl) (by rfl) (fun h => by cases h) (dus_new w1 (x, y, z)) (i + 1) (by omega) (by omega) (size_kept (Nat.le_refl _) (G1.out.alloc G1.out.size _)) ?_; intro A2 cap2 w2 X2 g2; have G2 := Lib.hid ((G1.out.alloc G1.out.size _).grown g2 (size_kept (Nat.le_refl _) (G1.out.alloc G1.out.size _)) (fun k hk => (X1.lt k hk).1)); clear g2)
            | (refine step_dus w2 (by rfl) (.tmp 49) (.tmp 52) (by rfl) wr.heap.size (.slice A2 (i + 1) cap2) (i + 1) _ (by rfl) X2 _ _ _ _ (by rfl) R3l.out R3n.out (R3.out.below G2.out) (n + 1) (by omega) (by omega) G2.out.size ?_; intro A3 cap3 w3 X3 g3; have G3 := Lib.hid (G2.out.grown g3 G2.out.size (fun k hk => (X2.lt k hk).1)); clear g3))
        all_goals
          have Hfin := Lib.hid (HF.out _ _ _ (hbw.trans (G3.out.mono hbw.size)) (own_lower X3 hbw.size))
          clear X3 X2 X1
          go_wp2
          all_goals
            go_ret
            exact Hfin.out
      · have hd : decide (i < n) = true := by simpa using h1
        have kn : (i : Int) < n := by omega
        obtain ⟨c1, c2⟩ := HC.out wr hbw0 i h1
        generalize (nth r i).1 = t at *
        generalize (nth r i).2.1 = u at *
        have d1 : decide (t < x) = false := by simp; omega
        have d2 : (t == x) = false := by simp; omega
        go_wp2
        go_quiet (fail)
        obtain ⟨wr, hwr⟩ : ∃ wq, wr.drewN nq = wq := ⟨_, rfl⟩
        have HB : Hid (Boxd w p x y z wr) := by rw [← hwr]; exact Lib.hid (HX.out.drawn nq)
        rw [hwr]
        clear hwr
        have hbw : Below w.heap.size w wr := by rw [Hp.out]; exact HB.out.below
        have HS : Hid (∀ w' : World, Below wr.heap.size wr w' → w'.cell? ⟨p, 0, none⟩ = some (.int .i64 x) ∧ w'.cell? ⟨p, 1, none⟩ = some (.int .i64 y) ∧ w'.cell? ⟨p, 2, none⟩ = some (.int .i64 z)) := Lib.hid fun w' hb => HB.out.later hb
        have f0 := HB.out.c0
        have f1 := HB.out.c1
        have f2 := HB.out.c2
        have e3 := HB.out.lt
        have R1 := (R1h wr hbw)
        have R3 := (R3h wr hbw)
        go_wp2
        go_region_held3 (fun w' => w'.cell? ⟨p, 0, none⟩ = some (.int .i64 x) ∧ w'.cell? ⟨p, 1, none⟩ = some (.int .i64 y) ∧ w'.cell? ⟨p, 2, none⟩ = some (.int .i64 z)) ((refine HS.out _ ?_; repeat' (first | with_reducible exact G3.out | with_reducible exact G2.out | with_reducible exact G1.out | with_reducible exact Below.refl _ _ | with_reducible refine Below.drew ?_ | with_reducible refine below_new (Nat.le_refl _) ?_ _)))
          (first
            | (refine step_dus ((wr.alloc (.cells #[] 42)).alloc (.cells #[.int .i64 x, .int .i64 y, .int .i64 z] 42)).drew (by rfl) (.tmp 42) (.tmp 45) (by rfl) wr.heap.size (.slice (some ⟨wr.heap.size, 0, none⟩) 0 0) 0 [] (by rfl) (own_drew ((own_empty (Nat.le_refl _)).alloc _)) _ _ _ _ (by rfl) Rl.out R1n.out (R1.out.below ((((Below.refl _ _).alloc (Nat.le_refl _) _).alloc (by simp) _).drew)) i (by omega) (by omega) (by simp; omega) ?_; intro A1 cap1 w1 X1 g1; have G1 := Lib.hid (((((Below.refl _ _).alloc (Nat.le_refl _) _).alloc (by simp) _).drew).grown g1 (by simp; omega) (fun k hk => by cases hk; exact Nat.le_refl _)); have K1 := Lib.hid (dus_far (dus_new2 wr (.cells #[] 42) (x, y, z)) g1 (by simp) (by simp [Value.ownBlock])); clear g1)
            | (refine step_dus ((wr.alloc (.cells #[.int .i64 x, .int .i64 y, .int .i64 z] 42)).alloc (.cells #[] 42)).drew (by rfl) (.tmp 42) (.tmp 45) (by rfl) wr.heap.size (.slice (some ⟨wr.heap.size + 1, 0, none⟩) 0 0) 0 [] (by rfl) (own_drew (own_empty2 (Nat.le_refl _))) _ _ _ _ (by rfl) Rl.out R1n.out (R1.out.below ((((Below.refl _ _).alloc (Nat.le_refl _) _).alloc (by simp) _).drew)) i (by omega) (by omega) (by simp; omega) ?_; intro A1 cap1 w1 X1 g1; have G1 := Lib.hid (((((Below.refl _ _).alloc (Nat.le_refl _) _).alloc (by simp) _).drew).grown g1 (by simp; omega) (fun k hk => by cases hk; exact Nat.le_succ _)); have K1 := Lib.hid (dus_far (dus_new1 wr (.cells #[] 42) (x, y, z)) g1 (by simp; omega) (by simp [Value.ownBlock])); clear g1)
            | (refine step_dus (wr.alloc (.cells #[] 42)).drew (by rfl) (.tmp 42) (.tmp 45) (by rfl) wr.heap.size (.slice (some ⟨wr.heap.size, 0, none⟩) 0 0) 0 [] (by rfl) (own_drew (own_empty (Nat.le_refl _))) _ _ _ _ (by rfl) Rl.out R1n.out (R1.out.below (((Below.refl _ _).alloc (Nat.le_refl _) _).drew)) i (by omega) (by omega) (by simp) ?_; intro A1 cap1 w1 X1 g1; have G1 := Lib.hid ((((Below.refl _ _).alloc (Nat.le_refl _) _).drew).grown g1 (by simp) (fun k hk => by cases hk; exact Nat.le_refl _)); clear g1)
            | (refine step_dus w1 (by rfl) (.tmp 46) (.tmp 48) (by rfl) wr.heap.size (.slice A1 i cap1) i _ (by rfl) X1 _ 1 1 [(x, y, z)] (by rfl) (by rfl) (fun h => by cases h) K1.out (i + 1) (by omega) (by omega) G1.out.size ?_; intro A2 cap2 w2 X2 g2; have G2 := Lib.hid (G1.out.grown g2 G1.out.size (fun k hk => (X1.lt k hk).1)); clear g2)
            | (refine step_dus (w1.alloc (.cells #[.int .i64 x, .int .i64 y, .int .i64 z] 42)) (by rfl) (.tmp 46) (.tmp 48) (by rfl) wr.heap.size (.slice A1 i cap1) i _ (by rfl) (X1.alloc _) _ 1 1 [(x, y, z)] (by rfl) (by rfl) (fun h => by cases h) (dus_new w1 (x, y, z)) (i + 1) (by omega) (by omega) (size_kept (Nat.le_refl _) (G1.out.alloc G1.out.size _)) ?_; intro A2 cap2 w2 X2 g2; have G2 := Lib.hid ((G1.out.alloc G1.out.size _).grown g2 (size_kept (Nat.le_refl _) (G1.out.alloc G1.out.size _)) (fun k hk => (X1.lt k hk).1)); clear g2)
            | (refine step_dus w2 (by rfl) (.tmp 49) (.tmp 52) (by rfl) wr.heap.size (.slice A2 (i + 1) cap2) (i + 1) _ (by rfl) X2 _ _ _ _ (by rfl) R3l.out R3n.out (R3.out.below G2.out) (n + 1) (by omega) (by omega) G2.out.size ?_; intro A3 cap3 w3 X3 g3; have G3 := Lib.hid (G2.out.grown g3 G2.out.size (fun k hk => (X2.lt k hk).1)); clear g3))
        all_goals
          have Hfin := Lib.hid (HF.out _ _ _ (hbw.trans (G3.out.mono hbw.size)) (own_lower X3 hbw.size))
          clear X3 X2 X1
          go_wp2
          all_goals
            go_ret
            exact Hfin.out
      · have hd : decide (i < n) = true := by simpa using h1
        have kn : (i : Int) < n := by omega
        obtain ⟨c1, c2⟩ := HC.out wr hbw0 i h1
        rw [h2] at c1
        generalize (nth r i).2.1 = u at *
        have d1 : decide (x < x) = false := by simp
        have d2 : (x == x) = true := by simp
        have d3 : decide (u < y) = false := by simp; omega
        clear h2
        go_wp2
        go_quiet (fail)
        obtain ⟨wr, hwr⟩ : ∃ wq, wr.drewN nq = wq := ⟨_, rfl⟩
        have HB : Hid (Boxd w p x y z wr) := by rw [← hwr]; exact Lib.hid (HX.out.drawn nq)
        rw [hwr]
        clear hwr
        have hbw : Below w.heap.size w wr := by rw [Hp.out]; exact HB.out.below
        have HS : Hid (∀ w' : World, Below wr.heap.size wr w' → w'.cell? ⟨p, 0, none⟩ = some (.int .i64 x) ∧ w'.cell? ⟨p, 1, none⟩ = some (.int .i64 y) ∧ w'.cell? ⟨p, 2, none⟩ = some (.int .i64 z)) := Lib.hid fun w' hb => HB.out.later hb
        have f0 := HB.out.c0
        have f1 := HB.out.c1
        have f2 := HB.out.c2
        have e3 := HB.out.lt
        have R1 := (R1h wr hbw)
        have R3 := (R3h wr hbw)
        go_wp2
        go_region_held3 (fun w' => w'.cell? ⟨p, 0, none⟩ = some (.int .i64 x) ∧ w'.cell? ⟨p, 1, none⟩ = some (.int .i64 y) ∧ w'.cell? ⟨p, 2, none⟩ = some (.int .i64 z)) ((refine HS.out _ ?_; repeat' (first | with_reducible exact G3.out | with_reducible exact G2.out | with_reducible exact G1.out | with_reducible exact Below.refl _ _ | with_reducible refine Below.drew ?_ | with_reducible refine below_new (Nat.le_refl _) ?_ _)))
          (first
            | (refine step_dus ((wr.alloc (.cells #[] 42)).alloc (.cells #[.int .i64 x, .int .i64 y, .int .i64 z] 42)).drew (by rfl) (.tmp 42) (.tmp 45) (by rfl) wr.heap.size (.slice (some ⟨wr.heap.size, 0, none⟩) 0 0) 0 [] (by rfl) (own_drew ((own_empty (Nat.le_refl _)).alloc _)) _ _ _ _ (by rfl) Rl.out R1n.out (R1.out.below ((((Below.refl _ _).alloc (Nat.le_refl _) _).alloc (by simp) _).drew)) i (by omega) (by omega) (by simp; omega) ?_; intro A1 cap1 w1 X1 g1; have G1 := Lib.hid (((((Below.refl _ _).alloc (Nat.le_refl _) _).alloc (by simp) _).drew).grown g1 (by simp; omega) (fun k hk => by cases hk; exact Nat.le_refl _)); have K1 := Lib.hid (dus_far (dus_new2 wr (.cells #[] 42) (x, y, z)) g1 (by simp) (by simp [Value.ownBlock])); clear g1)
            | (refine step_dus ((wr.alloc (.cells #[.int .i64 x, .int .i64 y, .int .i64 z] 42)).alloc (.cells #[] 42)).drew (by rfl) (.tmp 42) (.tmp 45) (by rfl) wr.heap.size (.slice (some ⟨wr.heap.size + 1, 0, none⟩) 0 0) 0 [] (by rfl) (own_drew (own_empty2 (Nat.le_refl _))) _ _ _ _ (by rfl) Rl.out R1n.out (R1.out.below ((((Below.refl _ _).alloc (Nat.le_refl _) _).alloc (by simp) _).drew)) i (by omega) (by omega) (by simp; omega) ?_; intro A1 cap1 w1 X1 g1; have G1 := Lib.hid (((((Below.refl _ _).alloc (Nat.le_refl _) _).alloc (by simp) _).drew).grown g1 (by simp; omega) (fun k hk => by cases hk; exact Nat.le_succ _)); have K1 := Lib.hid (dus_far (dus_new1 wr (.cells #[] 42) (x, y, z)) g1 (by simp; omega) (by simp [Value.ownBlock])); clear g1)
            | (refine step_dus (wr.alloc (.cells #[] 42)).drew (by rfl) (.tmp 42) (.tmp 45) (by rfl) wr.heap.size (.slice (some ⟨wr.heap.size, 0, none⟩) 0 0) 0 [] (by rfl) (own_drew (own_empty (Nat.le_refl _))) _ _ _ _ (by rfl) Rl.out R1n.out (R1.out.below (((Below.refl _ _).alloc (Nat.le_refl _) _).drew)) i (by omega) (by omega) (by simp) ?_; intro A1 cap1 w1 X1 g1; have G1 := Lib.hid ((((Below.refl _ _).alloc (Nat.le_refl _) _).drew).grown g1 (by simp) (fun k hk => by cases hk; exact Nat.le_refl _)); clear g1)
            | (refine step_dus w1 (by rfl) (.tmp 46) (.tmp 48) (by rfl) wr.heap.size (.slice A1 i cap1) i _ (by rfl) X1 _ 1 1 [(x, y, z)] (by rfl) (by rfl) (fun h => by cases h) K1.out (i + 1) (by omega) (by omega) G1.out.size ?_; intro A2 cap2 w2 X2 g2; have G2 := Lib.hid (G1.out.grown g2 G1.out.size (fun k hk => (X1.lt k hk).1)); clear g2)
            | (refine step_dus (w1.alloc (.cells #[.int .i64 x, .int .i64 y, .int .i64 z] 42)) (by rfl) (.tmp 46) (.tmp 48) (by rfl) wr.heap.size (.slice A1 i cap1) i _ (by rfl) (X1.alloc _) _ 1 1 [(x, y, z)] (by rfl) (by rfl) (fun h => by cases h) (dus_new w1 (x, y, z)) (i + 1) (by omega) (by omega) (size_kept (Nat.le_refl _) (G1.out.alloc G1.out.size _)) ?_; intro A2 cap2 w2 X2 g2; have G2 := Lib.hid ((G1.out.alloc G1.out.size _).grown g2 (size_kept (Nat.le_refl _) (G1.out.alloc G1.out.size _)) (fun k hk => (X1.lt k hk).1)); clear g2)
            | (refine step_dus w2 (by rfl) (.tmp 49) (.tmp 52) (by rfl) wr.heap.size (.slice A2 (i + 1) cap2) (i + 1) _ (by rfl) X2 _ _ _ _ (by rfl) R3l.out R3n.out (R3.out.below G2.out) (n + 1) (by omega) (by omega) G2.out.size ?_; intro A3 cap3 w3 X3 g3; have G3 := Lib.hid (G2.out.grown g3 G2.out.size (fun k hk => (X2.lt k hk).1)); clear g3))
        all_goals
          have Hfin := Lib.hid (HF.out _ _ _ (hbw.trans (G3.out.mono hbw.size)) (own_lower X3 hbw.size))
          clear X3 X2 X1
          go_wp2
          all_goals
            go_ret
            exact Hfin.out
    · have h1 : k < n := by omega
      have hd : decide (k < n) = true := by simpa using h1
      have kn : (k : Int) < n := by omega
      obtain ⟨c1, c2⟩ := HC.out wr hbw0 k h1
      have hcase : (nth r k).1 < x ∨ ((nth r k).1 = x ∧ (nth r k).2.1 < y) := by
        have h2 := Hf.out k (by omega)
        simp only [ahd, decide_eq_true_eq] at h2
        exact h2
      rcases hcase with h2 | ⟨h2, h3⟩
      · generalize (nth r k).1 = t at *
        generalize (nth r k).2.1 = u at *
        have d1 : decide (t < x) = true := by simpa using h2
        go_wp2
        go_quiet (fail)
        go_wp2
        go_roundw
        case rel => exact ⟨k + 1, by omega, by go_num, HX.out.drawn _⟩
        case measure => simp [intOf]; omega
      · rw [h2] at c1
        generalize (nth r k).2.1 = u at *
        have d1 : decide (x < x) = false := by simp
        have d2 : (x == x) = true := by simp
        have d3 : decide (u < y) = true := by simpa using h3
        clear h2
        go_wp2
        go_quiet (fail)
        go_wp2
        go_roundw
        case rel => exact ⟨k + 1, by omega, by go_num, HX.out.drawn _⟩
        case measure => simp [intOf]; omega
end Go.Proofs.Ytadppcmbkccmnaa
