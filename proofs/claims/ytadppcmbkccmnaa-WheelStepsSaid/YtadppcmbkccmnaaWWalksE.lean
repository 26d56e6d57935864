/-
  Contract: turnTo.
-/
import Derived.Test.YtadppcmbkccmnaaWWalksD
import Derived.LoopTactic
namespace Go.Proofs.Ytadppcmbkccmnaa
open Go.ChangeShapes Go.WideShapes Go.ChangeAt Go.RowKit Wh

section
variable {P : Program}
theorem append_two {t t2 ty e e2 : TypeId} (h1 : P.underlying t = some (.slice e)) (h2 : P.underlying t2 = some (.slice e2)) (A B : Option Addr) (n c m d : Nat) (w : World) :
    (Builtin.append_ #[t, t2] ty #[.slice A n c, .slice B m d]).run P w = (Builtin.append_ #[t, t] ty #[.slice A n c, .slice B m d]).run P w := by
  unfold Builtin.append_
  simp only [List.getElem?_toArray, List.getElem?_cons_zero, List.getElem?_cons_succ, Sem.run_bind, run_underlying h1, run_underlying h2, Result.andThen_ok]
end

/-- append of a slot's row to what was reached. -/
theorem wpList_add_row (w : World) {ops : Array Oper} {rest : List Oper} {o : Oper} {a : Act} {Q : Exit → Act → World → Prop} (hgd : o.guard = none) (s x : Operand)
    (ho : o.op = .call { callee := .builtin .append, args := #[s, x], argTypes := #[49, 50] })
    (base : Nat) (v : Value) (n : Nat) (xs : List Value) (hs : a.eval s = v) (hown : w.ownsRow base 62 1 v n xs)
    (ao : Option Addr) (m c : Nat) (news : List Value) (hx : a.eval x = .slice ao m c) (hnone : ao = none → m = 0 ∧ c = 0) (hl : news.length = m) (hnews : ∀ ad, ao = some ad → ∀ j u, news[j]? = some u → w.cell? (ad.add j) = some u) (h1 : ∀ u ∈ news, u.oneCell' = true)
    (hm : n + m ≤ 1000000) (hbase : base ≤ w.heap.size)
    (h : ∀ A cap w', w'.ownsRow base 62 1 (.slice A (n + m) cap) (n + m) (xs ++ news) → w.grownBy w' v.ownBlock → wpList Try.prog ops Q rest (a.put o.dst (.slice A (n + m) cap)) w') : wpList Try.prog ops Q (o :: rest) a w := by
  obtain ⟨i0, hi, hz0, hz1, hz2⟩ := info_parts info_timer
  refine wpList_plain hgd fun K hK => ?_
  obtain ⟨A, cap, w', hr, h2, h3, -⟩ := run_append_all (P := Try.prog) w 49 o.type base 62 i0 (.pointer none) 1 8 Try.underlying49 hi hz0 hz1 hz2 rfl (by decide) v n xs hown ao m c news hnone (by omega) hnews h1 (by unfold maxLen; omega) (by omega) hbase w.heap.size rfl
  obtain ⟨A0, c0, hv0, -, -⟩ := own_shape hown
  subst hv0
  have hr2 := (append_two (ty := o.type) Try.underlying49 Try.underlying50 A0 ao n c0 m c w).trans hr
  unfold Oper.wp execOp
  simp only [ho, resolve, invoke, builtin, Sem.run_bind, Sem.run_pure, Result.andThen_ok, List.map_toArray, List.map_cons, List.map_nil, hs, hx, hr2]
  exact hK _ _ (h A cap w' h2 h3)

/-- f, but d below p. -/
def cut {α : Type} (f : Nat → α) (p : Nat) (d : α) : Nat → α := fun i => if i < p then d else f i
theorem cut_zero {α : Type} (f : Nat → α) (d : α) : cut f 0 d = f := funext fun i => if_neg (Nat.not_lt_zero i)
theorem cut_succ {α : Type} (f : Nat → α) (p : Nat) (d : α) : upd (cut f p d) p d = cut f (p + 1) d := by
  funext i
  unfold upd cut
  by_cases h1 : i = p
  · rw [if_pos h1, if_pos (by omega)]
  · by_cases h2 : i < p
    · rw [if_neg h1, if_pos h2, if_pos (by omega)]
    · rw [if_neg h1, if_neg h2, if_neg (by omega)]
theorem cut_at {α : Type} (f : Nat → α) (p : Nat) (d : α) : cut f p d p = f p := if_neg (Nat.lt_irrefl p)
theorem cut_off {α : Type} (f : Nat → α) {p i : Nat} (d : α) (h : p ≤ i) : cut f p d i = f i := if_neg (by omega)
theorem cut_below {α : Type} (f : Nat → α) {p i : Nat} (d : α) (h : i < p) : cut f p d i = d := if_pos h

/-- The timers of the first p slots. -/
def flat (X : Nat → List Tm) (p : Nat) : List Tm := (List.range p).flatMap X
theorem flat_succ (X : Nat → List Tm) (p : Nat) : flat X (p + 1) = flat X p ++ X p := by simp [flat, List.range_succ]
theorem flat_mem {X : Nat → List Tm} {p : Nat} {x : Tm} : x ∈ flat X p ↔ ∃ i, i < p ∧ x ∈ X i := by simp [flat]

/-- The first p slots are emptied; what lay there stands in the row v. -/
structure Turn (B h : Nat) (S : Nat → Value) (X : Nat → List Tm) (mv : Value) (now k : Nat) (w : World) (p : Nat) (v : Value) (w' : World) : Prop where
  slots : Slots w' B (cut S p (.slice none 0 0)) (cut X p [])
  cells : WCells w' h (cut S p (.slice none 0 0)) mv now k
  row : w'.ownsRow w.heap.size 62 1 v (flat X p).length ((flat X p).map ptrTo)
  only : Only (· = h) w w'

section
variable {w w' : World} {B h now k p : Nat} {S : Nat → Value} {X : Nat → List Tm} {mv v : Value}
theorem sown_cut {j : Nat} (hj : SOwn (cut S p (.slice none 0 0)) (cut X p []) j) : SOwn S X j := by
  rcases hj with ⟨i, hi⟩ | ⟨i, x, hx, e⟩
  · by_cases h1 : i < p
    · rw [cut_below _ _ h1] at hi
      simp [Value.ownBlock] at hi
    · rw [cut_off _ _ (by omega)] at hi
      exact Or.inl ⟨i, hi⟩
  · by_cases h1 : i < p
    · rw [cut_below _ _ h1] at hx
      simp at hx
    · rw [cut_off _ _ (by omega)] at hx
      exact Or.inr ⟨i, x, hx, e⟩
theorem turn_start (hs : Slots w B S X) (hc : WCells w h S mv now k) : Turn B h S X mv now k w 0 (.slice none 0 0) w := by
  refine ⟨?_, ?_, ?_, Only.refl _ _⟩
  · rw [cut_zero, cut_zero]
    exact hs
  · rw [cut_zero]
    exact hc
  · exact World.ownsRow_nil _ _ _ _
/-- What the walk wants of the next slot. -/
theorem Turn.reads (T : Turn B h S X mv now k w p v w') (hp : p < 256) : ∃ A c, w'.cell? ⟨h, p, none⟩ = some (.slice A (X p).length c) ∧ (A = none → (X p).length = 0 ∧ c = 0) ∧ (∀ ad, A = some ad → ∀ j u, ((X p).map ptrTo)[j]? = some u → w'.cell? (ad.add j) = some u) ∧ w'.frozen? ⟨h, p, none⟩ = false := by
  have hr := T.slots.row p
  have hcell := T.cells.slot hp
  rw [cut_at] at hr hcell
  rw [cut_at] at hr
  rcases hr.2 with ⟨h1, h2⟩ | ⟨g, c, cur, hv, hg, hh, hcc, hm, hsz, ht⟩
  · refine ⟨none, 0, ?_, fun _ => ⟨h2, rfl⟩, fun ad e => (by cases e), T.cells.free p⟩
    rw [hcell, h1, h2]
  · refine ⟨some ⟨g, 0, none⟩, c, ?_, fun e => (by cases e), fun ad e j u hu => ?_, T.cells.free p⟩
    · rw [hcell, hv]
    · cases e
      exact hr.cells (g := g) (by rw [hv]; rfl) j u hu
theorem Turn.next {w1 : World} {v' : Value} {n : Nat} (T : Turn B h S X mv now k w p v w') (hs : Slots w B S X) (hh : h < w.heap.size) (hoh : ¬ SOwn S X h) (hp : p < 256) (hn : (flat X p).length + (X p).length = n)
    (hrow : w1.ownsRow w.heap.size 62 1 v' n ((flat X p).map ptrTo ++ (X p).map ptrTo)) (hg : w'.grownBy w1 v.ownBlock) :
    Turn B h S X mv now k w (p + 1) v' (w1.setCell ⟨h, p, none⟩ (.slice none 0 0)) ∧ w1.cell? ⟨h, p, none⟩ = w'.cell? ⟨h, p, none⟩ ∧ w1.frozen? ⟨h, p, none⟩ = false := by
  subst hn
  have hvb : ∀ j, v.ownBlock = some j → w.heap.size ≤ j := fun j hj => (T.row.lt j hj).1
  have hvb' : ∀ j, v'.ownBlock = some j → w.heap.size ≤ j := fun j hj => (hrow.lt j hj).1
  have hlt := T.only.size
  have hold : ∀ j, j < w.heap.size → w1.heap[j]? = w'.heap[j]? := fun j hj => hg.block j (by omega) (fun e => by have := hvb j e.symm; omega)
  have hs1 : Slots w1 B (cut S p (.slice none 0 0)) (cut X p []) := T.slots.kept fun j hj => hold j (hs.own_lt (sown_cut hj)).2
  have hc1 : WCells w1 h (cut S p (.slice none 0 0)) mv now k := T.cells.kept (hold h hh)
  have ho2 : Only (· = h) w1 (w1.setCell ⟨h, p, none⟩ (.slice none 0 0)) := (Only.refl (· = h) w1).put (p := ⟨h, p, none⟩) (Or.inl rfl) _
  refine ⟨⟨?_, ?_, ?_, ?_⟩, World.cell?_of_block (a := ⟨h, p, none⟩) (hold h hh), hc1.free p⟩
  · have := hs1.empty p h ho2 (fun hj => hoh (sown_cut hj))
    rwa [cut_succ, cut_succ] at this
  · have := hc1.putSlot hp (.slice none 0 0)
    rwa [cut_succ] at this
  · rw [flat_succ, List.length_append, List.map_append]
    exact ownsRow_setCell_other hrow (a := ⟨h, p, none⟩) (fun e => by have := hvb' h e; omega) _
  · refine (T.only.grown hg fun j hj => Or.inr (hvb j hj)).put (p := ⟨h, p, none⟩) (Or.inl rfl) _
end

/-- What turnTo hands back. -/
def Turned (B h : Nat) (S : Nat → Value) (X : Nat → List Tm) (mv : Value) (now k : Nat) (w : World) (p : Nat) (e : Ending) (w' : World) : Prop := ∃ v, e = .returned v ∧ Turn B h S X mv now k w p v w'

theorem lt_cast {a b : Nat} (h : a < b) : (a : Int) < (b : Int) := by omega
set_option maxHeartbeats 4000000 in
theorem turn_any {w : World} {B h now0 k now to : Nat} {S : Nat → Value} {X : Nat → List Tm} {mv : Value} (hs : Slots w B S X) (hc : WCells w h S mv now0 k) (hoh : ¬ SOwn S X h) (hm : ∀ p, (flat X p).length ≤ 900000)
    (hn1 : now < 16777216) (ht1 : to < 16777216) :
    Calls Try.prog 23 #[.pointer (some ⟨h, 0, none⟩), .int .i64 (now : Nat), .int .i64 (to : Nat)] w (Turned B h S X mv now0 k w (slot now to + 1)) := by
  have hl := lev_le now to
  have hd := dig_lt to (lev now to)
  have HL := Lib.hid (fun w => level_any now to w hn1 ht1)
  have HD := Lib.hid (fun w => digit_any to (lev now to) w ht1 hl)
  have HS : Hid (slot now to = lev now to * 64 + dig to (lev now to)) := (rfl : slot now to = lev now to * 64 + dig to (lev now to))
  have HM := Lib.hid hm
  have Hs := Lib.hid hs
  have Hstart := Lib.hid (turn_start hs hc)
  have hlth := hc.lt
  have Hoh := Lib.hid hoh
  have HT : Hid (∀ v w', Turn B h S X mv now0 k w (slot now to + 1) v w' → Turned B h S X mv now0 k w (slot now to + 1) (.returned v) w') := fun v w' T => ⟨v, rfl, T⟩
  have HI1 := Lib.hid (index_level h)
  have HI2 := Lib.hid (index_slot h)
  generalize lev now to = l at *
  generalize dig to l = d at *
  clear hs hc hoh hm hn1 ht1
  have hl0 : (0 : Int) ≤ l := by omega
  have hl1 : (l : Int) ≤ 3 := by omega
  have hd0 : (0 : Int) ≤ d := by omega
  have hd1 : (d : Int) < 64 := by omega
  go_enter Try.func23, Try.ntmps23
  go_wp2_with (go_at_call 28; refine (HL.out _).mono ?_; rintro e w' ⟨rfl, rfl⟩)
  go_loopw [16, 7] (fun c v wr => ∃ a : Nat, a ≤ l ∧ c = .int .i64 (a : Nat) ∧ Turn B h S X mv now0 k w (a * 64) v wr) (fun c _ _ => l - (intOf c).toNat)
  case atStart => exact ⟨0, Nat.zero_le _, rfl, by rw [Nat.zero_mul]; exact Hstart.out⟩
  case round =>
    obtain ⟨a, ha, rfl, T⟩ := hrel
    by_cases hlt : a < l
    · have ha0 : (0 : Int) ≤ a := by omega
      have ha1 : (a : Int) < l := by omega
      have ha3 := HI1.out a (by omega)
      obtain ⟨wo, rfl⟩ : ∃ wo : World, wo = wr := ⟨_, rfl⟩
      have HT0 := Lib.hid T
      clear T
      go_wp2
      go_loopw [19, 7] (fun c v wr => ∃ i : Nat, i ≤ 64 ∧ c = .int .i64 (i : Nat) ∧ Turn B h S X mv now0 k w (a * 64 + i) v wr) (fun c _ _ => 64 - (intOf c).toNat)
      case atStart => exact ⟨0, Nat.zero_le _, rfl, HT0.out⟩
      case round =>
        clear HT0
        obtain ⟨i, hi, rfl, T2⟩ := hrel
        by_cases hlt2 : i < 64
        · have hi0 : (0 : Int) ≤ i := by omega
          have hi1 : (i : Int) < 64 := by omega
          have hi3 := HI2.out (a * 64) i hlt2
          have hp : a * 64 + i < 256 := (by omega)
          obtain ⟨A, c, r1, r2, r3, r4⟩ := T2.reads hp
          have Hr := Lib.hid T2.row
          have Hsz := Lib.hid T2.only.size
          have HN := Lib.hid fun (w1 : World) (A : Option Addr) (c : Nat) => T2.next (w1 := w1) (v' := .slice A ((flat X (a * 64 + i)).length + (X (a * 64 + i)).length) c) Hs.out hlth Hoh.out hp rfl
          have hf1 := HM.out (a * 64 + i)
          have hf2 := HM.out (a * 64 + i + 1)
          rw [flat_succ, List.length_append] at hf2
          have Hx1 : Hid (∀ u ∈ (X (a * 64 + i)).map ptrTo, u.oneCell' = true) := fun u hu => by
            obtain ⟨z, _, rfl⟩ := List.mem_map.1 hu
            rfl
          have Hxl : Hid (((X (a * 64 + i)).map ptrTo).length = (X (a * 64 + i)).length) := (List.length_map _ : ((X (a * 64 + i)).map ptrTo).length = (X (a * 64 + i)).length)
          have hfx : (flat X (a * 64 + i)).length + (X (a * 64 + i)).length ≤ 1000000 := by omega
          generalize (X (a * 64 + i)).map ptrTo = xxs at *
          generalize (flat X (a * 64 + i)).map ptrTo = fxs at *
          generalize (X (a * 64 + i)).length = xn at *
          generalize (flat X (a * 64 + i)).length = fn at *
          clear T2 hf1 hf2 hp
          go_wp2_with (at_builtin; refine wpList_add_row _ rfl _ _ rfl w.heap.size _ fn fxs rfl Hr.out A xn c xxs rfl r2 Hxl.out r3 Hx1.out hfx Hsz.out ?_; intro A2 c2 w1 hrow hg; obtain ⟨T3, q1, q2⟩ := HN.out w1 A2 c2 hrow hg; have q3 := q1.trans r1; have HT3 := Lib.hid T3; clear T3 q1 hrow hg)
          go_roundw
          case rel => exact ⟨i + 1, by omega, by go_num, HT3.out⟩
          case measure => simp [intOf]; omega
        · obtain rfl : i = 64 := by omega
          have HT2 := Lib.hid T2
          clear T2 hi hlt2
          go_wp2
          go_roundw
          case rel => exact ⟨a + 1, by omega, by go_num, by rw [Nat.add_mul, Nat.one_mul]; exact HT2.out⟩
          case measure => simp [intOf]; omega
    · obtain rfl : a = l := by omega
      have ha3 := HI1.out a (by omega)
      have HT0 := Lib.hid T
      obtain ⟨wo, rfl⟩ : ∃ wo : World, wo = wr := ⟨_, rfl⟩
      clear T ha hlt
      go_wp2_with (go_at_call 29; refine (HD.out _).mono ?_; rintro e w' ⟨rfl, rfl⟩)
      go_loopw [43, 7] (fun c v wr => ∃ i : Nat, i ≤ d + 1 ∧ c = .int .i64 (i : Nat) ∧ Turn B h S X mv now0 k w (a * 64 + i) v wr) (fun c _ _ => d + 1 - (intOf c).toNat)
      case atStart => exact ⟨0, Nat.zero_le _, rfl, HT0.out⟩
      case round =>
        clear HT0
        obtain ⟨i, hi, rfl, T2⟩ := hrel
        by_cases hlt2 : i < d + 1
        · have hi0 : (0 : Int) ≤ i := by omega
          have hi1 : (i : Int) < (d : Int) + 1 := by omega
          have hi3 := HI2.out (a * 64) i (by omega)
          have hp : a * 64 + i < 256 := (by omega)
          obtain ⟨A, c, r1, r2, r3, r4⟩ := T2.reads hp
          have Hr := Lib.hid T2.row
          have Hsz := Lib.hid T2.only.size
          have HN := Lib.hid fun (w1 : World) (A : Option Addr) (c : Nat) => T2.next (w1 := w1) (v' := .slice A ((flat X (a * 64 + i)).length + (X (a * 64 + i)).length) c) Hs.out hlth Hoh.out hp rfl
          have hf1 := HM.out (a * 64 + i)
          have hf2 := HM.out (a * 64 + i + 1)
          rw [flat_succ, List.length_append] at hf2
          have Hx1 : Hid (∀ u ∈ (X (a * 64 + i)).map ptrTo, u.oneCell' = true) := fun u hu => by
            obtain ⟨z, _, rfl⟩ := List.mem_map.1 hu
            rfl
          have Hxl : Hid (((X (a * 64 + i)).map ptrTo).length = (X (a * 64 + i)).length) := (List.length_map _ : ((X (a * 64 + i)).map ptrTo).length = (X (a * 64 + i)).length)
          have hfx : (flat X (a * 64 + i)).length + (X (a * 64 + i)).length ≤ 1000000 := by omega
          generalize (X (a * 64 + i)).map ptrTo = xxs at *
          generalize (flat X (a * 64 + i)).map ptrTo = fxs at *
          generalize (X (a * 64 + i)).length = xn at *
          generalize (flat X (a * 64 + i)).length = fn at *
          clear T2 hf1 hf2 hp
          go_wp2_with (at_builtin; refine wpList_add_row _ rfl _ _ rfl w.heap.size _ fn fxs rfl Hr.out A xn c xxs rfl r2 Hxl.out r3 Hx1.out hfx Hsz.out ?_; intro A2 c2 w1 hrow hg; obtain ⟨T3, q1, q2⟩ := HN.out w1 A2 c2 hrow hg; have q3 := q1.trans r1; have HT3 := Lib.hid T3; clear T3 q1 hrow hg)
          go_roundw
          case rel => exact ⟨i + 1, by omega, by go_num, HT3.out⟩
          case measure => simp [intOf]; omega
        · obtain rfl : i = d + 1 := by omega
          have HT2 := Lib.hid T2
          clear T2 hi hlt2
          go_wp2
          go_ret
          exact HT.out _ _ (by rw [HS.out]; exact HT2.out)
end Go.Proofs.Ytadppcmbkccmnaa
