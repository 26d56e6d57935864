/-
  Contract: Advance.
-/
import Derived.Test.YtadppcmbkccmnaaWMid
namespace Go.Proofs.Ytadppcmbkccmnaa
open Go.ChangeShapes Go.WideShapes Go.ChangeAt Go.RowKit Wh

theorem advance_bad {w : World} {B h m k now : Nat} {S : Nat → Value} {X : Nat → List Tm} {L : List Tm} (H : WheelIs w B h m S X L k now) (t : Int) (ht : t < now ∨ 1048576 < t) :
    Calls Try.prog 10 #[.pointer (some ⟨h, 0, none⟩), .int .i64 t] w fun e w' => e = .returned (.tuple #[.slice none 0 0, .int .i64 1]) ∧ w = w' := by
  have hc6 := H.cells.map
  have hc7 := H.cells.tick
  clear H
  by_cases h1 : t < now
  · clear ht
    go_enter Try.func10, Try.ntmps10
    go_wp2_with (go_at_call 22; refine (made_any h m _ hc6).mono ?_; rintro e w' ⟨rfl, rfl⟩)
    go_ret2
    exact ⟨rfl, rfl⟩
  · have h2 : (now : Int) ≤ t := by omega
    have h3 : 1048576 < t := by omega
    clear ht
    go_enter Try.func10, Try.ntmps10
    go_wp2_with (go_at_call 22; refine (made_any h m _ hc6).mono ?_; rintro e w' ⟨rfl, rfl⟩)
    go_ret2
    exact ⟨rfl, rfl⟩

theorem info_due : (Try.prog.info? 48).map (fun i => (i.zero, i.size, i.bytes)) = some (some (.agg #[.int .i64 0, .int .i64 0, .int .i64 0]), 3, 24) := by kernel_rfl
/-- append of one to what is due. -/
theorem wpList_add_due (w : World) {ops : Array Oper} {rest : List Oper} {o : Oper} {a : Act} {Q : Exit → Act → World → Prop} (hgd : o.guard = none) (s x : Operand)
    (ho : o.op = .call { callee := .builtin .append, args := #[s, x], argTypes := #[34, 34] })
    (base : Nat) (v : Value) (n : Nat) (xs : List Value) (hs : a.eval s = v) (hown : w.ownsRow base 48 3 v n xs)
    (g1 : Nat) (d : Du) (hx : a.eval x = .slice (some ⟨g1, 0, none⟩) 1 1) (T : TypeId) (hc : w.heap[g1]? = some (.cells #[.int .i64 d.1, .int .i64 d.2.1, .int .i64 d.2.2] T (0, 0))) (hm : n ≤ 1000000) (hbase : base ≤ w.heap.size) (H : Nat) (hH : w.heap.size = H)
    (h : ∀ g cap w', w'.ownsRow base 48 3 (.slice (some ⟨g, 0, none⟩) (n + 1) cap) (n + 1) (xs ++ dcells [d]) → w.grownBy w' v.ownBlock → (v.ownBlock = some g ∨ g = H) → wpList Try.prog ops Q rest (a.put o.dst (.slice (some ⟨g, 0, none⟩) (n + 1) cap)) w') : wpList Try.prog ops Q (o :: rest) a w := by
  obtain ⟨i0, hi, hz0, hz1, hz2⟩ := info_parts info_due
  exact wpList_append_lies w hgd s x _ ho base 48 i0 (.agg #[.int .i64 0, .int .i64 0, .int .i64 0]) 3 24 Try.underlying34 hi hz0 hz1 hz2 rfl (by decide) v n _ hs hown ⟨g1, 0, none⟩ 1 1 (dcells [d]) hx rfl (World.news_of_block hc) (dcells_one _) (by decide) (by unfold maxLen; omega) (by omega) hbase H hH (fun g cap w' h1 h2 h3 _ => h g cap w' h1 h2 h3)

/-- What Advance hands back. -/
def Advanced (B h m k to : Nat) (S : Nat → Value) (X : Nat → List Tm) (L : List Tm) (w : World) (e : Ending) (w' : World) : Prop := ∃ A n c, e = .returned (.tuple #[.slice A n c, .int .i64 0]) ∧ Onward w B h m k to S X L A n c w'

theorem turn_drew {B h now k p : Nat} {S : Nat → Value} {X : Nat → List Tm} {mv v : Value} {w w1 : World} (T : Turn B h S X mv now k w.drew p v w1) : Turn B h S X mv now k w p v w1 :=
  ⟨T.slots, T.cells, T.row, ⟨T.only.os, T.only.tape, T.only.output, T.only.size, T.only.block⟩⟩

theorem Mid.few {w wr : World} {B h m k now to P q : Nat} {S S' : Nat → Value} {X X' : Nat → List Tm} {L R M : List Tm} {v dv : Value} (G : Mid w B h m k to P S X L R v q dv S' X' M wr) (H : WheelIs w B h m S X L k now) (HR : Reached w B h m S X L R) (i : Nat) : (X' i).length ≤ L.length := by
  refine few_of ?_ fun x hx => ?_
  · refine List.pairwise_iff_getElem.2 fun a b ha hb hab e => ?_
    have := (G.slots.apart i a i b _ _ (List.getElem?_eq_getElem ha) (List.getElem?_eq_getElem hb) (congrArg Tm.b e)).2
    omega
  · rcases (G.mem x).1 ⟨i, hx⟩ with ⟨a, _, ha⟩ | ⟨h1, _⟩
    · exact (H.mem x).2 ⟨a, ha⟩
    · exact (HR.mem x (List.mem_of_mem_take h1)).1

set_option maxRecDepth 100000 in
set_option maxHeartbeats 4000000 in
theorem advance_any {w : World} {B h m k now : Nat} {S : Nat → Value} {X : Nat → List Tm} {L : List Tm} (H : WheelIs w B h m S X L k now) (hk : k ≤ 900000) (hlen : L.length ≤ 900000) (hB : B ≤ w.heap.size) (to : Nat) (hle : now ≤ to) (hto : to ≤ 1048576) :
    Calls Try.prog 10 #[.pointer (some ⟨h, 0, none⟩), .int .i64 (to : Nat)] w (Advanced B h m k to S X L w) := by
  have hc6 := H.cells.map
  have hc7 := H.cells.tick
  obtain ⟨P, hP⟩ : ∃ P, P = slot now to + 1 := ⟨_, rfl⟩
  obtain ⟨n, hn⟩ : ∃ n, (flat X P).length = n := ⟨_, rfl⟩
  have HT : Hid (Calls Try.prog 23 #[.pointer (some ⟨h, 0, none⟩), .int .i64 (now : Nat), .int .i64 (to : Nat)] w.drew fun e w1 => ∃ A c, e = .returned (.slice A n c) ∧ Turn B h S X (.map (some m)) now k w P (.slice A n c) w1) :=
    (turn_any (w := w.drew) (now := now) (to := to) (H.slots.kept fun _ _ => rfl) (H.cells.kept rfl) H.off.1 (fun p => Nat.le_trans (H.reached p).fewer hlen) (by omega) (by omega)).mono fun e w1 ⟨v, he, T⟩ => by
      rw [← hP] at T
      obtain ⟨A, c, hv, -, -⟩ := own_shape T.row
      rw [hn] at hv
      subst hv
      exact ⟨A, c, he, turn_drew T⟩
  have HP := Lib.hid hP
  have Hn := Lib.hid hn
  have HR := Lib.hid (H.reached P)
  have hnl : n ≤ 900000 := by
    rw [← hn]
    exact Nat.le_trans (H.reached P).fewer hlen
  have HH := Lib.hid H
  have Hle := Lib.hid hle
  have Hto := Lib.hid hto
  have HB := Lib.hid hB
  have Hlen := Lib.hid hlen
  have Hk := Lib.hid hk
  have t0 : (0 : Int) ≤ to := by omega
  have t1 : (now : Int) ≤ to := by omega
  have t2 : (to : Int) ≤ 1048576 := by omega
  clear H hle hto hB hlen hk hP hn
  go_enter Try.func10, Try.ntmps10
  go_wp2_with (go_at_call 22; refine (made_any h m _ hc6).mono ?_; rintro e w' ⟨rfl, rfl⟩)
  go_still_tail 8, (by kernel_rfl)
  change wpList _ _ _ _ _ w.drew
  go_wp2_with (go_at_call 23; refine HT.out.mono ?_; rintro e w1 ⟨A, c, rfl, T⟩; have HTn := Lib.hid T; have h17 := T.cells.tick; have h17f := T.cells.free 257; clear T)
  have Hst := Lib.hid (Mid.start HH.out HTn.out Hle.out Hto.out HP.out)
  clear HTn h17 h17f HT
  obtain ⟨R, hR⟩ : ∃ R, flat X P = R := ⟨_, rfl⟩
  rw [hR] at Hst Hn HR
  have HRe := Lib.hid hR
  clear hR
  generalize w1.setCell ⟨h, 257, none⟩ (.int .i64 (to : Nat)) = W0 at *
  go_loopw [38, 7] (fun i dv wr => ∃ q S' X' M, q ≤ n ∧ i = .int .i64 (q : Nat) ∧ Mid w B h m k to P S X L R (.slice A n c) q dv S' X' M wr) (fun i _ _ => n - (intOf i).toNat)
  case atStart => exact ⟨0, _, _, _, Nat.zero_le _, rfl, Hst.out⟩
  case round =>
    obtain ⟨q, S', X', M, hq, rfl, G⟩ := hrel
    obtain ⟨dv, rfl⟩ : ∃ dv, dv = u7 := ⟨_, rfl⟩
    by_cases hlt : q < n
    · obtain ⟨x, hx⟩ : ∃ x, R[q]? = some x := ⟨_, List.getElem?_eq_getElem (by rw [Hn.out]; exact hlt)⟩
      obtain ⟨hxR, -, hdrop, -⟩ := mid_next HR.out hx
      obtain ⟨hxL, hxB, hxl, hxh, hxm, hx2⟩ := HR.out.mem x hxR
      obtain ⟨⟨p, hxo⟩, hxs⟩ := G.loose x (by rw [hdrop]; exact List.mem_cons_self)
      obtain ⟨g, hA, hgq⟩ : ∃ g, A = some ⟨g, 0, none⟩ ∧ wr.cell? ⟨g, q, none⟩ = some (.pointer (some ⟨x.b, 0, none⟩)) := by
        rcases G.row.2 with ⟨h1, h2⟩ | ⟨g, cap, cur, hv, _⟩
        · have := Hn.out
          omega
        · simp only [Value.slice.injEq] at hv
          have h1 := G.row.cells (g := g) (by rw [hv.1]; rfl) q (ptrTo x) (by rw [List.getElem?_map, hx]; rfl)
          rw [add_at, Nat.zero_add] at h1
          exact ⟨g, hv.1, h1⟩
      subst hA
      have a0 : wr.cell? ⟨x.b, 0, none⟩ = some (.int .i64 (x.tick : Nat)) := tm_cell (j := 0) hxo rfl
      have a1 : wr.cell? ⟨x.b, 1, none⟩ = some (.int .i64 (x.handle : Nat)) := tm_cell (j := 1) hxo rfl
      have q0 : (0 : Int) ≤ q := by omega
      have q1 : (q : Int) < n := by omega
      have q2 : (n : Int) ≤ 900000 := by omega
      have HG := Lib.hid G
      have Hx := Lib.hid hx
      have hsz := G.only.size
      have hhl := HH.out.cells.lt
      have hml := HH.out.map.lt
      by_cases ht : to < x.tick
      · have HPut : Hid (Calls Try.prog 24 #[.pointer (some ⟨h, 0, none⟩), .int .i64 (to : Nat), .pointer (some ⟨x.b, 0, none⟩)] wr fun e w2 => e = .returned (.tuple #[]) ∧ ∃ S'' X'', Mid w B h m k to P S X L R (.slice (some ⟨g, 0, none⟩) n c) (q + 1) dv S'' X'' M w2) :=
          (put_any (w := wr) (now := to) (i := slot to x.tick) (now0 := to) G.slots G.cells rfl (Nat.le_trans (G.few HH.out HR.out _) Hlen.out) (Nat.le_trans HB.out hsz) hxo hxs hxB hxh G.off.1 (by have := Hto.out; omega) (by omega)).mono fun e w2 hp => ⟨hp.1, G.put HR.out hhl hml HH.out.off.2.2 hx ht hp⟩
        have ht1 : (to : Int) < x.tick := by omega
        clear G hx hdrop hxo hxs hxR hxL hxB hxl hxh hxm hx2 hsz
        generalize x.tick = tk at *
        generalize x.b = b at *
        go_wp2_with (go_at_call 24; refine HPut.out.mono ?_; rintro e w2 ⟨rfl, hG2⟩; have HG2 := Lib.hid hG2; clear hG2)
        go_roundw
        case rel =>
          obtain ⟨S'', X'', G2⟩ := HG2.out
          exact ⟨q + 1, S'', X'', M, by omega, by go_num, G2⟩
        case measure => simp [intOf]; omega
      · have htle : x.tick ≤ to := by omega
        have hxM : x ∈ M := (G.mmem x).2 ⟨hxL, fun h3 => by
          obtain ⟨_, _, _, hne⟩ := mid_next HR.out hx
          have h4 : R.Pairwise fun x y => x.b ≠ y.b := HR.out.apart
          rw [← List.take_append_drop q R, hdrop] at h4
          exact (List.pairwise_append.1 h4).2.2 x h3.1 x List.mem_cons_self rfl⟩
        obtain ⟨s, t, hM⟩ := List.append_of_mem hxM
        have HM : Hid (M.Perm (x :: (s ++ t))) := by
          rw [hM]
          exact List.perm_middle
        obtain ⟨nd, hnd⟩ : ∃ nd, (dues to (R.take q)).length = nd := ⟨_, rfl⟩
        have hdue := G.due
        rw [hnd] at hdue
        have hndl : nd ≤ 1000000 := by
          rw [← hnd, dues, List.length_map]
          have h1 := List.length_filter_le (fun x : Tm => decide (x.tick ≤ to)) (R.take q)
          rw [List.length_take] at h1
          omega
        have HW : Hid (∀ w1 : World, MapIs w1 m k (s ++ t) → wr.drew.mapTurned w1 m → w1.cell? ⟨x.b, 0, none⟩ = some (.int .i64 (x.tick : Nat)) ∧ w1.cell? ⟨x.b, 1, none⟩ = some (.int .i64 (x.handle : Nat)) ∧ w1.cell? ⟨x.b, 2, none⟩ = some (.int .i64 x.what) ∧
            Hid (∀ o : Obj, (w1.alloc o).ownsRow w.heap.size 48 3 dv nd (dcells (dues to (R.take q))) ∧ w.heap.size ≤ (w1.alloc o).heap.size ∧
              ∀ (w2 : World) (g2 c2 : Nat), w2.ownsRow w.heap.size 48 3 (.slice (some ⟨g2, 0, none⟩) (nd + 1) c2) (nd + 1) (dcells (dues to (R.take q)) ++ dcells [du x]) → (w1.alloc o).grownBy w2 dv.ownBlock → (dv.ownBlock = some g2 ∨ g2 = (w1.alloc o).heap.size) →
                Mid w B h m k to P S X L R (.slice (some ⟨g, 0, none⟩) n c) (q + 1) (.slice (some ⟨g2, 0, none⟩) (nd + 1) c2) S' X' (s ++ t) w2)) := fun w1 hm1 ht1 => by
          have hb : ∀ b, b < wr.heap.size → b ≠ m → w1.heap[b]? = wr.heap[b]? := fun b hb hbm => ht1.grown.block b hb (by simpa using hbm)
          have hs1 : wr.heap.size ≤ w1.heap.size := ht1.grown.size
          have hx1 := (hb x.b (lt_of_block hxo) hxm).trans hxo
          have hdlt := fun j hj => (hdue.lt j hj)
          refine ⟨tm_cell (j := 0) hx1 rfl, tm_cell (j := 1) hx1 rfl, tm_cell (j := 2) hx1 rfl, fun o => ⟨?_, by simp; omega, fun w2 g2 c2 hrow hg hat => ?_⟩⟩
          · refine (row_kept hdue fun j hj => hb j (hdlt j hj).2 ?_).alloc o
            have := (hdlt j hj).1
            omega
          · have hon : Only (fun j => j = m ∨ dv.ownBlock = some j) wr w2 := by
              have h1 : Only (fun j => j = m ∨ dv.ownBlock = some j) wr w1 := ((Only.refl (fun j => j = m ∨ dv.ownBlock = some j) wr).drew).grown ht1.grown (fun j hj => Or.inl (Or.inl (by simpa using hj.symm)))
              exact (h1.new o).grown hg (fun j hj => Or.inl (Or.inr hj))
            refine G.tell HR.out hhl hml HH.out.off.2.2 hx htle HM.out (hm1.kept ?_) hon ?_ ?_
            · rw [hg.block m (by have := hm1.lt; simp; omega) (fun e => by have := (hdlt m e.symm).1; omega), Below.heap_alloc _ _ _ hm1.lt]
            · rw [hnd]
              exact hrow
            · rcases hat with h1 | h1
              · exact Or.inl h1.symm
              · refine Or.inr fun j hj => ?_
                have e : g2 = j := by simpa [Value.ownBlock] using hj
                rw [World.size_alloc] at h1
                omega
        have hc6r := G.cells.map
        have Hmap : Hid (MapIs wr.drew m k M) := G.map.kept rfl
        have Hmone := Lib.hid G.mone
        have hhd := (HH.out.handles x hxL).2
        have hk2 := Hk.out
        have ht1 : (x.tick : Int) ≤ to := by omega
        obtain ⟨hd, Hhd⟩ : ∃ hd, Hid (x.handle = hd) := ⟨_, Lib.hid rfl⟩
        rw [Hhd.out] at hhd a1 HW
        have hltx := lt_of_block hxo
        have hdx : du x = ((x.tick : Int), (hd : Int), x.what) := by rw [du, Hhd.out]
        rw [hdx] at HW
        clear G hx hdrop hxo hxs hxR hxB hxl hxh hxm hx2 hsz hxM hM hdue hnd htle ht hxL hdx
        generalize x.tick = tk at *
        generalize x.what = wh at *
        generalize x.b = b at *
        generalize dues to (R.take q) = D at *
        go_wp2
        go_still_tail 9, (by kernel_rfl)
        change wpList _ _ _ _ _ wr.drew
        go_wp2_with (first
          | (at_delete; refine wpList_del_timer _ rfl _ _ rfl m k hd rfl rfl Hmap.out Hhd.out (by omega) HM.out Hmone.out ?_; intro w1 hm1 ht1; obtain ⟨c0, c1, c2, HX⟩ := HW.out w1 hm1 ht1; clear hm1 ht1)
          | (at_builtin; refine wpList_add_due _ rfl _ _ rfl w.heap.size dv nd (dcells D) rfl (HX.out _).1 w1.heap.size (tk, hd, wh) rfl 48 (heap_alloc_new _ _) hndl (HX.out _).2.1 _ rfl ?_; intro g2 c2 w2 hrow hg hat; have HG2 := Lib.hid ((HX.out _).2.2 w2 g2 c2 hrow hg hat); clear hrow hg hat))
        go_roundw
        case rel => exact ⟨q + 1, S', X', s ++ t, by omega, by go_num, HG2.out⟩
        case measure => simp [intOf]; omega
    · obtain rfl : q = n := by omega
      have hRn := Hn.out
      have htk : R.take q = R := by rw [← hRn, List.take_length]
      have hdue := G.due
      rw [htk] at hdue
      obtain ⟨Ad, cd, hdv, -, -⟩ := own_shape hdue
      have hndl : (dues to R).length ≤ 1000000 := by
        rw [dues, List.length_map]
        have h1 := List.length_filter_le (fun x : Tm => decide (x.tick ≤ to)) R
        omega
      obtain ⟨nd, hnd⟩ : ∃ nd, (dues to R).length = nd := ⟨_, rfl⟩
      rw [hnd] at hdue hdv hndl
      subst hdv
      have HE : Hid (Calls Try.prog 25 #[.slice Ad nd cd, .func (.func 26) #[] #[]] wr fun e w2 => e = .returned (.tuple #[]) ∧ Onward w B h m k to S X L Ad nd cd w2) := by
        have hG : Mid w B h m k to P S X L (flat X P) (.slice A q c) (flat X P).length (.slice Ad nd cd) S' X' M wr := by
          rw [HRe.out, hRn]
          exact G
        by_cases h0 : nd = 0
        · subst h0
          have hnil : dues to R = [] := List.eq_nil_of_length_eq_zero hnd
          have hc := Go.Proofs.AnyF.slices_SortFunc_none sort_laid Ad cd (.func (.func 26) #[] #[]) wr
          change Calls Try.prog 25 _ _ _ at hc
          refine hc.mono ?_
          rintro e w2 ⟨rfl, rfl⟩
          refine ⟨rfl, Mid.done HH.out HP.out Hle.out Hto.out hG (D := []) ?_ List.Pairwise.nil ?_ (Only.refl _ _)⟩
          · rw [HRe.out, hnil]
          · rw [hnil] at hdue
            exact hdue
        · obtain ⟨g, rfl⟩ : ∃ g, Ad = some ⟨g, 0, none⟩ := by
            rcases hdue.2 with ⟨h1, h2⟩ | ⟨g, cap, cur, hv, _⟩
            · omega
            · simp only [Value.slice.injEq] at hv
              exact ⟨g, hv.1⟩
          refine (sort_any hdue hndl).mono ?_
          rintro e w2 ⟨rfl, D, d1, d2, d3, d4⟩
          refine ⟨rfl, Mid.done HH.out HP.out Hle.out Hto.out hG (D := D) ?_ d2 d3 (d4.mono fun j hj => by rw [hj])⟩
          rw [HRe.out]
          exact d1
      clear G hdue hndl hnd htk hRn hlt hq
      go_wp2_with (go_at_call 25; refine HE.out.mono ?_; rintro e w2 ⟨rfl, hfin⟩; have Hfin := Lib.hid hfin; clear hfin)
      go_ret2
      exact ⟨Ad, nd, cd, rfl, Hfin.out⟩
end Go.Proofs.Ytadppcmbkccmnaa
