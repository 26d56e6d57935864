/-
  Contract: Cancel.
-/
import Derived.Test.YtadppcmbkccmnaaWWalksH
namespace Go.Proofs.Ytadppcmbkccmnaa
open Go.ChangeShapes Go.WideShapes Go.ChangeAt Go.RowKit Wh

theorem set_bad {w : World} {B h m k now : Nat} {S : Nat → Value} {X : Nat → List Tm} {L : List Tm} (H : WheelIs w B h m S X L k now) (t what : Int) (ht : t ≤ now ∨ 2097152 < t) :
    Calls Try.prog 13 #[.pointer (some ⟨h, 0, none⟩), .int .i64 t, .int .i64 what] w fun e w' => e = .returned (.tuple #[.int .i64 0, .int .i64 1]) ∧ w = w' := by
  have hc6 := H.cells.map
  have hc7 := H.cells.tick
  clear H
  by_cases h1 : t ≤ now
  · clear ht
    go_enter Try.func13, Try.ntmps13
    go_wp2_with (go_at_call 22; refine (made_any h m _ hc6).mono ?_; rintro e w' ⟨rfl, rfl⟩)
    go_ret2
    exact ⟨rfl, rfl⟩
  · have h2 : (now : Int) < t := by omega
    have h3 : 2097152 < t := by omega
    clear ht
    go_enter Try.func13, Try.ntmps13
    go_wp2_with (go_at_call 22; refine (made_any h m _ hc6).mono ?_; rintro e w' ⟨rfl, rfl⟩)
    go_ret2
    exact ⟨rfl, rfl⟩

/-- delete of a timer that is there. -/
theorem wpList_del_timer (w : World) {ops : Array Oper} {rest : List Oper} {o : Oper} {a : Act} {Q : Exit → Act → World → Prop} (hgd : o.guard = none) (mo x : Operand)
    (ho : o.op = .call { callee := .builtin .delete, args := #[mo, x], argTypes := #[54, 3] }) (m n hd : Nat) {L L' : List Tm} {t : Tm}
    (hm : a.eval mo = .map (some m)) (hx : a.eval x = .int .i64 (hd : Nat)) (h : MapIs w m n L) (hhd : t.handle = hd) (hk : hd ≤ 1000000) (hL : L.Perm (t :: L')) (hone : L.Pairwise fun y z => y.handle ≠ z.handle)
    (hK : ∀ w', MapIs w' m n L' → w.mapTurned w' m → wpList Try.prog ops Q rest (a.put o.dst (.tuple #[])) w') : wpList Try.prog ops Q (o :: rest) a w := by
  subst hhd
  refine wpList_plain hgd fun K hKK => ?_
  obtain ⟨w', hr, h1, h2⟩ := h.drop hk hL hone o.type
  unfold Oper.wp execOp
  simp only [ho, resolve, invoke, builtin, Sem.run_bind, Sem.run_pure, Result.andThen_ok, List.map_toArray, List.map_cons, List.map_nil, hm, hx, hr]
  exact hKK _ _ (hK w' h1 h2)

/-- A timer fewer. -/
def Gone (B h m : Nat) (S : Nat → Value) (X : Nat → List Tm) (L' : List Tm) (k now : Nat) (w : World) (e : Ending) (w' : World) : Prop :=
  e = .returned (.bool true) ∧ ∃ S' X', WheelIs w' B h m S' X' L' k now ∧ Only (Mine h m S X) w w' ∧ ∀ j, Mine h m S' X' j → Mine h m S X j

theorem cancel_miss {w : World} {B h m k now : Nat} {S : Nat → Value} {X : Nat → List Tm} {L : List Tm} (H : WheelIs w B h m S X L k now) {q : Int} (h0 : -9223372036854775808 ≤ q) (h1 : q < 9223372036854775808) (hq : ∀ x, x ∈ L → (x.handle : Int) ≠ q) :
    Calls Try.prog 8 #[.pointer (some ⟨h, 0, none⟩), .int .i64 q] w fun e w' => e = .returned (.bool false) ∧ w = w' := by
  have HF := Lib.hid (find_miss H h0 h1 hq)
  clear H hq
  go_enter Try.func8, Try.ntmps8
  go_wp2_with (go_at_call 20; refine HF.out.mono ?_; rintro e w' ⟨rfl, rfl⟩)
  go_ret
  exact ⟨rfl, rfl⟩

theorem gone_end {w w1 w2 : World} {B h m k now i p : Nat} {S : Nat → Value} {X : Nat → List Tm} {L L' : List Tm} {x y : Tm} {e : Ending} (H : WheelIs w B h m S X L k now) (hL : L.Perm (x :: L')) (hx : (X i)[p]? = some x) (hy : (X i)[(X i).length - 1]? = some y)
    (hm : MapIs w1 m k L') (ht : w.mapTurned w1 m) (hd : Dropped B h i p S X y (.map (some m)) now k w1.drew e w2) : Gone B h m S X L' k now w (.returned (.bool true)) w2 := by
  obtain ⟨-, v, d1, d2, d3, d4⟩ := hd
  have hxm := List.mem_of_getElem? hx
  have hpos : 0 < (X i).length := List.length_pos_of_mem hxm
  have hpm := rem_perm (n := (X i).length - 1) (by omega) hx hy
  have hnd := (hpm.nodup_iff).1 (H.nodup i)
  have hxr := (List.nodup_cons.1 hnd).1
  have honce := (hL.pairwise_iff (fun {a b : Tm} (h1 : a.handle ≠ b.handle) => h1.symm)).1 H.once
  have hsub : ∀ z, z ∈ L' → z ∈ L := fun z hz => hL.mem_iff.2 (List.mem_cons_of_mem _ hz)
  have hin : ∀ a z, z ∈ upd X i (rem (X i) p y) a ↔ z ∈ X a ∧ z ≠ x := fun a z => by
    by_cases e : a = i
    · subst e
      rw [upd_at]
      constructor
      · exact fun hz => ⟨hpm.mem_iff.2 (List.mem_cons_of_mem _ hz), fun e => hxr (e ▸ hz)⟩
      · rintro ⟨hz, hne⟩
        rcases List.mem_cons.1 (hpm.mem_iff.1 hz) with h1 | h1
        · exact absurd h1 hne
        · exact h1
    · rw [upd_off _ _ e]
      refine ⟨fun hz => ⟨hz, fun e2 => ?_⟩, fun hz => hz.1⟩
      subst e2
      obtain ⟨j, hj, _⟩ := H.slots.block hz
      exact e (H.slots.apart a j i p z z hj hx rfl).1
  have hown : ∀ j, SOwn (upd S i v) (upd X i (rem (X i) p y)) j → SOwn S X j := by
    rintro j (⟨a, h5⟩ | ⟨a, z, hz, h5⟩)
    · by_cases e : a = i
      · subst e
        rw [upd_at, d4] at h5
        exact Or.inl ⟨_, h5⟩
      · rw [upd_off _ _ e] at h5
        exact Or.inl ⟨a, h5⟩
    · exact Or.inr ⟨a, z, ((hin a z).1 hz).1, h5⟩
  refine ⟨rfl, _, _, ⟨d1, d2, fun z => ?_, fun a z hz => H.place a z ((hin a z).1 hz).1, (List.pairwise_cons.1 honce).2, fun z hz => H.handles z (hsub z hz), ?_, H.base, ⟨fun h5 => H.off.1 (hown h h5), fun h5 => H.off.2.1 (hown m h5), H.off.2.2⟩, H.low⟩, ?_, ?_⟩
  · constructor
    · intro hz
      obtain ⟨a, ha⟩ := (H.mem z).1 (hsub z hz)
      refine ⟨a, (hin a z).2 ⟨ha, fun e => ?_⟩⟩
      subst e
      exact (List.pairwise_cons.1 honce).1 z hz rfl
    · rintro ⟨a, ha⟩
      obtain ⟨h1, h2⟩ := (hin a z).1 ha
      rcases List.mem_cons.1 (hL.mem_iff.1 ((H.mem z).2 ⟨a, h1⟩)) with h3 | h3
      · exact absurd h3 h2
      · exact h3
  · refine hm.kept (d3.block m hm.lt ?_)
    rintro (h5 | h5)
    · exact H.off.2.1 h5
    · exact H.off.2.2 h5.symm
  · refine ((Only.refl (Mine h m S X) w).grown ht.grown (fun j hj => ?_)).drew.trans d3 (fun j hj => ?_)
    · simp only [Option.some.injEq] at hj
      exact Or.inl (Or.inr (Or.inl hj.symm))
    · rcases hj with h5 | h5
      · exact Or.inl (Or.inr (Or.inr h5))
      · exact Or.inl (Or.inl h5)
  · rintro j (h5 | h5 | h5)
    · exact Or.inl h5
    · exact Or.inr (Or.inl h5)
    · exact Or.inr (Or.inr (hown j h5))

set_option maxRecDepth 100000 in
set_option maxHeartbeats 1000000 in
theorem cancel_hit {w : World} {B h m k now : Nat} {S : Nat → Value} {X : Nat → List Tm} {L L' : List Tm} {x : Tm} (H : WheelIs w B h m S X L k now) (hk : k ≤ 900000) (hlen : L.length ≤ 900000) (hL : L.Perm (x :: L')) :
    Calls Try.prog 8 #[.pointer (some ⟨h, 0, none⟩), .int .i64 (x.handle : Nat)] w (Gone B h m S X L' k now w) := by
  have hxL : x ∈ L := hL.mem_iff.2 List.mem_cons_self
  have HF := Lib.hid (find_hit H hk hxL)
  obtain ⟨i, p, hx, hxo⟩ := H.thing hxL
  obtain ⟨rfl, hp1, hp2⟩ := H.place i x (List.mem_of_getElem? hx)
  have hlow := H.low
  have hhd := (H.handles x hxL).2
  have hc6 := H.cells.map
  have Hmap := Lib.hid H.map
  have Honce := Lib.hid H.once
  have HL := Lib.hid hL
  have HC : Hid (∀ w1 : World, MapIs w1 m k L' → w.mapTurned w1 m → w1.cell? ⟨h, 257, none⟩ = some (.int .i64 (now : Nat)) ∧
      Hid (Calls Try.prog 21 #[.pointer (some ⟨h, 0, none⟩), .int .i64 (now : Nat), .pointer (some ⟨x.b, 0, none⟩)] w1.drew fun e w2 => e = .returned (.tuple #[]) ∧ Gone B h m S X L' k now w (.returned (.bool true)) w2)) := fun w1 hm ht => by
    have hb : ∀ b, b < w.heap.size → b ≠ m → w1.heap[b]? = w.heap[b]? := fun b hb hbm => ht.grown.block b hb (by simpa using hbm)
    have hc1 := H.cells.kept (hb h H.cells.lt H.off.2.2)
    have hs1 : Slots w1 B S X := H.slots.kept fun j hj => hb j (H.slots.own_lt hj).2 (fun e => H.off.2.1 (e ▸ hj))
    refine ⟨hc1.tick, ?_⟩
    refine (drop_any (w := w1.drew) (now := now) (hs1.kept fun _ _ => rfl) (hc1.kept rfl) rfl (Nat.le_trans (H.few _) hlen) hx H.off.1 (by omega) (by omega)).mono ?_
    rintro e w2 ⟨y, hy, hd⟩
    have hd1 := hd.1
    exact ⟨hd1, gone_end H hL hx hy hm ht hd⟩
  generalize x.b = b at *
  generalize hhd2 : x.handle = hd at *
  have Hhd2 := Lib.hid hhd2
  clear H hxL hx hxo hp1 hp2 hlow hL hhd2 hlen
  go_enter Try.func8, Try.ntmps8
  go_wp2_with (first
    | (go_at_call 20; refine HF.out.mono ?_; rintro e w' ⟨rfl, rfl⟩)
    | (at_delete; refine wpList_del_timer _ rfl _ _ rfl m k hd rfl rfl Hmap.out Hhd2.out (by omega) HL.out Honce.out ?_; intro w1 hm1 ht1; obtain ⟨c4, Hrem⟩ := HC.out w1 hm1 ht1; clear hm1 ht1))
  go_still_tail 8, (by kernel_rfl)
  change wpList _ _ _ _ _ w1.drew
  go_wp2_with (go_at_call 21; refine Hrem.out.mono ?_; rintro e w2 ⟨rfl, ho⟩; have Hfin := Lib.hid ho; clear ho)
  go_ret
  exact Hfin.out
end Go.Proofs.Ytadppcmbkccmnaa
