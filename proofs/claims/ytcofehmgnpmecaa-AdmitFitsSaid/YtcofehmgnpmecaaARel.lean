/-
  The contract of Release.
-/
import Derived.Test.YtcofehmgnpmecaaAAdmit
namespace Go.Proofs.Ytcofehmgnpmecaa
open Go.ChangeShapes Go.WideShapes Go.ChangeAt Go.RowKit Ap

section
variable {w w' w2 : World} {B b N : Nat} {mv v : Value} {f : Int → Option Int} {xs : List Gv} {u t : Int}
theorem wpList_del (w : World) {ops : Array Oper} {rest : List Oper} {o : Oper} {a : Act} {Q : Exit → Act → World → Prop} (hgd : o.guard = none) (mo x : Operand)
    (ho : o.op = .call { callee := .builtin .delete, args := #[mo, x], argTypes := #[25, 3] }) (m n : Nat) (q : Int) (f : Int → Option Int)
    (hm : a.eval mo = .map (some m)) (hx : a.eval x = .int .i64 q) (h : MapIs w m n f) (hq : In64 q)
    (hK : ∀ w', MapIs w' m n (updF f q none) → w.grownBy w' (some m) → wpList Try.prog ops Q rest (a.put o.dst (.tuple #[])) w') : wpList Try.prog ops Q (o :: rest) a w := by
  refine wpList_plain hgd fun K hKK => ?_
  obtain ⟨w', hr, h1, h2⟩ := h.drop hq o.type
  unfold Oper.wp execOp
  simp only [ho, resolve, invoke, builtin, Sem.run_bind, Sem.run_pure, Result.andThen_ok, List.map_toArray, List.map_cons, List.map_nil, hm, hx, hr]
  exact hKK _ _ (hK w' h1 h2)

def RelP (B b : Nat) (mv v : Value) (N : Nat) (f : Int → Option Int) (xs : List Gv) (u t q n : Int) (w : World) (e : Ending) (w' : World) : Prop :=
  (f q = none → e = .returned (.int .i64 6) ∧ w = w') ∧ ∀ s, f q = some s → e = .returned (.int .i64 0) ∧ (t < n → Bkd B b mv v N (updF f q none) (⟨n, s⟩ :: xs) u t w w') ∧ (n ≤ t → Bkd B b mv v N (updF f q none) xs (u - s) t w w')
/-- The map has one fewer. -/
theorem BkIs.drop {m : Nat} {q : Int} (H : BkIs w B b (.map (some m)) v N f xs u t) (h : MapIs w' m N (updF f q none)) (hg : w.grownBy w' (some m)) : BkIs w' B b (.map (some m)) v N (updF f q none) xs u t ∧ Only (Mine b (.map (some m)) v) w w' := by
  obtain ⟨o1, o2⟩ := H.off
  have hmb := (o2 m rfl).1
  have hvm := (o2 m rfl).2
  rcases H.map with ⟨h1, -⟩ | ⟨m', h1, h2, h3⟩
  · cases h1
  · cases h1
    refine ⟨⟨(hg.block b H.lt (fun e => by simp at e; exact hmb e.symm)).trans H.obj, Or.inr ⟨m, rfl, h2, h⟩, row_kept H.row fun k hk => hg.block k (H.row.lt k hk).2 (fun e => hvm (by rw [hk, e])), H.order, H.base, H.off⟩, ?_⟩
    exact (Only.refl _ w).grown hg (fun k hk => by simp at hk; subst hk; exact Or.inl (Or.inr (Or.inl rfl)))
/-- One more was given back. -/
theorem BkIs.pushed {x : Gv} {e : Ending} (H : BkIs w B b mv v N f xs u t) (h : Put B b mv v (.int .u64 u) (.int .i64 t) xs x w e w') : Bkd B b mv v N f (x :: xs) u t w w' := by
  obtain ⟨-, g, c, ys, hp, hq, hh, hb, hO, hg, hgb⟩ := h
  have hl : ys.length = xs.length + 1 := hq.len
  obtain ⟨o1, o2⟩ := H.off
  refine ⟨mv, .slice (some ⟨g, 0, none⟩) (xs.length + 1) c, ys, hp, ⟨hb, H.map.kept fun k hk => ?_, ?_, ?_, H.base, ?_, fun m hm => ⟨(o2 m hm).1, ?_⟩⟩, hO.mono fun k hk => ?_, fun k hk => ?_⟩
  · refine hO.block k (H.mine_lt (Or.inr (Or.inl hk))).2 (fun e => ?_)
    rcases e with e | e
    · exact (o2 k hk).2 e
    · exact (o2 k hk).1 e
  · rw [hl]
    exact hq.row
  · rw [hl]
    exact hh
  · intro e
    simp [Value.ownBlock] at e
    exact hgb e
  · intro e
    simp [Value.ownBlock] at e
    subst e
    rcases hg with hg | hg
    · exact (o2 g hm).2 hg
    · have := (H.mine_lt (Or.inr (Or.inl hm))).2
      omega
  · rcases hk with hk | hk
    · exact Or.inr (Or.inr hk)
    · exact Or.inl hk
  · rcases hk with hk | hk | hk
    · exact Or.inl (Or.inl hk)
    · exact Or.inl (Or.inr (Or.inl hk))
    · simp [Value.ownBlock] at hk
      subst hk
      exact hg.imp (fun h => Or.inr (Or.inr h)) id
theorem Bkd.after {f' : Int → Option Int} {G : List Gv} {u' t' : Int} {N' : Nat} (hO : Only (Mine b mv v) w w2) (h : Bkd B b mv v N' f' G u' t' w2 w') : Bkd B b mv v N' f' G u' t' w w' := by
  obtain ⟨mv', v', ys, h1, h2, h3, h4⟩ := h
  have := hO.size
  exact ⟨mv', v', ys, h1, h2, hO.trans h3 (fun k hk => Or.inl hk), fun k hk => (h4 k hk).imp id (fun h5 => by omega)⟩

set_option maxHeartbeats 1000000 in
theorem release_any (H : BkIs w B b mv v N f xs u t) (hB : B ≤ w.heap.size) (hu : 0 ≤ u ∧ u ≤ 4294967296) (hx : xs.length ≤ 900000) {q : Int} (hq : In64 q) (hs : ∀ s, f q = some s → 0 ≤ s ∧ s ≤ u) (n : Int) :
    Calls Try.prog 10 #[.pointer (some ⟨b, 0, none⟩), .int .i64 q, .int .i64 n] w (RelP B b mv v N f xs u t q n w) := by
  have hl := H.look hq
  obtain ⟨c0, -, -, -⟩ := H.cells
  cases hf : f q with
  | none =>
    have HE : Hid (RelP B b mv v N f xs u t q n w (.returned (.int .i64 6)) w) := Lib.hid ⟨fun _ => ⟨rfl, rfl⟩, fun s h => by rw [hf] at h; cases h⟩
    rw [hf] at hl
    simp only [Option.isSome_none, Option.getD_none] at hl
    clear H hf hs
    go_enter Try.func10, Try.ntmps10
    go_wp2
    go_ret
    exact HE.out
  | some s =>
    rw [hf] at hl
    simp only [Option.isSome_some, Option.getD_some] at hl
    obtain ⟨s1, s2⟩ := hs s hf
    rcases H.map with ⟨-, h2⟩ | ⟨m, rfl, h2, hm⟩
    · rw [h2 q] at hf
      cases hf
    · have Hm := Lib.hid hm
      have hw : IntKind.u64.wrap (u - s) = u - s := IntWalk.u64_in _ (by omega)
      by_cases hlt : t < n
      · have HR : Hid (∀ w' , Bkd B b (.map (some m)) v N (updF f q none) (⟨n, s⟩ :: xs) u t w w' → RelP B b (.map (some m)) v N f xs u t q n w (.returned (.int .i64 0)) w') := Lib.hid fun w' h => ⟨(fun h2 => by rw [hf] at h2; cases h2), fun s' hs' => by
          rw [hf] at hs'
          cases hs'
          exact ⟨rfl, fun _ => h, fun h => by omega⟩⟩
        have HD : Hid (∀ w1, MapIs w1 m N (updF f q none) → w.grownBy w1 (some m) → (w1.cell? ⟨b, 3, none⟩ = some (.int .i64 t)) ∧ Hid (Calls Try.prog 24 #[.iface 63 (.pointer (some ⟨b, 1, none⟩)), .iface 65 (.agg #[.int .i64 n, .int .u64 s])] w1 fun e w2 => e = .returned (.tuple #[]) ∧ RelP B b (.map (some m)) v N f xs u t q n w (.returned (.int .i64 0)) w2)) := Lib.hid fun w1 h1 hg => by
          obtain ⟨H1, hO⟩ := H.drop h1 hg
          refine ⟨H1.cells.2.2.2, Lib.hid ((hpush_any (x := ⟨n, s⟩) H1.row H1.order hx (Nat.le_trans hB hg.size) H1.obj H1.off.1).mono fun e w2 hp => ⟨hp.1, HR.out w2 ((H1.pushed hp).after hO)⟩)⟩
        clear H hf hs hm HR
        go_enter Try.func10, Try.ntmps10
        go_wp2_with (first
          | (at_delete; refine wpList_del _ rfl _ _ rfl m N q f rfl rfl Hm.out hq ?_; intro w1 h1 hg1; obtain ⟨c3, HC⟩ := HD.out w1 h1 hg1; clear h1 hg1)
          | (go_at_call 24; refine HC.out.mono ?_; rintro e w2 ⟨rfl, hfin⟩; have Hfin := Lib.hid hfin; clear hfin))
        go_ret
        exact Hfin.out
      · have HD : Hid (∀ w1, MapIs w1 m N (updF f q none) → w.grownBy w1 (some m) → (w1.cell? ⟨b, 3, none⟩ = some (.int .i64 t) ∧ w1.cell? ⟨b, 2, none⟩ = some (.int .u64 u) ∧ w1.frozen? ⟨b, 2, none⟩ = false) ∧ Hid (RelP B b (.map (some m)) v N f xs u t q n w (.returned (.int .i64 0)) (w1.setCell ⟨b, 2, none⟩ (.int .u64 (u - s))))) := Lib.hid fun w1 h1 hg => by
          obtain ⟨H1, hO⟩ := H.drop h1 hg
          obtain ⟨o1, o2⟩ := H1.off
          refine ⟨⟨H1.cells.2.2.2, bx_cell (j := 2) H1.obj rfl⟩, Lib.hid ⟨(fun h2 => by rw [hf] at h2; cases h2), fun s' hs' => ?_⟩⟩
          rw [hf] at hs'
          cases hs'
          refine ⟨rfl, fun h => absurd h hlt, fun _ => Bkd.after hO ⟨_, v, xs, List.Perm.refl _, ⟨?_, H1.map.kept fun k hk => Below.heap_setCell _ _ _ _ (o2 k hk).1, row_kept H1.row fun k hk => Below.heap_setCell _ _ _ _ (fun e => o1 (by rw [hk, e])), H1.order, H1.base, H1.off⟩, (Only.refl _ w1).put (p := ⟨b, 2, none⟩) (Or.inl (Or.inl rfl)) _, fun k hk => Or.inl hk⟩⟩
          rw [heap_setCell_same w1 b 2 _ _ _ H1.obj]
          rfl
        clear H hf hs hm
        go_enter Try.func10, Try.ntmps10
        go_wp2_with (at_delete; refine wpList_del _ rfl _ _ rfl m N q f rfl rfl Hm.out hq ?_; intro w1 h1 hg1; obtain ⟨⟨c3, c2, f2⟩, Hfin⟩ := HD.out w1 h1 hg1; clear h1 hg1)
        go_ret
        exact Hfin.out
end
end Go.Proofs.Ytcofehmgnpmecaa
