/-
  The law AdmitFits, walked (typed by tools/gen_afits.py).
-/
import Derived.Test.YtcofehmgnpmecaaAFAt
import Derived.Deep.RegionHeld3
namespace Go.Proofs.Ytcofehmgnpmecaa
open Go.ChangeShapes Go.WideShapes Go.ChangeAt Go.RowKit Ap

def lenOf : Value → Int
  | .slice _ n _ => n
  | _ => 0
theorem seg_one {w : World} {g : Nat} {cs : List Value} {T : TypeId} (h : w.heap[g]? = some (.cells cs.toArray T (0, 0))) : Seg (· = g) w (some ⟨g, 0, none⟩) cs := ⟨fun _ => ⟨g, 0, rfl, rfl, fun j u hu => by
  rw [Nat.zero_add]
  simp only [World.cell?, h]
  simpa using hu⟩⟩

set_option maxRecDepth 100000 in
set_option maxHeartbeats 8000000 in
theorem afits_any (A : Option Addr) (n c : Nat) (l : List Ac) (w : World) (hln : l.length = n) (hL : Acs w.heap.size w A l) :
    Calls Try.prog 4 #[.slice A n c] w fun e w' => e = .returned (.bool true) ∧ Below w.heap.size w w' := by
  have HL := Lib.hid hL
  have Hl := Lib.hid hln
  clear hL hln
  go_enter Try.func4, Try.ntmps4
  go_wp2_with fail
  refine (awake_any _).mono ?_
  rintro e w1 ⟨rfl, hb1⟩
  have HB1 := Lib.hid hb1
  clear hb1
  obtain ⟨W2, hW2⟩ : ∃ W2, w1.alloc (bObj (.map none) (.slice none 0 0) (.int .u64 0) (.int .i64 0)) = W2 := ⟨_, rfl⟩
  have HP0 : Hid (Fr w1 w1.heap.size 0 (fun _ => False) [] 0 [] none 0 none 0 0 W2) := Lib.hid (by
    rw [← hW2]
    exact ⟨bs_new w1, World.ownsRow_nil _ _ _ _, World.ownsRow_nil _ _ _ _, fun k hk => by simp [Value.ownBlock] at hk, fun k hk => by simp [Value.ownBlock] at hk, Or.inl rfl⟩)
  have HW2 := Lib.hid hW2
  unfold bObj at HW2
  clear hW2
  obtain ⟨b, hb⟩ : ∃ b, w1.heap.size = b := ⟨_, rfl⟩
  rw [hb] at HP0
  go_wp2_with fail
  rw [HW2.out]
  clear hb
  go_loopw [4, 5, 6] (fun u v i wr => ∃ (k : Nat) (P : Nat → Prop) (L : List En) (now : Int) (Z : List Hv) (m : Nat) (A2 : Option Addr) (cA : Nat) (B2 : Option Addr) (cB : Nat), k ≤ n ∧ k ≤ 40 ∧ i = .int .i64 k ∧ u = .slice A2 m cA ∧ v = .slice B2 m cB ∧ Hid (Fr w1 b k P L now Z A2 cA B2 cB m wr) ∧ Hid (Kept L Z)) (fun _ _ i _ => (60 - intOf i).toNat)
  case atStart => exact ⟨0, _, [], 0, [], 0, none, 0, none, 0, by omega, by omega, rfl, rfl, rfl, HP0, Lib.hid kept_nil⟩
  case round =>
    clear HP0
    obtain ⟨k, P, L, now, Z, m, A2, cA, B2, cB, hk1, hk2, rfl, rfl, rfl, HP, HK⟩ := hrel
    by_cases hlt : k < n
    · by_cases h60 : k < 40
      · obtain ⟨ab, ao, rfl, hab, hat⟩ := HL.out (by rw [Hl.out]; omega)
        obtain ⟨a, ha⟩ : ∃ a, l[k]? = some a := ⟨_, List.getElem?_eq_getElem (by rw [Hl.out]; exact hlt)⟩
        obtain ⟨⟨hq, hnn⟩, hcs⟩ := hat k a ha
        obtain ⟨kd, q, x, y, nn⟩ := a
        dsimp only at hq hnn
        have hcell : ∀ j u, (acells ⟨kd, q, x, y, nn⟩)[j]? = some u → wr.cell? ⟨ab, ao + k * 5 + j, none⟩ = some u := fun j u hu => by
          have hbw : Below w.heap.size w wr := HB1.out.trans (HP.out.bs.below.mono HB1.out.size)
          exact ((old_cells hbw).1 ab _ hab).trans (hcs j u hu)
        have c0 : wr.cell? ⟨ab, ao + k * 5, none⟩ = some (.int .i64 kd) := hcell 0 _ rfl
        have c1 : wr.cell? ⟨ab, ao + k * 5 + 1, none⟩ = some (.int .i64 q) := hcell 1 _ rfl
        have c2' : wr.cell? ⟨ab, ao + k * 5 + 2, none⟩ = some (.int .i64 x) := hcell 2 _ rfl
        have c3 : wr.cell? ⟨ab, ao + k * 5 + 3, none⟩ = some (.int .i64 y) := hcell 3 _ rfl
        have c4 : wr.cell? ⟨ab, ao + k * 5 + 4, none⟩ = some (.int .i64 nn) := hcell 4 _ rfl
        have Hq : Hid (In64 q) := Lib.hid hq
        have Hnn : Hid (In64 nn) := Lib.hid hnn
        have hki : (k : Int) < n := by omega
        have hk60 : (k : Int) < 40 := by omega
        have hk0 : (0 : Int) ≤ k := by omega
        have hmk := HP.out.few HK.out
        have hcap := own_cap HP.out.x
        have hcbp := own_cap HP.out.y
        obtain ⟨W3, hW3⟩ : ∃ W3, wr.alloc (.cells #[.int .i64 kd, .int .i64 q, .int .i64 x, .int .i64 y, .int .i64 nn] 37 (0, 0)) = W3 := ⟨_, rfl⟩
        obtain ⟨hM, hX, hne⟩ := HP.out.act kd q x y nn hW3
        have HM := Lib.hid hM
        have HX := Lib.hid hX
        have HNe := Lib.hid hne
        have HW3 := Lib.hid hW3
        clear hat hcs hcell hq hnn ha hW3 HP HL hM hX hne
        generalize (fun k => P k ∨ k = wr.heap.size) = P1 at HM HX
        by_cases hk1' : kd = 1
        · subst hk1'
          cases hf : findO L q with
          | none =>
            as_aux_lemma =>
              go_wp2_with fail
              rw [HW3.out]
              generalize hpb : wr.heap.size = pb at *
              clear c0 c1 c2' c3 c4 HW3 hpb
              have e1 : relE L q = 6 := by rw [relE, hf]; rfl
              have e2 : relL L q nn now = L := by rw [relL, hf]
              refine (bs_release HM.out.bs (by omega) Hq.out Hnn.out).mono ?_
              intro e w4 h4
              rw [e1, e2] at h4
              obtain ⟨rfl, ht⟩ := h4
              have M4 := Lib.hid (HM.out.turn ht)
              clear ht e1 e2 hf HM HX
              go_wp2
              go_roundw
              case rel => exact ⟨k + 1, _, _, _, _, _, _, _, _, _, by omega, by omega, by go_num, rfl, rfl, Lib.hid (M4.out.wider (by omega)), HK⟩
              case measure => simp [intOf]; omega
          | some fi =>
            as_aux_lemma =>
              go_wp2_with fail
              rw [HW3.out]
              generalize hpb : wr.heap.size = pb at *
              clear c0 c1 c2' c3 c4 HW3 hpb
              have e1 : relE L q = 0 := by rw [relE, hf]; rfl
              have HRl := Lib.hid (HK.out.release (v := nn) (t := now) hf)
              refine (bs_release HM.out.bs (by omega) Hq.out Hnn.out).mono ?_
              intro e w4 h4
              rw [e1] at h4
              obtain ⟨rfl, ht⟩ := h4
              have M4 := Lib.hid (HM.out.turn ht)
              have X4 := Lib.hid (HX.out.turn ht)
              have Hone := Lib.hid HK.out.one
              clear ht e1 hf HM HX HK
              generalize relL L q nn now = L4 at *
              have hm9 : m ≤ 900000 := by omega
              go_wp2_with fail
              go_loopw [4, 5, 8] (fun u v i wr => ∃ (kk : Nat) (P2 : Nat → Prop) (Z2 : List Hv) (m2 : Nat) (A3 : Option Addr) (cA3 : Nat) (B3 : Option Addr) (cB3 : Nat), kk ≤ m2 + 1 ∧ m2 ≤ m ∧ i = .int .i64 kk ∧ u = .slice A3 m2 cA3 ∧ v = .slice B3 m2 cB3 ∧ Hid (Fr w1 b k P2 L4 now Z2 A3 cA3 B3 cB3 m2 wr) ∧ Hid (Bx pb 1 q x y nn P2 wr) ∧ Hid ((Z2 = Z ∧ ∀ j, j < kk → (hat Z j).1 ≠ q) ∨ ∃ j, j < Z.length ∧ (hat Z j).1 = q ∧ Z2 = Z.eraseIdx j)) (fun u _ i _ => (lenOf u + 2 - intOf i).toNat)
              case atStart => exact ⟨0, P1, Z, m, A2, cA, B2, cB, by omega, by omega, rfl, rfl, rfl, M4, X4, Lib.hid (Or.inl ⟨rfl, fun j hj => by omega⟩)⟩
              case round =>
                clear M4 X4 HNe hcap hcbp
                obtain ⟨kk, P2, Z2, m2, A3, cA3, B3, cB3, hkk, hm2, rfl, rfl, rfl, M5, X5, HZ⟩ := hrel
                have HLn := Lib.hid M5.out.len
                by_cases hin : kk < m2
                · obtain ⟨⟨g, rfl⟩, hca, hca63⟩ := own_some M5.out.x (by omega)
                  obtain ⟨⟨h, rfl⟩, hcb, hcb63⟩ := own_some M5.out.y (by omega)
                  have hgl := (M5.out.x.lt g rfl).2
                  obtain ⟨-, a1, -, -, -⟩ := X5.out.cells
                  have hlp := lt_of_blk X5.out.b
                  have d0 : wr.cell? ⟨g, kk, none⟩ = some (.int .i64 (hat Z2 kk).1) := by
                    have h1 := M5.out.x.cellAt kk (by omega)
                    rw [h1]
                    exact wcells_at (by rw [HLn.out]; exact hin)
                  have hkki : (kk : Int) < m2 := by omega
                  have hkk0 : (0 : Int) ≤ kk := by omega
                  obtain ⟨z, hz⟩ : ∃ z, (hat Z2 kk).1 = z := ⟨_, rfl⟩
                  rw [hz] at d0
                  have Hz := Lib.hid hz
                  clear hz
                  have Hlat : Hid (∀ w', Below wr.heap.size wr w' → Hid (Fr w1 b k P2 L4 now Z2 (some ⟨g, 0, none⟩) cA3 (some ⟨h, 0, none⟩) cB3 m2 w') ∧ Hid (Bx pb 1 q x y nn P2 w')) := Lib.hid fun w' hb => ⟨Lib.hid (M5.out.later hb), Lib.hid (X5.out.later hb)⟩
                  by_cases hzq : z = q
                  · subst hzq
                    have HZ6 : Hid (kk < Z.length ∧ (hat Z kk).1 = z ∧ Z2 = Z) := Lib.hid (by
                      have h3 : Z2.length = m2 := HLn.out
                      rcases HZ.out with ⟨e, h1⟩ | ⟨j, hj, h1, e⟩
                      · rw [← e]
                        exact ⟨by omega, Hz.out, rfl⟩
                      · exfalso
                        have h4 := Hone.out
                        have h5 : (Z2.map (·.1)).Nodup ∧ z ∉ Z2.map (·.1) := by
                          have h6 : ((Z.map (·.1))).Perm (z :: Z2.map (·.1)) := by
                            have h7 := List.perm_middle (a := hat Z j) (l₁ := Z.take j) (l₂ := Z.drop (j + 1))
                            have h8 : Z = Z.take j ++ hat Z j :: Z.drop (j + 1) := by
                              conv => lhs; rw [← List.take_append_drop j Z, List.drop_eq_getElem_cons hj]
                              have h9 := hat_some hj
                              rw [List.getElem?_eq_getElem hj] at h9
                              rw [Option.some.inj h9]
                            rw [e, List.eraseIdx_eq_take_drop_succ]
                            have h10 := h7.map (·.1)
                            rw [List.map_cons, h1] at h10
                            rw [← h8] at h10
                            exact h10
                          have h11 := h6.nodup_iff.1 h4
                          rw [List.nodup_cons] at h11
                          exact ⟨h11.2, h11.1⟩
                        exact h5.2 (List.mem_map.2 ⟨hat Z2 kk, List.mem_of_getElem? (hat_some (by omega)), Hz.out⟩))
                    have hEr : Hid (([] ++ Z2.take kk) ++ Z2.drop (kk + 1) = Z2.eraseIdx kk) := Lib.hid (by rw [List.nil_append, List.eraseIdx_eq_take_drop_succ])
                    have HZ7 : Hid ((Z2.eraseIdx kk = Z ∧ ∀ j, j < kk + 1 → (hat Z j).1 ≠ z) ∨ ∃ j, j < Z.length ∧ (hat Z j).1 = z ∧ Z2.eraseIdx kk = Z.eraseIdx j) := Lib.hid (Or.inr ⟨kk, HZ6.out.1, HZ6.out.2.1, by rw [HZ6.out.2.2]⟩)
                    clear HZ HZ6
                    go_wp2_with fail
                    refine wp_region_later wr.heap.size wr (by kernel_rfl) (by kernel_rfl) (Below.refl _ _) ?_
                    repeat (go_big_quiet_step (fail))
                    refine wpQuiet_nil ?_
                    rintro w5 ⟨n5, rfl⟩
                    obtain ⟨M6, X6⟩ := Hlat.out _ n5.below
                    generalize n5.world = w5 at *
                    clear a1 d0 Hlat hgl hlp M5 X5
                    have S1 : Hid (∀ w', Below w5.heap.size w5 w' → Seg (fun k => (Value.slice (some ⟨g, 0, none⟩) m2 cA3).ownBlock = some k) w' (some ⟨g, 0, none⟩) (wcells Z2)) := Lib.hid fun w' hb => (Seg.own M6.out.x).kept fun k hk => hb.block k (M6.out.x.lt k hk).2
                    have S2 : Hid (∀ w', Below w5.heap.size w5 w' → Seg (fun k => (Value.slice (some ⟨h, 0, none⟩) m2 cB3).ownBlock = some k) w' (some ⟨h, 0, none⟩) (hcells Z2)) := Lib.hid fun w' hb => (Seg.own M6.out.y).kept fun k hk => hb.block k (M6.out.y.lt k hk).2
                    have R1 : Hid (∀ w', Below w5.heap.size w5 w' → Seg (fun k => (Value.slice (some ⟨g, 0, none⟩) m2 cA3).ownBlock = some k) w' (some ⟨g, 0, none⟩) (wcells (Z2.take kk))) := Lib.hid fun w' hb => by
                      rw [← wcells_take]
                      exact (S1.out w' hb).head kk
                    have R3 : Hid (∀ w', Below w5.heap.size w5 w' → Seg (fun k => (Value.slice (some ⟨g, 0, none⟩) m2 cA3).ownBlock = some k) w' (if cA3 = kk + 1 then some ⟨g, 0, none⟩ else some ⟨g, kk + 1, none⟩) (wcells (Z2.drop (kk + 1)))) := Lib.hid fun w' hb => by
                      rw [← wcells_drop]
                      split
                      · rename_i e
                        rw [List.drop_eq_nil_of_le (by rw [wcells_len, HLn.out]; omega)]
                        exact Seg.nil
                      · have := (S1.out w' hb).part (kk + 1)
                        rwa [Nat.zero_add] at this
                    have Q1 : Hid (∀ w', Below w5.heap.size w5 w' → Seg (fun k => (Value.slice (some ⟨h, 0, none⟩) m2 cB3).ownBlock = some k) w' (some ⟨h, 0, none⟩) (hcells (Z2.take kk))) := Lib.hid fun w' hb => by
                      rw [← hcells_take]
                      exact (S2.out w' hb).head (kk * 2)
                    have Q3 : Hid (∀ w', Below w5.heap.size w5 w' → Seg (fun k => (Value.slice (some ⟨h, 0, none⟩) m2 cB3).ownBlock = some k) w' (if cB3 = kk + 1 then some ⟨h, 0, none⟩ else some ⟨h, (kk + 1) * 2, none⟩) (hcells (Z2.drop (kk + 1)))) := Lib.hid fun w' hb => by
                      rw [← hcells_drop]
                      split
                      · rename_i e
                        rw [List.drop_eq_nil_of_le (by rw [hcells_len, HLn.out]; omega)]
                        exact Seg.nil
                      · have := (S2.out w' hb).part ((kk + 1) * 2)
                        rwa [Nat.zero_add] at this
                    have R1n : Hid ((some (⟨g, 0, none⟩ : Addr)) = none → kk = 0 ∧ cA3 = 0) := Lib.hid fun h => by cases h
                    have R3n : Hid ((if cA3 = kk + 1 then some (⟨g, 0, none⟩ : Addr) else some ⟨g, kk + 1, none⟩) = none → m2 - (kk + 1) = 0 ∧ cA3 - (kk + 1) = 0) := Lib.hid fun h => by split at h <;> cases h
                    have Q1n : Hid ((some (⟨h, 0, none⟩ : Addr)) = none → kk = 0 ∧ cB3 = 0) := Lib.hid fun h => by cases h
                    have Q3n : Hid ((if cB3 = kk + 1 then some (⟨h, 0, none⟩ : Addr) else some ⟨h, (kk + 1) * 2, none⟩) = none → m2 - (kk + 1) = 0 ∧ cB3 - (kk + 1) = 0) := Lib.hid fun h => by split at h <;> cases h
                    have R3l : Hid ((Z2.drop (kk + 1)).length = m2 - (kk + 1)) := Lib.hid (by rw [List.length_drop, HLn.out])
                    have Rl : Hid ((Z2.take kk).length = kk) := Lib.hid (by rw [List.length_take, HLn.out]; omega)
                    have hn0 : (0 : Int) ≤ m2 := by omega
                    have hn1 : (m2 : Int) ≤ 900000 := by omega
                    have hc0 : (m2 : Int) ≤ cA3 := by omega
                    have hc0' : (m2 : Int) ≤ cB3 := by omega
                    have hm1' : (kk : Int) ≤ cA3 := by omega
                    have hm1'' : (kk : Int) ≤ cB3 := by omega
                    have hmt : ((kk : Int) + 1).toNat = kk + 1 := by omega
                    have hm2' : (kk : Int) + 1 ≤ m2 := by omega
                    have hm3 : (0 : Int) ≤ (kk : Int) + 1 := by omega
                    have hm4 : (kk : Int) + 1 ≤ cA3 := by omega
                    have hm4' : (kk : Int) + 1 ≤ cB3 := by omega
                    have hmw : IntKind.i64.wrap ((kk : Int) + 1) = (kk : Int) + 1 := IntWalk.i64_in _ (by omega)
                    go_wp2_with fail
                    go_region_held3 (fun _ => True) (trivial) (first
                      | (refine step_who (w5.alloc (.cells #[] 3)).drew (by rfl) (.tmp 75) (.tmp 78) (by rfl) w5.heap.size (.slice (some ⟨w5.heap.size, 0, none⟩) 0 0) 0 [] (by rfl) (own_drew (own_empty (Nat.le_refl _))) _ _ _ _ (by rfl) Rl.out R1n.out (R1.out _ (((Below.refl _ _).alloc (Nat.le_refl _) _).drew)) kk (by omega) (by omega) (by simp) ?_; intro A7 cap7 w7 X7 g7 _; have G7 := Lib.hid ((((Below.refl _ _).alloc (Nat.le_refl _) _).drew).grown g7 (by simp) (fun k hk => by cases hk; exact Nat.le_refl _)); clear g7)
                      | (refine step_who w7 (by rfl) (.tmp 79) (.tmp 83) (by rfl) w5.heap.size (.slice A7 kk cap7) kk _ (by rfl) X7 _ _ _ _ (by rfl) R3l.out R3n.out (R3.out _ G7.out) (m2 - 1) (by omega) (by omega) G7.out.size ?_; intro A8 cap8 w8 X8 g8 _; have G8 := Lib.hid (G7.out.grown g8 G7.out.size (fun k hk => (X7.lt k hk).1)); clear g8))
                    clear R1 R3 R1n R3n S1 X7 G7
                    have HG8 : Hid (Below w8.heap.size w8 (w8.alloc (.cells #[] 35)).drew) := Lib.hid (((Below.refl _ _).alloc (Nat.le_refl _) _).drew)
                    have HG8' : Hid (Below w5.heap.size w5 (w8.alloc (.cells #[] 35)).drew) := Lib.hid (below_call (Nat.le_refl _) G8.out HG8.out)
                    go_wp2_with fail
                    all_goals
                      go_region_held3 (fun _ => True) (trivial) (first
                        | (refine step_have (w8.alloc (.cells #[] 35)).drew (by rfl) (.tmp 85) (.tmp 88) (by rfl) w8.heap.size (.slice (some ⟨w8.heap.size, 0, none⟩) 0 0) 0 [] (by rfl) (own_drew (own_empty (Nat.le_refl _))) _ _ _ _ (by rfl) Rl.out Q1n.out (Q1.out _ HG8'.out) kk (by omega) (by omega) (by simp) ?_; intro A9 cap9 w9 X9 g9 _; have G9 := Lib.hid (HG8.out.grown g9 (by simp) (fun k hk => by cases hk; exact Nat.le_refl _)); clear g9)
                        | (refine step_have w9 (by rfl) (.tmp 89) (.tmp 93) (by rfl) w8.heap.size (.slice A9 kk cap9) kk _ (by rfl) X9 _ _ _ _ (by rfl) R3l.out Q3n.out (Q3.out _ (below_call (Nat.le_refl _) G8.out G9.out)) (m2 - 1) (by omega) (by omega) G9.out.size ?_; intro A10 cap10 w10 X10 g10 _; have G10 := Lib.hid (G9.out.grown g10 G9.out.size (fun k hk => (X9.lt k hk).1)); clear g10))
                      all_goals
                        have Hfr : Hid (Fr w1 b k (fun k => P2 k ∨ (w5.heap.size ≤ k ∧ k < w10.heap.size)) L4 now (Z2.eraseIdx kk) A8 cap8 A10 cap10 (m2 - 1) w10 ∧ Bx pb 1 z x y nn (fun k => P2 k ∨ (w5.heap.size ≤ k ∧ k < w10.heap.size)) w10) := Lib.hid (by
                          have hb1 : Below w5.heap.size w5 w10 := below_call (Nat.le_refl _) G8.out G10.out
                          have hz5 := M6.out.bs.size
                          have hz8 := G8.out.size
                          have h1 := low_row (own_call X8 G10.out) hz5
                          have h2 := low_row X10 (Nat.le_trans hz5 hz8)
                          rw [hEr.out] at h1 h2
                          refine ⟨M6.out.rows (Only.of_below hb1) h1 h2 (Or.inr fun i hi => (X8.lt i hi).1) (Or.inr fun i hi => Nat.le_trans hz8 (X10.lt i hi).1) ?_, X6.out.rows (S := fun _ => False) (Only.of_below hb1) (fun h => h)⟩
                          by_cases hnone : (Value.slice A10 (m2 - 1) cap10).ownBlock = none
                          · exact Or.inl hnone
                          · refine Or.inr fun e => ?_
                            obtain ⟨i, hi⟩ := Option.ne_none_iff_exists'.1 hnone
                            have h3 := (X10.lt i hi).1
                            have h4 := (X8.lt i (e ▸ hi)).2
                            omega)
                        clear X8 X10 Q1 Q3 Q1n Q3n S2 X9 G9 G8 G10 M6 X6
                        go_wp2
                        all_goals
                          go_roundw
                          case rel => exact ⟨kk + 1, _, _, m2 - 1, _, _, _, _, by omega, by omega, by go_num, rfl, rfl, Lib.hid Hfr.out.1, Lib.hid Hfr.out.2, HZ7⟩
                          case measure => simp [lenOf, intOf]; omega
                  · have hzb : (z == q) = false := by simpa using hzq
                    go_wp2_with fail
                    refine wp_region_later wr.heap.size wr (by kernel_rfl) (by kernel_rfl) (Below.refl _ _) ?_
                    repeat (go_big_quiet_step (fail))
                    refine wpQuiet_nil ?_
                    rintro w5 ⟨n5, rfl⟩
                    obtain ⟨M6, X6⟩ := Hlat.out _ n5.below
                    generalize n5.world = w5 at *
                    have HZ6 : Hid ((Z2 = Z ∧ ∀ j, j < kk + 1 → (hat Z j).1 ≠ q) ∨ ∃ j, j < Z.length ∧ (hat Z j).1 = q ∧ Z2 = Z.eraseIdx j) := Lib.hid (by
                      rcases HZ.out with ⟨e, h1⟩ | h1
                      · refine Or.inl ⟨e, fun j hj => ?_⟩
                        by_cases hj2 : j < kk
                        · exact h1 j hj2
                        · obtain rfl : j = kk := by omega
                          rw [← e, Hz.out]
                          exact hzq
                      · exact Or.inr h1)
                    clear a1 d0 Hlat
                    go_wp2
                    go_roundw
                    case rel => exact ⟨kk + 1, P2, Z2, m2, _, _, _, _, by omega, by omega, by go_num, rfl, rfl, M6, X6, HZ6⟩
                    case measure => simp [lenOf, intOf]; omega
                · have K5 : Hid (Kept L4 Z2) := Lib.hid (by
                    rcases HZ.out with ⟨e, h1⟩ | ⟨j, hj, h1, e⟩
                    · obtain ⟨j, hj, h2⟩ := HRl.out.1
                      have h3 : Z2.length = m2 := HLn.out
                      rw [e] at h3
                      exact absurd h2 (h1 j (by omega))
                    · rw [e]
                      exact HRl.out.2 j hj h1)
                  clear HZ HRl Hone
                  go_wp2_with fail
                  refine (M5.out.fits K5.out (by omega) (Below.refl _ _)).mono ?_
                  rintro e w9 ⟨rfl, hb9⟩
                  have M9 := Lib.hid (M5.out.later hb9)
                  clear hb9
                  go_wp2
                  go_roundw
                  case rel => exact ⟨k + 1, _, _, _, _, _, _, _, _, _, by omega, by omega, by go_num, rfl, rfl, Lib.hid (M9.out.wider (by omega)), K5⟩
                  case measure => simp [intOf]; omega
        · have hkb1 : (kd == 1) = false := by simpa using hk1'
          by_cases hk2' : kd = 2
          · subst hk2'
            as_aux_lemma =>
              go_wp2_with fail
              rw [HW3.out]
              generalize hpb : wr.heap.size = pb at *
              clear c0 c1 c2' c3 c4 HW3 hpb
              refine (bs_advance HM.out.bs (by omega) nn).mono ?_
              rintro e w4 ⟨rfl, ht⟩
              have M4 := Lib.hid (HM.out.turn ht)
              have K4 := Lib.hid (HK.out.advance now nn)
              clear ht HM HX HK
              generalize advL L now nn = L4 at *
              generalize advN L now nn = E at *
              generalize advT now nn = t4 at *
              go_wp2_with fail
              refine (M4.out.fits K4.out (by omega) (Below.refl _ _)).mono ?_
              rintro e w9 ⟨rfl, hb9⟩
              have M9 := Lib.hid (M4.out.later hb9)
              clear hb9
              go_wp2
              go_roundw
              case rel => exact ⟨k + 1, _, _, _, _, _, _, _, _, _, by omega, by omega, by go_num, rfl, rfl, Lib.hid (M9.out.wider (by omega)), K4⟩
              case measure => simp [intOf]; omega
          · have hkb2 : (kd == 2) = false := by simpa using hk2'
            by_cases hE : admE L q x y = 0
            ·
              as_aux_lemma =>
                obtain ⟨a0, -, -, -, -⟩ := HX.out.cells
                have hlp := lt_of_blk HX.out.b
                go_wp2_with fail
                rw [HW3.out]
                generalize hpb : wr.heap.size = pb at *
                clear c0 c1 c2' c3 c4 HW3 hpb
                have HS : Hid (∀ w', Below W3.heap.size W3 w' → w'.cell? ⟨pb, 1, none⟩ = some (.int .i64 q) ∧ w'.cell? ⟨pb, 2, none⟩ = some (.int .i64 x) ∧ w'.cell? ⟨pb, 3, none⟩ = some (.int .i64 y)) := Lib.hid fun w' hb => by
                  obtain ⟨-, b1, b2, b3, -⟩ := (HX.out.later hb).cells
                  exact ⟨b1, b2, b3⟩
                have HAd : Hid (∀ w', Below W3.heap.size W3 w' → Calls Try.prog 14 #[.pointer (some ⟨b, 0, none⟩), .int .i64 q, .agg #[.int .i64 x, .int .i64 y]] w' fun e w'' => e = .returned (.int .i64 (admE L q x y)) ∧ Hid (Fr w1 b (k + 1) P1 (admL L q x y) now Z A2 cA B2 cB m w'') ∧ Hid (Bx pb kd q x y nn P1 w'')) := Lib.hid fun w' hb => by
                  have h1 := HM.out.later hb
                  exact (bs_admit h1.bs (by omega) Hq.out x y).mono fun e w'' ⟨h2, h3⟩ => ⟨h2, Lib.hid (h1.turn h3), Lib.hid ((HX.out.later hb).turn h3)⟩
                have K7 := Lib.hid (HK.out.admit hE)
                rw [hE] at HAd
                generalize admL L q x y = L7 at *
                clear hE HK a0
                go_region_held3 (fun w' => w'.cell? ⟨pb, 1, none⟩ = some (.int .i64 q) ∧ w'.cell? ⟨pb, 2, none⟩ = some (.int .i64 x) ∧ w'.cell? ⟨pb, 3, none⟩ = some (.int .i64 y))
                  (first | with_reducible exact HS9.out | with_reducible exact HS.out _ G8.out | with_reducible exact HS.out _ (Below.refl _ _).drew)
                  (first
                    | (go_at_call 9; (with_reducible refine (ato_any x y _).mono ?_); rintro e w8 ⟨rfl, hb8⟩; have G8 := Lib.hid (below_call (Nat.le_refl _) (Below.refl _ _).drew hb8); clear hb8)
                    | (go_at_call 14; (with_reducible refine (HAd.out _ G8.out).mono ?_); rintro e w7 ⟨rfl, M7, X7⟩; have HS9 : Hid (w7.cell? ⟨pb, 1, none⟩ = some (.int .i64 q) ∧ w7.cell? ⟨pb, 2, none⟩ = some (.int .i64 x) ∧ w7.cell? ⟨pb, 3, none⟩ = some (.int .i64 y)) := Lib.hid (by obtain ⟨-, b1, b2, b3, -⟩ := X7.out.cells; exact ⟨b1, b2, b3⟩)))
                clear HS HAd HM
                have hap := M7.out.apart
                have HO : Hid (∀ w', Only (fun k => (Value.slice A2 m cA).ownBlock = some k ∨ (Value.slice B2 m cB).ownBlock = some k) w7 w' → w'.cell? ⟨pb, 1, none⟩ = some (.int .i64 q) ∧ w'.cell? ⟨pb, 2, none⟩ = some (.int .i64 x) ∧ w'.cell? ⟨pb, 3, none⟩ = some (.int .i64 y)) := Lib.hid fun w' ho => by
                  obtain ⟨-, b1, b2, b3, -⟩ := (X7.out.rows ho (fun h => HNe.out pb h rfl)).cells
                  exact ⟨b1, b2, b3⟩
                have HXl : Hid (∀ k, (Value.slice A2 m cA).ownBlock = some k → k < w7.heap.size) := Lib.hid fun k hk => (M7.out.x.lt k hk).2
                have HYl : Hid (∀ k, (Value.slice B2 m cB).ownBlock = some k → k < w7.heap.size) := Lib.hid fun k hk => (M7.out.y.lt k hk).2
                have HB7 := Lib.hid M7.out.bs.size
                have hne1 : ∀ o : Obj, (w7.alloc o).drew.heap.size = w7.heap.size + 1 := fun o => by simp
                have hne2 : ∀ o o' : Obj, ((w7.alloc o).alloc o').drew.heap.size = w7.heap.size + 2 := fun o o' => by simp
                have Ho1 : Hid (∀ o : Obj, Only (fun k => (Value.slice A2 m cA).ownBlock = some k ∨ (Value.slice B2 m cB).ownBlock = some k) w7 (w7.alloc o).drew) := Lib.hid fun o => ((Only.refl _ _).new o).drew
                have Ho2 : Hid (∀ o o' : Obj, Only (fun k => (Value.slice A2 m cA).ownBlock = some k ∨ (Value.slice B2 m cB).ownBlock = some k) w7 ((w7.alloc o).alloc o').drew) := Lib.hid fun o o' => (((Only.refl _ _).new o).new o').drew
                -- behind the first append: what is so in each of its three worlds
                have HA1 : Hid (∀ (a w4 : World) (A4 : Option Addr) (c4 : Nat), Only (fun k => (Value.slice A2 m cA).ownBlock = some k ∨ (Value.slice B2 m cB).ownBlock = some k) w7 a → a.ownsRow w1.heap.size 35 2 (.slice B2 m cB) m (hcells Z) → a.grownBy w4 (Value.slice A2 m cA).ownBlock → ((Value.slice A4 (m + 1) c4).ownBlock = (Value.slice A2 m cA).ownBlock ∨ (Value.slice A4 (m + 1) c4).ownBlock = some a.heap.size) →
                    Hid (Only (fun k => (Value.slice A2 m cA).ownBlock = some k ∨ (Value.slice B2 m cB).ownBlock = some k) w7 w4) ∧ Hid (w4.ownsRow w1.heap.size 35 2 (.slice B2 m cB) m (hcells Z)) ∧ Hid ((Value.slice B2 m cB).ownBlock = none ∨ (Value.slice B2 m cB).ownBlock ≠ (Value.slice A4 (m + 1) c4).ownBlock) ∧ Hid ((Value.slice A4 (m + 1) c4).ownBlock = (Value.slice A2 m cA).ownBlock ∨ ∀ k, (Value.slice A4 (m + 1) c4).ownBlock = some k → w7.heap.size ≤ k) ∧ w7.heap.size ≤ w4.heap.size) := Lib.hid fun a w4 A4 c4 ho hy hg ha => by
                  have hsz := ho.size
                  exact ⟨Lib.hid (only_grown ho hg fun k hk => Or.inl hk), Lib.hid (hy.kept hg hap), Lib.hid (two_apart hap ha fun k hk => Nat.lt_of_lt_of_le (HYl.out k hk) hsz), Lib.hid (ha.imp id fun h k hk => by rw [h] at hk; cases hk; exact hsz), Nat.le_trans hsz hg.size⟩
                have HN1 : Hid (∀ (a w4 : World) (g : Nat) (cs : List Value) (T : TypeId), a.grownBy w4 (Value.slice A2 m cA).ownBlock → a.heap[g]? = some (.cells cs.toArray T (0, 0)) → w7.heap.size ≤ g → Hid (Seg (· = g) w4 (some ⟨g, 0, none⟩) cs)) := Lib.hid fun a w4 g cs T hg hc hlg => Lib.hid (seg_one ((hg.block g (lt_of_blk hc) (fun e => by have := HXl.out g e.symm; omega)).trans hc))
                -- behind the second one
                have HA2 : Hid (∀ (a w6 : World) (A4 B6 : Option Addr) (c4 c6 : Nat), Only (fun k => (Value.slice A2 m cA).ownBlock = some k ∨ (Value.slice B2 m cB).ownBlock = some k) w7 a → a.ownsRow w1.heap.size 3 1 (.slice A4 (m + 1) c4) (m + 1) (wcells (Z ++ [(q, x, y)])) → ((Value.slice B2 m cB).ownBlock = none ∨ (Value.slice B2 m cB).ownBlock ≠ (Value.slice A4 (m + 1) c4).ownBlock) → ((Value.slice A4 (m + 1) c4).ownBlock = (Value.slice A2 m cA).ownBlock ∨ ∀ k, (Value.slice A4 (m + 1) c4).ownBlock = some k → w7.heap.size ≤ k) → w6.ownsRow w1.heap.size 35 2 (.slice B6 (m + 1) c6) (m + 1) (hcells (Z ++ [(q, x, y)])) → a.grownBy w6 (Value.slice B2 m cB).ownBlock → ((Value.slice B6 (m + 1) c6).ownBlock = (Value.slice B2 m cB).ownBlock ∨ (Value.slice B6 (m + 1) c6).ownBlock = some a.heap.size) →
                    Hid (Fr w1 b (k + 1) (fun k => P1 k ∨ (w7.heap.size ≤ k ∧ k < w6.heap.size)) L7 now (Z ++ [(q, x, y)]) A4 c4 B6 c6 (m + 1) w6) ∧ Hid (Only (fun k => (Value.slice A2 m cA).ownBlock = some k ∨ (Value.slice B2 m cB).ownBlock = some k) w7 w6)) := Lib.hid fun a w6 A4 B6 c4 c6 ho hx hxy hxa hy hg hb => by
                  have hsz := ho.size
                  have ho6 := only_grown ho hg (fun k hk => Or.inr hk)
                  refine ⟨Lib.hid (M7.out.rows ho6 (hx.kept hg (two_turn hxy)) hy hxa (hb.imp id fun h k hk => by rw [h] at hk; cases hk; exact hsz) (two_turn (two_apart (two_turn hxy) hb fun k hk => (hx.lt k hk).2))), Lib.hid ho6⟩
                obtain ⟨-, b1, b2, b3, -⟩ := X7.out.cells
                have hl7 := lt_of_blk X7.out.b
                have hm9 : m ≤ 900000 := by omega
                have HQ : Hid (∀ E E' : Obj, ((w7.alloc E).alloc E').drew.heap[w7.heap.size]? = some E ∧ ((w7.alloc E).alloc E').drew.heap[w7.heap.size + 1]? = some E') := Lib.hid fun E E' => by
                  have h := heap_alloc_new (w7.alloc E) E'
                  have hs : (w7.alloc E).heap.size = w7.heap.size + 1 := by simp
                  rw [hs] at h
                  exact ⟨(Below.heap_alloc _ _ _ (by simp)).trans (heap_alloc_new w7 E), h⟩
                go_wp2_with fail
                go_region_held3 (fun w' => w'.cell? ⟨pb, 1, none⟩ = some (.int .i64 q) ∧ w'.cell? ⟨pb, 2, none⟩ = some (.int .i64 x) ∧ w'.cell? ⟨pb, 3, none⟩ = some (.int .i64 y))
                  (first | with_reducible exact HO.out _ G6.out | with_reducible exact HO.out _ (G4.out.new _) | with_reducible exact HO.out _ G4.out | with_reducible exact HO.out _ (Ho2.out _ _) | with_reducible exact HO.out _ (Ho1.out _) | with_reducible exact HO.out _ (Only.refl _ _).drew)
                  (first
                    | (refine step_who (w7.alloc (.cells #[.int .i64 q] 3 (0, 0))).drew (by rfl) (.tmp 37) (.tmp 40) (by rfl) w1.heap.size (.slice A2 m cA) m Z (by rfl) (own_drew (M7.out.x.alloc _)) (some ⟨w7.heap.size, 0, none⟩) 1 1 [(q, x, y)] (by rfl) rfl (fun e => by cases e) (seg_one (T := 3) (cs := [.int .i64 q]) (heap_alloc_new _ _)) (m + 1) rfl (by omega) (by have := HB7.out; simp; omega) ?_; intro A4 c4 w4 hr4 hg4 ha4; have X4 := Lib.hid hr4; obtain ⟨G4, Y4, T4, V4, z4⟩ := HA1.out _ w4 A4 c4 (Ho1.out _) (own_drew (M7.out.y.alloc _)) hg4 ha4; clear hr4 hg4 ha4)
                    | (refine step_who ((w7.alloc (.cells #[.int .i64 q] 3 (0, 0))).alloc (.cells #[.int .i64 x, .int .i64 y] 35 (0, 0))).drew (by rfl) (.tmp 37) (.tmp 40) (by rfl) w1.heap.size (.slice A2 m cA) m Z (by rfl) (own_drew ((M7.out.x.alloc _).alloc _)) (some ⟨w7.heap.size, 0, none⟩) 1 1 [(q, x, y)] (by rfl) rfl (fun e => by cases e) (seg_one (T := 3) (cs := [.int .i64 q]) ((HQ.out _ _).1)) (m + 1) rfl (by omega) (by have := HB7.out; simp; omega) ?_; intro A4 c4 w4 hr4 hg4 ha4; have X4 := Lib.hid hr4; obtain ⟨G4, Y4, T4, V4, z4⟩ := HA1.out _ w4 A4 c4 (Ho2.out _ _) (own_drew ((M7.out.y.alloc _).alloc _)) hg4 ha4; have N4 := HN1.out _ w4 (w7.heap.size + 1) [.int .i64 x, .int .i64 y] 35 hg4 (HQ.out _ _).2 (by omega); clear hr4 hg4 ha4)
                    | (refine step_who ((w7.alloc (.cells #[.int .i64 x, .int .i64 y] 35 (0, 0))).alloc (.cells #[.int .i64 q] 3 (0, 0))).drew (by rfl) (.tmp 37) (.tmp 40) (by rfl) w1.heap.size (.slice A2 m cA) m Z (by rfl) (own_drew ((M7.out.x.alloc _).alloc _)) (some ⟨w7.heap.size + 1, 0, none⟩) 1 1 [(q, x, y)] (by rfl) rfl (fun e => by cases e) (seg_one (T := 3) (cs := [.int .i64 q]) ((HQ.out _ _).2)) (m + 1) rfl (by omega) (by have := HB7.out; simp; omega) ?_; intro A4 c4 w4 hr4 hg4 ha4; have X4 := Lib.hid hr4; obtain ⟨G4, Y4, T4, V4, z4⟩ := HA1.out _ w4 A4 c4 (Ho2.out _ _) (own_drew ((M7.out.y.alloc _).alloc _)) hg4 ha4; have N4 := HN1.out _ w4 w7.heap.size [.int .i64 x, .int .i64 y] 35 hg4 (HQ.out _ _).1 (by omega); clear hr4 hg4 ha4)
                    | (refine step_have (w4.alloc (.cells #[.int .i64 x, .int .i64 y] 35 (0, 0))) (by rfl) (.tmp 42) (.tmp 45) (by rfl) w1.heap.size (.slice B2 m cB) m Z (by rfl) (Y4.out.alloc _) (some ⟨w4.heap.size, 0, none⟩) 1 1 [(q, x, y)] (by rfl) rfl (fun e => by cases e) (seg_one (T := 35) (cs := [.int .i64 x, .int .i64 y]) (heap_alloc_new _ _)) (m + 1) rfl (by omega) (by have := HB7.out; have := z4; simp; omega) ?_; intro B6 c6 w6 hr6 hg6 ha6; obtain ⟨M6, G6⟩ := HA2.out _ w6 A4 B6 c4 c6 (G4.out.new _) (X4.out.alloc _) T4.out V4.out hr6 hg6 ha6; clear hr6 hg6 ha6)
                    | (refine step_have w4 (by rfl) (.tmp 42) (.tmp 45) (by rfl) w1.heap.size (.slice B2 m cB) m Z (by rfl) (Y4.out) (some ⟨w7.heap.size + 1, 0, none⟩) 1 1 [(q, x, y)] (by rfl) rfl (fun e => by cases e) (N4.out) (m + 1) rfl (by omega) (by have := HB7.out; have := z4; simp; omega) ?_; intro B6 c6 w6 hr6 hg6 ha6; obtain ⟨M6, G6⟩ := HA2.out _ w6 A4 B6 c4 c6 (G4.out) (X4.out) T4.out V4.out hr6 hg6 ha6; clear hr6 hg6 ha6)
                    | (refine step_have w4 (by rfl) (.tmp 42) (.tmp 45) (by rfl) w1.heap.size (.slice B2 m cB) m Z (by rfl) (Y4.out) (some ⟨w7.heap.size, 0, none⟩) 1 1 [(q, x, y)] (by rfl) rfl (fun e => by cases e) (N4.out) (m + 1) rfl (by omega) (by have := HB7.out; have := z4; simp; omega) ?_; intro B6 c6 w6 hr6 hg6 ha6; obtain ⟨M6, G6⟩ := HA2.out _ w6 A4 B6 c4 c6 (G4.out) (X4.out) T4.out V4.out hr6 hg6 ha6; clear hr6 hg6 ha6))
                all_goals
                  clear HO HNe X7 HA1 HA2 HN1
                  go_wp2_with fail
                  refine (M6.out.fits K7.out (by omega) (Below.refl _ _)).mono ?_
                  rintro e w9 ⟨rfl, hb9⟩
                  have M9 := Lib.hid (M6.out.later hb9)
                  clear hb9
                  go_wp2
                  go_roundw
                  case rel => exact ⟨k + 1, _, _, _, _, _, _, _, _, _, by omega, by omega, by go_num, rfl, rfl, Lib.hid (M9.out.wider (by omega)), K7⟩
                  case measure => simp [intOf]; omega
            ·
              as_aux_lemma =>
                obtain ⟨a0, -, -, -, -⟩ := HX.out.cells
                have hlp := lt_of_blk HX.out.b
                go_wp2_with fail
                rw [HW3.out]
                generalize hpb : wr.heap.size = pb at *
                clear c0 c1 c2' c3 c4 HW3 hpb
                have HS : Hid (∀ w', Below W3.heap.size W3 w' → w'.cell? ⟨pb, 1, none⟩ = some (.int .i64 q) ∧ w'.cell? ⟨pb, 2, none⟩ = some (.int .i64 x) ∧ w'.cell? ⟨pb, 3, none⟩ = some (.int .i64 y)) := Lib.hid fun w' hb => by
                  obtain ⟨-, b1, b2, b3, -⟩ := (HX.out.later hb).cells
                  exact ⟨b1, b2, b3⟩
                have HAd : Hid (∀ w', Below W3.heap.size W3 w' → Calls Try.prog 14 #[.pointer (some ⟨b, 0, none⟩), .int .i64 q, .agg #[.int .i64 x, .int .i64 y]] w' fun e w'' => e = .returned (.int .i64 (admE L q x y)) ∧ Hid (Fr w1 b (k + 1) P1 (admL L q x y) now Z A2 cA B2 cB m w'') ∧ Hid (Bx pb kd q x y nn P1 w'')) := Lib.hid fun w' hb => by
                  have h1 := HM.out.later hb
                  exact (bs_admit h1.bs (by omega) Hq.out x y).mono fun e w'' ⟨h2, h3⟩ => ⟨h2, Lib.hid (h1.turn h3), Lib.hid ((HX.out.later hb).turn h3)⟩
                have K7 := Lib.hid (HK.out.same hE)
                generalize hE2 : admE L q x y = E at *
                generalize admL L q x y = L7 at *
                have hEb : (E == 0) = false := by simpa using hE
                clear hE hE2 HK a0
                go_region_held3 (fun w' => w'.cell? ⟨pb, 1, none⟩ = some (.int .i64 q) ∧ w'.cell? ⟨pb, 2, none⟩ = some (.int .i64 x) ∧ w'.cell? ⟨pb, 3, none⟩ = some (.int .i64 y))
                  (first | with_reducible exact HS9.out | with_reducible exact HS.out _ G8.out | with_reducible exact HS.out _ (Below.refl _ _).drew)
                  (first
                    | (go_at_call 9; (with_reducible refine (ato_any x y _).mono ?_); rintro e w8 ⟨rfl, hb8⟩; have G8 := Lib.hid (below_call (Nat.le_refl _) (Below.refl _ _).drew hb8); clear hb8)
                    | (go_at_call 14; (with_reducible refine (HAd.out _ G8.out).mono ?_); rintro e w7 ⟨rfl, M7, X7⟩; have HS9 : Hid (w7.cell? ⟨pb, 1, none⟩ = some (.int .i64 q) ∧ w7.cell? ⟨pb, 2, none⟩ = some (.int .i64 x) ∧ w7.cell? ⟨pb, 3, none⟩ = some (.int .i64 y)) := Lib.hid (by obtain ⟨-, b1, b2, b3, -⟩ := X7.out.cells; exact ⟨b1, b2, b3⟩)))
                clear HS HAd HS9 HM HX
                go_wp2_with fail
                refine (M7.out.fits K7.out (by omega) (Below.refl _ _)).mono ?_
                rintro e w9 ⟨rfl, hb9⟩
                have M9 := Lib.hid (M7.out.later hb9)
                clear hb9
                go_wp2
                go_roundw
                case rel => exact ⟨k + 1, _, _, _, _, _, _, _, _, _, by omega, by omega, by go_num, rfl, rfl, Lib.hid (M9.out.wider (by omega)), K7⟩
                case measure => simp [intOf]; omega
      · obtain rfl : k = 40 := by omega
        clear HL
        have HBE := Lib.hid (HB1.out.trans (HP.out.bs.below.mono HB1.out.size))
        go_wp2_with (go_at_call 5; refine (awake_any _).mono ?_; rintro e w6 ⟨rfl, hb6⟩; have HB6 := Lib.hid (below_call (Nat.le_refl _) HBE.out hb6); clear hb6)
        go_ret
        exact ⟨rfl, HB6.out⟩
    · obtain rfl : k = n := by omega
      clear HL
      have HBE := Lib.hid (HB1.out.trans (HP.out.bs.below.mono HB1.out.size))
      go_wp2_with (go_at_call 5; refine (awake_any _).mono ?_; rintro e w6 ⟨rfl, hb6⟩; have HB6 := Lib.hid (below_call (Nat.le_refl _) HBE.out hb6); clear hb6)
      go_ret
      exact ⟨rfl, HB6.out⟩
end Go.Proofs.Ytcofehmgnpmecaa
