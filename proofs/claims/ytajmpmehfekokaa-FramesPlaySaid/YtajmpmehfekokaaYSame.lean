/-
  Contract of what the statement compares with: same.
-/
import Derived.Test.YtajmpmehfekokaaYRefB
import Derived.Test.YtajmpmehfekokaaLater
import Derived.Deep.RegionHeld3
import Derived.Laws.IdiomStrings
namespace Go.Proofs.Ytajmpmehfekokaa
open Go.ChangeShapes Go.WideShapes Go.ChangeAt Go.RowKit

/-- A frame's bytes, as a text. -/
def textOf (f : Nat → UInt8) : ByteArray := ⟨((List.range 16).map f).toArray⟩
theorem text_back (w : World) (b o c : Nat) (f : Nat → UInt8) (h : ∀ j, j < 16 → w.cell? ⟨b, o + j, none⟩ = some (.int .u8 ((f j).toNat : Int))) :
    (convert 62 9 (.slice (some ⟨b, o, none⟩) 16 c)).run Try.prog w = .ok (.string (textOf f)) w := by
  have h1 := run_convert_bytes_back (P := Try.prog) w 62 9 5 ⟨b, o, none⟩ c ((List.range 16).map f) Try.underlying62 Try.underlying5 Try.underlying9 (fun j hj => by
    have hj2 : j < 16 := by simpa using hj
    rw [Addr.add_mid, h j hj2]
    simp)
  rw [show ((List.range 16).map f).length = 16 by simp] at h1
  exact h1

section
variable {w : World} {h g n c : Nat} {L : List Fr}
set_option maxRecDepth 100000 in
set_option maxHeartbeats 1000000 in
theorem same_any (H : FrIs w h L) (R : Rw w g L) (hg : g < w.heap.size) (hn : L.length = n) : Calls Try.prog 15 #[.pointer (some ⟨h, 0, none⟩), .slice (some ⟨g, 0, none⟩) n c] w fun e w' => e = .returned (.bool true) ∧ Below w.heap.size w w' := by
  have hm : n ≤ 32 := by have := H.low; omega
  have HLe : Hid (Calls Try.prog 20 #[.pointer (some ⟨h, 0, none⟩)] w fun e w' => e = .returned (.tuple #[.int .i64 (n : Nat), .int .i64 (frees L : Nat)]) ∧ ∃ q, w' = w.drewN q) := Lib.hid (by
    have := len_any H
    rwa [hn] at this)
  have HFr : Hid (∀ q, Calls Try.prog 21 #[.slice (some ⟨g, 0, none⟩) n c] (w.drewN q) fun e w' => e = .returned (.int .i64 (frees L : Nat)) ∧ w.drewN q = w') := Lib.hid fun q => rfree_any (R.below hg (below_drawn (Below.refl _ _))) hn hm
  have HH := Lib.hid H
  have HR := Lib.hid R
  have Hg := Lib.hid hg
  have Hn := Lib.hid hn
  have n1 : (n : Int) ≤ 32 := by omega
  have e2 : ((n : Int) != n) = false := by simp
  have e3 : ((frees L : Int) != frees L) = false := by simp
  clear H R hg hn
  go_enter Try.func15, Try.ntmps15
  go_wp2_with (first
    | (go_at_call 20; refine HLe.out.mono ?_; rintro e w1 ⟨rfl, q, rfl⟩)
    | (go_at_call 21; refine (HFr.out _).mono ?_; rintro e w2 ⟨rfl, rfl⟩))
  go_loopw [7] (fun u7 wr => ∃ (i : Nat), i ≤ n ∧ u7 = .int .i64 (i : Nat) ∧ Below w.heap.size w wr) (fun u7 _ => n - (intOf u7).toNat)
  case atStart => exact ⟨0, Nat.zero_le _, rfl, below_drawn (Below.refl _ _)⟩
  case round =>
    obtain ⟨i, hi, rfl, hb⟩ := hrel
    have HB := Lib.hid hb
    by_cases hlt : i < n
    · obtain ⟨x, hx⟩ : ∃ x, L[i]? = some x := ⟨_, List.getElem?_eq_getElem (by rw [Hn.out]; exact hlt)⟩
      have hF := HH.out.below hb
      have hR := HR.out.below Hg.out hb
      have hgr := Nat.lt_of_lt_of_le Hg.out hb.size
      have ht := hR.taken hx
      have HTk : Hid (∀ w', Below wr.heap.size wr w' → Calls Try.prog 16 #[.pointer (some ⟨h, 0, none⟩), .int .i64 (i : Nat)] w' fun e w'' => e = .returned (.bool x.tk) ∧ w' = w'') := Lib.hid fun w' hb' => taken_in (hF.below hb') hx
      have HBy : Hid (Calls Try.prog 22 #[.pointer (some ⟨h, 0, none⟩), .int .i64 (i : Nat)] wr.drew fun e w'' => e = .returned (.slice (some ⟨wr.heap.size, 0, none⟩) 16 16) ∧ w'' = wr.drew.alloc (.cells (bcells x.by_).toArray 49)) := Lib.hid (bytes_in (hF.below (Below.refl _ _).drew) hx)
      have k3 : (convert 62 9 (.slice (some ⟨wr.heap.size, 0, none⟩) 16 16)).run Try.prog (wr.alloc (.cells (bcells x.by_).toArray 49)).drew = .ok (.string (textOf x.by_)) (wr.alloc (.cells (bcells x.by_).toArray 49)).drew := text_back _ _ _ _ _ fun j hj => by
        have : (wr.alloc (.cells (bcells x.by_).toArray 49)).drew.cell? ⟨wr.heap.size, 0 + j, none⟩ = (bcells x.by_)[j]? := by simp
        rw [this]
        exact bcells_at _ hj
      have HS : Hid (∀ w', Below wr.heap.size wr w' → w'.cell? ⟨g, i * 17, none⟩ = some (.bool x.tk) ∧ (convert 62 9 (.slice (some ⟨g, i * 17 + 1, none⟩) 16 16)).run Try.prog w' = .ok (.string (textOf x.by_)) w') := Lib.hid fun w' hb' => ⟨(hR.below hgr hb').taken hx, text_back _ _ _ _ _ fun j hj => by
        have := (hR.below hgr hb').byte hx hj
        rw [← this]
        congr 2
        omega⟩
      have HE : Hid (Below w.heap.size w (wr.alloc (.cells (bcells x.by_).toArray 49)).drew) := Lib.hid (below_new (Nat.le_refl _) hb _).drew
      have e4 : (x.tk != x.tk) = false := by simp
      have i0 : (0 : Int) ≤ i := by omega
      have i1 : (i : Int) < n := by omega
      generalize bcells x.by_ = bs at *
      generalize textOf x.by_ = s at *
      generalize x.tk = tk at *
      have e5 : (s.toList == s.toList) = true := by simp
      clear hx hF hR hgr hb
      go_wp2_with fail
      -- REGION
      refine wp_region_held_drew (S := fun w' => w'.cell? ⟨g, i * 17, none⟩ = some (.bool tk) ∧ (convert 62 9 (.slice (some ⟨g, i * 17 + 1, none⟩) 16 16)).run Try.prog w' = .ok (.string s) w') (by kernel_rfl) ?_ (fun hHeld => ?_)
      · exact HS.out _ (Below.refl _ _).drew
      refine wpAnyH_take (i := 0) (oi := _) (v := ?v0) rfl (by kernel_rfl) (by kernel_rfl) (by kernel_rfl) (fun _ _ _ h => h) (Or.inl ⟨by rfl, ?h0⟩) hHeld ?r0
      case h0 => (intro w0 hSw; (try dsimp only at hSw); go_simp; first | done | with_reducible rfl)
      case r0 =>
      simp only [Act.put, List.getElem_toArray, List.getElem_cons_zero, List.setIfInBounds_toArray, List.set_cons_zero, List.set_cons_succ]
      refine wpAnyH_take (i := 1) (oi := _) (v := ?v1) rfl (by kernel_rfl) (by kernel_rfl) (by kernel_rfl) (fun _ _ _ h => h) (Or.inl ⟨by rfl, ?h1⟩) hHeld ?r1
      case h1 => (intro w0 hSw; (try dsimp only at hSw); go_simp; first | done | with_reducible rfl)
      case r1 =>
      simp only [Act.put, List.getElem_toArray, List.getElem_cons_succ, List.getElem_cons_zero, List.setIfInBounds_toArray, List.set_cons_zero, List.set_cons_succ]
      refine wpAnyH_take (i := 3) (oi := _) (v := ?v3) rfl (by kernel_rfl) (by kernel_rfl) (by kernel_rfl) (fun _ _ _ h => h) (Or.inl ⟨by rfl, ?h3⟩) hHeld ?r3
      case h3 => (intro w0 hSw; (try dsimp only at hSw); go_simp; first | done | with_reducible rfl)
      case r3 =>
      simp only [Act.put, List.getElem_toArray, List.getElem_cons_succ, List.getElem_cons_zero, List.setIfInBounds_toArray, List.set_cons_zero, List.set_cons_succ]
      refine wpAnyH_take (i := 4) (oi := _) (v := ?v4) rfl (by kernel_rfl) (by kernel_rfl) (by kernel_rfl) (fun _ _ _ h => h) (Or.inl ⟨by rfl, ?h4⟩) hHeld ?r4
      case h4 => (intro w0 hSw; (try dsimp only at hSw); go_simp; first | done | with_reducible rfl)
      case r4 =>
      simp only [Act.put, List.getElem_toArray, List.getElem_cons_succ, List.getElem_cons_zero, List.setIfInBounds_toArray, List.set_cons_zero, List.set_cons_succ]
      refine wpAnyH_take (i := 5) (oi := _) (v := ?v5) rfl (by kernel_rfl) (by kernel_rfl) (by kernel_rfl) (fun _ _ _ h => h) (Or.inl ⟨by rfl, ?h5⟩) hHeld ?r5
      case h5 => (intro w0 hSw; (try dsimp only at hSw); go_simp; first | done | with_reducible rfl)
      case r5 =>
      simp only [Act.put, List.getElem_toArray, List.getElem_cons_succ, List.getElem_cons_zero, List.setIfInBounds_toArray, List.set_cons_zero, List.set_cons_succ]
      refine wpAnyH_take (i := 6) (oi := _) (v := ?v6) rfl (by kernel_rfl) (by kernel_rfl) (by kernel_rfl) (fun _ _ _ h => h) (Or.inl ⟨by rfl, ?h6⟩) hHeld ?r6
      case h6 => (intro w0 hSw; (try dsimp only at hSw); go_simp; first | done | with_reducible rfl)
      case r6 =>
      simp only [Act.put, List.getElem_toArray, List.getElem_cons_succ, List.getElem_cons_zero, List.setIfInBounds_toArray, List.set_cons_zero, List.set_cons_succ]
      refine wpAnyH_take (i := 7) (oi := _) (v := ?v7) rfl (by kernel_rfl) (by kernel_rfl) (by kernel_rfl) (fun _ _ _ h => h) (Or.inl ⟨by rfl, ?h7⟩) hHeld ?r7
      case h7 => (intro w0 hSw; (try dsimp only at hSw); go_simp; first | done | with_reducible rfl)
      case r7 =>
      simp only [Act.put, List.getElem_toArray, List.getElem_cons_succ, List.getElem_cons_zero, List.setIfInBounds_toArray, List.set_cons_zero, List.set_cons_succ]
      refine wpAnyH_ready (rs := [2]) (by kernel_rfl) (by simp) ?_
      refine AllReadyH.cons (o := _) rfl (fun K hK => ?_) AllReadyH.nil
      go_simp
      go_at_call 16
      refine (HTk.out _ (Below.refl _ _).drew).mono ?_
      rintro e w3 ⟨rfl, rfl⟩
      go_wp2_with fail
      refine hK.out _ _ ?_ (fun hHeld => ?_)
      · exact HS.out _ (by first | exact (Below.refl _ _).drew | exact (below_new (Nat.le_refl _) (Below.refl _ _) _).drew)
      clear hK K
      try simp only [Act.put, List.getElem_toArray, List.getElem_cons_succ, List.getElem_cons_zero, List.setIfInBounds_toArray, List.set_cons_zero, List.set_cons_succ]
      refine wpAnyH_take (i := 8) (oi := _) (v := ?v8) rfl (by kernel_rfl) (by kernel_rfl) (by kernel_rfl) (fun _ _ _ h => h) (Or.inl ⟨by rfl, ?h8⟩) hHeld ?r8
      case h8 => (intro w0 hSw; (try dsimp only at hSw); go_simp; first | done | with_reducible rfl)
      case r8 =>
      simp only [Act.put, List.getElem_toArray, List.getElem_cons_succ, List.getElem_cons_zero, List.setIfInBounds_toArray, List.set_cons_zero, List.set_cons_succ]
      refine wpAnyH_take (i := 9) (oi := _) (v := ?v9) rfl (by kernel_rfl) (by kernel_rfl) (by kernel_rfl) (fun _ _ _ h => h) (Or.inl ⟨by rfl, ?h9⟩) hHeld ?r9
      case h9 => (intro w0 hSw; (try dsimp only at hSw); go_simp; first | done | with_reducible rfl)
      case r9 =>
      simp only [Act.put, List.getElem_toArray, List.getElem_cons_succ, List.getElem_cons_zero, List.setIfInBounds_toArray, List.set_cons_zero, List.set_cons_succ]
      refine wpAnyH_take (i := 10) (oi := _) (v := ?v10) rfl (by kernel_rfl) (by kernel_rfl) (by kernel_rfl) (fun _ _ _ h => h) (Or.inl ⟨by rfl, ?h10⟩) hHeld ?r10
      case h10 => (intro w0 hSw; (try dsimp only at hSw); go_simp; first | done | with_reducible rfl)
      case r10 =>
      simp only [Act.put, List.getElem_toArray, List.getElem_cons_succ, List.getElem_cons_zero, List.setIfInBounds_toArray, List.set_cons_zero, List.set_cons_succ]
      refine wpAnyH_take (i := 11) (oi := _) (v := ?v11) rfl (by kernel_rfl) (by kernel_rfl) (by kernel_rfl) (fun _ _ _ h => h) (Or.inl ⟨by rfl, ?h11⟩) hHeld ?r11
      case h11 => (intro w0 hSw; (try dsimp only at hSw); go_simp; first | done | with_reducible rfl)
      case r11 =>
      simp only [Act.put, List.getElem_toArray, List.getElem_cons_succ, List.getElem_cons_zero, List.setIfInBounds_toArray, List.set_cons_zero, List.set_cons_succ]
      refine wpAnyH_take (i := 14) (oi := _) (v := ?v14) rfl (by kernel_rfl) (by kernel_rfl) (by kernel_rfl) (fun _ _ _ h => h) (Or.inl ⟨by rfl, ?h14⟩) hHeld ?r14
      case h14 => (intro w0 hSw; (try dsimp only at hSw); go_simp; first | done | with_reducible rfl)
      case r14 =>
      simp only [Act.put, List.getElem_toArray, List.getElem_cons_succ, List.getElem_cons_zero, List.setIfInBounds_toArray, List.set_cons_zero, List.set_cons_succ]
      refine wpAnyH_take (i := 15) (oi := _) (v := ?v15) rfl (by kernel_rfl) (by kernel_rfl) (by kernel_rfl) (fun _ _ _ h => h) (Or.inl ⟨by rfl, ?h15⟩) hHeld ?r15
      case h15 => (intro w0 hSw; (try dsimp only at hSw); go_simp; first | done | with_reducible rfl)
      case r15 =>
      simp only [Act.put, List.getElem_toArray, List.getElem_cons_succ, List.getElem_cons_zero, List.setIfInBounds_toArray, List.set_cons_zero, List.set_cons_succ]
      refine wpAnyH_take (i := 16) (oi := _) (v := ?v16) rfl (by kernel_rfl) (by kernel_rfl) (by kernel_rfl) (fun _ _ _ h => h) (Or.inl ⟨by rfl, ?h16⟩) hHeld ?r16
      case h16 => (intro w0 hSw; (try dsimp only at hSw); go_simp; first | done | with_reducible rfl)
      case r16 =>
      simp only [Act.put, List.getElem_toArray, List.getElem_cons_succ, List.getElem_cons_zero, List.setIfInBounds_toArray, List.set_cons_zero, List.set_cons_succ]
      refine wpAnyH_take (i := 17) (oi := _) (v := ?v17) rfl (by kernel_rfl) (by kernel_rfl) (by kernel_rfl) (fun _ _ _ h => h) (Or.inl ⟨by rfl, ?h17⟩) hHeld ?r17
      case h17 => (intro w0 hSw; (try dsimp only at hSw); go_simp; first | done | with_reducible rfl)
      case r17 =>
      simp only [Act.put, List.getElem_toArray, List.getElem_cons_succ, List.getElem_cons_zero, List.setIfInBounds_toArray, List.set_cons_zero, List.set_cons_succ]
      refine wpAnyH_take (i := 18) (oi := _) (v := ?v18) rfl (by kernel_rfl) (by kernel_rfl) (by kernel_rfl) (fun _ _ _ h => h) (Or.inl ⟨by rfl, ?h18⟩) hHeld ?r18
      case h18 => (intro w0 hSw; (try dsimp only at hSw); go_simp; first | done | with_reducible rfl)
      case r18 =>
      simp only [Act.put, List.getElem_toArray, List.getElem_cons_succ, List.getElem_cons_zero, List.setIfInBounds_toArray, List.set_cons_zero, List.set_cons_succ]
      refine wpAnyH_take (i := 19) (oi := _) (v := ?v19) rfl (by kernel_rfl) (by kernel_rfl) (by kernel_rfl) (fun _ _ _ h => h) (Or.inl ⟨by rfl, ?h19⟩) hHeld ?r19
      case h19 => (intro w0 hSw; (try dsimp only at hSw); go_simp; first | done | with_reducible rfl)
      case r19 =>
      simp only [Act.put, List.getElem_toArray, List.getElem_cons_succ, List.getElem_cons_zero, List.setIfInBounds_toArray, List.set_cons_zero, List.set_cons_succ]
      refine wpAnyH_ready (rs := [12]) (by kernel_rfl) (by simp) ?_
      refine AllReadyH.cons (o := _) rfl (fun K hK => ?_) AllReadyH.nil
      go_simp
      go_at_call 22
      refine HBy.out.mono ?_
      rintro e w4 ⟨rfl, rfl⟩
      go_wp2_with fail
      refine hK.out _ _ ?_ (fun hHeld => ?_)
      · exact HS.out _ (by first | exact (Below.refl _ _).drew | exact (below_new (Nat.le_refl _) (Below.refl _ _) _).drew)
      clear hK K
      try simp only [Act.put, List.getElem_toArray, List.getElem_cons_succ, List.getElem_cons_zero, List.setIfInBounds_toArray, List.set_cons_zero, List.set_cons_succ]
      refine wpAnyH_ready (rs := [13]) (by kernel_rfl) (by simp) ?_
      refine AllReadyH.cons (o := _) rfl (fun K hK => ?_) AllReadyH.nil
      go_simp
      
      refine hK.out _ _ ?_ (fun hHeld => ?_)
      · exact HS.out _ (by first | exact (Below.refl _ _).drew | exact (below_new (Nat.le_refl _) (Below.refl _ _) _).drew)
      clear hK K
      try simp only [Act.put, List.getElem_toArray, List.getElem_cons_succ, List.getElem_cons_zero, List.setIfInBounds_toArray, List.set_cons_zero, List.set_cons_succ]
      refine wpAnyH_take (i := 20) (oi := _) (v := ?v20) rfl (by kernel_rfl) (by kernel_rfl) (by kernel_rfl) (fun _ _ _ h => h) (Or.inl ⟨by rfl, ?h20⟩) hHeld ?r20
      case h20 => (intro w0 hSw; (try dsimp only at hSw); go_simp; first | done | with_reducible rfl)
      case r20 =>
      simp only [Act.put, List.getElem_toArray, List.getElem_cons_succ, List.getElem_cons_zero, List.setIfInBounds_toArray, List.set_cons_zero, List.set_cons_succ]
      refine wpAnyH_take (i := 21) (oi := _) (v := ?v21) rfl (by kernel_rfl) (by kernel_rfl) (by kernel_rfl) (fun _ _ _ h => h) (Or.inl ⟨by rfl, ?h21⟩) hHeld ?r21
      case h21 => (intro w0 hSw; (try dsimp only at hSw); go_simp; first | done | with_reducible rfl)
      case r21 =>
      simp only [Act.put, List.getElem_toArray, List.getElem_cons_succ, List.getElem_cons_zero, List.setIfInBounds_toArray, List.set_cons_zero, List.set_cons_succ]
      refine wpAnyH_done (by kernel_rfl) ?_ _
      -- END
      go_wp2
      go_roundw
      case rel => exact ⟨i + 1, by omega, by go_num, HE.out⟩
      case measure => simp [intOf]; omega
    · obtain rfl : i = n := by omega
      go_wp2
      go_ret
      exact ⟨rfl, HB.out⟩
end
end Go.Proofs.Ytajmpmehfekokaa
