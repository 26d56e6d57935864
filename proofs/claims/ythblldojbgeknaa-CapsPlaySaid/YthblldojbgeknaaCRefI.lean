/-
  Contracts: the document's Find.
-/
import Derived.Test.YthblldojbgeknaaCRefH
namespace Go.Proofs.Ythblldojbgeknaa
open Go.ChangeShapes Go.WideShapes Go.ChangeAt Go.RowKit

/-- The sum of the bits that are. -/
def rfTo (h : Nat → Bool) : Nat → Nat
  | 0 => 0
  | b + 1 => rfTo h b + (if h b = true then 2 ^ b else 0)
theorem rfTo_lt (h : Nat → Bool) : ∀ b, rfTo h b < 2 ^ b
  | 0 => by simp [rfTo]
  | b + 1 => by
    have := rfTo_lt h b
    rw [rfTo, Nat.pow_succ]
    split <;> omega
def pB (e k o : Int) (u : Nat) (x : Rn) : Bool := decide ((x.en : Int) = e) && (toB k o x && mayB x.r (u : Nat))
def hasR (M : List Rn) (e k o : Int) (b : Nat) : Bool := M.any (pB e k o (2 ^ b))
def rfV (M : List Rn) (e k o : Int) : Nat := rfTo (hasR M e k o) 4
theorem any_more {M : List Rn} {k : Nat} {x : Rn} (hx : M[k]? = some x) (q : Rn → Bool) : (M.take (k + 1)).any q = ((M.take k).any q || q x) := by
  rw [List.take_add_one, hx, List.any_append]
  simp
theorem pow_four {b : Nat} (hb : b < 4) : 2 ^ b ≤ 8 := by
  have h := Nat.pow_le_pow_right (n := 2) (by omega) (show b ≤ 3 by omega)
  simpa using h
section
variable {S : Nat → Prop} {w : World} {A : Option Addr} {n c : Nat} {M : List Rn}
set_option maxRecDepth 100000 in
set_option maxHeartbeats 4000000 in
theorem rfind_any (D : DocIs S w A n c M) (hS : ∀ k, S k → k < w.heap.size) (hn : n ≤ 900) (hr : ∀ x ∈ M, x.r < 16) (p e kd ob : Int) :
    Calls Try.prog 12 #[.agg #[.slice A n c, .int .i64 p], .int .i64 e, .int .i64 kd, .int .i64 ob] w fun x w' => x = .returned (.int .i64 (rfV M e kd ob : Nat)) ∧ Below w.heap.size w w' := by
  have HD := Lib.hid D
  have HlS := Lib.hid hS
  have Hr := Lib.hid hr
  have hcap := D.cap
  obtain ⟨W, hW⟩ : ∃ W, w.alloc (.cells #[.slice A n c, .int .i64 p] 36 (0, 0)) = W := ⟨_, rfl⟩
  have HbW : Hid (Below w.heap.size w W) := Lib.hid (by
    rw [← hW]
    exact (Below.refl _ _).alloc (Nat.le_refl _) _)
  have HsW : Hid (w.heap.size < W.heap.size) := Lib.hid (by
    rw [← hW]
    simp)
  have HFc : Hid (∀ w', Below W.heap.size W w' → w'.cell? ⟨w.heap.size, 0, none⟩ = some (.slice A n c)) := Lib.hid fun w' h' => by
    refine (World.cell?_of_block (a := ⟨w.heap.size, 0, none⟩) (h'.block _ HsW.out)).trans ?_
    rw [← hW]
    simp
  have HW := Lib.hid hW
  clear D hW hS hr
  go_enter Try.func12, Try.ntmps12
  go_wp2_with fail
  rw [show w.alloc (.cells #[.slice A n c, .int .i64 p] 36 (0, 0)) = W from HW.out]
  go_loopw [9, 10, 11] (fun s u i wr => ∃ b v t : Nat, b ≤ 4 ∧ i = .int .i64 b ∧ s = .int .i64 (v : Nat) ∧ u = .int .i64 (t : Nat) ∧ v < 16 ∧ t ≤ 16 ∧ Hid (v = rfTo (hasR M e kd ob) b ∧ t = 2 ^ b) ∧ Hid (Below W.heap.size W wr)) (fun _ _ i _ => (4 - intOf i).toNat)
  case atStart => exact ⟨0, 0, 1, by omega, rfl, rfl, rfl, by omega, by omega, Lib.hid ⟨rfl, rfl⟩, Lib.hid (Below.refl _ _)⟩
  case round =>
    obtain ⟨b, v, t, hb4, rfl, rfl, rfl, hv, ht, HV, HB⟩ := hrel
    have hb0 : (0 : Int) ≤ b := by omega
    have h0 := HFc.out _ HB.out
    by_cases hlt : b < 4
    · have hb1 : (b : Int) < 4 := by omega
      go_wp2_with fail
      go_loopw [12, 13] (fun a i wr => ∃ k : Nat, k ≤ n ∧ i = .int .i64 k ∧ (∃ z : Bool, a = .bool z ∧ Hid (z = (M.take k).any (pB e kd ob t))) ∧ Hid (Below W.heap.size W wr)) (fun _ i _ => (n - intOf i).toNat)
      case atStart => exact ⟨0, Nat.zero_le _, rfl, ⟨false, rfl, Lib.hid rfl⟩, HB⟩
      case round =>
        obtain ⟨k, hkn, rfl, ⟨z, rfl, HZ⟩, HB2⟩ := hrel
        have hk0 : (0 : Int) ≤ k := by omega
        have g0 := HFc.out _ HB2.out
        by_cases hlk : k < n
        · have hk1 : (k : Int) < n := by omega
          have hc0 : (0 : Int) ≤ c := by omega
          obtain ⟨x, hx⟩ : ∃ x, M[k]? = some x := ⟨_, List.getElem?_eq_getElem (by rw [← HD.out.len]; exact hlk)⟩
          have hbw : Below w.heap.size w wr := HbW.out.trans (HB2.out.mono HbW.out.size)
          have D2 := HD.out.kept (T := S) (w' := wr) (fun k hk => hbw.block k (HlS.out k hk)) (fun _ h => h)
          obtain ⟨g, hAg, hgS, r0, r1, r2, r3, r4, r5, r6⟩ := D2.at_ hx
          have hO := D2.ofs x (List.mem_of_getElem? hx)
          obtain ⟨oA, on, oc, hov, -⟩ := hO
          rw [hov] at r1
          have hg2 : g < wr.heap.size := Nat.lt_of_lt_of_le (HlS.out g hgS) hbw.size
          have Hany := Lib.hid (any_more hx (pB e kd ob t))
          have HN8 : Hid (∀ o, Below W.heap.size W (wr.alloc o)) := Lib.hid fun o => below_new (Nat.le_refl _) HB2.out o
          have HC := Lib.hid (rbits_any x.r t (Hr.out x (List.mem_of_getElem? hx)) (by omega))
          subst hAg
          clear hx D2 hgS hov hbw
          cases z with
          | true =>
            have HP : Hid ((true || pB e kd ob t x) = true) := Lib.hid rfl
            go_wp2
            go_roundw
            case rel => exact ⟨k + 1, by omega, by go_num, ⟨true, rfl, Lib.hid (by rw [Hany.out, ← HZ.out]; exact HP.out.symm)⟩, Lib.hid (HN8.out _)⟩
            case measure => simp [intOf]; omega
          | false =>
            by_cases h1 : ((x.en : Nat) : Int) = e
            · by_cases h2 : x.k = kd
              · by_cases h3 : x.o = ob
                · have HP : Hid ((false || pB e kd ob t x) = mayB x.r t) := Lib.hid (by
                    unfold pB toB Nd.to_
                    rw [decide_eq_true h1, show (decide (x.nd.k = kd)) = true from decide_eq_true h2, show (decide (x.nd.o = ob)) = true from decide_eq_true h3]
                    rfl)
                  obtain ⟨z, hz⟩ : ∃ z, mayB x.r t = z := ⟨_, rfl⟩
                  rw [hz] at HP HC
                  clear hz
                  go_wp2_with (go_at_call 15; refine (HC.out _).mono ?_; rintro y w' ⟨rfl, rfl⟩)
                  go_roundw
                  case rel => exact ⟨k + 1, by omega, by go_num, ⟨z, rfl, Lib.hid (by rw [Hany.out, ← HZ.out]; exact HP.out.symm)⟩, Lib.hid (HN8.out _)⟩
                  case measure => simp [intOf]; omega
                · have HP : Hid ((false || pB e kd ob t x) = false) := Lib.hid (by
                    unfold pB toB Nd.to_
                    rw [show (decide (x.nd.o = ob)) = false from decide_eq_false h3]
                    simp)
                  go_wp2
                  go_roundw
                  case rel => exact ⟨k + 1, by omega, by go_num, ⟨false, rfl, Lib.hid (by rw [Hany.out, ← HZ.out]; exact HP.out.symm)⟩, Lib.hid (HN8.out _)⟩
                  case measure => simp [intOf]; omega
              · have HP : Hid ((false || pB e kd ob t x) = false) := Lib.hid (by
                  unfold pB toB Nd.to_
                  rw [show (decide (x.nd.k = kd)) = false from decide_eq_false h2]
                  simp)
                go_wp2
                go_roundw
                case rel => exact ⟨k + 1, by omega, by go_num, ⟨false, rfl, Lib.hid (by rw [Hany.out, ← HZ.out]; exact HP.out.symm)⟩, Lib.hid (HN8.out _)⟩
                case measure => simp [intOf]; omega
            · have HP : Hid ((false || pB e kd ob t x) = false) := Lib.hid (by
                unfold pB
                rw [decide_eq_false h1]
                rfl)
              go_wp2
              go_roundw
              case rel => exact ⟨k + 1, by omega, by go_num, ⟨false, rfl, Lib.hid (by rw [Hany.out, ← HZ.out]; exact HP.out.symm)⟩, Lib.hid (HN8.out _)⟩
              case measure => simp [intOf]; omega
        · obtain rfl : k = n := by omega
          have hH : Hid (z = hasR M e kd ob b) := Lib.hid (by rw [HZ.out, List.take_of_length_le (Nat.le_of_eq HD.out.len.symm), hasR, HV.out.2])
          have hp8 := Lib.hid (pow_four hlt)
          have hlt16 : Hid (v + t < 16 ∧ t ≤ 8) := Lib.hid (by
            have h1 := rfTo_lt (hasR M e kd ob) b
            have h2 := hp8.out
            have h3 := HV.out.1
            have h4 := HV.out.2
            omega)
          obtain ⟨hv16, ht8⟩ := hlt16.out
          cases z with
          | true =>
            have HV1 : Hid (v + t = rfTo (hasR M e kd ob) (b + 1) ∧ t * 2 = 2 ^ (b + 1)) := Lib.hid ⟨by rw [rfTo, ← hH.out, if_pos rfl, ← HV.out.1, ← HV.out.2], by rw [HV.out.2, Nat.pow_succ]⟩
            go_wp2
            go_roundw
            case rel => exact ⟨b + 1, v + t, t * 2, by omega, by go_num, by go_num, by go_num, by omega, by omega, HV1, HB2⟩
            case measure => simp [intOf]; omega
          | false =>
            have HV1 : Hid (v = rfTo (hasR M e kd ob) (b + 1) ∧ t * 2 = 2 ^ (b + 1)) := Lib.hid ⟨by rw [rfTo, ← hH.out, if_neg (by simp), ← HV.out.1]; rfl, by rw [HV.out.2, Nat.pow_succ]⟩
            go_wp2
            go_roundw
            case rel => exact ⟨b + 1, v, t * 2, by omega, by go_num, rfl, by go_num, by omega, by omega, HV1, HB2⟩
            case measure => simp [intOf]; omega
    · obtain rfl : b = 4 := by omega
      have HN : Hid (((v : Nat) : Int) = (rfV M e kd ob : Nat)) := Lib.hid (by rw [HV.out.1]; rfl)
      have HE : Hid (Below w.heap.size w wr) := Lib.hid (HbW.out.trans (HB.out.mono HbW.out.size))
      go_wp2
      go_ret
      exact ⟨int_back HN.out, HE.out⟩
end
end Go.Proofs.Ythblldojbgeknaa
