/-
  Contract: the law's are.
-/
import Derived.Test.YthblldojbgeknaaCLink
import Derived.Deep.RegionHeld3
namespace Go.Proofs.Ythblldojbgeknaa
open Go.ChangeShapes Go.WideShapes Go.ChangeAt Go.RowKit

def rs (L : List Rn) : List Sl := L.map fun x => x.nd.s
set_option maxRecDepth 100000 in
set_option maxHeartbeats 4000000 in
theorem are_any {S T : Nat → Prop} {w : World} {A G : Option Addr} {L : List Rn} {n c m cg : Nat} (HS : Sls S w A (rs L)) (hS : ∀ k, S k → k < w.heap.size) (hl : n = L.length) (hn : n ≤ 1000000) (hc : n ≤ c) (D : DocIs T w G m cg L) (hT : ∀ k, T k → k < w.heap.size) :
    Calls Try.prog 29 #[.slice A n c, .slice G m cg] w fun e w' => e = .returned (.bool true) ∧ Below w.heap.size w w' := by
  have HD := Lib.hid D
  have HSl := Lib.hid HS
  have HlS := Lib.hid hS
  have HlT := Lib.hid hT
  obtain rfl : m = n := by rw [D.len, hl]
  have hcg := D.cap
  have Hl := Lib.hid hl
  clear D HS hS hT hl
  go_enter Try.func29, Try.ntmps29
  go_wp2_with fail
  go_loopw [5] (fun i wr => ∃ k : Nat, k ≤ m ∧ i = .int .i64 k ∧ Hid (Below w.heap.size w wr)) (fun i _ => (m - intOf i).toNat)
  case atStart => exact ⟨0, Nat.zero_le _, rfl, Lib.hid (Below.refl _ _)⟩
  case round =>
    obtain ⟨k, hk, rfl, HB⟩ := hrel
    have hk0 : (0 : Int) ≤ k := by omega
    by_cases hlt : k < m
    · have hk1 : (k : Int) < m := by omega
      obtain ⟨x, hx⟩ : ∃ x, L[k]? = some x := ⟨_, List.getElem?_eq_getElem (by rw [← Hl.out]; exact hlt)⟩
      obtain ⟨g, rfl, hg, -⟩ := (HSl.out.kept (w' := wr) (fun k hk => HB.out.block k (HlS.out k hk))).at_ (i := k) (x := x.nd.s) (by rw [rs, List.getElem?_map, hx]; rfl)
      obtain ⟨g2, rfl, hg2, -⟩ := (HD.out.kept (T := T) (w' := wr) (fun k hk => HB.out.block k (HlT.out k hk)) (fun _ h => h)).at_ hx
      have HF : Hid (∀ w', Below w.heap.size w w' → (w'.cell? ⟨g, k * 5, none⟩ = some (.int .i64 (x.en : Nat)) ∧ w'.cell? ⟨g, k * 5 + 1, none⟩ = some (.int .i64 (x.sl : Nat)) ∧ w'.cell? ⟨g, k * 5 + 2, none⟩ = some (.int .i64 x.k) ∧ w'.cell? ⟨g, k * 5 + 3, none⟩ = some (.int .i64 x.o) ∧ w'.cell? ⟨g, k * 5 + 4, none⟩ = some (.int .i64 (x.r : Nat))) ∧ (w'.cell? ⟨g2, k * 7 + 2, none⟩ = some (.int .i64 (x.en : Nat)) ∧ w'.cell? ⟨g2, k * 7 + 3, none⟩ = some (.int .i64 (x.sl : Nat)) ∧ w'.cell? ⟨g2, k * 7 + 4, none⟩ = some (.int .i64 x.k) ∧ w'.cell? ⟨g2, k * 7 + 5, none⟩ = some (.int .i64 x.o) ∧ w'.cell? ⟨g2, k * 7 + 6, none⟩ = some (.int .i64 (x.r : Nat)))) := Lib.hid fun w' hb => by
        obtain ⟨g', e, -, c0, c1, c2, c3, c4⟩ := (HSl.out.kept (w' := w') (fun k hk => hb.block k (HlS.out k hk))).at_ (i := k) (x := x.nd.s) (by rw [rs, List.getElem?_map, hx]; rfl)
        obtain ⟨g2', e2, -, -, -, d2, d3, d4, d5, d6⟩ := (HD.out.kept (T := T) (w' := w') (fun k hk => hb.block k (HlT.out k hk)) (fun _ h => h)).at_ hx
        cases e
        cases e2
        exact ⟨⟨c0, c1, c2, c3, c4⟩, d2, d3, d4, d5, d6⟩
      clear hx hg hg2
      have HG : Hid (∀ w', Below wr.heap.size wr w' → Below wr.heap.size wr w' ∧ (w'.cell? ⟨g, k * 5, none⟩ = some (.int .i64 (x.en : Nat)) ∧ w'.cell? ⟨g, k * 5 + 1, none⟩ = some (.int .i64 (x.sl : Nat)) ∧ w'.cell? ⟨g, k * 5 + 2, none⟩ = some (.int .i64 x.k) ∧ w'.cell? ⟨g, k * 5 + 3, none⟩ = some (.int .i64 x.o) ∧ w'.cell? ⟨g, k * 5 + 4, none⟩ = some (.int .i64 (x.r : Nat))) ∧ (w'.cell? ⟨g2, k * 7 + 2, none⟩ = some (.int .i64 (x.en : Nat)) ∧ w'.cell? ⟨g2, k * 7 + 3, none⟩ = some (.int .i64 (x.sl : Nat)) ∧ w'.cell? ⟨g2, k * 7 + 4, none⟩ = some (.int .i64 x.k) ∧ w'.cell? ⟨g2, k * 7 + 5, none⟩ = some (.int .i64 x.o) ∧ w'.cell? ⟨g2, k * 7 + 6, none⟩ = some (.int .i64 (x.r : Nat)))) := Lib.hid fun w' hb => ⟨hb, HF.out w' (below_call (Nat.le_refl _) HB.out hb)⟩
      go_upto_region 4 with (fail)
      go_region_held3 (fun w' => Below wr.heap.size wr w' ∧ (w'.cell? ⟨g, k * 5, none⟩ = some (.int .i64 (x.en : Nat)) ∧ w'.cell? ⟨g, k * 5 + 1, none⟩ = some (.int .i64 (x.sl : Nat)) ∧ w'.cell? ⟨g, k * 5 + 2, none⟩ = some (.int .i64 x.k) ∧ w'.cell? ⟨g, k * 5 + 3, none⟩ = some (.int .i64 x.o) ∧ w'.cell? ⟨g, k * 5 + 4, none⟩ = some (.int .i64 (x.r : Nat))) ∧ (w'.cell? ⟨g2, k * 7 + 2, none⟩ = some (.int .i64 (x.en : Nat)) ∧ w'.cell? ⟨g2, k * 7 + 3, none⟩ = some (.int .i64 (x.sl : Nat)) ∧ w'.cell? ⟨g2, k * 7 + 4, none⟩ = some (.int .i64 x.k) ∧ w'.cell? ⟨g2, k * 7 + 5, none⟩ = some (.int .i64 x.o) ∧ w'.cell? ⟨g2, k * 7 + 6, none⟩ = some (.int .i64 (x.r : Nat))))
        ((refine HG.out _ ?_; (first | exact Below.refl _ _ | exact (Below.refl _ _).drew | exact G3.out)))
        (first
          | (go_at_call 6; refine (lto_any x.k x.o (x.r : Nat) _).mono ?_; rintro y w4 ⟨rfl, h4⟩; have G3 := Lib.hid (below_call (Nat.le_refl _) (And.left (by assumption)) h4); clear h4))
      have HN : Hid (Below w.heap.size w w4) := Lib.hid (below_call (Nat.le_refl _) HB.out G3.out)
      clear G3
      have hlt2 : k + 1 ≤ m := hlt
      go_wp2
      go_roundw
      case rel => exact ⟨k + 1, by omega, by go_num, HN⟩
      case measure => simp [intOf]; omega
    · obtain rfl : k = m := by omega
      have HE := Lib.hid HB.out
      go_wp2
      go_ret
      exact ⟨rfl, HE.out⟩
end Go.Proofs.Ythblldojbgeknaa
