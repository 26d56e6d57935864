/-
  Contracts: Find, Has; the shelf's Index and Contains of numbers.
-/
import Derived.Test.YthblldojbgeknaaCWalksC
import Derived.Test.YthblldojbgeknaaInts
namespace Go.Proofs.Ythblldojbgeknaa
open Go.ChangeShapes Go.WideShapes Go.ChangeAt Go.RowKit
open Go.Sort

theorem findGo_snoc (k o a : Int) (l : List Nd) (x : Nd) : findGo k o a (l ++ [x]) = if x.to_ k o = true then bits .or .i64 (findGo k o a l) x.r else findGo k o a l := by
  simp [findGo, List.foldl_append]
section
variable {w : World} {b : Nat} {F : Fo}
set_option maxRecDepth 4000 in
set_option maxHeartbeats 2000000 in
theorem find_any (H : FoIs w b F) (e K O : Int) : Calls Try.prog 11 #[.pointer (some ⟨b, 0, none⟩), .int .i64 e, .int .i64 K, .int .i64 O] w fun r w' => r = .returned (.int .i64 (findV F.l e K O)) ∧ Below w.heap.size w w' := by
  have HL := Lib.hid (list_any H e)
  have HV : Hid (findV F.l e K O = findGo K O 0 (rowN F.l e)) := Lib.hid rfl
  have Hlen : Hid ((rowN F.l e).length ≤ 16) := Lib.hid (rowTo_len F.l e 16)
  generalize findV F.l e K O = V at *
  generalize rowN F.l e = L at *
  clear H
  go_enter Try.func11, Try.ntmps11
  go_wp2_with (go_at_call 20; refine HL.out.mono ?_; rintro r w2 ⟨A, n, c, rfl, hn, hown, hb2⟩; have HS := Lib.hid (Sls.own hown); have hc := own_cap hown; have HB2 := Lib.hid hb2; have Hn := Lib.hid hn; have h16 : n ≤ 16 := (by rw [hn]; exact Hlen.out); clear hown hb2 hn)
  go_loopw [9, 16] (fun x i wr => ∃ k : Nat, k ≤ n ∧ i = .int .i64 k ∧ x = .int .i64 (findGo K O 0 (L.take k)) ∧ Hid (Below w2.heap.size w2 wr)) (fun _ i _ => (n - intOf i).toNat)
  case atStart => exact ⟨0, Nat.zero_le _, rfl, rfl, (Below.refl _ _ : Below w2.heap.size w2 w2)⟩
  case round =>
    obtain ⟨k, hkn, rfl, rfl, hb⟩ := hrel
    by_cases hlt : k < n
    · have hk0 : (0 : Int) ≤ k := by omega
      have hk1 : (k : Int) < n := by omega
      obtain ⟨y, hy⟩ : ∃ y, L[k]? = some y := ⟨_, List.getElem?_eq_getElem (by rw [← Hn.out]; exact hlt)⟩
      have hS2 : Sls (fun g => w.heap.size ≤ g ∧ g < w2.heap.size) wr A (L.map Nd.s) := HS.out.kept fun g hg => hb.out.block g hg.2
      obtain ⟨g, rfl, hg, c0, c1, c2, c3, c4⟩ := hS2.at_ (i := k) (x := y.s) (by rw [List.getElem?_map, hy]; rfl)
      have hg2 : g < wr.heap.size := Nat.lt_of_lt_of_le hg.2 hb.out.size
      have HN : Hid (findGo K O 0 (L.take (k + 1)) = if y.to_ K O = true then bits .or .i64 (findGo K O 0 (L.take k)) y.r else findGo K O 0 (L.take k)) := Lib.hid (by
        rw [List.take_add_one, hy]
        exact findGo_snoc K O 0 _ y)
      have HT : Hid (∀ w, _) := Lib.hid fun w => to_any y.k y.o (y.r : Nat) K O w
      rw [show (decide (y.k = K) && decide (y.o = O)) = y.to_ K O from rfl] at HT
      have HK : Hid (∀ w5, Below (wr.alloc (.cells #[.int .i64 (y.en : Nat), .int .i64 (y.sl : Nat), .int .i64 y.k, .int .i64 y.o, .int .i64 (y.r : Nat)] 74 (0, 0))).heap.size (wr.alloc (.cells #[.int .i64 (y.en : Nat), .int .i64 (y.sl : Nat), .int .i64 y.k, .int .i64 y.o, .int .i64 (y.r : Nat)] 74 (0, 0))) w5 → Hid (Below w2.heap.size w2 w5) ∧ w5.cell? ⟨wr.heap.size, 4, none⟩ = some (.int .i64 (y.r : Nat))) := Lib.hid fun w5 h => by
        have hh := (h.block wr.heap.size (by simp)).trans (heap_alloc_new wr _)
        refine ⟨Lib.hid (below_call (Nat.le_refl _) (below_new (Nat.le_refl _) hb.out _) h), ?_⟩
        simp only [World.cell?, hh]
        rfl
      change _ = some (Value.int .i64 (y.en : Nat)) at c0
      change _ = some (Value.int .i64 (y.sl : Nat)) at c1
      change _ = some (Value.int .i64 y.k) at c2
      change _ = some (Value.int .i64 y.o) at c3
      change _ = some (Value.int .i64 (y.r : Nat)) at c4
      have hc0 : (0 : Int) ≤ c := by omega
      cases ht : y.to_ K O with
      | false =>
        rw [ht, if_neg (by simp)] at HN
        rw [ht] at HT
        generalize y.en = y1 at *
        generalize y.sl = y2 at *
        generalize y.k = y3 at *
        generalize y.o = y4 at *
        generalize y.r = y5 at *
        clear hy ht hS2 hg
        go_wp2_with (go_at_call 32; refine (HT.out _).mono ?_; rintro r w5 ⟨rfl, hb5⟩; obtain ⟨HB5, k4⟩ := HK.out w5 hb5; clear hb5)
        go_roundw
        case rel => exact ⟨k + 1, by omega, by go_num, by rw [HN.out], HB5⟩
        case measure => simp [intOf]; omega
      | true =>
        rw [ht, if_pos rfl] at HN
        rw [ht] at HT
        generalize y.en = y1 at *
        generalize y.sl = y2 at *
        generalize y.k = y3 at *
        generalize y.o = y4 at *
        generalize y.r = y5 at *
        clear hy ht hS2 hg
        go_wp2_with (go_at_call 32; refine (HT.out _).mono ?_; rintro r w5 ⟨rfl, hb5⟩; obtain ⟨HB5, k4⟩ := HK.out w5 hb5; clear hb5)
        go_roundw
        case rel => exact ⟨k + 1, by omega, by go_num, by rw [HN.out], HB5⟩
        case measure => simp [intOf]; omega
    · obtain rfl : k = n := by omega
      have HF : Hid (findGo K O 0 (L.take k) = V) := Lib.hid (by rw [Hn.out, List.take_length, HV.out])
      have HE := Lib.hid (HB2.out.trans (hb.out.mono HB2.out.size))
      go_wp2
      go_ret
      exact ⟨int_back HF.out, HE.out⟩
end
end Go.Proofs.Ythblldojbgeknaa
