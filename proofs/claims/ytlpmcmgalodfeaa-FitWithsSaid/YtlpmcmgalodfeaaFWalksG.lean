/-
  Contracts of slices.Grow and slices.Concat, of tasks.
-/
import Derived.Test.YtlpmcmgalodfeaaTRow
import Derived.Lib.AppendZerosOnto
import Derived.Lib.SliceRun
import Derived.Lib.Walk
import Derived.Shelf.Spec.SlicesGrow
namespace Go.Proofs.Ytlpmcmgalodfeaa
open Go.ChangeShapes Go.WideShapes Go.ChangeAt Go.RowKit

/-- An empty row with room, of the call's own. -/
def RoomBack (base : Nat) (w : World) (e : Ending) (w' : World) : Prop := ∃ A cap, e = .returned (.slice A 0 cap) ∧ w'.ownsRow base 48 3 (.slice A 0 cap) 0 [] ∧ Below w.heap.size w w'

set_option maxHeartbeats 800000 in
theorem growt_any (n : Nat) (w : World) (hn : 0 < n) (hn2 : n ≤ 1048576) :
    Calls Try.prog 44 #[.slice none 0 0, .int .i64 n] w (RoomBack w.heap.size w) := by
  obtain ⟨i0, hi, hz0, hz1, hz2⟩ := info_parts info_task
  have hrz : ∀ ty, (Builtin.append_ #[22, 3] ty #[.slice none 0 0, .int .i64 n]).run Try.prog w =
      .ok (.slice (some ⟨w.heap.size, 0, none⟩) n (grownCap w n 0 48)) (w.drew.alloc (.cells (([] : List Value).toArray ++ Builtin.zeroCells (Value.agg #[.int .i64 0, .int .i64 0, .int .i64 0]).cells n ++ Builtin.zeroCells (Value.agg #[.int .i64 0, .int .i64 0, .int .i64 0]).cells (grownCap w n 0 48 - n)) 48)) := fun ty => by
    have h := Lib.run_append_grow_zeros (P := Try.prog) w 22 3 ty 48 i0 (.agg #[.int .i64 0, .int .i64 0, .int .i64 0]) .i64 .i64 Try.underlying22 Try.underlying3 hi hz0 none 0 0 [] (run_firstCells_none w.drew i0.size 0 0 0) n hn (by omega) (by omega) (by omega) (by rw [hz2]; omega) (growslice_fits (by omega) (by rw [hz2]; omega))
    simpa using h
  have hge := grownCap_ge w n 0 48
  have hle := grownCap_le_maxLen w n 0 48 (by unfold maxLen; omega)
  generalize grownCap w n 0 48 = G at *
  have hown : (w.drew.alloc (.cells (([] : List Value).toArray ++ Builtin.zeroCells (Value.agg #[.int .i64 0, .int .i64 0, .int .i64 0]).cells n ++ Builtin.zeroCells (Value.agg #[.int .i64 0, .int .i64 0, .int .i64 0]).cells (G - n)) 48)).ownsRow w.heap.size 48 3 (.slice (some ⟨w.heap.size, 0, none⟩) 0 G) 0 [] := by
    refine World.ownsRow_made (w := w.drew) (base := w.heap.size) _ G (Nat.le_refl _) hle ?_
    simp [Builtin.zeroCells, Value.cells]
    omega
  have hbl : Below w.heap.size w (w.drew.alloc (.cells (([] : List Value).toArray ++ Builtin.zeroCells (Value.agg #[.int .i64 0, .int .i64 0, .int .i64 0]).cells n ++ Builtin.zeroCells (Value.agg #[.int .i64 0, .int .i64 0, .int .i64 0]).cells (G - n)) 48)) := (Below.refl _ _).drew.alloc (Nat.le_refl _) _
  generalize w.drew.alloc (.cells (([] : List Value).toArray ++ Builtin.zeroCells (Value.agg #[.int .i64 0, .int .i64 0, .int .i64 0]).cells n ++ Builtin.zeroCells (Value.agg #[.int .i64 0, .int .i64 0, .int .i64 0]).cells (G - n)) 48) = w2 at *
  have Hown := Lib.hid hown
  have Hbl := Lib.hid hbl
  have hG : G ≤ 9223372036854775807 := by unfold maxLen at hle; omega
  have hn0 : (0 : Int) < n := by omega
  clear hown hbl hle
  go_enter Try.func44, Try.ntmps44
  go_wp2_with (at_builtin; refine Lib.wpList_append_run _ rfl _ _ _ _ rfl _ _ rfl rfl _ _ (hrz _) ?_)
  go_ret
  exact ⟨_, _, rfl, Hown.out, Hbl.out⟩

/-- The first k of two lists, joined. -/
def cat2 (l1 l2 : List (Int × Int × Int)) : Nat → List (Int × Int × Int)
  | 0 => []
  | 1 => l1
  | _ => l1 ++ l2
/-- What is handed back reads as a list of tasks. -/
def TksBack (L : List (Int × Int × Int)) (w : World) (e : Ending) (w' : World) : Prop := ∃ A n c, e = .returned (.slice A n c) ∧ L.length = n ∧ Tks w'.heap.size w' A L ∧ (∀ b o, A = some ⟨b, o, none⟩ → w.heap.size ≤ b) ∧ Below w.heap.size w w'

set_option maxHeartbeats 1600000 in
theorem concat_any (A1 A2 : Option Addr) (n1 c1 n2 c2 : Nat) (l1 l2 : List (Int × Int × Int)) (x : Nat) (w : World) (hl1 : l1.length = n1) (hl2 : l2.length = n2) (hL1 : Tks w.heap.size w A1 l1) (hL2 : Tks w.heap.size w A2 l2)
    (hA1 : A1 = none → n1 = 0 ∧ c1 = 0) (hA2 : A2 = none → n2 = 0 ∧ c2 = 0) (hx : x < w.heap.size) (hc0 : w.cell? ⟨x, 0, none⟩ = some (.slice A1 n1 c1)) (hc1 : w.cell? ⟨x, 1, none⟩ = some (.slice A2 n2 c2)) (hn : n1 + n2 ≤ 1048576) (hpos : 0 < n1 + n2) :
    Calls Try.prog 35 #[.slice (some ⟨x, 0, none⟩) 2 2] w (TksBack (l1 ++ l2) w) := by
  obtain ⟨i0, hi, hz0, hz1, hz2⟩ := info_parts info_task
  have Hl1 := Lib.hid hl1
  have Hl2 := Lib.hid hl2
  have HL1 := Lib.hid hL1
  have HL2 := Lib.hid hL2
  have HA1 := Lib.hid hA1
  have HA2 := Lib.hid hA2
  have C0 := Lib.hid hc0
  have C1 := Lib.hid hc1
  have hn0 : (0 : Int) ≤ (n1 : Int) + n2 := by omega
  clear hl1 hl2 hL1 hL2 hA1 hA2
  go_enter Try.func35, Try.ntmps35
  go_wp2_with fail
  go_loop [3, 11] (fun u i => ∃ k a : Nat, k ≤ 2 ∧ i = .int .i64 k ∧ u = .int .i64 a ∧ a ≤ n1 + n2 ∧ (k = 0 → a = 0) ∧ (k = 1 → a = n1) ∧ (k = 2 → a = n1 + n2)) (fun _ i => (2 - intOf i).toNat)
  case atStart => exact ⟨0, 0, by omega, rfl, rfl, by omega, fun _ => rfl, fun h => by omega, fun h => by omega⟩
  case round =>
    obtain ⟨k, a, hk, rfl, rfl, hab, ha0, ha1, ha2⟩ := hrel
    have Ha0 := Lib.hid ha0
    have Ha1 := Lib.hid ha1
    have Ha2 := Lib.hid ha2
    clear ha0 ha1 ha2
    have hcs : k = 0 ∨ k = 1 ∨ k = 2 := by omega
    rcases hcs with rfl | rfl | rfl
    · obtain rfl : a = 0 := Ha0.out rfl
      go_wp2_with fail
      go_round
      case rel => exact ⟨1, n1, by omega, rfl, rfl, by omega, fun h => by omega, fun _ => rfl, fun h => by omega⟩
      case measure => simp [intOf]
    · obtain rfl : a = n1 := Ha1.out rfl
      go_wp2_with fail
      go_round
      case rel => exact ⟨2, a + n2, by omega, rfl, by go_num, by omega, fun h => by omega, fun h => by omega, fun _ => rfl⟩
      case measure => simp [intOf]
    · obtain rfl : a = n1 + n2 := Ha2.out rfl
      clear Ha0 Ha1 Ha2 hab
      obtain ⟨N, hN⟩ : ∃ N, N = n1 + n2 := ⟨_, rfl⟩
      rw [← hN] at hpos hn ⊢
      have HN := Lib.hid hN
      have hn1N : n1 ≤ N := by omega
      clear hN
      go_wp2_with fail
      refine (growt_any N _ hpos hn).mono ?_
      rintro e w1 ⟨X, cx, rfl, hown, hb1⟩
      have O1 := Lib.hid hown
      have B1 := Lib.hid hb1
      clear hown hb1
      go_wp2_with fail
      go_loopw [6, 27] (fun v i wr => ∃ (k : Nat) (X : Option Addr) (mm cx : Nat), k ≤ 2 ∧ i = .int .i64 k ∧ v = .slice X mm cx ∧ Hid ((cat2 l1 l2 k).length = mm) ∧ Hid (wr.ownsRow w.heap.size 48 3 (.slice X mm cx) mm (tcells (cat2 l1 l2 k))) ∧ Below w.heap.size w wr) (fun _ i _ => (2 - intOf i).toNat)
      case atStart => exact ⟨0, X, 0, cx, by omega, rfl, rfl, Lib.hid rfl, O1, B1.out⟩
      case round =>
        obtain ⟨k, X, mm, cx, hk, rfl, rfl, hmm, hown, hb⟩ := hrel
        obtain ⟨hc, hf⟩ := old_cells hb
        have hz := hb.size
        have hx1 : x < wr.heap.size := by omega
        have hcs : k = 0 ∨ k = 1 ∨ k = 2 := by omega
        rcases hcs with rfl | rfl | rfl
        · obtain rfl : mm = 0 := by have := hmm.out; simpa [cat2] using this.symm
          go_wp2_with (at_builtin; refine wpList_append_to wr rfl (.tmp 31) (.tmp 32) 22 rfl w.heap.size 48 i0 (.agg #[.int .i64 0, .int .i64 0, .int .i64 0]) 3 24 Try.underlying22 hi hz0 hz1 hz2 rfl (by decide) (.slice X 0 cx) 0 [] rfl hown.out A1 n1 c1 (tcells l1) rfl HA1.out (by rw [tcells_len, Hl1.out]) ((HL1.out.below hb).news) (tcells_one l1) (by unfold maxLen; omega) (by omega) hz n1 (by omega) ?_; intro A6 c6 w6 O6 g6)
          have B6 := Lib.hid (hb.grown g6 hz (fun k hk => (hown.out.lt k hk).1))
          have O7 := Lib.hid O6
          clear O6 g6 hc hf
          go_wp2
          go_roundw
          case rel => exact ⟨1, A6, n1, c6, by omega, rfl, rfl, Lib.hid Hl1.out, Lib.hid (by simpa [cat2] using O7.out), B6.out⟩
          case measure => simp [intOf]
        · obtain rfl : mm = n1 := by have := hmm.out; rw [← Hl1.out, ← this]; rfl
          go_wp2_with (at_builtin; refine wpList_append_to wr rfl (.tmp 31) (.tmp 32) 22 rfl w.heap.size 48 i0 (.agg #[.int .i64 0, .int .i64 0, .int .i64 0]) 3 24 Try.underlying22 hi hz0 hz1 hz2 rfl (by decide) (.slice X mm cx) mm (tcells l1) rfl hown.out A2 n2 c2 (tcells l2) rfl HA2.out (by rw [tcells_len, Hl2.out]) ((HL2.out.below hb).news) (tcells_one l2) (by have := HN.out; unfold maxLen; omega) (by have := HN.out; omega) hz N HN.out.symm ?_; intro A6 c6 w6 O6 g6)
          have B6 := Lib.hid (hb.grown g6 hz (fun k hk => (hown.out.lt k hk).1))
          have O7 := Lib.hid O6
          clear O6 g6 hc hf
          go_wp2
          go_roundw
          case rel => exact ⟨2, A6, N, c6, by omega, rfl, rfl, Lib.hid (show (l1 ++ l2).length = N by rw [List.length_append, Hl1.out, Hl2.out, HN.out]), Lib.hid (show w6.ownsRow w.heap.size 48 3 (.slice A6 N c6) N (tcells (l1 ++ l2)) by rw [tcells_two]; exact O7.out), B6.out⟩
          case measure => simp [intOf]
        · go_wp2_with fail
          go_ret
          exact ⟨X, mm, cx, rfl, hmm.out, Tks.own hown.out, fun b o h => own_base hown.out b (by rw [h]; rfl), hb⟩
end Go.Proofs.Ytlpmcmgalodfeaa
