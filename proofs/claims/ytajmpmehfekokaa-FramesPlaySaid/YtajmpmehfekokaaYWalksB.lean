/-
  Contracts: Len, Take, Bytes, New.
-/
import Derived.Test.YtajmpmehfekokaaYWalksA
import Derived.Deep.WholeRow
namespace Go.Proofs.Ytajmpmehfekokaa
open Go.ChangeShapes Go.WideShapes Go.ChangeAt Go.RowKit

section
variable {w : World} {h : Nat} {L : List Fr}
set_option maxHeartbeats 1000000 in
theorem len_any (H : FrIs w h L) : Calls Try.prog 20 #[.pointer (some ⟨h, 0, none⟩)] w fun e w' => e = .returned (.tuple #[.int .i64 (L.length : Nat), .int .i64 (frees L : Nat)]) ∧ ∃ q, w' = w.drewN q := by
  obtain ⟨n, hn⟩ : ∃ n, L.length = n := ⟨_, rfl⟩
  have hc := H.all
  have hl := H.low
  rw [hn] at hc hl ⊢
  have HT : Hid (∀ i x, L[i]? = some x → w.cell? ⟨h, 512 + i, none⟩ = some (.bool x.tk)) := Lib.hid fun i x hx => H.taken hx
  have Hn := Lib.hid hn
  have h0 : (0 : Int) ≤ n := by omega
  have h1 : (n : Int) ≤ 32 := by omega
  clear H hn
  go_enter Try.func20, Try.ntmps20
  go_wp2
  go_quiet (fail)
  go_wp2
  go_loopw [3, 17] (fun u3 u17 wr => ∃ (i q : Nat), i ≤ n ∧ u3 = .int .i64 (frees (L.take i) : Nat) ∧ u17 = .int .i64 (i : Nat) ∧ wr = w.drewN q) (fun _ u17 _ => n - (intOf u17).toNat)
  case atStart => exact ⟨0, _, Nat.zero_le _, rfl, rfl, rfl⟩
  case round =>
    obtain ⟨i, q, hi, rfl, rfl, rfl⟩ := hrel
    by_cases hlt : i < n
    · obtain ⟨x, hx⟩ : ∃ x, L[i]? = some x := ⟨_, List.getElem?_eq_getElem (by rw [Hn.out]; exact hlt)⟩
      have hct := HT.out i _ hx
      have hfr := frees_take L i _ hx
      have hle := frees_le (L.take i)
      rw [List.length_take] at hle
      generalize x.tk = b at *
      obtain ⟨F, hF⟩ : ∃ F, frees (L.take i) = F := ⟨_, rfl⟩
      rw [hF] at hfr hle ⊢
      have HF2 := Lib.hid hfr
      have i0 : (0 : Int) ≤ i := by omega
      have i1 : (i : Int) < n := by omega
      have F1 : (F : Int) ≤ 32 := by omega
      clear hfr hF hx hle
      cases b with
      | true =>
        go_wp2
        go_roundw
        case rel => exact ⟨i + 1, q, by omega, by rw [HF2.out]; simp, by go_num, rfl⟩
        case measure => simp [intOf]; omega
      | false =>
        go_wp2
        go_roundw
        case rel => exact ⟨i + 1, q, by omega, by rw [HF2.out]; simp, by go_num, rfl⟩
        case measure => simp [intOf]; omega
    · obtain rfl : i = n := by omega
      have hF : frees (L.take i) = frees L := by rw [← Hn.out, List.take_length]
      rw [hF]
      go_wp2
      go_ret2
      exact ⟨rfl, q, rfl⟩

/-- What a frame of noughts is, as a value. -/
theorem zero_bytes : ∀ w : World, (Instr.build 49 #[]).run Try.prog w = .ok (.agg (bcells noughts).toArray) w := fun w => by kernel_rfl
theorem info_bytes : (Try.prog.info? 49).map (·.size) = some 16 := by kernel_rfl

set_option maxHeartbeats 1000000 in
theorem take_any (H : FrIs w h L) : Calls Try.prog 13 #[.pointer (some ⟨h, 0, none⟩)] w (Turned h (takeL L) (.tuple #[.int .i64 (takeN L), .int .i64 (takeE L)]) w) := by
  obtain ⟨n, hn⟩ : ∃ n, L.length = n := ⟨_, rfl⟩
  have hc := H.all
  have hl := H.low
  rw [hn] at hc hl
  have HH := Lib.hid H
  have HT : Hid (∀ i x, L[i]? = some x → w.cell? ⟨h, 512 + i, none⟩ = some (.bool x.tk)) := Lib.hid fun i x hx => H.taken hx
  have Hn := Lib.hid hn
  have h0 : (0 : Int) ≤ n := by omega
  have h1 : (n : Int) ≤ 32 := by omega
  have hf := H.free
  clear H hn
  go_enter Try.func13, Try.ntmps13
  go_wp2
  go_quiet (fail)
  go_wp2
  go_loopw [17] (fun u17 wr => ∃ (i q : Nat), i ≤ n ∧ i ≤ fst_ L ∧ u17 = .int .i64 (i : Nat) ∧ wr = w.drewN q) (fun u17 _ => n - (intOf u17).toNat)
  case atStart => exact ⟨0, _, Nat.zero_le _, Nat.zero_le _, rfl, rfl⟩
  case round =>
    obtain ⟨i, q, hi, hif, rfl, rfl⟩ := hrel
    by_cases hlt : i < n
    · obtain ⟨x, hx⟩ : ∃ x, L[i]? = some x := ⟨_, List.getElem?_eq_getElem (by rw [Hn.out]; exact hlt)⟩
      have hct := HT.out i _ hx
      have i0 : (0 : Int) ≤ i := by omega
      have i1 : (i : Int) < n := by omega
      by_cases ht : x.tk = true
      · have hne : i ≠ fst_ L := fun e => by
          obtain ⟨y, hy, hyt⟩ := fst_at L (by rw [Hn.out, ← e]; exact hlt)
          rw [← e, hx] at hy
          cases hy
          rw [ht] at hyt
          cases hyt
        have Hi : Hid (i + 1 ≤ fst_ L) := Lib.hid (by omega)
        rw [ht] at hct
        clear hx hif hne ht
        go_wp2
        go_roundw
        case rel => exact ⟨i + 1, q, by omega, Hi.out, by go_num, rfl⟩
        case measure => simp [intOf]; omega
      · have hfi : fst_ L = i := by
          refine Nat.le_antisymm ?_ hif
          refine Nat.le_of_not_lt fun h3 => ?_
          obtain ⟨y, hy, hyt⟩ := fst_lt L i h3
          rw [hx] at hy
          cases hy
          exact ht hyt
        have hflt : fst_ L < L.length := by rw [hfi, Hn.out]; exact hlt
        have HE : Hid (Turned h (takeL L) (.tuple #[.int .i64 (i : Nat), .int .i64 0]) w (.returned (.tuple #[.int .i64 (i : Nat), .int .i64 0])) (((w.drewN q).setCell ⟨h, 512 + i, none⟩ (.bool true)).setCells h (i * 16) (bcells noughts))) := Lib.hid (by
          have h2 : FrIs (w.drewN q) h L := HH.out.kept rfl
          have h3 := h2.putTaken hx true
          have h4 := h3.putBytes (i := i) (x := ⟨true, x.by_⟩) (by rw [List.getElem?_set, if_pos rfl, if_pos (by rw [Hn.out]; exact hlt)]) noughts
          rw [List.set_set] at h4
          refine ⟨rfl, ?_, ((Only.put (S := (· = h)) (Only.of_below (below_drawn (Below.refl _ _))) (p := ⟨h, 512 + i, none⟩) (Or.inl rfl) _).puts (Or.inl rfl) _ _)⟩
          unfold takeL
          rw [if_pos hflt, hfi]
          exact h4)
        have hTh : Hid (((w.drewN q).setCell ⟨h, 512 + i, none⟩ (.bool true)).there h (i * 16) 16) := Lib.hid ((FrIs.putTaken (HH.out.kept (w' := w.drewN q) rfl) hx true).there (i := i) (x := ⟨true, x.by_⟩) (by rw [List.getElem?_set, if_pos rfl, if_pos (by rw [Hn.out]; exact hlt)]))
        have hN : takeN L = (i : Int) := by rw [takeN, if_pos hflt, hfi]
        have hE : takeE L = 0 := if_pos hflt
        rw [hN, hE]
        rw [Bool.not_eq_true] at ht
        rw [ht] at hct
        generalize takeL L = L' at *
        clear hx hif ht hfi hflt hN hE
        go_wp2_with (refine wpList_store_mid rfl 49 (.tmp 34) (.tmp 31) rfl h (i * 16) (bcells noughts).toArray rfl (by rfl) hTh.out (info_bytes.trans rfl) (all_oneCell_toArray (bcells_one _)) ?_)
        go_ret2
        exact HE.out
    · obtain rfl : i = n := by omega
      have HE : Hid (Turned h (takeL L) (.tuple #[.int .i64 (takeN L), .int .i64 (takeE L)]) w (.returned (.tuple #[.int .i64 0, .int .i64 20])) (w.drewN q)) := Lib.hid (by
        have h2 : ¬ fst_ L < L.length := by rw [Hn.out]; omega
        unfold takeL takeN takeE
        rw [if_neg h2, if_neg h2, if_neg h2]
        exact ⟨rfl, HH.out.kept rfl, Only.of_below (below_drawn (Below.refl _ _))⟩)
      generalize takeL L = L' at *
      generalize takeN L = a' at *
      generalize takeE L = e' at *
      go_wp2
      go_ret2
      exact HE.out

/-- A frame's bytes are told, in new memory. -/
theorem bytes_in (H : FrIs w h L) {i : Nat} {x : Fr} (hx : L[i]? = some x) : Calls Try.prog 22 #[.pointer (some ⟨h, 0, none⟩), .int .i64 (i : Nat)] w fun e w' => e = .returned (.slice (some ⟨w.heap.size, 0, none⟩) 16 16) ∧ w' = w.alloc (.cells (bcells x.by_).toArray 49) := by
  have hi := (List.getElem?_eq_some_iff.1 hx).1
  have HHs := Lib.hid (has_in H hi)
  have HR := Lib.hid (H.range hx)
  have hl := H.low.2
  have h1 : (i : Int) < 32 := by omega
  have h0 : (0 : Int) ≤ i := by omega
  clear H hx hi hl
  go_enter Try.func22, Try.ntmps22
  go_wp2_with (first
    | (go_at_call 23; refine HHs.out.mono ?_; rintro e w' ⟨rfl, rfl⟩)
    | (refine wpList_load_mid rfl 49 (.tmp 14) rfl h (i * 16) rfl (bcells x.by_) (.array 16 5) HR.out Try.underlying49 rfl (info_bytes.trans (by rw [bcells_len])) ?_)
    | (refine wpList_store_row rfl 49 (.tmp 5) (.tmp 15) rfl w.heap.size (bcells x.by_).toArray rfl rfl 49 (bcells noughts).toArray (heap_alloc_new w _) (info_bytes.trans (by simp [bcells_len])) (by simp [bcells_len]) (all_oneCell_toArray (bcells_one _)) ?_))
  go_ret
  exact ⟨rfl, World.setRow_alloc_new _ _ _ _⟩
end

/-- The zero memory's cells. -/
theorem zero_frames : ∃ Z : Array Value, (∀ w : World, (zeroValue 53).run Try.prog w = .ok (.agg Z) w) ∧ Z.size = 545 ∧ (∀ j, j < 512 → Z[j]? = some (.int .u8 0)) ∧ (∀ j, j < 32 → Z[512 + j]? = some (.bool false)) := by
  refine ⟨Array.replicate 512 (.int .u8 0) ++ (Array.replicate 32 (.bool false) ++ #[.int .i64 0]), fun w => by kernel_rfl, by simp, fun j hj => ?_, fun j hj => ?_⟩
  · rw [Array.getElem?_append_left (by simpa using hj), Array.getElem?_replicate, if_pos hj]
  · rw [Array.getElem?_append_right (by simp), Array.size_replicate, Nat.add_sub_cancel_left, Array.getElem?_append_left (by simpa using hj), Array.getElem?_replicate, if_pos hj]

/-- A list of frames that nobody has. -/
def blank (n : Nat) : List Fr := List.replicate n ⟨false, noughts⟩
/-- A memory is made. -/
def MadeF (n : Nat) (w : World) (e : Ending) (w' : World) : Prop :=
  e = .returned (.tuple #[.pointer (some ⟨w.heap.size, 0, none⟩), .int .i64 0]) ∧ FrIs w' w.heap.size (blank n) ∧ Below w.heap.size w w'
set_option maxRecDepth 100000 in
set_option maxHeartbeats 1000000 in
theorem new_any (n : Nat) (w : World) (h1 : 1 ≤ n) (h2 : n ≤ 32) : Calls Try.prog 5 #[.int .i64 (n : Nat)] w (MadeF n w) := by
  obtain ⟨Z, hz, hs, z1, z2⟩ := zero_frames
  have HF : Hid (∀ C, C = Z.setIfInBounds 544 (.int .i64 (n : Nat)) → MadeF n w (.returned (.tuple #[.pointer (some ⟨w.heap.size, 0, none⟩), .int .i64 0])) (w.alloc (fObj C))) := fun C hC => by
    refine ⟨rfl, ⟨⟨C, heap_alloc_new _ _, by rw [hC, Array.size_setIfInBounds, hs], fun i x hx => ?_, ?_⟩, by simp [blank]; omega⟩, (Below.refl _ _).alloc (Nat.le_refl _) _⟩
    · have hi := (List.getElem?_eq_some_iff.1 hx).1
      rw [blank, List.length_replicate] at hi
      rw [blank, List.getElem?_replicate, if_pos hi, Option.some.injEq] at hx
      subst hx
      refine ⟨by rw [hC, set_at (z2 i (by omega)), if_neg (by omega)], fun j hj => ?_⟩
      rw [hC, set_at (z1 _ (by omega)), if_neg (by omega)]
      rfl
    · have z4 : Z[544]? = some Z[544] := Array.getElem?_eq_getElem (by omega)
      rw [hC, set_at z4, if_pos rfl, blank, List.length_replicate]
  have h3 : (1 : Int) ≤ n := by omega
  have h4 : (n : Int) ≤ 32 := by omega
  clear z1 z2 h1 h2
  go_enter Try.func5, Try.ntmps5
  go_wp2
  go_ret2
  exact HF.out _ rfl
theorem new_bad (n : Int) (w : World) (h1 : n < 1 ∨ 32 < n) : Calls Try.prog 5 #[.int .i64 n] w fun e w' => e = .returned (.tuple #[.pointer none, .int .i64 1]) ∧ w = w' := by
  by_cases h : n < 1
  · clear h1
    go_enter Try.func5, Try.ntmps5
    go_wp2
    go_ret2
    exact ⟨rfl, rfl⟩
  · have h2 : 32 < n := by omega
    clear h1
    go_enter Try.func5, Try.ntmps5
    go_wp2
    go_ret2
    exact ⟨rfl, rfl⟩
end Go.Proofs.Ytajmpmehfekokaa
