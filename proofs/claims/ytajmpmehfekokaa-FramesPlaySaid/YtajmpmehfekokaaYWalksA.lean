/-
  Contracts: has, Taken, refuse, Read, Write, Free.
-/
import Derived.Test.YtajmpmehfekokaaYMem
import Derived.Test.YtajmpmehfekokaaKit
namespace Go.Proofs.Ytajmpmehfekokaa
open Go.ChangeShapes Go.WideShapes Go.ChangeAt Go.RowKit

section
variable {w : World} {h : Nat} {L : List Fr}
theorem has_in (H : FrIs w h L) {i : Nat} (hi : i < L.length) : Calls Try.prog 23 #[.pointer (some ⟨h, 0, none⟩), .int .i64 (i : Nat)] w fun e w' => e = .returned (.bool true) ∧ w = w' := by
  have hc := H.all
  clear H
  generalize L.length = n at *
  have h0 : (0 : Int) ≤ i := by omega
  have h1 : (i : Int) < n := by omega
  go_enter Try.func23, Try.ntmps23
  go_wp2
  go_ret
  exact ⟨rfl, rfl⟩
theorem has_out (H : FrIs w h L) {i : Int} (hi : i < 0 ∨ (L.length : Int) ≤ i) : Calls Try.prog 23 #[.pointer (some ⟨h, 0, none⟩), .int .i64 i] w fun e w' => e = .returned (.bool false) ∧ w = w' := by
  have hc := H.all
  clear H
  generalize L.length = n at *
  by_cases h0 : i < 0
  · clear hi
    have h1 : ¬ (0 : Int) ≤ i := by omega
    go_enter Try.func23, Try.ntmps23
    go_wp2
    go_ret
    exact ⟨rfl, rfl⟩
  · have h1 : (0 : Int) ≤ i := by omega
    have h2 : (n : Int) ≤ i := by omega
    have h3 : ¬ i < n := by omega
    clear hi h0
    go_enter Try.func23, Try.ntmps23
    go_wp2
    go_ret
    exact ⟨rfl, rfl⟩
theorem taken_in (H : FrIs w h L) {i : Nat} {x : Fr} (hx : L[i]? = some x) : Calls Try.prog 16 #[.pointer (some ⟨h, 0, none⟩), .int .i64 (i : Nat)] w fun e w' => e = .returned (.bool x.tk) ∧ w = w' := by
  have hc := H.taken hx
  have hi := (List.getElem?_eq_some_iff.1 hx).1
  have HH := Lib.hid (has_in H hi)
  have hl := H.low.2
  have h1 : (i : Int) < 32 := by omega
  have h0 : (0 : Int) ≤ i := by omega
  clear H hx hi hl
  generalize x.tk = b at *
  go_enter Try.func16, Try.ntmps16
  go_wp2_with (go_at_call 23; refine HH.out.mono ?_; rintro e w' ⟨rfl, rfl⟩)
  go_ret
  exact ⟨rfl, rfl⟩
theorem taken_out (H : FrIs w h L) {i : Int} (hi : i < 0 ∨ (L.length : Int) ≤ i) : Calls Try.prog 16 #[.pointer (some ⟨h, 0, none⟩), .int .i64 i] w fun e w' => e = .returned (.bool false) ∧ w = w' := by
  have HH := Lib.hid (has_out H hi)
  clear H hi
  go_enter Try.func16, Try.ntmps16
  go_wp2_with (go_at_call 23; refine HH.out.mono ?_; rintro e w' ⟨rfl, rfl⟩)
  go_ret
  exact ⟨rfl, rfl⟩
theorem taken_any (H : FrIs w h L) (i : Int) : Calls Try.prog 16 #[.pointer (some ⟨h, 0, none⟩), .int .i64 i] w fun e w' => e = .returned (.bool (tkAt L i)) ∧ w = w' := by
  by_cases hi : i < 0 ∨ (L.length : Int) ≤ i
  · rw [tkAt_out hi]
    exact taken_out H hi
  · obtain ⟨k, rfl⟩ : ∃ k : Nat, i = k := ⟨i.toNat, by omega⟩
    have hk : k < L.length := by omega
    rw [tkAt_in (List.getElem?_eq_getElem hk)]
    exact taken_in H (List.getElem?_eq_getElem hk)
theorem refuse_any (H : FrIs w h L) (i a : Int) : Calls Try.prog 19 #[.pointer (some ⟨h, 0, none⟩), .int .i64 i, .int .i64 a] w fun e w' => e = .returned (.int .i64 (rwE L i a)) ∧ w = w' := by
  have HT := Lib.hid (taken_any H i)
  have HR : Hid (rwE L i a = if tkAt L i = true then (if 0 ≤ a ∧ a < 16 then 0 else 1) else 6) := Lib.hid rfl
  generalize rwE L i a = r at *
  generalize tkAt L i = t at *
  clear H
  cases t with
  | false =>
    obtain rfl : r = 6 := HR.out
    go_enter Try.func19, Try.ntmps19
    go_wp2_with (go_at_call 16; refine HT.out.mono ?_; rintro e w' ⟨rfl, rfl⟩)
    go_ret
    exact ⟨rfl, rfl⟩
  | true =>
    by_cases h0 : a < 0
    · obtain rfl : r = 1 := by rw [HR.out, if_pos rfl, if_neg (by omega)]
      go_enter Try.func19, Try.ntmps19
      go_wp2_with (go_at_call 16; refine HT.out.mono ?_; rintro e w' ⟨rfl, rfl⟩)
      go_ret
      exact ⟨rfl, rfl⟩
    · by_cases h1 : 16 ≤ a
      · obtain rfl : r = 1 := by rw [HR.out, if_pos rfl, if_neg (by omega)]
        go_enter Try.func19, Try.ntmps19
        go_wp2_with (go_at_call 16; refine HT.out.mono ?_; rintro e w' ⟨rfl, rfl⟩)
        go_ret
        exact ⟨rfl, rfl⟩
      · obtain rfl : r = 0 := by rw [HR.out, if_pos rfl, if_pos (by omega)]
        go_enter Try.func19, Try.ntmps19
        go_wp2_with (go_at_call 16; refine HT.out.mono ?_; rintro e w' ⟨rfl, rfl⟩)
        go_ret
        exact ⟨rfl, rfl⟩
theorem rwE_hit {L : List Fr} {i a : Int} (h : rwE L i a = 0) : ∃ k c : Nat, i = k ∧ a = c ∧ c < 16 ∧ L[k]? = some (frAt L i) := by
  unfold rwE at h
  by_cases ht : tkAt L i = true
  · rw [if_pos ht] at h
    by_cases ha : 0 ≤ a ∧ a < 16
    · obtain ⟨h0, h1, h2, -⟩ := tkAt_hit ht
      exact ⟨i.toNat, a.toNat, by omega, by omega, by omega, h2⟩
    · rw [if_neg ha] at h
      omega
  · rw [if_neg ht] at h
    omega
theorem read_any (H : FrIs w h L) (i a : Int) : Calls Try.prog 9 #[.pointer (some ⟨h, 0, none⟩), .int .i64 i, .int .i64 a] w fun e w' => e = .returned (.tuple #[.int .u8 (readV L i a), .int .i64 (rwE L i a)]) ∧ w = w' := by
  have HT := Lib.hid (refuse_any H i a)
  by_cases hr : rwE L i a = 0
  · obtain ⟨k, c, hk, hc, hc16, hx⟩ := rwE_hit hr
    have hb := H.byte hx hc16
    have hv : readV L i a = (((frAt L i).by_ c).toNat : Int) := by
      unfold readV
      rw [if_pos hr, hc]
      rfl
    rw [hr] at HT
    rw [hv, hr]
    have hlt := (List.getElem?_eq_some_iff.1 hx).1
    have hl := H.low.2
    generalize (((frAt L i).by_ c).toNat : Int) = v at *
    subst hk hc
    have h1 : (k : Int) < 32 := by omega
    have h0 : (0 : Int) ≤ k := by omega
    have h2 : (c : Int) < 16 := by omega
    have h3 : (0 : Int) ≤ c := by omega
    clear H hx hr hv hlt hl hc16
    go_enter Try.func9, Try.ntmps9
    go_wp2_with (go_at_call 19; refine HT.out.mono ?_; rintro e w' ⟨rfl, rfl⟩)
    go_ret2
    exact ⟨rfl, rfl⟩
  · have hv : readV L i a = 0 := by
      unfold readV
      rw [if_neg hr]
    rw [hv]
    generalize rwE L i a = r at *
    clear H hv
    go_enter Try.func9, Try.ntmps9
    go_wp2_with (go_at_call 19; refine HT.out.mono ?_; rintro e w' ⟨rfl, rfl⟩)
    go_ret2
    exact ⟨rfl, rfl⟩

/-- The memory has changed, and nothing else. -/
def Turned (h : Nat) (L' : List Fr) (v : Value) (w : World) (e : Ending) (w' : World) : Prop := e = .returned v ∧ FrIs w' h L' ∧ Only (· = h) w w'
theorem write_any (H : FrIs w h L) (i a : Int) (b : UInt8) : Calls Try.prog 11 #[.pointer (some ⟨h, 0, none⟩), .int .i64 i, .int .i64 a, .int .u8 (b.toNat : Int)] w (Turned h (writeL L i a b) (.int .i64 (rwE L i a)) w) := by
  have HT := Lib.hid (refuse_any H i a)
  by_cases hr : rwE L i a = 0
  · obtain ⟨k, c, hk, hc, hc16, hx⟩ := rwE_hit hr
    have hb := H.byte hx hc16
    have hf := H.free (k * 16 + c)
    have hv : writeL L i a b = L.set k ⟨(frAt L i).tk, put8 (frAt L i).by_ c b⟩ := by
      unfold writeL
      rw [if_pos hr, hc, hk]
      rfl
    have HE : Hid (Turned h (writeL L i a b) (.int .i64 0) w (.returned (.int .i64 0)) (w.setCell ⟨h, k * 16 + c, none⟩ (.int .u8 (b.toNat : Int)))) := Lib.hid (by
      rw [hv]
      exact ⟨rfl, H.putByte hx hc16 b, (Only.refl (· = h) w).put (p := ⟨h, k * 16 + c, none⟩) (Or.inl rfl) _⟩)
    rw [hr] at HT
    rw [hr]
    have hlt := (List.getElem?_eq_some_iff.1 hx).1
    have hl := H.low.2
    generalize writeL L i a b = L' at *
    generalize (((frAt L i).by_ c).toNat : Int) = v at *
    generalize (b.toNat : Int) = B at *
    subst hk hc
    have h1 : (k : Int) < 32 := by omega
    have h0 : (0 : Int) ≤ k := by omega
    have h2 : (c : Int) < 16 := by omega
    have h3 : (0 : Int) ≤ c := by omega
    clear H hx hr hv hlt hl hc16
    go_enter Try.func11, Try.ntmps11
    go_wp2_with (go_at_call 19; refine HT.out.mono ?_; rintro e w' ⟨rfl, rfl⟩)
    go_ret
    exact HE.out
  · have HE : Hid (Turned h (writeL L i a b) (.int .i64 (rwE L i a)) w (.returned (.int .i64 (rwE L i a))) w) := Lib.hid (by
      have hv : writeL L i a b = L := by
        unfold writeL
        rw [if_neg hr]
      rw [hv]
      exact ⟨rfl, H, Only.refl _ _⟩)
    generalize writeL L i a b = L' at *
    generalize rwE L i a = r at *
    generalize (b.toNat : Int) = B at *
    clear H
    go_enter Try.func11, Try.ntmps11
    go_wp2_with (go_at_call 19; refine HT.out.mono ?_; rintro e w' ⟨rfl, rfl⟩)
    go_ret
    exact HE.out
theorem free_any (H : FrIs w h L) (i : Int) : Calls Try.prog 7 #[.pointer (some ⟨h, 0, none⟩), .int .i64 i] w (Turned h (giveL L i) (.int .i64 (giveE L i)) w) := by
  have HT := Lib.hid (taken_any H i)
  by_cases ht : tkAt L i = true
  · obtain ⟨i0, i1, hx, -⟩ := tkAt_hit ht
    obtain ⟨k, hk⟩ : ∃ k : Nat, i = k := ⟨i.toNat, by omega⟩
    have hk2 : i.toNat = k := by omega
    rw [hk2] at hx
    have hb := H.taken hx
    have hf := H.free (512 + k)
    have HE : Hid (Turned h (giveL L i) (.int .i64 0) w (.returned (.int .i64 0)) (w.setCell ⟨h, 512 + k, none⟩ (.bool false))) := Lib.hid (by
      unfold giveL
      rw [if_pos ht, hk2]
      exact ⟨rfl, H.putTaken hx false, (Only.refl (· = h) w).put (p := ⟨h, 512 + k, none⟩) (Or.inl rfl) _⟩)
    have he : giveE L i = 0 := if_pos ht
    rw [he]
    rw [ht] at HT
    have hl := H.low.2
    generalize giveL L i = L' at *
    generalize (frAt L i).tk = v at *
    subst hk
    have h1 : (k : Int) < 32 := by omega
    clear H hx ht hk2 he i1 hl
    go_enter Try.func7, Try.ntmps7
    go_wp2_with (go_at_call 16; refine HT.out.mono ?_; rintro e w' ⟨rfl, rfl⟩)
    go_ret
    exact HE.out
  · have HE : Hid (Turned h (giveL L i) (.int .i64 6) w (.returned (.int .i64 6)) w) := Lib.hid (by
      have hv : giveL L i = L := if_neg ht
      rw [hv]
      exact ⟨rfl, H, Only.refl _ _⟩)
    have he : giveE L i = 6 := if_neg ht
    rw [he]
    rw [Bool.not_eq_true] at ht
    rw [ht] at HT
    generalize giveL L i = L' at *
    clear H ht he
    go_enter Try.func7, Try.ntmps7
    go_wp2_with (go_at_call 16; refine HT.out.mono ?_; rintro e w' ⟨rfl, rfl⟩)
    go_ret
    exact HE.out
end
end Go.Proofs.Ytajmpmehfekokaa
