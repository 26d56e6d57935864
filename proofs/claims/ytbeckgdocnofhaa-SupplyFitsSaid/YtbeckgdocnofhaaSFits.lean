/-
  The law SupplyFits answers true: its walk out of the contracts.
-/
import Derived.Test.YtbeckgdocnofhaaSWalksF
import Derived.Test.YtbeckgdocnofhaaSWalksB
namespace Go.Proofs.Ytbeckgdocnofhaa
open Go.ChangeShapes Go.WideShapes Go.ChangeAt Go.RowKit

/-- A list of reservations, as cells. -/
def rcells (l : List (Int × Int)) : List Value := l.flatMap fun f => [.int .i64 f.1, .int .i64 f.2]
theorem rcells_len (l : List (Int × Int)) : (rcells l).length = l.length * 2 := by
  induction l with
  | nil => rfl
  | cons a l ih => simp only [rcells, List.flatMap_cons, List.length_append, List.length_cons, List.length_nil] at *; omega
theorem rcells_snoc (l : List (Int × Int)) (k : Nat) (h : k < l.length) {p q : Int} (hpq : l.getD k (0, 0) = (p, q)) : rcells (l.take (k + 1)) = rcells (l.take k) ++ [.int .i64 p, .int .i64 q] := by
  have e : l[k] = (p, q) := by rw [← hpq, List.getD_eq_getElem?_getD, List.getElem?_eq_getElem h]; rfl
  simp only [rcells, List.take_succ_eq_append_getElem h, List.flatMap_append, List.flatMap_cons, List.flatMap_nil, List.append_nil, e]
theorem rcells_at : ∀ (l : List (Int × Int)) (i : Nat), i < l.length → (rcells l)[i * 2]? = some (.int .i64 (l.getD i (0, 0)).1) ∧ (rcells l)[i * 2 + 1]? = some (.int .i64 (l.getD i (0, 0)).2)
  | [], i, h => by simp at h
  | a :: l, 0, _ => by simp [rcells]
  | a :: l, i + 1, h => by
    have := rcells_at l i (by simp at h; omega)
    have e1 : (i + 1) * 2 = i * 2 + 2 := by omega
    rw [e1]
    simpa [rcells] using this
/-- What the call owns reads as the list. -/
theorem Rsv.own {w : World} {base : Nat} {A : Option Addr} {n c : Nat} {e : TypeId} {l : List (Int × Int)} (h : w.ownsRow base e 2 (.slice A n c) n (rcells l)) : Rsv w.heap.size w A l := fun hn => by
  have hl := h.1
  rw [rcells_len] at hl
  rcases h.2 with ⟨hv, h0⟩ | ⟨g, cap, cur, hv, _, hg, _⟩
  · omega
  · simp only [Value.slice.injEq, true_and] at hv
    obtain ⟨rfl, rfl⟩ := hv
    have hlt := (h.lt g rfl).2
    refine ⟨g, 0, rfl, hlt, fun i hi => ?_⟩
    have := rcells_at l i hi
    refine ⟨?_, ?_⟩
    · rw [Nat.zero_add, h.cellAt _ (by omega)]; exact this.1
    · rw [Nat.zero_add, h.cellAt _ (by omega)]; exact this.2
theorem info_reserve : (Try.prog.info? 24).map (fun i => (i.zero, i.size, i.bytes)) = some (some (.agg #[.int .i64 0, .int .i64 0]), 2, 16) := by kernel_rfl
theorem two_new_i (w : World) (p q : Int) (t : TypeId) : ∀ j u, ([.int .i64 p, .int .i64 q] : List Value)[j]? = some u → (w.alloc (.cells #[.int .i64 p, .int .i64 q] t)).cell? ((⟨w.heap.size, 0, none⟩ : Addr).add j) = some u
  | 0, u, h => by simp at h; subst h; rw [show (⟨w.heap.size, 0, none⟩ : Addr).add 0 = ⟨w.heap.size, 0, none⟩ from rfl, World.cell?_alloc_at _ _ _ _ rfl]; rfl
  | 1, u, h => by simp at h; subst h; rw [show (⟨w.heap.size, 0, none⟩ : Addr).add 1 = ⟨w.heap.size, 1, none⟩ from rfl, World.cell?_alloc_at _ _ _ _ rfl]; rfl
  | j + 2, u, h => by simp at h

set_option maxHeartbeats 2000000 in
theorem sfits_any (A : Option Addr) (n c : Nat) (l : List (Int × Int)) (w : World) (hln : l.length = n) (hL : Rsv w.heap.size w A l) :
    Calls Try.prog 4 #[.slice A n c] w fun e w' => e = .returned (.bool true) ∧ Below w.heap.size w w' := by
  have HL := Lib.hid hL
  have Hl := Lib.hid hln
  clear hL hln
  obtain ⟨i0, hi, hz0, hz1, hz2⟩ := info_parts info_reserve
  by_cases hbig : n ≤ 20
  · have hd1 : decide ((20 : Int) < (n : Int)) = false := by simp; omega
    go_enter Try.func4, Try.ntmps4
    go_wp2_with fail
    go_loopw [3, 4] (fun x i wr => ∃ (k : Nat) (X : Option Addr) (cx : Nat), k ≤ n ∧ i = .int .i64 k ∧ x = .slice X k cx ∧ k ≤ cx ∧ Hid (wr.ownsRow w.heap.size 24 2 (.slice X k cx) k (rcells (l.take k))) ∧ Hid (Below w.heap.size w wr)) (fun _ i _ => (n - intOf i).toNat)
    case atStart => exact ⟨0, none, 0, by omega, rfl, rfl, by omega, World.ownsRow_nil _ _ _ _, (Below.refl _ _ : Below w.heap.size w w)⟩
    case round =>
      obtain ⟨k, X, cx, hk, rfl, rfl, hkc, hown, hb⟩ := hrel
      by_cases hlt : k < n
      · obtain ⟨ab, ao, rfl, hB, hcell⟩ := HL.out (by rw [Hl.out]; omega)
        obtain ⟨hc1, hc2⟩ := hcell k (by rw [Hl.out]; exact hlt)
        clear hcell
        obtain ⟨hc, hf⟩ := old_cells hb.out
        have hz := hb.out.size
        have hz1' : ab < wr.heap.size := by omega
        have hz3 : ab ≤ wr.heap.size := by omega
        have hk0 : (0 : Int) ≤ k := by omega
        have hkn : (k : Int) < n := by omega
        obtain ⟨p, q, hpq⟩ : ∃ p q, l.getD k (0, 0) = (p, q) := ⟨_, _, rfl⟩
        have hsn := Lib.hid (rcells_snoc l k (by rw [Hl.out]; exact hlt) hpq)
        rw [hpq] at hc1 hc2
        clear hpq
        go_wp2_with fail
        refine (sto_any p q _).mono ?_
        rintro e w2 ⟨rfl, hb2⟩
        have hown2 := Lib.hid ((own_call hown.out hb2).alloc (.cells #[.int .i64 p, .int .i64 q] 24))
        have hb3 := Lib.hid (hb.out.trans (hb2.mono hz))
        have hz4 := hb3.out.size
        clear hc hf hb2 hc1 hc2
        have HC := Lib.hid (two_new_i w2 p q 24)
        go_wp2_with (at_builtin; refine wpList_append_own _ rfl (.tmp 15) (.tmp 21) 38 rfl w.heap.size 24 i0 (.agg #[.int .i64 0, .int .i64 0]) 2 16 Try.underlying38 hi hz0 hz1 hz2 rfl (by decide) (.slice X k cx) k (rcells (l.take k)) rfl hown2.out ⟨w2.heap.size, 0, none⟩ 1 1 [.int .i64 p, .int .i64 q] rfl rfl HC.out (by simp [Value.oneCell']) (by unfold maxLen; omega) (by omega) (by simp; omega) ?_; intro v' w3 hown3 hgrow3 hnn3)
        have hb4 := Lib.hid ((hb3.out.alloc hz4 _).grown hgrow3 (by simp; omega) (own_base hown2.out))
        obtain ⟨X', cx', rfl, hkc', _⟩ := own_shape hown3
        have Hown3 : Hid (w3.ownsRow w.heap.size 24 2 (.slice X' (k + 1) cx') (k + 1) (rcells (l.take (k + 1)))) := (by rw [hsn.out]; exact hown3 : w3.ownsRow w.heap.size _ 2 (.slice X' (k + 1) cx') (k + 1) (rcells (l.take (k + 1))))
        clear hown3 hgrow3 hnn3
        go_wp2
        go_roundw
        case rel => exact ⟨k + 1, X', cx', by omega, by go_num, rfl, hkc', Hown3.out, hb4.out⟩
        case measure => simp [intOf]; omega
      · obtain rfl : n = k := by omega
        have FX : Hid (Rsv wr.heap.size wr X l) := Rsv.own (by have := hown.out; rwa [List.take_of_length_le (by rw [Hl.out]; exact Nat.le_refl _)] at this)
        have FA : Hid (Rsv wr.heap.size wr A l) := HL.out.later hb.out
        have C1 : Hid (∀ w : World, Rsv w.heap.size w X l → _) := fun w h => fits_any X n cx l w Hl.out (by omega) h
        have C2 : Hid (∀ w : World, Rsv w.heap.size w A l → _) := fun w h => rfits_any A n c l w Hl.out (by omega) h
        obtain ⟨r, hr⟩ : ∃ r, Sp.fits l = r := ⟨_, rfl⟩
        rw [hr] at C1 C2
        clear hr
        have hrr : (r == r) = true := by cases r <;> rfl
        go_wp2_with fail
        refine (C1.out _ FX.out).mono ?_
        rintro e w1 ⟨rfl, hb1⟩
        have FA1 := Lib.hid (FA.out.later hb1)
        have B1 := Lib.hid (hb.out.trans (hb1.mono hb.out.size))
        clear hb1
        go_wp2_with fail
        refine (C2.out _ FA1.out).mono ?_
        rintro e w2 ⟨rfl, hb2⟩
        have B2 := Lib.hid (B1.out.trans (hb2.mono B1.out.size))
        clear hb2
        go_wp2_with fail
        refine (sawake_any _).mono ?_
        rintro e w3 ⟨rfl, hb3⟩
        have B3 := Lib.hid (B2.out.trans (hb3.mono B2.out.size))
        clear hb3
        go_wp2
        go_ret
        exact ⟨rfl, B3.out⟩
  · have hd1 : decide ((20 : Int) < (n : Int)) = true := by simp; omega
    go_enter Try.func4, Try.ntmps4
    go_wp2_with fail
    refine (sawake_any _).mono ?_
    rintro e w3 ⟨rfl, hb3⟩
    have B3 := Lib.hid hb3
    clear hb3
    go_wp2
    go_ret
    exact ⟨rfl, B3.out⟩
end Go.Proofs.Ytbeckgdocnofhaa
