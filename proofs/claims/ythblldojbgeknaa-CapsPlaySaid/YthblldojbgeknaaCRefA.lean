/-
  Contracts: the document's In, Right, At, Bits, among.
-/
import Derived.Test.YthblldojbgeknaaCRMem
import Derived.BigQuiet
namespace Go.Proofs.Ythblldojbgeknaa
open Go.ChangeShapes Go.WideShapes Go.ChangeAt Go.RowKit

theorem rin_any (e s : Int) (w : World) : Calls Try.prog 49 #[.int .i64 e, .int .i64 s] w fun x w' => x = .returned (.bool (inS e s)) ∧ w = w' := by
  obtain ⟨r, hr⟩ : ∃ r, inS e s = r := ⟨_, rfl⟩
  rw [hr]
  unfold inS at hr
  by_cases h1 : (0 : Int) ≤ e
  · by_cases h2 : e ≤ 7
    · by_cases h3 : (0 : Int) ≤ s
      · have HR : Hid (decide (s ≤ 15) = r) := Lib.hid (by simpa [h1, h2, h3] using hr)
        clear hr
        go_enter Try.func49, Try.ntmps49
        go_wp2
        go_ret
        exact ⟨bool_back HR.out, rfl⟩
      · obtain rfl : false = r := by simpa [h1, h2, h3] using hr
        clear hr
        go_enter Try.func49, Try.ntmps49
        go_wp2
        go_ret
        exact ⟨rfl, rfl⟩
    · obtain rfl : false = r := by simpa [h1, h2] using hr
      clear hr
      go_enter Try.func49, Try.ntmps49
      go_wp2
      go_ret
      exact ⟨rfl, rfl⟩
  · obtain rfl : false = r := by simpa [h1] using hr
    clear hr
    go_enter Try.func49, Try.ntmps49
    go_wp2
    go_ret
    exact ⟨rfl, rfl⟩
set_option maxHeartbeats 1000000 in
theorem rright_any (k o r : Int) (w : World) : Calls Try.prog 8 #[.agg #[.int .i64 k, .int .i64 o, .int .i64 r]] w fun x w' => x = .returned (.bool (rightB k o r)) ∧ Below w.heap.size w w' := by
  obtain ⟨q, hq⟩ : ∃ q, rightB k o r = q := ⟨_, rfl⟩
  rw [hq]
  unfold rightB at hq
  have hbl : ∀ o, Below w.heap.size w (w.alloc o) := fun o => (Below.refl _ _).alloc (Nat.le_refl _) o
  by_cases h1 : (1 : Int) ≤ k
  · by_cases h2 : k ≤ 4
    · by_cases h3 : (0 : Int) ≤ o
      · by_cases h4 : o ≤ 31
        · by_cases h5 : (0 : Int) ≤ r
          · have HR : Hid (decide (r ≤ 15) = q) := Lib.hid (by simpa [h1, h2, h3, h4, h5] using hq)
            clear hq
            go_enter Try.func8, Try.ntmps8
            go_wp2
            go_ret
            exact ⟨bool_back HR.out, hbl _⟩
          · obtain rfl : false = q := by simpa [h1, h2, h3, h4, h5] using hq
            clear hq
            go_enter Try.func8, Try.ntmps8
            go_wp2
            go_ret
            exact ⟨rfl, hbl _⟩
        · obtain rfl : false = q := by simpa [h1, h2, h3, h4] using hq
          clear hq
          go_enter Try.func8, Try.ntmps8
          go_wp2
          go_ret
          exact ⟨rfl, hbl _⟩
      · obtain rfl : false = q := by simpa [h1, h2, h3] using hq
        clear hq
        go_enter Try.func8, Try.ntmps8
        go_wp2
        go_ret
        exact ⟨rfl, hbl _⟩
    · obtain rfl : false = q := by simpa [h1, h2] using hq
      clear hq
      go_enter Try.func8, Try.ntmps8
      go_wp2
      go_ret
      exact ⟨rfl, hbl _⟩
  · obtain rfl : false = q := by simpa [h1] using hq
    clear hq
    go_enter Try.func8, Try.ntmps8
    go_wp2
    go_ret
    exact ⟨rfl, hbl _⟩

/-! At. -/
section
variable {S : Nat → Prop} {w : World} {A : Option Addr} {n c : Nat} {M : List Rn}
set_option maxRecDepth 4000 in
set_option maxHeartbeats 1000000 in
theorem rat_any (D : DocIs S w A n c M) (hS : ∀ k, S k → k < w.heap.size) (hn : n ≤ 1000) (p e s : Int) : Calls Try.prog 14 #[.agg #[.slice A n c, .int .i64 p], .int .i64 e, .int .i64 s] w fun x w' => x = .returned (.int .i64 (atI M e s)) ∧ Below w.heap.size w w' := by
  have HD := Lib.hid D
  have HlS := Lib.hid hS
  have hcap := D.cap
  obtain ⟨W, hW⟩ : ∃ W, w.alloc (.cells #[.slice A n c, .int .i64 p] 36 (0, 0)) = W := ⟨_, rfl⟩
  have HbW : Hid (Below w.heap.size w W) := Lib.hid (by
    rw [← hW]
    exact (Below.refl _ _).alloc (Nat.le_refl _) _)
  have hc : W.cell? ⟨w.heap.size, 0, none⟩ = some (.slice A n c) := by rw [← hW]; simp
  have HW := Lib.hid hW
  clear D hW hS
  go_enter Try.func14, Try.ntmps14
  go_wp2_with fail
  rw [show w.alloc (.cells #[.slice A n c, .int .i64 p] 36 (0, 0)) = W from HW.out]
  go_loopw [7] (fun i wr => ∃ k : Nat, k ≤ n ∧ Hid (k ≤ fs M e s) ∧ i = .int .i64 k ∧ W = wr) (fun i _ => (n - intOf i).toNat)
  case atStart => exact ⟨0, Nat.zero_le _, Lib.hid (Nat.zero_le _), rfl, rfl⟩
  case round =>
    obtain ⟨k, hkn, hkf, rfl, rfl⟩ := hrel
    by_cases hlt : k < n
    · have hk0 : (0 : Int) ≤ k := by omega
      have hk1 : (k : Int) < n := by omega
      have hc0 : (0 : Int) ≤ c := by omega
      obtain ⟨x, hx⟩ : ∃ x, M[k]? = some x := ⟨_, List.getElem?_eq_getElem (by rw [← HD.out.len]; exact hlt)⟩
      obtain ⟨g, rfl, hg, c0, c1, c2, c3, c4, c5, c6⟩ := (HD.out.kept (T := S) (w' := W) (fun k hk => HbW.out.block k (HlS.out k hk)) (fun _ h => h)).at_ hx
      cases hon : x.nd.on e s with
      | true =>
        have hk2 : fs M e s = k := by
          refine Nat.le_antisymm ?_ hkf.out
          refine Nat.le_of_not_lt fun h3 => ?_
          obtain ⟨y, hy, hyt⟩ := fs_before M e s k h3
          rw [hx] at hy
          cases hy
          rw [hon] at hyt
          cases hyt
        have HN : Hid (((k : Nat) : Int) = atI M e s) := Lib.hid (by rw [atI, hk2, if_pos (by rw [← HD.out.len]; exact hlt)])
        obtain ⟨o1, o2⟩ := on_iff.1 hon
        change ((x.en : Nat) : Int) = e at o1
        change ((x.sl : Nat) : Int) = s at o2
        have HE := Lib.hid HbW.out
        clear hx hk2 hon c1 c4 c5 c6 hg
        go_wp2
        go_ret
        exact ⟨int_back HN.out, HE.out⟩
      | false =>
        have hne : k ≠ fs M e s := fun e2 => by
          obtain ⟨y, hy, hyt⟩ := fs_hit M e s (by rw [← HD.out.len, ← e2]; exact hlt)
          rw [← e2, hx] at hy
          cases hy
          rw [hon] at hyt
          cases hyt
        have Hi : Hid (k + 1 ≤ fs M e s) := Lib.hid (by have := hkf.out; omega)
        have hno : ¬ (((x.en : Nat) : Int) = e ∧ ((x.sl : Nat) : Int) = s) := fun h => by
          have := on_iff.2 (show ((x.nd.en : Nat) : Int) = e ∧ ((x.nd.sl : Nat) : Int) = s from h)
          rw [hon] at this
          cases this
        by_cases h1 : ((x.en : Nat) : Int) = e
        · have h2 : ¬ ((x.sl : Nat) : Int) = s := fun h2 => hno ⟨h1, h2⟩
          clear hx hne hon c1 c4 c5 c6 hg hno
          go_wp2
          go_roundw
          case rel => exact ⟨k + 1, by omega, Hi, by go_num, trivial⟩
          case measure => simp [intOf]; omega
        · clear hx hne hon c1 c4 c5 c6 hg hno
          go_wp2
          go_roundw
          case rel => exact ⟨k + 1, by omega, Hi, by go_num, trivial⟩
          case measure => simp [intOf]; omega
    · obtain rfl : k = n := by omega
      have HN : Hid ((-1 : Int) = atI M e s) := Lib.hid (by
        have h1 := hkf.out
        have h2 := HD.out.len
        rw [atI, if_neg (by omega)])
      go_wp2
      go_ret
      exact ⟨int_back HN.out, HbW.out⟩
end

/-! Bits. -/
theorem bits_four (a b : Nat) (ha : a < 16) (hb : b < 9223372036854775808) : mayB a b = decide ((∀ j, j < 4 → (b / 2 ^ j) % 2 = 1 → (a / 2 ^ j) % 2 = 1) ∧ b / 16 = 0) := by
  rw [may_nat ha hb]
  congr 1
  rw [eq_iff_iff]
  constructor
  · intro h
    have hle : b ≤ a := by
      have := Nat.and_le_left (n := a) (m := b)
      omega
    refine ⟨fun j hj h1 => ?_, by omega⟩
    have h2 : (a &&& b).testBit j = b.testBit j := by rw [h]
    rw [Nat.testBit_and] at h2
    have h3 : b.testBit j = true := by
      rw [Nat.testBit_eq_decide_div_mod_eq]
      simpa using h1
    rw [h3, Bool.and_true] at h2
    rw [Nat.testBit_eq_decide_div_mod_eq] at h2
    simpa using h2
  · rintro ⟨h1, h2⟩
    have hb16 : b < 16 := by omega
    refine Nat.eq_of_testBit_eq fun j => ?_
    rw [Nat.testBit_and]
    by_cases hj : j < 4
    · cases h3 : b.testBit j with
      | false => simp
      | true =>
        rw [Nat.testBit_eq_decide_div_mod_eq] at h3
        have h4 := h1 j hj (by simpa using h3)
        rw [Bool.and_true, Nat.testBit_eq_decide_div_mod_eq]
        simpa using h4
    · rw [Nat.testBit_lt_two_pow (x := b) (Nat.lt_of_lt_of_le hb16 (by
        calc 16 = 2 ^ 4 := rfl
          _ ≤ 2 ^ j := Nat.pow_le_pow_right (by omega) (by omega)))]
      simp
theorem bit_no {a b j : Nat} (ha : a < 16) (hb : b < 9223372036854775808) (hj : j < 4) (h1 : (b / 2 ^ j) % 2 = 1) (h2 : (a / 2 ^ j) % 2 = 0) : mayB a b = false := by
  rw [bits_four a b ha hb]
  refine decide_eq_false fun h => ?_
  have := h.1 j hj h1
  omega
theorem bits_end {a b : Nat} (ha : a < 16) (hb : b < 9223372036854775808) (h : ∀ j, j < 4 → (b / 2 ^ j) % 2 = 1 → (a / 2 ^ j) % 2 = 1) : decide (b / 2 ^ 4 = 0) = mayB a b := by
  rw [bits_four a b ha hb]
  congr 1
  rw [eq_iff_iff]
  exact ⟨fun h2 => ⟨h, h2⟩, fun h2 => h2.2⟩
set_option maxHeartbeats 1000000 in
theorem rbits_any (a b : Nat) (ha : a < 16) (hb : b < 9223372036854775808) (w : World) : Calls Try.prog 15 #[.int .i64 (a : Nat), .int .i64 (b : Nat)] w fun x w' => x = .returned (.bool (mayB a b)) ∧ w = w' := by
  have Ha := Lib.hid ha
  have Hb := Lib.hid hb
  clear ha
  go_enter Try.func15, Try.ntmps15
  go_wp2_with fail
  go_loopw [0, 1, 5] (fun x y i wr => ∃ k a' b' : Nat, k ≤ 4 ∧ i = .int .i64 k ∧ x = .int .i64 (a' : Nat) ∧ y = .int .i64 (b' : Nat) ∧ a' < 16 ∧ b' < 9223372036854775808 ∧ Hid (a' = a / 2 ^ k ∧ b' = b / 2 ^ k ∧ ∀ j, j < k → (b / 2 ^ j) % 2 = 1 → (a / 2 ^ j) % 2 = 1) ∧ w = wr) (fun _ _ i _ => (4 - intOf i).toNat)
  case atStart => exact ⟨0, a, b, by omega, rfl, rfl, rfl, Ha.out, hb, Lib.hid ⟨by simp, by simp, fun j hj => by omega⟩, rfl⟩
  case round =>
    obtain ⟨k, a', b', hk, rfl, rfl, rfl, ha', hb', HI, rfl⟩ := hrel
    have a0 : (0 : Int) ≤ a' := by omega
    have b0 : (0 : Int) ≤ b' := by omega
    by_cases hlt : k < 4
    · have hk0 : (0 : Int) ≤ k := by omega
      have hk1 : (k : Int) < 4 := by omega
      have Hna : Hid (a' / 2 = a / 2 ^ (k + 1)) := Lib.hid (by rw [HI.out.1, Nat.div_div_eq_div_mul, Nat.pow_succ])
      have Hnb : Hid (b' / 2 = b / 2 ^ (k + 1)) := Lib.hid (by rw [HI.out.2.1, Nat.div_div_eq_div_mul, Nat.pow_succ])
      have HNext : Hid ((b' % 2 = 1 → a' % 2 = 1) → ∃ k2 a2 b2 : Nat, k2 ≤ 4 ∧ Value.int IntKind.i64 ((k : Int) + 1) = .int .i64 (k2 : Nat) ∧ Value.int IntKind.i64 ((a' : Int) / 2) = .int .i64 (a2 : Nat) ∧ Value.int IntKind.i64 ((b' : Int) / 2) = .int .i64 (b2 : Nat) ∧ a2 < 16 ∧ b2 < 9223372036854775808 ∧ Hid (a2 = a / 2 ^ k2 ∧ b2 = b / 2 ^ k2 ∧ ∀ j, j < k2 → (b / 2 ^ j) % 2 = 1 → (a / 2 ^ j) % 2 = 1) ∧ w = w) := Lib.hid fun h => by
        refine ⟨k + 1, a' / 2, b' / 2, by omega, by go_num, by go_num, by go_num, by omega, by omega, Lib.hid ⟨Hna.out, Hnb.out, fun j hj h1 => ?_⟩, rfl⟩
        by_cases hjk : j = k
        · subst hjk
          rw [← HI.out.1]
          rw [← HI.out.2.1] at h1
          exact h h1
        · exact HI.out.2.2 j (by omega) h1
      have HNo : Hid (b' % 2 = 1 → a' % 2 = 0 → mayB a b = false) := Lib.hid fun h1 h2 => bit_no Ha.out Hb.out hlt (by rw [← HI.out.2.1]; exact h1) (by rw [← HI.out.1]; exact h2)
      by_cases h1 : (b' : Int) % 2 = 1
      · by_cases h2 : (a' : Int) % 2 = 0
        · have HN := Lib.hid (HNo.out (by omega) (by omega))
          have h3 : ((a' : Int) % 2 == 0) = true := by simp [h2]
          clear h2
          go_wp2
          go_ret
          exact ⟨bool_back HN.out.symm, rfl⟩
        · have HN := Lib.hid (HNext.out (fun _ => by omega))
          have h3 : ((a' : Int) % 2 == 0) = false := by simp [h2]
          clear h2
          go_wp2
          go_roundw
          case rel =>
            obtain ⟨k2, a2, b2, e1, e2, e3, e4, e5, e6, e7, -⟩ := HN.out
            exact ⟨k2, a2, b2, e1, e2, e3, e4, e5, e6, e7, trivial⟩
          case measure => simp [intOf]; omega
      · have HN := Lib.hid (HNext.out (fun h => by omega))
        go_wp2
        go_roundw
        case rel =>
          obtain ⟨k2, a2, b2, e1, e2, e3, e4, e5, e6, e7, -⟩ := HN.out
          exact ⟨k2, a2, b2, e1, e2, e3, e4, e5, e6, e7, trivial⟩
        case measure => simp [intOf]; omega
    · obtain rfl : k = 4 := by omega
      have HN : Hid (decide ((b' : Int) = 0) = mayB a b) := Lib.hid (by
        rw [← bits_end Ha.out Hb.out HI.out.2.2, ← HI.out.2.1]
        congr 1
        rw [eq_iff_iff]
        omega)
      go_wp2
      go_ret
      exact ⟨bool_back HN.out, rfl⟩

/-! among. -/
set_option maxRecDepth 4000 in
theorem ramong_any {S : Nat → Prop} {w : World} {v : Value} {l : List Nat} (h : OfIs S w v l) (hm : l.length ≤ 1000000) (u : Nat) : Calls Try.prog 50 #[v, .int .i64 (u : Nat)] w fun x w' => x = .returned (.bool (l.contains u)) ∧ w = w' := by
  obtain ⟨A, n, c, rfl, hn, hnc, -, hcell⟩ := h
  have hn6 : n ≤ 1000000 := by omega
  have Hn := Lib.hid hn
  have HC := Lib.hid hcell
  clear hn hcell hm
  go_enter Try.func50, Try.ntmps50
  go_wp2
  go_loopw [5] (fun i wr => ∃ k : Nat, k ≤ n ∧ i = .int .i64 k ∧ Hid (u ∉ l.take k) ∧ w = wr) (fun i _ => (n - intOf i).toNat)
  case atStart => exact ⟨0, Nat.zero_le _, rfl, Lib.hid (by simp), rfl⟩
  case round =>
    obtain ⟨k, hkn, rfl, hv, rfl⟩ := hrel
    by_cases hlt : k < n
    · have hk0 : (0 : Int) ≤ k := by omega
      have hk1 : (k : Int) < n := by omega
      obtain ⟨g, rfl, hg, hcell⟩ := HC.out (by omega)
      obtain ⟨y, hy⟩ : ∃ y, l[k]? = some y := ⟨_, List.getElem?_eq_getElem (by rw [← Hn.out]; exact hlt)⟩
      have hk2 := hcell k y hy
      have hc0 : (0 : Int) ≤ c := by omega
      by_cases hvy : y = u
      · subst hvy
        have HF : Hid (true = l.contains y) := Lib.hid (by
          rw [List.contains_eq_mem, decide_eq_true (List.mem_of_getElem? hy)])
        clear hy hcell
        go_wp2
        go_ret
        exact ⟨bool_back HF.out, rfl⟩
      · have HN : Hid (u ∉ l.take (k + 1)) := Lib.hid (by
          rw [List.take_add_one, hy, List.mem_append, not_or]
          exact ⟨hv.out, by simpa using fun h => hvy h.symm⟩)
        have hne : ¬ ((y : Nat) : Int) = (u : Nat) := by omega
        clear hy hcell hvy
        go_wp2
        go_roundw
        case rel => exact ⟨k + 1, by omega, by go_num, HN, trivial⟩
        case measure => simp [intOf]; omega
    · obtain rfl : k = n := by omega
      have HF : Hid (false = l.contains u) := Lib.hid (by
        have h1 := hv.out
        rw [Hn.out, List.take_length] at h1
        rw [List.contains_eq_mem, decide_eq_false h1])
      go_wp2
      go_ret
      exact ⟨bool_back HF.out, rfl⟩
end Go.Proofs.Ythblldojbgeknaa
