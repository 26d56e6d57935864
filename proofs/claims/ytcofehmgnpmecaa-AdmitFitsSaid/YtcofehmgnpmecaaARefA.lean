/-
  The document's answers: the list in memory; contracts: Used, Find, Pending.
-/
import Derived.Test.YtcofehmgnpmecaaABook
import Derived.IntWalk
namespace Go.Proofs.Ytcofehmgnpmecaa
open Go.ChangeShapes Go.WideShapes Go.ChangeAt Go.RowKit Ap

def ecells (e : En) : List Value := [.int .i64 e.who, .int .u64 e.sh, .bool e.gone, .int .i64 e.till]
def rcells (L : List En) : List Value := L.flatMap ecells
theorem rcells_len (l : List En) : (rcells l).length = l.length * 4 := by
  induction l with
  | nil => rfl
  | cons a l ih => simp only [rcells, ecells, List.flatMap_cons, List.length_append, List.length_cons, List.length_nil] at *; omega
theorem rcells_two (l m : List En) : rcells (l ++ m) = rcells l ++ rcells m := by simp [rcells]
theorem rcells_sole (x : En) : rcells [x] = ecells x := by simp [rcells]
theorem rcells_one (l : List En) : ∀ u ∈ rcells l, u.oneCell' = true := fun u hu => by
  simp only [rcells, ecells, List.mem_flatMap, List.mem_cons, List.not_mem_nil, or_false] at hu
  obtain ⟨t, -, rfl | rfl | rfl | rfl⟩ := hu <;> rfl
theorem rcells_at : ∀ (l : List En) (i : Nat), i < l.length → (rcells l)[i * 4]? = some (.int .i64 (eat l i).who) ∧ (rcells l)[i * 4 + 1]? = some (.int .u64 (eat l i).sh) ∧ (rcells l)[i * 4 + 2]? = some (.bool (eat l i).gone) ∧ (rcells l)[i * 4 + 3]? = some (.int .i64 (eat l i).till)
  | [], i, h => by simp at h
  | a :: l, 0, _ => by simp [rcells, ecells, eat]
  | a :: l, i + 1, h => by
    have := rcells_at l i (by simp at h; omega)
    have e1 : (i + 1) * 4 = i * 4 + 4 := by omega
    rw [e1]
    simpa [rcells, ecells, eat] using this
theorem rcells_mark : ∀ (l : List En) (i : Nat) (v : Int), i < l.length → ((rcells l).set (i * 4 + 2) (.bool true)).set (i * 4 + 3) (.int .i64 v) = rcells (Ap.mark l i v)
  | [], i, v, h => by simp at h
  | a :: l, 0, v, _ => by simp [rcells, ecells, Ap.mark, eat]
  | a :: l, i + 1, v, h => by
    have := rcells_mark l i v (by simp at h; omega)
    have e1 : (i + 1) * 4 = i * 4 + 4 := by omega
    rw [e1]
    simpa [rcells, ecells, Ap.mark, eat] using this

/-- A slice reads as the list; its block is one of S. -/
structure Dc (S : Nat → Prop) (w : World) (A : Option Addr) (n c : Nat) (L : List En) : Prop where
  len : L.length = n
  cap : n ≤ c ∧ c ≤ 9223372036854775807
  nil : A = none → n = 0 ∧ c = 0
  at_ : ∀ a, A = some a → ∃ g, a = ⟨g, 0, none⟩ ∧ S g ∧ ∀ j u, (rcells L)[j]? = some u → w.cell? ⟨g, j, none⟩ = some u
section
variable {S T : Nat → Prop} {w w' : World} {A : Option Addr} {n c : Nat} {L : List En}
theorem Dc.kept (h : Dc S w A n c L) (hb : ∀ k, S k → w'.heap[k]? = w.heap[k]?) (hT : ∀ k, S k → T k) : Dc T w' A n c L :=
  ⟨h.len, h.cap, h.nil, fun a ha => by
    obtain ⟨g, h1, h2, h3⟩ := h.at_ a ha
    exact ⟨g, h1, hT g h2, fun j u hu => (World.cell?_of_block (a := ⟨g, j, none⟩) (hb g h2)).trans (h3 j u hu)⟩⟩
theorem Dc.cells (h : Dc S w A n c L) {k : Nat} (hk : k < n) : ∃ g, A = some ⟨g, 0, none⟩ ∧ S g ∧ w.cell? ⟨g, k * 4, none⟩ = some (.int .i64 (eat L k).who) ∧ w.cell? ⟨g, k * 4 + 1, none⟩ = some (.int .u64 (eat L k).sh) ∧ w.cell? ⟨g, k * 4 + 2, none⟩ = some (.bool (eat L k).gone) ∧ w.cell? ⟨g, k * 4 + 3, none⟩ = some (.int .i64 (eat L k).till) := by
  cases A with
  | none =>
    have := (h.nil rfl).1
    omega
  | some a =>
    obtain ⟨g, rfl, h2, h3⟩ := h.at_ a rfl
    obtain ⟨e0, e1, e2, e3⟩ := rcells_at L k (by rw [h.len]; exact hk)
    exact ⟨g, rfl, h2, h3 _ _ e0, h3 _ _ e1, h3 _ _ e2, h3 _ _ e3⟩
theorem Dc.news (h : Dc S w A n c L) : ∀ ad, A = some ad → ∀ j u, (rcells L)[j]? = some u → w.cell? (ad.add j) = some u := fun ad ha j u hu => by
  obtain ⟨g, rfl, h2, h3⟩ := h.at_ ad ha
  rw [Addr.add_mid, Nat.zero_add]
  exact h3 j u hu
theorem Dc.own {base : Nat} (h : w.ownsRow base 67 4 (.slice A n c) n (rcells L)) : Dc (fun k => base ≤ k ∧ k < w.heap.size) w A n c L := by
  obtain ⟨A', c', hv, h1, h2⟩ := own_shape h
  simp only [Value.slice.injEq, true_and] at hv
  obtain ⟨rfl, rfl⟩ := hv
  have hl := h.1
  rw [rcells_len] at hl
  refine ⟨by omega, ⟨h1, h2⟩, fun e => ?_, fun a ha => ?_⟩
  · subst e
    rcases h.2 with ⟨h3, h4⟩ | ⟨g, cap, cur, h3, _⟩
    · simp only [Value.slice.injEq, true_and] at h3
      exact ⟨h3.1, h3.2⟩
    · simp at h3
  · rcases h.2 with ⟨h3, h4⟩ | ⟨g, cap, cur, h3, _⟩
    · simp only [Value.slice.injEq] at h3
      rw [h3.1] at ha
      cases ha
    · simp only [Value.slice.injEq, true_and] at h3
      obtain ⟨rfl, rfl⟩ := h3
      cases ha
      refine ⟨g, rfl, h.lt g rfl, fun j u hu => ?_⟩
      have hj := (List.getElem?_eq_some_iff.1 hu).1
      rw [rcells_len] at hj
      rw [h.cellAt j (by omega)]
      exact hu
theorem Dc.empty (w : World) : Dc S w none 0 0 [] := ⟨rfl, ⟨Nat.le_refl _, by omega⟩, fun _ => ⟨rfl, rfl⟩, fun a h => by cases h⟩
end
/-- The box of a book, of the document's. -/
def rBox (now : Int) (A : Option Addr) (n c : Nat) : Obj := .cells #[.int .i64 now, .slice A n c] 33 (0, 0)

section
variable {S : Nat → Prop} {w : World} {A : Option Addr} {n c : Nat} {L : List En} {now : Int}
/-- Within a call on a book: its box, the list. -/
theorem in_box (D : Dc S w A n c L) (hS : ∀ k, S k → k < w.heap.size) : ((w.alloc (rBox now A n c)).cell? ⟨w.heap.size, 0, none⟩ = some (.int .i64 now) ∧ (w.alloc (rBox now A n c)).cell? ⟨w.heap.size, 1, none⟩ = some (.slice A n c)) ∧ Dc S (w.alloc (rBox now A n c)) A n c L ∧ Below w.heap.size w (w.alloc (rBox now A n c)) := by
  have hh : (w.alloc (rBox now A n c)).heap[w.heap.size]? = some (rBox now A n c) := heap_alloc_new w _
  exact ⟨⟨(bx_cell (j := 0) hh rfl).1, (bx_cell (j := 1) hh rfl).1⟩, D.kept (fun k hk => Below.heap_alloc _ _ _ (hS k hk)) (fun _ h => h), (Below.refl _ _).alloc (Nat.le_refl _) _⟩

set_option maxHeartbeats 1000000 in
theorem rused_any (D : Dc S w A n c L) (hS : ∀ k, S k → k < w.heap.size) (hn : n ≤ 900000) (hl : Low L) (hu : used L ≤ 4294967296) :
    Calls Try.prog 17 #[.agg #[.int .i64 now, .slice A n c]] w fun e w' => e = .returned (.int .u64 (used L)) ∧ Below w.heap.size w w' := by
  obtain ⟨⟨b0, b1⟩, D1, hb1⟩ := in_box (now := now) D hS
  obtain ⟨W, hW⟩ : ∃ W, w.alloc (rBox now A n c) = W := ⟨_, rfl⟩
  rw [hW] at b0 b1 D1 hb1
  have HD := Lib.hid D1
  have HB := Lib.hid hb1
  have HW := Lib.hid hW
  have Hlen := Lib.hid D.len
  have HT : Hid (∀ k, 0 ≤ used (L.take k) ∧ used (L.take k) ≤ used L) := Lib.hid (used_take hl)
  have HSt : Hid (∀ k, k < n → used (L.take (k + 1)) = used (L.take k) + (eat L k).sh) := Lib.hid fun k hk => used_step (by rw [D.len]; exact hk)
  have HAll : Hid (used (L.take n) = used L) := Lib.hid (by rw [← D.len, List.take_length])
  have hn1 : (n : Int) ≤ 900000 := by omega
  clear D D1 hb1 hW hl
  unfold rBox at HW
  go_enter Try.func17, Try.ntmps17
  go_wp2_with fail
  rw [HW.out]
  go_loopw [3, 4] (fun s i wr => ∃ k : Nat, k ≤ n ∧ i = .int .i64 k ∧ s = .int .u64 (used (L.take k)) ∧ W = wr) (fun _ i _ => n - (intOf i).toNat)
  case atStart => exact ⟨0, by omega, rfl, by simp [used], rfl⟩
  case round =>
    obtain ⟨k, hk, rfl, rfl, rfl⟩ := hrel
    by_cases hlt : k < n
    · obtain ⟨g, rfl, -, -, c1, -, -⟩ := HD.out.cells hlt
      have h1 := HT.out k
      have h2 := HT.out (k + 1)
      have h3 := HSt.out k hlt
      have hw : IntKind.u64.wrap (used (L.take k) + (eat L k).sh) = used (L.take (k + 1)) := by rw [h3]; exact IntWalk.u64_in _ (by omega)
      have hki : (k : Int) < n := by omega
      have hk0 : (0 : Int) ≤ k := by omega
      clear h1 h2 h3
      generalize used (L.take k) = s0 at *
      obtain ⟨s1, hs1⟩ : ∃ s1, used (L.take (k + 1)) = s1 := ⟨_, rfl⟩
      rw [hs1] at hw
      have Hs1 := Lib.hid hs1
      clear hs1
      go_wp2
      go_roundw
      case rel => exact ⟨k + 1, by omega, by go_num, by rw [Hs1.out], trivial⟩
      case measure => simp [intOf]; omega
    · obtain rfl : k = n := by omega
      rw [HAll.out]
      go_wp2
      go_ret
      exact ⟨rfl, HB.out⟩

set_option maxHeartbeats 1000000 in
theorem rpend_any (D : Dc S w A n c L) (hS : ∀ k, S k → k < w.heap.size) (hn : n ≤ 900000) :
    Calls Try.prog 21 #[.agg #[.int .i64 now, .slice A n c]] w fun e w' => e = .returned (.int .i64 (pend L)) ∧ Below w.heap.size w w' := by
  obtain ⟨⟨b0, b1⟩, D1, hb1⟩ := in_box (now := now) D hS
  obtain ⟨W, hW⟩ : ∃ W, w.alloc (rBox now A n c) = W := ⟨_, rfl⟩
  rw [hW] at b0 b1 D1 hb1
  have HD := Lib.hid D1
  have HB := Lib.hid hb1
  have HW := Lib.hid hW
  have HSt : Hid (∀ k, k < n → pend (L.take (k + 1)) = pend (L.take k) + (if (eat L k).gone = true then 1 else 0)) := Lib.hid fun k hk => pend_step (by rw [D.len]; exact hk)
  have HAll : Hid (pend (L.take n) = pend L) := Lib.hid (by rw [← D.len, List.take_length])
  have HLe : Hid (∀ k, k ≤ n → pend (L.take k) ≤ k) := Lib.hid fun k hk => Nat.le_trans (pend_le _) (by rw [List.length_take]; exact Nat.min_le_left _ _)
  have hn1 : (n : Int) ≤ 900000 := by omega
  clear D D1 hb1 hW
  unfold rBox at HW
  go_enter Try.func21, Try.ntmps21
  go_wp2_with fail
  rw [HW.out]
  go_loopw [3, 4] (fun s i wr => ∃ k : Nat, k ≤ n ∧ i = .int .i64 k ∧ s = .int .i64 (pend (L.take k) : Nat) ∧ W = wr) (fun _ i _ => n - (intOf i).toNat)
  case atStart => exact ⟨0, by omega, rfl, by simp [pend], rfl⟩
  case round =>
    obtain ⟨k, hk, rfl, rfl, rfl⟩ := hrel
    by_cases hlt : k < n
    · obtain ⟨g, rfl, -, -, -, c2, -⟩ := HD.out.cells hlt
      have h3 := HSt.out k hlt
      have h4 := HLe.out k hk
      have hki : (k : Int) < n := by omega
      have hk0 : (0 : Int) ≤ k := by omega
      generalize pend (L.take k) = s0 at *
      obtain ⟨s1, hs1'⟩ : ∃ s1, pend (L.take (k + 1)) = s1 := ⟨_, rfl⟩
      rw [hs1'] at h3
      have Hs1 := Lib.hid hs1'
      clear hs1'
      have hs0 : (0 : Int) ≤ s0 := by omega
      have hs1 : (s0 : Int) ≤ 900000 := by omega
      cases hg : (eat L k).gone with
      | true =>
        rw [hg] at c2 h3
        have h5 : (s0 : Int) + 1 = s1 := by rw [if_pos rfl] at h3; omega
        clear h3 h4
        go_wp2
        go_roundw
        case rel => exact ⟨k + 1, by omega, by go_num, by rw [Hs1.out], trivial⟩
        case measure => simp [intOf]; omega
      | false =>
        rw [hg] at c2 h3
        rw [if_neg (by simp)] at h3
        obtain rfl : s1 = s0 := by omega
        clear h3 h4
        go_wp2
        go_roundw
        case rel => exact ⟨k + 1, by omega, by go_num, by rw [Hs1.out], trivial⟩
        case measure => simp [intOf]; omega
    · obtain rfl : k = n := by omega
      rw [HAll.out]
      go_wp2
      go_ret
      exact ⟨rfl, HB.out⟩

set_option maxHeartbeats 1000000 in
theorem rfind_any (D : Dc S w A n c L) (hS : ∀ k, S k → k < w.heap.size) (hn : n ≤ 900000) (q : Int) :
    Calls Try.prog 19 #[.agg #[.int .i64 now, .slice A n c], .int .i64 q] w fun e w' => e = .returned (.int .i64 (findV L q)) ∧ Below w.heap.size w w' := by
  obtain ⟨⟨b0, b1⟩, D1, hb1⟩ := in_box (now := now) D hS
  obtain ⟨W, hW⟩ : ∃ W, w.alloc (rBox now A n c) = W := ⟨_, rfl⟩
  rw [hW] at b0 b1 D1 hb1
  have HD := Lib.hid D1
  have HB := Lib.hid hb1
  have HW := Lib.hid hW
  have Hlen := Lib.hid D.len
  have hn1 : (n : Int) ≤ 900000 := by omega
  clear D D1 hb1 hW
  unfold rBox at HW
  go_enter Try.func19, Try.ntmps19
  go_wp2_with fail
  rw [HW.out]
  go_loopw [5] (fun i wr => ∃ k : Nat, k ≤ n ∧ i = .int .i64 k ∧ Hid (∀ j, j < k → (eat L j).is q = false) ∧ W = wr) (fun i _ => n - (intOf i).toNat)
  case atStart => exact ⟨0, by omega, rfl, Lib.hid (fun j hj => by omega), rfl⟩
  case round =>
    obtain ⟨k, hk, rfl, Hno, rfl⟩ := hrel
    by_cases hlt : k < n
    · obtain ⟨g, rfl, -, c0, -, c2, -⟩ := HD.out.cells hlt
      have hki : (k : Int) < n := by omega
      have hk0 : (0 : Int) ≤ k := by omega
      have Hnext : Hid ((eat L k).is q = false → ∀ j, j < k + 1 → (eat L j).is q = false) := Lib.hid fun h j hj => by
        by_cases hj2 : j < k
        · exact Hno.out j hj2
        · obtain rfl : j = k := by omega
          exact h
      have Hhit : Hid ((eat L k).is q = true → findV L q = (k : Nat)) := Lib.hid fun h => findV_some (findO_hit (by rw [Hlen.out]; exact hlt) Hno.out h)
      unfold En.is at Hnext Hhit
      generalize (eat L k).who = x at *
      by_cases hx : x = q
      · subst hx
        cases hg : (eat L k).gone with
        | false =>
          have hf := Lib.hid (Hhit.out (by simp [hg]))
          rw [hg] at c2
          clear Hnext Hhit
          go_wp2
          go_ret
          exact ⟨int_back hf.out.symm, HB.out⟩
        | true =>
          have hf := Lib.hid (Hnext.out (by simp [hg]))
          rw [hg] at c2
          clear Hnext Hhit
          go_wp2
          go_roundw
          case rel => exact ⟨k + 1, by omega, by go_num, hf, trivial⟩
          case measure => simp [intOf]; omega
      · have hf := Lib.hid (Hnext.out (by simp [hx]))
        have hxb : (x == q) = false := by simpa using hx
        clear Hnext Hhit
        go_wp2
        go_roundw
        case rel => exact ⟨k + 1, by omega, by go_num, hf, trivial⟩
        case measure => simp [intOf]; omega
    · obtain rfl : k = n := by omega
      have hf : Hid (-1 = findV L q) := Lib.hid (findV_none (findO_miss fun j hj => Hno.out j (by rw [← Hlen.out]; exact hj))).symm
      go_wp2
      go_ret
      exact ⟨int_back hf.out, HB.out⟩
end
end Go.Proofs.Ytcofehmgnpmecaa
