/-
  Slices told by their cells; rows of numbers and of reservations: appended to, read. The contract of fits.
-/
import Derived.Test.YtcofehmgnpmecaaAFMath
import Derived.Test.YtcofehmgnpmecaaAWalksE
import Derived.Test.YtcofehmgnpmecaaInts
namespace Go.Proofs.Ytcofehmgnpmecaa
open Go.ChangeShapes Go.WideShapes Go.ChangeAt Go.RowKit Ap

/-- A slice at A holds these cells; its block is one of S. -/
structure Seg (S : Nat → Prop) (w : World) (A : Option Addr) (cs : List Value) : Prop where
  at_ : 0 < cs.length → ∃ b o, A = some ⟨b, o, none⟩ ∧ S b ∧ ∀ j u, cs[j]? = some u → w.cell? ⟨b, o + j, none⟩ = some u
section
variable {S T : Nat → Prop} {w w' : World} {A : Option Addr} {cs : List Value} {b o k n c size base : Nat} {e : TypeId}
theorem Seg.kept (h : Seg S w A cs) (hb : ∀ k, S k → w'.heap[k]? = w.heap[k]?) : Seg S w' A cs := ⟨fun hn => by
  obtain ⟨b, o, e, hB, hc⟩ := h.at_ hn
  exact ⟨b, o, e, hB, fun j u hu => (World.cell?_of_block (a := ⟨b, _, none⟩) (hb b hB)).trans (hc j u hu)⟩⟩
theorem Seg.mono (h : Seg S w A cs) (hT : ∀ k, S k → T k) : Seg T w A cs := ⟨fun hn => by
  obtain ⟨b, o, e, hB, hc⟩ := h.at_ hn
  exact ⟨b, o, e, hT b hB, hc⟩⟩
theorem Seg.own (h : w.ownsRow base e size (.slice A n c) n cs) : Seg (fun k => (Value.slice A n c).ownBlock = some k) w A cs := ⟨fun hn => by
  rcases h.2 with ⟨hv, h0⟩ | ⟨g, cap, cur, hv, _, hg, _⟩
  · have := h.1
    rw [h0, Nat.zero_mul] at this
    omega
  · simp only [Value.slice.injEq, true_and] at hv
    obtain ⟨rfl, rfl⟩ := hv
    refine ⟨g, 0, rfl, rfl, fun j u hu => ?_⟩
    have hj := (List.getElem?_eq_some_iff.1 hu).1
    rw [Nat.zero_add, h.cellAt j (by rw [← h.1]; exact hj)]
    exact hu⟩
theorem Seg.news (h : Seg S w A cs) : ∀ ad, A = some ad → ∀ j u, cs[j]? = some u → w.cell? (ad.add j) = some u := fun ad e j u hu => by
  have hj := (List.getElem?_eq_some_iff.1 hu).1
  obtain ⟨b, o, e2, -, hc⟩ := h.at_ (by omega)
  rw [e2] at e
  cases e
  rw [Addr.add_mid]
  exact hc j u hu
theorem Seg.head (h : Seg S w A cs) (k : Nat) : Seg S w A (cs.take k) := ⟨fun hn => by
  rw [List.length_take] at hn
  obtain ⟨b, o, e, hB, hc⟩ := h.at_ (by omega)
  refine ⟨b, o, e, hB, fun j u hu => hc j u ?_⟩
  rw [List.getElem?_take] at hu
  split at hu
  · exact hu
  · cases hu⟩
theorem Seg.part (h : Seg S w (some ⟨b, o, none⟩) cs) (k : Nat) : Seg S w (some ⟨b, o + k, none⟩) (cs.drop k) := ⟨fun hn => by
  rw [List.length_drop] at hn
  obtain ⟨b', o', e, hB, hc⟩ := h.at_ (by omega)
  cases e
  refine ⟨b, o + k, rfl, hB, fun j u hu => ?_⟩
  rw [List.getElem?_drop] at hu
  rw [show o + k + j = o + (k + j) by omega]
  exact hc _ u hu⟩
theorem Seg.nil : Seg S w A [] := ⟨fun hn => by simp at hn⟩
end

def wcells (Z : List Hv) : List Value := Z.map fun z => .int .i64 z.1
def hcells (Z : List Hv) : List Value := Z.flatMap fun z => [.int .i64 z.2.1, .int .i64 z.2.2]
theorem wcells_len (Z : List Hv) : (wcells Z).length = Z.length := by simp [wcells]
theorem hcells_len (Z : List Hv) : (hcells Z).length = Z.length * 2 := by
  induction Z with
  | nil => rfl
  | cons a l ih => simp only [hcells, List.flatMap_cons, List.length_append, List.length_cons, List.length_nil] at *; omega
theorem wcells_two (Y Z : List Hv) : wcells (Y ++ Z) = wcells Y ++ wcells Z := by simp [wcells]
theorem hcells_two (Y Z : List Hv) : hcells (Y ++ Z) = hcells Y ++ hcells Z := by simp [hcells]
theorem wcells_one (Z : List Hv) : ∀ u ∈ wcells Z, u.oneCell' = true := fun u hu => by
  simp only [wcells, List.mem_map] at hu
  obtain ⟨t, -, rfl⟩ := hu
  rfl
theorem hcells_one (Z : List Hv) : ∀ u ∈ hcells Z, u.oneCell' = true := fun u hu => by
  simp only [hcells, List.mem_flatMap, List.mem_cons, List.not_mem_nil, or_false] at hu
  obtain ⟨t, -, rfl | rfl⟩ := hu <;> rfl
theorem wcells_take (Z : List Hv) (k : Nat) : (wcells Z).take k = wcells (Z.take k) := by simp [wcells]
theorem wcells_drop (Z : List Hv) (k : Nat) : (wcells Z).drop k = wcells (Z.drop k) := by simp [wcells]
theorem hcells_take (Z : List Hv) : ∀ k, (hcells Z).take (k * 2) = hcells (Z.take k) := by
  induction Z with
  | nil => simp [hcells]
  | cons a l ih =>
    intro k
    cases k with
    | zero => simp [hcells]
    | succ k =>
      have := ih k
      have e1 : (k + 1) * 2 = k * 2 + 2 := by omega
      rw [e1]
      simpa [hcells] using this
theorem hcells_drop (Z : List Hv) : ∀ k, (hcells Z).drop (k * 2) = hcells (Z.drop k) := by
  induction Z with
  | nil => simp [hcells]
  | cons a l ih =>
    intro k
    cases k with
    | zero => simp [hcells]
    | succ k =>
      have := ih k
      have e1 : (k + 1) * 2 = k * 2 + 2 := by omega
      rw [e1]
      simpa [hcells] using this
theorem wcells_at {Z : List Hv} {k : Nat} (h : k < Z.length) : (wcells Z)[k]? = some (.int .i64 (hat Z k).1) := by
  rw [wcells, List.getElem?_map, hat_some h]
  rfl
theorem hcells_at : ∀ (Z : List Hv) (k : Nat), k < Z.length → (hcells Z)[k * 2]? = some (.int .i64 (hat Z k).2.1) ∧ (hcells Z)[k * 2 + 1]? = some (.int .i64 (hat Z k).2.2)
  | [], i, h => by simp at h
  | a :: l, 0, _ => by simp [hcells, hat]
  | a :: l, i + 1, h => by
    have := hcells_at l i (by simp at h; omega)
    have e1 : (i + 1) * 2 = i * 2 + 2 := by omega
    rw [e1]
    simpa [hcells, hat] using this

theorem info_res : (Try.prog.info? 35).map (fun i => (i.zero, i.size, i.bytes)) = some (some (.agg #[.int .i64 0, .int .i64 0]), 2, 16) := by kernel_rfl
/-- append of numbers, of reservations onto rows of the call's own, at a step of a region that draws its order. -/
theorem step_who (w : World) {ops : Array Oper} {o : Oper} {a : Act} {K : Act → World → Prop} {Q : Exit → Act → World → Prop} {F : Prop} (hgd : o.guard = none) (s x : Operand)
    (ho : o.op = .call { callee := .builtin .append, args := #[s, x], argTypes := #[58, 58] })
    (base : Nat) (v : Value) (n : Nat) (Z : List Hv) (hs : a.eval s = v) (hown : w.ownsRow base 3 1 v n (wcells Z))
    (ao : Option Addr) (m c : Nat) (Y : List Hv) (hx : a.eval x = .slice ao m c) (hY : Y.length = m) (hnil : ao = none → m = 0 ∧ c = 0) {S : Nat → Prop} (hr : Seg S w ao (wcells Y)) (N : Nat) (hN : n + m = N) (hm : N ≤ 1000000) (hbase : base ≤ w.heap.size)
    (h : ∀ A cap w', w'.ownsRow base 3 1 (.slice A N cap) N (wcells (Z ++ Y)) → w.grownBy w' v.ownBlock → ((Value.slice A N cap).ownBlock = v.ownBlock ∨ (Value.slice A N cap).ownBlock = some w.heap.size) → K (a.put o.dst (.slice A N cap)) w') :
    if Region.wanted o (yielded ops a.tmps) = true then Oper.wp Try.prog o a w K Q else F := by
  subst hN
  obtain ⟨i0, hi, hz0, hz1, hz2⟩ := info_parts info_int
  refine step_append_all w hgd s x 58 ho base 3 i0 (.int .i64 0) 1 8 Try.underlying58 hi hz0 hz1 hz2 rfl (by decide) v n (wcells Z) hs hown ao m c (wcells Y) hx hnil (by rw [wcells_len, hY, Nat.mul_one]) hr.news (wcells_one Y) (by unfold maxLen; omega) (by omega) hbase w.heap.size rfl ?_
  intro A cap w' h1 h2 h3
  refine h A cap w' ?_ h2 h3
  rw [wcells_two]
  exact h1
theorem step_have (w : World) {ops : Array Oper} {o : Oper} {a : Act} {K : Act → World → Prop} {Q : Exit → Act → World → Prop} {F : Prop} (hgd : o.guard = none) (s x : Operand)
    (ho : o.op = .call { callee := .builtin .append, args := #[s, x], argTypes := #[59, 59] })
    (base : Nat) (v : Value) (n : Nat) (Z : List Hv) (hs : a.eval s = v) (hown : w.ownsRow base 35 2 v n (hcells Z))
    (ao : Option Addr) (m c : Nat) (Y : List Hv) (hx : a.eval x = .slice ao m c) (hY : Y.length = m) (hnil : ao = none → m = 0 ∧ c = 0) {S : Nat → Prop} (hr : Seg S w ao (hcells Y)) (N : Nat) (hN : n + m = N) (hm : N ≤ 1000000) (hbase : base ≤ w.heap.size)
    (h : ∀ A cap w', w'.ownsRow base 35 2 (.slice A N cap) N (hcells (Z ++ Y)) → w.grownBy w' v.ownBlock → ((Value.slice A N cap).ownBlock = v.ownBlock ∨ (Value.slice A N cap).ownBlock = some w.heap.size) → K (a.put o.dst (.slice A N cap)) w') :
    if Region.wanted o (yielded ops a.tmps) = true then Oper.wp Try.prog o a w K Q else F := by
  subst hN
  obtain ⟨i0, hi, hz0, hz1, hz2⟩ := info_parts info_res
  refine step_append_all w hgd s x 59 ho base 35 i0 _ 2 16 Try.underlying59 hi hz0 hz1 hz2 rfl (by decide) v n (hcells Z) hs hown ao m c (hcells Y) hx hnil (by rw [hcells_len, hY]) hr.news (hcells_one Y) (by unfold maxLen; omega) (by omega) hbase w.heap.size rfl ?_
  intro A cap w' h1 h2 h3
  refine h A cap w' ?_ h2 h3
  rw [hcells_two]
  exact h1

/-! fits. -/
set_option maxHeartbeats 1000000 in
theorem fits_any {S : Nat → Prop} {w : World} {A : Option Addr} {n c : Nat} {Z : List Hv} (h : Seg S w A (hcells Z)) (hS : ∀ k, S k → k < w.heap.size) (hn : Z.length = n) (hm : n ≤ 900000) (hr : ∀ z, z ∈ Z → rightB z.2.1 z.2.2 = true) (hsum : hsum Z ≤ 4294967296) :
    Calls Try.prog 22 #[.slice A n c] w fun e w' => e = .returned (.bool true) ∧ Below w.heap.size w w' := by
  have HSeg := Lib.hid h
  have HS := Lib.hid hS
  have Hn := Lib.hid hn
  have HR := Lib.hid hr
  have HT : Hid (∀ k, 0 ≤ Ap.hsum (Z.take k) ∧ Ap.hsum (Z.take k) ≤ Ap.hsum Z) := Lib.hid (hsum_low hr)
  have HAll : Hid (Ap.hsum (Z.take n) = Ap.hsum Z) := Lib.hid (by rw [← hn, List.take_length])
  have hn1 : (n : Int) ≤ 900000 := by omega
  clear h hS hn hr
  go_enter Try.func22, Try.ntmps22
  go_wp2_with fail
  go_loopw [3, 4] (fun s i wr => ∃ k : Nat, k ≤ n ∧ i = .int .i64 k ∧ s = .int .u64 (Ap.hsum (Z.take k)) ∧ Hid (Below w.heap.size w wr)) (fun _ i _ => n - (intOf i).toNat)
  case atStart => exact ⟨0, by omega, rfl, by simp [Ap.hsum], Lib.hid (Below.refl _ _)⟩
  case round =>
    obtain ⟨k, hk, rfl, rfl, HB⟩ := hrel
    by_cases hlt : k < n
    · obtain ⟨g, o, rfl, hSg, hc⟩ := HSeg.out.at_ (by rw [hcells_len, Hn.out]; omega)
      have hgl := HS.out g hSg
      have hki : (k : Int) < n := by omega
      have hk0 : (0 : Int) ≤ k := by omega
      obtain ⟨u0, u1⟩ := hcells_at Z k (by rw [Hn.out]; exact hlt)
      have HC : Hid (∀ w', Below w.heap.size w w' → w'.cell? ⟨g, o + k * 2, none⟩ = some (.int .i64 (hat Z k).2.1) ∧ w'.cell? ⟨g, o + k * 2 + 1, none⟩ = some (.int .i64 (hat Z k).2.2)) := Lib.hid fun w' hb => by
        have he := (old_cells hb).1
        exact ⟨(he g _ hgl).trans (hc _ _ u0), (he g _ hgl).trans (hc _ _ u1)⟩
      have hrk := HR.out (hat Z k) (List.mem_of_getElem? (hat_some (by rw [Hn.out]; exact hlt)))
      have CR : Hid (∀ w : World, _) := Lib.hid (arright_any (hat Z k).2.1 (hat Z k).2.2)
      rw [hrk] at CR
      have CS : Hid (∀ w : World, _) := Lib.hid fun w => rshare_any (hat Z k).2.1 (hat Z k).2.2 w hrk
      have h1 := HT.out k
      have h2 := HT.out (k + 1)
      have h3 := hsum_step (Z := Z) (k := k) (by rw [Hn.out]; exact hlt)
      have hw : IntKind.u64.wrap (Ap.hsum (Z.take k) + shr (hat Z k).2.1 (hat Z k).2.2) = Ap.hsum (Z.take (k + 1)) := by rw [h3]; exact IntWalk.u64_in _ (by omega)
      obtain ⟨d0, d1⟩ := HC.out wr HB.out
      obtain ⟨s1, hs1⟩ : ∃ s1, Ap.hsum (Z.take (k + 1)) = s1 := ⟨_, rfl⟩
      rw [hs1] at hw
      have Hs1 := Lib.hid hs1
      clear h1 h2 h3 hs1 hrk u0 u1 hc
      generalize shr (hat Z k).2.1 (hat Z k).2.2 = sh at *
      generalize (hat Z k).2.1 = x at *
      generalize (hat Z k).2.2 = y at *
      generalize Ap.hsum (Z.take k) = s0 at *
      go_wp2_with fail
      refine (CR.out wr).mono ?_
      rintro e w1 ⟨rfl, hb1⟩
      have HB1 := Lib.hid (below_call (Nat.le_refl _) HB.out hb1)
      clear hb1 d0 d1
      obtain ⟨d0, d1⟩ := HC.out w1 HB1.out
      go_wp2_with fail
      refine (CS.out w1).mono ?_
      rintro e w2 ⟨rfl, hb2⟩
      have HB2 := Lib.hid (below_call (Nat.le_refl _) HB1.out hb2)
      clear hb2 d0 d1
      go_wp2
      go_roundw
      case rel => exact ⟨k + 1, by omega, by go_num, by rw [Hs1.out], HB2⟩
      case measure => simp [intOf]; omega
    · obtain rfl : k = n := by omega
      rw [HAll.out]
      have hle := hsum
      generalize Ap.hsum Z = s at *
      go_wp2
      go_ret
      exact ⟨bool_back (by simp), HB.out⟩
end Go.Proofs.Ytcofehmgnpmecaa
