/-
  Contracts: what was given back on its way up; on its way down (after heap's HWalksC).
-/
import Derived.Test.YtcofehmgnpmecaaAWalksA
namespace Go.Proofs.Ytcofehmgnpmecaa
open Go.ChangeShapes Go.WideShapes Go.ChangeAt Go.RowKit Ap

/-- A pile that was brought in order: those below m. -/
def Sifted (B g n c m : Nat) (xs : List Gv) (w w' : World) : Prop := ∃ ys, ys.Perm xs ∧ QIs w' B g n c ys ∧ Heap m ys ∧ Only (· = g) w w'

/-- .. those from m on as they stood. -/
def SiftedTo (B g n c m : Nat) (xs : List Gv) (w w' : World) : Prop := ∃ ys, ys.Perm xs ∧ (∀ q, m ≤ q → at_ ys q = at_ xs q) ∧ QIs w' B g n c ys ∧ Heap m ys ∧ Only (· = g) w w'

theorem up_zero (h : Nat) (w : World) : Calls Try.prog 28 #[.iface 63 (.pointer (some ⟨h, 1, none⟩)), .int .i64 0] w fun e w' => e = .returned (.tuple #[]) ∧ w = w' := by
  go_enter Try.func28, Try.ntmps28
  go_wp2
  refine wp_loop_rounds 1 ?_
  rw [rounds_succ]
  go_wp2
  go_end0
  exact ⟨rfl, rfl⟩

set_option maxHeartbeats 1000000 in
theorem up_any {w : World} {B g n c h j : Nat} {xs : List Gv} (hp : QIs w B g n c xs) (hm : n ≤ 1000000) (hj : j < n) (hu : Up n j xs)
    (hv : w.cell? ⟨h, 1, none⟩ = some (.slice (some ⟨g, 0, none⟩) n c)) (hlt : h < w.heap.size) (hoff : h ≠ g) :
    Calls Try.prog 28 #[.iface 63 (.pointer (some ⟨h, 1, none⟩)), .int .i64 j] w fun e w' => e = .returned (.tuple #[]) ∧ Sifted B g n c n xs w w' := by
  have Hn := Lib.hid hp.len
  have HV := Lib.hid hv
  clear hv
  go_enter Try.func28, Try.ntmps28
  go_wp2
  go_loopw [1] (fun j wr => ∃ (k : Nat) (ys : List Gv), k < n ∧ j = .int .i64 k ∧ Hid (ys.Perm xs) ∧ Hid (QIs wr B g n c ys) ∧ Hid (Up n k ys) ∧ Hid (Only (· = g) w wr)) (fun j _ => (intOf j).toNat)
  case atStart => exact ⟨j, xs, hj, rfl, List.Perm.refl _, hp, hu, Only.refl _ _⟩
  case round =>
    clear hp hu hj
    obtain ⟨k, ys, hk, rfl, Hperm, Hpile, Hup, Hon⟩ := hrel
    have hcell := Lib.hid ((Hon.out.cell hlt hoff 1).trans HV.out)
    by_cases h0 : k = 0
    · subst h0
      go_wp2
      go_end0
      exact ⟨rfl, ys, Hperm.out, Hpile.out, up_top Hup.out, Hon.out⟩
    · obtain ⟨p, hpe⟩ : ∃ p, (k - 1) / 2 = p := ⟨_, rfl⟩
      have hk0 : (1 : Int) ≤ k := by omega
      have hpi : ((k : Int) - 1) / 2 = p := by omega
      have hpk : p < k := by omega
      have hpn : p < n := by omega
      have hpb : ((p : Int) == k) = false := by simp; omega
      have hyn := Lib.hid (Hperm.out.length_eq.trans Hn.out)
      have HE := Lib.hid hpe
      clear hpe
      have m1 := method_less h _ wr hcell.out
      have n1 := nil_less h wr
      have hne : p ≠ k := by omega
      have hltr := Nat.lt_of_lt_of_le hlt Hon.out.size
      by_cases hld : lead (at_ ys k) (at_ ys p) = true
      · have Hup2 : Hid (Up n p (swp ys p k)) := by
          have := up_step Hup.out (by rw [hyn.out]; exact Nat.le_refl _) (by omega) hk (by rw [HE.out]; exact hld)
          rwa [HE.out] at this
        have Hperm2 : Hid ((swp ys p k).Perm xs) := (swp_perm (by rw [hyn.out]; exact hpn) (by rw [hyn.out]; exact hk)).trans Hperm.out
        go_wp2_with (first
          | (go_at_call 47; refine (less_any Hpile.out hm hk hpn).mono ?_; rintro e w1 ⟨rfl, hb⟩; have Hp1 := Lib.hid (Hpile.out.below hb); have Ho1 := Lib.hid (Hon.out.trans (Only.of_below (S := fun _ => False) hb) (fun _ hf => hf.elim)); have m2 := method_swap h _ w1 (((old_cells hb).1 h 1 hltr).trans hcell.out); have n2 := nil_swap h w1; clear hb)
          | (go_at_call 48; refine (swap_any Hp1.out hm hpn hk).mono ?_; rintro e w2 ⟨rfl, hp2, ho2⟩; have Hp2 := Lib.hid hp2; have Ho2 := Lib.hid (Ho1.out.trans ho2 (fun _ hi => Or.inl hi)); clear hp2 ho2))
        go_roundw
        case rel => exact ⟨p, swp ys p k, hpn, rfl, Hperm2, Hp2, Hup2, Ho2⟩
        case measure => simp [intOf]; omega
      · have hld2 : lead (at_ ys k) (at_ ys p) = false := by simpa using hld
        have Hheap : Hid (Heap n ys) := up_end Hup.out (by rw [HE.out]; exact hld2)
        clear hld
        go_wp2_with (first
          | (go_at_call 47; refine (less_any Hpile.out hm hk hpn).mono ?_; rintro e w1 ⟨rfl, hb⟩; have Hp1 := Lib.hid (Hpile.out.below hb); have Ho1 := Lib.hid (Hon.out.trans (Only.of_below (S := fun _ => False) hb) (fun _ hf => hf.elim)); clear hb))
        go_end0
        exact ⟨rfl, ys, Hperm.out, Hp1.out, Hheap.out, Ho1.out⟩

/-- Down: something is told, and the pile is in order. -/
def Sunk (B g n c m : Nat) (xs : List Gv) (w : World) (e : Ending) (w' : World) : Prop := (∃ r, e = .returned (.bool r)) ∧ SiftedTo B g n c m xs w w'

set_option maxHeartbeats 4000000 in
theorem down_any {w : World} {B g n c h m : Nat} {xs : List Gv} (hp : QIs w B g n c xs) (hm : n ≤ 1000000) (hmn : m < n) (hd : Down m 0 xs)
    (hv : w.cell? ⟨h, 1, none⟩ = some (.slice (some ⟨g, 0, none⟩) n c)) (hlt : h < w.heap.size) (hoff : h ≠ g) :
    Calls Try.prog 29 #[.iface 63 (.pointer (some ⟨h, 1, none⟩)), .int .i64 0, .int .i64 m] w (Sunk B g n c m xs w) := by
  have Hn := Lib.hid hp.len
  have HV := Lib.hid hv
  clear hv
  go_enter Try.func29, Try.ntmps29
  go_wp2
  go_loopw [7] (fun i wr => ∃ (k : Nat) (ys : List Gv), k < n ∧ i = .int .i64 k ∧ Hid (ys.Perm xs) ∧ Hid (∀ q, m ≤ q → at_ ys q = at_ xs q) ∧ Hid (QIs wr B g n c ys) ∧ Hid (Down m k ys) ∧ Hid (Only (· = g) w wr)) (fun i _ => n - (intOf i).toNat)
  case atStart => exact ⟨0, xs, by omega, rfl, List.Perm.refl _, (fun _ _ => rfl : ∀ q, m ≤ q → at_ xs q = at_ xs q), hp, hd, Only.refl _ _⟩
  case round =>
    clear hp hd
    obtain ⟨k, ys, hkn, rfl, Hperm, Hsame, Hpile, Hdown, Hon⟩ := hrel
    have hcell := Lib.hid ((Hon.out.cell hlt hoff 1).trans HV.out)
    have hltr := Nat.lt_of_lt_of_le hlt Hon.out.size
    have hyn := Lib.hid (Hperm.out.length_eq.trans Hn.out)
    have hk0 : (0 : Int) ≤ k := by omega
    have hk1 : (k : Int) ≤ 1000000 := by omega
    by_cases h0 : m ≤ 2 * k + 1
    · have Hh := Lib.hid (down_leaf Hdown.out h0)
      have h0i : (m : Int) ≤ 2 * k + 1 := by omega
      go_wp2
      refine bodyPost_ret (v := .bool (decide ((0 : Int) < k))) ?_ rfl ?_
      · simp [results, Try.results29, go_sem]
      · exact ⟨⟨_, rfl⟩, ys, Hperm.out, Hsame.out, Hpile.out, Hh.out, Hon.out⟩
    · obtain ⟨a, ha⟩ : ∃ a, a = 2 * k + 1 := ⟨_, rfl⟩
      obtain ⟨b, hb⟩ : ∃ b, b = a + 1 := ⟨_, rfl⟩
      have hai : 2 * (k : Int) + 1 = a := by omega
      have hbi : (a : Int) + 1 = b := by omega
      have ham : a < m := by omega
      have han : a < n := by omega
      have hka : k ≠ a := by omega
      have hkb : k ≠ b := by omega
      have ha0 : ¬ (a : Int) < 0 := by omega
      have ham1 : ¬ (m : Int) ≤ a := by omega
      have HA := Lib.hid ha
      have HBb := Lib.hid hb
      clear h0
      have m1 := method_less h _ wr hcell.out
      have n1 := nil_less h wr
      by_cases hbm : b < m
      · have hbn : b < n := by omega
        have hbm1 : (b : Int) < m := by omega
        clear ha hb
        by_cases hba : lead (at_ ys b) (at_ ys a) = true
        · have Hl : Hid (∀ c, c < m → (c = 2 * k + 1 ∨ c = 2 * k + 2) → lead (at_ ys c) (at_ ys b) = false) := fun c _ hc => by
            have h1 := HA.out
            have h2 := HBb.out
            rcases hc with hc | hc
            · rw [show c = a by omega]
              exact lead_asymm hba
            · rw [show c = b by omega]
              exact lead_self _
          by_cases hld : lead (at_ ys b) (at_ ys k) = true
          · have hjk := Lib.hid (show b = 2 * k + 1 ∨ b = 2 * k + 2 by have h1 := HA.out; have h2 := HBb.out; omega)
            have Hdown2 : Hid (Down m b (swp ys k b)) := down_step Hdown.out (by rw [hyn.out]; omega) hjk.out hbm hld Hl.out
            have Hperm2 : Hid ((swp ys k b).Perm xs) := (swp_perm (by rw [hyn.out]; exact hkn) (by rw [hyn.out]; exact hbn)).trans Hperm.out
            have hkm := Lib.hid (show k < m by have h1 := HA.out; omega)
            have Hsame2 : Hid (∀ q, m ≤ q → at_ (swp ys k b) q = at_ xs q) := fun q hq => by
              have := hkm.out
              rw [swp_at (by rw [hyn.out]; exact hkn) (by rw [hyn.out]; exact hbn), if_neg (by omega), if_neg (by omega)]
              exact Hsame.out q hq
            go_wp2_with (first
              | (go_at_call 47; (with_reducible refine (less_any Hpile.out hm hbn han).mono ?_); rintro e w1 ⟨rfl, hb⟩; have Hp1 := Lib.hid (Hpile.out.below hb); have Ho1 := Lib.hid (Hon.out.trans (Only.of_below (S := fun _ => False) hb) (fun _ hf => hf.elim)); have hcell_w1 := Lib.hid (((old_cells hb).1 h 1 hltr).trans hcell.out); have hlt_w1 := Nat.lt_of_lt_of_le hltr hb.size; have ml1 := method_less h _ w1 hcell_w1.out; have nl1 := nil_less h w1; clear hb)
              | (go_at_call 47; (with_reducible refine (less_any Hp1.out hm hbn hkn).mono ?_); rintro e w2 ⟨rfl, hb⟩; have Hp2 := Lib.hid (Hp1.out.below hb); have Ho2 := Lib.hid (Ho1.out.trans (Only.of_below (S := fun _ => False) hb) (fun _ hf => hf.elim)); have hcell_w2 := Lib.hid (((old_cells hb).1 h 1 hlt_w1).trans hcell_w1.out); have hlt_w2 := Nat.lt_of_lt_of_le hlt_w1 hb.size; have ms2 := method_swap h _ w2 hcell_w2.out; have ns2 := nil_swap h w2; clear hb)
              | (go_at_call 48; (with_reducible refine (swap_any Hp2.out hm hkn hbn).mono ?_); rintro e w9 ⟨rfl, hp2, ho2⟩; have Hp9 := Lib.hid hp2; have Ho9 := Lib.hid (Ho2.out.trans ho2 (fun _ hi => Or.inl hi)); clear hp2 ho2))
            go_roundw
            case rel => exact ⟨b, swp ys k b, hbn, rfl, Hperm2, Hsame2, Hp9, Hdown2, Ho9⟩
            case measure =>
              have := HA.out
              have := HBb.out
              simp [intOf]
              omega
          · have hld2 : lead (at_ ys b) (at_ ys k) = false := by simpa using hld
            have Hh : Hid (Heap m ys) := down_end Hdown.out hld2 Hl.out
            clear hld
            go_wp2_with (first
              | (go_at_call 47; (with_reducible refine (less_any Hpile.out hm hbn han).mono ?_); rintro e w1 ⟨rfl, hb⟩; have Hp1 := Lib.hid (Hpile.out.below hb); have Ho1 := Lib.hid (Hon.out.trans (Only.of_below (S := fun _ => False) hb) (fun _ hf => hf.elim)); have hcell_w1 := Lib.hid (((old_cells hb).1 h 1 hltr).trans hcell.out); have hlt_w1 := Nat.lt_of_lt_of_le hltr hb.size; have ml1 := method_less h _ w1 hcell_w1.out; have nl1 := nil_less h w1; clear hb)
              | (go_at_call 47; (with_reducible refine (less_any Hp1.out hm hbn hkn).mono ?_); rintro e w2 ⟨rfl, hb⟩; have Hp2 := Lib.hid (Hp1.out.below hb); have Ho2 := Lib.hid (Ho1.out.trans (Only.of_below (S := fun _ => False) hb) (fun _ hf => hf.elim)); have hcell_w2 := Lib.hid (((old_cells hb).1 h 1 hlt_w1).trans hcell_w1.out); have hlt_w2 := Nat.lt_of_lt_of_le hlt_w1 hb.size; have ms2 := method_swap h _ w2 hcell_w2.out; have ns2 := nil_swap h w2; clear hb))
            refine bodyPost_ret (v := .bool (decide ((0 : Int) < k))) ?_ rfl ?_
            · simp [results, Try.results29, go_sem]
            · exact ⟨⟨_, rfl⟩, ys, Hperm.out, Hsame.out, Hp2.out, Hh.out, Ho2.out⟩
        · have hba2 : lead (at_ ys b) (at_ ys a) = false := by simpa using hba
          have Hl : Hid (∀ c, c < m → (c = 2 * k + 1 ∨ c = 2 * k + 2) → lead (at_ ys c) (at_ ys a) = false) := fun c _ hc => by
            have h1 := HA.out
            have h2 := HBb.out
            rcases hc with hc | hc
            · rw [show c = a by omega]
              exact lead_self _
            · rw [show c = b by omega]
              exact hba2
          clear hba
          by_cases hld : lead (at_ ys a) (at_ ys k) = true
          · have hjk := Lib.hid (show a = 2 * k + 1 ∨ a = 2 * k + 2 by have h1 := HA.out; have h2 := HBb.out; omega)
            have Hdown2 : Hid (Down m a (swp ys k a)) := down_step Hdown.out (by rw [hyn.out]; omega) hjk.out ham hld Hl.out
            have Hperm2 : Hid ((swp ys k a).Perm xs) := (swp_perm (by rw [hyn.out]; exact hkn) (by rw [hyn.out]; exact han)).trans Hperm.out
            have hkm := Lib.hid (show k < m by have h1 := HA.out; omega)
            have Hsame2 : Hid (∀ q, m ≤ q → at_ (swp ys k a) q = at_ xs q) := fun q hq => by
              have := hkm.out
              rw [swp_at (by rw [hyn.out]; exact hkn) (by rw [hyn.out]; exact han), if_neg (by omega), if_neg (by omega)]
              exact Hsame.out q hq
            go_wp2_with (first
              | (go_at_call 47; (with_reducible refine (less_any Hpile.out hm hbn han).mono ?_); rintro e w1 ⟨rfl, hb⟩; have Hp1 := Lib.hid (Hpile.out.below hb); have Ho1 := Lib.hid (Hon.out.trans (Only.of_below (S := fun _ => False) hb) (fun _ hf => hf.elim)); have hcell_w1 := Lib.hid (((old_cells hb).1 h 1 hltr).trans hcell.out); have hlt_w1 := Nat.lt_of_lt_of_le hltr hb.size; have ml1 := method_less h _ w1 hcell_w1.out; have nl1 := nil_less h w1; clear hb)
              | (go_at_call 47; (with_reducible refine (less_any Hp1.out hm han hkn).mono ?_); rintro e w2 ⟨rfl, hb⟩; have Hp2 := Lib.hid (Hp1.out.below hb); have Ho2 := Lib.hid (Ho1.out.trans (Only.of_below (S := fun _ => False) hb) (fun _ hf => hf.elim)); have hcell_w2 := Lib.hid (((old_cells hb).1 h 1 hlt_w1).trans hcell_w1.out); have hlt_w2 := Nat.lt_of_lt_of_le hlt_w1 hb.size; have ms2 := method_swap h _ w2 hcell_w2.out; have ns2 := nil_swap h w2; clear hb)
              | (go_at_call 48; (with_reducible refine (swap_any Hp2.out hm hkn han).mono ?_); rintro e w9 ⟨rfl, hp2, ho2⟩; have Hp9 := Lib.hid hp2; have Ho9 := Lib.hid (Ho2.out.trans ho2 (fun _ hi => Or.inl hi)); clear hp2 ho2))
            go_roundw
            case rel => exact ⟨a, swp ys k a, han, rfl, Hperm2, Hsame2, Hp9, Hdown2, Ho9⟩
            case measure =>
              have := HA.out
              have := HBb.out
              simp [intOf]
              omega
          · have hld2 : lead (at_ ys a) (at_ ys k) = false := by simpa using hld
            have Hh : Hid (Heap m ys) := down_end Hdown.out hld2 Hl.out
            clear hld
            go_wp2_with (first
              | (go_at_call 47; (with_reducible refine (less_any Hpile.out hm hbn han).mono ?_); rintro e w1 ⟨rfl, hb⟩; have Hp1 := Lib.hid (Hpile.out.below hb); have Ho1 := Lib.hid (Hon.out.trans (Only.of_below (S := fun _ => False) hb) (fun _ hf => hf.elim)); have hcell_w1 := Lib.hid (((old_cells hb).1 h 1 hltr).trans hcell.out); have hlt_w1 := Nat.lt_of_lt_of_le hltr hb.size; have ml1 := method_less h _ w1 hcell_w1.out; have nl1 := nil_less h w1; clear hb)
              | (go_at_call 47; (with_reducible refine (less_any Hp1.out hm han hkn).mono ?_); rintro e w2 ⟨rfl, hb⟩; have Hp2 := Lib.hid (Hp1.out.below hb); have Ho2 := Lib.hid (Ho1.out.trans (Only.of_below (S := fun _ => False) hb) (fun _ hf => hf.elim)); have hcell_w2 := Lib.hid (((old_cells hb).1 h 1 hlt_w1).trans hcell_w1.out); have hlt_w2 := Nat.lt_of_lt_of_le hlt_w1 hb.size; have ms2 := method_swap h _ w2 hcell_w2.out; have ns2 := nil_swap h w2; clear hb))
            refine bodyPost_ret (v := .bool (decide ((0 : Int) < k))) ?_ rfl ?_
            · simp [results, Try.results29, go_sem]
            · exact ⟨⟨_, rfl⟩, ys, Hperm.out, Hsame.out, Hp2.out, Hh.out, Ho2.out⟩
      · have hbm1 : ¬ (b : Int) < m := by omega
        clear ha hb
        have Hl : Hid (∀ c, c < m → (c = 2 * k + 1 ∨ c = 2 * k + 2) → lead (at_ ys c) (at_ ys a) = false) := fun c hcm hc => by
          have h1 := HA.out
          have h2 := HBb.out
          rcases hc with hc | hc
          · rw [show c = a by omega]
            exact lead_self _
          · omega
        by_cases hld : lead (at_ ys a) (at_ ys k) = true
        · have hjk := Lib.hid (show a = 2 * k + 1 ∨ a = 2 * k + 2 by have h1 := HA.out; have h2 := HBb.out; omega)
          have Hdown2 : Hid (Down m a (swp ys k a)) := down_step Hdown.out (by rw [hyn.out]; omega) hjk.out ham hld Hl.out
          have Hperm2 : Hid ((swp ys k a).Perm xs) := (swp_perm (by rw [hyn.out]; exact hkn) (by rw [hyn.out]; exact han)).trans Hperm.out
          have hkm := Lib.hid (show k < m by have h1 := HA.out; omega)
          have Hsame2 : Hid (∀ q, m ≤ q → at_ (swp ys k a) q = at_ xs q) := fun q hq => by
            have := hkm.out
            rw [swp_at (by rw [hyn.out]; exact hkn) (by rw [hyn.out]; exact han), if_neg (by omega), if_neg (by omega)]
            exact Hsame.out q hq
          go_wp2_with (first
            | (go_at_call 47; (with_reducible refine (less_any Hpile.out hm han hkn).mono ?_); rintro e w1 ⟨rfl, hb⟩; have Hp1 := Lib.hid (Hpile.out.below hb); have Ho1 := Lib.hid (Hon.out.trans (Only.of_below (S := fun _ => False) hb) (fun _ hf => hf.elim)); have hcell_w1 := Lib.hid (((old_cells hb).1 h 1 hltr).trans hcell.out); have hlt_w1 := Nat.lt_of_lt_of_le hltr hb.size; have ms1 := method_swap h _ w1 hcell_w1.out; have ns1 := nil_swap h w1; clear hb)
            | (go_at_call 48; (with_reducible refine (swap_any Hp1.out hm hkn han).mono ?_); rintro e w9 ⟨rfl, hp2, ho2⟩; have Hp9 := Lib.hid hp2; have Ho9 := Lib.hid (Ho1.out.trans ho2 (fun _ hi => Or.inl hi)); clear hp2 ho2))
          go_roundw
          case rel => exact ⟨a, swp ys k a, han, rfl, Hperm2, Hsame2, Hp9, Hdown2, Ho9⟩
          case measure =>
            have := HA.out
            have := HBb.out
            simp [intOf]
            omega
        · have hld2 : lead (at_ ys a) (at_ ys k) = false := by simpa using hld
          have Hh : Hid (Heap m ys) := down_end Hdown.out hld2 Hl.out
          clear hld
          go_wp2_with (first
            | (go_at_call 47; (with_reducible refine (less_any Hpile.out hm han hkn).mono ?_); rintro e w1 ⟨rfl, hb⟩; have Hp1 := Lib.hid (Hpile.out.below hb); have Ho1 := Lib.hid (Hon.out.trans (Only.of_below (S := fun _ => False) hb) (fun _ hf => hf.elim)); have hcell_w1 := Lib.hid (((old_cells hb).1 h 1 hltr).trans hcell.out); have hlt_w1 := Nat.lt_of_lt_of_le hltr hb.size; have ms1 := method_swap h _ w1 hcell_w1.out; have ns1 := nil_swap h w1; clear hb))
          refine bodyPost_ret (v := .bool (decide ((0 : Int) < k))) ?_ rfl ?_
          · simp [results, Try.results29, go_sem]
          · exact ⟨⟨_, rfl⟩, ys, Hperm.out, Hsame.out, Hp1.out, Hh.out, Ho1.out⟩
end Go.Proofs.Ytcofehmgnpmecaa
