/-
  The contract of the document's Points.
-/
import Derived.Test.YtlpmcmgalodfeaaTWalksC
import Derived.Test.YtlpmcmgalodfeaaTWalksD
import Derived.Test.YtlpmcmgalodfeaaAppend
import Derived.BigRegion
import Derived.Deep.RegionHeld3
import Derived.Deep.DrawnRows
import Derived.Outline
namespace Go.Proofs.Ytlpmcmgalodfeaa
open Go.ChangeShapes Go.WideShapes Go.ChangeAt Go.RowKit
attribute [local go_sem ↓] Go.wp_at_zero Go.wp_at_succ

set_option maxHeartbeats 2000000 in
theorem rpoints_any (A : Option Addr) (n c : Nat) (l : List (Int × Int × Int)) (t : Int) (w : World) (hln : l.length = n) (hL : Tks w.heap.size w A l) (ht0 : 0 ≤ t) (ht : t ≤ 1048576) (Hall : Hid (Tk.all l = true)) :
    Calls Try.prog 18 #[.slice A n c, .int .i64 t] w fun e w' => NumsBack (Tk.pts l t) w e w' := by
  have HL := Lib.hid hL
  have Hl := Lib.hid hln
  clear hL hln
  have hn8 : n ≤ 8 := by rw [← Hl.out]; exact Tk.all_len Hall.out
  have Hmem : Hid (∀ t ∈ l, Tk.rt t = true) := (Tk.all_mem Hall.out : ∀ t ∈ l, Tk.rt t = true)
  go_enter Try.func18, Try.ntmps18
  go_wp2_with fail
  go_loopw [5, 6] (fun v i wr => ∃ (k : Nat) (L : List Int) (X : Option Addr) (k2 cx : Nat), k ≤ n ∧ i = .int .i64 k ∧ v = .slice X k2 cx ∧ k2 ≤ cx ∧ k2 ≤ 1048576 ∧ Hid (L.length = k2) ∧ Hid (L.Pairwise (· < ·) ∧ ∀ x, x ∈ L ↔ x ≤ t ∧ Tk.isPt (l.take k) x = true) ∧
    Hid (wr.ownsRow w.heap.size 3 1 (.slice X k2 cx) k2 (ncells L)) ∧ Below w.heap.size w wr) (fun _ i _ => (n - intOf i).toNat)
  case atStart => exact ⟨0, [], none, 0, 0, by omega, rfl, rfl, by omega, by omega, (rfl : ([] : List Int).length = 0), (⟨List.Pairwise.nil, fun x => by simp [Tk.isPt]⟩ : ([] : List Int).Pairwise (· < ·) ∧ ∀ x, x ∈ ([] : List Int) ↔ x ≤ t ∧ Tk.isPt (l.take 0) x = true), World.ownsRow_nil _ _ _ _, Below.refl _ _⟩
  case round =>
    obtain ⟨k, L, X, k2, cx, hk, rfl, rfl, hkc, hk2, hLl, hP, hown, hb⟩ := hrel
    by_cases hlt : k < n
    · obtain ⟨ab, ao, rfl, hB, hcell⟩ := HL.out (by rw [Hl.out]; omega)
      obtain ⟨hc1, hc2, hc3⟩ := hcell k (by rw [Hl.out]; exact hlt)
      clear hcell
      obtain ⟨q, p, d, hxyz⟩ : ∃ x y z, l.getD k (0, 0, 0) = (x, y, z) := ⟨_, _, _, rfl⟩
      obtain ⟨i1, i2, i3, i4⟩ := Tk.all_bd Hall.out (show k < l.length by rw [Hl.out]; exact hlt) hxyz
      rw [hxyz] at hc1 hc2 hc3
      have Hx := Lib.hid hxyz
      clear hxyz
      have Hc := Lib.hid hc2
      have hk0 : (0 : Int) ≤ k := by omega
      have hkn : (k : Int) < n := by omega
      obtain ⟨hc, hf⟩ := old_cells hb
      have hz := hb.size
      have hz1 : ab < wr.heap.size := by omega
      go_wp2_with fail
      obtain ⟨wo, rfl⟩ : ∃ wo : World, wo = wr := ⟨_, rfl⟩
      go_loopw [5, 7] (fun v u wr => ∃ (j : Nat) (a : Int) (L : List Int) (X : Option Addr) (k2 cx : Nat), 1 ≤ a ∧ a ≤ 1048576 + p ∧ u = .int .i64 a ∧ v = .slice X k2 cx ∧ k2 ≤ cx ∧ k2 ≤ 1048576 ∧ Hid (L.length = k2) ∧ Hid (a = d + j * p) ∧ Hid (Tk.Upto l t k a L) ∧
        Hid (wr.ownsRow w.heap.size 3 1 (.slice X k2 cx) k2 (ncells L)) ∧ Below w.heap.size w wr) (fun _ u _ => (t + 1 - intOf u).toNat)
      case atStart => exact ⟨0, d, L, X, k2, cx, by omega, by omega, rfl, rfl, hkc, hk2, hLl, (by simp : d = d + ((0 : Nat) : Int) * p), Tk.Upto.first Hx.out hP.out, hown, hb⟩
      case round =>
        clear hc1 hc2 hc3 hc hf hz hz1 hown hb hLl hP hkc hk2
        obtain ⟨j, a, L, X, k2, cx, ha0, ha1, rfl, rfl, hkc, hk2, hLl, ha, hP, hown, hb⟩ := hrel
        obtain ⟨hc, hf⟩ := old_cells hb
        have hz := hb.size
        have hz1 : ab < wr.heap.size := by omega
        have hc2 := Hc.out
        by_cases hat : a ≤ t
        · have hcx := (own_shape hown.out)
          have hcx2 : cx ≤ 9223372036854775807 := by
            obtain ⟨A, c, h1, -, h3⟩ := own_shape hown.out
            cases h1
            exact h3
          clear hcx
          go_wp2_with fail
          go_loop [8] (fun u => ∃ (kk : Nat), kk ≤ k2 ∧ u = .int .i64 kk ∧ Hid (Tk.Above L kk a)) (fun u => (intOf u).toNat)
          case atStart => exact ⟨k2, by omega, rfl, (by have := Tk.above_end L a; rwa [hLl.out] at this : Tk.Above L k2 a)⟩
          case round =>
            obtain ⟨kk, hkk, rfl, hab⟩ := hrel
            by_cases h0 : kk = 0
            · subst h0
              have hup0 : Hid (∀ y ∈ L.take 0, y < a) := (fun y hy => by simp at hy : ∀ y ∈ L.take 0, y < a)
              have R1 : Hid (Reads wr.heap.size wr X 0 cx (L.take 0)) := reads_head hown.out
              have R3 : Hid (Reads wr.heap.size wr X k2 cx (L.drop 0)) := reads_own hown.out
              have HPn : Hid (Tk.Upto l t k (a + p) (L.take (0) ++ a :: L.drop (0))) := by
                have h1 := Tk.Upto.put (j := j) (k := 0) Hx.out (by omega) (by rw [← ha.out]; exact hat) (by rw [← ha.out]; exact hP.out) (by rw [← ha.out]; exact hup0.out) (by rw [← ha.out]; exact hab.out)
                rw [next_job, ← Int.add_assoc, ← ha.out] at h1
                exact h1
              have hln2 : k2 + 1 ≤ 1048576 := by
                have h1 := Tk.Upto.len Hall.out (show k < l.length by rw [Hl.out]; exact hlt) HPn.out
                have h2 := hLl.out
                simp only [List.length_append, List.length_cons, List.length_take, List.length_drop] at h1
                omega
              go_wp2_with fail
              go_region_held3 (fun _ => True) (trivial) (first
                              | (refine step_ints ((wr.alloc (.cells #[] 3)).alloc (.cells #[.int .i64 a] 3)).drew (by rfl) (.tmp 56) (.tmp 59) (by rfl) wr.heap.size (.slice (some ⟨wr.heap.size, 0, none⟩) 0 0) 0 [] (by rfl) (own_drew ((own_empty (Nat.le_refl _)).alloc _)) _ _ _ _ (by rfl) wr.heap.size (R1.out.below ((((Below.refl _ _).alloc (Nat.le_refl _) _).alloc (by simp) _).drew)) 0 (by omega) (by omega) (by simp; omega) ?_; intro A1 cap1 w1 X1 g1; have G1 := Lib.hid (((((Below.refl _ _).alloc (Nat.le_refl _) _).alloc (by simp) _).drew).grown g1 (by simp; omega) (fun k hk => by cases hk; exact Nat.le_refl _)); have K1 := Lib.hid (reads_far ((reads_one2 (w := wr) (o := (.cells #[] 3)) a 3).below (Below.refl _ _).drew) g1 (by simp) (by simp [Value.ownBlock])); clear g1)
                              | (refine step_ints ((wr.alloc (.cells #[.int .i64 a] 3)).alloc (.cells #[] 3)).drew (by rfl) (.tmp 56) (.tmp 59) (by rfl) wr.heap.size (.slice (some ⟨wr.heap.size + 1, 0, none⟩) 0 0) 0 [] (by rfl) (own_drew (own_empty2 (Nat.le_refl _))) _ _ _ _ (by rfl) wr.heap.size (R1.out.below ((((Below.refl _ _).alloc (Nat.le_refl _) _).alloc (by simp) _).drew)) 0 (by omega) (by omega) (by simp; omega) ?_; intro A1 cap1 w1 X1 g1; have G1 := Lib.hid (((((Below.refl _ _).alloc (Nat.le_refl _) _).alloc (by simp) _).drew).grown g1 (by simp; omega) (fun k hk => by cases hk; exact Nat.le_succ _)); have K1 := Lib.hid (reads_far (((reads_one (w := wr) a 3).below ((Below.refl _ _).alloc (by simp) (.cells #[] 3))).below (Below.refl _ _).drew) g1 (by simp; omega) (by simp [Value.ownBlock])); clear g1)
                              | (refine step_ints (wr.alloc (.cells #[] 3)).drew (by rfl) (.tmp 56) (.tmp 59) (by rfl) wr.heap.size (.slice (some ⟨wr.heap.size, 0, none⟩) 0 0) 0 [] (by rfl) (own_drew (own_empty (Nat.le_refl _))) _ _ _ _ (by rfl) wr.heap.size (R1.out.below (((Below.refl _ _).alloc (Nat.le_refl _) _).drew)) 0 (by omega) (by omega) (by simp) ?_; intro A1 cap1 w1 X1 g1; have G1 := Lib.hid ((((Below.refl _ _).alloc (Nat.le_refl _) _).drew).grown g1 (by simp) (fun k hk => by cases hk; exact Nat.le_refl _)); clear g1)
                              | (refine step_ints w1 (by rfl) (.tmp 60) (.tmp 62) (by rfl) wr.heap.size (.slice A1 0 cap1) 0 _ (by rfl) X1 _ 1 1 [a] (by rfl) _ K1.out (0 + 1) (by omega) (by omega) G1.out.size ?_; intro A2 cap2 w2 X2 g2; have G2 := Lib.hid (G1.out.grown g2 G1.out.size (fun k hk => (X1.lt k hk).1)); clear g2)
                              | (refine step_ints (w1.alloc (.cells #[.int .i64 a] 3)) (by rfl) (.tmp 60) (.tmp 62) (by rfl) wr.heap.size (.slice A1 0 cap1) 0 _ (by rfl) (X1.alloc _) _ 1 1 [a] (by rfl) _ (reads_one a 3) (0 + 1) (by omega) (by omega) (size_kept (Nat.le_refl _) (G1.out.alloc G1.out.size _)) ?_; intro A2 cap2 w2 X2 g2; have G2 := Lib.hid ((G1.out.alloc G1.out.size _).grown g2 (size_kept (Nat.le_refl _) (G1.out.alloc G1.out.size _)) (fun k hk => (X1.lt k hk).1)); clear g2)
                              | (refine step_ints w2 (by rfl) (.tmp 63) (.tmp 66) (by rfl) wr.heap.size (.slice A2 (0 + 1) cap2) (0 + 1) _ (by rfl) X2 _ _ _ _ (by rfl) wr.heap.size (R3.out.below G2.out) (k2 + 1) (by omega) (by omega) G2.out.size ?_; intro A3 cap3 w3 X3 g3; have G3 := Lib.hid (G2.out.grown g3 G2.out.size (fun k hk => (X2.lt k hk).1)); clear g3))
              all_goals
                have hb3 : Below w.heap.size w w3 := hb.trans (G3.out.mono hz)
                have Ho : Hid (w3.ownsRow w.heap.size 3 1 (.slice A3 (k2 + 1) cap3) (k2 + 1) (ncells (L.take (0) ++ a :: L.drop (0)))) := by
                  have h1 := own_lower X3 hz
                  rw [List.nil_append, List.append_assoc] at h1
                  exact h1
                have hcap := own_cap X3
                have hnj := Lib.hid (next_job (p := p) j)
                clear X3 X2 X1 G2 G1 R1 R3 hown hb
                try clear K1
                obtain ⟨hc4, hf4⟩ := old_cells hb3
                have hz3 : ab < w3.heap.size := by have := hb3.size; omega
                go_wp2
                go_roundw
                case rel => exact ⟨j + 1, a + p, _, A3, k2 + 1, cap3, by omega, by omega, rfl, rfl, hcap, hln2, (by have := hLl.out; simp only [List.length_append, List.length_cons, List.length_take, List.length_drop]; omega : (L.take (0) ++ a :: L.drop (0)).length = k2 + 1), (by rw [hnj.out, ha.out]; omega : a + p = d + (j + 1 : Nat) * p), HPn.out, Ho.out, hb3⟩
                case measure => simp [intOf]; omega
            · obtain ⟨m, rfl⟩ : ∃ m, kk = m + 1 := ⟨kk - 1, by omega⟩
              obtain ⟨g, hg⟩ : ∃ g, X = some ⟨g, 0, none⟩ := by
                obtain ⟨g, cap, h1, -⟩ := hown.out.form (by omega)
                cases h1
                exact ⟨g, rfl⟩
              subst hg
              have hG := hown.out.lt g rfl
              have hcm := hown.out.cellAt m (by omega)
              rw [ncells, List.getElem?_map, List.getElem?_eq_getElem (by rw [hLl.out]; omega)] at hcm
              have hm0 : (0 : Int) ≤ m := by omega
              have hmk : (m : Int) < k2 := by omega
              have hstep := Lib.hid (Tk.above_step (L := L) (k := m) (x := a) (by rw [hLl.out]; omega) hab.out)
              have hup := Lib.hid (Tk.rising_up (k := m) (x := a) hP.out.1 (by rw [hLl.out]; omega))
              have hmem : Hid (L.getD m 0 ∈ L) := (by rw [List.getD_eq_getElem?_getD, List.getElem?_eq_getElem (by rw [hLl.out]; omega)]; exact List.getElem_mem _ : L.getD m 0 ∈ L)
              have hgd : L[m]'(by rw [hLl.out]; omega) = L.getD m 0 := by rw [List.getD_eq_getElem?_getD, List.getElem?_eq_getElem (by rw [hLl.out]; omega)]; rfl
              rw [hgd] at hcm
              clear hgd
              obtain ⟨y, hy⟩ : ∃ y, L.getD m 0 = y := ⟨_, rfl⟩
              rw [hy] at hcm hstep hup hmem
              simp only [Option.map_some] at hcm
              clear hy
              have hw1 : IntKind.i64.wrap ((m : Int) + 1 - 1) = m := by rw [IntWalk.i64_in _ (by omega)]; omega
              by_cases hya : a < y
              · go_wp2
                go_round
                case rel => exact ⟨m, by omega, by go_num, hstep.out hya⟩
                case measure => simp [intOf]
              · by_cases hye : y = a
                · subst hye
                  have HPn : Hid (Tk.Upto l t k (y + p) L) := by
                    have h1 := Tk.Upto.there (j := j) Hx.out (by omega) (by rw [← ha.out]; exact hP.out) (by rw [← ha.out]; exact hmem.out)
                    rw [next_job, ← Int.add_assoc, ← ha.out] at h1
                    exact h1
                  have hnj := Lib.hid (next_job (p := p) j)
                  have hye1 : (y == y) = true := by simp
                  have hye2 : (y != y) = false := by simp
                  go_wp2
                  go_roundw
                  case rel => exact ⟨j + 1, y + p, L, _, k2, cx, by omega, by omega, rfl, rfl, hkc, hk2, hLl, (by rw [hnj.out, ha.out]; omega : y + p = d + (j + 1 : Nat) * p), HPn.out, hown, hb⟩
                  case measure => simp [intOf]; omega
                · have hye1 : (y == a) = false := by simp [hye]
                  have hye2 : (y != a) = true := by simp [hye]
                  have hup2 := hup.out (by omega)
                  have Hup := Lib.hid hup2
                  clear hup2
                  have hmc3 : (m : Int) + 1 ≤ cx := by omega
                  have hmk2 : (m : Int) + 1 ≤ k2 := by omega
                  have hm1 : (0 : Int) ≤ (m : Int) + 1 := by omega
                  have R1 : Hid (Reads wr.heap.size wr (some ⟨g, 0, none⟩) (m + 1) cx (L.take (m + 1))) := reads_take hown.out (by omega) _
                  have R3 : Hid (Reads wr.heap.size wr (if cx = m + 1 then some ⟨g, 0, none⟩ else some ⟨g, m + 1, none⟩) (k2 - (m + 1)) (cx - (m + 1)) (L.drop (m + 1))) := reads_cut hown.out (by omega)
                  have HPn : Hid (Tk.Upto l t k (a + p) (L.take (m + 1) ++ a :: L.drop (m + 1))) := by
                    have h1 := Tk.Upto.put (j := j) (k := m + 1) Hx.out (by omega) (by rw [← ha.out]; exact hat) (by rw [← ha.out]; exact hP.out) (by rw [← ha.out]; exact Hup.out) (by rw [← ha.out]; exact hab.out)
                    rw [next_job, ← Int.add_assoc, ← ha.out] at h1
                    exact h1
                  have hln2 : k2 + 1 ≤ 1048576 := by
                    have h1 := Tk.Upto.len Hall.out (show k < l.length by rw [Hl.out]; exact hlt) HPn.out
                    have h2 := hLl.out
                    simp only [List.length_append, List.length_cons, List.length_take, List.length_drop] at h1
                    omega
                  go_wp2_with fail
                  go_region_held3 (fun _ => True) (trivial) (first
                                      | (refine step_ints ((wr.alloc (.cells #[] 3)).alloc (.cells #[.int .i64 a] 3)).drew (by rfl) (.tmp 56) (.tmp 59) (by rfl) wr.heap.size (.slice (some ⟨wr.heap.size, 0, none⟩) 0 0) 0 [] (by rfl) (own_drew ((own_empty (Nat.le_refl _)).alloc _)) _ _ _ _ (by rfl) wr.heap.size (R1.out.below ((((Below.refl _ _).alloc (Nat.le_refl _) _).alloc (by simp) _).drew)) (m + 1) (by omega) (by omega) (by simp; omega) ?_; intro A1 cap1 w1 X1 g1; have G1 := Lib.hid (((((Below.refl _ _).alloc (Nat.le_refl _) _).alloc (by simp) _).drew).grown g1 (by simp; omega) (fun k hk => by cases hk; exact Nat.le_refl _)); have K1 := Lib.hid (reads_far ((reads_one2 (w := wr) (o := (.cells #[] 3)) a 3).below (Below.refl _ _).drew) g1 (by simp) (by simp [Value.ownBlock])); clear g1)
                                      | (refine step_ints ((wr.alloc (.cells #[.int .i64 a] 3)).alloc (.cells #[] 3)).drew (by rfl) (.tmp 56) (.tmp 59) (by rfl) wr.heap.size (.slice (some ⟨wr.heap.size + 1, 0, none⟩) 0 0) 0 [] (by rfl) (own_drew (own_empty2 (Nat.le_refl _))) _ _ _ _ (by rfl) wr.heap.size (R1.out.below ((((Below.refl _ _).alloc (Nat.le_refl _) _).alloc (by simp) _).drew)) (m + 1) (by omega) (by omega) (by simp; omega) ?_; intro A1 cap1 w1 X1 g1; have G1 := Lib.hid (((((Below.refl _ _).alloc (Nat.le_refl _) _).alloc (by simp) _).drew).grown g1 (by simp; omega) (fun k hk => by cases hk; exact Nat.le_succ _)); have K1 := Lib.hid (reads_far (((reads_one (w := wr) a 3).below ((Below.refl _ _).alloc (by simp) (.cells #[] 3))).below (Below.refl _ _).drew) g1 (by simp; omega) (by simp [Value.ownBlock])); clear g1)
                                      | (refine step_ints (wr.alloc (.cells #[] 3)).drew (by rfl) (.tmp 56) (.tmp 59) (by rfl) wr.heap.size (.slice (some ⟨wr.heap.size, 0, none⟩) 0 0) 0 [] (by rfl) (own_drew (own_empty (Nat.le_refl _))) _ _ _ _ (by rfl) wr.heap.size (R1.out.below (((Below.refl _ _).alloc (Nat.le_refl _) _).drew)) (m + 1) (by omega) (by omega) (by simp) ?_; intro A1 cap1 w1 X1 g1; have G1 := Lib.hid ((((Below.refl _ _).alloc (Nat.le_refl _) _).drew).grown g1 (by simp) (fun k hk => by cases hk; exact Nat.le_refl _)); clear g1)
                                      | (refine step_ints w1 (by rfl) (.tmp 60) (.tmp 62) (by rfl) wr.heap.size (.slice A1 (m + 1) cap1) (m + 1) _ (by rfl) X1 _ 1 1 [a] (by rfl) _ K1.out ((m + 1) + 1) (by omega) (by omega) G1.out.size ?_; intro A2 cap2 w2 X2 g2; have G2 := Lib.hid (G1.out.grown g2 G1.out.size (fun k hk => (X1.lt k hk).1)); clear g2)
                                      | (refine step_ints (w1.alloc (.cells #[.int .i64 a] 3)) (by rfl) (.tmp 60) (.tmp 62) (by rfl) wr.heap.size (.slice A1 (m + 1) cap1) (m + 1) _ (by rfl) (X1.alloc _) _ 1 1 [a] (by rfl) _ (reads_one a 3) ((m + 1) + 1) (by omega) (by omega) (size_kept (Nat.le_refl _) (G1.out.alloc G1.out.size _)) ?_; intro A2 cap2 w2 X2 g2; have G2 := Lib.hid ((G1.out.alloc G1.out.size _).grown g2 (size_kept (Nat.le_refl _) (G1.out.alloc G1.out.size _)) (fun k hk => (X1.lt k hk).1)); clear g2)
                                      | (refine step_ints w2 (by rfl) (.tmp 63) (.tmp 66) (by rfl) wr.heap.size (.slice A2 ((m + 1) + 1) cap2) ((m + 1) + 1) _ (by rfl) X2 _ _ _ _ (by rfl) wr.heap.size (R3.out.below G2.out) (k2 + 1) (by omega) (by omega) G2.out.size ?_; intro A3 cap3 w3 X3 g3; have G3 := Lib.hid (G2.out.grown g3 G2.out.size (fun k hk => (X2.lt k hk).1)); clear g3))
                  all_goals
                    have hb3 : Below w.heap.size w w3 := hb.trans (G3.out.mono hz)
                    have Ho : Hid (w3.ownsRow w.heap.size 3 1 (.slice A3 (k2 + 1) cap3) (k2 + 1) (ncells (L.take (m + 1) ++ a :: L.drop (m + 1)))) := by
                      have h1 := own_lower X3 hz
                      rw [List.nil_append, List.append_assoc] at h1
                      exact h1
                    have hcap := own_cap X3
                    have hnj := Lib.hid (next_job (p := p) j)
                    clear X3 X2 X1 G2 G1 R1 R3 hown hb
                    try clear K1
                    obtain ⟨hc4, hf4⟩ := old_cells hb3
                    have hz3 : ab < w3.heap.size := by have := hb3.size; omega
                    go_wp2
                    go_roundw
                    case rel => exact ⟨j + 1, a + p, _, A3, k2 + 1, cap3, by omega, by omega, rfl, rfl, hcap, hln2, (by have := hLl.out; simp only [List.length_append, List.length_cons, List.length_take, List.length_drop]; omega : (L.take (m + 1) ++ a :: L.drop (m + 1)).length = k2 + 1), (by rw [hnj.out, ha.out]; omega : a + p = d + (j + 1 : Nat) * p), HPn.out, Ho.out, hb3⟩
                    case measure => simp [intOf]; omega
        · have hlast := Lib.hid (Tk.Upto.last (show k < l.length by rw [Hl.out]; exact hlt) (show t < a by omega) hP.out)
          go_wp2
          go_roundw
          case rel => exact ⟨k + 1, L, X, k2, cx, by omega, by go_num, rfl, hkc, hk2, hLl, hlast.out, hown, hb⟩
          case measure => simp [intOf]; omega
    · have hkn : Hid (k = n) := (by omega : k = n)
      have hLe : Hid (L = Tk.pts l t) := by
        have h1 := hP.out
        rw [hkn.out, ← Hl.out] at h1
        exact Tk.pts_eq Hmem.out (Tk.Upto.whole h1)
      go_wp2
      go_ret
      rw [← hLe.out]
      exact nums_back hb hLl.out.symm hown.out
end Go.Proofs.Ytlpmcmgalodfeaa
