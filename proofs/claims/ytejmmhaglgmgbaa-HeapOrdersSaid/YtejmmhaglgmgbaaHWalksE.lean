/-
  Contracts: the library's heap: Push, and Remove of the first.
-/
import Derived.Test.YtejmmhaglgmgbaaHWalksD
namespace Go.Proofs.Ytejmmhaglgmgbaa
open Go.ChangeShapes Go.WideShapes Go.ChangeAt Go.RowKit Hp

/-- One thing more, and the pile is in order. -/
def Put (B h : Nat) (v c1 c2 c3 : Value) (xs : List Th) (x : Th) (w : World) (e : Ending) (w' : World) : Prop :=
  e = .returned (.tuple #[]) ∧ ∃ g c ys, ys.Perm (x :: xs) ∧ PileIs w' B (.slice (some ⟨g, 0, none⟩) (xs.length + 1) c) ys ∧ Heap (xs.length + 1) ys ∧ w'.heap[h]? = some (hObj (.slice (some ⟨g, 0, none⟩) (xs.length + 1) c) c1 c2 c3) ∧ Only (fun k => Own v xs k ∨ k = h ∨ k = x.b) w w' ∧ (v.ownBlock = some g ∨ w.heap.size ≤ g)

set_option maxHeartbeats 400000 in
theorem hpush_any {w : World} {B h : Nat} {v c1 c2 c3 : Value} {xs : List Th} {x : Th} (hp : PileIs w B v xs) (ho : Heap xs.length xs) (hm : xs.length ≤ 900000) (hB : B ≤ w.heap.size) (hh : w.heap[h]? = some (hObj v c1 c2 c3)) (hoh : ¬ Own v xs h) (hx : w.heap[x.b]? = some (thObj x 0)) (hox : ¬ Own v xs x.b) (hxh : x.b ≠ h) (hBx : B ≤ x.b) :
    Calls Try.prog 14 #[.iface 47 (.pointer (some ⟨h, 0, none⟩)), .iface 43 (.pointer (some ⟨x.b, 0, none⟩))] w (Put B h v c1 c2 c3 xs x w) := by
  have Hc := Lib.hid (ppush_any hp hm hB hh hoh hx hox hxh hBx)
  obtain ⟨n, hn⟩ : ∃ n, xs.length = n := ⟨_, rfl⟩
  have hlth := lt_of_block hh
  have Hn := Lib.hid hn
  have Hup : Hid (Up (n + 1) n (xs ++ [x])) := up_new (by rw [hn] at ho; exact ho) hn
  have Hoh := Lib.hid hoh
  have Hxh := Lib.hid hxh
  have m1 := method_push (.pointer (some ⟨h, 0, none⟩)) w
  have n1 := nil_push h w
  rw [hn] at hm
  have hm0 : (n : Int) ≤ 900000 := by omega
  have hm2 : n + 1 ≤ 1000000 := by omega
  have hn1 : n < n + 1 := by omega
  obtain ⟨b, hb⟩ : ∃ b, x.b = b := ⟨_, rfl⟩
  rw [hb] at Hc
  rw [hb]
  have Hb := Lib.hid hb
  have Hlen : Hid ((xs ++ [x]).length = n + 1) := by
    rw [List.length_append, Hn.out]
    rfl
  have HX : Hid (∀ (w1 : World) (g c : Nat), w1.heap[h]? = some (hObj (.slice (some ⟨g, 0, none⟩) (n + 1) c) c1 c2 c3) → (v.ownBlock = some g ∨ w.heap.size ≤ g) → Hid (w1.cell? ⟨h, 0, none⟩ = some (.slice (some ⟨g, 0, none⟩) (n + 1) c)) ∧ h < w1.heap.size ∧ Hid (¬ Own (.slice (some ⟨g, 0, none⟩) (n + 1) c) (xs ++ [x]) h)) := fun w1 g c hh1 hg1 => by
    refine ⟨h_cell (j := 0) hh1 rfl, lt_of_block hh1, ?_⟩
    rintro (h1 | ⟨y, hy, h1⟩)
    · have e : g = h := by simpa [Value.ownBlock] using h1
      rcases hg1 with h2 | h2
      · exact Hoh.out (Or.inl (by rw [h2, e]))
      · omega
    · rcases List.mem_append.1 hy with hy | hy
      · exact Hoh.out (Or.inr ⟨y, hy, h1⟩)
      · obtain rfl : y = x := by simpa using hy
        exact Hxh.out h1
  have HE : Hid (∀ (w1 w2 : World) (g c : Nat) (ys : List Th), PileIs w2 B (.slice (some ⟨g, 0, none⟩) (n + 1) c) ys → Heap (n + 1) ys → ys.Perm (xs ++ [x]) → w1.heap[h]? = some (hObj (.slice (some ⟨g, 0, none⟩) (n + 1) c) c1 c2 c3) → Only (fun k => Own v xs k ∨ k = h ∨ k = x.b) w w1 → (v.ownBlock = some g ∨ w.heap.size ≤ g) → Only (Own (.slice (some ⟨g, 0, none⟩) (n + 1) c) (xs ++ [x])) w1 w2 → Put B h v c1 c2 c3 xs x w (.returned (.tuple #[])) w2) := fun w1 w2 g c ys hp2 hh2 hperm hb1 ho1 hg1 ho2 => by
    obtain ⟨-, hlt1, hoff1⟩ := HX.out w1 g c hb1 hg1
    refine ⟨rfl, g, c, ys, hperm.trans (List.perm_append_comm (l₁ := xs) (l₂ := [x])), ?_, ?_, ?_, ?_, hg1⟩
    · rw [Hn.out]
      exact hp2
    · rw [Hn.out]
      exact hh2
    · rw [Hn.out, ho2.block h hlt1 hoff1.out]
      exact hb1
    · refine ho1.trans ho2 (fun k hk => ?_)
      rcases hk with hk | ⟨y, hy, rfl⟩
      · have e : g = k := by simpa [Value.ownBlock] using hk
        subst e
        exact hg1.imp (fun h2 => Or.inl (Or.inl h2)) id
      · rcases List.mem_append.1 hy with hy | hy
        · exact Or.inl (Or.inl (Or.inr ⟨y, hy, rfl⟩))
        · obtain rfl : y = x := by simpa using hy
          exact Or.inl (Or.inr (Or.inr rfl))
  clear hp ho hh hoh hx hox hxh hBx hn hb
  go_enter Try.func14, Try.ntmps14
  go_wp2_with (first
    | (go_at_call 41; refine Hc.out.mono ?_; rintro e w1 ⟨rfl, g, c, hp1, hh1, ho1, hg1⟩; rw [Hn.out] at hp1 hh1; have Hp1 := Lib.hid hp1; obtain ⟨Hcell, hlt1, Hoff⟩ := HX.out w1 g c hh1 hg1; have m2 := method_len h _ w1 Hcell.out; have n2 := nil_len h w1; have Hh1 := Lib.hid hh1; have Ho1 := Lib.hid ho1; have Hg1 := Lib.hid hg1; clear hp1 hh1 ho1 hg1)
    | (go_at_call 36; refine (len_any _ _ _ _).mono ?_; rintro e w2 ⟨rfl, rfl⟩)
    | (go_at_call 18; refine (up_any Hp1.out Hlen.out hm2 hn1 Hup.out Hcell.out hlt1 Hoff.out).mono ?_; rintro e w2 ⟨rfl, ys, hperm, hp2, hh2, ho2⟩; have Hfin := Lib.hid (HE.out w1 w2 g c ys hp2 hh2 hperm Hh1.out Ho1.out Hg1.out ho2); clear hperm hp2 hh2 ho2))
  go_end0
  exact Hfin.out

/-- The first one taken out, and the pile is in order. -/
def Removed (B h g n c : Nat) (c1 c2 c3 : Value) (xs : List Th) (w : World) (e : Ending) (w' : World) : Prop :=
  e = .returned (.iface 43 (ptrTo (at_ xs 0))) ∧ ∃ ys, (at_ xs 0 :: ys).Perm xs ∧ ys.length = n ∧ PileIs w' B (.slice (some ⟨g, 0, none⟩) n c) ys ∧ Heap n ys ∧ w'.heap[h]? = some (hObj (.slice (some ⟨g, 0, none⟩) n c) c1 c2 c3) ∧ Only (fun k => Own (.slice (some ⟨g, 0, none⟩) (n + 1) c) xs k ∨ k = h) w w'

theorem removed_end {w w2 : World} {B h g n c : Nat} {c1 c2 c3 : Value} {xs zs : List Th} (hn : xs.length = n + 1) (hperm : zs.Perm xs) (hlast : at_ zs n = at_ xs 0) (hheap : Heap n zs)
    (ho : Only (Own (.slice (some ⟨g, 0, none⟩) (n + 1) c) xs) w w2) (e : Ending) (w' : World) (hp : Popped B h g n c c1 c2 c3 zs w2 e w') : Removed B h g n c c1 c2 c3 xs w e w' := by
  obtain ⟨h1, h2, h3, h4⟩ := hp
  have hzn : zs.length = n + 1 := hperm.length_eq.trans hn
  refine ⟨by rw [h1, hlast], zs.take n, ?_, by rw [List.length_take]; omega, h2, heap_take hheap, h3, (ho.mono (fun k hk => Or.inl hk)).trans h4 (fun k hk => ?_)⟩
  · have hz := take_last hzn
    rw [hlast] at hz
    have h5 : (at_ xs 0 :: zs.take n).Perm (zs.take n ++ [at_ xs 0]) := List.perm_append_comm (l₁ := [at_ xs 0])
    rw [← hz] at h5
    exact h5.trans hperm
  · rcases hk with rfl | rfl
    · exact Or.inl (Or.inl (Or.inl rfl))
    · exact Or.inl (Or.inr rfl)

set_option maxHeartbeats 1000000 in
theorem hremove_any {w : World} {B h g n c : Nat} {c1 c2 c3 : Value} {xs : List Th} (hp : PileIs w B (.slice (some ⟨g, 0, none⟩) (n + 1) c) xs) (hn : xs.length = n + 1) (ho : Heap (n + 1) xs) (hm : n ≤ 900000) (hh : w.heap[h]? = some (hObj (.slice (some ⟨g, 0, none⟩) (n + 1) c) c1 c2 c3)) (hoh : ¬ Own (.slice (some ⟨g, 0, none⟩) (n + 1) c) xs h) :
    Calls Try.prog 16 #[.iface 47 (.pointer (some ⟨h, 0, none⟩)), .int .i64 0] w (Removed B h g n c c1 c2 c3 xs w) := by
  have hlth := lt_of_block hh
  have Hcell : Hid (w.cell? ⟨h, 0, none⟩ = some (.slice (some ⟨g, 0, none⟩) (n + 1) c)) := h_cell (j := 0) hh rfl
  have m1 := method_len h _ w Hcell.out
  have n1 := nil_len h w
  have hn0 : (0 : Int) ≤ n := by omega
  have hn1 : (n : Int) ≤ 900000 := by omega
  by_cases hz : n = 0
  · subst hz
    have Hpop := Lib.hid (ppop_any hp hn hm hh hoh)
    have m2 := method_pop (.pointer (some ⟨h, 0, none⟩)) w
    have n2 := nil_pop h w
    have Hend : Hid (∀ e w', Popped B h g 0 c c1 c2 c3 xs w e w' → Removed B h g 0 c c1 c2 c3 xs w e w') := fun e w' => removed_end hn (List.Perm.refl _) rfl (fun q h0 h1 => by omega) (Only.refl _ _) e w'
    clear hp hn ho hm hh hoh
    go_enter Try.func16, Try.ntmps16
    go_wp2_with (first
      | (go_at_call 36; refine (len_any _ _ _ _).mono ?_; rintro e w2 ⟨rfl, rfl⟩)
      | (go_at_call 40; refine Hpop.out.mono ?_; intro e w2 hpo; have Hfin := Lib.hid (Hend.out e w2 hpo); have he := Lib.hid hpo.1; obtain rfl := he.out; clear hpo he))
    go_ret
    exact Hfin.out
  · have hm2 : n + 1 ≤ 1000000 := by omega
    have hm3 : n < n + 1 := by omega
    have hm4 : 0 < n + 1 := by omega
    have hne : 0 ≠ n := by omega
    have hneb : ((n : Int) != 0) = true := by simp; omega
    have Hp := Lib.hid hp
    have Hn := Lib.hid hn
    have Hdown := Lib.hid (down_start ho hn)
    have Hslen : Hid ((swp xs 0 n).length = n + 1) := by
      rw [swp_len]
      exact hn
    have Hsperm := Lib.hid (swp_perm (xs := xs) (i := 0) (j := n) (by omega) (by omega))
    have Hslast : Hid (at_ (swp xs 0 n) n = at_ xs 0) := by
      show at_ _ _ = _
      rw [swp_at (by omega) (by omega), if_pos rfl]
    have Hoh := Lib.hid hoh
    have Hh := Lib.hid hh
    have Hoh2 : Hid (¬ Own (.slice (some ⟨g, 0, none⟩) (n + 1) c) (swp xs 0 n) h) := fun h1 => hoh ((own_perm Hsperm.out h).1 h1)
    have m2 := method_swap h _ w Hcell.out
    have n2 := nil_swap h w
    have HZ : Hid (∀ (w1 w2 : World) (zs : List Th), zs.Perm (swp xs 0 n) → (∀ q, n ≤ q → at_ zs q = at_ (swp xs 0 n) q) → PileIs w2 B (.slice (some ⟨g, 0, none⟩) (n + 1) c) zs → Heap n zs → Only (Own (.slice (some ⟨g, 0, none⟩) (n + 1) c) xs) w w1 → Only (Own (.slice (some ⟨g, 0, none⟩) (n + 1) c) (swp xs 0 n)) w1 w2 →
        Calls Try.prog 40 #[.pointer (some ⟨h, 0, none⟩)] w2 (Removed B h g n c c1 c2 c3 xs w)) := fun w1 w2 zs hperm hsame hp2 hheap ho1 ho2 => by
      have hperm2 := hperm.trans Hsperm.out
      have ho3 : Only (Own (.slice (some ⟨g, 0, none⟩) (n + 1) c) xs) w w2 := ho1.trans ho2 (fun k hk => Or.inl ((own_perm Hsperm.out k).1 hk))
      have hh2 : w2.heap[h]? = some (hObj (.slice (some ⟨g, 0, none⟩) (n + 1) c) c1 c2 c3) := (ho3.block h hlth Hoh.out).trans Hh.out
      exact (ppop_any hp2 (hperm2.length_eq.trans Hn.out) hm hh2 (fun h1 => Hoh.out ((own_perm hperm2 h).1 h1))).mono fun e w' => removed_end Hn.out hperm2 ((hsame n (Nat.le_refl _)).trans Hslast.out) hheap ho3 e w'
    clear hp hn ho hh hoh
    go_enter Try.func16, Try.ntmps16
    go_wp2_with (first
      | (go_at_call 36; refine (len_any _ _ _ _).mono ?_; rintro e w2 ⟨rfl, rfl⟩)
      | (go_at_call 38; refine (swap_pile Hp.out Hn.out hm2 hm4 hm3 hne).mono ?_; rintro e w1 ⟨rfl, hp1, ho1⟩; have Hp1 := Lib.hid hp1; have Ho1 := Lib.hid ho1; have Hcell1 := Lib.hid ((ho1.cell hlth Hoh.out 0).trans Hcell.out); have hlt1 := Nat.lt_of_lt_of_le hlth ho1.size; clear hp1 ho1)
      | (go_at_call 19; refine (down_any Hp1.out Hslen.out hm2 hm3 Hdown.out Hcell1.out hlt1 Hoh2.out).mono ?_; rintro e w2 ⟨⟨r, rfl⟩, zs, hperm, hsame, hp2, hheap, ho2⟩; have HP := Lib.hid (HZ.out w1 w2 zs hperm hsame hp2 hheap Ho1.out ho2); have m3 := method_pop (.pointer (some ⟨h, 0, none⟩)) w2; have n3 := nil_pop h w2; clear hperm hsame hp2 hheap ho2)
      | (go_at_call 18; refine (up_zero h _).mono ?_; rintro e w3 ⟨rfl, rfl⟩)
      | (go_at_call 40; refine HP.out.mono ?_; intro e w4 hpo; have Hfin := Lib.hid hpo; have he := Lib.hid hpo.1; obtain rfl := he.out; clear hpo he))
    all_goals
      go_ret
      exact Hfin.out
end Go.Proofs.Ytejmmhaglgmgbaa
