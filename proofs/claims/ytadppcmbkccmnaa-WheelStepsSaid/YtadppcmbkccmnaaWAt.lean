/-
  A wheel as a list of timers, whatever its slots; what compares it with the document's list.
-/
import Derived.Test.YtadppcmbkccmnaaWWalksJ
import Derived.Test.YtadppcmbkccmnaaWRef
namespace Go.Proofs.Ytadppcmbkccmnaa
open Go.ChangeShapes Go.WideShapes Go.ChangeAt Go.RowKit Wh

/-- Block h is a wheel of these timers at this tick; it lies in the blocks O. -/
def AtWheel (w : World) (B h m : Nat) (L : List Tm) (k now : Nat) (O : Nat → Prop) : Prop := ∃ S X, WheelIs w B h m S X L k now ∧ ∀ j, O j ↔ Mine h m S X j

section
variable {w w' : World} {B h m k now : Nat} {L : List Tm} {O : Nat → Prop}
theorem AtWheel.lt (H : AtWheel w B h m L k now O) {j : Nat} (hj : O j) : B ≤ j ∧ j < w.heap.size := by
  obtain ⟨S, X, h1, h2⟩ := H
  exact h1.mine_lt ((h2 j).1 hj)
theorem AtWheel.kept (H : AtWheel w B h m L k now O) (hb : ∀ j, O j → w'.heap[j]? = w.heap[j]?) : AtWheel w' B h m L k now O := by
  obtain ⟨S, X, h1, h2⟩ := H
  exact ⟨S, X, h1.kept fun j hj => hb j ((h2 j).2 hj), h2⟩
theorem AtWheel.below (H : AtWheel w B h m L k now O) (hb : Below w.heap.size w w') : AtWheel w' B h m L k now O := H.kept fun _ hj => hb.block _ (H.lt hj).2
theorem AtWheel.only (H : AtWheel w B h m L k now O) {T : Nat → Prop} (ho : Only T w w') (hT : ∀ j, O j → ¬ T j) : AtWheel w' B h m L k now O := H.kept fun j hj => ho.block j (H.lt hj).2 (hT j hj)

/-- New. -/
def NewAt (B now : Nat) (w : World) (e : Ending) (w' : World) : Prop := ∃ h m O, e = .returned (.tuple #[.pointer (some ⟨h, 0, none⟩), .int .i64 0]) ∧ AtWheel w' B h m [] 0 now O ∧ Below w.heap.size w w' ∧ ∀ j, O j → w.heap.size ≤ j
theorem new_at (now : Nat) (w : World) (hB : B ≤ w.heap.size) (hn : now ≤ 1048576) : Calls Try.prog 6 #[.int .i64 (now : Nat)] w (NewAt B now w) := by
  refine (new_any now w hn).mono ?_
  rintro e w' ⟨rfl, C, rfl, h1, h2, h3, h4⟩
  refine ⟨_, _, _, rfl, ⟨_, _, made_wheel hB hn h1 h2 h3 h4, fun j => Iff.rfl⟩, ((Below.refl _ _).alloc (Nat.le_refl _) _).alloc (by simp) _, fun j hj => ?_⟩
  rcases hj with h5 | h5 | ⟨i, h5⟩ | ⟨i, x, hx, _⟩
  · omega
  · omega
  · simp [Value.ownBlock] at h5
  · simp at hx

/-- Set. -/
def SetAt (B h m : Nat) (L : List Tm) (k now t : Nat) (what : Int) (O : Nat → Prop) (w : World) (e : Ending) (w' : World) : Prop :=
  e = .returned (.tuple #[.int .i64 ((k : Int) + 1), .int .i64 0]) ∧ ∃ b O', AtWheel w' B h m (⟨b, t, k + 1, what⟩ :: L) (k + 1) now O' ∧ Only O w w' ∧ ∀ j, O' j → O j ∨ w.heap.size ≤ j
theorem seton_at (H : AtWheel w B h m L k now O) (hk : k ≤ 900000) (hlen : L.length ≤ 900000) (hB : B ≤ w.heap.size) (t : Nat) (what : Int) (ht : now < t) (ht2 : t ≤ 2097152) :
    Calls Try.prog 13 #[.pointer (some ⟨h, 0, none⟩), .int .i64 (t : Nat), .int .i64 what] w (SetAt B h m L k now t what O w) := by
  obtain ⟨S, X, h1, h2⟩ := H
  refine (set_any h1 hk hlen hB t what ht ht2).mono ?_
  rintro e w' ⟨rfl, b, S', X', h3, h4, h5⟩
  exact ⟨rfl, b, _, ⟨S', X', h3, fun j => Iff.rfl⟩, h4.mono fun j hj => (h2 j).2 hj, fun j hj => (h5 j hj).imp (fun h6 => (h2 j).2 h6) id⟩
theorem seton_at_bad (H : AtWheel w B h m L k now O) (t what : Int) (ht : t ≤ now ∨ 2097152 < t) :
    Calls Try.prog 13 #[.pointer (some ⟨h, 0, none⟩), .int .i64 t, .int .i64 what] w fun e w' => e = .returned (.tuple #[.int .i64 0, .int .i64 1]) ∧ w = w' := by
  obtain ⟨S, X, h1, h2⟩ := H
  exact set_bad h1 t what ht

/-- Cancel. -/
def GoneAt (B h m : Nat) (L' : List Tm) (k now : Nat) (O : Nat → Prop) (w : World) (e : Ending) (w' : World) : Prop :=
  e = .returned (.bool true) ∧ ∃ O', AtWheel w' B h m L' k now O' ∧ Only O w w' ∧ ∀ j, O' j → O j
theorem cancel_at {L' : List Tm} {x : Tm} (H : AtWheel w B h m L k now O) (hk : k ≤ 900000) (hlen : L.length ≤ 900000) (hL : L.Perm (x :: L')) :
    Calls Try.prog 8 #[.pointer (some ⟨h, 0, none⟩), .int .i64 (x.handle : Nat)] w (GoneAt B h m L' k now O w) := by
  obtain ⟨S, X, h1, h2⟩ := H
  refine (cancel_hit h1 hk hlen hL).mono ?_
  rintro e w' ⟨rfl, S', X', h3, h4, h5⟩
  exact ⟨rfl, _, ⟨S', X', h3, fun j => Iff.rfl⟩, h4.mono fun j hj => (h2 j).2 hj, fun j hj => (h2 j).2 (h5 j hj)⟩
theorem cancel_at_miss (H : AtWheel w B h m L k now O) {q : Int} (h0 : -9223372036854775808 ≤ q) (h1 : q < 9223372036854775808) (hq : ∀ x, x ∈ L → (x.handle : Int) ≠ q) :
    Calls Try.prog 8 #[.pointer (some ⟨h, 0, none⟩), .int .i64 q] w fun e w' => e = .returned (.bool false) ∧ w = w' := by
  obtain ⟨S, X, h3, h4⟩ := H
  exact cancel_miss h3 h0 h1 hq

/-- Advance. -/
def AdvAt (B h m : Nat) (L : List Tm) (k to : Nat) (O : Nat → Prop) (w : World) (e : Ending) (w' : World) : Prop :=
  ∃ A n c O' L' D, e = .returned (.tuple #[.slice A n c, .int .i64 0]) ∧ AtWheel w' B h m L' k to O' ∧ (∀ x, x ∈ L' ↔ x ∈ L ∧ to < x.tick) ∧ D.Perm (dues to L) ∧ Ord D ∧ D.length = n ∧ w'.ownsRow w.heap.size 48 3 (.slice A n c) n (dcells D) ∧
    (∀ j, (Value.slice A n c).ownBlock = some j → ¬ O' j) ∧ (∀ j, O' j → O j ∨ w.heap.size ≤ j) ∧ Only O w w'
theorem advance_at (H : AtWheel w B h m L k now O) (hk : k ≤ 900000) (hlen : L.length ≤ 900000) (hB : B ≤ w.heap.size) (to : Nat) (hle : now ≤ to) (hto : to ≤ 1048576) :
    Calls Try.prog 10 #[.pointer (some ⟨h, 0, none⟩), .int .i64 (to : Nat)] w (AdvAt B h m L k to O w) := by
  obtain ⟨S, X, h1, h2⟩ := H
  refine (advance_any h1 hk hlen hB to hle hto).mono ?_
  rintro e w' ⟨A, n, c, rfl, ⟨S', X', L', D, a1, a2, a3, a4, a5, a6, a7, a8⟩, a9⟩
  exact ⟨A, n, c, _, L', D, rfl, ⟨S', X', a1, fun j => Iff.rfl⟩, a2, a3, a4, a5, a6, a7, fun j hj => (a8 j hj).imp (fun h6 => (h2 j).2 h6) id, a9.mono fun j hj => (h2 j).2 hj⟩
theorem advance_at_bad (H : AtWheel w B h m L k now O) (t : Int) (ht : t < now ∨ 1048576 < t) :
    Calls Try.prog 10 #[.pointer (some ⟨h, 0, none⟩), .int .i64 t] w fun e w' => e = .returned (.tuple #[.slice none 0 0, .int .i64 1]) ∧ w = w' := by
  obtain ⟨S, X, h1, h2⟩ := H
  exact advance_bad h1 t ht

theorem now_at (H : AtWheel w B h m L k now O) : Calls Try.prog 16 #[.pointer (some ⟨h, 0, none⟩)] w fun e w' => e = .returned (.int .i64 (now : Nat)) ∧ w = w' := by
  obtain ⟨S, X, h1, h2⟩ := H
  exact now_any h1
theorem len_at (H : AtWheel w B h m L k now O) : Calls Try.prog 19 #[.pointer (some ⟨h, 0, none⟩)] w fun e w' => e = .returned (.int .i64 (L.length : Nat)) ∧ w = w' := by
  obtain ⟨S, X, h1, h2⟩ := H
  exact len_any2 h1
theorem get_at (H : AtWheel w B h m L k now O) (hk : k ≤ 900000) {x : Tm} (hx : x ∈ L) : Calls Try.prog 17 #[.pointer (some ⟨h, 0, none⟩), .int .i64 (x.handle : Nat)] w (Told (x.tick : Nat) (x.handle : Nat) x.what true w) := by
  obtain ⟨S, X, h1, h2⟩ := H
  exact get_hit h1 hk hx
theorem get_at_miss (H : AtWheel w B h m L k now O) {q : Int} (h0 : -9223372036854775808 ≤ q) (h1 : q < 9223372036854775808) (hq : ∀ x, x ∈ L → (x.handle : Int) ≠ q) : Calls Try.prog 17 #[.pointer (some ⟨h, 0, none⟩), .int .i64 q] w (Told 0 0 0 false w) := by
  obtain ⟨S, X, h3, h4⟩ := H
  exact get_miss h3 h0 h1 hq
theorem next_at (H : AtWheel w B h m L k now O) (hL : L ≠ []) : Calls Try.prog 18 #[.pointer (some ⟨h, 0, none⟩)] w (NextOf L w) := by
  obtain ⟨S, X, h1, h2⟩ := H
  exact next_any h1 hL
theorem next_at_none (H : AtWheel w B h m [] k now O) : Calls Try.prog 18 #[.pointer (some ⟨h, 0, none⟩)] w fun e w' => e = .returned (.tuple #[.int .i64 0, .bool false]) ∧ w = w' := by
  obtain ⟨S, X, h1, h2⟩ := H
  exact next_empty h1 rfl
theorem AtWheel.facts (H : AtWheel w B h m L k now O) : (L.Pairwise fun x y => x.handle ≠ y.handle) ∧ (∀ x, x ∈ L → 1 ≤ x.handle ∧ x.handle ≤ k ∧ now < x.tick ∧ x.tick ≤ 2097152) ∧ now ≤ 1048576 := by
  obtain ⟨S, X, h1, h2⟩ := H
  exact ⟨h1.once, fun x hx => ⟨(h1.handles x hx).1, (h1.handles x hx).2, (h1.tick hx).1, (h1.tick hx).2⟩, h1.low⟩
end

/-! The document's list: in order, each ahead of what follows. -/
def Srt (r : List Du) : Prop := r.Pairwise fun x y => ahd x y = true
theorem ahd_irrefl (x : Du) : ahd x x = false := by simp [ahd]
theorem ahd_asymm {x y : Du} (h : ahd x y = true) : ahd y x = false := by simp [ahd] at *; omega
theorem ahd_trans {x y z : Du} (h : ahd x y = true) (h2 : ahd y z = true) : ahd x z = true := by simp [ahd] at *; omega
theorem ahd_le {x y : Du} (h : ahd x y = true) : x.1 ≤ y.1 := by simp [ahd] at h; omega
/-- One order, one list. -/
theorem srt_one : ∀ {D r : List Du}, D.Perm r → Ord D → Srt r → D = r
  | [], [], _, _, _ => rfl
  | [], b :: s, h, _, _ => by have := h.length_eq; simp at this
  | a :: t, [], h, _, _ => by have := h.length_eq; simp at this
  | a :: t, b :: s, h, hO, hS => by
    obtain ⟨o1, o2⟩ := List.pairwise_cons.1 hO
    obtain ⟨s1, s2⟩ := List.pairwise_cons.1 hS
    have hab : a = b := by
      rcases List.mem_cons.1 (h.mem_iff.1 List.mem_cons_self) with h1 | h1
      · exact h1
      · rcases List.mem_cons.1 (h.mem_iff.2 (List.mem_cons_self : b ∈ b :: s)) with h2 | h2
        · exact h2.symm
        · have h3 := s1 a h1
          rw [o1 b h2] at h3
          cases h3
    subst hab
    rw [srt_one h.cons_inv o2 s2]

/-- How many are due up to a tick. -/
def upto (to : Int) (r : List Du) : Nat := (r.takeWhile fun x => decide (x.1 ≤ to)).length
theorem upto_le (to : Int) (r : List Du) : upto to r ≤ r.length := by
  unfold upto
  exact (List.takeWhile_sublist _).length_le
theorem srt_cut (to : Int) : ∀ {r : List Du}, Srt r → r.take (upto to r) = r.filter (fun x => decide (x.1 ≤ to)) ∧ r.drop (upto to r) = r.filter (fun x => decide (to < x.1)) ∧ (∀ j, j < upto to r → (nth r j).1 ≤ to) ∧ (upto to r < r.length → to < (nth r (upto to r)).1)
  | [], _ => by simp [upto]
  | a :: l, hS => by
    obtain ⟨s1, s2⟩ := List.pairwise_cons.1 hS
    obtain ⟨i1, i2, i3, i4⟩ := srt_cut to s2
    by_cases h : a.1 ≤ to
    · have hu : upto to (a :: l) = upto to l + 1 := by simp [upto, h]
      have h' : ¬ to < a.1 := by omega
      rw [hu]
      refine ⟨by simp [h, i1], by simp [h', i2], fun j hj => ?_, fun hj => ?_⟩
      · cases j with
        | zero => exact h
        | succ j => exact i3 j (by omega)
      · exact i4 (by simp at hj; omega)
    · have hu : upto to (a :: l) = 0 := by simp [upto, h]
      have h' : to < a.1 := by omega
      have hall : ∀ x, x ∈ l → to < x.1 := fun x hx => Int.lt_of_lt_of_le h' (ahd_le (s1 x hx))
      rw [hu]
      refine ⟨?_, ?_, fun j hj => by omega, fun _ => h'⟩
      · rw [List.take_zero]
        symm
        rw [List.filter_eq_nil_iff]
        intro x hx
        rcases List.mem_cons.1 hx with rfl | hx
        · simpa using h'
        · simpa using hall x hx
      · rw [List.drop_zero]
        symm
        rw [List.filter_eq_self]
        intro x hx
        rcases List.mem_cons.1 hx with rfl | hx
        · simpa using h'
        · simpa using hall x hx

/-- Where a timer goes. -/
def spot (d : Du) (r : List Du) : Nat := (r.takeWhile fun x => ahd x d).length
theorem spot_le (d : Du) (r : List Du) : spot d r ≤ r.length := by
  unfold spot
  exact (List.takeWhile_sublist _).length_le
theorem spot_is (d : Du) : ∀ (r : List Du), (∀ j, j < spot d r → ahd (nth r j) d = true) ∧ (spot d r < r.length → ahd (nth r (spot d r)) d = false)
  | [] => by simp [spot]
  | a :: l => by
    obtain ⟨i1, i2⟩ := spot_is d l
    by_cases h : ahd a d = true
    · have hu : spot d (a :: l) = spot d l + 1 := by simp [spot, h]
      rw [hu]
      refine ⟨fun j hj => ?_, fun hj => ?_⟩
      · cases j with
        | zero => exact h
        | succ j => exact i1 j (by omega)
      · exact i2 (by simp at hj; omega)
    · have hu : spot d (a :: l) = 0 := by simp [spot, h]
      rw [hu]
      exact ⟨fun j hj => by omega, fun _ => (by simpa using h : ahd a d = false)⟩
theorem srt_put (d : Du) : ∀ {r : List Du}, Srt r → (∀ x, x ∈ r → x.2.1 ≠ d.2.1) → Srt (r.take (spot d r) ++ d :: r.drop (spot d r))
  | [], _, _ => by simp [spot, Srt]
  | a :: l, hS, hd => by
    obtain ⟨s1, s2⟩ := List.pairwise_cons.1 hS
    by_cases h : ahd a d = true
    · have hu : spot d (a :: l) = spot d l + 1 := by simp [spot, h]
      have ih := srt_put d s2 (fun x hx => hd x (List.mem_cons_of_mem _ hx))
      rw [hu]
      simp only [List.take_succ_cons, List.drop_succ_cons, List.cons_append]
      refine List.pairwise_cons.2 ⟨fun x hx => ?_, ih⟩
      rcases List.mem_append.1 hx with hx | hx
      · exact s1 x (List.mem_of_mem_take hx)
      · rcases List.mem_cons.1 hx with rfl | hx
        · exact h
        · exact s1 x (List.mem_of_mem_drop hx)
    · have hu : spot d (a :: l) = 0 := by simp [spot, h]
      have hne := hd a List.mem_cons_self
      have hda : ahd d a = true := by simp [ahd] at h ⊢; omega
      rw [hu]
      refine List.pairwise_cons.2 ⟨fun x hx => ?_, hS⟩
      rcases List.mem_cons.1 hx with rfl | hx
      · exact hda
      · exact ahd_trans hda (s1 x hx)
theorem put_perm (d : Du) (r : List Du) (i : Nat) : (r.take i ++ d :: r.drop i).Perm (d :: r) := by
  refine List.perm_middle.trans ?_
  rw [List.take_append_drop]
end Go.Proofs.Ytadppcmbkccmnaa
