/-
  The contract of the statements' awake.
-/
import Derived.Test.YtadppcmbkccmnaaWAt
namespace Go.Proofs.Ytadppcmbkccmnaa
open Go.ChangeShapes Go.WideShapes Go.ChangeAt Go.RowKit Wh

theorem only_below {O : Nat → Prop} {w w' : World} {B h m k now : Nat} {L : List Tm} (H : AtWheel w B h m L k now O) (ho : Only O w w') (hB : B ≤ w.heap.size) : Below B w w' := ho.below hB fun _ hj => (H.lt hj).1

/-- What stands between the calls. -/
structure St1 (w w' : World) (h m : Nat) (O : Nat → Prop) (L : List Tm) (k now : Nat) : Prop where
  at_ : AtWheel w' w.heap.size h m L k now O
  below : Below w.heap.size w w'

set_option maxRecDepth 100000 in
set_option maxHeartbeats 4000000 in
theorem awake_any (w : World) : Calls Try.prog 5 #[] w fun e w' => e = .returned (.bool true) ∧ Below w.heap.size w w' := by
  have H0 : Hid (Calls Try.prog 6 #[.int .i64 0] w (NewAt w.heap.size 0 w)) := Lib.hid (new_at 0 w (Nat.le_refl _) (by omega))
  have H1 : Hid (∀ (w' : World) h m O, St1 w w' h m O [] 0 0 → Calls Try.prog 13 #[.pointer (some ⟨h, 0, none⟩), .int .i64 3, .int .i64 7] w' fun e w'' => e = .returned (.tuple #[.int .i64 1, .int .i64 0]) ∧ ∃ b O', St1 w w'' h m O' [⟨b, 3, 1, 7⟩] 1 0) := Lib.hid fun w' h m O hs => by
    refine (seton_at hs.at_ (by omega) (by simp) hs.below.size 3 7 (by omega) (by omega)).mono ?_
    rintro e w'' ⟨rfl, b, O', h1, h2, h3⟩
    exact ⟨rfl, b, O', h1, hs.below.trans (only_below hs.at_ h2 hs.below.size)⟩
  have H2 : Hid (∀ (w' : World) h m b O, St1 w w' h m O [⟨b, 3, 1, 7⟩] 1 0 → Calls Try.prog 10 #[.pointer (some ⟨h, 0, none⟩), .int .i64 2] w' fun e w'' => ∃ A c, e = .returned (.tuple #[.slice A 0 c, .int .i64 0]) ∧ ∃ O', St1 w w'' h m O' [⟨b, 3, 1, 7⟩] 1 2) := Lib.hid fun w' h m b O hs => by
    refine (advance_at hs.at_ (by omega) (by simp) hs.below.size 2 (by omega) (by omega)).mono ?_
    rintro e w'' ⟨A, n, c, O', L', D, rfl, a1, a2, a3, a4, a5, a6, a7, a8, a9⟩
    have h1 : D = [] := List.Perm.eq_nil (by simpa [dues] using a3)
    subst h1
    obtain rfl : n = 0 := by simpa using a5.symm
    have h2 : L'.Perm [⟨b, 3, 1, 7⟩] := perm_of_mem (a1.facts.1.imp fun hne e => hne (congrArg Tm.handle e)) (by simp) fun x => by
      rw [a2 x]
      constructor
      · exact fun hx => hx.1
      · intro hx
        refine ⟨hx, ?_⟩
        obtain rfl : x = ⟨b, 3, 1, 7⟩ := by simpa using hx
        simp
    rw [List.perm_singleton.1 h2] at a1
    exact ⟨A, c, rfl, O', a1, hs.below.trans (only_below hs.at_ a9 hs.below.size)⟩
  have H3 : Hid (∀ (w' : World) h m b O, St1 w w' h m O [⟨b, 3, 1, 7⟩] 1 2 → Calls Try.prog 10 #[.pointer (some ⟨h, 0, none⟩), .int .i64 5] w' fun e w'' => ∃ g c, e = .returned (.tuple #[.slice (some ⟨g, 0, none⟩) 1 c, .int .i64 0]) ∧ w''.cell? ⟨g, 2, none⟩ = some (.int .i64 7) ∧ Below w.heap.size w w'') := Lib.hid fun w' h m b O hs => by
    refine (advance_at hs.at_ (by omega) (by simp) hs.below.size 5 (by omega) (by omega)).mono ?_
    rintro e w'' ⟨A, n, c, O', L', D, rfl, a1, a2, a3, a4, a5, a6, a7, a8, a9⟩
    have h1 : D = [((3 : Int), (1 : Int), (7 : Int))] := List.perm_singleton.1 (by simpa [dues, du] using a3)
    subst h1
    obtain rfl : n = 1 := by simpa using a5.symm
    rcases a6.2 with ⟨h2, h3⟩ | ⟨g, cap, cur, hv, _⟩
    · omega
    · simp only [Value.slice.injEq, true_and] at hv
      obtain ⟨rfl, rfl⟩ := hv
      refine ⟨g, c, rfl, ?_, hs.below.trans (only_below hs.at_ a9 hs.below.size)⟩
      rw [a6.cellAt 2 (by omega)]
      rfl
  go_enter Try.func5, Try.ntmps5
  go_wp2_with fail
  refine H0.out.mono ?_
  rintro e w1 ⟨h, m, O, rfl, a1, a2, -⟩
  have S1 : Hid (St1 w w1 h m O [] 0 0) := Lib.hid ⟨a1, a2⟩
  clear a1 a2
  go_wp2_with fail
  refine (H1.out _ _ _ _ S1.out).mono ?_
  rintro e w2 ⟨rfl, b, O2, s2⟩
  have S2 := Lib.hid s2
  clear s2
  go_wp2_with fail
  refine (H2.out _ _ _ _ _ S2.out).mono ?_
  rintro e w3 ⟨A, c, rfl, O3, s3⟩
  have S3 := Lib.hid s3
  clear s3
  go_wp2_with fail
  refine (H3.out _ _ _ _ _ S3.out).mono ?_
  rintro e w4 ⟨g, c4, rfl, hc, hb⟩
  have HB := Lib.hid hb
  clear hb
  go_wp2
  go_ret
  exact ⟨rfl, HB.out⟩
end Go.Proofs.Ytadppcmbkccmnaa
