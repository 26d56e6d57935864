/-
  The two loops of WheelSteps: what holds at their rounds' heads; a list of uint16.
-/
import Derived.Test.YtadppcmbkccmnaaWPair
namespace Go.Proofs.Ytadppcmbkccmnaa
open Go.ChangeShapes Go.WideShapes Go.ChangeAt Go.RowKit Wh

/-- A list of uint16. -/
def short (l : List Int) (i : Nat) : Int := l.getD i 0
structure Shorts (B : Nat) (w : World) (A : Option Addr) (l : List Int) : Prop where
  at_ : 0 < l.length → ∃ b o, A = some ⟨b, o, none⟩ ∧ b < B ∧ ∀ i, i < l.length → w.cell? ⟨b, o + i, none⟩ = some (.int .u16 (short l i))
  bd : ∀ i, i < l.length → 0 ≤ short l i ∧ short l i < 65536

/-- Two wheels that were set alike. -/
structure Sets (w : World) (h m h2 m2 i nw : Nat) (L L2 : List Tm) (k : Nat) (O O2 : Nat → Prop) (r : List Du) (wr : World) : Prop where
  pair : Pair w h m L k nw O h2 m2 L2 k nw O2 wr
  p1 : r.Perm (L.map du)
  p2 : r.Perm (L2.map du)
  srt : Srt r
  told : k ≤ i
  few : r.length ≤ i
section
variable {w wr w2 : World} {h m k nw h2 m2 i t b b2 : Nat} {L L2 : List Tm} {O O2 O' O2' : Nat → Prop} {r : List Du} {what : Int}
theorem Sets.few1 (S : Sets w h m h2 m2 i nw L L2 k O O2 r wr) : L.length ≤ i := by
  have h1 := S.p1.length_eq
  have h2 := S.few
  rw [List.length_map] at h1
  omega
theorem Sets.few2 (S : Sets w h m h2 m2 i nw L L2 k O O2 r wr) : L2.length ≤ i := by
  have h1 := S.p2.length_eq
  have h2 := S.few
  rw [List.length_map] at h1
  omega
theorem sets_stay (S : Sets w h m h2 m2 i nw L L2 k O O2 r wr) : Sets w h m h2 m2 (i + 1) nw L L2 k O O2 r wr := ⟨S.pair, S.p1, S.p2, S.srt, by have := S.told; omega, by have := S.few; omega⟩
theorem sets_next (S : Sets w h m h2 m2 i nw L L2 k O O2 r wr) (P : Pair w h m (⟨b, t, k + 1, what⟩ :: L) (k + 1) nw O' h2 m2 (⟨b2, t, k + 1, what⟩ :: L2) (k + 1) nw O2' w2) :
    ∃ r', Sets w h m h2 m2 (i + 1) nw (⟨b, t, k + 1, what⟩ :: L) (⟨b2, t, k + 1, what⟩ :: L2) (k + 1) O' O2' r' w2 := by
  have hd : ((t : Int), ((k + 1 : Nat) : Int), what) = du ⟨b, t, k + 1, what⟩ := rfl
  refine ⟨r.take (spot ((t : Int), ((k + 1 : Nat) : Int), what) r) ++ ((t : Int), ((k + 1 : Nat) : Int), what) :: r.drop (spot ((t : Int), ((k + 1 : Nat) : Int), what) r), P, ?_, ?_, ?_, by have := S.told; omega, ?_⟩
  · exact (put_perm _ r _).trans (S.p1.cons _)
  · exact (put_perm _ r _).trans (S.p2.cons _)
  · refine srt_put _ S.srt fun x hx e => ?_
    obtain ⟨y, hy, e2⟩ := List.mem_map.1 (S.p1.mem_iff.1 hx)
    have h6 := (S.pair.a.facts.2.1 y hy).2.1
    rw [← e2] at e
    simp only [du] at e
    omega
  · have h1 := (put_perm ((t : Int), ((k + 1 : Nat) : Int), what) r (spot ((t : Int), ((k + 1 : Nat) : Int), what) r)).length_eq
    have h2 := S.few
    rw [List.length_cons] at h1
    omega
end

/-- What was due in stages, so far. -/
structure Stage (w : World) (h m E k : Nat) (r : List Du) (X : Option Addr) (B U u nw : Nat) (L : List Tm) (O : Nat → Prop) (Y : Option Addr) (c : Nat) (wr : World) : Prop where
  cuts : Cuts w h m L k nw O (r.take U) X (r.take u) Y u c B wr
  perm : (r.drop u).Perm (L.map du)
  le : u ≤ U
  now : nw ≤ E
section
variable {w wr w2 : World} {h m E k B U u nw c : Nat} {L : List Tm} {O : Nat → Prop} {r : List Du} {X Y : Option Addr}
theorem Stage.few (S : Stage w h m E k r X B U u nw L O Y c wr) (hr : r.length ≤ 40) : L.length ≤ 40 := by
  have h1 := S.perm.length_eq
  rw [List.length_map, List.length_drop] at h1
  omega
/-- Advance, and append of what it hands back. -/
theorem stage_advance {to : Nat} (S : Stage w h m E k r X B U u nw L O Y c wr) (hk : k ≤ 900000) (hr : r.length ≤ 40) (hS : Srt r) (hU : upto (E : Int) r = U) (hle : nw ≤ to) (hto : to ≤ E) (hE : E ≤ 1048576) :
    Calls Try.prog 10 #[.pointer (some ⟨h, 0, none⟩), .int .i64 (to : Nat)] wr fun e w' => ∃ p Z cz, e = .returned (.tuple #[.slice Z p cz, .int .i64 0]) ∧ ∃ O' L', Cuts w h m L' k to O' (r.take U) X (r.take u) Y u c B w' ∧
      Dus (fun _ => True) w' Z ((r.drop u).take p) ∧ ((r.drop u).take p).length = p ∧ (Z = none → p = 0 ∧ cz = 0) ∧ u + p ≤ U ∧ U ≤ 40 ∧ (to = E → u + p = U) ∧ ∀ w2 Y' c', Cuts w h m L' k to O' (r.take U) X (r.take u ++ (r.drop u).take p) Y' (u + p) c' B w2 → Stage w h m E k r X B U (u + p) to L' O' Y' c' w2 := by
  have hL := S.few hr
  refine (cuts_advance S.cuts hk (by omega) hle (by omega) S.perm (hS.sublist (List.drop_sublist _ _))).mono ?_
  rintro e w' ⟨Z, cz, rfl, O', L', a1, a2, a3, a4, a5⟩
  have h1 := upto_le (to : Int) (r.drop u)
  have h2 : u + upto (to : Int) (r.drop u) ≤ U := by
    rw [← hU]
    exact upto_stage (by rw [hU]; exact S.le) (by omega)
  have h3 := upto_le (E : Int) r
  refine ⟨_, Z, cz, rfl, O', L', a1, a2, by rw [List.length_take]; omega, a3, h2, by omega, fun e => ?_, fun w2 Y' c' C => ⟨?_, ?_, h2, hto⟩⟩
  · subst e
    have := upto_drop (to : Int) r u (by rw [hU]; exact S.le)
    omega
  · rw [take_stage] at C
    exact C
  · rw [drop_stage] at a4
    exact a4
end
end Go.Proofs.Ytadppcmbkccmnaa
