/-
  Capabilities as a list, in the order in which they were put: what each call answers and makes of it (plain functions, plain facts).
-/
import Derived.Test.YthblldojbgeknaaRows
namespace Go.Proofs.Ythblldojbgeknaa

/-- One: its turn, the turn of what it comes of, where it stands, to what, with which rights. -/
structure Nd where
  id : Nat
  up : Nat
  en : Nat
  sl : Nat
  k : Int
  o : Int
  r : Nat
/-- All of them, and how many were ever put. -/
structure Fo where
  l : List Nd
  p : Nat
def Nd.on (e s : Int) (x : Nd) : Bool := decide ((x.en : Int) = e) && decide ((x.sl : Int) = s)
def fd (L : List Nd) (e s : Int) : Option Nd := L.find? (Nd.on e s)
def hk : Option Nd → Int | none => 0 | some x => x.k
def ho : Option Nd → Int | none => 0 | some x => x.o
def hr : Option Nd → Int | none => 0 | some x => (x.r : Nat)
def hi : Option Nd → Int | none => 0 | some x => (x.id : Nat)
def hu : Option Nd → Int | none => 0 | some x => (x.up : Nat)
def Apart (L : List Nd) : Prop := L.Pairwise fun x y => ¬ (x.en = y.en ∧ x.sl = y.sl)
structure Wf (F : Fo) : Prop where
  rng : ∀ x ∈ F.l, x.en < 8 ∧ x.sl < 16 ∧ x.r < 16 ∧ 0 < x.id ∧ x.id ≤ F.p ∧ x.up < x.id
  rise : F.l.Pairwise fun x y => x.id < y.id
  apart : Apart F.l

theorem on_iff {x : Nd} {e s : Int} : x.on e s = true ↔ (x.en : Int) = e ∧ (x.sl : Int) = s := by simp [Nd.on]
theorem fd_mem {L : List Nd} {e s : Int} {x : Nd} (h : fd L e s = some x) : x ∈ L ∧ (x.en : Int) = e ∧ (x.sl : Int) = s := ⟨List.mem_of_find?_eq_some h, on_iff.1 (List.find?_some h)⟩
theorem fd_of {L : List Nd} (h : Apart L) {x : Nd} (hx : x ∈ L) : fd L x.en x.sl = some x := by
  induction L with
  | nil => simp at hx
  | cons y L ih =>
    have h1 := List.pairwise_cons.1 h
    unfold fd
    rw [List.find?_cons]
    cases hy : y.on x.en x.sl with
    | true =>
      rcases List.mem_cons.1 hx with rfl | hx
      · rfl
      · obtain ⟨a, b⟩ := on_iff.1 hy
        exact absurd ⟨by omega, by omega⟩ (h1.1 x hx)
    | false =>
      rcases List.mem_cons.1 hx with rfl | hx
      · have := on_iff (x := x) (e := x.en) (s := x.sl)
        rw [hy] at this
        simp at this
      · exact ih h1.2 hx
theorem fd_none {L : List Nd} {e s : Int} (h : fd L e s = none) : ∀ x ∈ L, ¬ ((x.en : Int) = e ∧ (x.sl : Int) = s) := fun x hx h2 => by
  have := List.find?_eq_none.1 h x hx
  exact this (on_iff.2 h2)
theorem fd_push (L : List Nd) (x : Nd) (e s : Int) : fd (L ++ [x]) e s = (fd L e s).or (if x.on e s then some x else none) := by
  unfold fd
  rw [List.find?_append]
  congr 1
  rw [List.find?_cons]
  cases x.on e s <;> simp
theorem fd_cut {A B : List Nd} {x : Nd} (h : Apart (A ++ x :: B)) (e s : Int) : fd (A ++ B) e s = if x.on e s then none else fd (A ++ x :: B) e s := by
  have hp := List.pairwise_append.1 h
  have hc := List.pairwise_cons.1 hp.2.1
  by_cases hx : x.on e s = true
  · rw [if_pos hx]
    obtain ⟨a, b⟩ := on_iff.1 hx
    refine List.find?_eq_none.2 fun y hy hyo => ?_
    obtain ⟨c, d⟩ := on_iff.1 hyo
    rcases List.mem_append.1 hy with hy | hy
    · exact hp.2.2 y hy x (List.mem_cons_self ..) ⟨by omega, by omega⟩
    · exact hc.1 y hy ⟨by omega, by omega⟩
  · rw [if_neg hx]
    unfold fd
    rw [List.find?_append, List.find?_append, List.find?_cons]
    rw [Bool.not_eq_true] at hx
    rw [hx]
theorem Apart.cut {A B : List Nd} {x : Nd} (h : Apart (A ++ x :: B)) : Apart (A ++ B) := h.sublist (List.Sublist.append (List.Sublist.refl _) (List.sublist_cons_self _ _))
theorem Wf.empty : Wf ⟨[], 0⟩ := ⟨by simp, List.Pairwise.nil, List.Pairwise.nil⟩
theorem Wf.cut {A B : List Nd} {x : Nd} {p : Nat} (h : Wf ⟨A ++ x :: B, p⟩) : Wf ⟨A ++ B, p⟩ := by
  have hs : (A ++ B).Sublist (A ++ x :: B) := List.Sublist.append (List.Sublist.refl _) (List.sublist_cons_self _ _)
  exact ⟨fun y hy => h.rng y (hs.subset hy), h.rise.sublist hs, h.apart.sublist hs⟩
theorem Wf.sub {L M : List Nd} {p : Nat} (h : Wf ⟨L, p⟩) (hs : M.Sublist L) : Wf ⟨M, p⟩ := ⟨fun y hy => h.rng y (hs.subset hy), h.rise.sublist hs, h.apart.sublist hs⟩
theorem Wf.same_id {F : Fo} (h : Wf F) {x y : Nd} (hx : x ∈ F.l) (hy : y ∈ F.l) (e : x.id = y.id) : x = y := by
  have h1 := h.rise
  generalize F.l = L at *
  clear h
  induction L with
  | nil => simp at hx
  | cons z L ih =>
    obtain ⟨a, b⟩ := List.pairwise_cons.1 h1
    rcases List.mem_cons.1 hx with h2 | h2
    · rcases List.mem_cons.1 hy with h3 | h3
      · exact h2.trans h3.symm
      · have := a y h3
        subst h2
        omega
    · rcases List.mem_cons.1 hy with h3 | h3
      · have := a x h2
        subst h3
        omega
      · exact ih h2 h3 b
/-- What is there has a turn. -/
theorem Wf.there {F : Fo} (h : Wf F) (e s : Int) : decide (0 < hi (fd F.l e s)) = (fd F.l e s).isSome := by
  cases hx : fd F.l e s with
  | none => rfl
  | some x =>
    have := (h.rng x (fd_mem hx).1).2.2.2.1
    simp [hi, this]

/-! Putting. -/
def inS (e s : Int) : Bool := (decide (0 ≤ e) && decide (e ≤ 7)) && (decide (0 ≤ s) && decide (s ≤ 15))
theorem inS_iff {e s : Int} : inS e s = true ↔ (0 ≤ e ∧ e ≤ 7) ∧ 0 ≤ s ∧ s ≤ 15 := by simp [inS]
theorem Wf.fd_out {F : Fo} (h : Wf F) {e s : Int} (ho : inS e s = false) : fd F.l e s = none := by
  cases hx : fd F.l e s with
  | none => rfl
  | some x =>
    obtain ⟨a, b, c⟩ := fd_mem hx
    have := h.rng x a
    have h2 : inS e s = true := inS_iff.2 (by omega)
    rw [ho] at h2
    cases h2
def putE (F : Fo) (e s : Int) : Int := if inS e s = true then (if (fd F.l e s).isSome = true then 7 else 0) else 1
def putF (F : Fo) (e s k o : Int) (r up : Nat) : Fo := if putE F e s = 0 then ⟨F.l ++ [⟨F.p + 1, up, e.toNat, s.toNat, k, o, r⟩], F.p + 1⟩ else F
theorem putE_hit {F : Fo} {e s : Int} (h : putE F e s = 0) : (∃ a b : Nat, e = a ∧ s = b ∧ a < 8 ∧ b < 16) ∧ fd F.l e s = none := by
  unfold putE at h
  by_cases h1 : inS e s = true
  · rw [if_pos h1] at h
    by_cases h2 : (fd F.l e s).isSome = true
    · rw [if_pos h2] at h
      omega
    · have := inS_iff.1 h1
      refine ⟨⟨e.toNat, s.toNat, by omega, by omega, by omega, by omega⟩, ?_⟩
      simpa using h2
  · rw [if_neg h1] at h
    omega
theorem Wf.push {F : Fo} (h : Wf F) {a b : Nat} (ha : a < 8) (hb : b < 16) (hn : fd F.l a b = none) (k o : Int) {r up : Nat} (hr : r < 16) (hu : up ≤ F.p) : Wf ⟨F.l ++ [⟨F.p + 1, up, a, b, k, o, r⟩], F.p + 1⟩ := by
  refine ⟨fun x hx => ?_, ?_, ?_⟩
  · rcases List.mem_append.1 hx with hx | hx
    · have := h.rng x hx
      dsimp only
      omega
    · simp only [List.mem_cons, List.not_mem_nil, or_false] at hx
      subst hx
      dsimp only
      omega
  · refine List.pairwise_append.2 ⟨h.rise, by simp, fun x hx y hy => ?_⟩
    simp only [List.mem_cons, List.not_mem_nil, or_false] at hy
    subst hy
    have := h.rng x hx
    dsimp only
    omega
  · refine List.pairwise_append.2 ⟨h.apart, by simp, fun x hx y hy => ?_⟩
    simp only [List.mem_cons, List.not_mem_nil, or_false] at hy
    subst hy
    have := fd_none hn x hx
    dsimp only
    omega
theorem Wf.put {F : Fo} (h : Wf F) (e s k o : Int) {r up : Nat} (hr : r < 16) (hu : up ≤ F.p) : Wf (putF F e s k o r up) := by
  unfold putF
  by_cases he : putE F e s = 0
  · rw [if_pos he]
    obtain ⟨⟨a, b, rfl, rfl, ha, hb⟩, hn⟩ := putE_hit he
    exact h.push ha hb hn k o hr hu
  · rw [if_neg he]
    exact h
theorem putF_p (F : Fo) (e s k o : Int) (r up : Nat) : (putF F e s k o r up).p ≤ F.p + 1 := by
  unfold putF
  split
  · exact Nat.le_refl _
  · exact Nat.le_succ _

/-! Rights. -/
def mayB (r R : Int) : Bool := decide (bits .and .i64 r R = R)
def orB (R n : Int) : Int := bits .or .i64 R n
def rightB (k o r : Int) : Bool := (decide (1 ≤ k) && decide (k ≤ 4)) && ((decide (0 ≤ o) && decide (o ≤ 31)) && (decide (0 ≤ r) && decide (r ≤ 15)))

/-! Taking away. -/
def takeGo (q : Nd → Bool) : List Nat → List Nd → List Nd × List Nd
  | _, [] => ([], [])
  | T, x :: l => if q x || T.contains x.up then ((takeGo q (T ++ [x.id]) l).1, x :: (takeGo q (T ++ [x.id]) l).2) else (x :: (takeGo q T l).1, (takeGo q T l).2)
def tkF (q : Nd → Bool) (F : Fo) : Fo := ⟨(takeGo q [] F.l).1, F.p⟩
def tkW (q : Nd → Bool) (F : Fo) : List Nd := (takeGo q [] F.l).2
theorem takeGo_sub (q : Nd → Bool) : ∀ (T : List Nat) (L : List Nd), (takeGo q T L).1.Sublist L
  | _, [] => List.Sublist.refl _
  | T, x :: l => by
    rw [takeGo]
    split
    · exact (takeGo_sub q _ l).trans (List.sublist_cons_self _ _)
    · exact (takeGo_sub q T l).cons_cons x
theorem Wf.tk {F : Fo} (h : Wf F) (q : Nd → Bool) : Wf (tkF q F) := Wf.sub (L := F.l) h (takeGo_sub q [] F.l)
theorem takeGo_mem (q : Nd → Bool) : ∀ (T : List Nat) (L : List Nd) (x : Nd), x ∈ L → x ∈ (takeGo q T L).1 ∨ x ∈ (takeGo q T L).2
  | _, [], x, h => by simp at h
  | T, y :: l, x, h => by
    rw [takeGo]
    rcases List.mem_cons.1 h with rfl | h
    · split <;> simp
    · split
      · rcases takeGo_mem q (T ++ [y.id]) l x h with h2 | h2
        · exact Or.inl h2
        · exact Or.inr (List.mem_cons_of_mem _ h2)
      · rcases takeGo_mem q T l x h with h2 | h2
        · exact Or.inl (List.mem_cons_of_mem _ h2)
        · exact Or.inr h2
theorem takeGo_went (q : Nd → Bool) : ∀ (T : List Nat) (L : List Nd) (x : Nd), x ∈ (takeGo q T L).2 → x ∈ L ∧ (q x = true ∨ x.up ∈ T ∨ ∃ y ∈ (takeGo q T L).2, y.id = x.up)
  | _, [], x, h => by simp [takeGo] at h
  | T, y :: l, x, h => by
    rw [takeGo] at h ⊢
    split at h
    · rename_i hc
      rw [if_pos hc]
      dsimp only at h ⊢
      rcases List.mem_cons.1 h with rfl | h
      · refine ⟨List.mem_cons_self .., ?_⟩
        rcases Bool.or_eq_true_iff.1 hc with h1 | h1
        · exact Or.inl h1
        · exact Or.inr (Or.inl (by simpa using h1))
      · obtain ⟨h1, h2⟩ := takeGo_went q _ l x h
        refine ⟨List.mem_cons_of_mem _ h1, ?_⟩
        rcases h2 with h2 | h2 | ⟨z, h2, h3⟩
        · exact Or.inl h2
        · rcases List.mem_append.1 h2 with h2 | h2
          · exact Or.inr (Or.inl h2)
          · simp only [List.mem_cons, List.not_mem_nil, or_false] at h2
            exact Or.inr (Or.inr ⟨y, List.mem_cons_self .., h2.symm⟩)
        · exact Or.inr (Or.inr ⟨z, List.mem_cons_of_mem _ h2, h3⟩)
    · rename_i hc
      rw [if_neg hc]
      dsimp only at h ⊢
      obtain ⟨h1, h2⟩ := takeGo_went q _ l x h
      exact ⟨List.mem_cons_of_mem _ h1, h2⟩
theorem takeGo_kept (q : Nd → Bool) : ∀ (T : List Nat) (L : List Nd) (x : Nd), L.Pairwise (fun x y => x.id < y.id) → x ∈ (takeGo q T L).1 → x ∈ L ∧ q x = false ∧ x.up ∉ T ∧ ∀ y ∈ (takeGo q T L).2, y.id < x.id → y.id ≠ x.up
  | _, [], x, _, h => by simp [takeGo] at h
  | T, y :: l, x, hp, h => by
    obtain ⟨ha, hb⟩ := List.pairwise_cons.1 hp
    rw [takeGo] at h ⊢
    split at h
    · rename_i hc
      rw [if_pos hc]
      dsimp only at h ⊢
      obtain ⟨h1, h2, h3, h4⟩ := takeGo_kept q _ l x hb h
      refine ⟨List.mem_cons_of_mem _ h1, h2, fun h5 => h3 (List.mem_append_left _ h5), fun z hz hlt => ?_⟩
      rcases List.mem_cons.1 hz with rfl | hz
      · exact fun e => h3 (List.mem_append_right _ (by simp [e]))
      · exact h4 z hz hlt
    · rename_i hc
      rw [if_neg hc]
      dsimp only at h ⊢
      rcases List.mem_cons.1 h with rfl | h
      · simp only [Bool.or_eq_true, not_or, Bool.not_eq_true] at hc
        refine ⟨List.mem_cons_self .., hc.1, ?_, fun z hz hlt => ?_⟩
        · have := hc.2
          simpa using this
        · have := ha z (takeGo_went q _ l z hz).1
          omega
      · obtain ⟨h1, h2, h3, h4⟩ := takeGo_kept q _ l x hb h
        exact ⟨List.mem_cons_of_mem _ h1, h2, h3, h4⟩
theorem takeGo_filter (q P : Nd → Bool) : ∀ (T : List Nat) (L : List Nd), (∀ A x B, L = A ++ x :: B → P x = (q x || (T ++ (A.filter P).map (·.id)).contains x.up)) → takeGo q T L = (L.filter (fun x => !P x), L.filter P)
  | _, [], _ => rfl
  | T, y :: l, h => by
    have h0 := h [] y l rfl
    simp only [List.filter_nil, List.map_nil, List.append_nil] at h0
    rw [takeGo, ← h0]
    by_cases hP : P y = true
    · rw [if_pos hP, takeGo_filter q P (T ++ [y.id]) l (fun A x B e => by
        have := h (y :: A) x B (by rw [e]; rfl)
        rw [this, List.filter_cons_of_pos hP]
        simp)]
      rw [List.filter_cons_of_pos hP, List.filter_cons_of_neg (by simp [hP])]
    · rw [if_neg hP, takeGo_filter q P T l (fun A x B e => by
        have := h (y :: A) x B (by rw [e]; rfl)
        rw [this, List.filter_cons_of_neg hP])]
      rw [List.filter_cons_of_neg hP, List.filter_cons_of_pos (by simp [hP])]

/-! Rows. -/
def rowTo (L : List Nd) (e : Int) (n : Nat) : List Nd := (List.range n).filterMap fun s => fd L e (s : Nat)
def rowN (L : List Nd) (e : Int) : List Nd := rowTo L e 16
theorem rowTo_succ (L : List Nd) (e : Int) (n : Nat) : rowTo L e (n + 1) = rowTo L e n ++ (fd L e (n : Nat)).toList := by
  unfold rowTo
  rw [List.range_succ, List.filterMap_append, List.filterMap_cons]
  cases fd L e (n : Nat) <;> rfl
theorem rowTo_len (L : List Nd) (e : Int) : ∀ n, (rowTo L e n).length ≤ n
  | 0 => Nat.le_refl _
  | n + 1 => by
    rw [rowTo_succ, List.length_append]
    have := rowTo_len L e n
    cases fd L e (n : Nat) <;> simp <;> omega
theorem row_mem {F : Fo} (h : Wf F) {e : Int} {x : Nd} : x ∈ rowN F.l e ↔ x ∈ F.l ∧ (x.en : Int) = e := by
  constructor
  · intro hx
    obtain ⟨s, hs, h2⟩ := List.mem_filterMap.1 hx
    obtain ⟨a, b, c⟩ := fd_mem h2
    exact ⟨a, b⟩
  · rintro ⟨hx, rfl⟩
    refine List.mem_filterMap.2 ⟨x.sl, ?_, fd_of h.apart hx⟩
    exact List.mem_range.2 (h.rng x hx).2.1
theorem row_rise (L : List Nd) (e : Int) (n : Nat) : (rowTo L e n).Pairwise fun x y => x.sl < y.sl := by
  refine List.pairwise_filterMap.2 (List.pairwise_lt_range.imp fun {a b} hab x hx y hy => ?_)
  have := (fd_mem hx).2.2
  have := (fd_mem hy).2.2
  omega
def ordTo (L : List Nd) (n : Nat) : List Nd := (List.range n).flatMap fun e => rowN L (e : Nat)
def ordN (L : List Nd) : List Nd := ordTo L 8
theorem ordTo_succ (L : List Nd) (n : Nat) : ordTo L (n + 1) = ordTo L n ++ rowN L (n : Nat) := by
  unfold ordTo
  rw [List.range_succ, List.flatMap_append]
  simp
theorem ordTo_len (L : List Nd) : ∀ n, (ordTo L n).length ≤ n * 16
  | 0 => Nat.le_refl _
  | n + 1 => by
    rw [ordTo_succ, List.length_append]
    have := ordTo_len L n
    have := rowTo_len L (n : Nat) 16
    unfold rowN
    omega
theorem ord_perm {F : Fo} (h : Wf F) : (ordN F.l).Perm F.l := by
  refine (List.perm_ext_iff_of_nodup ?_ ?_).2 fun x => ?_
  · refine List.pairwise_flatMap.2 ⟨fun e _ => (row_rise F.l e 16).imp fun {a b} hab e => ?_, List.pairwise_lt_range.imp fun {a b} hab x hx y hy e => ?_⟩
    · subst e
      omega
    · subst e
      have := ((row_mem h).1 hx).2
      have := ((row_mem h).1 hy).2
      omega
  · exact h.rise.imp fun {a b} hab e => by
      subst e
      omega
  · constructor
    · intro hx
      obtain ⟨e, -, h2⟩ := List.mem_flatMap.1 hx
      exact ((row_mem h).1 h2).1
    · intro hx
      exact List.mem_flatMap.2 ⟨x.en, List.mem_range.2 (h.rng x hx).1, (row_mem h).2 ⟨hx, rfl⟩⟩
/-- A slot as it is told. -/
abbrev Sl := Int × Int × Int × Int × Int
def Nd.s (x : Nd) : Sl := (x.en, x.sl, x.k, x.o, x.r)
def keyS (L : List Nd) (s : Sl) : Int := hi (fd L s.1 s.2.1)
theorem keyS_of {L : List Nd} (h : Apart L) {x : Nd} (hx : x ∈ L) : keyS L x.s = (x.id : Nat) := by
  show hi (fd L x.en x.sl) = _
  rw [fd_of h hx]
  rfl
theorem ord_eq {F : Fo} (h : Wf F) {d : List Sl} (hd : d.Perm ((ordN F.l).map Nd.s)) (hs : d.Pairwise fun x y => keyS F.l x ≤ keyS F.l y) : d = F.l.map Nd.s := by
  have hp : d.Perm (F.l.map Nd.s) := hd.trans ((ord_perm h).map _)
  refine List.Perm.eq_of_pairwise (le := fun x y => keyS F.l x ≤ keyS F.l y) (fun a b ha hb h1 h2 => ?_) hs ?_ hp
  · obtain ⟨x, hx, rfl⟩ := List.mem_map.1 (hp.mem_iff.1 ha)
    obtain ⟨y, hy, rfl⟩ := List.mem_map.1 hb
    rw [keyS_of h.apart hx, keyS_of h.apart hy] at h1 h2
    rw [h.same_id hx hy (by omega)]
  · rw [List.pairwise_map]
    refine List.pairwise_iff_forall_sublist.2 fun {a b} hab => ?_
    have h1 := List.pairwise_iff_forall_sublist.1 h.rise hab
    have ha : a ∈ F.l := hab.subset (by simp)
    have hb : b ∈ F.l := hab.subset (by simp)
    rw [keyS_of h.apart ha, keyS_of h.apart hb]
    omega
/-- All rights to a thing, together. -/
def Nd.to_ (k o : Int) (x : Nd) : Bool := decide (x.k = k) && decide (x.o = o)
def findGo (k o : Int) (a : Int) (l : List Nd) : Int := l.foldl (fun a x => if x.to_ k o = true then bits .or .i64 a x.r else a) a
def findV (L : List Nd) (e k o : Int) : Int := findGo k o 0 (rowN L e)
end Go.Proofs.Ythblldojbgeknaa
