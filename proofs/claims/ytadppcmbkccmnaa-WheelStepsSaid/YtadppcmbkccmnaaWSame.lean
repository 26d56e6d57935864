/-
  Contracts of what the statements compare with: is, same.
-/
import Derived.Test.YtadppcmbkccmnaaWAt
namespace Go.Proofs.Ytadppcmbkccmnaa
open Go.ChangeShapes Go.WideShapes Go.ChangeAt Go.RowKit Wh

set_option maxHeartbeats 1000000 in
theorem is_any {T T2 : Nat → Prop} {w : World} {A A2 : Option Addr} {n c c2 : Nat} {r : List Du} (h1 : Dus T w A r) (h2 : Dus T2 w A2 r) (hn : r.length = n) (hm : n ≤ 1000000) :
    Calls Try.prog 12 #[.slice A n c, .slice A2 n c2] w fun e w' => e = .returned (.bool true) ∧ ∃ q, w' = w.drewN q := by
  have H1 := Lib.hid h1
  have H2 := Lib.hid h2
  have Hn := Lib.hid hn
  clear h1 h2 hn
  have hn1 : (n : Int) ≤ 1000000 := by omega
  have hnn : ((n : Int) == n) = true := by simp
  go_enter Try.func12, Try.ntmps12
  go_wp2
  go_loopw [5] (fun u wr => ∃ (k q : Nat), k ≤ n ∧ u = .int .i64 (k : Nat) ∧ wr = w.drewN q) (fun u _ => n - (intOf u).toNat)
  case atStart => exact ⟨0, 0, Nat.zero_le _, rfl, rfl⟩
  case round =>
    obtain ⟨k, q, hk, rfl, rfl⟩ := hrel
    by_cases hlt : k < n
    · obtain ⟨b, o, rfl, -, c1⟩ := H1.out.cells (by rw [Hn.out]; omega)
      obtain ⟨b2, o2, rfl, -, c2⟩ := H2.out.cells (by rw [Hn.out]; omega)
      obtain ⟨x0, x1, x2⟩ := c1 k (by rw [Hn.out]; exact hlt)
      obtain ⟨y0, y1, y2⟩ := c2 k (by rw [Hn.out]; exact hlt)
      clear c1 c2
      have k0 : (0 : Int) ≤ k := by omega
      have k1 : (k : Int) < n := by omega
      generalize (nth r k).1 = x at *
      generalize (nth r k).2.1 = y at *
      generalize (nth r k).2.2 = z at *
      have hq : ∀ w : World, (binOp .neq 48 (.agg #[.int .i64 x, .int .i64 y, .int .i64 z]) (.agg #[.int .i64 x, .int .i64 y, .int .i64 z])).run Try.prog w = .ok (.bool false) w := fun w => by
        have := due_neq x y z x y z w
        simpa using this
      go_wp2
      go_quiet (fail)
      go_wp2
      go_roundw
      case rel => exact ⟨k + 1, q + nq, by omega, by go_num, rfl⟩
      case measure => simp [intOf]; omega
    · obtain rfl : k = n := by omega
      go_wp2
      go_ret
      exact ⟨rfl, q, rfl⟩

theorem first_least {L : List Tm} {r : List Du} (hp : r.Perm (L.map du)) (hS : Srt r) {x : Tm} (hx : x ∈ L) (hlow : ∀ y, y ∈ L → x.tick ≤ y.tick) : (nth r 0).1 = (x.tick : Int) := by
  have hmem : du x ∈ r := hp.mem_iff.2 (List.mem_map.2 ⟨x, hx, rfl⟩)
  cases r with
  | nil => simp at hmem
  | cons a l =>
    show a.1 = _
    obtain ⟨s1, s2⟩ := List.pairwise_cons.1 hS
    obtain ⟨y, hy, e⟩ := List.mem_map.1 (hp.mem_iff.1 (List.mem_cons_self : a ∈ a :: l))
    have h1 := hlow y hy
    have h2 : a.1 = (y.tick : Int) := by rw [← e]; rfl
    have h3 : a.1 ≤ (x.tick : Int) := by
      rcases List.mem_cons.1 hmem with h4 | h4
      · rw [← h4]
        exact Int.le_refl _
      · exact ahd_le (s1 _ h4)
    omega
theorem place_of {L : List Tm} {r : List Du} (hp : r.Perm (L.map du)) (hone : L.Pairwise fun x y => x.handle ≠ y.handle) {x : Tm} (hx : x ∈ L) : ∃ i, i < r.length ∧ nth r i = du x ∧ ∀ j, j < i → (nth r j).2.1 ≠ (x.handle : Int) := by
  have hmem : du x ∈ r := hp.mem_iff.2 (List.mem_map.2 ⟨x, hx, rfl⟩)
  obtain ⟨i, hi, e⟩ := List.getElem_of_mem hmem
  have hne : r.Pairwise fun a b => a.2.1 ≠ b.2.1 := by
    refine (hp.pairwise_iff (fun {a b : Du} (h1 : a.2.1 ≠ b.2.1) => h1.symm)).2 ?_
    rw [List.pairwise_map]
    exact hone.imp fun h1 => by
      simp only [du]
      omega
  have hat : ∀ j (hj : j < r.length), nth r j = r[j] := fun j hj => by
    unfold nth
    rw [List.getD_eq_getElem?_getD, List.getElem?_eq_getElem hj]
    rfl
  refine ⟨i, hi, (hat i hi).trans e, fun j hj h1 => ?_⟩
  have h2 := List.pairwise_iff_getElem.1 hne j i (by omega) hi hj
  rw [hat j (by omega)] at h1
  rw [e] at h2
  exact h2 h1
theorem none_of {L : List Tm} {r : List Du} (hp : r.Perm (L.map du)) {q : Int} (hq : ∀ x, x ∈ L → (x.handle : Int) ≠ q) : ∀ j, j < r.length → (nth r j).2.1 ≠ q := fun j hj h1 => by
  obtain ⟨y, hy, e⟩ := List.mem_map.1 (hp.mem_iff.1 (nth_mem hj))
  refine hq y hy ?_
  rw [← h1, ← e]
  rfl
set_option maxRecDepth 100000 in
set_option maxHeartbeats 4000000 in
theorem same_hit {w : World} {B h m k now : Nat} {L : List Tm} {O : Nat → Prop} {A : Option Addr} {n c : Nat} {r : List Du} (H : AtWheel w B h m L k now O) (hk : k ≤ 900000) (hr : Dus (· < w.heap.size) w A r) (hn : r.length = n) (hm : n ≤ 1000000) (hp : r.Perm (L.map du)) (hS : Srt r) {x : Tm} (hx : x ∈ L) :
    Calls Try.prog 15 #[.pointer (some ⟨h, 0, none⟩), .slice A n c, .int .i64 (now : Nat), .int .i64 (x.handle : Nat)] w fun e w' => e = .returned (.bool true) ∧ Below w.heap.size w w' := by
  have hlen : L.length = n := by rw [← hn, hp.length_eq, List.length_map]
  have HNo : Hid (∀ w', Below w.heap.size w w' → Calls Try.prog 16 #[.pointer (some ⟨h, 0, none⟩)] w' fun e w'' => e = .returned (.int .i64 (now : Nat)) ∧ w' = w'') := Lib.hid fun w' hb => now_at (H.below hb)
  have HLe : Hid (∀ w', Below w.heap.size w w' → Calls Try.prog 19 #[.pointer (some ⟨h, 0, none⟩)] w' fun e w'' => e = .returned (.int .i64 (n : Nat)) ∧ w' = w'') := Lib.hid fun w' hb => by
    have := len_at (H.below hb)
    rwa [hlen] at this
  have hpos : 0 < n := by
    rw [← hlen]
    exact List.length_pos_of_mem hx
  obtain ⟨hone, hfx, hlow⟩ := H.facts
  obtain ⟨i, hi, hix, hif⟩ := place_of hp hone hx
  have HNx : Hid (Calls Try.prog 18 #[.pointer (some ⟨h, 0, none⟩)] w fun e w' => e = .returned (.tuple #[.int .i64 (nth r 0).1, .bool true]) ∧ Below w.heap.size w w') := Lib.hid ((next_at H (List.ne_nil_of_mem hx)).mono fun e w' ⟨y, hy, hl, he, hb⟩ => ⟨by rw [first_least hp hS hy hl]; exact he, hb⟩)
  have HGt : Hid (∀ w', Below w.heap.size w w' → Calls Try.prog 17 #[.pointer (some ⟨h, 0, none⟩), .int .i64 (x.handle : Nat)] w' (Told (x.tick : Nat) (x.handle : Nat) x.what true w')) := Lib.hid fun w' hb => get_at (H.below hb) hk hx
  have HIx : Hid (∀ w', Below w.heap.size w w' → Calls Try.prog 7 #[.slice A n c, .int .i64 (x.handle : Nat)] w' fun e w'' => e = .returned (.int .i64 (i : Nat)) ∧ w' = w'') := Lib.hid fun w' hb => index_hit (hr.kept fun j hj => hb.block j hj) hn hm _ i (by omega) (by rw [hix]; rfl) hif
  obtain ⟨b, o, rfl, hbl, hcell⟩ := hr.cells (by omega)
  have HC : Hid (∀ w', Below w.heap.size w w' → w'.cell? ⟨b, o, none⟩ = some (.int .i64 (nth r 0).1) ∧ w'.cell? ⟨b, o + i * 3, none⟩ = some (.int .i64 (x.tick : Nat)) ∧ w'.cell? ⟨b, o + i * 3 + 1, none⟩ = some (.int .i64 (x.handle : Nat)) ∧ w'.cell? ⟨b, o + i * 3 + 2, none⟩ = some (.int .i64 x.what)) := Lib.hid fun w' hb => by
    obtain ⟨c0, c1, c2⟩ := hcell i hi
    obtain ⟨d0, -, -⟩ := hcell 0 (by omega)
    rw [hix] at c0 c1 c2
    rw [Nat.zero_mul, Nat.add_zero] at d0
    exact ⟨(hb.cell (p := ⟨b, _, none⟩) hbl).trans d0, (hb.cell (p := ⟨b, _, none⟩) hbl).trans c0, (hb.cell (p := ⟨b, _, none⟩) hbl).trans c1, (hb.cell (p := ⟨b, _, none⟩) hbl).trans c2⟩
  have hin : i < n := by omega
  have i0 : (0 : Int) ≤ i := by omega
  have i1 : (i : Int) < n := by omega
  have n1 : (n : Int) ≤ 1000000 := by omega
  have n0 : (0 : Int) < n := by omega
  clear H hk hr hn hp hS hx hone hfx hlow hi hix hif hcell hbl hlen
  generalize (nth r 0).1 = least at *
  generalize (x.tick : Int) = t at *
  generalize (x.handle : Int) = q at *
  generalize x.what = wh at *
  have e1 : ((now : Int) != now) = false := by simp
  have e2 : ((n : Int) != n) = false := by simp
  have e3 : (least != least) = false := by simp
  have e4 : ∀ w : World, (binOp .eql 48 (.agg #[.int .i64 t, .int .i64 q, .int .i64 wh]) (.agg #[.int .i64 t, .int .i64 q, .int .i64 wh])).run Try.prog w = .ok (.bool true) w := fun w => by
    have := due_eql t q wh t q wh w
    simpa using this
  go_enter Try.func15, Try.ntmps15
  go_wp2_with fail
  refine HNx.out.mono ?_
  rintro e w1 ⟨rfl, hb1⟩
  have HB1 := Lib.hid hb1
  clear hb1
  go_wp2_with fail
  refine (HGt.out _ HB1.out).mono ?_
  rintro e w2 ⟨rfl, hb2⟩
  have HB3 : Hid (Below w.heap.size w (w2.alloc (.cells #[.int .i64 t, .int .i64 q, .int .i64 wh] 48))) := Lib.hid ((HB1.out.trans (hb2.mono HB1.out.size)).alloc (Nat.le_trans HB1.out.size hb2.size) _)
  have x0 : (w2.alloc (.cells #[.int .i64 t, .int .i64 q, .int .i64 wh] 48)).cell? ⟨w2.heap.size, 0, none⟩ = some (.int .i64 t) := by simp
  have x1 : (w2.alloc (.cells #[.int .i64 t, .int .i64 q, .int .i64 wh] 48)).cell? ⟨w2.heap.size, 1, none⟩ = some (.int .i64 q) := by simp
  have x2 : (w2.alloc (.cells #[.int .i64 t, .int .i64 q, .int .i64 wh] 48)).cell? ⟨w2.heap.size, 2, none⟩ = some (.int .i64 wh) := by simp
  clear hb2
  go_wp2_with fail
  generalize w2.heap.size = p at *
  generalize w2.alloc (.cells #[.int .i64 t, .int .i64 q, .int .i64 wh] 48) = W at *
  obtain ⟨c0, c1, c2, c3⟩ := HC.out W HB3.out
  go_wp2_with (first
    | (go_at_call 7; refine (HIx.out _ HB3.out).mono ?_; rintro e w3 ⟨rfl, rfl⟩)
    | (go_at_call 16; refine (HNo.out _ HB3.out).mono ?_; rintro e w3 ⟨rfl, rfl⟩)
    | (go_at_call 19; refine (HLe.out _ HB3.out).mono ?_; rintro e w3 ⟨rfl, rfl⟩))
  go_quiet (fail)
  go_wp2
  go_ret
  exact ⟨rfl, below_drawn HB3.out⟩


set_option maxRecDepth 100000 in
set_option maxHeartbeats 4000000 in
theorem same_miss {w : World} {B h m k now : Nat} {L : List Tm} {O : Nat → Prop} {A : Option Addr} {n c : Nat} {r : List Du} (H : AtWheel w B h m L k now O) (hr : Dus (· < w.heap.size) w A r) (hn : r.length = n) (hm : n ≤ 1000000) (hp : r.Perm (L.map du)) (hS : Srt r) (hL : L ≠ []) {q : Int} (q0 : -9223372036854775808 ≤ q) (q1 : q < 9223372036854775808) (hq : ∀ x, x ∈ L → (x.handle : Int) ≠ q) :
    Calls Try.prog 15 #[.pointer (some ⟨h, 0, none⟩), .slice A n c, .int .i64 (now : Nat), .int .i64 q] w fun e w' => e = .returned (.bool true) ∧ Below w.heap.size w w' := by
  have hlen : L.length = n := by rw [← hn, hp.length_eq, List.length_map]
  have HNo : Hid (∀ w', Below w.heap.size w w' → Calls Try.prog 16 #[.pointer (some ⟨h, 0, none⟩)] w' fun e w'' => e = .returned (.int .i64 (now : Nat)) ∧ w' = w'') := Lib.hid fun w' hb => now_at (H.below hb)
  have HLe : Hid (∀ w', Below w.heap.size w w' → Calls Try.prog 19 #[.pointer (some ⟨h, 0, none⟩)] w' fun e w'' => e = .returned (.int .i64 (n : Nat)) ∧ w' = w'') := Lib.hid fun w' hb => by
    have := len_at (H.below hb)
    rwa [hlen] at this
  have hpos : 0 < n := by
    rw [← hlen]
    exact List.length_pos_iff.2 hL
  have HNx : Hid (Calls Try.prog 18 #[.pointer (some ⟨h, 0, none⟩)] w fun e w' => e = .returned (.tuple #[.int .i64 (nth r 0).1, .bool true]) ∧ Below w.heap.size w w') := Lib.hid ((next_at H hL).mono fun e w' ⟨y, hy, hl, he, hb⟩ => ⟨by rw [first_least hp hS hy hl]; exact he, hb⟩)
  have HGt : Hid (∀ w', Below w.heap.size w w' → Calls Try.prog 17 #[.pointer (some ⟨h, 0, none⟩), .int .i64 q] w' (Told 0 0 0 false w')) := Lib.hid fun w' hb => get_at_miss (H.below hb) q0 q1 hq
  have HIx : Hid (∀ w', Below w.heap.size w w' → Calls Try.prog 7 #[.slice A n c, .int .i64 q] w' fun e w'' => e = .returned (.int .i64 (-1)) ∧ w' = w'') := Lib.hid fun w' hb => index_miss (hr.kept fun j hj => hb.block j hj) hn hm _ (fun j hj => none_of hp hq j (by omega))
  obtain ⟨b, o, rfl, hbl, hcell⟩ := hr.cells (by omega)
  have HC : Hid (∀ w', Below w.heap.size w w' → w'.cell? ⟨b, o, none⟩ = some (.int .i64 (nth r 0).1)) := Lib.hid fun w' hb => by
    obtain ⟨d0, -, -⟩ := hcell 0 (by omega)
    rw [Nat.zero_mul, Nat.add_zero] at d0
    exact (hb.cell (p := ⟨b, _, none⟩) hbl).trans d0
  have n1 : (n : Int) ≤ 1000000 := by omega
  have n0 : (0 : Int) < n := by omega
  clear H hr hn hp hS hL hq hcell hbl hlen
  generalize (nth r 0).1 = least at *
  have e1 : ((now : Int) != now) = false := by simp
  have e2 : ((n : Int) != n) = false := by simp
  have e3 : (least != least) = false := by simp
  have e4 : ∀ w : World, (binOp .eql 48 (.agg #[.int .i64 0, .int .i64 0, .int .i64 0]) (.agg #[.int .i64 0, .int .i64 0, .int .i64 0])).run Try.prog w = .ok (.bool true) w := fun w => by
    have := due_eql 0 0 0 0 0 0 w
    simpa using this
  go_enter Try.func15, Try.ntmps15
  go_wp2_with fail
  refine HNx.out.mono ?_
  rintro e w1 ⟨rfl, hb1⟩
  have HB1 := Lib.hid hb1
  clear hb1
  go_wp2_with fail
  refine (HGt.out _ HB1.out).mono ?_
  rintro e w2 ⟨rfl, hb2⟩
  have HB3 : Hid (Below w.heap.size w (w2.alloc (.cells #[.int .i64 0, .int .i64 0, .int .i64 0] 48))) := Lib.hid ((HB1.out.trans (hb2.mono HB1.out.size)).alloc (Nat.le_trans HB1.out.size hb2.size) _)
  have x0 : (w2.alloc (.cells #[.int .i64 0, .int .i64 0, .int .i64 0] 48)).cell? ⟨w2.heap.size, 0, none⟩ = some (.int .i64 0) := by simp
  have x1 : (w2.alloc (.cells #[.int .i64 0, .int .i64 0, .int .i64 0] 48)).cell? ⟨w2.heap.size, 1, none⟩ = some (.int .i64 0) := by simp
  have x2 : (w2.alloc (.cells #[.int .i64 0, .int .i64 0, .int .i64 0] 48)).cell? ⟨w2.heap.size, 2, none⟩ = some (.int .i64 0) := by simp
  clear hb2
  go_wp2_with fail
  generalize w2.heap.size = p at *
  generalize w2.alloc (.cells #[.int .i64 0, .int .i64 0, .int .i64 0] 48) = W at *
  have c0 := HC.out W HB3.out
  go_wp2_with (first
    | (go_at_call 7; refine (HIx.out _ HB3.out).mono ?_; rintro e w3 ⟨rfl, rfl⟩)
    | (go_at_call 16; refine (HNo.out _ HB3.out).mono ?_; rintro e w3 ⟨rfl, rfl⟩)
    | (go_at_call 19; refine (HLe.out _ HB3.out).mono ?_; rintro e w3 ⟨rfl, rfl⟩))
  go_quiet (fail)
  go_wp2
  go_ret
  exact ⟨rfl, below_drawn HB3.out⟩


set_option maxRecDepth 100000 in
set_option maxHeartbeats 4000000 in
theorem same_empty {w : World} {B h m k now : Nat} {L : List Tm} {O : Nat → Prop} {A : Option Addr} {n c : Nat} {r : List Du} (H : AtWheel w B h m L k now O) (hr : Dus (· < w.heap.size) w A r) (hn : r.length = n) (hm : n ≤ 1000000) (hp : r.Perm (L.map du)) (hL : L = []) {q : Int} (q0 : -9223372036854775808 ≤ q) (q1 : q < 9223372036854775808) (hq : ∀ x, x ∈ L → (x.handle : Int) ≠ q) :
    Calls Try.prog 15 #[.pointer (some ⟨h, 0, none⟩), .slice A n c, .int .i64 (now : Nat), .int .i64 q] w fun e w' => e = .returned (.bool true) ∧ Below w.heap.size w w' := by
  have hlen : L.length = n := by rw [← hn, hp.length_eq, List.length_map]
  have HNo : Hid (∀ w', Below w.heap.size w w' → Calls Try.prog 16 #[.pointer (some ⟨h, 0, none⟩)] w' fun e w'' => e = .returned (.int .i64 (now : Nat)) ∧ w' = w'') := Lib.hid fun w' hb => now_at (H.below hb)
  have HLe : Hid (∀ w', Below w.heap.size w w' → Calls Try.prog 19 #[.pointer (some ⟨h, 0, none⟩)] w' fun e w'' => e = .returned (.int .i64 0) ∧ w' = w'') := Lib.hid fun w' hb => by
    have := len_at (H.below hb)
    rw [hL] at this
    exact this
  subst hL
  have hpos : 0 = n := hlen
  subst hpos
  have HNx : Hid (Calls Try.prog 18 #[.pointer (some ⟨h, 0, none⟩)] w fun e w' => e = .returned (.tuple #[.int .i64 0, .bool false]) ∧ w = w') := Lib.hid (next_at_none H)
  have HGt : Hid (∀ w', Below w.heap.size w w' → Calls Try.prog 17 #[.pointer (some ⟨h, 0, none⟩), .int .i64 q] w' (Told 0 0 0 false w')) := Lib.hid fun w' hb => get_at_miss (H.below hb) q0 q1 hq
  have HIx : Hid (∀ w', Below w.heap.size w w' → Calls Try.prog 7 #[.slice A 0 c, .int .i64 q] w' fun e w'' => e = .returned (.int .i64 (-1)) ∧ w' = w'') := Lib.hid fun w' hb => index_miss (hr.kept fun j hj => hb.block j hj) hn hm _ (fun j hj => none_of hp hq j (by omega))
  clear H hr hn hp hq hlen
  have e1 : ((now : Int) != now) = false := by simp
  have e4 : ∀ w : World, (binOp .eql 48 (.agg #[.int .i64 0, .int .i64 0, .int .i64 0]) (.agg #[.int .i64 0, .int .i64 0, .int .i64 0])).run Try.prog w = .ok (.bool true) w := fun w => by
    have := due_eql 0 0 0 0 0 0 w
    simpa using this
  go_enter Try.func15, Try.ntmps15
  go_wp2_with fail
  refine HNx.out.mono ?_
  rintro e w1 ⟨rfl, rfl⟩
  have HB1 : Hid (Below w.heap.size w w) := Lib.hid (Below.refl _ _)
  go_wp2_with fail
  refine (HGt.out _ HB1.out).mono ?_
  rintro e w2 ⟨rfl, hb2⟩
  have HB3 : Hid (Below w.heap.size w (w2.alloc (.cells #[.int .i64 0, .int .i64 0, .int .i64 0] 48))) := Lib.hid ((HB1.out.trans (hb2.mono HB1.out.size)).alloc (Nat.le_trans HB1.out.size hb2.size) _)
  have x0 : (w2.alloc (.cells #[.int .i64 0, .int .i64 0, .int .i64 0] 48)).cell? ⟨w2.heap.size, 0, none⟩ = some (.int .i64 0) := by simp
  have x1 : (w2.alloc (.cells #[.int .i64 0, .int .i64 0, .int .i64 0] 48)).cell? ⟨w2.heap.size, 1, none⟩ = some (.int .i64 0) := by simp
  have x2 : (w2.alloc (.cells #[.int .i64 0, .int .i64 0, .int .i64 0] 48)).cell? ⟨w2.heap.size, 2, none⟩ = some (.int .i64 0) := by simp
  clear hb2
  go_wp2_with fail
  generalize w2.heap.size = p at *
  generalize w2.alloc (.cells #[.int .i64 0, .int .i64 0, .int .i64 0] 48) = W at *
  go_wp2_with (first
    | (go_at_call 7; refine (HIx.out _ HB3.out).mono ?_; rintro e w3 ⟨rfl, rfl⟩)
    | (go_at_call 16; refine (HNo.out _ HB3.out).mono ?_; rintro e w3 ⟨rfl, rfl⟩)
    | (go_at_call 19; refine (HLe.out _ HB3.out).mono ?_; rintro e w3 ⟨rfl, rfl⟩))
  go_quiet (fail)
  go_wp2
  go_ret
  exact ⟨rfl, below_drawn HB3.out⟩


theorem same_at {w : World} {B h m k now : Nat} {L : List Tm} {O : Nat → Prop} {A : Option Addr} {n c : Nat} {r : List Du} (H : AtWheel w B h m L k now O) (hk : k ≤ 900000) (hr : Dus (· < w.heap.size) w A r) (hn : r.length = n) (hm : n ≤ 1000000) (hp : r.Perm (L.map du)) (hS : Srt r) {q : Int} (q0 : -9223372036854775808 ≤ q) (q1 : q < 9223372036854775808) :
    Calls Try.prog 15 #[.pointer (some ⟨h, 0, none⟩), .slice A n c, .int .i64 (now : Nat), .int .i64 q] w fun e w' => e = .returned (.bool true) ∧ Below w.heap.size w w' := by
  by_cases hL : L = []
  · exact same_empty H hr hn hm hp hL q0 q1 (fun x hx => by rw [hL] at hx; simp at hx)
  · by_cases hx : ∃ x, x ∈ L ∧ (x.handle : Int) = q
    · obtain ⟨x, hx, rfl⟩ := hx
      exact same_hit H hk hr hn hm hp hS hx
    · exact same_miss H hr hn hm hp hS hL q0 q1 (fun x hxL e => hx ⟨x, hxL, e⟩)
end Go.Proofs.Ytadppcmbkccmnaa
