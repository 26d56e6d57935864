/-
  Contracts: a heap's First, Drop of the first, Pop.
-/
import Derived.Test.YtejmmhaglgmgbaaHWalksG
import Derived.StillTailTactics
namespace Go.Proofs.Ytejmmhaglgmgbaa
open Go.ChangeShapes Go.WideShapes Go.ChangeAt Go.RowKit Hp

/-- The first one is there no more. -/
def Out (B h m : Nat) (v : Value) (xs : List Th) (k t : Nat) (w w' : World) : Prop :=
  ∃ v' ys, HeapIs w' B h m v' ys k t ∧ (at_ xs 0 :: ys).Perm xs ∧ Only (Mine h m v xs) w w' ∧ ∀ i, Mine h m v' ys i → Mine h m v xs i

theorem out_end {w w1 w2 : World} {B h m k t g n c : Nat} {xs : List Th} (H : HeapIs w B h m (.slice (some ⟨g, 0, none⟩) (n + 1) c) xs k t)
    {D : DataW Unit} (hown : w1.ownsMap Try.prog 3 ptrElem m k (D.del (.int .i64 (at_ xs 0).handle))) (hat : ∀ x, x ∈ xs → D.atKey (.int .i64 x.handle) .nil = .lit (.int .i64 (x.b : Nat)))
    (h1 : w.grownBy w1 (some m)) {e : Ending} (hr : Removed B h g n c (.map (some m)) (.int .i64 (k : Nat)) (.int .i64 (t : Nat)) xs w1.drew e w2) :
    Out B h m (.slice (some ⟨g, 0, none⟩) (n + 1) c) xs k t w w2 := by
  obtain ⟨-, ys, hperm, hlen, hp, ho, hh, hon⟩ := hr
  have hsub : ∀ y, y ∈ ys → y ∈ xs := fun y hy => hperm.mem_iff.1 (List.mem_cons_of_mem _ hy)
  have hmine : ∀ i, Own (.slice (some ⟨g, 0, none⟩) n c) ys i → Own (.slice (some ⟨g, 0, none⟩) (n + 1) c) xs i := by
    rintro i (h2 | ⟨y, hy, h2⟩)
    · exact Or.inl h2
    · exact Or.inr ⟨y, hsub y hy, h2⟩
  have honce := (hperm.symm.pairwise_iff (fun {a b : Th} (h1 : a.handle ≠ b.handle) => h1.symm)).1 H.once
  refine ⟨_, ys, ⟨hh, hp, by rw [hlen]; exact ho, ?_, H.base, ⟨fun h2 => H.off.1 (hmine h h2), fun h2 => H.off.2.1 (hmine m h2), H.off.2.2⟩, fun y hy => H.handles y (hsub y hy), (List.pairwise_cons.1 honce).2⟩, hperm, ?_, ?_⟩
  · refine Handles.kept (w := w1) ⟨_, hown, fun y hy => ?_⟩ (hon.block m hown.lt ?_)
    · rw [Maps.atKey_del_other (fun e => (List.pairwise_cons.1 honce).1 y hy (by simpa using e.symm))]
      exact hat y (hsub y hy)
    · rintro (h2 | h2)
      · exact H.off.2.1 h2
      · exact H.off.2.2 h2.symm
  · refine ((Only.refl _ w).grown h1 (fun i hi => ?_)).drew.trans hon (fun i hi => ?_)
    · simp only [Option.some.injEq] at hi
      exact Or.inl (Or.inr (Or.inl hi.symm))
    · rcases hi with hi | hi
      · exact Or.inl (Or.inr (Or.inr hi))
      · exact Or.inl (Or.inl hi)
  · rintro i (h2 | h2 | h2)
    · exact Or.inl h2
    · exact Or.inr (Or.inl h2)
    · exact Or.inr (Or.inr (hmine i h2))

/-- Drop, where the thing is found. -/
def Dropped (B h m : Nat) (v : Value) (xs : List Th) (k t : Nat) (w : World) (e : Ending) (w' : World) : Prop := e = .returned (.bool true) ∧ Out B h m v xs k t w w'

set_option maxHeartbeats 400000 in
theorem drop_any {w : World} {B h m k t : Nat} {v : Value} {xs : List Th} (H : HeapIs w B h m v xs k t) (hk : k ≤ 900000) (hlen : xs.length ≤ 900000) (hne : 0 < xs.length) :
    Calls Try.prog 11 #[.pointer (some ⟨h, 0, none⟩), .int .i64 (at_ xs 0).handle] w (Dropped B h m v xs k t w) := by
  obtain ⟨g, c, hv, -, -, -⟩ := H.pile.shape hne
  obtain ⟨n, hn⟩ : ∃ n, xs.length = n + 1 := ⟨xs.length - 1, by omega⟩
  rw [hn] at hv
  subst hv
  have hx := at_mem hne
  have hr := H.handles _ hx
  have hfind := Lib.hid (find_any H hk hx)
  obtain ⟨D, hD, hat⟩ := H.map
  have hhm := H.off.2.2
  have hkey := key_of (n := (at_ xs 0).handle) (by omega) (by omega)
  have hc1 : w.cell? ⟨h, 1, none⟩ = some (.map (some m)) := h_cell (j := 1) H.obj rfl
  have hxm : (at_ xs 0).b ≠ m := fun e => H.off.2.1 (Or.inr ⟨_, hx, e⟩)
  have hlx := H.pile.lt hx
  have hlh := lt_of_block H.obj
  have Hkey := Lib.hid hkey
  have HD := Lib.hid hD
  have HC : Hid (∀ w1 : World, w1.ownsMap Try.prog 3 ptrElem m k (D.del (.int .i64 (at_ xs 0).handle)) → w.grownBy w1 (some m) → w1.cell? ⟨(at_ xs 0).b, 4, none⟩ = some (.int .i64 0) ∧
      Hid (Calls Try.prog 16 #[.iface 47 (.pointer (some ⟨h, 0, none⟩)), .int .i64 0] w1.drew fun e w2 => (∃ u, e = .returned u) ∧ Out B h m (.slice (some ⟨g, 0, none⟩) (n + 1) c) xs k t w w2)) := fun w1 hown hg => by
    have hb : ∀ b, b < w.heap.size → b ≠ m → w1.heap[b]? = w.heap[b]? := fun b hb hbm => hg.block b hb (by simpa using hbm)
    have hp1 : PileIs w1.drew B (.slice (some ⟨g, 0, none⟩) (n + 1) c) xs := H.pile.kept fun b ho => hb b (H.pile.own_lt ho).2 (fun e => H.off.2.1 (e ▸ ho))
    have hh1 : w1.drew.heap[h]? = some (hObj (.slice (some ⟨g, 0, none⟩) (n + 1) c) (.map (some m)) (.int .i64 (k : Nat)) (.int .i64 (t : Nat))) := (hb h hlh hhm).trans H.obj
    refine ⟨th_cell (j := 4) ((hb _ hlx hxm).trans (H.pile.thingAt hne)) rfl, ?_⟩
    exact (hremove_any hp1 hn (by rw [← hn]; exact H.order) (by omega) hh1 H.off.1).mono fun e w2 hre => ⟨⟨_, hre.1⟩, out_end H hown hat hg hre⟩
  obtain ⟨hd, hhd⟩ : ∃ hd, (at_ xs 0).handle = hd := ⟨_, rfl⟩
  obtain ⟨b, hb⟩ : ∃ b, (at_ xs 0).b = b := ⟨_, rfl⟩
  rw [hhd, hb] at hfind
  rw [hhd] at Hkey
  rw [hhd, hb] at HC
  rw [hhd]
  clear H hx hD hat hkey hr hhd hb hxm hlx
  go_enter Try.func11, Try.ntmps11
  go_wp2_with (first
    | (go_at_call 15; refine hfind.out.mono ?_; rintro e w' ⟨rfl, rfl⟩)
    | (at_delete; refine wpList_delete_own (H := Unit) _ rfl _ _ 35 3 rfl 43 (Maps.int_keyed Try.underlying3) Try.underlying35 ptrElem m k D rfl HD.out _ _ rfl Hkey.out ?_; intro w1 hown1 hturn1; obtain ⟨c4, Hrem⟩ := HC.out w1 hown1 hturn1.grown; clear hown1 hturn1))
  go_still_tail 8, (by kernel_rfl)
  change wpList _ _ _ _ _ w1.drew
  go_wp2_with (go_at_call 16; refine Hrem.out.mono ?_; rintro e w2 ⟨⟨u, rfl⟩, ho⟩; have Hfin := Lib.hid ho; clear ho)
  go_ret
  exact ⟨rfl, Hfin.out⟩

theorem drop_none (n : Int) (w : World) : Calls Try.prog 11 #[.pointer none, .int .i64 n] w fun e w' => e = .returned (.bool false) ∧ w = w' := by
  go_enter Try.func11, Try.ntmps11
  go_wp2_with (go_at_call 15; refine (find_none _ _).mono ?_; rintro e w' ⟨rfl, rfl⟩)
  go_ret
  exact ⟨rfl, rfl⟩
theorem change_none (n q : Int) (w : World) : Calls Try.prog 12 #[.pointer none, .int .i64 n, .int .i64 q] w fun e w' => e = .returned (.bool false) ∧ w = w' := by
  go_enter Try.func12, Try.ntmps12
  go_wp2_with (go_at_call 15; refine (find_none _ _).mono ?_; rintro e w' ⟨rfl, rfl⟩)
  go_ret
  exact ⟨rfl, rfl⟩

/-- What tells an item and a number. -/
def Told (key what : Int) (u : Value) (w : World) (e : Ending) (w' : World) : Prop := e = .returned (.tuple #[.agg #[.int .i64 key, .int .i64 what], u]) ∧ Below w.heap.size w w'

theorem first_none (w : World) : Calls Try.prog 8 #[.pointer none] w (Told 0 0 (.int .i64 0) w) := by
  go_enter Try.func8, Try.ntmps8
  go_wp2_with (go_at_call 10; refine (len_none _).mono ?_; rintro e w' ⟨rfl, rfl⟩)
  exact bodyPost_ret (v := .tuple #[.agg #[.int .i64 0, .int .i64 0], .int .i64 0]) (by simp [results, Try.results8, go_sem]) rfl ⟨rfl, (Below.refl _ _).alloc (Nat.le_refl _) _⟩

set_option maxHeartbeats 400000 in
theorem first_any {w : World} {B h m k t : Nat} {v : Value} {xs : List Th} (H : HeapIs w B h m v xs k t) (hlen : xs.length ≤ 900000) (hne : 0 < xs.length) :
    Calls Try.prog 8 #[.pointer (some ⟨h, 0, none⟩)] w (Told (at_ xs 0).key (at_ xs 0).what (.int .i64 (at_ xs 0).handle) w) := by
  obtain ⟨g, c, hv, -, -, hg⟩ := H.pile.shape hne
  obtain ⟨n, hn⟩ : ∃ n, xs.length = n := ⟨_, rfl⟩
  have hx := H.pile.thingAt hne
  have Hlen : Hid (∀ o : Obj, Calls Try.prog 10 #[.pointer (some ⟨h, 0, none⟩)] (w.alloc o) fun e w' => e = .returned (.int .i64 n) ∧ w.alloc o = w') := fun o => by
    rw [← hn]
    exact hlen_any (H.below ((Below.refl _ _).alloc (Nat.le_refl _) o))
  have hc0 : w.cell? ⟨h, 0, none⟩ = some v := h_cell (j := 0) H.obj rfl
  have hg0 := H.pile.rowCell hv hne
  have hx0 : w.cell? ⟨(at_ xs 0).b, 0, none⟩ = some (.int .i64 (at_ xs 0).key) := th_cell (j := 0) hx rfl
  have hx1 : w.cell? ⟨(at_ xs 0).b, 1, none⟩ = some (.int .i64 (at_ xs 0).what) := th_cell (j := 1) hx rfl
  have hx2 : w.cell? ⟨(at_ xs 0).b, 2, none⟩ = some (.int .i64 (at_ xs 0).handle) := th_cell (j := 2) hx rfl
  have hlb := lt_of_block hx
  have hlh := lt_of_block H.obj
  rw [hn] at hv hlen hne
  subst hv
  have hn1 : (1 : Int) ≤ n := by omega
  have hn2 : (n : Int) ≤ 900000 := by omega
  have hn0 : ((n : Int) == 0) = false := by simp; omega
  generalize (at_ xs 0).key = key at *
  generalize (at_ xs 0).what = what at *
  generalize (at_ xs 0).handle = hd at *
  generalize (at_ xs 0).b = b at *
  have e1 := w.new_ne _ hc0
  have e2 := w.new_ne _ hg0
  have e3 := w.new_ne _ hx0
  have e4 := w.new_ne _ hx1
  have e5 := w.new_ne _ hx2
  clear H hn hx
  go_enter Try.func8, Try.ntmps8
  go_wp2_with (go_at_call 10; refine (Hlen.out _).mono ?_; rintro e w' ⟨rfl, rfl⟩)
  go_region_held3 (fun w' => w'.cell? ⟨h, 0, none⟩ = some (.slice (some ⟨g, 0, none⟩) n c) ∧ w'.cell? ⟨g, 0, none⟩ = some (.pointer (some ⟨b, 0, none⟩)) ∧ w'.cell? ⟨b, 0, none⟩ = some (.int .i64 key) ∧ w'.cell? ⟨b, 1, none⟩ = some (.int .i64 what) ∧ w'.cell? ⟨b, 2, none⟩ = some (.int .i64 hd)) (go_keep) (fail)
  go_wp2
  exact bodyPost_ret (v := .tuple #[.agg #[.int .i64 key, .int .i64 what], .int .i64 hd]) (by simp [results, Try.results8, go_sem]) rfl ⟨rfl, ((Below.refl _ _).alloc (Nat.le_refl _) _).drew⟩

/-- The world behind First and the box of what it told. -/
theorem boxed {w w1 : World} {T : TypeId} {key what : Int} (hb : Below (w.heap.size + 1) (w.alloc (.cells #[.int .i64 0, .int .i64 0] T (0, 0))) w1) (hs : w.heap.size + 1 ≤ w1.heap.size) :
    ∀ W, w1.alloc (.cells #[.int .i64 key, .int .i64 what] T (0, 0)) = W → W.cell? ⟨w1.heap.size, 0, none⟩ = some (.int .i64 key) ∧ W.cell? ⟨w1.heap.size, 1, none⟩ = some (.int .i64 what) ∧ W.cell? ⟨w.heap.size, 0, none⟩ = some (.int .i64 0) ∧ W.cell? ⟨w.heap.size, 1, none⟩ = some (.int .i64 0) ∧
      W.frozen? ⟨w.heap.size, 0, none⟩ = false ∧ W.frozen? ⟨w.heap.size, 1, none⟩ = false ∧ w.heap.size < w1.heap.size ∧ W.heap.size = w1.heap.size + 1 ∧ Below w.heap.size w W ∧ W.heap[w.heap.size]? = some (.cells #[.int .i64 0, .int .i64 0] T (0, 0)) := by
  rintro W rfl
  have h1 := heap_alloc_new w1 (.cells #[.int .i64 key, .int .i64 what] T (0, 0))
  have h2 : (w1.alloc (.cells #[.int .i64 key, .int .i64 what] T (0, 0))).heap[w.heap.size]? = some (.cells #[.int .i64 0, .int .i64 0] T (0, 0)) := by
    rw [Below.heap_alloc _ _ _ (by omega), hb.block _ (by omega)]
    exact heap_alloc_new w _
  have c1 : ∀ (W : World) (b : Nat) (u v : Value) (j : Nat), W.heap[b]? = some (.cells #[u, v] T (0, 0)) → W.cell? ⟨b, j, none⟩ = #[u, v][j]? := fun W b u v j hb => by simp [World.cell?, hb]
  refine ⟨c1 _ _ _ _ 0 h1, c1 _ _ _ _ 1 h1, by simp [World.cell?, h2], by simp [World.cell?, h2], by simp [World.frozen?, h2], by simp [World.frozen?, h2], by omega, by simp, ?_, h2⟩
  exact (((Below.refl _ _).alloc (Nat.le_refl _) _).trans (hb.mono (by omega))).alloc (by omega) _

theorem two_cells {W : World} {p : Nat} {x y : Value} {T : TypeId} (a b : Value) (h : W.heap[p]? = some (.cells #[x, y] T (0, 0))) : ((W.setCell ⟨p, 0, none⟩ a).setCell ⟨p, 1, none⟩ b).cell? ⟨p, 0, none⟩ = some a ∧ ((W.setCell ⟨p, 0, none⟩ a).setCell ⟨p, 1, none⟩ b).cell? ⟨p, 1, none⟩ = some b := by
  have h1 := heap_setCell_same _ p 1 _ _ b (heap_setCell_same W p 0 _ _ a h)
  constructor
  · simp only [World.cell?, h1]
    rfl
  · simp only [World.cell?, h1]
    rfl

set_option maxHeartbeats 400000 in
theorem pop_none (w : World) : Calls Try.prog 7 #[.pointer none] w (Told 0 0 (.bool false) w) := by
  have HF : Hid (∀ o : Obj, Calls Try.prog 8 #[.pointer none] (w.alloc o) (Told 0 0 (.int .i64 0) (w.alloc o))) := fun o => first_none _
  go_enter Try.func7, Try.ntmps7
  go_wp2_with (go_at_call 8; refine (HF.out _).mono ?_; rintro e w1 ⟨rfl, hb⟩)
  have hs := hb.size
  simp only [World.alloc, Array.size_push] at hs hb
  obtain ⟨W, hW⟩ : ∃ W, w1.alloc (.cells #[.int .i64 0, .int .i64 0] 28 (0, 0)) = W := ⟨_, rfl⟩
  obtain ⟨a0, a1, z0, z1, f0, f1, hlt, hsz, hbl, hbk⟩ := boxed hb hs W hW
  obtain ⟨r0, r1⟩ := two_cells (.int .i64 0) (.int .i64 0) hbk
  rw [hW]
  generalize w1.heap.size = q at *
  have Hbl := Lib.hid hbl
  clear hb hs hW hbl hbk
  have hne : w.heap.size ≠ q := by omega
  have hne2 : q ≠ w.heap.size := by omega
  have hl1 : q < W.heap.size := by omega
  have hl2 : w.heap.size < W.heap.size := by omega
  obtain ⟨p, hp⟩ : ∃ p, w.heap.size = p := ⟨_, rfl⟩
  rw [hp] at z0 z1 f0 f1 hne hne2 hl2 r0 r1 ⊢
  have Hp := Lib.hid hp
  clear hp hlt hsz HF
  go_region_held3 (fun w' => w'.cell? ⟨q, 0, none⟩ = some (.int .i64 0) ∧ w'.cell? ⟨q, 1, none⟩ = some (.int .i64 0)) (go_keep)
    ((go_at_call 11; refine (drop_none _ _).mono ?_; rintro e w2 ⟨rfl, rfl⟩))
  go_wp2
  have Hfin : Hid (Below w.heap.size w ((W.setCell ⟨p, 0, none⟩ (.int .i64 0)).setCell ⟨p, 1, none⟩ (.int .i64 0)).drew) := by
    have hle : w.heap.size ≤ p := Nat.le_of_eq Hp.out
    exact ((Hbl.out.setCell hle _).setCell hle _).drew
  exact bodyPost_ret (v := .tuple #[.agg #[.int .i64 0, .int .i64 0], .bool false]) (by simp [results, Try.results7, go_sem, r0, r1]) rfl ⟨rfl, Hfin.out⟩

/-- Pop, where there is a thing. -/
def Given (B h m : Nat) (v : Value) (xs : List Th) (k t : Nat) (w : World) (e : Ending) (w' : World) : Prop := e = .returned (.tuple #[.agg #[.int .i64 (at_ xs 0).key, .int .i64 (at_ xs 0).what], .bool true]) ∧ Out B h m v xs k t w w'

theorem given_end {w W w2 : World} {B h m k t p : Nat} {v : Value} {xs : List Th} (H : HeapIs w B h m v xs k t) (hB : Below w.heap.size w W) (hp : w.heap.size = p) (ho : Out B h m v xs k t W.drew w2) (a b : Value) : Out B h m v xs k t w ((w2.setCell ⟨p, 0, none⟩ a).setCell ⟨p, 1, none⟩ b) := by
  subst hp
  obtain ⟨v', ys, H2, hperm, hon, hsub⟩ := ho
  have hmine : ∀ i, Mine h m v' ys i → i ≠ w.heap.size := fun i hi e => by
    have := (H.mine_lt (hsub i hi)).2
    omega
  refine ⟨v', ys, H2.kept fun i hi => ?_, hperm, ?_, hsub⟩
  · show ((w2.setCell _ a).setCell _ b).heap[i]? = _
    rw [Below.heap_setCell _ _ _ _ (hmine i hi), Below.heap_setCell _ _ _ _ (hmine i hi)]
  · exact (((((Only.of_below (S := Mine h m v xs) hB).drew.trans hon (fun i hi => Or.inl hi))).put (p := ⟨w.heap.size, 0, none⟩) (Or.inr (Nat.le_refl _)) _).put (p := ⟨w.heap.size, 1, none⟩) (Or.inr (Nat.le_refl _)) _)

set_option maxHeartbeats 1000000 in
theorem pop_any {w : World} {B h m k t : Nat} {v : Value} {xs : List Th} (H : HeapIs w B h m v xs k t) (hk : k ≤ 900000) (hlen : xs.length ≤ 900000) (hne : 0 < xs.length) :
    Calls Try.prog 7 #[.pointer (some ⟨h, 0, none⟩)] w (Given B h m v xs k t w) := by
  have HF : Hid (∀ o : Obj, Calls Try.prog 8 #[.pointer (some ⟨h, 0, none⟩)] (w.alloc o) (Told (at_ xs 0).key (at_ xs 0).what (.int .i64 (at_ xs 0).handle) (w.alloc o))) := fun o =>
    first_any (H.below ((Below.refl _ _).alloc (Nat.le_refl _) o)) hlen hne
  have HD : Hid (∀ W : World, Below w.heap.size w W → Calls Try.prog 11 #[.pointer (some ⟨h, 0, none⟩), .int .i64 (at_ xs 0).handle] W.drew (Dropped B h m v xs k t W.drew)) := fun W hW => drop_any (H.below hW.drew) hk hlen hne
  have Hmine : Hid (∀ i, Mine h m v xs i → i < w.heap.size) := fun i hi => (H.mine_lt hi).2
  have HG : Hid (∀ (W w2 : World) (p : Nat) (a b : Value), Below w.heap.size w W → w.heap.size = p → Out B h m v xs k t W.drew w2 → Out B h m v xs k t w ((w2.setCell ⟨p, 0, none⟩ a).setCell ⟨p, 1, none⟩ b)) := fun W w2 p a b h1 h2 h3 => given_end H h1 h2 h3 a b
  have HR : Hid (∀ (e : Ending) (w' : World), e = .returned (.tuple #[.agg #[.int .i64 (at_ xs 0).key, .int .i64 (at_ xs 0).what], .bool true]) → Out B h m v xs k t w w' → Given B h m v xs k t w e w') := fun e w' h1 h2 => ⟨h1, h2⟩
  clear H hk hlen hne
  generalize (at_ xs 0).key = key at *
  generalize (at_ xs 0).what = what at *
  generalize (at_ xs 0).handle = hd at *
  go_enter Try.func7, Try.ntmps7
  go_wp2_with (go_at_call 8; refine (HF.out _).mono ?_; rintro e w1 ⟨rfl, hb⟩)
  have hs := hb.size
  simp only [World.alloc, Array.size_push] at hs hb
  obtain ⟨W, hW⟩ : ∃ W, w1.alloc (.cells #[.int .i64 key, .int .i64 what] 28 (0, 0)) = W := ⟨_, rfl⟩
  obtain ⟨a0, a1, z0, z1, f0, f1, hlt, hsz, hbl, hbk⟩ := boxed hb hs W hW
  rw [hW]
  generalize w1.heap.size = q at *
  have Hbl := Lib.hid hbl
  have HDw := Lib.hid (HD.out W hbl)
  have hne : w.heap.size ≠ q := by omega
  have hne2 : q ≠ w.heap.size := by omega
  have hl1 : q < W.heap.size := by omega
  have hl2 : w.heap.size < W.heap.size := by omega
  have HX : Hid (∀ w2 : World, Out B h m v xs k t W.drew w2 → (∀ j, w2.cell? ⟨q, j, none⟩ = W.cell? ⟨q, j, none⟩) ∧ (∀ j, w2.cell? ⟨w.heap.size, j, none⟩ = W.cell? ⟨w.heap.size, j, none⟩) ∧ (∀ j, w2.frozen? ⟨w.heap.size, j, none⟩ = W.frozen? ⟨w.heap.size, j, none⟩) ∧ w2.heap[w.heap.size]? = W.heap[w.heap.size]? ∧ w.heap.size < w2.heap.size) := fun w2 ⟨v', ys, _, _, hon, _⟩ => by
    have n1 : ¬ Mine h m v xs q := fun hi => by have := Hmine.out q hi; omega
    have n2 : ¬ Mine h m v xs w.heap.size := fun hi => by have := Hmine.out _ hi; omega
    exact ⟨fun j => hon.cell hl1 n1 j, fun j => hon.cell hl2 n2 j, fun j => hon.frozen hl2 n2 j, hon.block _ hl2 n2, Nat.lt_of_lt_of_le hl2 hon.size⟩
  obtain ⟨p, hp⟩ : ∃ p, w.heap.size = p := ⟨_, rfl⟩
  rw [hp] at z0 z1 f0 f1 hne hne2 hl2 hbk HX ⊢
  have Hp := Lib.hid hp
  have Hbk := Lib.hid hbk
  clear hb hs hW hbl hbk hp hlt hsz HF HD Hmine
  go_region_held3 (fun w' => w'.cell? ⟨q, 0, none⟩ = some (.int .i64 key) ∧ w'.cell? ⟨q, 1, none⟩ = some (.int .i64 what)) (go_keep)
    ((go_at_call 11; refine HDw.out.mono ?_; rintro e w2 ⟨rfl, ho⟩; have HO := Lib.hid ho; obtain ⟨x1, x2, x3, x4, x5⟩ := HX.out w2 ho; have q0 := (x1 0).trans a0; have q1 := (x1 1).trans a1; have p0 := (x2 0).trans z0; have p1 := (x2 1).trans z1; have p2 := (x3 0).trans f0; have p3 := (x3 1).trans f1; have Hx4 := Lib.hid (x4.trans Hbk.out); clear x1 x2 x3 x4 ho))
  go_wp2
  have Hfin := Lib.hid (HR.out _ _ rfl (HG.out W w2 p (.int .i64 key) (.int .i64 what) Hbl.out Hp.out HO.out))
  obtain ⟨r0, r1⟩ := two_cells (.int .i64 key) (.int .i64 what) Hx4.out
  exact bodyPost_ret (v := .tuple #[.agg #[.int .i64 key, .int .i64 what], .bool true]) (by simp [results, Try.results7, go_sem, r0, r1]) rfl Hfin.out
end Go.Proofs.Ytejmmhaglgmgbaa
