/-
  The wheel's slots, as plain numbers: which slot a tick lies in while it is now, and that it stays there as long as its slot is not reached.
-/
import Derived.Laws.MathBits
namespace Go.Proofs.Ytadppcmbkccmnaa.Wh

/-- The place of the highest digit in which two ticks differ (below 2^24). -/
def lev (x y : Nat) : Nat := if x / 64 = y / 64 then 0 else if x / 4096 = y / 4096 then 1 else if x / 262144 = y / 262144 then 2 else 3
/-- A tick's digit of a level. -/
def dig (t l : Nat) : Nat := if l = 0 then t % 64 else if l = 1 then t / 64 % 64 else if l = 2 then t / 4096 % 64 else t / 262144 % 64
/-- The slot where a timer due at t lies, while it is now. -/
def slot (now t : Nat) : Nat := lev now t * 64 + dig t (lev now t)

theorem lev_le (x y : Nat) : lev x y ≤ 3 := by
  unfold lev
  repeat' split
  all_goals omega
theorem dig_lt (t l : Nat) : dig t l < 64 := by
  unfold dig
  repeat' split
  all_goals omega
theorem slot_lt (x y : Nat) : slot x y < 256 := by
  have := lev_le x y
  have := dig_lt y (lev x y)
  unfold slot
  omega

theorem slot_cases (x y : Nat) : (x / 64 = y / 64 ∧ slot x y = y % 64) ∨ (x / 64 ≠ y / 64 ∧ x / 4096 = y / 4096 ∧ slot x y = 64 + y / 64 % 64) ∨ (x / 4096 ≠ y / 4096 ∧ x / 262144 = y / 262144 ∧ slot x y = 128 + y / 4096 % 64) ∨
    (x / 262144 ≠ y / 262144 ∧ slot x y = 192 + y / 262144 % 64) := by
  unfold slot lev
  by_cases h1 : x / 64 = y / 64
  · exact Or.inl ⟨h1, by rw [if_pos h1]; simp [dig]⟩
  · by_cases h2 : x / 4096 = y / 4096
    · exact Or.inr (Or.inl ⟨h1, h2, by rw [if_neg h1, if_pos h2]; simp [dig]⟩)
    · by_cases h3 : x / 262144 = y / 262144
      · exact Or.inr (Or.inr (Or.inl ⟨h2, h3, by rw [if_neg h1, if_neg h2, if_pos h3]; simp [dig]⟩))
      · exact Or.inr (Or.inr (Or.inr ⟨h3, by rw [if_neg h1, if_neg h2, if_neg h3]; simp [dig]⟩))
/-- What isn't reached on the way from now to a later tick lies where it lay, and isn't due. -/
theorem slot_stays {now to t : Nat} (h : now ≤ to) (ht : now < t) (h24 : t < 16777216) (h25 : to < 16777216) (hp : slot now to < slot now t) : slot to t = slot now t ∧ to < t := by
  have hlt : to < t := by
    rcases slot_cases now to with h1 | h1 | h1 | h1 <;> rcases slot_cases now t with h2 | h2 | h2 | h2 <;> omega
  refine ⟨?_, hlt⟩
  have hl : lev to t = lev now t := by
    have a1 : now / 64 ≤ to / 64 := Nat.div_le_div_right h
    have a2 : to / 64 ≤ t / 64 := Nat.div_le_div_right (Nat.le_of_lt hlt)
    have b1 : now / 4096 ≤ to / 4096 := Nat.div_le_div_right h
    have b2 : to / 4096 ≤ t / 4096 := Nat.div_le_div_right (Nat.le_of_lt hlt)
    have c1 : now / 262144 ≤ to / 262144 := Nat.div_le_div_right h
    have c2 : to / 262144 ≤ t / 262144 := Nat.div_le_div_right (Nat.le_of_lt hlt)
    have e1 : to / 64 = t / 64 ↔ now / 64 = t / 64 := by
      constructor
      · intro e
        rcases slot_cases now to with h1 | h1 | h1 | h1 <;> rcases slot_cases now t with h2 | h2 | h2 | h2 <;> omega
      · omega
    have e2 : to / 4096 = t / 4096 ↔ now / 4096 = t / 4096 := by
      constructor
      · intro e
        rcases slot_cases now to with h1 | h1 | h1 | h1 <;> rcases slot_cases now t with h2 | h2 | h2 | h2 <;> omega
      · omega
    have e3 : to / 262144 = t / 262144 ↔ now / 262144 = t / 262144 := by
      constructor
      · intro e
        rcases slot_cases now to with h1 | h1 | h1 | h1 <;> rcases slot_cases now t with h2 | h2 | h2 | h2 <;> omega
      · omega
    simp only [lev, e1, e2, e3]
  rw [slot, slot, hl]

/-- The last slot that is reached is one. -/
theorem top_lt (now to : Nat) : lev now to * 64 + dig to (lev now to) < 256 := slot_lt now to

theorem shift_xor {x y k : Nat} : (x ^^^ y) / 2 ^ k = 0 ↔ x / 2 ^ k = y / 2 ^ k := by
  rw [← Nat.shiftRight_eq_div_pow, ← Nat.shiftRight_eq_div_pow, ← Nat.shiftRight_eq_div_pow, Nat.shiftRight_xor_distrib]
  generalize x >>> k = a, y >>> k = b
  constructor
  · intro h
    refine Nat.eq_of_testBit_eq fun i => ?_
    have := congrArg (fun n => n.testBit i) h
    simpa using this
  · rintro rfl
    exact Nat.xor_self _

theorem bit_lt {n k : Nat} : bitLen n ≤ k ↔ n / 2 ^ k = 0 := by
  have hp : 0 < 2 ^ k := Nat.two_pow_pos k
  obtain ⟨h1, h2⟩ := bitLen_spec n
  rw [Nat.div_eq_zero_iff]
  constructor
  · intro h
    exact Or.inr (Nat.lt_of_lt_of_le h1 (Nat.pow_le_pow_right (by decide) h))
  · rintro (h | h)
    · omega
    · by_cases h0 : n = 0
      · subst h0
        simp [bitLen]
      · have h3 := h2 h0
        have h4 := Nat.lt_of_le_of_lt h3 h
        have h5 := (Nat.pow_lt_pow_iff_right (a := 2) (by decide)).1 h4
        omega

/-- How many bits two ticks differ in tells the level. -/
theorem lev_bits {x y : Nat} (hx : x < 16777216) (hy : y < 16777216) : (bitLen (x ^^^ y) - 1) / 6 = lev x y := by
  have e1 := @bit_lt (x ^^^ y) 6
  have e2 := @bit_lt (x ^^^ y) 12
  have e3 := @bit_lt (x ^^^ y) 18
  have e4 := @bit_lt (x ^^^ y) 24
  rw [shift_xor] at e1 e2 e3 e4
  have e5 : bitLen (x ^^^ y) ≤ 24 := e4.2 (by omega)
  simp only [show (2 : Nat) ^ 6 = 64 from rfl, show (2 : Nat) ^ 12 = 4096 from rfl, show (2 : Nat) ^ 18 = 262144 from rfl] at e1 e2 e3
  unfold lev
  generalize bitLen (x ^^^ y) = L at *
  repeat' split
  all_goals simp only [*, iff_true, iff_false] at e1 e2 e3
  all_goals omega
theorem bits_le {x y : Nat} (hx : x < 16777216) (hy : y < 16777216) : bitLen (x ^^^ y) ≤ 24 := by
  rw [bit_lt, shift_xor]
  omega

theorem shr_dig (t l : Nat) (hl : l ≤ 3) : t / 2 ^ (l * 6) % 64 = dig t l := by
  unfold dig
  match l, hl with
  | 0, _ => simp
  | 1, _ => simp
  | 2, _ => simp
  | 3, _ => simp
end Go.Proofs.Ytadppcmbkccmnaa.Wh
