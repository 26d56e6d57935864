/-
  A method of an interface value whose dynamic type is known: a value method met through a pointer reads what the pointer leads to; a pointer method takes the pointer.
-/
import Derived.WalkKit
namespace Go.Proofs.Ytcofehmgnpmecaa

/-- What the table of types says of a method: how it is reached, its function, has it a pointer receiver. -/
def methodOf (P : Program) (T : TypeId) (name : String) : Option (Option (List FieldStep × Option (FuncId × Bool))) :=
  (P.info? T).map fun i => (i.methods.find? (·.name == name)).map fun m => (m.path.toList, m.func)

theorem wrap_nil (ts : Array TypeId) (t : TypeId) (a : Addr) (x y : String) : Builtin.ssaWrapNilChk_ ts t #[.pointer (some a), strVal x, strVal y] = pure (.pointer (some a)) := rfl
theorem method_by_value {P : Program} {T E : TypeId} {name : String} {f : FuncId} (hm : methodOf P T name = some (some ([], some (f, false)))) (hu : P.underlying T = some (.pointer E)) (n : Nat) (a : Addr) (w : World) (v : Value) (hA : (isAgg E).run P w = .ok false w) (hv : w.cell? a = some v) :
    (method (n + 1) T (.pointer (some a)) name).run P w = .ok (f, v) w := by
  unfold methodOf at hm
  cases hi : P.info? T with
  | none => rw [hi] at hm; cases hm
  | some I =>
    rw [hi] at hm
    simp only [Option.map_some, Option.some.injEq] at hm
    cases hf : I.methods.find? (·.name == name) with
    | none => rw [hf] at hm; cases hm
    | some m =>
      rw [hf] at hm
      simp only [Option.map_some, Option.some.injEq, Prod.mk.injEq] at hm
      obtain ⟨hp, hfn⟩ := hm
      have hem : m.path = #[] := by simpa using hp
      simp [method, typeInfo, go_sem, hi, hf, hfn, follow, receiverAt, hu, Place.get, wrap_nil, hem, asAddr, hA, hv, underlying]

theorem method_by_pointer {P : Program} {T E : TypeId} {name : String} {f : FuncId} (hm : methodOf P T name = some (some ([], some (f, true)))) (hu : P.underlying T = some (.pointer E)) (n : Nat) (v : Value) (w : World) :
    (method (n + 1) T v name).run P w = .ok (f, v) w := by
  unfold methodOf at hm
  cases hi : P.info? T with
  | none => rw [hi] at hm; cases hm
  | some I =>
    rw [hi] at hm
    simp only [Option.map_some, Option.some.injEq] at hm
    cases hf : I.methods.find? (·.name == name) with
    | none => rw [hf] at hm; cases hm
    | some m =>
      rw [hf] at hm
      simp only [Option.map_some, Option.some.injEq, Prod.mk.injEq] at hm
      obtain ⟨hp, hfn⟩ := hm
      simp [method, typeInfo, go_sem, hi, hf, hp, hfn, follow, receiverAt, hu, Place.get, underlying]
end Go.Proofs.Ytcofehmgnpmecaa
