/-
  The law TasksGrow (the demand grows at its points alone, is never more than what is requested, and that of two sets is that of each, added) answers true for every two lists of tasks and every number; no condition.
-/
import Derived.Test.YtnchlgdmpjemhaaTGrow
import Derived.Test.YtnchlgdmpjemhaaTOpen
namespace Go.Proofs.Ytnchlgdmpjemhaa
open Go.ChangeShapes Go.WideShapes Go.ChangeAt Go.RowKit Go.Joins

set_option maxRecDepth 100000 in
theorem grow_lifted (os : Os) (started : os.Started) (H : Type) (enc : TypeId × Value → H) :
    ReturnsInHanded {} Try.checked os 5 .any (Rows.tasksGrowSpec.pre6 enc Try.prog Try.f5 [] false) (Rows.tasksGrowSpec.post enc Try.prog Try.f5 false true false false) := by
  refine law_lifted (C := Try.checked) (tb := 4) 3 law_own started (by kernel_rfl) Try.func5
    (ChangeSpec.witness6 (enc := enc) (C := Try.checked) false ⟨#[], #[.slice none 0 0, .slice none 0 0, .int .u16 0], []⟩ 8 (by kernel_rfl) (by kernel_rfl) (by kernel_rfl) (by kernel_rfl))
    law_laid (by decide +kernel) (by kernel_rfl) (by kernel_rfl) rfl (by kernel_rfl) (fun ds h => ?_) ?_
  · match ds, h with
    | [_, _, _], _ => rfl
  intro W base args ds before hval0 hA0 _
  have hval : ∀ (j : Nat) t v, Try.f5.params[j]? = some t → args[j]? = some v → Value.okWide Try.prog W .any base t v := hval0
  have hA : DataW.TrodAll enc Try.prog W 0 (fun _ => true) true Try.f5.params.toList args.toList ds before := hA0
  rw [Try.params5] at hA hval
  obtain ⟨v0, v1, v2, d0, d1, d2, p0, p1, p2, rfl, rfl, rfl, h0, h1, h2⟩ := trodAll_three hA
  obtain ⟨A, n, c, l, rfl, hl, hL, nA⟩ := open_tasks (hval 0 22 v0 rfl rfl) h0
  obtain ⟨A2, m, c2, l2, rfl, hm, hM, nA2⟩ := open_tasks (hval 1 22 v1 rfl rfl) h1
  obtain ⟨x, rfl, -, -, wx⟩ := open_int Try.underlying47 (hval 2 47 v2 rfl rfl) h2
  have hx := u16_bd wx
  exact grow_any A A2 n m c c2 l l2 x W hl hm hL hM nA nA2 hx.1 hx.2

theorem grow_holds : Rows.TasksGrowSaid :=
  OpenClaim.holds_of_wide 5 Try.f5 rfl rfl rfl rfl rfl rfl rfl ⟨rfl, rfl, rfl, rfl, rfl⟩ rfl rfl rfl rfl rfl (by kernel_rfl) Try.func5 (by kernel_rfl)
    (of_decide_eq_true (by kernel_rfl)) (by unfold Func.isWrapper; first | (rw [if_pos (by decide +kernel)]; kernel_rfl) | (rw [if_neg (by decide +kernel)]; exact ⟨rfl, rfl⟩))
    (fun os started H enc _ => grow_lifted os started H enc)
end Go.Proofs.Ytnchlgdmpjemhaa
