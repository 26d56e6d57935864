/-
  The law RespondTimes (in how many ticks a job is done at most with tasks ahead of it, held up so long, on a reservation, or that it isn't within a bound, or an error) answers true for any tasks ahead, task, ticks held up, reservation and bound; no condition.
-/
import Derived.Test.YtnhfbfpkjcnicaaQTimes
import Derived.Test.YtnhfbfpkjcnicaaTOpen
import Derived.Test.YtnhfbfpkjcnicaaSOpen
import Derived.Test.YtnhfbfpkjcnicaaTrod
namespace Go.Proofs.Ytnhfbfpkjcnicaa
open Go.ChangeShapes Go.WideShapes Go.ChangeAt Go.RowKit Go.Joins

set_option maxRecDepth 100000 in
theorem qtimes_lifted (os : Os) (started : os.Started) (H : Type) (enc : TypeId × Value → H) :
    ReturnsInHanded {} Try.checked os 3 .any (Rows.respondTimesSpec.pre6 enc Try.prog Try.f3 [] false) (Rows.respondTimesSpec.post enc Try.prog Try.f3 false true false false) := by
  refine law_lifted (C := Try.checked) (tb := 4) 5 law_own started (by kernel_rfl) Try.func3
    (ChangeSpec.witness6 (enc := enc) (C := Try.checked) false ⟨#[], #[.slice none 0 0, .agg #[.int .i64 0, .int .i64 0, .int .i64 0], .int .i64 0, .agg #[.int .i64 0, .int .i64 0], .int .i64 0], []⟩ 8 (by kernel_rfl) (by kernel_rfl) (by kernel_rfl) (by kernel_rfl))
    law_laid (by decide +kernel) (by kernel_rfl) (by kernel_rfl) rfl (by kernel_rfl) (fun ds h => ?_) ?_
  · match ds, h with
    | [_, _, _, _, _], _ => rfl
  intro W base args ds before hval0 hA0 _
  have hval : ∀ (j : Nat) t v, Try.f3.params[j]? = some t → args[j]? = some v → Value.okWide Try.prog W .any base t v := hval0
  have hA : DataW.TrodAll enc Try.prog W 0 (fun _ => true) true Try.f3.params.toList args.toList ds before := hA0
  rw [Try.params3] at hA hval
  obtain ⟨v0, v1, v2, v3, v4, d0, d1, d2, d3, d4, p0, p1, p2, p3, p4, rfl, rfl, rfl, h0, h1, h2, h3, h4⟩ := trodAll_five hA
  obtain ⟨A, n, c0, l, rfl, hl, hL, -⟩ := open_tasks (hval 0 22 v0 rfl rfl) h0
  obtain ⟨c, q, d, rfl⟩ := open_task (hval 1 24 v1 rfl rfl) h1
  obtain ⟨h, rfl, -, -, -⟩ := open_int Try.underlying3 (hval 2 3 v2 rfl rfl) h2
  obtain ⟨b, p, rfl⟩ := open_reserve (hval 3 26 v3 rfl rfl) h3
  obtain ⟨u, rfl, -, -, -⟩ := open_int Try.underlying3 (hval 4 3 v4 rfl rfl) h4
  exact qtimes_any A n c0 l c q d h b p u W hl hL

theorem qtimes_holds : Rows.RespondTimesSaid :=
  OpenClaim.holds_of_wide 3 Try.f3 rfl rfl rfl rfl rfl rfl rfl ⟨rfl, rfl, rfl, rfl, rfl⟩ rfl rfl rfl rfl rfl (by kernel_rfl) Try.func3 (by kernel_rfl)
    (of_decide_eq_true (by kernel_rfl)) (by unfold Func.isWrapper; first | (rw [if_pos (by decide +kernel)]; kernel_rfl) | (rw [if_neg (by decide +kernel)]; exact ⟨rfl, rfl⟩))
    (fun os started H enc _ => qtimes_lifted os started H enc)
end Go.Proofs.Ytnhfbfpkjcnicaa
