/-
  The law FitWiths (whether any set keeps its deadlines with any task more) answers true for any tasks, sections, task, section, reservation and tick; no condition.
-/
import Derived.Test.YtlpmcmgalodfeaaFWiths
import Derived.Test.YtlpmcmgalodfeaaTOpen
import Derived.Test.YtlpmcmgalodfeaaSOpen
import Derived.Test.YtlpmcmgalodfeaaTrod
namespace Go.Proofs.Ytlpmcmgalodfeaa
open Go.ChangeShapes Go.WideShapes Go.ChangeAt Go.RowKit Go.Joins

set_option maxRecDepth 100000 in
theorem fwiths_lifted (os : Os) (started : os.Started) (H : Type) (enc : TypeId × Value → H) :
    ReturnsInHanded {} Try.checked os 6 .any (Rows.fitWithsSpec.pre6 enc Try.prog Try.f6 [] false) (Rows.fitWithsSpec.post enc Try.prog Try.f6 false true false false) := by
  refine law_lifted (C := Try.checked) (tb := 4) 6 law_own started (by kernel_rfl) Try.func6
    (ChangeSpec.witness6 (enc := enc) (C := Try.checked) false ⟨#[], #[.slice none 0 0, .slice none 0 0, .agg #[.int .i64 0, .int .i64 0, .int .i64 0], .int .i64 0, .agg #[.int .i64 0, .int .i64 0], .int .i64 0], []⟩ 8 (by kernel_rfl) (by kernel_rfl) (by kernel_rfl) (by kernel_rfl))
    law_laid (by decide +kernel) (by kernel_rfl) (by kernel_rfl) rfl (by kernel_rfl) (fun ds h => ?_) ?_
  · match ds, h with
    | [_, _, _, _, _, _], _ => rfl
  intro W base args ds before hval0 hA0 _
  have hval : ∀ (j : Nat) t v, Try.f6.params[j]? = some t → args[j]? = some v → Value.okWide Try.prog W .any base t v := hval0
  have hA : DataW.TrodAll enc Try.prog W 0 (fun _ => true) true Try.f6.params.toList args.toList ds before := hA0
  rw [Try.params6] at hA hval
  obtain ⟨v0, v1, v2, v3, v4, v5, d0, d1, d2, d3, d4, d5, p0, p1, p2, p3, p4, p5, rfl, rfl, rfl, h0, h1, h2, h3, h4, h5⟩ := trodAll_six hA
  obtain ⟨A, n, c, l, rfl, hl, hL, hnA⟩ := open_tasks (hval 0 22 v0 rfl rfl) h0
  obtain ⟨A2, m, c2, s, rfl, hs, hS, -, hnA2⟩ := open_nums (hval 1 23 v1 rfl rfl) h1
  obtain ⟨tc, tp, td, rfl⟩ := open_task (hval 2 48 v2 rfl rfl) h2
  obtain ⟨x, rfl, -, -, -⟩ := open_int Try.underlying3 (hval 3 3 v3 rfl rfl) h3
  obtain ⟨b, p, rfl⟩ := open_reserve (hval 4 25 v4 rfl rfl) h4
  obtain ⟨t, rfl, -, -, -⟩ := open_int Try.underlying3 (hval 5 3 v5 rfl rfl) h5
  exact fwiths_any A n c l A2 m c2 s tc tp td x b p t W hl hL hs hS hnA hnA2

theorem fwiths_holds : Rows.FitWithsSaid :=
  OpenClaim.holds_of_wide 6 Try.f6 rfl rfl rfl rfl rfl rfl rfl ⟨rfl, rfl, rfl, rfl, rfl⟩ rfl rfl rfl rfl rfl (by kernel_rfl) Try.func6 (by kernel_rfl)
    (of_decide_eq_true (by kernel_rfl)) (by unfold Func.isWrapper; first | (rw [if_pos (by decide +kernel)]; kernel_rfl) | (rw [if_neg (by decide +kernel)]; exact ⟨rfl, rfl⟩))
    (fun os started H enc _ => fwiths_lifted os started H enc)
end Go.Proofs.Ytlpmcmgalodfeaa
