/-
  The law FitSlacks (the worst stretch of any set on any reservation, and what is left in it) answers true for any tasks, sections, reservation and tick; no condition.
-/
import Derived.Test.YtlpmcmgalodfeaaFSlacks
import Derived.Test.YtlpmcmgalodfeaaTOpen
import Derived.Test.YtlpmcmgalodfeaaSOpen
namespace Go.Proofs.Ytlpmcmgalodfeaa
open Go.ChangeShapes Go.WideShapes Go.ChangeAt Go.RowKit Go.Joins

set_option maxRecDepth 100000 in
theorem fslacks_lifted (os : Os) (started : os.Started) (H : Type) (enc : TypeId × Value → H) :
    ReturnsInHanded {} Try.checked os 4 .any (Rows.fitSlacksSpec.pre6 enc Try.prog Try.f4 [] false) (Rows.fitSlacksSpec.post enc Try.prog Try.f4 false true false false) := by
  refine law_lifted (C := Try.checked) (tb := 4) 4 law_own started (by kernel_rfl) Try.func4
    (ChangeSpec.witness6 (enc := enc) (C := Try.checked) false ⟨#[], #[.slice none 0 0, .slice none 0 0, .agg #[.int .i64 0, .int .i64 0], .int .i64 0], []⟩ 8 (by kernel_rfl) (by kernel_rfl) (by kernel_rfl) (by kernel_rfl))
    law_laid (by decide +kernel) (by kernel_rfl) (by kernel_rfl) rfl (by kernel_rfl) (fun ds h => ?_) ?_
  · match ds, h with
    | [_, _, _, _], _ => rfl
  intro W base args ds before hval0 hA0 _
  have hval : ∀ (j : Nat) t v, Try.f4.params[j]? = some t → args[j]? = some v → Value.okWide Try.prog W .any base t v := hval0
  have hA : DataW.TrodAll enc Try.prog W 0 (fun _ => true) true Try.f4.params.toList args.toList ds before := hA0
  rw [Try.params4] at hA hval
  obtain ⟨v0, v1, v2, v3, d0, d1, d2, d3, p0, p1, p2, p3, rfl, rfl, rfl, h0, h1, h2, h3⟩ := trodAll_four hA
  obtain ⟨A, n, c, l, rfl, hl, hL, -⟩ := open_tasks (hval 0 22 v0 rfl rfl) h0
  obtain ⟨A2, m, c2, s, rfl, hs, hS, hm, -⟩ := open_nums (hval 1 23 v1 rfl rfl) h1
  obtain ⟨b, p, rfl⟩ := open_reserve (hval 2 25 v2 rfl rfl) h2
  obtain ⟨t, rfl, -, -, -⟩ := open_int Try.underlying3 (hval 3 3 v3 rfl rfl) h3
  exact fslacks_any A n c l A2 m c2 s b p t W hl hL hs hS hm

theorem fslacks_holds : Rows.FitSlacksSaid :=
  OpenClaim.holds_of_wide 4 Try.f4 rfl rfl rfl rfl rfl rfl rfl ⟨rfl, rfl, rfl, rfl, rfl⟩ rfl rfl rfl rfl rfl (by kernel_rfl) Try.func4 (by kernel_rfl)
    (of_decide_eq_true (by kernel_rfl)) (by unfold Func.isWrapper; first | (rw [if_pos (by decide +kernel)]; kernel_rfl) | (rw [if_neg (by decide +kernel)]; exact ⟨rfl, rfl⟩))
    (fun os started H enc _ => fslacks_lifted os started H enc)
end Go.Proofs.Ytlpmcmgalodfeaa
