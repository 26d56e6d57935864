/-
  No cell of these rows narrows 'for every input' (looked for: loops, veiled, ifaces, maps, wideKeys, modest, calm, conditions, laid).
  DERIVED. THE GIVEN ROWS OF THIS SEAT. 3 by the template 'for every input the law returns true; each argument reads behind the call as it read before'; 0 by the template 'total and deterministic' (their statements: YtnchlgdmpjemhaaTotals.lean).
  GIVEN WITH THE SEED: the statements are not yours to turn. If you find one false, say at which input.
  Laid BY PROGRAM, IN A SANDBOX (cutbox-rows.mjs): the forced cells as the released guide's own fill.sh prints them over the translation 815225ce9305567e… (all of the seat's roots in one cut). By AI agents, Wed Nov 11 2026. No macro, syntax, notation, axiom, sorry.
-/
import Derived.Test.YtnchlgdmpjemhaaChecked
import GoSem.Claim
import GoSem.ClaimJoined
import GoSem.ClaimMapViews
import Derived.JoinedTies
import Derived.KernelRfl
namespace Go.Proofs.Ytnchlgdmpjemhaa
/- THE CELL 'sum', in the pinned program and in every row, IS THE sha256 OF THE DUMP (.gsa) THAT YtnchlgdmpjemhaaProg.lean LOADS. Nothing in Lean hashes anything: it is a label: what it is worth is what the hold of that sum in a sandbox is worth. -/
noncomputable def Try.pinned : Pinned := { name := "ytnchlgdmpjemhaa", sum := "815225ce9305567e11767b1f7edfd6faca0203fb1e6e71a89ade6bf88105c1fb", checked := Try.checked }
namespace Rows
def none {H : Type} : Left H := { results := [], args := [] }

/-- 'remontoirelaw03.TasksUse': WHATEVER THE INPUT: true; the input reads as it did. -/
def tasksUseSpec : ChangeSpec := { name := "tasksUse", fn := fun _ => fun
  | [d1, d2, d3] => { results := [.lit (.bool true)], args := [d1, d2, d3] }
  | _ => none }
def tasksUseRow : OpenClaim := { program := "ytnchlgdmpjemhaa", sum := "815225ce9305567e11767b1f7edfd6faca0203fb1e6e71a89ade6bf88105c1fb", func := "remontoire/remontoirelaw03.TasksUse", spec := "tasksUse", inPlace := ["math/bits.Add64"], unfollowed := true, recurses := true, apart := false }
def TasksUseSaid : Prop := tasksUseRow.holds Try.pinned (OpenSpec.ofChange tasksUseSpec)

/-- ITS FALSE NEIGHBOUR: 'it returns false'. Refute it at one input. -/
def tasksUseWrong : ChangeSpec := { name := "tasksUse", fn := fun _ => fun
  | [d1, d2, d3] => { results := [.lit (.bool false)], args := [d1, d2, d3] }
  | _ => none }
def TasksUseWrongFalsely : Prop := tasksUseRow.holds Try.pinned (OpenSpec.ofChange tasksUseWrong)

/-- 'remontoirelaw03.TasksDemand': WHATEVER THE INPUT: true; the input reads as it did. -/
def tasksDemandSpec : ChangeSpec := { name := "tasksDemand", fn := fun _ => fun
  | [d1, d2] => { results := [.lit (.bool true)], args := [d1, d2] }
  | _ => none }
def tasksDemandRow : OpenClaim := { program := "ytnchlgdmpjemhaa", sum := "815225ce9305567e11767b1f7edfd6faca0203fb1e6e71a89ade6bf88105c1fb", func := "remontoire/remontoirelaw03.TasksDemand", spec := "tasksDemand", apart := false }
def TasksDemandSaid : Prop := tasksDemandRow.holds Try.pinned (OpenSpec.ofChange tasksDemandSpec)

/-- ITS FALSE NEIGHBOUR: 'it returns false'. Refute it at one input. -/
def tasksDemandWrong : ChangeSpec := { name := "tasksDemand", fn := fun _ => fun
  | [d1, d2] => { results := [.lit (.bool false)], args := [d1, d2] }
  | _ => none }
def TasksDemandWrongFalsely : Prop := tasksDemandRow.holds Try.pinned (OpenSpec.ofChange tasksDemandWrong)

/-- 'remontoirelaw03.TasksGrow': WHATEVER THE INPUT: true; the input reads as it did. -/
def tasksGrowSpec : ChangeSpec := { name := "tasksGrow", fn := fun _ => fun
  | [d1, d2, d3] => { results := [.lit (.bool true)], args := [d1, d2, d3] }
  | _ => none }
def tasksGrowRow : OpenClaim := { program := "ytnchlgdmpjemhaa", sum := "815225ce9305567e11767b1f7edfd6faca0203fb1e6e71a89ade6bf88105c1fb", func := "remontoire/remontoirelaw03.TasksGrow", spec := "tasksGrow", apart := false }
def TasksGrowSaid : Prop := tasksGrowRow.holds Try.pinned (OpenSpec.ofChange tasksGrowSpec)

/-- ITS FALSE NEIGHBOUR: 'it returns false'. Refute it at one input. -/
def tasksGrowWrong : ChangeSpec := { name := "tasksGrow", fn := fun _ => fun
  | [d1, d2, d3] => { results := [.lit (.bool false)], args := [d1, d2, d3] }
  | _ => none }
def TasksGrowWrongFalsely : Prop := tasksGrowRow.holds Try.pinned (OpenSpec.ofChange tasksGrowWrong)

/- THE SECOND FORM. 'bulk': how many values and letters a reading holds, each counted each time it is reached (what is shared counts as often as it is met; a slice's spare places count too). A statement '..UptoSaid' is the law's where the arguments, and the package variables that the reading takes, are together of bulk at most 1048576: NARROWER than '..Said'. Prove '..Said' where nothing that the law and all that it calls make is longer than what came in: it says more and counts as full. Else prove '..UptoSaid'. A law counts once. -/
mutual
def uptoBulk {H : Type} : DataW H → Nat
  | .lit (.string bytes) => bytes.length + 1
  | .lit _ => 1
  | .nil => 1
  | .ptr d => uptoBulk d + 1
  | .slice elems spare => uptoBulkAll elems + uptoBulkAll spare + 1
  | .agg parts => uptoBulkAll parts + 1
  | .iface _ d => uptoBulk d + 1
  | .map entries => uptoBulkEntries entries + 1
  | .held _ => 1
def uptoBulkAll {H : Type} : List (DataW H) → Nat
  | [] => 0
  | d :: r => uptoBulk d + uptoBulkAll r
def uptoBulkEntries {H : Type} : List (Lit × DataW H) → Nat
  | [] => 0
  | x :: r => uptoBulkEntry x + uptoBulkEntries r
def uptoBulkEntry {H : Type} : Lit × DataW H → Nat
  | (.string bytes, d) => bytes.length + uptoBulk d + 1
  | (_, d) => uptoBulk d + 1
 end
def uptoSmall : (H : Type) → List (DataW H) → Bool := fun _ ds => decide (uptoBulkAll ds ≤ 1048576)
def OpenSpec.upto (s : _root_.Go.ChangeSpec) : _root_.Go.OpenSpec := { _root_.Go.OpenSpec.ofChange s with cond := some uptoSmall }

/-- 'remontoirelaw03.TasksUse', WHERE WHAT IT READS IS OF BULK AT MOST 1048576: true; the input reads as it did. -/
def tasksUseUptoRow : OpenClaim := { program := "ytnchlgdmpjemhaa", sum := "815225ce9305567e11767b1f7edfd6faca0203fb1e6e71a89ade6bf88105c1fb", func := "remontoire/remontoirelaw03.TasksUse", spec := "tasksUse", inPlace := ["math/bits.Add64"], unfollowed := true, recurses := true, apart := false, narrowed := true }
def TasksUseUptoSaid : Prop := tasksUseUptoRow.holds Try.pinned (OpenSpec.upto tasksUseSpec)

/-- 'remontoirelaw03.TasksDemand', WHERE WHAT IT READS IS OF BULK AT MOST 1048576: true; the input reads as it did. -/
def tasksDemandUptoRow : OpenClaim := { program := "ytnchlgdmpjemhaa", sum := "815225ce9305567e11767b1f7edfd6faca0203fb1e6e71a89ade6bf88105c1fb", func := "remontoire/remontoirelaw03.TasksDemand", spec := "tasksDemand", apart := false, narrowed := true }
def TasksDemandUptoSaid : Prop := tasksDemandUptoRow.holds Try.pinned (OpenSpec.upto tasksDemandSpec)

/-- 'remontoirelaw03.TasksGrow', WHERE WHAT IT READS IS OF BULK AT MOST 1048576: true; the input reads as it did. -/
def tasksGrowUptoRow : OpenClaim := { program := "ytnchlgdmpjemhaa", sum := "815225ce9305567e11767b1f7edfd6faca0203fb1e6e71a89ade6bf88105c1fb", func := "remontoire/remontoirelaw03.TasksGrow", spec := "tasksGrow", apart := false, narrowed := true }
def TasksGrowUptoSaid : Prop := tasksGrowUptoRow.holds Try.pinned (OpenSpec.upto tasksGrowSpec)

end Rows
end Go.Proofs.Ytnchlgdmpjemhaa
