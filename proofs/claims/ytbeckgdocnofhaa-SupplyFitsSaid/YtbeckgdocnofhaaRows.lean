/-
  No cell of these rows narrows 'for every input' (looked for: loops, veiled, ifaces, maps, wideKeys, modest, calm, conditions, laid).
  DERIVED. THE GIVEN ROWS OF THIS SEAT. 5 by the template 'for every input the law returns true; each argument reads behind the call as it read before'; 0 by the template 'total and deterministic' (their statements: YtbeckgdocnofhaaTotals.lean).
  GIVEN WITH THE SEED: the statements are not yours to turn. If you find one false, say at which input.
  Laid BY PROGRAM, IN A SANDBOX (cutbox-rows.mjs): the forced cells as the released guide's own fill.sh prints them over the translation ce57a460e11dffcd… (all of the seat's roots in one cut). By AI agents, Wed Nov 11 2026. No macro, syntax, notation, axiom, sorry.
-/
import Derived.Test.YtbeckgdocnofhaaChecked
import GoSem.Claim
import GoSem.ClaimJoined
import GoSem.ClaimMapViews
import Derived.JoinedTies
import Derived.KernelRfl
namespace Go.Proofs.Ytbeckgdocnofhaa
/- THE CELL 'sum', in the pinned program and in every row, IS THE sha256 OF THE DUMP (.gsa) THAT YtbeckgdocnofhaaProg.lean LOADS. Nothing in Lean hashes anything: it is a label: what it is worth is what the hold of that sum in a sandbox is worth. -/
noncomputable def Try.pinned : Pinned := { name := "ytbeckgdocnofhaa", sum := "ce57a460e11dffcd48f97685117bf9c033a2404cbfd3e42b9f935d66c098a736", checked := Try.checked }
namespace Rows
def none {H : Type} : Left H := { results := [], args := [] }

/-- 'remontoirelaw04.SupplyGives': WHATEVER THE INPUT: true; the input reads as it did. -/
def supplyGivesSpec : ChangeSpec := { name := "supplyGives", fn := fun _ => fun
  | [d1, d2] => { results := [.lit (.bool true)], args := [d1, d2] }
  | _ => none }
def supplyGivesRow : OpenClaim := { program := "ytbeckgdocnofhaa", sum := "ce57a460e11dffcd48f97685117bf9c033a2404cbfd3e42b9f935d66c098a736", func := "remontoire/remontoirelaw04.SupplyGives", spec := "supplyGives", apart := false }
def SupplyGivesSaid : Prop := supplyGivesRow.holds Try.pinned (OpenSpec.ofChange supplyGivesSpec)

/-- ITS FALSE NEIGHBOUR: 'it returns false'. Refute it at one input. -/
def supplyGivesWrong : ChangeSpec := { name := "supplyGives", fn := fun _ => fun
  | [d1, d2] => { results := [.lit (.bool false)], args := [d1, d2] }
  | _ => none }
def SupplyGivesWrongFalsely : Prop := supplyGivesRow.holds Try.pinned (OpenSpec.ofChange supplyGivesWrong)

/-- 'remontoirelaw04.SupplyFits': WHATEVER THE INPUT: true; the input reads as it did. -/
def supplyFitsSpec : ChangeSpec := { name := "supplyFits", fn := fun _ => fun
  | [d] => { results := [.lit (.bool true)], args := [d] }
  | _ => none }
def supplyFitsRow : OpenClaim := { program := "ytbeckgdocnofhaa", sum := "ce57a460e11dffcd48f97685117bf9c033a2404cbfd3e42b9f935d66c098a736", func := "remontoire/remontoirelaw04.SupplyFits", spec := "supplyFits", inPlace := ["math/bits.Add64"], apart := false }
def SupplyFitsSaid : Prop := supplyFitsRow.holds Try.pinned (OpenSpec.ofChange supplyFitsSpec)

/-- ITS FALSE NEIGHBOUR: 'it returns false'. Refute it at one input. -/
def supplyFitsWrong : ChangeSpec := { name := "supplyFits", fn := fun _ => fun
  | [d] => { results := [.lit (.bool false)], args := [d] }
  | _ => none }
def SupplyFitsWrongFalsely : Prop := supplyFitsRow.holds Try.pinned (OpenSpec.ofChange supplyFitsWrong)

/-- 'remontoirelaw04.SupplyWaits': WHATEVER THE INPUT: true; the input reads as it did. -/
def supplyWaitsSpec : ChangeSpec := { name := "supplyWaits", fn := fun _ => fun
  | [d1, d2] => { results := [.lit (.bool true)], args := [d1, d2] }
  | _ => none }
def supplyWaitsRow : OpenClaim := { program := "ytbeckgdocnofhaa", sum := "ce57a460e11dffcd48f97685117bf9c033a2404cbfd3e42b9f935d66c098a736", func := "remontoire/remontoirelaw04.SupplyWaits", spec := "supplyWaits", apart := false }
def SupplyWaitsSaid : Prop := supplyWaitsRow.holds Try.pinned (OpenSpec.ofChange supplyWaitsSpec)

/-- ITS FALSE NEIGHBOUR: 'it returns false'. Refute it at one input. -/
def supplyWaitsWrong : ChangeSpec := { name := "supplyWaits", fn := fun _ => fun
  | [d1, d2] => { results := [.lit (.bool false)], args := [d1, d2] }
  | _ => none }
def SupplyWaitsWrongFalsely : Prop := supplyWaitsRow.holds Try.pinned (OpenSpec.ofChange supplyWaitsWrong)

/-- 'remontoirelaw04.SupplyLeast': WHATEVER THE INPUT: true; the input reads as it did. -/
def supplyLeastSpec : ChangeSpec := { name := "supplyLeast", fn := fun _ => fun
  | [d1, d2, d3] => { results := [.lit (.bool true)], args := [d1, d2, d3] }
  | _ => none }
def supplyLeastRow : OpenClaim := { program := "ytbeckgdocnofhaa", sum := "ce57a460e11dffcd48f97685117bf9c033a2404cbfd3e42b9f935d66c098a736", func := "remontoire/remontoirelaw04.SupplyLeast", spec := "supplyLeast", apart := false }
def SupplyLeastSaid : Prop := supplyLeastRow.holds Try.pinned (OpenSpec.ofChange supplyLeastSpec)

/-- ITS FALSE NEIGHBOUR: 'it returns false'. Refute it at one input. -/
def supplyLeastWrong : ChangeSpec := { name := "supplyLeast", fn := fun _ => fun
  | [d1, d2, d3] => { results := [.lit (.bool false)], args := [d1, d2, d3] }
  | _ => none }
def SupplyLeastWrongFalsely : Prop := supplyLeastRow.holds Try.pinned (OpenSpec.ofChange supplyLeastWrong)

/-- 'remontoirelaw04.SupplyGrows': WHATEVER THE INPUT: true; the input reads as it did. -/
def supplyGrowsSpec : ChangeSpec := { name := "supplyGrows", fn := fun _ => fun
  | [d1, d2, d3] => { results := [.lit (.bool true)], args := [d1, d2, d3] }
  | _ => none }
def supplyGrowsRow : OpenClaim := { program := "ytbeckgdocnofhaa", sum := "ce57a460e11dffcd48f97685117bf9c033a2404cbfd3e42b9f935d66c098a736", func := "remontoire/remontoirelaw04.SupplyGrows", spec := "supplyGrows", apart := false }
def SupplyGrowsSaid : Prop := supplyGrowsRow.holds Try.pinned (OpenSpec.ofChange supplyGrowsSpec)

/-- ITS FALSE NEIGHBOUR: 'it returns false'. Refute it at one input. -/
def supplyGrowsWrong : ChangeSpec := { name := "supplyGrows", fn := fun _ => fun
  | [d1, d2, d3] => { results := [.lit (.bool false)], args := [d1, d2, d3] }
  | _ => none }
def SupplyGrowsWrongFalsely : Prop := supplyGrowsRow.holds Try.pinned (OpenSpec.ofChange supplyGrowsWrong)

/- THE SECOND FORM. 'bulk': how many values and letters a reading holds, each counted each time it is reached (what is shared counts as often as it is met; a slice's spare places count too). A statement '..UptoSaid' is the law's where the arguments, and the package variables that the reading takes, are together of bulk at most 1048576: NARROWER than '..Said'. Prove '..Said' where nothing that the law and all that it calls make is longer than what came in: it says more and counts as full. Else prove '..UptoSaid'. A law counts once. -/
mutual
def uptoBulk {H : Type} : DataW H → Nat
  | .lit (.string bytes) => bytes.length + 1
  | .lit _ => 1
  | .nil => 1
  | .ptr d => uptoBulk d + 1
  | .slice elems spare => uptoBulkAll elems + uptoBulkAll spare + 1
  | .agg parts => uptoBulkAll parts + 1
  | .iface _ d => uptoBulk d + 1
  | .map entries => uptoBulkEntries entries + 1
  | .held _ => 1
def uptoBulkAll {H : Type} : List (DataW H) → Nat
  | [] => 0
  | d :: r => uptoBulk d + uptoBulkAll r
def uptoBulkEntries {H : Type} : List (Lit × DataW H) → Nat
  | [] => 0
  | x :: r => uptoBulkEntry x + uptoBulkEntries r
def uptoBulkEntry {H : Type} : Lit × DataW H → Nat
  | (.string bytes, d) => bytes.length + uptoBulk d + 1
  | (_, d) => uptoBulk d + 1
 end
def uptoSmall : (H : Type) → List (DataW H) → Bool := fun _ ds => decide (uptoBulkAll ds ≤ 1048576)
def OpenSpec.upto (s : _root_.Go.ChangeSpec) : _root_.Go.OpenSpec := { _root_.Go.OpenSpec.ofChange s with cond := some uptoSmall }

/-- 'remontoirelaw04.SupplyGives', WHERE WHAT IT READS IS OF BULK AT MOST 1048576: true; the input reads as it did. -/
def supplyGivesUptoRow : OpenClaim := { program := "ytbeckgdocnofhaa", sum := "ce57a460e11dffcd48f97685117bf9c033a2404cbfd3e42b9f935d66c098a736", func := "remontoire/remontoirelaw04.SupplyGives", spec := "supplyGives", apart := false, narrowed := true }
def SupplyGivesUptoSaid : Prop := supplyGivesUptoRow.holds Try.pinned (OpenSpec.upto supplyGivesSpec)

/-- 'remontoirelaw04.SupplyFits', WHERE WHAT IT READS IS OF BULK AT MOST 1048576: true; the input reads as it did. -/
def supplyFitsUptoRow : OpenClaim := { program := "ytbeckgdocnofhaa", sum := "ce57a460e11dffcd48f97685117bf9c033a2404cbfd3e42b9f935d66c098a736", func := "remontoire/remontoirelaw04.SupplyFits", spec := "supplyFits", inPlace := ["math/bits.Add64"], apart := false, narrowed := true }
def SupplyFitsUptoSaid : Prop := supplyFitsUptoRow.holds Try.pinned (OpenSpec.upto supplyFitsSpec)

/-- 'remontoirelaw04.SupplyWaits', WHERE WHAT IT READS IS OF BULK AT MOST 1048576: true; the input reads as it did. -/
def supplyWaitsUptoRow : OpenClaim := { program := "ytbeckgdocnofhaa", sum := "ce57a460e11dffcd48f97685117bf9c033a2404cbfd3e42b9f935d66c098a736", func := "remontoire/remontoirelaw04.SupplyWaits", spec := "supplyWaits", apart := false, narrowed := true }
def SupplyWaitsUptoSaid : Prop := supplyWaitsUptoRow.holds Try.pinned (OpenSpec.upto supplyWaitsSpec)

/-- 'remontoirelaw04.SupplyLeast', WHERE WHAT IT READS IS OF BULK AT MOST 1048576: true; the input reads as it did. -/
def supplyLeastUptoRow : OpenClaim := { program := "ytbeckgdocnofhaa", sum := "ce57a460e11dffcd48f97685117bf9c033a2404cbfd3e42b9f935d66c098a736", func := "remontoire/remontoirelaw04.SupplyLeast", spec := "supplyLeast", apart := false, narrowed := true }
def SupplyLeastUptoSaid : Prop := supplyLeastUptoRow.holds Try.pinned (OpenSpec.upto supplyLeastSpec)

/-- 'remontoirelaw04.SupplyGrows', WHERE WHAT IT READS IS OF BULK AT MOST 1048576: true; the input reads as it did. -/
def supplyGrowsUptoRow : OpenClaim := { program := "ytbeckgdocnofhaa", sum := "ce57a460e11dffcd48f97685117bf9c033a2404cbfd3e42b9f935d66c098a736", func := "remontoire/remontoirelaw04.SupplyGrows", spec := "supplyGrows", apart := false, narrowed := true }
def SupplyGrowsUptoSaid : Prop := supplyGrowsUptoRow.holds Try.pinned (OpenSpec.upto supplyGrowsSpec)

end Rows
end Go.Proofs.Ytbeckgdocnofhaa
