/-
  Contracts of the document's answers: what a reservation gives at least, and takes at most, period by period; a reservation made the program's; the chapter's example.
-/
import Derived.Test.YtnhfbfpkjcnicaaSWalksA
namespace Go.Proofs.Ytnhfbfpkjcnicaa
open Go.ChangeShapes Go.WideShapes Go.ChangeAt Go.RowKit




end Go.Proofs.Ytnhfbfpkjcnicaa
