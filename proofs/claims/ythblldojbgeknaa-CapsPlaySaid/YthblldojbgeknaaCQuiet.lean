/-
  A region that draws its order, read once in the text's order, in worlds of a class of one's own.
-/
import Derived.Test.YthblldojbgeknaaCDoesR
import Derived.BigQuiet
namespace Go.Proofs.Ythblldojbgeknaa

theorem region_quiet {C : World → Prop} {id : Nat} {Q : Exit → Act → World → Prop} {a : Act} {w : World} {l : List Oper} (hm : Try.prog.follows .mixedOrders = true) (hB : Region.lexB .any l.toArray = true) (hC : C w.drew)
    (h : wpQuiet Try.prog l.toArray C (fun a' => ∀ w', C w' → Q .normal a' w') l a) : (Code.region id l.toArray true).wp Try.prog Q a w :=
  wp_region_quiet (C := C) hm hB hC (by simpa using h)
end Go.Proofs.Ythblldojbgeknaa
