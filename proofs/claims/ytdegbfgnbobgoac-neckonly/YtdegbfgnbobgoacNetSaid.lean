/- What is asked of package net's Check, as the document says it: a contract to be proved of the landed code. -/
import Derived.Test.YtdegbfgnbobgoacNetPl
namespace Go.Proofs.Ytdegbfgnbobgoac
namespace Ns
open Go.RowKit Fr

def CheckSaid : Prop := ∀ (Q : Nat → Prop) (caps : List Int) (paths : List (List Int)) (v : Value) (w : World), NetAt Q w v caps paths →
  Calls Try.prog 11 #[v] w fun e w' => e = .returned (errV (netE caps paths)) ∧ Below w.heap.size w w'
end Ns
end Go.Proofs.Ytdegbfgnbobgoac
