/- What is asked of package load's three calls, as the document says it: contracts to be proved of the landed code. -/
import Derived.Test.YtmoeaaocpnoibabLdDef
import Derived.Test.YtmoeaaocpnoibabNetSaid
namespace Go.Proofs.Ytmoeaaocpnoibab
namespace Ld
open Go.RowKit Fr Ns

def OfSaid : Prop := ∀ (Q : Nat → Prop) (caps : List Int) (paths : List (List Int)) (r : List (Int × Int)) (v x : Value) (w : World), NetAt Q w v caps paths → FracsAt Q w x r →
  Calls Try.prog 5 #[v, x] w fun e w' => ∃ y, e = .returned (.tuple #[y, errV (loadE caps paths r)]) ∧
    FracsAt (fun b => w.heap.size ≤ b) w' y (okL (loadE caps paths r) (loadL paths r caps.length)) ∧ Below w.heap.size w w'
def FitsSaid : Prop := ∀ (Q : Nat → Prop) (caps : List Int) (paths : List (List Int)) (r : List (Int × Int)) (v x : Value) (w : World), NetAt Q w v caps paths → FracsAt Q w x r →
  Calls Try.prog 7 #[v, x] w fun e w' => e = .returned (.tuple #[.bool (decide (loadE caps paths r = 0) && fitsB caps paths r), errV (loadE caps paths r)]) ∧ Below w.heap.size w w'
def LeftSaid : Prop := ∀ (Q : Nat → Prop) (caps : List Int) (paths : List (List Int)) (r : List (Int × Int)) (v x : Value) (w : World), NetAt Q w v caps paths → FracsAt Q w x r →
  Calls Try.prog 6 #[v, x] w fun e w' => ∃ y, e = .returned (.tuple #[y, errV (leftE caps paths r)]) ∧
    FracsAt (fun b => w.heap.size ≤ b) w' y (okL (leftE caps paths r) (leftL caps paths r)) ∧ Below w.heap.size w w'
end Ld
end Go.Proofs.Ytmoeaaocpnoibab
