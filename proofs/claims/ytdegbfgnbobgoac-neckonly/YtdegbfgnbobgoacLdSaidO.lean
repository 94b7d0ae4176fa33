/- What is asked of package load's Of, as the document says it. -/
import Derived.Test.YtdegbfgnbobgoacLdDef
import Derived.Test.YtdegbfgnbobgoacNetSaid
namespace Go.Proofs.Ytdegbfgnbobgoac
namespace Ld
open Go.RowKit Fr Ns

def OfSaid : Prop := ∀ (Q : Nat → Prop) (caps : List Int) (paths : List (List Int)) (r : List (Int × Int)) (v x : Value) (w : World), NetAt Q w v caps paths → FracsAt Q w x r →
  Calls Try.prog 19 #[v, x] w fun e w' => ∃ y, e = .returned (.tuple #[y, errV (loadE caps paths r)]) ∧
    FracsAt (fun b => w.heap.size ≤ b) w' y (okL (loadE caps paths r) (loadL paths r caps.length)) ∧ Below w.heap.size w w'
end Ld
end Go.Proofs.Ytdegbfgnbobgoac
