/- What is asked of package neck's Of, as the document says it. -/
import Derived.Test.YtdegbfgnbobgoacLdDef
import Derived.Test.YtdegbfgnbobgoacNetSaid
import Derived.Test.YtdegbfgnbobgoacNkDef
namespace Go.Proofs.Ytdegbfgnbobgoac
namespace Fl
open Go.RowKit Fr Ns Ld

def NOfSaid : Prop := ∀ (Q : Nat → Prop) (caps : List Int) (paths : List (List Int)) (r : List (Int × Int)) (v x : Value) (w : World), NetAt Q w v caps paths → FracsAt Q w x r →
  Calls Try.prog 12 #[v, x] w fun e w' => ∃ y, e = .returned (.tuple #[y, errV (loadE caps paths r)]) ∧
    IntsAt (fun b => w.heap.size ≤ b) w' y (okL (loadE caps paths r) (necksL caps paths r)) ∧ Below w.heap.size w w'
end Fl
end Go.Proofs.Ytdegbfgnbobgoac
