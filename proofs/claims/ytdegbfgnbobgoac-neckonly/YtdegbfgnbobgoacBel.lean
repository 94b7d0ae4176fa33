/- Small laws on worlds behind calls: what lies below stays. -/
import Derived.Test.YtdegbfgnbobgoacErrV
namespace Go.Proofs.Ytdegbfgnbobgoac
namespace Bel
open Go.RowKit
theorem more {B : Nat} {W u : World} (h : Below B W u) (hB : B ≤ W.heap.size) (o : Obj) : Below B W (u.alloc o) := h.alloc (Nat.le_trans hB h.size) o
theorem call {B : Nat} {W u u' : World} (h : Below B W u) (hB : B ≤ W.heap.size) (hc : Below u.heap.size u u') : Below B W u' := h.trans (hc.mono (Nat.le_trans hB h.size))
end Bel
end Go.Proofs.Ytdegbfgnbobgoac
