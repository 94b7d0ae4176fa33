/- An error as a value, and old memory behind a contract. -/
import Derived.Test.YtdegbfgnbobgoacChecked
import Derived.WalkKit
import Derived.WalkSpells
import Derived.WalkLawsBesides
namespace Go.Proofs.Ytdegbfgnbobgoac
namespace Fr
open Go.RowKit

/-- an error value: none, or the number in an api.Errno -/
def errV (k : Int) : Value := if k = 0 then .nilIface else .iface 57 (.int .i64 k)
theorem errV_0 : errV 0 = .nilIface := rfl
theorem errV_ne {k : Int} (h : k ≠ 0) : errV k = .iface 57 (.int .i64 k) := by simp [errV, h]

theorem bcell {W w1 : World} (hb : Below W.heap.size W w1) : (∀ b o, b < W.heap.size → w1.cell? ⟨b, o, none⟩ = W.cell? ⟨b, o, none⟩) ∧ (∀ b o, b < W.heap.size → w1.frozen? ⟨b, o, none⟩ = W.frozen? ⟨b, o, none⟩) :=
  ⟨fun b o h => hb.cell (p := ⟨b, o, none⟩) h, fun b o h => hb.frozen (p := ⟨b, o, none⟩) h⟩

end Fr
end Go.Proofs.Ytdegbfgnbobgoac
