/- Contracts of the small functions of package frac: the bounds, the divisor, lowest terms. -/
import Derived.Test.YtgbhknagmndbfahDoorChecked
import Derived.Test.YtgbhknagmndbfahDoorPlains
import Derived.WalkKit
import Derived.WalkSpells
import Derived.WalkLawsBesides
import Derived.Deep.QuietTactic
import Derived.BigQuiet
namespace Go.Proofs.YtgbhknagmndbfahDoor
namespace Fr
open Go.RowKit

theorem ret_int {k : IntKind} {a b : Int} (h : a = b) : Ending.returned (.int k a) = .returned (.int k b) := by rw [h]
theorem ret_bool {a b : Bool} (h : a = b) : Ending.returned (.bool a) = .returned (.bool b) := by rw [h]

set_option maxHeartbeats 400000 in
theorem isNaN_any (x : Int) (w : World) :
    Calls Tryd.prog 42 #[.int .i64 x] w fun e w' => e = .returned (.bool false) ∧ w' = w := by
  go_enter Tryd.func42, Tryd.ntmps42
  go_wp2
  go_ret
  exact ⟨by simp, rfl⟩

/-- the call of the built-in max, then the divisor -/
theorem max_abs (t : Int) : max t (-t) = (t.natAbs : Int) := by omega

end Fr
end Go.Proofs.YtgbhknagmndbfahDoor
