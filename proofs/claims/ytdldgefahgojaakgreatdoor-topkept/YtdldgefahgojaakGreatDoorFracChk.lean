/- Contract of package frac's Check. -/
import Derived.Test.YtdldgefahgojaakGreatDoorFracC
namespace Go.Proofs.YtdldgefahgojaakGreatDoor
namespace Fr
open Go.RowKit
set_option linter.unusedSimpArgs false
set_option linter.unusedVariables false

set_option maxHeartbeats 400000 in
theorem Check_any (t b : Int) (w : World) :
    Calls Tryz.prog 60 #[.agg #[.int .i64 t, .int .i64 b]] w fun e w' => e = .returned (errV (fault t b)) ∧ Below w.heap.size w w' := by
  go_enter Tryz.func60, Tryz.ntmps60
  go_wp2_with fail
  refine (checkAll1 (w.heap.size + 1) t b _ (by simp) (by simp) (by simp)).mono ?_
  rintro e w1 ⟨rfl, hb1⟩
  go_wp2
  go_ret
  refine ⟨rfl, ?_⟩
  have hb0 : Below w.heap.size w w1 := (((Below.refl _ _).alloc (Nat.le_refl _) _).alloc (by simp) _).trans (hb1.mono (by simp; omega))
  exact hb0
end Fr
end Go.Proofs.YtdldgefahgojaakGreatDoor
