/- The document's name (package fairref2): an error's name. -/
import Derived.Test.YtpnmmmlckdkcdakGreatDoorPlains
namespace Go.Proofs.YtpnmmmlckdkcdakGreatDoor
namespace Ev
open Go.RowKit Fr Ns Ld Fl
set_option linter.unusedSimpArgs false
set_option linter.unusedVariables false

set_option maxRecDepth 100000 in
set_option maxHeartbeats 2000000 in
theorem RName_any (e : Int) (w : World) (h0 : 0 ≤ e) (h8 : e ≤ 8) :
    Calls Tryz.prog 53 #[.int .i64 e] w fun e' w' => e' = .returned (.string ⟨(nameT e).toArray⟩) ∧ Below w.heap.size w w' := by
  have h : e = 0 ∨ e = 1 ∨ e = 2 ∨ e = 3 ∨ e = 4 ∨ e = 5 ∨ e = 6 ∨ e = 7 ∨ e = 8 := by omega
  clear h0 h8
  rcases h with rfl | rfl | rfl | rfl | rfl | rfl | rfl | rfl | rfl
  all_goals
    go_enter Tryz.func53, Tryz.ntmps53
    go_wp2
    go_ret
    exact ⟨rfl, (Below.refl _ _).alloc (Nat.le_refl _) _⟩
end Ev
end Go.Proofs.YtpnmmmlckdkcdakGreatDoor
