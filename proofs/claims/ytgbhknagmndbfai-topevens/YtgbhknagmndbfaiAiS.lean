/- Package aimd's Step does what is asked of it. -/
import Derived.Test.YtgbhknagmndbfaiAiRun
import Derived.Test.YtgbhknagmndbfaiPlains
namespace Go.Proofs.Ytgbhknagmndbfai
namespace Ev
open Go.RowKit Fr Ns Ld Fl
set_option linter.unusedSimpArgs false
set_option linter.unusedVariables false

theorem astep_said : AStepSaid := by
  intro Q l limit up v w h
  have HR : Hid (Calls Try.prog 17 #[v, .int .i64 limit, .int .i64 up, .int .i64 1] w fun e w' => ∃ y, e = .returned (.tuple #[y, .int .i64 (okI (runE l limit up 1) (runC l limit up 1 : Int)), errV (runE l limit up 1)]) ∧ IntsAt (fun b => w.heap.size ≤ b) w' y (okL (runE l limit up 1) (runL l limit up 1)) ∧ Below w.heap.size w w') := arun_any l limit up 1 v w h
  obtain ⟨a, cap, rfl, _⟩ := h
  rw [← (run_one l limit up).2, ← (run_one l limit up).1]
  generalize okI (runE l limit up 1) (runC l limit up 1 : Int) = C at *
  generalize okL (runE l limit up 1) (runL l limit up 1) = L at *
  generalize errV (runE l limit up 1) = E at *
  go_enter Try.func7, Try.ntmps7
  go_wp2_with fail
  refine HR.out.mono ?_
  rintro e w1 ⟨y, rfl, hy, hw⟩
  have HB : Hid (Below w.heap.size w w1) := hw
  have HY : Hid (IntsAt (fun b => w.heap.size ≤ b) w1 y L) := hy
  clear hy hw
  go_wp2
  exact bodyPost_ret (v := .tuple #[y, E]) (by simp [results, Try.results7, go_sem]) rfl ⟨_, rfl, HY.out, HB.out⟩
end Ev
end Go.Proofs.Ytgbhknagmndbfai
