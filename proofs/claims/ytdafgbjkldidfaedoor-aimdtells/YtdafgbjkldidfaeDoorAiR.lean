/- Package aimd's Run does what is asked of it. -/
import Derived.Test.YtdafgbjkldidfaeDoorAiRun
import Derived.Test.YtdafgbjkldidfaeDoorPlains
namespace Go.Proofs.YtdafgbjkldidfaeDoor
namespace Ev
open Go.RowKit Fr Ns Ld Fl
set_option linter.unusedSimpArgs false
set_option linter.unusedVariables false

theorem arun_said : ARunSaid := by
  intro Q l limit up ticks v w h
  have HR : Hid (Calls Tryd.prog 23 #[v, .int .i64 limit, .int .i64 up, .int .i64 ticks] w fun e w' => ∃ y, e = .returned (.tuple #[y, .int .i64 (okI (runE l limit up ticks) (runC l limit up ticks : Int)), errV (runE l limit up ticks)]) ∧ IntsAt (fun b => w.heap.size ≤ b) w' y (okL (runE l limit up ticks) (runL l limit up ticks)) ∧ Below w.heap.size w w') := arun_any l limit up ticks v w h
  obtain ⟨a, cap, rfl, _⟩ := h
  generalize okI (runE l limit up ticks) (runC l limit up ticks : Int) = C at *
  generalize okL (runE l limit up ticks) (runL l limit up ticks) = L at *
  generalize errV (runE l limit up ticks) = E at *
  go_enter Tryd.func12, Tryd.ntmps12
  go_wp2_with fail
  refine HR.out.mono ?_
  rintro e w1 ⟨y, rfl, hy, hw⟩
  have HB : Hid (Below w.heap.size w w1) := hw
  have HY : Hid (IntsAt (fun b => w.heap.size ≤ b) w1 y L) := hy
  clear hy hw
  go_wp2
  exact bodyPost_ret (v := .tuple #[y, E]) (by simp [results, Tryd.results12, go_sem]) rfl ⟨_, rfl, HY.out, HB.out⟩
end Ev
end Go.Proofs.YtdafgbjkldidfaeDoor
