/- Package log's Bytes does what is asked of it. -/
import Derived.Test.YtdldgefahgojaakDoorPlains
namespace Go.Proofs.YtdldgefahgojaakDoor
namespace Ev
open Go.RowKit Fr Ns Fl
set_option linter.unusedSimpArgs false
set_option linter.unusedVariables false

theorem lbytes_said : LBytesSaid logX := by
  rintro p F s w ⟨g, cv, bv, fv, B, ws, rfl, h⟩ hf
  obtain ⟨-, ⟨a, c, rfl⟩, -⟩ := h.mem.shape
  have hlen := h.len
  obtain ⟨-, c1, -, -, -, -, -, gl⟩ := h.mem.six
  rw [hlen]
  clear h hf hlen
  generalize B.length = n at *
  go_enter Tryd.func9, Tryd.ntmps9
  go_wp2
  go_ret
  exact ⟨rfl, 0, rfl⟩
end Ev
end Go.Proofs.YtdldgefahgojaakDoor
