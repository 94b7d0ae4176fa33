/- Contracts of package frac's checkAll over one fraction and over two. -/
import Derived.Test.YtgbhknagmndbfahDoorFracA
import Derived.Test.YtgbhknagmndbfahDoorPlains
import Derived.Deep.RegionHeld3
namespace Go.Proofs.YtgbhknagmndbfahDoor
namespace Fr
open Go.RowKit

/-- three cases: in lowest terms; not, by the top; not, by the bottom -/
theorem low_cases (t b : Int) : (isLow t b = true ∧ Hid (lowT t b = t) ∧ Hid (lowB t b = b)) ∨ (isLow t b = false ∧ ∃ x y, Hid (lowT t b = x) ∧ Hid (lowB t b = y) ∧ ¬ t = x) ∨ (isLow t b = false ∧ ∃ y, Hid (lowT t b = t) ∧ Hid (lowB t b = y) ∧ ¬ b = y) := by
  by_cases ht : t = lowT t b
  · by_cases hb : b = lowB t b
    · exact .inl ⟨by simp only [isLow]; exact decide_eq_true ⟨ht, hb⟩, ht.symm, hb.symm⟩
    · exact .inr (.inr ⟨by simp only [isLow]; exact decide_eq_false (fun h => hb h.2), _, ht.symm, rfl, hb⟩)
  · exact .inr (.inl ⟨by simp only [isLow]; exact decide_eq_false (fun h => ht h.1), _, _, rfl, rfl, ht⟩)

theorem below_round {w wr w1 : World} {o : Obj} (hbw : Below w.heap.size w wr) (hb1 : Below (wr.alloc o).drew.heap.size (wr.alloc o).drew w1) : Below w.heap.size w w1 :=
  ((hbw.alloc hbw.size o).drew).trans (hb1.mono (by have := hbw.size; simp; omega))

end Fr
end Go.Proofs.YtgbhknagmndbfahDoor
