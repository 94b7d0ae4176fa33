/- Contracts of package frac's checkAll over one fraction and over two. -/
import Derived.Test.YtbbljjhddikfpaeDoorFracA
import Derived.Test.YtbbljjhddikfpaeDoorPlains
import Derived.Deep.RegionHeld3
namespace Go.Proofs.YtbbljjhddikfpaeDoor
namespace Fr
open Go.RowKit

theorem lowest_at (t b x y : Int) (w : World) (hx : Hid (lowT t b = x)) (hy : Hid (lowB t b = y)) (h1 : -1000000000000000000 ≤ t) (h2 : t ≤ 1000000000000000000) (h3 : 1 ≤ b) (h4 : b ≤ 1000000000000000000) :
    Calls Tryd.prog 18 #[.int .i64 t, .int .i64 b] w fun e w' => e = .returned (.agg #[.int .i64 x, .int .i64 y]) ∧ Below w.heap.size w w' := by
  have := lowest_any t b w h1 h2 h3 h4
  rw [hx.out, hy.out] at this
  exact this

/-- three cases: in lowest terms; not, by the top; not, by the bottom -/
theorem low_cases (t b : Int) : (isLow t b = true ∧ Hid (lowT t b = t) ∧ Hid (lowB t b = b)) ∨ (isLow t b = false ∧ ∃ x y, Hid (lowT t b = x) ∧ Hid (lowB t b = y) ∧ ¬ t = x) ∨ (isLow t b = false ∧ ∃ y, Hid (lowT t b = t) ∧ Hid (lowB t b = y) ∧ ¬ b = y) := by
  by_cases ht : t = lowT t b
  · by_cases hb : b = lowB t b
    · exact .inl ⟨by simp only [isLow]; exact decide_eq_true ⟨ht, hb⟩, ht.symm, hb.symm⟩
    · exact .inr (.inr ⟨by simp only [isLow]; exact decide_eq_false (fun h => hb h.2), _, ht.symm, rfl, hb⟩)
  · exact .inr (.inl ⟨by simp only [isLow]; exact decide_eq_false (fun h => ht h.1), _, _, rfl, rfl, ht⟩)

theorem below_round {w wr w1 : World} {o : Obj} (hbw : Below w.heap.size w wr) (hb1 : Below (wr.alloc o).drew.heap.size (wr.alloc o).drew w1) : Below w.heap.size w w1 :=
  ((hbw.alloc hbw.size o).drew).trans (hb1.mono (by have := hbw.size; simp; omega))

end Fr
end Go.Proofs.YtbbljjhddikfpaeDoor
