/- Slices of slices of int: rows of them that a call owns. -/
import Derived.Test.YtdegbfgnbobgoacNetDef0
namespace Go.Proofs.Ytdegbfgnbobgoac
namespace Ns
open Go.RowKit
set_option linter.unusedSimpArgs false
set_option linter.unusedVariables false

theorem infoInts : (Try.prog.info? 22).map (fun i => (i.zero, i.size, i.bytes)) = some (some (.slice none 0 0), 1, 24) := by kernel_rfl

/-- a row of slices that the call owns is a list of lists -/
theorem lists_of_owns {Q : Nat → Prop} {w : World} {base : Nat} {v : Value} {ll : List (List Int)} {vs : List Value} (hl : ll.length ≤ 9223372036854775807) (hvs : vs.length = ll.length) (h : w.ownsRow base 22 1 v ll.length vs)
    (hi : ∀ i, i < ll.length → IntsAt Q w (vs.getD i undef) (ll.getD i [])) (hQ : ∀ g, base ≤ g → Q g) : ListsAt Q w v ll := by
  have h' := h
  obtain ⟨h0, h⟩ := h
  rcases h with ⟨rfl, h⟩ | ⟨g, cap, cur, rfl, hb, hg, hc, hm, hs, ht⟩
  · have : ll = [] := List.eq_nil_of_length_eq_zero h
    subst this
    exact ⟨none, 0, rfl, ⟨Nat.le_refl _, by simp⟩, .inl rfl⟩
  · refine ⟨_, cap, rfl, ⟨hc, hl⟩, .inr ⟨g, 0, rfl, fun i hi' => ⟨vs.getD i undef, ?_, hi i hi'⟩, hQ g hb⟩⟩
    have := h'.cells (g := g) rfl i (vs.getD i undef) (by simp [List.getD, List.getElem?_eq_getElem (show i < vs.length by omega)])
    rw [add_addr] at this
    exact this

end Ns
end Go.Proofs.Ytdegbfgnbobgoac
