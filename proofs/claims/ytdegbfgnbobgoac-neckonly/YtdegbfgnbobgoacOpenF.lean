/- From the reading of an argument to what a walk is told of it: a list of fractions. -/
import Derived.Test.YtdegbfgnbobgoacOpen
import Derived.Test.YtdegbfgnbobgoacLdDef
import Derived.Deep.SlicePairs
namespace Go.Proofs.Ytdegbfgnbobgoac
namespace Ld
open Go.ChangeShapes Go.WideShapes Go.ChangeAt Go.RowKit Go.Joins Go.Deep Ns
set_option linter.unusedVariables false
set_option linter.unusedSimpArgs false

theorem cellsFrac : Try.prog.cellsOf 37 = 2 := by kernel_rfl

variable {H : Type} {enc : TypeId × Value → H}

theorem fracs_of_trod {w : World} {n : Nat} {v : Value} {y : DataW H × List MemPlace} (h : DataW.trod enc Try.prog w 0 (fun _ => true) true n 26 [v] = some y) : ∃ l, FracsAt (fun b => b < w.heap.size) w v l := by
  rcases open_slice_pairs Try.underlying26 Try.underlying37 cellsFrac rfl rfl (by kernel_rfl) (by kernel_rfl) h with ⟨hcs, _⟩ | ⟨a, len, cap, m, k, V0, V1, D0, D1, P0, P1, hcs, _, hl, hm, hmm, _, hr⟩
  · simp at hcs
    subst hcs
    exact ⟨[], fracs_nil _ _⟩
  · simp at hcs
    subst hcs
    simp only [if_true] at hmm
    subst hmm
    have each : ∀ i, i < m → ∃ z : Int × Int, w.cell? (a.add (i * 2)) = some (.int .i64 z.1) ∧ w.cell? (a.add (i * 2 + 1)) = some (.int .i64 z.2) := by
      intro i hi
      obtain ⟨h1, h2, h3, h4⟩ := hr i hi
      obtain ⟨z0, e0, _, _⟩ := DataW.trod_int Try.underlying3 h3
      obtain ⟨z1, e1, _, _⟩ := DataW.trod_int Try.underlying3 h4
      simp only [List.cons.injEq, and_true] at e0 e1
      exact ⟨(z0, z1), by rw [h1, e0], by rw [h2, e1]⟩
    obtain ⟨q, hq⟩ := choose_lt each
    have hlen : ((List.range len).map q).length = len := by simp
    refine ⟨(List.range len).map q, some a, m, by rw [hlen], ⟨by omega, by unfold maxLen at hm; omega⟩, ?_⟩
    by_cases hz0 : len = 0
    · exact .inl (by rw [hz0]; rfl)
    · right
      obtain ⟨b, off, rfl⟩ := addr_none (show w.cell? (a.add 0) = some _ from (hq 0 (by omega)).1)
      refine ⟨b, off, rfl, fun i hi => ?_, World.block_lt_of_cell? _ _ (hq 0 (by omega)).1⟩
      rw [hlen] at hi
      have e : ((List.range len).map q).getD i (0, 0) = q i := by simp [List.getD, List.getElem?_range hi]
      obtain ⟨h1, h2⟩ := hq i (by omega)
      rw [add_addr'] at h1 h2
      rw [e]
      exact ⟨h1, by rw [Nat.add_assoc]; exact h2⟩

set_option maxRecDepth 100000 in
theorem fracsArg_of_trod {w : World} {base : Nat} {v : Value} {d : DataW H} {p : List MemPlace} (hv : Value.okWide Try.prog w .any base 26 v) (h : DataW.Trod enc Try.prog w 0 (fun _ => true) true 26 v d p) : ∃ l, FracsAt (fun b => b < w.heap.size) w v l := by
  obtain ⟨a, len, cap, rfl⟩ := okWide_slice Try.underlying26 hv
  obtain ⟨fuel, hf⟩ := h
  exact fracs_of_trod (by simpa [Value.cells] using hf)
end Ld
end Go.Proofs.Ytdegbfgnbobgoac
