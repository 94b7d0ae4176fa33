/- A net that was read: how many bytes its list of paths takes is within the form's own reach. -/
import Derived.Test.YtmimfcmpealemadPlains
import Derived.Test.YtmimfcmpealemadRows
namespace Go.Proofs.Ytmimfcmpealemad
namespace Ld
open Go.ChangeShapes Go.WideShapes Go.ChangeAt Go.RowKit Go.Joins Go.Deep Ns
set_option linter.unusedVariables false
set_option linter.unusedSimpArgs false

variable {H : Type} {enc : TypeId × Value → H}
theorem bytesInts : Try.prog.bytesOf 22 = 24 := by kernel_rfl

theorem lists_of_trod_len {w : World} {n : Nat} {v : Value} {y : DataW H × List MemPlace} (h : DataW.trod enc Try.prog w 0 (fun _ => true) true n 23 [v] = some y) : ∃ ll, ListsAt (fun b => b < w.heap.size) w v ll ∧ (ll.length = 0 ∨ ∃ el sp, y.1 = .slice el sp ∧ el.length = ll.length) := by
  rcases open_int_rows Try.underlying23 Try.underlying22 Try.underlying3 cellsInts cellsInt h with ⟨hcs, _⟩ | ⟨a, len, cap, A, L, C, Z, hcs, _, hl, hm, hy, hr⟩
  · simp at hcs
    subst hcs
    exact ⟨[], ⟨none, 0, rfl, ⟨Nat.le_refl _, by simp⟩, .inl rfl⟩, .inl rfl⟩
  · simp at hcs
    subst hcs
    have hlen : ((List.range len).map (fun r => (Z r).take (L r))).length = len := by simp
    refine ⟨(List.range len).map (fun r => (Z r).take (L r)), ⟨some a, cap, by rw [hlen], ⟨by omega, by unfold maxLen at hm; omega⟩, ?_⟩, .inr ⟨_, _, by rw [hy], by simp⟩⟩
    by_cases hz0 : len = 0
    · exact .inl (by rw [hz0]; rfl)
    · right
      obtain ⟨b, off, rfl⟩ := addr_none (hr 0 (by omega)).1
      refine ⟨b, off, rfl, fun i hi => ?_, World.block_lt_of_cell? _ _ (hr 0 (by omega)).1⟩
      rw [hlen] at hi
      obtain ⟨h1, h2, h3, h4, _, h6, h7⟩ := hr i (by omega)
      rw [add_addr'] at h1
      refine ⟨_, h1, ?_⟩
      have e : ((List.range len).map (fun r => (Z r).take (L r))).getD i [] = (Z i).take (L i) := by simp [List.getD, List.getElem?_range hi]
      rw [e]
      exact intsAt_of h2 h3 h4 h6 (fun a' ha c hc => (h7 a' ha).2 c hc)

theorem net_weights {a : DataW H} {el sp : List (DataW H)} (h : ∀ x ∈ DataW.weightsEach Try.prog [25] [(.agg [a, .slice el sp] : DataW H)], x ≤ reachBytes) : (el.length + sp.length) * 24 ≤ reachBytes := by
  have hm : (el.length + sp.length) * 24 ∈ DataW.weightsEach Try.prog [25] [(.agg [a, .slice el sp] : DataW H)] := by
    simp [DataW.weightsEach, DataW.weights, Try.underlying25, Try.underlying23, bytesInts]
  exact h _ hm

set_option maxRecDepth 100000 in
theorem net_of_trod_room {w : World} {base : Nat} {v : Value} {d : DataW H} {p : List MemPlace} (hv : Value.okWide Try.prog w .any base 25 v) (h : DataW.Trod enc Try.prog w 0 (fun _ => true) true 25 v d p)
    (hs : ∀ x ∈ DataW.weightsEach Try.prog [25] [d], x ≤ reachBytes) : ∃ caps paths, NetAt (fun b => b < w.heap.size) w v caps paths ∧ paths.length * 24 ≤ 140737488355328 := by
  obtain ⟨c0, c1, y0, y1, m, rfl, rfl, rfl, hy0, hy1⟩ := open_agg2 Try.underlying25 (by kernel_rfl) cellsNet hv h
  obtain ⟨l, hl⟩ := ints_of_trod hy0
  obtain ⟨ll, hll, hn⟩ := lists_of_trod_len hy1
  refine ⟨l, ll, ⟨c0, c1, rfl, hl, hll⟩, ?_⟩
  rcases hn with hn | ⟨el, sp, he, hn⟩
  · omega
  · rw [he] at hs
    have := net_weights hs
    unfold reachBytes at this
    omega
end Ld
end Go.Proofs.Ytmimfcmpealemad
