/- From the reading of an argument to what a walk is told of it: a list of ints, a list of lists, a net. -/
import Derived.Test.YtdegbfgnbobgoacNetDef
import Derived.ProofKit
import Derived.OpenShut
import Derived.Lib.SmallJoins
import Derived.Deep.Matrix
namespace Go.Proofs.Ytdegbfgnbobgoac
namespace Ns
open Go.ChangeShapes Go.WideShapes Go.ChangeAt Go.RowKit Go.Joins Go.Deep
set_option linter.unusedVariables false
set_option linter.unusedSimpArgs false

theorem cellsInt : Try.prog.cellsOf 3 = 1 := by kernel_rfl
theorem cellsInts : Try.prog.cellsOf 22 = 1 := by kernel_rfl
theorem cellsNet : Try.prog.cellsOf 25 = 2 := by kernel_rfl

theorem addr_none {w : World} {a : Addr} {v : Value} (h : w.cell? (a.add 0) = some v) : ∃ b off, a = ⟨b, off, none⟩ := by
  obtain ⟨b, off, spot⟩ := a
  have hs : spot = none := by simpa [Addr.add] using World.cell?_spot h
  subst hs
  exact ⟨b, off, rfl⟩
theorem add_addr' (b off i : Nat) : (⟨b, off, none⟩ : Addr).add i = ⟨b, off + i, none⟩ := by unfold Addr.add; split <;> simp_all

/-- a slice of ints, by its address, its cells and their numbers -/
theorem intsAt_of {w : World} {a : Option Addr} {len cap : Nat} {zs : List Int} (hl : len ≤ cap) (hm : cap ≤ maxLen) (hz : zs.length = cap) (h0 : a = none → cap = 0)
    (h : ∀ a', a = some a' → ∀ c, c < cap → w.cell? (a'.add c) = some (.int .i64 (zs.getD c 0))) : IntsAt (fun b => b < w.heap.size) w (.slice a len cap) (zs.take len) := by
  have hlen : (zs.take len).length = len := by rw [List.length_take]; omega
  unfold maxLen at hm
  refine ⟨a, cap, by rw [hlen], ⟨by omega, by omega⟩, ?_⟩
  by_cases hz0 : len = 0
  · exact .inl (by rw [hz0]; rfl)
  · right
    cases a with
    | none => have := h0 rfl; omega
    | some a' =>
      obtain ⟨b, off, rfl⟩ := addr_none (h a' rfl 0 (by omega))
      refine ⟨b, off, rfl, fun i hi => ?_, World.block_lt_of_cell? _ _ (h _ rfl 0 (by omega))⟩
      have := h _ rfl i (by omega)
      rw [add_addr'] at this
      rw [this]
      congr 2
      simp [List.getD, List.getElem?_take, show i < len by omega]

variable {H : Type} {enc : TypeId × Value → H}

theorem ints_of_trod {w : World} {n : Nat} {v : Value} {y : DataW H × List MemPlace} (h : DataW.trod enc Try.prog w 0 (fun _ => true) true n 22 [v] = some y) : ∃ l, IntsAt (fun b => b < w.heap.size) w v l := by
  rcases open_ints Try.underlying22 Try.underlying3 cellsInt h with ⟨hcs, _⟩ | ⟨a, len, cap, zs, hcs, _, hl, hm, hz, _, hcell, hwz⟩
  · simp at hcs
    subst hcs
    exact ⟨[], none, 0, rfl, ⟨Nat.le_refl _, by simp⟩, .inl rfl⟩
  · simp at hcs
    subst hcs
    have hz' : zs.length = cap := by simpa using hz
    exact ⟨_, intsAt_of hl hm hz' (by intro h; cases h) (fun a' ha c hc => by cases ha; exact hcell c (by omega))⟩

theorem lists_of_trod {w : World} {n : Nat} {v : Value} {y : DataW H × List MemPlace} (h : DataW.trod enc Try.prog w 0 (fun _ => true) true n 23 [v] = some y) : ∃ ll, ListsAt (fun b => b < w.heap.size) w v ll := by
  rcases open_int_rows Try.underlying23 Try.underlying22 Try.underlying3 cellsInts cellsInt h with ⟨hcs, _⟩ | ⟨a, len, cap, A, L, C, Z, hcs, _, hl, hm, _, hr⟩
  · simp at hcs
    subst hcs
    exact ⟨[], none, 0, rfl, ⟨Nat.le_refl _, by simp⟩, .inl rfl⟩
  · simp at hcs
    subst hcs
    have hlen : ((List.range len).map (fun r => (Z r).take (L r))).length = len := by simp
    refine ⟨(List.range len).map (fun r => (Z r).take (L r)), some a, cap, by rw [hlen], ⟨by omega, by unfold maxLen at hm; omega⟩, ?_⟩
    by_cases hz0 : len = 0
    · exact .inl (by rw [hz0]; rfl)
    · right
      obtain ⟨b, off, rfl⟩ := addr_none (hr 0 (by omega)).1
      refine ⟨b, off, rfl, fun i hi => ?_, World.block_lt_of_cell? _ _ (hr 0 (by omega)).1⟩
      rw [hlen] at hi
      obtain ⟨h1, h2, h3, h4, _, h6, h7⟩ := hr i (by omega)
      rw [add_addr'] at h1
      refine ⟨_, h1, ?_⟩
      have e : ((List.range len).map (fun r => (Z r).take (L r))).getD i [] = (Z i).take (L i) := by simp [List.getD, List.getElem?_range hi]
      rw [e]
      exact intsAt_of h2 h3 h4 h6 (fun a' ha c hc => (h7 a' ha).2 c hc)

set_option maxRecDepth 100000 in
theorem net_of_trod {w : World} {base : Nat} {v : Value} {d : DataW H} {p : List MemPlace} (hv : Value.okWide Try.prog w .any base 25 v) (h : DataW.Trod enc Try.prog w 0 (fun _ => true) true 25 v d p) : ∃ caps paths, NetAt (fun b => b < w.heap.size) w v caps paths := by
  obtain ⟨c0, c1, y0, y1, m, rfl, rfl, rfl, hy0, hy1⟩ := open_agg2 Try.underlying25 (by kernel_rfl) cellsNet hv h
  obtain ⟨l, hl⟩ := ints_of_trod hy0
  obtain ⟨ll, hll⟩ := lists_of_trod hy1
  exact ⟨l, ll, c0, c1, rfl, hl, hll⟩

set_option maxRecDepth 100000 in
theorem intsArg_of_trod {w : World} {base : Nat} {v : Value} {d : DataW H} {p : List MemPlace} (hv : Value.okWide Try.prog w .any base 22 v) (h : DataW.Trod enc Try.prog w 0 (fun _ => true) true 22 v d p) : ∃ l, IntsAt (fun b => b < w.heap.size) w v l := by
  obtain ⟨a, len, cap, rfl⟩ := okWide_slice Try.underlying22 hv
  obtain ⟨fuel, hf⟩ := h
  exact ints_of_trod (by simpa [Value.cells] using hf)
end Ns
end Go.Proofs.Ytdegbfgnbobgoac
