/- Rows of bools and of fractions that a call makes and writes into: what a walk is told of them. -/
import Derived.Test.YtdegbfgnbobgoacLdDef
import Derived.Test.YtdegbfgnbobgoacPlains
import Derived.Test.YtdegbfgnbobgoacBel
import Derived.OwnWalk
namespace Go.Proofs.Ytdegbfgnbobgoac
namespace Fl
open Go.RowKit Fr Ns Ld
set_option linter.unusedSimpArgs false
set_option linter.unusedVariables false

theorem infoBool : (Try.prog.info? 4).map (fun i => (i.zero, i.size, i.bytes)) = some (some (.bool false), 1, 1) := by kernel_rfl
def boolsV (l : List Bool) : List Value := l.map Value.bool
theorem boolsV_length (l : List Bool) : (boolsV l).length = l.length := by simp [boolsV]
/-- the block g holds these cells, and none of it is frozen -/
def RowAt (w : World) (g : Nat) (T : TypeId) (xs : List Value) : Prop := w.heap[g]? = some (.cells xs.toArray T (0, 0))
theorem RowAt.lt {w : World} {g : Nat} {T : TypeId} {xs : List Value} (h : RowAt w g T xs) : g < w.heap.size := (Array.getElem?_eq_some_iff.1 h).1
theorem RowAt.cell {w : World} {g : Nat} {T : TypeId} {xs : List Value} (h : RowAt w g T xs) {i : Nat} {v : Value} (hi : xs[i]? = some v) : w.cell? ⟨g, i, none⟩ = some v := by
  rw [cell_of_row w g i _ T (0, 0) h]
  simpa using hi
theorem RowAt.frozen {w : World} {g : Nat} {T : TypeId} {xs : List Value} (h : RowAt w g T xs) (i : Nat) : w.frozen? ⟨g, i, none⟩ = false := frozen_of_row w g i _ T h
theorem RowAt.set {w : World} {g : Nat} {T : TypeId} {xs : List Value} (h : RowAt w g T xs) (i : Nat) (v : Value) : RowAt (w.setCell ⟨g, i, none⟩ v) g T (xs.set i v) := by
  unfold RowAt
  rw [heap_setCell_same w g i _ T v h]
  simp
theorem RowAt.later {w w' : World} {g B : Nat} {T : TypeId} {xs : List Value} (hb : Below B w w') (hg : g < B) (h : RowAt w g T xs) : RowAt w' g T xs := by
  unfold RowAt
  rw [hb.block g hg]; exact h
theorem RowAt.other {w : World} {g : Nat} {T : TypeId} {xs : List Value} (h : RowAt w g T xs) {a : Addr} (ha : a.block ≠ g) (v : Value) : RowAt (w.setCell a v) g T xs := by
  unfold RowAt
  rw [Below.heap_setCell w a v g (fun e => ha e.symm)]; exact h
theorem RowAt.alloc {w : World} {g : Nat} {T : TypeId} {xs : List Value} (h : RowAt w g T xs) (o : Obj) : RowAt (w.alloc o) g T xs := h.later (((Below.refl w.heap.size w)).alloc (Nat.le_refl _) o) h.lt
theorem RowAt.new (w : World) (a : Array Value) (T : TypeId) : RowAt (w.alloc (.cells a T (0, 0))) w.heap.size T a.toList := by
  unfold RowAt
  rw [heap_alloc_new]
theorem RowAt.owns {w : World} {base g n size : Nat} {T : TypeId} {xs : List Value} (h : RowAt w g T xs) (hb : base ≤ g) (hl : xs.length = n * size) (hn : n ≤ maxLen) : w.ownsRow base T size (.slice (some ⟨g, 0, none⟩) n n) n xs := by
  refine ⟨hl, .inr ⟨g, n, xs.toArray, rfl, hb, h, Nat.le_refl _, hn, by simp [hl], by simp [← hl]⟩⟩
theorem RowAt.of_owns {w : World} {base g n size : Nat} {T : TypeId} {xs : List Value} (h : w.ownsRow base T size (.slice (some ⟨g, 0, none⟩) n n) n xs) : RowAt w g T xs := by
  obtain ⟨h0, h⟩ := h
  rcases h with ⟨e, _⟩ | ⟨g', cap, cur, e, hb, hg, hc, hm, hs, ht⟩
  · cases e
  · simp only [Value.slice.injEq, Option.some.injEq, Addr.mk.injEq, and_true, true_and] at e
    obtain ⟨rfl, rfl⟩ := e
    unfold RowAt
    rw [hg]
    have : cur.toList = xs := by
      have : cur.toList.take (n * size) = cur.toList := List.take_of_length_le (by simp [hs])
      rw [← this]; exact ht
    rw [← this]
end Fl
end Go.Proofs.Ytdegbfgnbobgoac
