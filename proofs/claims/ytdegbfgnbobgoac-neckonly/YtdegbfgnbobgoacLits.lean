/- Short lists that a law writes out, in the memory that it made for them. -/
import Derived.Test.YtdegbfgnbobgoacLdDef
namespace Go.Proofs.Ytdegbfgnbobgoac
namespace Ld
open Go.RowKit Fr Ns
set_option linter.unusedSimpArgs false
set_option linter.unusedVariables false

theorem lit_int1 (w : World) (g : Nat) (x : Int) (h : w.cell? ⟨g, 0, none⟩ = some (.int .i64 x)) : IntsAt (fun _ => True) w (.slice (some ⟨g, 0, none⟩) 1 1) [x] :=
  ⟨_, 1, rfl, ⟨Nat.le_refl _, by simp⟩, .inr ⟨g, 0, rfl, fun i hi => by
    match i, hi with
    | 0, _ => simpa using h, trivial⟩⟩
theorem lit_lists2 (w : World) (g : Nat) (x y : Value) (l m : List Int) (h0 : w.cell? ⟨g, 0, none⟩ = some x) (h1 : w.cell? ⟨g, 1, none⟩ = some y) (hx : IntsAt (fun _ => True) w x l) (hy : IntsAt (fun _ => True) w y m) : ListsAt (fun _ => True) w (.slice (some ⟨g, 0, none⟩) 2 2) [l, m] :=
  ⟨_, 2, rfl, ⟨Nat.le_refl _, by simp⟩, .inr ⟨g, 0, rfl, fun i hi => by
    match i, hi with
    | 0, _ => exact ⟨x, by simpa using h0, hx⟩
    | 1, _ => exact ⟨y, by simpa using h1, hy⟩, trivial⟩⟩
theorem lit_fracs2 (w : World) (g : Nat) (a b c d : Int) (h0 : w.cell? ⟨g, 0, none⟩ = some (.int .i64 a)) (h1 : w.cell? ⟨g, 1, none⟩ = some (.int .i64 b)) (h2 : w.cell? ⟨g, 2, none⟩ = some (.int .i64 c)) (h3 : w.cell? ⟨g, 3, none⟩ = some (.int .i64 d)) : FracsAt (fun _ => True) w (.slice (some ⟨g, 0, none⟩) 2 2) [(a, b), (c, d)] :=
  ⟨_, 2, rfl, ⟨Nat.le_refl _, by simp⟩, .inr ⟨g, 0, rfl, fun i hi => by
    match i, hi with
    | 0, _ => exact ⟨by simpa using h0, by simpa using h1⟩
    | 1, _ => exact ⟨by simpa using h2, by simpa using h3⟩, trivial⟩⟩
theorem cells_flat {w : World} {b off : Nat} {l : List (Int × Int)} (h : ∀ i, i < l.length → w.cell? ⟨b, off + i * 2, none⟩ = some (.int .i64 (l.getD i (0, 0)).1) ∧ w.cell? ⟨b, off + i * 2 + 1, none⟩ = some (.int .i64 (l.getD i (0, 0)).2)) :
    ∀ j y, (flat l)[j]? = some y → w.cell? ((⟨b, off, none⟩ : Addr).add j) = some y := by
  intro j y hj
  have hlt : j < (flat l).length := (List.getElem?_eq_some_iff.1 hj).1
  rw [flat_length] at hlt
  rw [add_addr]
  rcases Nat.mod_two_eq_zero_or_one j with hm | hm
  · have e : j = (j / 2) * 2 := by omega
    have h1 := (flat_at l (j / 2) (by omega)).1
    rw [← e] at h1
    rw [h1] at hj
    have h2 := (h (j / 2) (by omega)).1
    rw [← e] at h2
    rw [h2]
    exact hj
  · have e : j = (j / 2) * 2 + 1 := by omega
    have h1 := (flat_at l (j / 2) (by omega)).2
    rw [← e] at h1
    rw [h1] at hj
    have h2 := (h (j / 2) (by omega)).2
    rw [Nat.add_assoc, ← e] at h2
    rw [h2]
    exact hj
end Ld
end Go.Proofs.Ytdegbfgnbobgoac
