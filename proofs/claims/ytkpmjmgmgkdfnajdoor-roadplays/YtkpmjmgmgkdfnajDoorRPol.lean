/- The document's pool (package fairref2): its fault, a tick of it. -/
import Derived.Test.YtkpmjmgmgkdfnajDoorPlains
namespace Go.Proofs.YtkpmjmgmgkdfnajDoor
namespace Ev
open Go.RowKit Fr Ns Ld Fl
set_option linter.unusedSimpArgs false
set_option linter.unusedVariables false

set_option maxRecDepth 100000 in
set_option maxHeartbeats 2000000 in
theorem RPool_any (s r h : Int) (w : World) :
    Calls Tryd.prog 14 #[.agg #[.int .i64 s, .int .i64 r, .int .i64 h]] w fun e w' => e = .returned (.int .i64 (poolE s r h)) ∧ Below w.heap.size w w' := by
  have hor : (s < 0 ∨ (¬ s < 0 ∧ 10000 < s) ∨ (¬ s < 0 ∧ ¬ 10000 < s ∧ r < 1) ∨ (¬ s < 0 ∧ ¬ 10000 < s ∧ ¬ r < 1 ∧ 1000 < r) ∨ (¬ s < 0 ∧ ¬ 10000 < s ∧ ¬ r < 1 ∧ ¬ 1000 < r ∧ h < 0) ∨ (¬ s < 0 ∧ ¬ 10000 < s ∧ ¬ r < 1 ∧ ¬ 1000 < r ∧ ¬ h < 0 ∧ s < h)) ∧ Hid (poolE s r h = 1) ∨ (¬ s < 0 ∧ ¬ 10000 < s ∧ ¬ r < 1 ∧ ¬ 1000 < r ∧ ¬ h < 0 ∧ ¬ s < h) ∧ Hid (poolE s r h = 0) := by
    by_cases h0 : poolE s r h = 0
    · have := poolE_0.1 h0
      exact .inr ⟨by omega, h0⟩
    · left
      have h1 : poolE s r h = 1 := by unfold poolE at h0 ⊢; split <;> simp_all
      unfold poolE at h0
      split at h0
      · exact ⟨by omega, h1⟩
      · exact absurd rfl h0
  rcases hor with ⟨h1 | ⟨h1, h2⟩ | ⟨h1, h2, h3⟩ | ⟨h1, h2, h3, h4⟩ | ⟨h1, h2, h3, h4, h5⟩ | ⟨h1, h2, h3, h4, h5, h6⟩, HE⟩ | ⟨⟨h1, h2, h3, h4, h5, h6⟩, HE⟩
  all_goals
    go_enter Tryd.func14, Tryd.ntmps14
    go_wp2
    go_ret
    exact ⟨by rw [HE.out]; rfl, (Below.refl _ _).alloc (Nat.le_refl _) _⟩

set_option maxHeartbeats 2000000 in
theorem RFlow_any (s r h m : Int) (w : World) (h0 : poolE s r h = 0) (m0 : 0 ≤ m) (m1 : m ≤ 10000) :
    Calls Tryd.prog 20 #[.agg #[.int .i64 s, .int .i64 r, .int .i64 h], .int .i64 m] w fun e w' => e = .returned (.tuple #[.agg #[.int .i64 s, .int .i64 r, .int .i64 (waitP s r (h + m))], .agg #[.int .i64 (wentP r (h + m)), .int .i64 (lostP s r (h + m)), .int .i64 (waitP s r (h + m))]]) ∧ Below w.heap.size w w' := by
  have hb := poolE_0.1 h0
  clear h0
  have hwp : IntKind.i64.wrap (h + m) = h + m := by rw [IntKind.wrap_i64]; omega
  have hwq : IntKind.i64.wrap (h + m - r) = h + m - r := by rw [IntKind.wrap_i64]; omega
  have hws : IntKind.i64.wrap (h + m - r - s) = h + m - r - s := by rw [IntKind.wrap_i64]; omega
  have hor : (r < h + m ∧ s < h + m - r ∧ Hid (wentP r (h + m) = r ∧ lostP s r (h + m) = h + m - r - s ∧ waitP s r (h + m) = s)) ∨ (r < h + m ∧ ¬ s < h + m - r ∧ Hid (wentP r (h + m) = r ∧ lostP s r (h + m) = 0 ∧ waitP s r (h + m) = h + m - r)) ∨ (¬ r < h + m ∧ ¬ s < 0 ∧ Hid (wentP r (h + m) = h + m ∧ lostP s r (h + m) = 0 ∧ waitP s r (h + m) = 0)) := by
    by_cases hc : r < h + m
    · have e1 : wentP r (h + m) = r := if_pos hc
      by_cases hd : s < h + m - r
      · exact .inl ⟨hc, hd, e1, by rw [lostP, e1, if_pos hd], by rw [waitP, e1, if_pos hd]⟩
      · exact .inr (.inl ⟨hc, hd, e1, by rw [lostP, e1, if_neg hd], by rw [waitP, e1, if_neg hd]⟩)
    · have e1 : wentP r (h + m) = h + m := if_neg hc
      exact .inr (.inr ⟨hc, by omega, e1, by rw [lostP, e1, if_neg (by omega)], by rw [waitP, e1, if_neg (by omega)]; omega⟩)
  clear hb m0 m1
  rcases hor with ⟨h1, h2, HE⟩ | ⟨h1, h2, HE⟩ | ⟨h1, h2, HE⟩
  all_goals
    obtain ⟨E1, E2, E3⟩ := HE.out
    rw [E1, E2, E3]
    clear HE E1 E2 E3
    go_enter Tryd.func20, Tryd.ntmps20
    go_wp2_with fail
    go_region
    go_wp2
  · refine bodyPost_ret (v := .tuple #[.agg #[.int .i64 s, .int .i64 r, .int .i64 s], .agg #[.int .i64 r, .int .i64 (h + m - r - s), .int .i64 s]]) (by simp [results, Tryd.results20, go_sem]) rfl ⟨rfl, ?_⟩
    repeat (first | exact Below.refl _ _ | refine Below.setCell ?_ (by simp) _ | refine Below.alloc ?_ (by simp; try omega) _ | refine Below.drew ?_)
  · refine bodyPost_ret (v := .tuple #[.agg #[.int .i64 s, .int .i64 r, .int .i64 (h + m - r)], .agg #[.int .i64 r, .int .i64 0, .int .i64 (h + m - r)]]) (by simp [results, Tryd.results20, go_sem]) rfl ⟨rfl, ?_⟩
    repeat (first | exact Below.refl _ _ | refine Below.setCell ?_ (by simp) _ | refine Below.alloc ?_ (by simp; try omega) _ | refine Below.drew ?_)
  · refine bodyPost_ret (v := .tuple #[.agg #[.int .i64 s, .int .i64 r, .int .i64 0], .agg #[.int .i64 (h + m), .int .i64 0, .int .i64 0]]) (by simp [results, Tryd.results20, go_sem]) rfl ⟨rfl, ?_⟩
    repeat (first | exact Below.refl _ _ | refine Below.setCell ?_ (by simp) _ | refine Below.alloc ?_ (by simp; try omega) _ | refine Below.drew ?_)
end Ev
end Go.Proofs.YtkpmjmgmgkdfnajDoor
