/- The document's bucket (package fairref2): its fault, a tick of it. -/
import Derived.Test.YtbgmdolbeecpiaeDoorPlains
namespace Go.Proofs.YtbgmdolbeecpiaeDoor
namespace Ev
open Go.RowKit Fr Ns Ld Fl
set_option linter.unusedSimpArgs false
set_option linter.unusedVariables false

set_option maxRecDepth 100000 in
set_option maxHeartbeats 2000000 in
theorem RBucket_any (s r h : Int) (w : World) :
    Calls Tryd.prog 15 #[.agg #[.int .i64 s, .int .i64 r, .int .i64 h]] w fun e w' => e = .returned (.int .i64 (bktE s r h)) ∧ Below w.heap.size w w' := by
  have hor : (s < 1 ∨ (¬ s < 1 ∧ 10000 < s) ∨ (¬ s < 1 ∧ ¬ 10000 < s ∧ r < 0) ∨ (¬ s < 1 ∧ ¬ 10000 < s ∧ ¬ r < 0 ∧ s < r) ∨ (¬ s < 1 ∧ ¬ 10000 < s ∧ ¬ r < 0 ∧ ¬ s < r ∧ h < 0) ∨ (¬ s < 1 ∧ ¬ 10000 < s ∧ ¬ r < 0 ∧ ¬ s < r ∧ ¬ h < 0 ∧ s < h)) ∧ Hid (bktE s r h = 1) ∨ (¬ s < 1 ∧ ¬ 10000 < s ∧ ¬ r < 0 ∧ ¬ s < r ∧ ¬ h < 0 ∧ ¬ s < h) ∧ Hid (bktE s r h = 0) := by
    by_cases h0 : bktE s r h = 0
    · have := bktE_0.1 h0
      exact .inr ⟨by omega, h0⟩
    · left
      have h1 : bktE s r h = 1 := by unfold bktE at h0 ⊢; split <;> simp_all
      unfold bktE at h0
      split at h0
      · exact ⟨by omega, h1⟩
      · exact absurd rfl h0
  rcases hor with ⟨h1 | ⟨h1, h2⟩ | ⟨h1, h2, h3⟩ | ⟨h1, h2, h3, h4⟩ | ⟨h1, h2, h3, h4, h5⟩ | ⟨h1, h2, h3, h4, h5, h6⟩, HE⟩ | ⟨⟨h1, h2, h3, h4, h5, h6⟩, HE⟩
  all_goals
    go_enter Tryd.func15, Tryd.ntmps15
    go_wp2
    go_ret
    exact ⟨by rw [HE.out]; rfl, (Below.refl _ _).alloc (Nat.le_refl _) _⟩

set_option maxHeartbeats 1000000 in
theorem RFillB_any (s r h : Int) (w : World) (h0 : bktE s r h = 0) :
    Calls Tryd.prog 17 #[.agg #[.int .i64 s, .int .i64 r, .int .i64 h]] w fun e w' => e = .returned (.agg #[.int .i64 s, .int .i64 r, .int .i64 (fillH s r h)]) ∧ Below w.heap.size w w' := by
  have hb := bktE_0.1 h0
  clear h0
  have hwp : IntKind.i64.wrap (h + r) = h + r := by rw [IntKind.wrap_i64]; omega
  have hor : (s < h + r ∧ Hid (fillH s r h = s)) ∨ (¬ s < h + r ∧ Hid (fillH s r h = h + r)) := by
    by_cases hc : s < h + r
    · exact .inl ⟨hc, if_pos hc⟩
    · exact .inr ⟨hc, if_neg hc⟩
  clear hb
  rcases hor with ⟨h1, HE⟩ | ⟨h1, HE⟩
  all_goals
    rw [HE.out]
    go_enter Tryd.func17, Tryd.ntmps17
    go_wp2
    first
      | refine bodyPost_ret (v := .agg #[.int .i64 s, .int .i64 r, .int .i64 s]) (by simp [results, Tryd.results17, go_sem]) rfl ⟨rfl, ?_⟩
      | refine bodyPost_ret (v := .agg #[.int .i64 s, .int .i64 r, .int .i64 (h + r)]) (by simp [results, Tryd.results17, go_sem]) rfl ⟨rfl, ?_⟩
    repeat (first | exact Below.refl _ _ | refine Below.setCell ?_ (by simp) _ | refine Below.alloc ?_ (by simp) _ | refine Below.drew ?_)
end Ev
end Go.Proofs.YtbgmdolbeecpiaeDoor
