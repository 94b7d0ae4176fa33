/- The document's Frac (package fairref1). -/
import Derived.Test.YtcleeepbpibcfacDoorRefC
import Derived.Test.YtcleeepbpibcfacDoorRefO
namespace Go.Proofs.YtcleeepbpibcfacDoor
namespace Fr
open Go.RowKit
set_option linter.unusedSimpArgs false
set_option linter.unusedVariables false

theorem isLow_iff {t b : Int} (hb : 1 ≤ b) : isLow t b = true ↔ gd t b = 1 := by
  simp only [isLow, decide_eq_true_eq]
  constructor
  · rintro ⟨h1, h2⟩
    have := low_coprime (t := t) hb
    rw [← h1, ← h2] at this
    exact this
  · intro h
    obtain ⟨l1, l2⟩ := low_self h
    exact ⟨l1.symm, l2.symm⟩

set_option maxHeartbeats 400000 in
theorem RFrac_any (t b : Int) (w : World) :
    Calls Tryd.prog 22 #[.agg #[.int .i64 t, .int .i64 b]] w fun e w' => e = .returned (.int .i64 (fault t b)) ∧ Below w.heap.size w w' := by
  by_cases hm : mayB t b = true
  · obtain ⟨m1, m2, m3, m4⟩ := mayB_iff.1 hm
    by_cases hg : gd t b = 1
    · have HF : Hid (fault t b = 0) := fault_iff.2 ⟨hm, hg⟩
      have HG : Hid (gd t b = 1) := hg
      clear hm hg
      go_enter Tryd.func22, Tryd.ntmps22
      go_wp2_with fail
      refine (common_any t b _ (by omega) (by omega) (by omega) (by omega)).mono ?_
      rintro e w1 ⟨rfl, rfl⟩
      rw [HG.out]
      go_wp2
      go_ret
      exact ⟨ret_int HF.out.symm, (Below.refl _ _).alloc (Nat.le_refl _) _⟩
    · have HF : Hid (fault t b = 3) := by
        show fault t b = 3
        rw [fault, if_pos hm, if_neg]
        intro h; exact hg ((isLow_iff m1).1 h)
      have hn : (gd t b != 1) = true := by simpa using hg
      clear hm hg
      go_enter Tryd.func22, Tryd.ntmps22
      go_wp2_with fail
      refine (common_any t b _ (by omega) (by omega) (by omega) (by omega)).mono ?_
      rintro e w1 ⟨rfl, rfl⟩
      go_wp2
      go_ret
      exact ⟨ret_int HF.out.symm, (Below.refl _ _).alloc (Nat.le_refl _) _⟩
  · have HF : Hid (fault t b = 1) := by
      show fault t b = 1
      rw [fault, if_neg hm]
    have hm' : ¬ (1 ≤ b ∧ b ≤ 100000000 ∧ -1000000000 ≤ t ∧ t ≤ 1000000000) := fun h => hm (mayB_iff.2 h)
    have hw : b < 1 ∨ (1 ≤ b ∧ 100000000 < b) ∨ (1 ≤ b ∧ b ≤ 100000000 ∧ t < -1000000000) ∨ (1 ≤ b ∧ b ≤ 100000000 ∧ -1000000000 ≤ t ∧ 1000000000 < t) := by omega
    clear hm hm'
    rcases hw with h | ⟨h, h'⟩ | ⟨h, h', h''⟩ | ⟨h, h', h'', h'''⟩
    all_goals
      go_enter Tryd.func22, Tryd.ntmps22
      go_wp2
      go_ret
      exact ⟨ret_int HF.out.symm, (Below.refl _ _).alloc (Nat.le_refl _) _⟩
end Fr
end Go.Proofs.YtcleeepbpibcfacDoor
