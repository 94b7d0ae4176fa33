/- The document's Weights (package fairref2): the fault of some, of which not all are 0. -/
import Derived.Test.YtpnmmmlckdkcdakGreatDoorRFew
import Derived.Test.YtpnmmmlckdkcdakGreatDoorRTot
import Derived.Test.YtpnmmmlckdkcdakGreatDoorPlains
namespace Go.Proofs.YtpnmmmlckdkcdakGreatDoor
namespace Ev
open Go.RowKit Fr Ns Ld Fl
set_option linter.unusedSimpArgs false
set_option linter.unusedVariables false

set_option maxHeartbeats 1000000 in
theorem RWeights_any {Q : Nat → Prop} (l : List Int) (v : Value) (w : World) (h : IntsAt Q w v l) :
    Calls Tryz.prog 58 #[v] w fun e w' => e = .returned (.int .i64 (idxE l)) ∧ w' = w := by
  have HF : Hid (∀ u, Below w.heap.size w u → Calls Tryz.prog 90 #[v, .int .i64 1000] u fun e w' => e = .returned (.int .i64 (few l 1000)) ∧ w' = u) := fun u hu => RFew_any l 1000 v u (h.later hu)
  by_cases h0 : few l 1000 = 0
  · obtain ⟨n1, n2, hb⟩ := few_0.1 h0
    have HT : Hid (∀ u, Below w.heap.size w u → Calls Tryz.prog 59 #[v] u fun e w' => e = .returned (.int .i64 (tot l)) ∧ w' = u) := fun u hu => RTot_any l v u (h.later hu) (by omega) (fun x hx => by have := hb x hx; omega)
    have HR : Hid (idxE l = if tot l = 0 then 5 else 0) := by show _ = _; rw [idxE, if_pos h0]
    obtain ⟨a, cap, rfl, _⟩ := h
    rw [h0] at HF
    clear h0 n1 n2 hb
    generalize tot l = t at *
    by_cases ht : t = 0
    · subst ht
      have HE : Hid (idxE l = 5) := by show _ = _; rw [HR.out]; rfl
      go_enter Tryz.func58, Tryz.ntmps58
      go_wp2_with fail
      refine (HF.out _ (Below.refl _ _)).mono ?_
      rintro e w1 ⟨rfl, rfl⟩
      go_wp2_with fail
      refine (HT.out _ (Below.refl _ _)).mono ?_
      rintro e w1 ⟨rfl, rfl⟩
      go_wp2
      go_ret
      exact ⟨by rw [HE.out]; rfl, rfl⟩
    · have HE : Hid (idxE l = 0) := by show _ = _; rw [HR.out, if_neg ht]
      have q : (t == 0) = false := beq_eq_false_iff_ne.2 ht
      go_enter Tryz.func58, Tryz.ntmps58
      go_wp2_with fail
      refine (HF.out _ (Below.refl _ _)).mono ?_
      rintro e w1 ⟨rfl, rfl⟩
      go_wp2_with fail
      refine (HT.out _ (Below.refl _ _)).mono ?_
      rintro e w1 ⟨rfl, rfl⟩
      go_wp2
      go_ret
      exact ⟨by rw [HE.out]; rfl, rfl⟩
  · have HR : Hid (idxE l = few l 1000) := by show _ = _; rw [idxE, if_neg h0]
    obtain ⟨a, cap, rfl, _⟩ := h
    generalize few l 1000 = ek at *
    have q : (ek == 0) = false := beq_eq_false_iff_ne.2 h0
    go_enter Tryz.func58, Tryz.ntmps58
    go_wp2_with fail
    refine (HF.out _ (Below.refl _ _)).mono ?_
    rintro e w1 ⟨rfl, rfl⟩
    go_wp2
    go_ret
    exact ⟨by rw [HR.out]; rfl, rfl⟩
end Ev
end Go.Proofs.YtpnmmmlckdkcdakGreatDoor
