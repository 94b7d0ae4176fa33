/- Package even's small parts: what may be, its tests, and what check tells. -/
import Derived.Test.YtpnmmmlckdkcdakGreatDoorAnyF
import Derived.Test.YtpnmmmlckdkcdakGreatDoorPlains
namespace Go.Proofs.YtpnmmmlckdkcdakGreatDoor
namespace Ev
open Go.RowKit Fr Ns Ld Fl
set_option linter.unusedSimpArgs false
set_option linter.unusedVariables false

theorem ret_ev {k : Int} {v : Value} (h : v = errV k) : Ending.returned v = .returned (errV k) := by rw [h]
theorem emayBe_any (x : Int) (w : World) :
    Calls Tryz.prog 168 #[.int .i64 x] w fun e w' => e = .returned (.bool (inTo 1000 x)) ∧ w' = w := by
  have HR : Hid (inTo 1000 x = (decide (0 ≤ x) && decide (x ≤ 1000))) := rfl
  by_cases h1 : 0 ≤ x
  · go_enter Tryz.func168, Tryz.ntmps168
    go_wp2
    go_ret
    exact ⟨ret_bool (by rw [HR.out]; simp [h1]; try omega), rfl⟩
  · go_enter Tryz.func168, Tryz.ntmps168
    go_wp2
    go_ret
    exact ⟨ret_bool (by rw [HR.out]; simp [h1]; try omega), rfl⟩
theorem ebad_tells : TellsI 167 (fun x => !inTo 1000 x) := by
  refine ⟨enters Tryz.func167 (by kernel_rfl) (by kernel_rfl), fun x w => ?_⟩
  have HM : Hid (∀ u : World, Calls Tryz.prog 168 #[.int .i64 x] u fun e w' => e = .returned (.bool (inTo 1000 x)) ∧ w' = u) := fun u => emayBe_any x u
  go_enter Tryz.func167, Tryz.ntmps167
  go_wp2_with fail
  refine (HM.out _).mono ?_
  rintro e w' ⟨rfl, rfl⟩
  go_wp2
  go_ret
  exact ⟨rfl, 0, rfl⟩
theorem all_any (l : List Int) (p : Int → Bool) : l.any (fun x => !p x) = !l.all p := by simp [List.any_eq_not_all_not]
theorem few_any {l : List Int} (h0 : l.length ≠ 0) (h6 : ¬ 6 < l.length) : few l 1000 = if l.any (fun x => !inTo 1000 x) then 1 else 0 := by
  rw [few, if_neg h0, if_neg h6, all_any]
  cases l.all (inTo 1000) <;> rfl

set_option maxHeartbeats 1000000 in
theorem echeck_any {Q : Nat → Prop} (l : List Int) (v : Value) (w : World) (h : IntsAt Q w v l) :
    Calls Tryz.prog 143 #[v] w fun e w' => e = .returned (errV (few l 1000)) ∧ ∃ m, w' = w.drewN m := by
  have HC : Hid (Calls Tryz.prog 34 #[v, .func (.func 167) #[] #[]] w fun e w' => e = .returned (.bool (l.any (fun x => !inTo 1000 x))) ∧ ∃ m, w' = w.drewN m) := ContainsFuncI ebad_tells l v w h
  obtain ⟨a, cap, rfl, ⟨hm, hm2⟩, _⟩ := h
  by_cases h0 : l.length = 0
  · have HE : Hid (few l 1000 = 5) := by show _ = _; rw [few, if_pos h0]
    have q : ((l.length : Int) == 0) = true := by simp [h0]
    clear h0
    go_enter Tryz.func143, Tryz.ntmps143
    go_wp2
    go_ret
    exact ⟨ret_ev (by rw [HE.out]; rfl), 0, rfl⟩
  · have q : ((l.length : Int) == 0) = false := beq_eq_false_iff_ne.2 (by omega)
    by_cases h6 : 6 < l.length
    · have HE : Hid (few l 1000 = 4) := by show _ = _; rw [few, if_neg h0, if_pos h6]
      clear h0
      go_enter Tryz.func143, Tryz.ntmps143
      go_wp2
      go_ret
      exact ⟨ret_ev (by rw [HE.out]; rfl), 0, rfl⟩
    · have HE : Hid (few l 1000 = if l.any (fun x => !inTo 1000 x) then 1 else 0) := few_any h0 h6
      clear h0
      cases hb : l.any (fun x => !inTo 1000 x) with
      | true =>
        rw [hb] at HE HC
        clear hb
        go_enter Tryz.func143, Tryz.ntmps143
        go_wp2_with fail
        refine HC.out.mono ?_
        rintro e w2 ⟨rfl, m, rfl⟩
        go_wp2
        go_ret
        exact ⟨ret_ev (by rw [HE.out]; rfl), m, rfl⟩
      | false =>
        rw [hb] at HE HC
        clear hb
        go_enter Tryz.func143, Tryz.ntmps143
        go_wp2_with fail
        refine HC.out.mono ?_
        rintro e w2 ⟨rfl, m, rfl⟩
        go_wp2
        go_ret
        exact ⟨ret_ev (by rw [HE.out]; rfl), m, rfl⟩
end Ev
end Go.Proofs.YtpnmmmlckdkcdakGreatDoor
