/- Package aimd's small parts: what may be, its tests, and what check tells. -/
import Derived.Test.YtgbhknagmndbfaiAnyC
import Derived.Test.YtgbhknagmndbfaiPlains
namespace Go.Proofs.Ytgbhknagmndbfai
namespace Ev
open Go.RowKit Fr Ns Ld Fl
set_option linter.unusedSimpArgs false
set_option linter.unusedVariables false

theorem ret_ai {k : Int} {v : Value} (h : v = errV k) : Ending.returned v = .returned (errV k) := by rw [h]
def capB (x : Int) : Bool := decide (1 ≤ x) && decide (x ≤ 1000)
theorem knobs_cap (a b : Int) : knobs a b = (capB a && capB b) := by simp [knobs, capB, Bool.and_assoc]
theorem amayBe_any (x : Int) (w : World) :
    Calls Try.prog 44 #[.int .i64 x] w fun e w' => e = .returned (.bool (capB x)) ∧ w' = w := by
  have HR : Hid (capB x = (decide (1 ≤ x) && decide (x ≤ 1000))) := rfl
  by_cases h1 : 1 ≤ x
  · go_enter Try.func44, Try.ntmps44
    go_wp2
    go_ret
    exact ⟨ret_bool (by rw [HR.out]; simp [h1]; try omega), rfl⟩
  · go_enter Try.func44, Try.ntmps44
    go_wp2
    go_ret
    exact ⟨ret_bool (by rw [HR.out]; simp [h1]; try omega), rfl⟩
theorem abad_tells : TellsI 43 (fun x => !inTo 10000 x) := by
  refine ⟨enters Try.func43 (by kernel_rfl) (by kernel_rfl), fun x w => ?_⟩
  have HR : Hid ((!inTo 10000 x) = (decide (x < 0) || decide (10000 < x))) := by
    show _ = _
    rw [inTo, Bool.not_and, ← decide_not, ← decide_not]
    simp only [Int.not_le]
  by_cases h1 : x < 0
  · go_enter Try.func43, Try.ntmps43
    go_wp2
    go_ret
    exact ⟨ret_bool (by rw [HR.out]; simp [h1]; try omega), 0, rfl⟩
  · go_enter Try.func43, Try.ntmps43
    go_wp2
    go_ret
    exact ⟨ret_bool (by rw [HR.out]; simp [h1]; try omega), 0, rfl⟩

set_option maxHeartbeats 2000000 in
theorem acheck_any {Q : Nat → Prop} (l : List Int) (limit up : Int) (v : Value) (w : World) (h : IntsAt Q w v l) :
    Calls Try.prog 29 #[v, .int .i64 limit, .int .i64 up] w fun e w' => e = .returned (errV (chkE l limit up)) ∧ ∃ m, w' = w.drewN m := by
  have HC : Hid (Calls Try.prog 26 #[v, .func (.func 43) #[] #[]] w fun e w' => e = .returned (.bool (l.any (fun x => !inTo 10000 x))) ∧ ∃ m, w' = w.drewN m) := ContainsFuncI abad_tells l v w h
  have HL : Hid (∀ u : World, Calls Try.prog 44 #[.int .i64 limit] u fun e w' => e = .returned (.bool (capB limit)) ∧ w' = u) := fun u => amayBe_any limit u
  have HU : Hid (∀ u : World, Calls Try.prog 44 #[.int .i64 up] u fun e w' => e = .returned (.bool (capB up)) ∧ w' = u) := fun u => amayBe_any up u
  obtain ⟨a, cap, rfl, ⟨hm, hm2⟩, _⟩ := h
  by_cases h0 : l.length = 0
  · have HE : Hid (chkE l limit up = 5) := by
      have : few l 10000 = 5 := by rw [few, if_pos h0]
      show _ = _; rw [chkE, this, if_neg (by decide)]
    have q : ((l.length : Int) == 0) = true := by simp [h0]
    clear h0
    go_enter Try.func29, Try.ntmps29
    go_wp2
    go_ret
    exact ⟨ret_ai (by rw [HE.out]; rfl), 0, rfl⟩
  · have q : ((l.length : Int) == 0) = false := beq_eq_false_iff_ne.2 (by omega)
    by_cases h6 : 6 < l.length
    · have HE : Hid (chkE l limit up = 4) := by
        have : few l 10000 = 4 := by rw [few, if_neg h0, if_pos h6]
        show _ = _; rw [chkE, this, if_neg (by decide)]
      clear h0
      go_enter Try.func29, Try.ntmps29
      go_wp2
      go_ret
      exact ⟨ret_ai (by rw [HE.out]; rfl), 0, rfl⟩
    · have hw := few_over (most := 10000) h0 h6
      clear h0
      cases hb : l.any (fun x => !inTo 10000 x) with
      | true =>
        have HE : Hid (chkE l limit up = 1) := by
          rw [hb, if_pos rfl] at hw
          show _ = _; rw [chkE, hw, if_neg (by decide)]
        rw [hb] at HC
        clear hb hw
        go_enter Try.func29, Try.ntmps29
        go_wp2_with fail
        refine HC.out.mono ?_
        rintro e w2 ⟨rfl, m, rfl⟩
        go_wp2
        go_ret
        exact ⟨ret_ai (by rw [HE.out]; rfl), m, rfl⟩
      | false =>
        have HE : Hid (chkE l limit up = if capB limit && capB up then 0 else 1) := by
          rw [hb, if_neg (by decide)] at hw
          show _ = _; rw [chkE, hw, if_pos rfl, knobs_cap]
        rw [hb] at HC
        clear hb hw
        cases hl : capB limit with
        | false =>
          rw [hl] at HL HE
          clear hl
          go_enter Try.func29, Try.ntmps29
          go_wp2_with fail
          refine HC.out.mono ?_
          rintro e w2 ⟨rfl, m, rfl⟩
          go_wp2_with fail
          refine (HL.out _).mono ?_
          rintro e w2 ⟨rfl, rfl⟩
          go_wp2
          go_ret
          exact ⟨ret_ai (by rw [HE.out]; rfl), m, rfl⟩
        | true =>
          rw [hl] at HL HE
          clear hl
          cases hu : capB up with
          | false =>
            rw [hu] at HU HE
            clear hu
            go_enter Try.func29, Try.ntmps29
            go_wp2_with fail
            refine HC.out.mono ?_
            rintro e w2 ⟨rfl, m, rfl⟩
            go_wp2_with fail
            refine (HL.out _).mono ?_
            rintro e w2 ⟨rfl, rfl⟩
            go_wp2_with fail
            refine (HU.out _).mono ?_
            rintro e w2 ⟨rfl, rfl⟩
            go_wp2
            go_ret
            exact ⟨ret_ai (by rw [HE.out]; rfl), m, rfl⟩
          | true =>
            rw [hu] at HU HE
            clear hu
            go_enter Try.func29, Try.ntmps29
            go_wp2_with fail
            refine HC.out.mono ?_
            rintro e w2 ⟨rfl, m, rfl⟩
            go_wp2_with fail
            refine (HL.out _).mono ?_
            rintro e w2 ⟨rfl, rfl⟩
            go_wp2_with fail
            refine (HU.out _).mono ?_
            rintro e w2 ⟨rfl, rfl⟩
            go_wp2
            go_ret
            exact ⟨ret_ai (by rw [HE.out]; rfl), m, rfl⟩
end Ev
end Go.Proofs.Ytgbhknagmndbfai
