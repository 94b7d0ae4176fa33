/- Contracts of cmp.Compare over int and of package frac's Compare. -/
import Derived.Test.YtgbhknagmndbfahFracC0
namespace Go.Proofs.Ytgbhknagmndbfah
namespace Fr
open Go.RowKit
set_option linter.unusedSimpArgs false
set_option linter.unusedVariables false

set_option maxHeartbeats 400000 in
theorem cmp_any (x y : Int) (w : World) :
    Calls Try.prog 22 #[.int .i64 x, .int .i64 y] w fun e w' => e = .returned (.int .i64 (cmpI x y)) ∧ w' = w := by
  by_cases h1 : x < y
  · have HR : Hid (cmpI x y = -1) := show cmpI x y = -1 by simp [cmpI, h1]
    go_enter Try.func22, Try.ntmps22
    go_wp2_with (go_at_call 27; refine (isNaN_any _ _).mono ?_; rintro e w' ⟨rfl, rfl⟩)
    go_ret
    exact ⟨ret_int HR.out.symm, rfl⟩
  · by_cases h2 : y < x
    · have HR : Hid (cmpI x y = 1) := show cmpI x y = 1 by simp [cmpI, h1, h2]
      go_enter Try.func22, Try.ntmps22
      go_wp2_with (go_at_call 27; refine (isNaN_any _ _).mono ?_; rintro e w' ⟨rfl, rfl⟩)
      go_ret
      exact ⟨ret_int HR.out.symm, rfl⟩
    · have HR : Hid (cmpI x y = 0) := show cmpI x y = 0 by simp [cmpI, h1, h2]
      go_enter Try.func22, Try.ntmps22
      go_wp2_with (go_at_call 27; refine (isNaN_any _ _).mono ?_; rintro e w' ⟨rfl, rfl⟩)
      go_ret
      exact ⟨ret_int HR.out.symm, rfl⟩

def cmpV (t b u c : Int) : Int := if fault2 t b u c = 0 then cmpI (t * c) (u * b) else 0

end Fr
end Go.Proofs.Ytgbhknagmndbfah
