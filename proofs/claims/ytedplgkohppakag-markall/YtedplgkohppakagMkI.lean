/- Package mark's Is does what is asked of it. -/
import Derived.Test.YtedplgkohppakagMkA
import Derived.Test.YtedplgkohppakagPlains
namespace Go.Proofs.Ytedplgkohppakag
namespace Ev
open Go.RowKit Fr Ns Ld Fl
set_option linter.unusedSimpArgs false
set_option linter.unusedVariables false

set_option maxHeartbeats 1000000 in
theorem mis_said : MIsSaid := by
  intro f i w
  cases h1 : inR f 0 1000 with
  | false =>
    have hE : misE f i = 1 := by have := inR_0.1 h1; rw [misE, if_pos (by omega)]
    rw [hE]
    have H1 : Hid (∀ u : World, Calls Try.prog 8 #[.int .i64 f] u fun e w' => e = .returned (.bool false) ∧ w' = u) := fun u => mmay_is h1 u
    clear h1 hE
    go_enter Try.func6, Try.ntmps6
    go_wp2_with fail
    refine (H1.out _).mono ?_
    rintro e w1 ⟨rfl, rfl⟩
    go_wp2
    exact bodyPost_ret (v := .tuple #[.bool false, .iface 34 (.int .i64 1)]) (by simp [results, Try.results6, go_sem]) rfl ⟨rfl, Below.refl _ _⟩
  | true =>
    have H1 : Hid (∀ u : World, Calls Try.prog 8 #[.int .i64 f] u fun e w' => e = .returned (.bool true) ∧ w' = u) := fun u => mmay_is h1 u
    cases h2 : inR i 0 1000000000 with
    | false =>
      have hE : misE f i = 1 := by have := inR_0.1 h2; rw [misE, if_pos (by omega)]
      rw [hE]
      have H2 : Hid (∀ u : World, Calls Try.prog 9 #[.int .i64 i, .int .i64 0, .int .i64 1000000000] u fun e w' => e = .returned (.bool false) ∧ w' = u) := fun u => mwithin_is h2 u
      clear h1 h2 hE
      go_enter Try.func6, Try.ntmps6
      go_wp2_with fail
      refine (H1.out _).mono ?_
      rintro e w1 ⟨rfl, rfl⟩
      go_wp2_with fail
      refine (H2.out _).mono ?_
      rintro e w1 ⟨rfl, rfl⟩
      go_wp2
      exact bodyPost_ret (v := .tuple #[.bool false, .iface 34 (.int .i64 1)]) (by simp [results, Try.results6, go_sem]) rfl ⟨rfl, Below.refl _ _⟩
    | true =>
      have H2 : Hid (∀ u : World, Calls Try.prog 9 #[.int .i64 i, .int .i64 0, .int .i64 1000000000] u fun e w' => e = .returned (.bool true) ∧ w' = u) := fun u => mwithin_is h2 u
      have a1 := inR_1.1 h1
      have a2 := inR_1.1 h2
      have hE : misE f i = 0 := by rw [misE, if_neg (by omega)]
      rw [hE]
      have H3 : Hid (∀ u : World, Calls Try.prog 10 #[.int .i64 f, .int .i64 i] u fun e w' => e = .returned (.bool (markB f i)) ∧ w' = u) := fun u => marked_any f i u a1.1 a1.2 a2.1 a2.2
      show Calls _ _ _ _ fun e w' => e = .returned (.tuple #[.bool (markB f i), .nilIface]) ∧ _
      generalize markB f i = mb at *
      clear h1 h2 a1 a2 hE
      go_enter Try.func6, Try.ntmps6
      go_wp2_with fail
      refine (H1.out _).mono ?_
      rintro e w1 ⟨rfl, rfl⟩
      go_wp2_with fail
      refine (H2.out _).mono ?_
      rintro e w1 ⟨rfl, rfl⟩
      go_wp2_with fail
      refine (H3.out _).mono ?_
      rintro e w1 ⟨rfl, rfl⟩
      go_wp2
      exact bodyPost_ret (v := .tuple #[.bool mb, .nilIface]) (by simp [results, Try.results6, go_sem]) rfl ⟨rfl, Below.refl _ _⟩
end Ev
end Go.Proofs.Ytedplgkohppakag
