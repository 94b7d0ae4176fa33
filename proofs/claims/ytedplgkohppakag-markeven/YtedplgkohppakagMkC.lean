/- Package mark's Count does what is asked of it. -/
import Derived.Test.YtedplgkohppakagMkA
import Derived.Test.YtedplgkohppakagPlains
namespace Go.Proofs.Ytedplgkohppakag
namespace Ev
open Go.RowKit Fr Ns Ld Fl
set_option linter.unusedSimpArgs false
set_option linter.unusedVariables false

theorem cntM_bd (f a : Int) : ∀ m : Nat, 0 ≤ cntM f a m ∧ cntM f a m ≤ m := by
  intro m
  induction m with
  | zero => simp [cntM]
  | succ m ih =>
    unfold cntM
    split <;> omega

set_option maxHeartbeats 2000000 in
theorem mcount_said : MCountSaid := by
  intro f a m w
  cases h1 : inR f 0 1000 with
  | false =>
    have hE : mcntE f a m = 1 := by have := inR_0.1 h1; rw [mcntE, if_pos (by omega)]
    rw [hE]
    have H1 : Hid (∀ u : World, Calls Try.prog 8 #[.int .i64 f] u fun e w' => e = .returned (.bool false) ∧ w' = u) := fun u => mmay_is h1 u
    clear h1 hE
    go_enter Try.func5, Try.ntmps5
    go_wp2_with fail
    refine (H1.out _).mono ?_
    rintro e w1 ⟨rfl, rfl⟩
    go_wp2
    exact bodyPost_ret (v := .tuple #[.int .i64 0, .iface 34 (.int .i64 1)]) (by simp [results, Try.results5, go_sem]) rfl ⟨rfl, Below.refl _ _⟩
  | true =>
    have H1 : Hid (∀ u : World, Calls Try.prog 8 #[.int .i64 f] u fun e w' => e = .returned (.bool true) ∧ w' = u) := fun u => mmay_is h1 u
    cases h2 : inR a 0 10000 with
    | false =>
      have hE : mcntE f a m = 1 := by have := inR_0.1 h2; rw [mcntE, if_pos (by omega)]
      rw [hE]
      have H2 : Hid (∀ u : World, Calls Try.prog 9 #[.int .i64 a, .int .i64 0, .int .i64 10000] u fun e w' => e = .returned (.bool false) ∧ w' = u) := fun u => mwithin_is h2 u
      clear h1 h2 hE
      go_enter Try.func5, Try.ntmps5
      go_wp2_with fail
      refine (H1.out _).mono ?_
      rintro e w1 ⟨rfl, rfl⟩
      go_wp2_with fail
      refine (H2.out _).mono ?_
      rintro e w1 ⟨rfl, rfl⟩
      go_wp2
      exact bodyPost_ret (v := .tuple #[.int .i64 0, .iface 34 (.int .i64 1)]) (by simp [results, Try.results5, go_sem]) rfl ⟨rfl, Below.refl _ _⟩
    | true =>
      have H2 : Hid (∀ u : World, Calls Try.prog 9 #[.int .i64 a, .int .i64 0, .int .i64 10000] u fun e w' => e = .returned (.bool true) ∧ w' = u) := fun u => mwithin_is h2 u
      cases h3 : inR m 0 10000 with
      | false =>
        have hE : mcntE f a m = 1 := by have := inR_0.1 h3; rw [mcntE, if_pos (by omega)]
        rw [hE]
        have H3 : Hid (∀ u : World, Calls Try.prog 9 #[.int .i64 m, .int .i64 0, .int .i64 10000] u fun e w' => e = .returned (.bool false) ∧ w' = u) := fun u => mwithin_is h3 u
        clear h1 h2 h3 hE
        go_enter Try.func5, Try.ntmps5
        go_wp2_with fail
        refine (H1.out _).mono ?_
        rintro e w1 ⟨rfl, rfl⟩
        go_wp2_with fail
        refine (H2.out _).mono ?_
        rintro e w1 ⟨rfl, rfl⟩
        go_wp2_with fail
        refine (H3.out _).mono ?_
        rintro e w1 ⟨rfl, rfl⟩
        go_wp2
        exact bodyPost_ret (v := .tuple #[.int .i64 0, .iface 34 (.int .i64 1)]) (by simp [results, Try.results5, go_sem]) rfl ⟨rfl, Below.refl _ _⟩
      | true =>
        have H3 : Hid (∀ u : World, Calls Try.prog 9 #[.int .i64 m, .int .i64 0, .int .i64 10000] u fun e w' => e = .returned (.bool true) ∧ w' = u) := fun u => mwithin_is h3 u
        have a1 := inR_1.1 h1
        have a2 := inR_1.1 h2
        have a3 := inR_1.1 h3
        have hE : mcntE f a m = 0 := by rw [mcntE, if_neg (by omega)]
        rw [hE]
        obtain ⟨n, rfl⟩ : ∃ n : Nat, m = n := ⟨m.toNat, by omega⟩
        have HM : Hid (∀ (k : Nat), k < n → ∀ u : World, Calls Try.prog 10 #[.int .i64 f, .int .i64 (a + k)] u fun e w' => e = .returned (.bool (markB f (a + k))) ∧ w' = u) := fun k hk u => marked_any f (a + k) u a1.1 a1.2 (by omega) (by omega)
        have HB : Hid (∀ k : Nat, 0 ≤ cntM f a k ∧ cntM f a k ≤ k) := cntM_bd f a
        have HS : Hid (∀ k : Nat, cntM f a (k + 1) = cntM f a k + if markB f (a + k) then 1 else 0) := fun k => rfl
        have H0 : Hid (cntM f a 0 = 0) := rfl
        have hn : n ≤ 10000 := by omega
        have ha0 := a2.1
        have ha1 := a2.2
        show Calls _ _ _ _ fun e w' => e = .returned (.tuple #[.int .i64 (cntM f a n), .nilIface]) ∧ _
        obtain ⟨C, hC⟩ : ∃ C : Nat → Int, ∀ k, cntM f a k = C k := ⟨_, fun _ => rfl⟩
        simp only [hC] at HB HS H0 ⊢
        clear h1 h2 h3 a1 a2 a3 hE hC
        go_enter Try.func5, Try.ntmps5
        go_wp2_with fail
        refine (H1.out _).mono ?_
        rintro e w1 ⟨rfl, rfl⟩
        go_wp2_with fail
        refine (H2.out _).mono ?_
        rintro e w1 ⟨rfl, rfl⟩
        go_wp2_with fail
        refine (H3.out _).mono ?_
        rintro e w1 ⟨rfl, rfl⟩
        go_wp2
        go_loopw [8, 9, 25] (fun s8 _ i wr => ∃ k : Nat, k ≤ n ∧ i = .int .i64 k ∧ s8 = .int .i64 (C k) ∧ wr = w1) (fun _ _ i _ => n - (intOf i).toNat)
        case atStart => exact ⟨0, by omega, rfl, by rw [H0.out], rfl⟩
        case round =>
          obtain ⟨k, hk, rfl, rfl, rfl⟩ := hrel
          by_cases hlt : k < n
          · have HMk := HM.out k hlt
            have HM1 : Hid (∀ u : World, Calls Try.prog 10 #[.int .i64 f, .int .i64 (a + k)] u fun e w' => e = .returned (.bool (markB f (a + k))) ∧ w' = u) := HMk
            have hs := HS.out k
            have hb := HB.out k
            have HE1 : Hid (C (k + 1) = C k + if markB f (a + k) then 1 else 0) := hs
            have hw : IntKind.i64.wrap (a + k) = a + k := by rw [IntKind.wrap_i64]; omega
            have hw1 : IntKind.i64.wrap (C k + 1) = C k + 1 := by rw [IntKind.wrap_i64]; omega
            clear HMk hs hb
            generalize markB f (a + k) = mb at *
            go_wp2_with fail
            refine (HM1.out _).mono ?_
            rintro e w1 ⟨rfl, rfl⟩
            cases mb with
            | true =>
              go_wp2
              go_roundw
              case rel => exact ⟨k + 1, by omega, by go_num, by rw [HE1.out]; simp, by trivial⟩
              case measure => simp [intOf]; omega
            | false =>
              go_wp2
              go_roundw
              case rel => exact ⟨k + 1, by omega, by go_num, by rw [HE1.out]; simp, by trivial⟩
              case measure => simp [intOf]; omega
          · obtain rfl : k = n := by omega
            go_wp2
            exact bodyPost_ret (v := .tuple #[.int .i64 (C k), .nilIface]) (by simp [results, Try.results5, go_sem]) rfl ⟨rfl, Below.refl _ _⟩
end Ev
end Go.Proofs.Ytedplgkohppakag
