/- Package mark's small parts: what is within, what may be marked, how many are marked ahead of one, and whether it is marked. -/
import Derived.Test.YtedplgkohppakagDoorPlains
namespace Go.Proofs.YtedplgkohppakagDoor
namespace Ev
open Go.RowKit Fr Ns Ld Fl
set_option linter.unusedSimpArgs false
set_option linter.unusedVariables false

theorem mwithin_any (n a b : Int) (w : World) :
    Calls Tryd.prog 10 #[.int .i64 n, .int .i64 a, .int .i64 b] w fun e w' => e = .returned (.bool (inR n a b)) ∧ w' = w := by
  have HR : Hid (inR n a b = (decide (a ≤ n) && decide (n ≤ b))) := rfl
  by_cases h1 : a ≤ n
  · go_enter Tryd.func10, Tryd.ntmps10
    go_wp2
    go_ret
    exact ⟨ret_bool (by rw [HR.out]; simp [h1]; try omega), rfl⟩
  · go_enter Tryd.func10, Tryd.ntmps10
    go_wp2
    go_ret
    exact ⟨ret_bool (by rw [HR.out]; simp [h1]; try omega), rfl⟩
theorem mwithin_is {n a b : Int} {x : Bool} (h : inR n a b = x) (w : World) :
    Calls Tryd.prog 10 #[.int .i64 n, .int .i64 a, .int .i64 b] w fun e w' => e = .returned (.bool x) ∧ w' = w := by
  rw [← h]; exact mwithin_any n a b w
theorem mmay_is {n : Int} {x : Bool} (h : inR n 0 1000 = x) (w : World) :
    Calls Tryd.prog 9 #[.int .i64 n] w fun e w' => e = .returned (.bool x) ∧ w' = w := by
  have HM : Hid (∀ u : World, Calls Tryd.prog 10 #[.int .i64 n, .int .i64 0, .int .i64 1000] u fun e w' => e = .returned (.bool x) ∧ w' = u) := fun u => mwithin_is h u
  clear h
  go_enter Tryd.func9, Tryd.ntmps9
  go_wp2_with fail
  refine (HM.out _).mono ?_
  rintro e w' ⟨rfl, rfl⟩
  go_wp2
  go_ret
  exact ⟨rfl, rfl⟩
theorem mahead_any (f i : Int) (w : World) (f0 : 0 ≤ f) (f1 : f ≤ 1000) (i0 : 0 ≤ i) (i1 : i ≤ 1000000001) :
    Calls Tryd.prog 13 #[.int .i64 f, .int .i64 i] w fun e w' => e = .returned (.int .i64 (i * f / 1000)) ∧ w' = w := by
  have p3 : 0 ≤ i * f := Int.mul_nonneg i0 f0
  have p4 : i * f ≤ 1000000001 * 1000 := Int.mul_le_mul i1 f1 f0 (by decide)
  obtain ⟨Q, hQ⟩ : ∃ Q, Hid (i * f = Q) := ⟨_, rfl⟩
  rw [hQ.out] at p3 p4 ⊢
  have w2 : IntKind.i64.wrap (i * f) = Q := by rw [IntKind.wrap_i64, hQ.out]; omega
  have t2 : Q.tdiv 1000 = Q / 1000 := Int.tdiv_eq_ediv_of_nonneg p3
  have w4 : IntKind.i64.wrap (Q / 1000) = Q / 1000 := by rw [IntKind.wrap_i64]; omega
  clear p3 p4 f0 f1 i0 i1
  go_enter Tryd.func13, Tryd.ntmps13
  go_wp2
  go_ret
  exact ⟨rfl, rfl⟩
theorem marked_any (f i : Int) (w : World) (f0 : 0 ≤ f) (f1 : f ≤ 1000) (i0 : 0 ≤ i) (i1 : i ≤ 1000000000) :
    Calls Tryd.prog 11 #[.int .i64 f, .int .i64 i] w fun e w' => e = .returned (.bool (markB f i)) ∧ w' = w := by
  have H1 : Hid (∀ u : World, Calls Tryd.prog 13 #[.int .i64 f, .int .i64 (i + 1)] u fun e w' => e = .returned (.int .i64 ((i + 1) * f / 1000)) ∧ w' = u) := fun u => mahead_any f (i + 1) u f0 f1 (by omega) (by omega)
  have H2 : Hid (∀ u : World, Calls Tryd.prog 13 #[.int .i64 f, .int .i64 i] u fun e w' => e = .returned (.int .i64 (i * f / 1000)) ∧ w' = u) := fun u => mahead_any f i u f0 f1 i0 (by omega)
  have HR : Hid (markB f i = decide (i * f / 1000 < (i + 1) * f / 1000)) := rfl
  generalize markB f i = mb at *
  generalize (i + 1) * f / 1000 = P at *
  generalize i * f / 1000 = R at *
  have w0 : IntKind.i64.wrap (i + 1) = i + 1 := by rw [IntKind.wrap_i64]; omega
  clear f0 f1 i0 i1
  go_enter Tryd.func11, Tryd.ntmps11
  go_wp2_with fail
  refine (H1.out _).mono ?_
  rintro e w' ⟨rfl, rfl⟩
  go_wp2_with fail
  refine (H2.out _).mono ?_
  rintro e w' ⟨rfl, rfl⟩
  go_wp2
  go_ret
  exact ⟨ret_bool (by rw [HR.out]), rfl⟩
end Ev
end Go.Proofs.YtedplgkohppakagDoor
