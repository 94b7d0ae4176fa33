/- The document's Marked (package fairref2): is the i-th of so many of a thousand? -/
import Derived.Test.YtedplgkohppakagDoorPlains
namespace Go.Proofs.YtedplgkohppakagDoor
namespace Ev
open Go.RowKit Fr Ns Ld Fl
set_option linter.unusedSimpArgs false
set_option linter.unusedVariables false

set_option maxHeartbeats 1000000 in
theorem RMarked_any (f i : Int) (w : World) (f0 : 0 ≤ f) (f1 : f ≤ 1000) (i0 : 0 ≤ i) (i1 : i ≤ 1000000000) :
    Calls Tryd.prog 4 #[.int .i64 f, .int .i64 i] w fun e w' => e = .returned (.bool (markB f i)) ∧ w' = w := by
  have p1 : 0 ≤ (i + 1) * f := Int.mul_nonneg (by omega) f0
  have p2 : (i + 1) * f ≤ 1000000001 * 1000 := Int.mul_le_mul (by omega) f1 f0 (by decide)
  have p3 : 0 ≤ i * f := Int.mul_nonneg i0 f0
  have p4 : i * f ≤ 1000000000 * 1000 := Int.mul_le_mul i1 f1 f0 (by decide)
  have HR : Hid (markB f i = decide (i * f / 1000 < (i + 1) * f / 1000)) := rfl
  generalize markB f i = mb at *
  obtain ⟨P, hP⟩ : ∃ P, Hid ((i + 1) * f = P) := ⟨_, rfl⟩
  obtain ⟨Q, hQ⟩ : ∃ Q, Hid (i * f = Q) := ⟨_, rfl⟩
  rw [hP.out] at p1 p2 HR
  rw [hQ.out] at p3 p4 HR
  have w0 : IntKind.i64.wrap (i + 1) = i + 1 := by rw [IntKind.wrap_i64]; omega
  have w1 : IntKind.i64.wrap ((i + 1) * f) = P := by rw [IntKind.wrap_i64, hP.out]; omega
  have w2 : IntKind.i64.wrap (i * f) = Q := by rw [IntKind.wrap_i64, hQ.out]; omega
  have t1 : P.tdiv 1000 = P / 1000 := Int.tdiv_eq_ediv_of_nonneg p1
  have t2 : Q.tdiv 1000 = Q / 1000 := Int.tdiv_eq_ediv_of_nonneg p3
  have w3 : IntKind.i64.wrap (P / 1000) = P / 1000 := by rw [IntKind.wrap_i64]; omega
  have w4 : IntKind.i64.wrap (Q / 1000) = Q / 1000 := by rw [IntKind.wrap_i64]; omega
  clear p1 p2 p3 p4 f0 f1 i0 i1
  go_enter Tryd.func4, Tryd.ntmps4
  go_wp2
  go_ret
  exact ⟨Ns.ret_bool (by rw [HR.out]), rfl⟩
end Ev
end Go.Proofs.YtedplgkohppakagDoor
