/- The document's Order (package fairref1). -/
import Derived.Test.YtpnmmmlckdkcdakGreatDoorRefC
namespace Go.Proofs.YtpnmmmlckdkcdakGreatDoor
namespace Fr
open Go.RowKit
set_option linter.unusedSimpArgs false
set_option linter.unusedVariables false

set_option maxHeartbeats 400000 in
theorem Order_any (t b u c : Int) (w : World) (f1 : fault t b = 0) (f2 : fault u c = 0) :
    Calls Tryz.prog 57 #[.agg #[.int .i64 t, .int .i64 b], .agg #[.int .i64 u, .int .i64 c]] w fun e w' => e = .returned (.int .i64 (cmpI (t * c) (u * b))) ∧ Below w.heap.size w w' := by
  obtain ⟨m1, m2, m3, m4⟩ := fault_0 f1
  obtain ⟨n1, n2, n3, n4⟩ := fault_0 f2
  obtain ⟨q1, q2⟩ := mul_bd (t := t) (c := c) (A := 1000000000) (C := 100000000) (by omega) (by omega) (by omega) (by omega)
  obtain ⟨q3, q4⟩ := mul_bd (t := u) (c := b) (A := 1000000000) (C := 100000000) (by omega) (by omega) (by omega) (by omega)
  clear f1 f2
  by_cases h1 : t * c < u * b
  · have HR : Hid (cmpI (t * c) (u * b) = -1) := by show cmpI _ _ = -1; simp [cmpI, h1]
    go_enter Tryz.func57, Tryz.ntmps57
    go_wp2
    go_ret
    exact ⟨ret_int HR.out.symm, ((Below.refl _ _).alloc (Nat.le_refl _) _).alloc (by simp) _⟩
  · by_cases h2 : u * b < t * c
    · have HR : Hid (cmpI (t * c) (u * b) = 1) := by show cmpI _ _ = 1; simp [cmpI, h1, h2]
      go_enter Tryz.func57, Tryz.ntmps57
      go_wp2
      go_ret
      exact ⟨ret_int HR.out.symm, ((Below.refl _ _).alloc (Nat.le_refl _) _).alloc (by simp) _⟩
    · have HR : Hid (cmpI (t * c) (u * b) = 0) := by show cmpI _ _ = 0; simp [cmpI, h1, h2]
      go_enter Tryz.func57, Tryz.ntmps57
      go_wp2
      go_ret
      exact ⟨ret_int HR.out.symm, ((Below.refl _ _).alloc (Nat.le_refl _) _).alloc (by simp) _⟩
end Fr
end Go.Proofs.YtpnmmmlckdkcdakGreatDoor
