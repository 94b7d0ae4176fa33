/- The document's Sum (package fairref1). -/
import Derived.Test.YtpnmmmlckdkcdakGreatDoorRefLo
namespace Go.Proofs.YtpnmmmlckdkcdakGreatDoor
namespace Fr
open Go.RowKit
set_option linter.unusedSimpArgs false
set_option linter.unusedVariables false

set_option maxHeartbeats 400000 in
theorem Sum_any (t b u c : Int) (w : World) (f1 : fault t b = 0) (f2 : fault u c = 0) :
    Calls Tryz.prog 87 #[.agg #[.int .i64 t, .int .i64 b], .agg #[.int .i64 u, .int .i64 c]] w fun e w' => e = .returned (.agg #[.int .i64 (lowT (t * c + u * b) (b * c)), .int .i64 (lowB (t * c + u * b) (b * c))]) ∧ Below w.heap.size w w' := by
  obtain ⟨m1, m2, m3, m4⟩ := fault_0 f1
  obtain ⟨n1, n2, n3, n4⟩ := fault_0 f2
  obtain ⟨q1, q2⟩ := mul_bd (t := t) (c := c) (A := 1000000000) (C := 100000000) (by omega) (by omega) (by omega) (by omega)
  obtain ⟨q3, q4⟩ := mul_bd (t := u) (c := b) (A := 1000000000) (C := 100000000) (by omega) (by omega) (by omega) (by omega)
  obtain ⟨_, q6⟩ := mul_bd (t := b) (c := c) (A := 100000000) (C := 100000000) (by omega) (by omega) (by omega) (by omega)
  have p4 : 1 ≤ b * c := Int.mul_pos (show 0 < b by omega) (show 0 < c by omega)
  clear f1 f2
  go_enter Tryz.func87, Tryz.ntmps87
  go_wp2_with fail
  refine (Low_any (t * c + u * b) (b * c) _ (by omega) (by omega) (by omega) (by omega)).mono ?_
  rintro e w1 ⟨rfl, hb1⟩
  obtain ⟨hc, hf⟩ := bcell hb1
  have hz0 : w.heap.size < w1.heap.size := by have := hb1.size; simp at this; omega
  have hz1 : w.heap.size + 1 < w1.heap.size := by have := hb1.size; simp at this; omega
  have hz2 : w.heap.size + 1 + 1 < w1.heap.size := by have := hb1.size; simp at this; omega
  have hb0 : Below w.heap.size w w1 := ((((Below.refl _ _).alloc (Nat.le_refl _) _).alloc (by simp) _).alloc (by simp; omega) _).trans (hb1.mono (by simp; omega))
  go_wp2
  refine bodyPost_ret (v := .agg #[.int .i64 (lowT (t * c + u * b) (b * c)), .int .i64 (lowB (t * c + u * b) (b * c))]) (by simp [results, Tryz.results87, go_sem, hc, hz0, hz1, hz2]) rfl ⟨rfl, ?_⟩
  repeat (first | exact hb0 | refine Below.setCell ?_ (by simp; try omega) _ | refine Below.alloc ?_ (by first | omega | (simp; omega)) _ | refine Below.drew ?_)
end Fr
end Go.Proofs.YtpnmmmlckdkcdakGreatDoor
