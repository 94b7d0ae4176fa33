/- Contract of package frac's Of. -/
import Derived.Test.YtdldgefahgojaakDoorFracC0
namespace Go.Proofs.YtdldgefahgojaakDoor
namespace Fr
open Go.RowKit
set_option linter.unusedSimpArgs false
set_option linter.unusedVariables false

/-- what Of answers -/
def ofT (t b : Int) : Int := if mayB t b then lowT t b else 0
def ofB (t b : Int) : Int := if mayB t b then lowB t b else 0
def ofE (t b : Int) : Int := if mayB t b then 0 else 1

set_option maxHeartbeats 400000 in
theorem Of_any (t b : Int) (w : World) :
    Calls Tryd.prog 10 #[.int .i64 t, .int .i64 b] w fun e w' => e = .returned (pairV (ofT t b) (ofB t b) (ofE t b)) ∧ Below w.heap.size w w' := by
  cases hm : mayB t b with
  | true =>
    obtain ⟨m1, m2, m3, m4⟩ := mayB_iff.1 hm
    have Hm : Hid (mayB t b = true) := hm
    have HR : Hid (pairV (ofT t b) (ofB t b) (ofE t b) = .tuple #[.agg #[.int .i64 (lowT t b), .int .i64 (lowB t b)], .nilIface]) := by
      show pairV (ofT t b) (ofB t b) (ofE t b) = .tuple #[.agg #[.int .i64 (lowT t b), .int .i64 (lowB t b)], .nilIface]
      rw [ofT, ofB, ofE, hm]; rfl
    clear hm
    go_enter Tryd.func10, Tryd.ntmps10
    go_wp2_with fail
    refine (mayBe_any t b _).mono ?_
    rintro e w2 ⟨rfl, rfl⟩
    rw [Hm.out]
    go_wp2_with fail
    refine (lowest_any t b _ (by omega) (by omega) (by omega) (by omega)).mono ?_
    rintro e w1 ⟨rfl, hb1⟩
    obtain ⟨hc, hf⟩ := bcell hb1
    have hz : w.heap.size < w1.heap.size := by have := hb1.size; simp at this; omega
    go_wp2
    refine bodyPost_ret (v := .tuple #[.agg #[.int .i64 (lowT t b), .int .i64 (lowB t b)], .nilIface]) (by simp [results, Tryd.results10, go_sem, hc, hz]) rfl ⟨by rw [HR.out], ?_⟩
    have hb0 : Below w.heap.size w w1 := ((Below.refl _ _).alloc (Nat.le_refl _) _).trans (hb1.mono (by simp))
    repeat (first | exact hb0 | refine Below.setCell ?_ (by simp) _ | refine Below.alloc ?_ (by simp; omega) _ | refine Below.drew ?_)
  | false =>
    have Hm : Hid (mayB t b = false) := hm
    have HR : Hid (pairV (ofT t b) (ofB t b) (ofE t b) = .tuple #[.agg #[.int .i64 0, .int .i64 0], .iface 61 (.int .i64 1)]) := by
      show pairV (ofT t b) (ofB t b) (ofE t b) = .tuple #[.agg #[.int .i64 0, .int .i64 0], .iface 61 (.int .i64 1)]
      rw [ofT, ofB, ofE, hm]; rfl
    clear hm
    go_enter Tryd.func10, Tryd.ntmps10
    go_wp2_with fail
    refine (mayBe_any t b _).mono ?_
    rintro e w2 ⟨rfl, rfl⟩
    rw [Hm.out]
    go_wp2
    refine bodyPost_ret (v := .tuple #[.agg #[.int .i64 0, .int .i64 0], .iface 61 (.int .i64 1)]) (by simp [results, Tryd.results10, go_sem]) rfl ⟨by rw [HR.out], ?_⟩
    repeat (first | exact Below.refl _ _ | refine Below.setCell ?_ (by simp) _ | refine Below.alloc ?_ (by simp) _ | refine Below.drew ?_)
end Fr
end Go.Proofs.YtdldgefahgojaakDoor
