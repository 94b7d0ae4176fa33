/- What package frac's calls make: lowest terms within the bounds, or that it is too much. -/
import Derived.Test.YtdldgefahgojaakDoorFracC0
namespace Go.Proofs.YtdldgefahgojaakDoor
namespace Fr
open Go.RowKit
set_option linter.unusedSimpArgs false
set_option linter.unusedVariables false

set_option maxHeartbeats 400000 in
theorem made_any (t b : Int) (w : World) (h1 : -1000000000000000000 ≤ t) (h2 : t ≤ 1000000000000000000) (h3 : 1 ≤ b) (h4 : b ≤ 1000000000000000000) :
    Calls Tryd.prog 81 #[.int .i64 t, .int .i64 b] w fun e w' => e = .returned (pairV (madeT t b) (madeB t b) (madeE t b)) ∧ Below w.heap.size w w' := by
  obtain ⟨x, hx⟩ : ∃ x, Hid (lowT t b = x) := ⟨_, rfl⟩
  obtain ⟨y, hy⟩ : ∃ y, Hid (lowB t b = y) := ⟨_, rfl⟩
  cases hm : mayB x y with
  | true =>
    have Hm : Hid (mayB x y = true) := hm
    have HR : Hid (pairV (madeT t b) (madeB t b) (madeE t b) = .tuple #[.agg #[.int .i64 x, .int .i64 y], .nilIface]) := by
      show pairV (madeT t b) (madeB t b) (madeE t b) = .tuple #[.agg #[.int .i64 x, .int .i64 y], .nilIface]
      rw [madeT, madeB, madeE, hx.out, hy.out, hm]; rfl
    clear hm
    go_enter Tryd.func81, Tryd.ntmps81
    go_wp2_with fail
    refine (lowest_at t b x y _ hx hy h1 h2 h3 h4).mono ?_
    rintro e w1 ⟨rfl, hb1⟩
    obtain ⟨hc, hf⟩ := bcell hb1
    have hz : w.heap.size < w1.heap.size := by have := hb1.size; simp at this; omega
    go_wp2_with fail
    refine (mayBe_any x y _).mono ?_
    rintro e w2 ⟨rfl, rfl⟩
    rw [Hm.out]
    go_wp2
    refine bodyPost_ret (v := .tuple #[.agg #[.int .i64 x, .int .i64 y], .nilIface]) (by simp [results, Tryd.results81, go_sem, hc, hz]) rfl ⟨by rw [HR.out], ?_⟩
    have hb0 : Below w.heap.size w w1 := ((Below.refl _ _).alloc (Nat.le_refl _) _).trans (hb1.mono (by simp))
    repeat (first | exact hb0 | refine Below.setCell ?_ (by simp) _ | refine Below.alloc ?_ (by simp; omega) _ | refine Below.drew ?_)
  | false =>
    have Hm : Hid (mayB x y = false) := hm
    have HR : Hid (pairV (madeT t b) (madeB t b) (madeE t b) = .tuple #[.agg #[.int .i64 0, .int .i64 0], .iface 61 (.int .i64 4)]) := by
      show pairV (madeT t b) (madeB t b) (madeE t b) = .tuple #[.agg #[.int .i64 0, .int .i64 0], .iface 61 (.int .i64 4)]
      rw [madeT, madeB, madeE, hx.out, hy.out, hm]; rfl
    clear hm
    go_enter Tryd.func81, Tryd.ntmps81
    go_wp2_with fail
    refine (lowest_at t b x y _ hx hy h1 h2 h3 h4).mono ?_
    rintro e w1 ⟨rfl, hb1⟩
    obtain ⟨hc, hf⟩ := bcell hb1
    have hz : w.heap.size < w1.heap.size := by have := hb1.size; simp at this; omega
    go_wp2_with fail
    refine (mayBe_any x y _).mono ?_
    rintro e w2 ⟨rfl, rfl⟩
    rw [Hm.out]
    go_wp2
    refine bodyPost_ret (v := .tuple #[.agg #[.int .i64 0, .int .i64 0], .iface 61 (.int .i64 4)]) (by simp [results, Tryd.results81, go_sem, hc, hz]) rfl ⟨by rw [HR.out], ?_⟩
    have hb0 : Below w.heap.size w w1 := ((Below.refl _ _).alloc (Nat.le_refl _) _).trans (hb1.mono (by simp))
    repeat (first | exact hb0 | refine Below.setCell ?_ (by simp) _ | refine Below.alloc ?_ (by simp; omega) _ | refine Below.drew ?_)
end Fr
end Go.Proofs.YtdldgefahgojaakDoor
