/- Contracts of cmp.Compare over int and of package frac's Compare. -/
import Derived.Test.YtdldgefahgojaakDoorFracC0
namespace Go.Proofs.YtdldgefahgojaakDoor
namespace Fr
open Go.RowKit
set_option linter.unusedSimpArgs false
set_option linter.unusedVariables false

set_option maxHeartbeats 400000 in
theorem cmp_any (x y : Int) (w : World) :
    Calls Tryd.prog 80 #[.int .i64 x, .int .i64 y] w fun e w' => e = .returned (.int .i64 (cmpI x y)) ∧ w' = w := by
  by_cases h1 : x < y
  · have HR : Hid (cmpI x y = -1) := show cmpI x y = -1 by simp [cmpI, h1]
    go_enter Tryd.func80, Tryd.ntmps80
    go_wp2_with (go_at_call 82; refine (isNaN_any _ _).mono ?_; rintro e w' ⟨rfl, rfl⟩)
    go_ret
    exact ⟨ret_int HR.out.symm, rfl⟩
  · by_cases h2 : y < x
    · have HR : Hid (cmpI x y = 1) := show cmpI x y = 1 by simp [cmpI, h1, h2]
      go_enter Tryd.func80, Tryd.ntmps80
      go_wp2_with (go_at_call 82; refine (isNaN_any _ _).mono ?_; rintro e w' ⟨rfl, rfl⟩)
      go_ret
      exact ⟨ret_int HR.out.symm, rfl⟩
    · have HR : Hid (cmpI x y = 0) := show cmpI x y = 0 by simp [cmpI, h1, h2]
      go_enter Tryd.func80, Tryd.ntmps80
      go_wp2_with (go_at_call 82; refine (isNaN_any _ _).mono ?_; rintro e w' ⟨rfl, rfl⟩)
      go_ret
      exact ⟨ret_int HR.out.symm, rfl⟩

def cmpV (t b u c : Int) : Int := if fault2 t b u c = 0 then cmpI (t * c) (u * b) else 0

set_option maxHeartbeats 1000000 in
theorem Compare_any (t b u c : Int) (w : World) :
    Calls Tryd.prog 75 #[.agg #[.int .i64 t, .int .i64 b], .agg #[.int .i64 u, .int .i64 c]] w fun e w' => e = .returned (.tuple #[.int .i64 (cmpV t b u c), errV (fault2 t b u c)]) ∧ Below w.heap.size w w' := by
  by_cases hk : fault2 t b u c = 0
  · obtain ⟨f1, f2⟩ := fault2_0 hk
    obtain ⟨m1, m2, m3, m4⟩ := fault_0 f1
    obtain ⟨n1, n2, n3, n4⟩ := fault_0 f2
    have p1 := mul_bd (t := t) (c := c) (A := 1000000000) (C := 100000000) (by omega) (by omega) (by omega) (by omega)
    have p2 := mul_bd (t := u) (c := b) (A := 1000000000) (C := 100000000) (by omega) (by omega) (by omega) (by omega)
    obtain ⟨q1, q2⟩ := p1
    obtain ⟨q3, q4⟩ := p2
    clear f1 f2
    obtain ⟨k, hkk⟩ : ∃ k, Hid (cmpI (t * c) (u * b) = k) := ⟨_, rfl⟩
    have HR : Hid (Value.tuple #[.int .i64 (cmpV t b u c), errV (fault2 t b u c)] = .tuple #[.int .i64 k, .nilIface]) := by
      show Value.tuple #[.int .i64 (cmpV t b u c), errV (fault2 t b u c)] = .tuple #[.int .i64 k, .nilIface]
      rw [cmpV, if_pos hk, hk, hkk.out, errV_0]
    have Hk : Hid (fault2 t b u c = 0) := hk
    clear hk
    go_enter Tryd.func75, Tryd.ntmps75
    go_wp2_with fail
    refine (checkAll2 (w.heap.size + 1 + 1) t b u c _ (by simp) (by go_simp) (by go_simp) (by go_simp) (by go_simp)).mono ?_
    rintro e w1 ⟨rfl, hb1⟩
    rw [Hk.out, errV_0]
    obtain ⟨hc, hf⟩ := bcell hb1
    have hz0 : w.heap.size < w1.heap.size := by have := hb1.size; simp at this; omega
    have hz1 : w.heap.size + 1 < w1.heap.size := by have := hb1.size; simp at this; omega
    have hb0 : Below w.heap.size w w1 := ((((Below.refl _ _).alloc (Nat.le_refl _) _).alloc (by simp; try omega) _).alloc (by simp; try omega) _).trans (hb1.mono (by simp; omega))
    go_wp2_with fail
    refine (cmp_any _ _ _).mono ?_
    rintro e w2 ⟨rfl, rfl⟩
    rw [hkk.out]
    go_wp2
    go_ret2
    exact ⟨by rw [HR.out]; rfl, hb0⟩
  · obtain ⟨k, Hk0⟩ : ∃ k, Hid (fault2 t b u c = k) := ⟨_, rfl⟩
    have k0 : k ≠ 0 := by rw [← Hk0.out]; exact hk
    have Hk : Hid (errV (fault2 t b u c) = .iface 61 (.int .i64 k)) := show errV (fault2 t b u c) = .iface 61 (.int .i64 k) by rw [Hk0.out, errV_ne k0]
    have HR : Hid (Value.tuple #[.int .i64 (cmpV t b u c), errV (fault2 t b u c)] = .tuple #[.int .i64 0, .iface 61 (.int .i64 k)]) := by
      show Value.tuple #[.int .i64 (cmpV t b u c), errV (fault2 t b u c)] = .tuple #[.int .i64 0, .iface 61 (.int .i64 k)]
      rw [cmpV, if_neg hk, Hk.out]
    clear hk k0
    go_enter Tryd.func75, Tryd.ntmps75
    go_wp2_with fail
    refine (checkAll2 (w.heap.size + 1 + 1) t b u c _ (by simp) (by go_simp) (by go_simp) (by go_simp) (by go_simp)).mono ?_
    rintro e w1 ⟨rfl, hb1⟩
    rw [Hk.out]
    have hb0 : Below w.heap.size w w1 := ((((Below.refl _ _).alloc (Nat.le_refl _) _).alloc (by simp; try omega) _).alloc (by simp; try omega) _).trans (hb1.mono (by simp; omega))
    go_wp2
    go_ret2
    exact ⟨by rw [HR.out]; rfl, hb0⟩
end Fr
end Go.Proofs.YtdldgefahgojaakDoor
