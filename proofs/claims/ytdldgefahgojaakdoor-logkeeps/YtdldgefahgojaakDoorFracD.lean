/- Contract of package frac's Add. -/
import Derived.Test.YtdldgefahgojaakDoorFracC
namespace Go.Proofs.YtdldgefahgojaakDoor
namespace Fr
open Go.RowKit
set_option linter.unusedSimpArgs false
set_option linter.unusedVariables false

theorem made_at (t b x y k : Int) (w : World) (hx : Hid (madeT t b = x)) (hy : Hid (madeB t b = y)) (hk : Hid (madeE t b = k)) (h1 : -1000000000000000000 ≤ t) (h2 : t ≤ 1000000000000000000) (h3 : 1 ≤ b) (h4 : b ≤ 1000000000000000000) :
    Calls Tryd.prog 81 #[.int .i64 t, .int .i64 b] w fun e w' => e = .returned (.tuple #[.agg #[.int .i64 x, .int .i64 y], errV k]) ∧ Below w.heap.size w w' := by
  have := made_any t b w h1 h2 h3 h4
  rw [hx.out, hy.out, hk.out] at this
  exact this

def addE (t b u c : Int) : Int := if fault2 t b u c = 0 then madeE (t * c + u * b) (b * c) else fault2 t b u c
def addT (t b u c : Int) : Int := if fault2 t b u c = 0 then madeT (t * c + u * b) (b * c) else 0
def addB (t b u c : Int) : Int := if fault2 t b u c = 0 then madeB (t * c + u * b) (b * c) else 0

set_option maxHeartbeats 1000000 in
theorem Add_any (t b u c : Int) (w : World) :
    Calls Tryd.prog 76 #[.agg #[.int .i64 t, .int .i64 b], .agg #[.int .i64 u, .int .i64 c]] w fun e w' => e = .returned (pairV (addT t b u c) (addB t b u c) (addE t b u c)) ∧ Below w.heap.size w w' := by
  by_cases hk : fault2 t b u c = 0
  · obtain ⟨f1, f2⟩ := fault2_0 hk
    obtain ⟨m1, m2, m3, m4⟩ := fault_0 f1
    obtain ⟨n1, n2, n3, n4⟩ := fault_0 f2
    have p1 := mul_bd (t := t) (c := c) (A := 1000000000) (C := 100000000) (by omega) (by omega) (by omega) (by omega)
    have p2 := mul_bd (t := u) (c := b) (A := 1000000000) (C := 100000000) (by omega) (by omega) (by omega) (by omega)
    have p3 := mul_bd (t := b) (c := c) (A := 100000000) (C := 100000000) (by omega) (by omega) (by omega) (by omega)
    have p4 : 1 ≤ b * c := Int.mul_pos (show 0 < b by omega) (show 0 < c by omega)
    obtain ⟨q1, q2⟩ := p1
    obtain ⟨q3, q4⟩ := p2
    obtain ⟨_, q6⟩ := p3
    clear f1 f2
    obtain ⟨x, hx⟩ : ∃ x, Hid (madeT (t * c + u * b) (b * c) = x) := ⟨_, rfl⟩
    obtain ⟨y, hy⟩ : ∃ y, Hid (madeB (t * c + u * b) (b * c) = y) := ⟨_, rfl⟩
    obtain ⟨k, hkk⟩ : ∃ k, Hid (madeE (t * c + u * b) (b * c) = k) := ⟨_, rfl⟩
    have HR : Hid (pairV (addT t b u c) (addB t b u c) (addE t b u c) = .tuple #[.agg #[.int .i64 x, .int .i64 y], errV k]) := by
      show pairV (addT t b u c) (addB t b u c) (addE t b u c) = .tuple #[.agg #[.int .i64 x, .int .i64 y], errV k]
      rw [addT, addB, addE, if_pos hk, if_pos hk, if_pos hk, hx.out, hy.out, hkk.out]; rfl
    have Hk : Hid (fault2 t b u c = 0) := hk
    clear hk
    go_enter Tryd.func76, Tryd.ntmps76
    go_wp2_with fail
    refine (checkAll2 (w.heap.size + 1 + 1 + 1) t b u c _ (by simp) (by go_simp) (by go_simp) (by go_simp) (by go_simp)).mono ?_
    rintro e w1 ⟨rfl, hb1⟩
    rw [Hk.out, errV_0]
    obtain ⟨hc, hf⟩ := bcell hb1
    have hz0 : w.heap.size < w1.heap.size := by have := hb1.size; simp at this; omega
    have hz1 : w.heap.size + 1 < w1.heap.size := by have := hb1.size; simp at this; omega
    have hz2 : w.heap.size + 1 + 1 < w1.heap.size := by have := hb1.size; simp at this; omega
    have hb0 : Below w.heap.size w w1 := (((((Below.refl _ _).alloc (Nat.le_refl _) _).alloc (by simp; try omega) _).alloc (by simp; try omega) _).alloc (by simp; try omega) _).trans (hb1.mono (by simp; omega))
    go_wp2_with fail
    refine (made_at (t * c + u * b) (b * c) x y k _ hx hy hkk (by omega) (by omega) (by omega) (by omega)).mono ?_
    rintro e w2 ⟨rfl, hb2⟩
    obtain ⟨hc2, hf2⟩ := bcell hb2
    have hb3 : Below w.heap.size w w2 := hb0.trans (hb2.mono (by omega))
    clear hb0
    go_wp2
    refine bodyPost_ret (v := .tuple #[.agg #[.int .i64 x, .int .i64 y], errV k]) (by simp [results, Tryd.results76, go_sem, hc2, hc, hz0, hz1, hz2]) rfl ⟨by rw [HR.out], ?_⟩
    repeat (first | exact hb3 | refine Below.setCell ?_ (by simp; try omega) _ | refine Below.alloc ?_ (by simp; omega) _ | refine Below.drew ?_)
  · obtain ⟨k, Hk0⟩ : ∃ k, Hid (fault2 t b u c = k) := ⟨_, rfl⟩
    have k0 : k ≠ 0 := by rw [← Hk0.out]; exact hk
    have Hk : Hid (errV (fault2 t b u c) = .iface 61 (.int .i64 k)) := show errV (fault2 t b u c) = .iface 61 (.int .i64 k) by rw [Hk0.out, errV_ne k0]
    have HR : Hid (pairV (addT t b u c) (addB t b u c) (addE t b u c) = .tuple #[.agg #[.int .i64 0, .int .i64 0], .iface 61 (.int .i64 (k))]) := by
      show pairV (addT t b u c) (addB t b u c) (addE t b u c) = .tuple #[.agg #[.int .i64 0, .int .i64 0], .iface 61 (.int .i64 (k))]
      rw [addT, addB, addE, if_neg hk, if_neg hk, if_neg hk, Hk0.out, pairV, errV_ne k0]
    clear hk k0
    go_enter Tryd.func76, Tryd.ntmps76
    go_wp2_with fail
    refine (checkAll2 (w.heap.size + 1 + 1 + 1) t b u c _ (by simp) (by go_simp) (by go_simp) (by go_simp) (by go_simp)).mono ?_
    rintro e w1 ⟨rfl, hb1⟩
    rw [Hk.out]
    obtain ⟨hc, hf⟩ := bcell hb1
    have hz0 : w.heap.size < w1.heap.size := by have := hb1.size; simp at this; omega
    have hz1 : w.heap.size + 1 < w1.heap.size := by have := hb1.size; simp at this; omega
    have hz2 : w.heap.size + 1 + 1 < w1.heap.size := by have := hb1.size; simp at this; omega
    have hb0 : Below w.heap.size w w1 := (((((Below.refl _ _).alloc (Nat.le_refl _) _).alloc (by simp; try omega) _).alloc (by simp; try omega) _).alloc (by simp; try omega) _).trans (hb1.mono (by simp; omega))
    go_wp2
    refine bodyPost_ret (v := .tuple #[.agg #[.int .i64 0, .int .i64 0], .iface 61 (.int .i64 (k))]) (by simp [results, Tryd.results76, go_sem, hc, hz0, hz1, hz2]) rfl ⟨by rw [HR.out], ?_⟩
    repeat (first | exact hb0 | refine Below.setCell ?_ (by simp; try omega) _ | refine Below.alloc ?_ (by simp; omega) _ | refine Below.drew ?_)
end Fr
end Go.Proofs.YtdldgefahgojaakDoor
