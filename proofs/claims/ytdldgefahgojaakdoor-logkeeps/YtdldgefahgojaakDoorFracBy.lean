/- Contract of package frac's By. -/
import Derived.Test.YtdldgefahgojaakDoorFracD
namespace Go.Proofs.YtdldgefahgojaakDoor
namespace Fr
open Go.RowKit
set_option linter.unusedSimpArgs false
set_option linter.unusedVariables false

def byE (t b n : Int) : Int := if fault t b = 0 then (if (1 ≤ n ∧ n ≤ 1000) then madeE (t) (b * n) else 1) else fault t b
def byT (t b n : Int) : Int := if fault t b = 0 then (if (1 ≤ n ∧ n ≤ 1000) then madeT (t) (b * n) else 0) else 0
def byB (t b n : Int) : Int := if fault t b = 0 then (if (1 ≤ n ∧ n ≤ 1000) then madeB (t) (b * n) else 0) else 0

set_option maxHeartbeats 1000000 in
theorem By_any (t b n : Int) (w : World) :
    Calls Tryd.prog 78 #[.agg #[.int .i64 t, .int .i64 b], .int .i64 n] w fun e w' => e = .returned (pairV (byT t b n) (byB t b n) (byE t b n)) ∧ Below w.heap.size w w' := by
  by_cases hk : fault t b = 0
  · by_cases hn : (1 ≤ n ∧ n ≤ 1000)
    · obtain ⟨r1, r2⟩ := hn
      have hn : (1 ≤ n ∧ n ≤ 1000) := ⟨r1, r2⟩
      obtain ⟨m1, m2, m3, m4⟩ := fault_0 hk
      have p1 := mul_bd (t := b) (c := n) (A := 100000000) (C := 1000) (by omega) (by omega) (by omega) (by omega)
      have p4 : 1 ≤ b * n := Int.mul_pos (show 0 < b by omega) (show 0 < n by omega)
      obtain ⟨q1, q2⟩ := p1
      obtain ⟨x, hx⟩ : ∃ x, Hid (madeT (t) (b * n) = x) := ⟨_, rfl⟩
      obtain ⟨y, hy⟩ : ∃ y, Hid (madeB (t) (b * n) = y) := ⟨_, rfl⟩
      obtain ⟨k, hkk⟩ : ∃ k, Hid (madeE (t) (b * n) = k) := ⟨_, rfl⟩
      have HR : Hid (pairV (byT t b n) (byB t b n) (byE t b n) = .tuple #[.agg #[.int .i64 x, .int .i64 y], errV k]) := by
        show pairV (byT t b n) (byB t b n) (byE t b n) = .tuple #[.agg #[.int .i64 x, .int .i64 y], errV k]
        rw [byT, byB, byE, if_pos hk, if_pos hk, if_pos hk, if_pos hn, if_pos hn, if_pos hn, hx.out, hy.out, hkk.out]; rfl
      have Hk : Hid (fault t b = 0) := hk
      clear hk hn
      go_enter Tryd.func78, Tryd.ntmps78
      go_wp2_with fail
      refine (checkAll1 (w.heap.size + 1 + 1) t b _ (by simp) (by go_simp) (by go_simp)).mono ?_
      rintro e w1 ⟨rfl, hb1⟩
      rw [Hk.out, errV_0]
      obtain ⟨hc, hf⟩ := bcell hb1
      have hz0 : w.heap.size < w1.heap.size := by have := hb1.size; simp at this; omega
      have hz1 : w.heap.size + 1 < w1.heap.size := by have := hb1.size; simp at this; omega
      have hz2 : w.heap.size + 1 + 1 < w1.heap.size := by have := hb1.size; simp at this; omega
      have hb0 : Below w.heap.size w w1 := ((((Below.refl _ _).alloc (Nat.le_refl _) _).alloc (by simp; try omega) _).alloc (by simp; try omega) _).trans (hb1.mono (by simp; omega))
      go_wp2_with fail
      refine (made_at (t) (b * n) x y k _ hx hy hkk (by omega) (by omega) (by omega) (by omega)).mono ?_
      rintro e w2 ⟨rfl, hb2⟩
      obtain ⟨hc2, hf2⟩ := bcell hb2
      have hb3 : Below w.heap.size w w2 := hb0.trans (hb2.mono (by omega))
      clear hb0
      go_wp2
      refine bodyPost_ret (v := .tuple #[.agg #[.int .i64 x, .int .i64 y], errV k]) (by simp [results, Tryd.results78, go_sem, hc2, hc, hz0, hz1, hz2]) rfl ⟨by rw [HR.out], ?_⟩
      repeat (first | exact hb3 | refine Below.setCell ?_ (by simp; try omega) _ | refine Below.alloc ?_ (by simp; omega) _ | refine Below.drew ?_)
    · have HN : Hid (¬ (1 ≤ n ∧ n ≤ 1000)) := hn
      have hn2 : n < 1 ∨ 1000 < n := by omega
      have HR : Hid (pairV (byT t b n) (byB t b n) (byE t b n) = .tuple #[.agg #[.int .i64 0, .int .i64 0], .iface 61 (.int .i64 (1))]) := by
        show pairV (byT t b n) (byB t b n) (byE t b n) = .tuple #[.agg #[.int .i64 0, .int .i64 0], .iface 61 (.int .i64 (1))]
        rw [byT, byB, byE, if_pos hk, if_pos hk, if_pos hk, if_neg hn, if_neg hn, if_neg hn, pairV, errV_ne (by decide)]
      have Hk : Hid (fault t b = 0) := hk
      clear hk hn
      rcases hn2 with hl | hl
      · go_enter Tryd.func78, Tryd.ntmps78
        go_wp2_with fail
        refine (checkAll1 (w.heap.size + 1 + 1) t b _ (by simp) (by go_simp) (by go_simp)).mono ?_
        rintro e w1 ⟨rfl, hb1⟩
        rw [Hk.out, errV_0]
        obtain ⟨hc, hf⟩ := bcell hb1
        have hz0 : w.heap.size < w1.heap.size := by have := hb1.size; simp at this; omega
        have hz1 : w.heap.size + 1 < w1.heap.size := by have := hb1.size; simp at this; omega
        have hz2 : w.heap.size + 1 + 1 < w1.heap.size := by have := hb1.size; simp at this; omega
        have hb0 : Below w.heap.size w w1 := ((((Below.refl _ _).alloc (Nat.le_refl _) _).alloc (by simp; try omega) _).alloc (by simp; try omega) _).trans (hb1.mono (by simp; omega))
        go_wp2
        refine bodyPost_ret (v := .tuple #[.agg #[.int .i64 0, .int .i64 0], .iface 61 (.int .i64 (1))]) (by simp [results, Tryd.results78, go_sem, hc, hz0, hz1, hz2]) rfl ⟨by rw [HR.out], ?_⟩
        repeat (first | exact hb0 | refine Below.setCell ?_ (by simp; try omega) _ | refine Below.alloc ?_ (by simp; omega) _ | refine Below.drew ?_)
      · have hl' : ¬ n < 1 := by omega
        go_enter Tryd.func78, Tryd.ntmps78
        go_wp2_with fail
        refine (checkAll1 (w.heap.size + 1 + 1) t b _ (by simp) (by go_simp) (by go_simp)).mono ?_
        rintro e w1 ⟨rfl, hb1⟩
        rw [Hk.out, errV_0]
        obtain ⟨hc, hf⟩ := bcell hb1
        have hz0 : w.heap.size < w1.heap.size := by have := hb1.size; simp at this; omega
        have hz1 : w.heap.size + 1 < w1.heap.size := by have := hb1.size; simp at this; omega
        have hz2 : w.heap.size + 1 + 1 < w1.heap.size := by have := hb1.size; simp at this; omega
        have hb0 : Below w.heap.size w w1 := ((((Below.refl _ _).alloc (Nat.le_refl _) _).alloc (by simp; try omega) _).alloc (by simp; try omega) _).trans (hb1.mono (by simp; omega))
        go_wp2
        refine bodyPost_ret (v := .tuple #[.agg #[.int .i64 0, .int .i64 0], .iface 61 (.int .i64 (1))]) (by simp [results, Tryd.results78, go_sem, hc, hz0, hz1, hz2]) rfl ⟨by rw [HR.out], ?_⟩
        repeat (first | exact hb0 | refine Below.setCell ?_ (by simp; try omega) _ | refine Below.alloc ?_ (by simp; omega) _ | refine Below.drew ?_)
  · obtain ⟨k, Hk0⟩ : ∃ k, Hid (fault t b = k) := ⟨_, rfl⟩
    have k0 : k ≠ 0 := by rw [← Hk0.out]; exact hk
    have Hk : Hid (errV (fault t b) = .iface 61 (.int .i64 k)) := show errV (fault t b) = .iface 61 (.int .i64 k) by rw [Hk0.out, errV_ne k0]
    have HR : Hid (pairV (byT t b n) (byB t b n) (byE t b n) = .tuple #[.agg #[.int .i64 0, .int .i64 0], .iface 61 (.int .i64 (k))]) := by
      show pairV (byT t b n) (byB t b n) (byE t b n) = .tuple #[.agg #[.int .i64 0, .int .i64 0], .iface 61 (.int .i64 (k))]
      rw [byT, byB, byE, if_neg hk, if_neg hk, if_neg hk, Hk0.out, pairV, errV_ne k0]
    clear hk k0
    go_enter Tryd.func78, Tryd.ntmps78
    go_wp2_with fail
    refine (checkAll1 (w.heap.size + 1 + 1) t b _ (by simp) (by go_simp) (by go_simp)).mono ?_
    rintro e w1 ⟨rfl, hb1⟩
    rw [Hk.out]
    obtain ⟨hc, hf⟩ := bcell hb1
    have hz0 : w.heap.size < w1.heap.size := by have := hb1.size; simp at this; omega
    have hz1 : w.heap.size + 1 < w1.heap.size := by have := hb1.size; simp at this; omega
    have hz2 : w.heap.size + 1 + 1 < w1.heap.size := by have := hb1.size; simp at this; omega
    have hb0 : Below w.heap.size w w1 := ((((Below.refl _ _).alloc (Nat.le_refl _) _).alloc (by simp; try omega) _).alloc (by simp; try omega) _).trans (hb1.mono (by simp; omega))
    go_wp2
    refine bodyPost_ret (v := .tuple #[.agg #[.int .i64 0, .int .i64 0], .iface 61 (.int .i64 (k))]) (by simp [results, Tryd.results78, go_sem, hc, hz0, hz1, hz2]) rfl ⟨by rw [HR.out], ?_⟩
    repeat (first | exact hb0 | refine Below.setCell ?_ (by simp; try omega) _ | refine Below.alloc ?_ (by simp; omega) _ | refine Below.drew ?_)
end Fr
end Go.Proofs.YtdldgefahgojaakDoor
