/- The law SourceOne returns true for every input, from what is asked of package source's calls. -/
import Derived.Test.YtkmkofnfiiibdagDoorPlains
import Derived.Test.YtkmkofnfiiibdagDoorToldB
import Derived.Deep.DeepCutAuto
namespace Go.Proofs.YtkmkofnfiiibdagDoor
namespace Ev
open Go.RowKit Fr Ns Ld Fl
set_option linter.unusedSimpArgs false
set_option linter.unusedVariables false

set_option maxRecDepth 100000 in
set_option maxHeartbeats 4000000 in
theorem sourceOne_walk (hC : SCheckSaid) (hS : SSendSaid) (hA : SAckSaid) (hL : SLostSaid) (a c : Int) (w : World) (hg : w.cell? ⟨0, 0, none⟩ = some handleV) :
    Calls Tryd.prog 5 #[.int .i64 a, .int .i64 c] w fun e w' => e = .returned (.bool true) ∧ Below w.heap.size w w' := by
  have HEr : Hid (∀ u : World, Below w.heap.size w u → Calls Tryd.prog 8 #[.iface 50 (.int .i64 8), .int .i64 8] u fun e w' => e = .returned (.bool true) ∧ Below u.heap.size u w') := fun u hu => by
    have := Error_any 8 8 u (cell_later hu hg)
    rw [beq_self_eq_true, errV_ne (by decide)] at this
    exact this
  have B0 : Hid (Below w.heap.size w (w.alloc (.cells #[.int .i64 a, .int .i64 0, .int .i64 c, .int .i64 0] 35))) := (Below.refl _ _).alloc (Nat.le_refl _) _
  have R0 : Hid (RowAt (w.alloc (.cells #[.int .i64 a, .int .i64 0, .int .i64 c, .int .i64 0] 35)) w.heap.size 35 [.int .i64 a, .int .i64 0, .int .i64 c, .int .i64 0]) := row_made w _ _ _ _ rfl rfl
  by_cases he : srcE a 0 c 0 = 0
  · have hb := srcE_0.1 he
    obtain ⟨n, hn⟩ : ∃ n, goN a 0 c = n := ⟨_, rfl⟩
    have hn' : (c < a ∧ n = c) ∨ (¬ c < a ∧ n = a) := by
      rw [← hn]; unfold goN
      rw [if_pos (by omega), Int.sub_zero]
      split
      · left; omega
      · right; omega
    have a8 : ackE a 0 c 0 = 8 := by rw [ackE, if_pos he, if_pos rfl]
    have H1 : Hid (∀ u : World, Calls Tryd.prog 14 #[.agg #[.int .i64 a, .int .i64 0, .int .i64 c, .int .i64 0]] u fun e w' => e = .returned (.tuple #[.agg #[.int .i64 a, .int .i64 n, .int .i64 (c - n), .int .i64 0], .int .i64 n, .nilIface]) ∧ Below u.heap.size u w') := fun u => by
      have := hS a 0 c 0 u
      rw [he, hn, errV_0, Int.zero_add] at this
      exact this
    have H2 : Hid (∀ u : World, Calls Tryd.prog 16 #[.agg #[.int .i64 a, .int .i64 0, .int .i64 c, .int .i64 0], .bool true] u fun e w' => e = .returned (.tuple #[.agg #[.int .i64 0, .int .i64 0, .int .i64 0, .int .i64 0], .iface 50 (.int .i64 8)]) ∧ Below u.heap.size u w') := fun u => by
      have := hA a 0 c 0 true u
      rw [a8, errV_ne (by decide)] at this
      exact this
    by_cases hn0 : n = 0
    · have hc0 : c = 0 := by omega
      subst hc0
      subst hn0
      clear hC hS hA hL hg he hn hn' a8
      go_enter Tryd.func5, Tryd.ntmps5
      obtain ⟨d0, d1, d2, d3, z0, z1, z2, z3, hgz⟩ := R0.out.four
      go_wp2_with fail
      refine (H1.out _).mono ?_
      rintro e w1 ⟨rfl, hw1⟩
      have B1 : Hid (Below w.heap.size w w1) := Bel.call B0.out (Nat.le_refl _) hw1
      have R1 : Hid (RowAt w1 w.heap.size 35 [.int .i64 a, .int .i64 0, .int .i64 0, .int .i64 0]) := R0.out.later hw1 R0.out.lt
      have K1 : ∀ o, Hid (Below w.heap.size w (w1.alloc o)) := fun o => Bel.more B1.out (Nat.le_refl _) o
      have R1' : ∀ o, Hid (RowAt (w1.alloc o) w.heap.size 35 [.int .i64 a, .int .i64 0, .int .i64 0, .int .i64 0]) := fun o => R1.out.alloc o
      clear hw1 d0 d1 d2 d3 z0 z1 z2 z3 hgz
      have hs1 : w.heap.size < w1.heap.size := R1.out.lt
      obtain ⟨d0, d1, d2, d3, z0, z1, z2, z3, hgz⟩ := R1.out.four
      go_wp2_with fail
      refine (H2.out _).mono ?_
      rintro e w2 ⟨rfl, hw2⟩
      have B2 : Hid (Below w.heap.size w w2) := Bel.call (K1 _).out (Nat.le_refl _) hw2
      clear hw2 d0 d1 d2 d3 z0 z1 z2 z3 hgz
      go_wp2_with fail
      refine (HEr.out _ (Bel.more B2.out (Nat.le_refl _) _)).mono ?_
      rintro e w3 ⟨rfl, hw3⟩
      have B3 : Hid (Below w.heap.size w w3) := Bel.call (Bel.more B2.out (Nat.le_refl _) _) (Nat.le_refl _) hw3
      clear hw3
      go_wp2
      go_ret
      exact ⟨Ns.ret_bool rfl, B3.out⟩
    · have hx : srcE a n (c - n) 0 = 0 := srcE_0.2 (by omega)
      have a1 : ackE a n (c - n) 0 = 0 := by rw [ackE, if_pos hx, if_neg hn0, if_neg (by decide)]
      have l1 : losE a n (c - n) 0 = 0 := by rw [losE, if_pos hx, if_neg hn0, if_neg (by omega)]
      have H3 : Hid (∀ u : World, Calls Tryd.prog 16 #[.agg #[.int .i64 a, .int .i64 n, .int .i64 (c - n), .int .i64 0], .bool true] u fun e w' => e = .returned (.tuple #[.agg #[.int .i64 (ackW a true), .int .i64 (n - 1), .int .i64 (c - n), .int .i64 1], .nilIface]) ∧ Below u.heap.size u w') := fun u => by
        have := hA a n (c - n) 0 true u
        rw [a1, errV_0, Int.zero_add] at this
        exact this
      have H4 : Hid (∀ u : World, Calls Tryd.prog 18 #[.agg #[.int .i64 a, .int .i64 n, .int .i64 (c - n), .int .i64 0]] u fun e w' => e = .returned (.tuple #[.agg #[.int .i64 (lostW a), .int .i64 (n - 1), .int .i64 (c - n + 1), .int .i64 0], .nilIface]) ∧ Below u.heap.size u w') := fun u => by
        have := hL a n (c - n) 0 u
        rw [l1, errV_0] at this
        exact this
      have hup : (1000 < a + 1 ∧ ackW a true = 1000) ∨ (¬ 1000 < a + 1 ∧ ackW a true = a + 1) := by
        unfold ackW
        by_cases c1 : a < 1000
        · right; simp [c1]; omega
        · left; simp [c1]; omega
      have hhf : (a / 2 < 1 ∧ lostW a = 1) ∨ (¬ a / 2 < 1 ∧ lostW a = a / 2) := by
        unfold lostW
        split
        · right; omega
        · left; omega
      generalize ackW a true = aw at *
      generalize lostW a = lw at *
      have t1 : a.tdiv 2 = a / 2 := Int.tdiv_eq_ediv_of_nonneg (by omega)
      have w1' : IntKind.i64.wrap (a + 1) = a + 1 := by rw [IntKind.wrap_i64]; omega
      have w2' : IntKind.i64.wrap (a / 2) = a / 2 := by rw [IntKind.wrap_i64]; omega
      have w3' : IntKind.i64.wrap (c - n) = c - n := by rw [IntKind.wrap_i64]; omega
      have w4' : IntKind.i64.wrap (c - n + 1) = c - n + 1 := by rw [IntKind.wrap_i64]; omega
      have q0 : (n == 0) = false := beq_eq_false_iff_ne.2 hn0
      have q1 : (aw == aw) = true := by simp
      have q2 : (lw == lw) = true := by simp
      have q3 : (c - n + 1 == c - n + 1) = true := by simp
      clear hC hS hA hL hg he hn hn' a8 a1 l1 hx hn0 hb
      go_enter Tryd.func5, Tryd.ntmps5
      obtain ⟨d0, d1, d2, d3, z0, z1, z2, z3, hgz⟩ := R0.out.four
      go_wp2_with fail
      refine (H1.out _).mono ?_
      rintro e w1 ⟨rfl, hw1⟩
      have B1 : Hid (Below w.heap.size w (w1.alloc (.cells #[.int .i64 a, .int .i64 n, .int .i64 (c - n), .int .i64 0] 35))) := Bel.more (Bel.call B0.out (Nat.le_refl _) hw1) (Nat.le_refl _) _
      have R1 : Hid (RowAt (w1.alloc (.cells #[.int .i64 a, .int .i64 n, .int .i64 (c - n), .int .i64 0] 35)) w.heap.size 35 [.int .i64 a, .int .i64 0, .int .i64 c, .int .i64 0]) := (R0.out.later hw1 R0.out.lt).alloc _
      have P1 : Hid (RowAt (w1.alloc (.cells #[.int .i64 a, .int .i64 n, .int .i64 (c - n), .int .i64 0] 35)) w1.heap.size 35 [.int .i64 a, .int .i64 n, .int .i64 (c - n), .int .i64 0]) := row_made w1 _ _ _ _ rfl rfl
      clear hw1 d0 d1 d2 d3 z0 z1 z2 z3 hgz
      obtain ⟨gx, hgx⟩ : ∃ g, Hid (w1.heap.size = g) := ⟨_, rfl⟩
      go_upto_region 5 with fail
      rw [hgx.out] at P1
      rw [hgx.out]
      generalize (w1.alloc (.cells #[.int .i64 a, .int .i64 n, .int .i64 (c - n), .int .i64 0] 35)) = u1 at *
      clear hgx
      obtain ⟨d0, d1, d2, d3, z0, z1, z2, z3, hgz⟩ := R1.out.four
      go_wp2_with fail
      refine (H2.out _).mono ?_
      rintro e w2 ⟨rfl, hw2⟩
      have B2 : Hid (Below w.heap.size w (w2.alloc (.cells #[.int .i64 0, .int .i64 0, .int .i64 0, .int .i64 0] 35))) := Bel.more (Bel.call B1.out (Nat.le_refl _) hw2) (Nat.le_refl _) _
      have P2 : Hid (RowAt (w2.alloc (.cells #[.int .i64 0, .int .i64 0, .int .i64 0, .int .i64 0] 35)) gx 35 [.int .i64 a, .int .i64 n, .int .i64 (c - n), .int .i64 0]) := (P1.out.later hw2 P1.out.lt).alloc _
      clear hw2 d0 d1 d2 d3 z0 z1 z2 z3 hgz
      go_wp2_with fail
      refine (HEr.out _ B2.out).mono ?_
      rintro e w3 ⟨rfl, hw3⟩
      have B3 : Hid (Below w.heap.size w w3) := Bel.call B2.out (Nat.le_refl _) hw3
      have P3 : Hid (RowAt w3 gx 35 [.int .i64 a, .int .i64 n, .int .i64 (c - n), .int .i64 0]) := P2.out.later hw3 P2.out.lt
      clear hw3
      obtain ⟨d0, d1, d2, d3, z0, z1, z2, z3, hgz⟩ := P3.out.four
      go_wp2_with fail
      refine (H3.out _).mono ?_
      rintro e w4 ⟨rfl, hw4⟩
      have B4 : Hid (Below w.heap.size w (w4.alloc (.cells #[.int .i64 aw, .int .i64 (n - 1), .int .i64 (c - n), .int .i64 1] 35))) := Bel.more (Bel.call B3.out (Nat.le_refl _) hw4) (Nat.le_refl _) _
      have P4 : Hid (RowAt (w4.alloc (.cells #[.int .i64 aw, .int .i64 (n - 1), .int .i64 (c - n), .int .i64 1] 35)) gx 35 [.int .i64 a, .int .i64 n, .int .i64 (c - n), .int .i64 0]) := (P3.out.later hw4 P3.out.lt).alloc _
      have Y4 : Hid (RowAt (w4.alloc (.cells #[.int .i64 aw, .int .i64 (n - 1), .int .i64 (c - n), .int .i64 1] 35)) w4.heap.size 35 [.int .i64 aw, .int .i64 (n - 1), .int .i64 (c - n), .int .i64 1]) := row_made w4 _ _ _ _ rfl rfl
      clear hw4 d0 d1 d2 d3 z0 z1 z2 z3 hgz
      obtain ⟨gy, hgy'⟩ : ∃ g, Hid (w4.heap.size = g) := ⟨_, rfl⟩
      go_upto_region 9 with fail
      rw [hgy'.out] at Y4
      rw [hgy'.out]
      generalize (w4.alloc (.cells #[.int .i64 aw, .int .i64 (n - 1), .int .i64 (c - n), .int .i64 1] 35)) = u4 at *
      clear hgy'
      obtain ⟨d0, d1, d2, d3, z0, z1, z2, z3, hgz⟩ := P4.out.four
      go_wp2_with fail
      refine (H4.out _).mono ?_
      rintro e w5 ⟨rfl, hw5⟩
      have B5 : Hid (Below w.heap.size w (w5.alloc (.cells #[.int .i64 lw, .int .i64 (n - 1), .int .i64 (c - n + 1), .int .i64 0] 35))) := Bel.more (Bel.call B4.out (Nat.le_refl _) hw5) (Nat.le_refl _) _
      have Y5 : Hid (RowAt (w5.alloc (.cells #[.int .i64 lw, .int .i64 (n - 1), .int .i64 (c - n + 1), .int .i64 0] 35)) gy 35 [.int .i64 aw, .int .i64 (n - 1), .int .i64 (c - n), .int .i64 1]) := (Y4.out.later hw5 Y4.out.lt).alloc _
      have Z5 : Hid (RowAt (w5.alloc (.cells #[.int .i64 lw, .int .i64 (n - 1), .int .i64 (c - n + 1), .int .i64 0] 35)) w5.heap.size 35 [.int .i64 lw, .int .i64 (n - 1), .int .i64 (c - n + 1), .int .i64 0]) := row_made w5 _ _ _ _ rfl rfl
      clear hw5 d0 d1 d2 d3 z0 z1 z2 z3 hgz
      obtain ⟨gz, hgz'⟩ : ∃ g, Hid (w5.heap.size = g) := ⟨_, rfl⟩
      go_upto_region 10 with fail
      rw [hgz'.out] at Z5
      rw [hgz'.out]
      generalize (w5.alloc (.cells #[.int .i64 lw, .int .i64 (n - 1), .int .i64 (c - n + 1), .int .i64 0] 35)) = u5 at *
      clear hgz'
      obtain ⟨d0, d1, d2, d3, z0, z1, z2, z3, hgz⟩ := Y5.out.four
      obtain ⟨f0, f1, f2, f3, y0, y1, y2, y3, hgy⟩ := Z5.out.four
      rcases hup with ⟨c1, rfl⟩ | ⟨c1, rfl⟩ <;> rcases hhf with ⟨c2, rfl⟩ | ⟨c2, rfl⟩
      · exfalso
        omega
      all_goals
        go_wp2
        go_ret
        exact ⟨Ns.ret_bool rfl, B5.out⟩
  · have H1 : Hid (∀ u : World, Calls Tryd.prog 14 #[.agg #[.int .i64 a, .int .i64 0, .int .i64 c, .int .i64 0]] u fun e w' => e = .returned (.tuple #[.agg #[.int .i64 0, .int .i64 0, .int .i64 0, .int .i64 0], .int .i64 0, .iface 50 (.int .i64 (srcE a 0 c 0))]) ∧ Below u.heap.size u w') := fun u => by
      have := hS a 0 c 0 u
      simp only [okN, if_neg he, errV_ne he] at this
      exact this
    have H2 : Hid (∀ u : World, Calls Tryd.prog 12 #[.agg #[.int .i64 a, .int .i64 0, .int .i64 c, .int .i64 0]] u fun e w' => e = .returned (.iface 50 (.int .i64 (srcE a 0 c 0))) ∧ Below u.heap.size u w') := fun u => by
      have := hC a 0 c 0 u
      rw [errV_ne he] at this
      exact this
    generalize srcE a 0 c 0 = er at *
    clear hC hS hA hL hg HEr
    go_enter Tryd.func5, Tryd.ntmps5
    obtain ⟨d0, d1, d2, d3, z0, z1, z2, z3, hgz⟩ := R0.out.four
    go_wp2_with fail
    refine (H1.out _).mono ?_
    rintro e w1 ⟨rfl, hw1⟩
    have B1 : Hid (Below w.heap.size w w1) := Bel.call B0.out (Nat.le_refl _) hw1
    have R1 : Hid (RowAt w1 w.heap.size 35 [.int .i64 a, .int .i64 0, .int .i64 c, .int .i64 0]) := R0.out.later hw1 R0.out.lt
    have hs1 : w.heap.size < w1.heap.size := R1.out.lt
    clear hw1 d0 d1 d2 d3 z0 z1 z2 z3 hgz
    obtain ⟨d0, d1, d2, d3, z0, z1, z2, z3, hgz⟩ := R1.out.four
    go_wp2_with fail
    refine (H2.out _).mono ?_
    rintro e w2 ⟨rfl, hw2⟩
    have B2 : Hid (Below w.heap.size w w2) := Bel.call (Bel.more B1.out (Nat.le_refl _) _) (Nat.le_refl _) hw2
    clear hw2
    go_wp2
    go_ret
    exact ⟨Ns.ret_bool rfl, B2.out⟩
end Ev
end Go.Proofs.YtkmkofnfiiibdagDoor
