/- The law MeterStays returns true for every input, from what is asked of package meter's Next. -/
import Derived.Test.YtgacckmgbalggaiPlains
import Derived.Deep.DeepCutAuto
namespace Go.Proofs.Ytgacckmgbalggai
namespace Ev
open Go.RowKit Fr Ns Ld Fl
set_option linter.unusedSimpArgs false
set_option linter.unusedVariables false

theorem ms_fact : mnxE 10 20 0 8 = 0 ∧ nextM 10 20 0 8 = 4 := by decide +kernel

set_option maxRecDepth 100000 in
set_option maxHeartbeats 8000000 in
theorem meterStays_walk (hN : MtNextSaid) (s r h q m : Int) (w : World) :
    Calls Try.prog 4 #[.agg #[.int .i64 s, .int .i64 r, .int .i64 h], .int .i64 q, .int .i64 m] w fun e w' => e = .returned (.bool true) ∧ Below w.heap.size w w' := by
  have HKp : Hid (∀ u : World, Below (w.heap.size + 1) (w.alloc (.cells #[.int .i64 s, .int .i64 r, .int .i64 h] 35)) u → Below w.heap.size w u ∧ RowAt u w.heap.size 35 [.int .i64 s, .int .i64 r, .int .i64 h] ∧ w.heap.size + 1 ≤ u.heap.size) := fun u hu => by
    have hs := hu.size
    simp at hs
    exact ⟨((Below.refl _ _).alloc (Nat.le_refl _) _).trans (hu.mono (by omega)), (row_made w _ _ _ _ rfl rfl).later hu (by omega), hs⟩
  have HF : Hid (∀ u : World, Calls Try.prog 12 #[.agg #[.int .i64 10, .int .i64 20, .int .i64 0], .int .i64 8] u fun e w' => e = .returned (.tuple #[.int .i64 4, .nilIface]) ∧ Below u.heap.size u w') := fun u => by
    have := hN 10 20 0 8 u
    rw [ms_fact.1, ms_fact.2, errV_0] at this
    exact this
  obtain ⟨W0, HW0⟩ : ∃ W0, Hid (w.alloc (.cells #[.int .i64 s, .int .i64 r, .int .i64 h] 35) = W0) := ⟨_, rfl⟩
  rw [HW0.out] at HKp
  have K0 : Hid (Below (w.heap.size + 1) W0 W0) := Below.refl _ _
  obtain ⟨B0, R0, S0⟩ := HKp.out _ K0.out
  by_cases he : mnxE s r h q = 0
  · obtain ⟨h0, q1, q2⟩ := mnxE_0.1 he
    obtain ⟨s1, s2, r1, r2, h1, h2⟩ := metE_0.1 h0
    have hbd := next_bd (cap := s) (came := r) (wait := h) (rate := q) s1
    have hst : r = s → h = 0 → q ≤ s → nextM s r h q = q := fun e1 e2 e3 => by rw [e1, e2]; exact next_stays q1 e3
    have H1 : Hid (∀ u : World, Calls Try.prog 12 #[.agg #[.int .i64 s, .int .i64 r, .int .i64 h], .int .i64 q] u fun e w' => e = .returned (.tuple #[.int .i64 (nextM s r h q), .nilIface]) ∧ Below u.heap.size u w') := fun u => by
      have := hN s r h q u
      rw [he, errV_0] at this
      exact this
    have H2 : Hid (∀ u : World, Calls Try.prog 12 #[.agg #[.int .i64 s, .int .i64 (r + m), .int .i64 h], .int .i64 q] u fun e w' => e = .returned (.tuple #[.int .i64 (okN (mnxE s (r + m) h q) (nextM s (r + m) h q)), errV (mnxE s (r + m) h q)]) ∧ Below u.heap.size u w') := fun u => hN s (r + m) h q u
    have H3 : Hid (∀ u : World, Calls Try.prog 12 #[.agg #[.int .i64 s, .int .i64 r, .int .i64 (h + m)], .int .i64 q] u fun e w' => e = .returned (.tuple #[.int .i64 (okN (mnxE s r (h + m) q) (nextM s r (h + m) q)), errV (mnxE s r (h + m) q)]) ∧ Below u.heap.size u w') := fun u => hN s r (h + m) q u
    have L2 : Hid (0 ≤ m → nextM s (r + m) h q ≤ nextM s r h q) := fun hm => next_less s1 q1 (by omega)
    have L3 : Hid (0 ≤ m → nextM s r (h + m) q ≤ nextM s r h q) := fun hm => next_less s1 q1 (by omega)
    generalize nextM s r h q = n at *
    generalize nextM s (r + m) h q = n2 at *
    generalize nextM s r (h + m) q = n3 at *
    generalize mnxE s (r + m) h q = k2 at *
    generalize mnxE s r (h + m) q = k3 at *
    have g1 : ¬ n < 1 := by omega
    have g2 : ¬ s < n := by omega
    have HB : Hid (1 ≤ s ∧ s ≤ 1000 ∧ 0 ≤ r ∧ r ≤ 10000 ∧ 0 ≤ h ∧ h ≤ 10000) := ⟨s1, s2, r1, r2, h1, h2⟩
    have hcase : (r ≠ s) ∨ (r = s ∧ h ≠ 0) ∨ (r = s ∧ h = 0 ∧ n = q) ∨ (r = s ∧ h = 0 ∧ n ≠ q ∧ ¬ q ≤ s) := by
      by_cases e1 : r = s
      · by_cases e2 : h = 0
        · by_cases e3 : n = q
          · exact .inr (.inr (.inl ⟨e1, e2, e3⟩))
          · exact .inr (.inr (.inr ⟨e1, e2, e3, fun e4 => e3 (hst e1 e2 e4)⟩))
        · exact .inr (.inl ⟨e1, e2⟩)
      · exact .inl e1
    clear hN he h0 q1 q2 s1 s2 r1 r2 h1 h2 hbd hst
    go_enter Try.func4, Try.ntmps4
    go_upto_region 1 with fail
    rw [HW0.out]
    go_wp2_with fail
    refine (HF.out _).mono ?_
    rintro e w1 ⟨rfl, hw1⟩
    have K1 : Hid (Below (w.heap.size + 1) W0 w1) := Bel.call K0.out S0 hw1
    clear hw1 B0 R0
    obtain ⟨B1, R1, S1⟩ := HKp.out _ K1.out
    obtain ⟨d0, d1, d2, z0, z1, z2, hgz⟩ := R1.three
    go_wp2_with fail
    refine (H1.out _).mono ?_
    rintro e w2 ⟨rfl, hw2⟩
    have K2 : Hid (Below (w.heap.size + 1) W0 w2) := Bel.call K1.out S0 hw2
    clear hw2 d0 d1 d2 z0 z1 z2 hgz R1 B1
    obtain ⟨B2, R2, S2⟩ := HKp.out _ K2.out
    obtain ⟨d0, d1, d2, z0, z1, z2, hgz⟩ := R2.three
    go_upto_region 9 with fail
    go_cut [63] (fun s63 wc => s63 = .bool false ∧ Hid (wc = w2))
    case first =>
      as_aux_lemma =>
        clear H1 H2 H3 HF L2 L3
        rcases hcase with e1 | ⟨e1, e2⟩ | ⟨e1, e2, e3⟩ | ⟨e1, e2, e3, e4⟩
        · have t1 : (r == s) = false := beq_eq_false_iff_ne.2 e1
          go_wp2
          go_meet
          case rel => exact ⟨rfl, rfl⟩
        · have t1 : (r == s) = true := by simp [e1]
          have t2 : (h == 0) = false := beq_eq_false_iff_ne.2 e2
          clear e1
          go_wp2
          go_meet
          case rel => exact ⟨rfl, rfl⟩
        · have t1 : (r == s) = true := by simp [e1]
          have t2 : (h == 0) = true := by simp [e2]
          have t3 : (n != q) = false := by simp [e3]
          clear e1 e2 e3
          go_wp2
          go_meet
          case rel => exact ⟨rfl, rfl⟩
        · have t1 : (r == s) = true := by simp [e1]
          have t2 : (h == 0) = true := by simp [e2]
          have t3 : (n != q) = true := by simp [e3]
          have t4 : decide (q ≤ s) = false := decide_eq_false (by omega)
          clear e1 e2 e3
          go_wp2
          go_meet
          case rel => exact ⟨by first | rfl | rw [t4] | rw [decide_eq_false (show ¬ q ≤ s by omega)], rfl⟩
    case rest =>
      as_aux_lemma =>
        obtain ⟨rfl, hw0⟩ := hcut
        rw [hw0.out]
        clear hw0 hcase
        by_cases hmm : m < 0 ∨ 10000 < m
        · have hor : m < 0 ∨ (¬ m < 0 ∧ 10000 < m) := by omega
          clear hmm
          rcases hor with c1 | ⟨c1, c2⟩
          all_goals
            go_wp2
            go_ret
            exact ⟨Ns.ret_bool rfl, B2⟩
        · have c1 : ¬ m < 0 := by omega
          have c2 : ¬ 10000 < m := by omega
          obtain ⟨b1, b2, b3, b4, b5, b6⟩ := HB.out
          have w1' : IntKind.i64.wrap (r + m) = r + m := by rw [IntKind.wrap_i64]; omega
          have w2' : IntKind.i64.wrap (h + m) = h + m := by rw [IntKind.wrap_i64]; omega
          have l2 := L2.out (by omega)
          have l3 := L3.out (by omega)
          clear hmm b1 b2 b3 b4 b5 b6 HB L2 L3
          have K3 : ∀ o, Hid (Below (w.heap.size + 1) W0 (w2.alloc o)) := fun o => K2.out.alloc S2 o
          go_wp2_with fail
          refine (H2.out _).mono ?_
          rintro e w3 ⟨rfl, hw3⟩
          have R11 : Hid (RowAt w3 w2.heap.size 35 [.int .i64 s, .int .i64 (r + m), .int .i64 h]) := (row_made w2 _ _ _ _ rfl rfl).later hw3 (by simp)
          have K4 : Hid (Below (w.heap.size + 1) W0 w3) := Bel.call (K3 _).out S0 hw3
          clear hw3 d0 d1 d2 z0 z1 z2 hgz
          obtain ⟨g, hg⟩ : ∃ g, Hid (w2.heap.size = g) := ⟨_, rfl⟩
          rw [hg.out] at R11
          have Sg : w.heap.size + 1 ≤ g := by have := hg.out; omega
          have Ng : ¬ g = w.heap.size := by omega
          go_upto_region 16 with fail
          rw [hg.out]
          obtain ⟨B4, R4, S4⟩ := HKp.out _ K4.out
          obtain ⟨d0, d1, d2, z0, z1, z2, hgz⟩ := R4.three
          obtain ⟨f0, f1, f2, y0, y1, y2, hgy⟩ := R11.out.three
          have R12 : Hid (RowAt ((((w3.setCell ⟨g, 0, none⟩ (.int .i64 s)).setCell ⟨g, 1, none⟩ (.int .i64 r)).setCell ⟨g, 2, none⟩ (.int .i64 h)).setCell ⟨g, 2, none⟩ (.int .i64 (h + m))) g 35 [.int .i64 s, .int .i64 r, .int .i64 (h + m)]) := (R11.out.set3 _ _ _).set 2 _
          have K5 : Hid (Below (w.heap.size + 1) W0 ((((w3.setCell ⟨g, 0, none⟩ (.int .i64 s)).setCell ⟨g, 1, none⟩ (.int .i64 r)).setCell ⟨g, 2, none⟩ (.int .i64 h)).setCell ⟨g, 2, none⟩ (.int .i64 (h + m)))) := (((K4.out.setCell Sg _).setCell Sg _).setCell Sg _).setCell Sg _
          go_upto_region 18 with fail
          clear d0 d1 d2 z0 z1 z2 hgz f0 f1 f2 y0 y1 y2 hgy hg
          generalize ((((w3.setCell ⟨g, 0, none⟩ (.int .i64 s)).setCell ⟨g, 1, none⟩ (.int .i64 r)).setCell ⟨g, 2, none⟩ (.int .i64 h)).setCell ⟨g, 2, none⟩ (.int .i64 (h + m))) = w4 at *
          obtain ⟨f0, f1, f2, y0, y1, y2, hgy⟩ := R12.out.three
          go_wp2_with fail
          refine (H3.out _).mono ?_
          rintro e w5 ⟨rfl, hw5⟩
          have K6 : Hid (Below (w.heap.size + 1) W0 w5) := Bel.call K5.out S0 hw5
          have B6 : Hid (Below w.heap.size w w5) := (HKp.out _ K6.out).1
          clear hw5 f0 f1 f2 y0 y1 y2 hgy
          by_cases x2 : k2 = 0
          · subst x2
            rw [errV_0, show okN 0 n2 = n2 from if_pos rfl]
            by_cases x3 : k3 = 0
            · subst x3
              rw [errV_0, show okN 0 n3 = n3 from if_pos rfl]
              go_wp2
              go_ret
              exact ⟨Ns.ret_bool rfl, B6.out⟩
            · rw [errV_ne x3]
              generalize okN k3 n3 = n4 at *
              go_wp2
              go_ret
              exact ⟨Ns.ret_bool rfl, B6.out⟩
          · rw [errV_ne x2]
            generalize okN k2 n2 = n5 at *
            by_cases x3 : k3 = 0
            · subst x3
              rw [errV_0, show okN 0 n3 = n3 from if_pos rfl]
              go_wp2
              go_ret
              exact ⟨Ns.ret_bool rfl, B6.out⟩
            · rw [errV_ne x3]
              generalize okN k3 n3 = n4 at *
              go_wp2
              go_ret
              exact ⟨Ns.ret_bool rfl, B6.out⟩
  · have H1 : Hid (∀ u : World, Calls Try.prog 12 #[.agg #[.int .i64 s, .int .i64 r, .int .i64 h], .int .i64 q] u fun e w' => e = .returned (.tuple #[.int .i64 0, .iface 63 (.int .i64 (mnxE s r h q))]) ∧ Below u.heap.size u w') := fun u => by
      have := hN s r h q u
      rw [okN, if_neg he, errV_ne he] at this
      exact this
    generalize mnxE s r h q = er at *
    clear hN
    go_enter Try.func4, Try.ntmps4
    go_upto_region 1 with fail
    rw [HW0.out]
    go_wp2_with fail
    refine (HF.out _).mono ?_
    rintro e w1 ⟨rfl, hw1⟩
    have K1 : Hid (Below (w.heap.size + 1) W0 w1) := Bel.call K0.out S0 hw1
    clear hw1 B0 R0
    obtain ⟨B1, R1, S1⟩ := HKp.out _ K1.out
    obtain ⟨d0, d1, d2, z0, z1, z2, hgz⟩ := R1.three
    go_wp2_with fail
    refine (H1.out _).mono ?_
    rintro e w2 ⟨rfl, hw2⟩
    have B2 : Hid (Below w.heap.size w w2) := Bel.call B1 (Nat.le_refl _) hw2
    clear hw2
    go_wp2
    go_ret
    exact ⟨Ns.ret_bool rfl, B2.out⟩
end Ev
end Go.Proofs.Ytgacckmgbalggai
