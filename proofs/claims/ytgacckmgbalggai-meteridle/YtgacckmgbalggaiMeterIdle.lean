/- The law MeterIdle returns true for every input, from what is asked of package meter's calls. -/
import Derived.Test.YtgacckmgbalggaiPlains
import Derived.Deep.DeepCutAuto
import Derived.Deep.RegionLaw
import Derived.Maps.AppendAt
namespace Go.Proofs.Ytgacckmgbalggai
namespace Ev
open Go.RowKit Fr Ns Ld Fl
set_option linter.unusedSimpArgs false
set_option linter.unusedVariables false

theorem ticks_zeros : ticksE (List.replicate 40 0) = 0 := by decide +kernel

set_option maxRecDepth 100000 in
set_option maxHeartbeats 4000000 in
theorem meterIdle_walk (hN : MtNextSaid) (hR : MtRunSaid) (s q : Int) (w : World) :
    Calls Try.prog 5 #[.int .i64 s, .int .i64 q] w fun e w' => e = .returned (.bool true) ∧ Below w.heap.size w w' := by
  have R0 : Hid (RowAt (w.alloc (.cells #[.int .i64 s, .int .i64 0, .int .i64 0] 35)) w.heap.size 35 [.int .i64 s, .int .i64 0, .int .i64 0]) := row_made w _ _ _ _ rfl rfl
  have B0 : Hid (Below w.heap.size w (w.alloc (.cells #[.int .i64 s, .int .i64 0, .int .i64 0] 35))) := (Below.refl _ _).alloc (Nat.le_refl _) _
  by_cases he : mnxE s 0 0 q = 0
  · obtain ⟨h0, q1, q2⟩ := mnxE_0.1 he
    obtain ⟨s1, s2, _⟩ := metE_0.1 h0
    have hre : mrnE s 0 0 q (List.replicate 40 0) = 0 := by rw [mrnE, if_pos he]; exact ticks_zeros
    have hn : nextM s 0 0 q = itM s q 1 := by rw [next_idle s1 q1]; rfl
    obtain ⟨r1, r2, r3⟩ := runM_idle s1 q1
    have hw1 : itM s q 1 = if s < q + q / 2 then s else q + q / 2 := rfl
    have H1 : Hid (∀ u : World, Calls Try.prog 12 #[.agg #[.int .i64 s, .int .i64 0, .int .i64 0], .int .i64 q] u fun e w' => e = .returned (.tuple #[.int .i64 (itM s q 1), .nilIface]) ∧ Below u.heap.size u w') := fun u => by
      have := hN s 0 0 q u
      rw [he, errV_0, hn] at this
      exact this
    have H2 : Hid (∀ (x : Value) (u : World), IntsAt (fun _ => True) u x (List.replicate 40 0) → Calls Try.prog 13 #[.agg #[.int .i64 s, .int .i64 0, .int .i64 0], .int .i64 q, x] u fun e w' => ∃ g off cap, e = .returned (.tuple #[.slice (some ⟨g, off, none⟩) 40 cap, .nilIface]) ∧ 40 ≤ cap ∧ w'.cell? ⟨g, off, none⟩ = some (.int .i64 (itM s q 1)) ∧ w'.cell? ⟨g, off + 39, none⟩ = some (.int .i64 (itM s q 40)) ∧ Below u.heap.size u w') := fun x u hx =>
      (hR _ s 0 0 q _ x u hx).mono fun e w' ⟨y, h1, h2, h3⟩ => by
        rw [hre] at h1 h2
        rw [show okL (0 : Int) (runM s 0 q (List.replicate 40 0)) = runM s 0 q (List.replicate 40 0) from if_pos rfl] at h2
        obtain ⟨ad, cap, rfl, hm, hc⟩ := h2
        rw [r1] at h1 hm hc
        rcases hc with h | ⟨g, off, rfl, hc, _⟩
        · rw [h] at r1; cases r1
        · have c0 := hc 0 (by decide)
          have c1 := hc 39 (by decide)
          rw [r2, Nat.add_zero] at c0
          rw [r3] at c1
          exact ⟨g, off, cap, h1, hm.1, c0, c1, h3⟩
    have hfin : (q < 2 ∧ 1 < s) ∨ (q < 2 ∧ ¬ 1 < s ∧ itM s q 40 = s) ∨ (¬ q < 2 ∧ itM s q 40 = s) := by
      by_cases a1 : q < 2
      · by_cases a2 : 1 < s
        · exact .inl ⟨a1, a2⟩
        · exact .inr (.inl ⟨a1, a2, idle_all s1 s2 (.inr ⟨q1, by omega⟩)⟩)
      · exact .inr (.inr ⟨a1, idle_all s1 s2 (.inl (by omega))⟩)
    have t1 : q.tdiv 2 = q / 2 := Int.tdiv_eq_ediv_of_nonneg (by omega)
    have x1 : IntKind.i64.wrap (q / 2) = q / 2 := by rw [IntKind.wrap_i64]; omega
    have x2 : IntKind.i64.wrap (q + q / 2) = q + q / 2 := by rw [IntKind.wrap_i64]; omega
    have hup : (s < q + q / 2 ∧ itM s q 1 = s) ∨ (¬ s < q + q / 2 ∧ itM s q 1 = q + q / 2) := by
      by_cases c : s < q + q / 2
      · exact .inl ⟨c, by rw [hw1, if_pos c]⟩
      · exact .inr ⟨c, by rw [hw1, if_neg c]⟩
    generalize itM s q 1 = n1 at *
    generalize itM s q 40 = n40 at *
    clear hN hR he h0 hre hn r1 r2 r3 hw1 q1 q2 s1 s2
    obtain ⟨i0, hi, hz0, hz1, hz2⟩ := info_parts infoInt
    obtain ⟨RC, hRC, hmk⟩ : ∃ RC : Array Value, Hid (RC.toList = (List.replicate 40 (0 : Int)).map (Value.int .i64)) ∧ ∀ u : World, (Instr.makeSlice 22 (.int .i64 40) (.int .i64 40)).run Try.prog u = .ok (.slice (some ⟨u.heap.size, 0, none⟩) 40 40) (u.alloc (.cells RC 3)) := by
      refine ⟨madeCells #[.int .i64 0] (40 * 1), (show (madeCells #[.int .i64 0] (40 * 1)).toList = (List.replicate 40 (0 : Int)).map (Value.int .i64) by first | rfl | kernel_rfl), fun u => ?_⟩
      have hr := run_make (P := Try.prog) u 22 3 i0 (.int .i64 0) Try.underlying22 hi hz0 .i64 .i64 40 40 (by omega) (Int.le_refl _) (by rw [hz2]; omega) (by omega)
      simp only [hz1] at hr
      exact hr
    have HIa : Hid (∀ u : World, IntsAt (fun _ => True) (u.alloc (.cells RC 3)) (.slice (some ⟨u.heap.size, 0, none⟩) 40 40) (List.replicate 40 0)) := fun u => by
      have hr : RowAt (u.alloc (.cells RC 3)) u.heap.size 3 ((List.replicate 40 (0 : Int)).map (Value.int .i64)) := row_made u RC _ _ _ rfl hRC.out
      have ho := hr.owns (base := 0) (n := 40) (size := 1) (Nat.zero_le _) (by simp) (by unfold maxLen; omega)
      exact ints_of_owns (l := List.replicate 40 0) (by simp) (by simpa using ho) (fun g hg => trivial)
    go_enter Try.func5, Try.ntmps5
    obtain ⟨d0, d1, d2, z0, z1, z2, hgz⟩ := R0.out.three
    go_wp2_with fail
    refine (H1.out _).mono ?_
    rintro e w1 ⟨rfl, hw1⟩
    have B1 : Hid (Below w.heap.size w w1) := Bel.call B0.out (Nat.le_refl _) hw1
    have R1 : Hid (RowAt w1 w.heap.size 35 [.int .i64 s, .int .i64 0, .int .i64 0]) := R0.out.later hw1 R0.out.lt
    clear hw1 d0 d1 d2 z0 z1 z2 hgz R0 B0
    obtain ⟨d0, d1, d2, z0, z1, z2, hgz⟩ := R1.out.three
    go_upto_region 5 with fail
    have HIb : Hid (IntsAt (fun _ => True) ((w1.alloc (.cells RC 3)).drew) (.slice (some ⟨w1.heap.size, 0, none⟩) 40 40) (List.replicate 40 0)) := HIa.out w1
    have BF : Hid (Below w.heap.size w ((w1.alloc (.cells RC 3)).drew)) := (Bel.more B1.out (Nat.le_refl _) _).drew
    have hsz : w.heap.size < w1.heap.size := R1.out.lt
    go_region_law (first | (go_simp; refine (H2.out _ _ HIb.out).mono ?_; rintro e w2 ⟨g, off, cap, rfl, hcap, k0, k1, hw2⟩))
    all_goals
      have B2 : Hid (Below w.heap.size w w2) := Bel.call BF.out (Nat.le_refl _) hw2
      clear hw2 d0 d1 d2 z0 z1 z2 hgz
      have q1 : (n1 == n1) = true := by simp
      have q2 : (n40 == n40) = true := by simp
      rcases hup with ⟨c1, rfl⟩ | ⟨c1, rfl⟩ <;> rcases hfin with ⟨a1, a2⟩ | ⟨a1, a2, rfl⟩ | ⟨a1, rfl⟩
      all_goals
        go_wp2
        go_ret
        exact ⟨Ns.ret_bool rfl, B2.out⟩
  · have hor : s < 1 ∨ (¬ s < 1 ∧ 1000 < s) ∨ (¬ s < 1 ∧ ¬ 1000 < s ∧ q < 1) ∨ (¬ s < 1 ∧ ¬ 1000 < s ∧ ¬ q < 1 ∧ 1000 < q) := by
      by_cases hb : 1 ≤ s ∧ s ≤ 1000 ∧ 1 ≤ q ∧ q ≤ 1000
      · exact absurd (mnxE_0.2 ⟨metE_0.2 (by omega), by omega, by omega⟩) he
      · omega
    have H1 : Hid (∀ u : World, Calls Try.prog 12 #[.agg #[.int .i64 s, .int .i64 0, .int .i64 0], .int .i64 q] u fun e w' => e = .returned (.tuple #[.int .i64 0, .iface 63 (.int .i64 (mnxE s 0 0 q))]) ∧ Below u.heap.size u w') := fun u => by
      have := hN s 0 0 q u
      rw [okN, if_neg he, errV_ne he] at this
      exact this
    generalize mnxE s 0 0 q = er at *
    clear hN hR he
    rcases hor with c1 | ⟨c1, c2⟩ | ⟨c1, c2, c3⟩ | ⟨c1, c2, c3, c4⟩
    all_goals
      go_enter Try.func5, Try.ntmps5
      obtain ⟨d0, d1, d2, z0, z1, z2, hgz⟩ := R0.out.three
      go_wp2_with fail
      refine (H1.out _).mono ?_
      rintro e w1 ⟨rfl, hw1⟩
      have B1 : Hid (Below w.heap.size w w1) := Bel.call B0.out (Nat.le_refl _) hw1
      clear hw1
      go_wp2
      go_ret
      exact ⟨Ns.ret_bool rfl, B1.out⟩
end Ev
end Go.Proofs.Ytgacckmgbalggai
