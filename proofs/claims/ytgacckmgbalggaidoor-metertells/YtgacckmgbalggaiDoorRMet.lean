/- The document's meter (package fairref2): its fault, the next rate. -/
import Derived.Test.YtgacckmgbalggaiDoorPlains
namespace Go.Proofs.YtgacckmgbalggaiDoor
namespace Ev
open Go.RowKit Fr Ns Ld Fl
set_option linter.unusedSimpArgs false
set_option linter.unusedVariables false

set_option maxRecDepth 100000 in
set_option maxHeartbeats 2000000 in
theorem RMeter_any (s r h : Int) (w : World) :
    Calls Tryd.prog 4 #[.agg #[.int .i64 s, .int .i64 r, .int .i64 h]] w fun e w' => e = .returned (.int .i64 (metE s r h)) ∧ Below w.heap.size w w' := by
  have hor : (s < 1 ∨ (¬ s < 1 ∧ 1000 < s) ∨ (¬ s < 1 ∧ ¬ 1000 < s ∧ r < 0) ∨ (¬ s < 1 ∧ ¬ 1000 < s ∧ ¬ r < 0 ∧ 10000 < r) ∨ (¬ s < 1 ∧ ¬ 1000 < s ∧ ¬ r < 0 ∧ ¬ 10000 < r ∧ h < 0) ∨ (¬ s < 1 ∧ ¬ 1000 < s ∧ ¬ r < 0 ∧ ¬ 10000 < r ∧ ¬ h < 0 ∧ 10000 < h)) ∧ Hid (metE s r h = 1) ∨ (¬ s < 1 ∧ ¬ 1000 < s ∧ ¬ r < 0 ∧ ¬ 10000 < r ∧ ¬ h < 0 ∧ ¬ 10000 < h) ∧ Hid (metE s r h = 0) := by
    by_cases h0 : metE s r h = 0
    · have := metE_0.1 h0
      exact .inr ⟨by omega, h0⟩
    · left
      have h1 : metE s r h = 1 := by unfold metE at h0 ⊢; split <;> simp_all
      unfold metE at h0
      split at h0
      · exact ⟨by omega, h1⟩
      · exact absurd rfl h0
  rcases hor with ⟨h1 | ⟨h1, h2⟩ | ⟨h1, h2, h3⟩ | ⟨h1, h2, h3, h4⟩ | ⟨h1, h2, h3, h4, h5⟩ | ⟨h1, h2, h3, h4, h5, h6⟩, HE⟩ | ⟨⟨h1, h2, h3, h4, h5, h6⟩, HE⟩
  all_goals
    go_enter Tryd.func4, Tryd.ntmps4
    go_wp2
    go_ret
    exact ⟨by rw [HE.out]; rfl, (Below.refl _ _).alloc (Nat.le_refl _) _⟩

set_option maxRecDepth 100000 in
set_option maxHeartbeats 4000000 in
theorem RNext_any (s r h q : Int) (w : World) (h0 : metE s r h = 0) (q0 : 1 ≤ q) (q1 : q ≤ 1000) :
    Calls Tryd.prog 7 #[.agg #[.int .i64 s, .int .i64 r, .int .i64 h], .int .i64 q] w fun e w' => e = .returned (.int .i64 (nextM s r h q)) ∧ Below w.heap.size w w' := by
  obtain ⟨s0, s1, r0, r1, h1, h2⟩ := metE_0.1 h0
  have HR : Hid (nextM s r h q = if s < q + q * (2 * (s - r) - h) / (4 * s) then (if s < 1 then 1 else s) else if q + q * (2 * (s - r) - h) / (4 * s) < 1 then 1 else q + q * (2 * (s - r) - h) / (4 * s)) := rfl
  generalize nextM s r h q = nx at *
  have hq := quo_down (n := q * (2 * (s - r) - h)) (b := 4 * s) (by omega)
  have x1 : IntKind.i64.wrap (s - r) = s - r := by rw [IntKind.wrap_i64]; omega
  have x2 : IntKind.i64.wrap (2 * (s - r)) = 2 * (s - r) := by rw [IntKind.wrap_i64]; omega
  have x3 : IntKind.i64.wrap (2 * (s - r) - h) = 2 * (s - r) - h := by rw [IntKind.wrap_i64]; omega
  have x5 : IntKind.i64.wrap (4 * s) = 4 * s := by rw [IntKind.wrap_i64]; omega
  have b1 : -30000 ≤ 2 * (s - r) - h := by omega
  have b2 : 2 * (s - r) - h ≤ 30000 := by omega
  have b3 : q * (2 * (s - r) - h) ≤ 1000 * 30000 := by
    have e1 : q * (2 * (s - r) - h) ≤ q * 30000 := Int.mul_le_mul_of_nonneg_left b2 (by omega)
    omega
  have b4 : -(1000 * 30000) ≤ q * (2 * (s - r) - h) := by
    have e1 : q * (-30000) ≤ q * (2 * (s - r) - h) := Int.mul_le_mul_of_nonneg_left b1 (by omega)
    omega
  obtain ⟨N, hN⟩ : ∃ N, Hid (q * (2 * (s - r) - h) = N) := ⟨_, rfl⟩
  rw [hN.out] at hq b3 b4 HR
  have x4 : IntKind.i64.wrap (q * (2 * (s - r) - h)) = N := by rw [IntKind.wrap_i64, hN.out]; omega
  have c4 : (4 * s == 0) = false := beq_eq_false_iff_ne.2 (by omega)
  have d1 : -30000000 ≤ N / (4 * s) ∧ N / (4 * s) ≤ 30000000 := by
    have m1 := Int.mul_ediv_add_emod N (4 * s)
    have m2 := Int.emod_nonneg N (show 4 * s ≠ 0 by omega)
    have m3 := Int.emod_lt_of_pos N (show 0 < 4 * s by omega)
    constructor
    · exact (Int.le_ediv_iff_mul_le (show 0 < 4 * s by omega)).2 (by
        have : 30000000 * 1 ≤ 30000000 * (4 * s) := Int.mul_le_mul_of_nonneg_left (by omega) (by omega)
        rw [Int.neg_mul]; omega)
    · have := Int.ediv_le_ediv (show 0 < 4 * s by omega) b3
      have h3 : 1000 * 30000 / (4 * s) ≤ 1000 * 30000 := Int.ediv_le_self _ (by decide)
      omega
  have m1 := Int.mul_ediv_add_emod N (4 * s)
  have m2 := Int.emod_nonneg N (show 4 * s ≠ 0 by omega)
  have m3 := Int.emod_lt_of_pos N (show 0 < 4 * s by omega)
  generalize N % (4 * s) = M at *
  obtain ⟨T, hT⟩ : ∃ T, Hid (N.tdiv (4 * s) = T) := ⟨_, rfl⟩
  rw [hT.out] at hq
  obtain ⟨F, hF⟩ : ∃ F, Hid (N / (4 * s) = F) := ⟨_, rfl⟩
  rw [hF.out] at hq d1 HR m1
  have t1 : N.tdiv (4 * s) = T := hT.out
  have y1 : IntKind.i64.wrap T = T := by rw [IntKind.wrap_i64]; omega
  obtain ⟨TB, hTB⟩ : ∃ x, Hid (T * (4 * s) = x) := ⟨_, rfl⟩
  have hTB2 : -40000000 ≤ TB ∧ TB ≤ 40000000 := by
    rcases hq with ⟨_, e⟩ | ⟨_, e, _⟩ | ⟨_, _, e⟩
    · have : TB = 4 * s * F := by rw [← hTB.out, e, Int.mul_comm]
      omega
    · have : TB = N := by rw [← hTB.out]; exact e
      omega
    · have : TB = 4 * s * F + 4 * s := by rw [← hTB.out, show T = F + 1 by omega, Int.add_mul, Int.mul_comm F]; omega
      omega
  have y2 : IntKind.i64.wrap (T * (4 * s)) = TB := by rw [IntKind.wrap_i64, hTB.out]; omega
  rw [hTB.out] at hq
  have y3 : IntKind.i64.wrap (q + F) = q + F := by rw [IntKind.wrap_i64]; omega
  have z1 : ¬ s < 1 := by omega
  have hres : (s < q + F ∧ Hid (nx = s)) ∨ (¬ s < q + F ∧ q + F < 1 ∧ Hid (nx = 1)) ∨ (¬ s < q + F ∧ ¬ q + F < 1 ∧ Hid (nx = q + F)) := by
    by_cases c1 : s < q + F
    · exact .inl ⟨c1, by show _ = _; rw [HR.out, if_pos c1, if_neg z1]⟩
    · by_cases c2 : q + F < 1
      · exact .inr (.inl ⟨c1, c2, by show _ = _; rw [HR.out, if_neg c1, if_pos c2]⟩)
      · exact .inr (.inr ⟨c1, c2, by show _ = _; rw [HR.out, if_neg c1, if_neg c2]⟩)
  have hways : (¬ N < 0 ∧ T = F) ∨ (N < 0 ∧ (TB != N) = false ∧ T = F) ∨ (N < 0 ∧ (TB != N) = true ∧ T - 1 = F) := by
    rcases hq with ⟨a1, a2⟩ | ⟨a1, a2, a3⟩ | ⟨a1, a2, a3⟩
    · exact .inl ⟨by omega, a2⟩
    · exact .inr (.inl ⟨a1, by simp [a2], a3⟩)
    · exact .inr (.inr ⟨a1, by simp [a2], a3⟩)
  have y4 : IntKind.i64.wrap (T - 1) = T - 1 := by rw [IntKind.wrap_i64]; omega
  clear HR hq d1 m1 m2 m3 b1 b2 b3 b4 hTB2 h0 s0 s1 r0 r1 h1 h2 q0 q1
  rcases hways with ⟨a1, rfl⟩ | ⟨a1, a2, rfl⟩ | ⟨a1, a2, rfl⟩ <;> rcases hres with ⟨c1, HX⟩ | ⟨c1, c2, HX⟩ | ⟨c1, c2, HX⟩
  all_goals
    go_enter Tryd.func7, Tryd.ntmps7
    go_wp2
    go_ret
    exact ⟨by rw [HX.out]; rfl, (Below.refl _ _).alloc (Nat.le_refl _) _⟩
end Ev
end Go.Proofs.YtgacckmgbalggaiDoor
