/- Package source's Lost does what is asked of it. -/
import Derived.Test.YtkpmjmgmgkdfnajDoorSoA
import Derived.Test.YtkpmjmgmgkdfnajDoorPlains
namespace Go.Proofs.YtkpmjmgmgkdfnajDoor
namespace Ev
open Go.RowKit Fr Ns Ld Fl
set_option linter.unusedSimpArgs false
set_option linter.unusedVariables false

theorem losE_mov (a b c d : Int) : losE a b c d = movE a b c d c := rfl
set_option maxRecDepth 100000 in
set_option maxHeartbeats 2000000 in
theorem slost_said : SLostSaid := by
  intro a b c d w
  have HKp : Hid (∀ u : World, Below ((w.alloc (.cells #[.int .i64 a, .int .i64 b, .int .i64 c, .int .i64 d] 43)).alloc (.cells #[.int .i64 0, .int .i64 0, .int .i64 0, .int .i64 0] 43)).heap.size ((w.alloc (.cells #[.int .i64 a, .int .i64 b, .int .i64 c, .int .i64 d] 43)).alloc (.cells #[.int .i64 0, .int .i64 0, .int .i64 0, .int .i64 0] 43)) u → Below w.heap.size w u ∧ RowAt u w.heap.size 43 [.int .i64 a, .int .i64 b, .int .i64 c, .int .i64 d] ∧ RowAt u (w.heap.size + 1) 43 [.int .i64 0, .int .i64 0, .int .i64 0, .int .i64 0] ∧ w.heap.size + 2 ≤ u.heap.size) := fun u hu => by
    have hs := hu.size
    simp at hs
    exact ⟨(((Below.refl _ _).alloc (Nat.le_refl _) _).alloc (by simp) _).trans (hu.mono (by simp; omega)), ((row_made w _ _ _ _ rfl rfl).alloc _).later hu (by simp; omega), (row_made (w.alloc (.cells #[.int .i64 a, .int .i64 b, .int .i64 c, .int .i64 d] 43)) _ _ _ _ (by simp) rfl).later hu (by simp), by omega⟩
  rw [losE_mov]
  have HM : Hid (∀ u : World, Calls Tryd.prog 33 #[.agg #[.int .i64 a, .int .i64 b, .int .i64 c, .int .i64 d], .int .i64 c] u fun e w' => e = .returned (errV (movE a b c d c)) ∧ Below u.heap.size u w') := fun u => smove_any a b c d c u
  by_cases hk : movE a b c d c = 0
  · have HK : Hid (∀ u : World, Calls Tryd.prog 33 #[.agg #[.int .i64 a, .int .i64 b, .int .i64 c, .int .i64 d], .int .i64 c] u fun e w' => e = .returned (.nilIface) ∧ Below u.heap.size u w') := fun u => by have := HM.out u; rw [hk, errV_0] at this; exact this
    have hb : 1 ≤ a ∧ a ≤ 1000 ∧ 0 ≤ b ∧ b ≤ 10000 ∧ 0 ≤ c ∧ c ≤ 10000 ∧ 0 ≤ d ∧ d ≤ 10000 := by
      unfold movE at hk
      split at hk
      · exact srcE_0.1 (by assumption)
      · exact absurd hk (by assumption)
    rw [hk]
    clear HM
    have q1 : IntKind.i64.wrap (b - 1) = b - 1 := by rw [IntKind.wrap_i64]; omega
    have q2 : IntKind.i64.wrap (c + 1) = c + 1 := by rw [IntKind.wrap_i64]; omega
    have q3 : a.tdiv 2 = a / 2 := Int.tdiv_eq_ediv_of_nonneg (by omega)
    have q4 : IntKind.i64.wrap (a / 2) = a / 2 := by rw [IntKind.wrap_i64]; omega
    rw [show lostW a = max (a / 2) 1 by unfold lostW; split <;> omega]
    clear hb
    show Calls _ _ _ _ fun e w' => e = .returned (.tuple #[.agg #[.int .i64 (max (a / 2) 1), .int .i64 (b - 1), .int .i64 (c + 1), .int .i64 d], .nilIface]) ∧ _
    clear hk
    go_enter Tryd.func26, Tryd.ntmps26
    go_wp2_with fail
    refine (HK.out _).mono ?_
    rintro e w1 ⟨rfl, hw1⟩
    obtain ⟨b1, R1, Z1, hsz⟩ := HKp.out _ hw1
    have B1 : Hid (Below w.heap.size w w1) := b1
    obtain ⟨d0, d1, d2, d3, f0, f1, f2, f3, g0⟩ := R1.four
    obtain ⟨y0, y1, y2, y3, k0, k1, k2, k3, g1⟩ := Z1.four
    clear b1 R1 Z1 hw1
    go_wp2
    refine bodyPost_ret (v := .tuple #[.agg #[.int .i64 (max (a / 2) 1), .int .i64 (b - 1), .int .i64 (c + 1), .int .i64 d], .nilIface]) (by simp [results, Tryd.results26, go_sem, *]) rfl ⟨rfl, ?_⟩
    exact (((((((B1.out.setCell (Nat.le_refl _) _).setCell (Nat.le_refl _) _).setCell (Nat.le_refl _) _).setCell (Nat.le_succ _) _).setCell (Nat.le_succ _) _).setCell (Nat.le_succ _) _).setCell (Nat.le_succ _) _)
  · have HK : Hid (∀ u : World, Calls Tryd.prog 33 #[.agg #[.int .i64 a, .int .i64 b, .int .i64 c, .int .i64 d], .int .i64 c] u fun e w' => e = .returned (.iface 54 (.int .i64 (movE a b c d c))) ∧ Below u.heap.size u w') := fun u => by have := HM.out u; rw [errV_ne hk] at this; exact this
    simp only [okN, if_neg hk]
    rw [errV_ne hk]
    clear HM
    generalize movE a b c d c = k at *
    show Calls _ _ _ _ fun e w' => e = .returned (.tuple #[.agg #[.int .i64 0, .int .i64 0, .int .i64 0, .int .i64 0], .iface 54 (.int .i64 k)]) ∧ _
    clear hk
    go_enter Tryd.func26, Tryd.ntmps26
    go_wp2_with fail
    refine (HK.out _).mono ?_
    rintro e w1 ⟨rfl, hw1⟩
    obtain ⟨b1, R1, Z1, hsz⟩ := HKp.out _ hw1
    have B1 : Hid (Below w.heap.size w w1) := b1
    obtain ⟨d0, d1, d2, d3, f0, f1, f2, f3, g0⟩ := R1.four
    obtain ⟨y0, y1, y2, y3, k0, k1, k2, k3, g1⟩ := Z1.four
    clear b1 R1 Z1 hw1
    go_wp2
    refine bodyPost_ret (v := .tuple #[.agg #[.int .i64 0, .int .i64 0, .int .i64 0, .int .i64 0], .iface 54 (.int .i64 k)]) (by simp [results, Tryd.results26, go_sem, *]) rfl ⟨rfl, ?_⟩
    exact ((((B1.out.setCell (Nat.le_succ _) _).setCell (Nat.le_succ _) _).setCell (Nat.le_succ _) _).setCell (Nat.le_succ _) _)
end Ev
end Go.Proofs.YtkpmjmgmgkdfnajDoor
