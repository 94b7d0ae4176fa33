/- Package source's Send does what is asked of it. -/
import Derived.Test.YtkpmjmgmgkdfnajDoorSoA
import Derived.Test.YtkpmjmgmgkdfnajDoorPlains
namespace Go.Proofs.YtkpmjmgmgkdfnajDoor
namespace Ev
open Go.RowKit Fr Ns Ld Fl
set_option linter.unusedSimpArgs false
set_option linter.unusedVariables false

theorem goN_min {a b c : Int} (h : 0 ≤ c) : goN a b c = min c (max (a - b) 0) := by
  unfold goN; split
  · split <;> omega
  · omega
set_option maxRecDepth 100000 in
set_option maxHeartbeats 1000000 in
theorem ssend_said : SSendSaid := by
  intro a b c d w
  have HKp : Hid (∀ u : World, Below ((w.alloc (.cells #[.int .i64 a, .int .i64 b, .int .i64 c, .int .i64 d] 43)).alloc (.cells #[.int .i64 0, .int .i64 0, .int .i64 0, .int .i64 0] 43)).heap.size ((w.alloc (.cells #[.int .i64 a, .int .i64 b, .int .i64 c, .int .i64 d] 43)).alloc (.cells #[.int .i64 0, .int .i64 0, .int .i64 0, .int .i64 0] 43)) u → Below w.heap.size w u ∧ RowAt u w.heap.size 43 [.int .i64 a, .int .i64 b, .int .i64 c, .int .i64 d] ∧ RowAt u (w.heap.size + 1) 43 [.int .i64 0, .int .i64 0, .int .i64 0, .int .i64 0] ∧ w.heap.size + 2 ≤ u.heap.size) := fun u hu => by
    have hs := hu.size
    simp at hs
    exact ⟨(((Below.refl _ _).alloc (Nat.le_refl _) _).alloc (by simp) _).trans (hu.mono (by simp; omega)), ((row_made w _ _ _ _ rfl rfl).alloc _).later hu (by simp; omega), (row_made (w.alloc (.cells #[.int .i64 a, .int .i64 b, .int .i64 c, .int .i64 d] 43)) _ _ _ _ (by simp) rfl).later hu (by simp), by omega⟩
  by_cases hk : srcE a b c d = 0
  · have HK : Hid (∀ u : World, Calls Tryd.prog 34 #[.agg #[.int .i64 a, .int .i64 b, .int .i64 c, .int .i64 d]] u fun e w' => e = .returned (.nilIface) ∧ Below u.heap.size u w') := fun u => by have := scheck_said a b c d u; rw [hk, errV_0] at this; exact this
    have hb := srcE_0.1 hk
    have q1 : IntKind.i64.wrap (a - b) = a - b := by rw [IntKind.wrap_i64]; omega
    have q2 : IntKind.i64.wrap (c - min c (max (a - b) 0)) = c - min c (max (a - b) 0) := by rw [IntKind.wrap_i64]; omega
    have q3 : IntKind.i64.wrap (b + min c (max (a - b) 0)) = b + min c (max (a - b) 0) := by rw [IntKind.wrap_i64]; omega
    rw [hk, goN_min (by omega)]
    clear hb
    show Calls _ _ _ _ fun e w' => e = .returned (.tuple #[.agg #[.int .i64 a, .int .i64 (b + min c (max (a - b) 0)), .int .i64 (c - min c (max (a - b) 0)), .int .i64 d], .int .i64 (min c (max (a - b) 0)), .nilIface]) ∧ _
    clear hk
    go_enter Tryd.func30, Tryd.ntmps30
    go_wp2_with fail
    refine (HK.out _).mono ?_
    rintro e w1 ⟨rfl, hw1⟩
    obtain ⟨b1, R1, Z1, hsz⟩ := HKp.out _ hw1
    have B1 : Hid (Below w.heap.size w w1) := b1
    obtain ⟨d0, d1, d2, d3, f0, f1, f2, f3, g0⟩ := R1.four
    obtain ⟨y0, y1, y2, y3, k0, k1, k2, k3, g1⟩ := Z1.four
    clear b1 R1 Z1 hw1
    go_wp2
    refine bodyPost_ret (v := .tuple #[.agg #[.int .i64 a, .int .i64 (b + min c (max (a - b) 0)), .int .i64 (c - min c (max (a - b) 0)), .int .i64 d], .int .i64 (min c (max (a - b) 0)), .nilIface]) (by simp [results, Tryd.results30, go_sem, *]) rfl ⟨rfl, ?_⟩
    exact ((((((B1.out.setCell (Nat.le_refl _) _).setCell (Nat.le_refl _) _).setCell (Nat.le_succ _) _).setCell (Nat.le_succ _) _).setCell (Nat.le_succ _) _).setCell (Nat.le_succ _) _)
  · have hk1 := srcE_1 hk
    have HK : Hid (∀ u : World, Calls Tryd.prog 34 #[.agg #[.int .i64 a, .int .i64 b, .int .i64 c, .int .i64 d]] u fun e w' => e = .returned (.iface 54 (.int .i64 1)) ∧ Below u.heap.size u w') := fun u => by have := scheck_said a b c d u; rw [hk1, errV_ne (by decide)] at this; exact this
    rw [hk1]
    clear hk1
    show Calls _ _ _ _ fun e w' => e = .returned (.tuple #[.agg #[.int .i64 0, .int .i64 0, .int .i64 0, .int .i64 0], .int .i64 0, .iface 54 (.int .i64 1)]) ∧ _
    clear hk
    go_enter Tryd.func30, Tryd.ntmps30
    go_wp2_with fail
    refine (HK.out _).mono ?_
    rintro e w1 ⟨rfl, hw1⟩
    obtain ⟨b1, R1, Z1, hsz⟩ := HKp.out _ hw1
    have B1 : Hid (Below w.heap.size w w1) := b1
    obtain ⟨d0, d1, d2, d3, f0, f1, f2, f3, g0⟩ := R1.four
    obtain ⟨y0, y1, y2, y3, k0, k1, k2, k3, g1⟩ := Z1.four
    clear b1 R1 Z1 hw1
    go_wp2
    refine bodyPost_ret (v := .tuple #[.agg #[.int .i64 0, .int .i64 0, .int .i64 0, .int .i64 0], .int .i64 0, .iface 54 (.int .i64 1)]) (by simp [results, Tryd.results30, go_sem, *]) rfl ⟨rfl, ?_⟩
    exact ((((B1.out.setCell (Nat.le_succ _) _).setCell (Nat.le_succ _) _).setCell (Nat.le_succ _) _).setCell (Nat.le_succ _) _)
end Ev
end Go.Proofs.YtkpmjmgmgkdfnajDoor
