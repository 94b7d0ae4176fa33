/- Package bucket's Tick does what is asked of it. -/
import Derived.Test.YtbgmdolbeecpiafDoorBkA
import Derived.Test.YtbgmdolbeecpiafDoorPlains
namespace Go.Proofs.YtbgmdolbeecpiafDoor
namespace Ev
open Go.RowKit Fr Ns Ld Fl
set_option linter.unusedSimpArgs false
set_option linter.unusedVariables false

set_option maxRecDepth 100000 in
set_option maxHeartbeats 1000000 in
theorem btick_said : BTickSaid := by
  intro s r h w
  have HK : Hid (∀ u : World, Calls Tryd.prog 5 #[.agg #[.int .i64 s, .int .i64 r, .int .i64 h]] u fun e w' => e = .returned (errV (bktE s r h)) ∧ Below u.heap.size u w') := fun u => bcheck_said s r h u
  have HKp : Hid (∀ u : World, Below ((w.alloc (.cells #[.int .i64 s, .int .i64 r, .int .i64 h] 23)).alloc (.cells #[.int .i64 0, .int .i64 0, .int .i64 0] 23)).heap.size ((w.alloc (.cells #[.int .i64 s, .int .i64 r, .int .i64 h] 23)).alloc (.cells #[.int .i64 0, .int .i64 0, .int .i64 0] 23)) u → Below w.heap.size w u ∧ RowAt u w.heap.size 23 [.int .i64 s, .int .i64 r, .int .i64 h] ∧ RowAt u (w.heap.size + 1) 23 [.int .i64 0, .int .i64 0, .int .i64 0] ∧ w.heap.size + 2 ≤ u.heap.size) := fun u hu => by
    have hs := hu.size
    simp at hs
    exact ⟨(((Below.refl _ _).alloc (Nat.le_refl _) _).alloc (by simp) _).trans (hu.mono (by simp; omega)), ((row_made w _ _ _ _ rfl rfl).alloc _).later hu (by simp; omega), (row_made (w.alloc (.cells #[.int .i64 s, .int .i64 r, .int .i64 h] 23)) _ _ _ _ (by simp) rfl).later hu (by simp), by omega⟩
  by_cases hk : bktE s r h = 0
  · have HT : Hid (∀ u : World, Calls Tryd.prog 8 #[.agg #[.int .i64 s, .int .i64 r, .int .i64 h]] u fun e w' => e = .returned (.agg #[.int .i64 s, .int .i64 r, .int .i64 (fillH s r h)]) ∧ Below u.heap.size u w') := fun u => bticked_any s r h u hk
    rw [hk] at HK ⊢
    show Calls _ _ _ _ fun e w' => e = .returned (.tuple #[.agg #[.int .i64 s, .int .i64 r, .int .i64 (fillH s r h)], .nilIface]) ∧ _
    rw [errV_0] at HK
    clear hk
    generalize fillH s r h = f at *
    go_enter Tryd.func4, Tryd.ntmps4
    go_wp2_with fail
    refine (HK.out _).mono ?_
    rintro e w1 ⟨rfl, hw1⟩
    obtain ⟨b1, R1, Z1, hsz⟩ := HKp.out _ hw1
    have B1 : Hid (Below w.heap.size w w1) := b1
    have HR1 : Hid (RowAt w1 w.heap.size 23 [.int .i64 s, .int .i64 r, .int .i64 h]) := R1
    have HZ1 : Hid (RowAt w1 (w.heap.size + 1) 23 [.int .i64 0, .int .i64 0, .int .i64 0]) := Z1
    obtain ⟨d0, d1, d2, f0, f1, f2, g0⟩ := R1.three
    obtain ⟨y0, y1, y2, k0, k1, k2, g1⟩ := Z1.three
    clear b1 R1 Z1 hw1
    go_wp2_with fail
    refine (HT.out _).mono ?_
    rintro e w2 ⟨rfl, hw2⟩
    have B2 : Hid (Below w.heap.size w w2) := Bel.call B1.out (Nat.le_refl _) hw2
    have Z2 := HZ1.out.later hw2 g1
    clear y0 y1 y2 k0 k1 k2 g1 d0 d1 d2 f0 f1 f2 g0
    obtain ⟨y0, y1, y2, k0, k1, k2, g1⟩ := Z2.three
    clear hw2 Z2
    go_wp2
    refine bodyPost_ret (v := .tuple #[.agg #[.int .i64 s, .int .i64 r, .int .i64 f], .nilIface]) (by simp [results, Tryd.results4, go_sem, *]) rfl ⟨rfl, ?_⟩
    exact ((B2.out.setCell (Nat.le_succ _) _).setCell (Nat.le_succ _) _).setCell (Nat.le_succ _) _
  · have hk1 : bktE s r h = 1 := by unfold bktE at hk ⊢; split <;> simp_all
    rw [hk1] at HK ⊢
    show Calls _ _ _ _ fun e w' => e = .returned (.tuple #[.agg #[.int .i64 0, .int .i64 0, .int .i64 0], .iface 34 (.int .i64 1)]) ∧ _
    rw [errV_ne (by decide)] at HK
    clear hk hk1
    go_enter Tryd.func4, Tryd.ntmps4
    go_wp2_with fail
    refine (HK.out _).mono ?_
    rintro e w1 ⟨rfl, hw1⟩
    obtain ⟨b1, R1, Z1, hsz⟩ := HKp.out _ hw1
    have B1 : Hid (Below w.heap.size w w1) := b1
    have HR1 : Hid (RowAt w1 w.heap.size 23 [.int .i64 s, .int .i64 r, .int .i64 h]) := R1
    have HZ1 : Hid (RowAt w1 (w.heap.size + 1) 23 [.int .i64 0, .int .i64 0, .int .i64 0]) := Z1
    obtain ⟨d0, d1, d2, f0, f1, f2, g0⟩ := R1.three
    obtain ⟨y0, y1, y2, k0, k1, k2, g1⟩ := Z1.three
    clear b1 R1 Z1 hw1
    go_wp2
    refine bodyPost_ret (v := .tuple #[.agg #[.int .i64 0, .int .i64 0, .int .i64 0], .iface 34 (.int .i64 1)]) (by simp [results, Tryd.results4, go_sem, *]) rfl ⟨rfl, ?_⟩
    exact ((B1.out.setCell (Nat.le_succ _) _).setCell (Nat.le_succ _) _).setCell (Nat.le_succ _) _
end Ev
end Go.Proofs.YtbgmdolbeecpiafDoor
