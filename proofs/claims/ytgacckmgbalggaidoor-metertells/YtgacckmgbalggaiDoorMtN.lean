/- Package meter's Next does what is asked of it. -/
import Derived.Test.YtgacckmgbalggaiDoorMtA
import Derived.Test.YtgacckmgbalggaiDoorPlains
namespace Go.Proofs.YtgacckmgbalggaiDoor
namespace Ev
open Go.RowKit Fr Ns Ld Fl
set_option linter.unusedSimpArgs false
set_option linter.unusedVariables false

set_option maxHeartbeats 1000000 in
theorem mtnext_said : MtNextSaid := by
  intro s r h q w
  have HK : Hid (∀ u : World, Calls Tryd.prog 15 #[.agg #[.int .i64 s, .int .i64 r, .int .i64 h], .int .i64 q] u fun e w' => e = .returned (errV (mnxE s r h q)) ∧ Below u.heap.size u w') := fun u => mtchk_any s r h q u
  have HKp : Hid (∀ u : World, Below (w.alloc (.cells #[.int .i64 s, .int .i64 r, .int .i64 h] 23)).heap.size (w.alloc (.cells #[.int .i64 s, .int .i64 r, .int .i64 h] 23)) u → Below w.heap.size w u ∧ RowAt u w.heap.size 23 [.int .i64 s, .int .i64 r, .int .i64 h] ∧ w.heap.size + 1 ≤ u.heap.size) := fun u hu => by
    have hs := hu.size
    simp at hs
    exact ⟨((Below.refl _ _).alloc (Nat.le_refl _) _).trans (hu.mono (by simp)), (row_made w _ _ _ _ rfl rfl).later hu (by simp), hs⟩
  by_cases hk : mnxE s r h q = 0
  · obtain ⟨h0, q0, q1⟩ := mnxE_0.1 hk
    have HN : Hid (∀ u : World, Calls Tryd.prog 16 #[.agg #[.int .i64 s, .int .i64 r, .int .i64 h], .int .i64 q] u fun e w' => e = .returned (.int .i64 (nextM s r h q)) ∧ Below u.heap.size u w') := fun u => mtnx_any s r h q u h0 q0 q1
    rw [hk, errV_0] at HK
    rw [hk]
    show Calls _ _ _ _ fun e w' => e = .returned (.tuple #[.int .i64 (nextM s r h q), .nilIface]) ∧ _
    generalize nextM s r h q = nx at *
    clear hk h0 q0 q1
    go_enter Tryd.func8, Tryd.ntmps8
    go_wp2_with fail
    refine (HK.out _).mono ?_
    rintro e w1 ⟨rfl, hw1⟩
    obtain ⟨b1, R1, hsz⟩ := HKp.out _ hw1
    have B1 : Hid (Below w.heap.size w w1) := b1
    obtain ⟨d0, d1, d2, f0, f1, f2, g0⟩ := R1.three
    clear b1 R1 hw1
    go_wp2_with fail
    refine (HN.out _).mono ?_
    rintro e w2 ⟨rfl, hw2⟩
    have B2 : Hid (Below w.heap.size w w2) := Bel.call B1.out (Nat.le_refl _) hw2
    clear hw2
    go_wp2
    exact bodyPost_ret (v := .tuple #[.int .i64 nx, .nilIface]) (by simp [results, Tryd.results8, go_sem]) rfl ⟨rfl, B2.out⟩
  · have e0 : okN (mnxE s r h q) (nextM s r h q) = 0 := if_neg hk
    rw [e0]
    rw [errV_ne hk] at HK ⊢
    generalize mnxE s r h q = bk at *
    clear e0 hk
    go_enter Tryd.func8, Tryd.ntmps8
    go_wp2_with fail
    refine (HK.out _).mono ?_
    rintro e w1 ⟨rfl, hw1⟩
    obtain ⟨b1, R1, hsz⟩ := HKp.out _ hw1
    have B1 : Hid (Below w.heap.size w w1) := b1
    clear b1 R1 hw1
    go_wp2
    exact bodyPost_ret (v := .tuple #[.int .i64 0, .iface 38 (.int .i64 bk)]) (by simp [results, Tryd.results8, go_sem]) rfl ⟨rfl, B1.out⟩
end Ev
end Go.Proofs.YtgacckmgbalggaiDoor
