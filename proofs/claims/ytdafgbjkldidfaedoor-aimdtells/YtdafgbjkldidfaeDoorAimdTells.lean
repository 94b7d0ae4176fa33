/- The law AimdTells returns true for every input, from what is asked of package aimd's calls. -/
import Derived.Test.YtdafgbjkldidfaeDoorPlains
import Derived.Test.YtdafgbjkldidfaeDoorRSteps
import Derived.Test.YtdafgbjkldidfaeDoorSameI
import Derived.Test.YtdafgbjkldidfaeDoorToldB
namespace Go.Proofs.YtdafgbjkldidfaeDoor
namespace Ev
open Go.RowKit Fr Ns Ld Fl
set_option linter.unusedSimpArgs false
set_option linter.unusedVariables false

set_option maxRecDepth 100000 in
set_option maxHeartbeats 8000000 in
theorem aimdTells_walk (hS : AStepSaid) (hR : ARunSaid) (hC : ACutsSaid) (l : List Int) (limit up ticks : Int) (v : Value) (w : World)
    (hg : w.cell? ⟨0, 0, none⟩ = some handleV) (hv : IntsAt (fun b => b < w.heap.size) w v l) :
    Calls Tryd.prog 4 #[v, .int .i64 limit, .int .i64 up, .int .i64 ticks] w fun e w' => e = .returned (.bool true) ∧ Below w.heap.size w w' := by
  obtain ⟨d0, hd0⟩ : ∃ d, Hid ((decide (stepE l limit up = 0) && decide (limit < tot l)) = d) := ⟨_, rfl⟩
  have HRS : Hid (∀ u : World, Below w.heap.size w u → Calls Tryd.prog 8 #[v, .int .i64 limit, .int .i64 up] u fun e w' => ∃ y, e = .returned (.tuple #[y, .bool d0, .int .i64 (stepE l limit up)]) ∧ IntsAt (fun b => u.heap.size ≤ b) w' y (okL (stepE l limit up) (stepL l limit up)) ∧ Below u.heap.size u w') := fun u hu => by
    have := RStep_any l limit up v u (hv.later hu)
    rw [hd0.out] at this
    exact this
  have HRR : Hid (∀ u : World, Below w.heap.size w u → Calls Tryd.prog 11 #[v, .int .i64 limit, .int .i64 up, .int .i64 ticks] u fun e w' => ∃ y, e = .returned (.tuple #[y, .int .i64 (okI (runE l limit up ticks) (runC l limit up ticks : Int)), .int .i64 (runE l limit up ticks)]) ∧ IntsAt (fun b => u.heap.size ≤ b) w' y (okL (runE l limit up ticks) (runL l limit up ticks)) ∧ Below u.heap.size u w') := fun u hu => RSteps_any l limit up ticks v u (hv.later hu)
  have HS : Hid (∀ u : World, Below w.heap.size w u → Calls Tryd.prog 9 #[v, .int .i64 limit, .int .i64 up] u fun e w' => ∃ y, e = .returned (.tuple #[y, errV (stepE l limit up)]) ∧ IntsAt (fun b => u.heap.size ≤ b) w' y (okL (stepE l limit up) (stepL l limit up)) ∧ Below u.heap.size u w') := fun u hu => hS _ l limit up v u (hv.later hu)
  have HR : Hid (∀ u : World, Below w.heap.size w u → Calls Tryd.prog 12 #[v, .int .i64 limit, .int .i64 up, .int .i64 ticks] u fun e w' => ∃ y, e = .returned (.tuple #[y, errV (runE l limit up ticks)]) ∧ IntsAt (fun b => u.heap.size ≤ b) w' y (okL (runE l limit up ticks) (runL l limit up ticks)) ∧ Below u.heap.size u w') := fun u hu => hR _ l limit up ticks v u (hv.later hu)
  have HC : Hid (∀ u : World, Below w.heap.size w u → Calls Tryd.prog 13 #[v, .int .i64 limit, .int .i64 up, .int .i64 ticks] u fun e w' => e = .returned (.tuple #[.int .i64 (okI (runE l limit up ticks) (runC l limit up ticks : Int)), errV (runE l limit up ticks)]) ∧ Below u.heap.size u w') := fun u hu => hC _ l limit up ticks v u (hv.later hu)
  have HEr : Hid (∀ (k : Int) (u : World), Below w.heap.size w u → Calls Tryd.prog 6 #[errV k, .int .i64 k] u fun e w' => e = .returned (.bool true) ∧ Below u.heap.size u w') := fun k u hu => by
    have := Error_any k k u (cell_later hu hg)
    rw [beq_self_eq_true] at this
    exact this
  have HIn : Hid (∀ (x y : Value) (g : List Int) (u : World), IntsAt (fun _ => True) u x g → IntsAt (fun _ => True) u y g → Calls Tryd.prog 10 #[x, y] u fun e w' => e = .returned (.bool true) ∧ ∃ n, w' = u.drewN n) := fun x y g u hx hy => by
    have := SInts_any g g x y u hx hy
    rw [show eqI g g = true by simp [eqI]] at this
    exact this
  obtain ⟨a, cap, rfl, _⟩ := hv
  generalize okL (stepE l limit up) (stepL l limit up) = SL at *
  generalize okL (runE l limit up ticks) (runL l limit up ticks) = RL at *
  generalize okI (runE l limit up ticks) (runC l limit up ticks : Int) = CU at *
  have HE1 : Hid (∀ u : World, Below w.heap.size w u → Calls Tryd.prog 6 #[errV (stepE l limit up), .int .i64 (stepE l limit up)] u fun e w' => e = .returned (.bool true) ∧ Below u.heap.size u w') := HEr.out _
  have HE2 : Hid (∀ u : World, Below w.heap.size w u → Calls Tryd.prog 6 #[errV (runE l limit up ticks), .int .i64 (runE l limit up ticks)] u fun e w' => e = .returned (.bool true) ∧ Below u.heap.size u w') := HEr.out _
  generalize stepE l limit up = e1 at *
  generalize runE l limit up ticks = e2 at *
  clear hg hS hR hC HEr hd0
  go_enter Tryd.func4, Tryd.ntmps4
  go_wp2_with fail
  refine (HRS.out _ (Below.refl _ _)).mono ?_
  rintro e w1 ⟨y1, rfl, hy1, hw1⟩
  have B1 : Hid (Below w.heap.size w w1) := hw1
  have Y1 : Hid (IntsAt (fun _ => True) w1 y1 SL) := hy1.keep (fun _ _ _ => rfl) (fun _ _ _ => trivial)
  obtain ⟨a1, n1, c1, rfl⟩ : ∃ a n c, y1 = .slice a n c := by obtain ⟨a, c, e, _⟩ := hy1; exact ⟨_, _, _, e⟩
  clear hw1 hy1
  go_wp2_with fail
  refine (HS.out _ B1.out).mono ?_
  rintro e w2 ⟨y2, rfl, hy2, hw2⟩
  have B2 : Hid (Below w.heap.size w w2) := Bel.call B1.out (Nat.le_refl _) hw2
  have Y12 : Hid (IntsAt (fun _ => True) w2 (.slice a1 n1 c1) SL) := Y1.out.later hw2
  have Y2 : Hid (IntsAt (fun _ => True) w2 y2 SL) := hy2.keep (fun _ _ _ => rfl) (fun _ _ _ => trivial)
  obtain ⟨a2, n2, c2, rfl⟩ : ∃ a n c, y2 = .slice a n c := by obtain ⟨a, c, e, _⟩ := hy2; exact ⟨_, _, _, e⟩
  clear hw2 hy2
  go_wp2_with fail
  refine (HE1.out _ B2.out).mono ?_
  rintro e w3 ⟨rfl, hw3⟩
  have B3 : Hid (Below w.heap.size w w3) := Bel.call B2.out (Nat.le_refl _) hw3
  have HI3 : Hid (Calls Tryd.prog 10 #[.slice a2 n2 c2, .slice a1 n1 c1] w3 fun e w' => e = .returned (.bool true) ∧ ∃ n, w' = w3.drewN n) := HIn.out _ _ SL w3 (Y2.out.later hw3) (Y12.out.later hw3)
  clear hw3
  go_wp2_with fail
  refine HI3.out.mono ?_
  rintro e w4 ⟨rfl, m4, hw4⟩
  have B4 : Hid (Below w.heap.size w w4) := by rw [hw4]; exact below_drewN B3.out _
  clear hw4
  go_wp2_with fail
  refine (HRR.out _ B4.out).mono ?_
  rintro e w5 ⟨y5, rfl, hy5, hw5⟩
  have B5 : Hid (Below w.heap.size w w5) := Bel.call B4.out (Nat.le_refl _) hw5
  have Y5 : Hid (IntsAt (fun _ => True) w5 y5 RL) := hy5.keep (fun _ _ _ => rfl) (fun _ _ _ => trivial)
  obtain ⟨a5, n5, c5, rfl⟩ : ∃ a n c, y5 = .slice a n c := by obtain ⟨a, c, e, _⟩ := hy5; exact ⟨_, _, _, e⟩
  clear hw5 hy5
  go_wp2_with fail
  refine (HR.out _ B5.out).mono ?_
  rintro e w6 ⟨y6, rfl, hy6, hw6⟩
  have B6 : Hid (Below w.heap.size w w6) := Bel.call B5.out (Nat.le_refl _) hw6
  have Y56 : Hid (IntsAt (fun _ => True) w6 (.slice a5 n5 c5) RL) := Y5.out.later hw6
  have Y6 : Hid (IntsAt (fun _ => True) w6 y6 RL) := hy6.keep (fun _ _ _ => rfl) (fun _ _ _ => trivial)
  obtain ⟨a6, n6, c6, rfl⟩ : ∃ a n c, y6 = .slice a n c := by obtain ⟨a, c, e, _⟩ := hy6; exact ⟨_, _, _, e⟩
  clear hw6 hy6
  go_wp2_with fail
  refine (HE2.out _ B6.out).mono ?_
  rintro e w7 ⟨rfl, hw7⟩
  have B7 : Hid (Below w.heap.size w w7) := Bel.call B6.out (Nat.le_refl _) hw7
  have HI7 : Hid (Calls Tryd.prog 10 #[.slice a6 n6 c6, .slice a5 n5 c5] w7 fun e w' => e = .returned (.bool true) ∧ ∃ n, w' = w7.drewN n) := HIn.out _ _ RL w7 (Y6.out.later hw7) (Y56.out.later hw7)
  clear hw7
  go_wp2_with fail
  refine HI7.out.mono ?_
  rintro e w8 ⟨rfl, m8, hw8⟩
  have B8 : Hid (Below w.heap.size w w8) := by rw [hw8]; exact below_drewN B7.out _
  clear hw8
  go_wp2_with fail
  refine (HC.out _ B8.out).mono ?_
  rintro e w9 ⟨rfl, hw9⟩
  have B9 : Hid (Below w.heap.size w w9) := Bel.call B8.out (Nat.le_refl _) hw9
  clear hw9
  go_wp2_with fail
  refine (HE2.out _ B9.out).mono ?_
  rintro e w10 ⟨rfl, hw10⟩
  have B10 : Hid (Below w.heap.size w w10) := Bel.call B9.out (Nat.le_refl _) hw10
  clear hw10
  go_wp2
  go_ret
  exact ⟨Ns.ret_bool rfl, B10.out⟩
end Ev
end Go.Proofs.YtdafgbjkldidfaeDoor
