/- The law ShuffleTells returns true for every input, from what is asked of package shuffle's calls: any shares of which a part goes from all to all, and how much was taken. -/
import Derived.Test.YtgbhknagmndbfahDoorPlains
import Derived.Test.YtgbhknagmndbfahDoorRShuf
import Derived.Test.YtgbhknagmndbfahDoorToldB
import Derived.Test.YtgbhknagmndbfahDoorSameI
import Derived.Deep.DeepCutAuto
namespace Go.Proofs.YtgbhknagmndbfahDoor
namespace Ev
open Go.RowKit Fr Ns Ld Fl
set_option linter.unusedSimpArgs false
set_option linter.unusedVariables false

theorem st_nil (Q : Nat → Prop) (w : World) : IntsAt Q w (.slice none 0 0) [] := ⟨none, 0, rfl, ⟨Nat.le_refl _, by simp⟩, .inl rfl⟩

set_option maxRecDepth 100000 in
set_option maxHeartbeats 8000000 in
theorem shuffleTells_walk (hS : SStepSaid) (hT : STakenSaid) (l : List Int) (part : Int) (v : Value) (w : World)
    (hg : w.cell? ⟨0, 0, none⟩ = some handleV) (hv : IntsAt (fun b => b < w.heap.size) w v l) :
    Calls Tryd.prog 5 #[v, .int .i64 part] w fun e w' => e = .returned (.bool true) ∧ Below w.heap.size w w' := by
  have HW : Hid (Calls Tryd.prog 13 #[v, .int .i64 10000] w fun e w' => e = .returned (.int .i64 (few l 10000)) ∧ w' = w) := RFew_any l 10000 v w hv
  have HS : Hid (∀ u : World, Below w.heap.size w u → Calls Tryd.prog 15 #[v, .int .i64 part] u fun e w' => ∃ y, e = .returned (.tuple #[y, errV (shufE l part)]) ∧ IntsAt (fun b => u.heap.size ≤ b) w' y (okL (shufE l part) (shufL l part)) ∧ Below u.heap.size u w') := fun u hu => hS _ l part v u (hv.later hu)
  have HPa : Hid (∀ u : World, Below w.heap.size w u → Calls Tryd.prog 16 #[v, .int .i64 part] u fun e w' => e = .returned (.tuple #[.int .i64 (okI (shufE l part) (allS l part)), errV (shufE l part)]) ∧ Below u.heap.size u w') := fun u hu => hT _ l part v u (hv.later hu)
  have HEr : Hid (∀ (k : Int) (u : World), Below w.heap.size w u → Calls Tryd.prog 10 #[errV k, .int .i64 k] u fun e w' => e = .returned (.bool true) ∧ Below u.heap.size u w') := fun k u hu => by
    have := Error_any k k u (cell_later hu hg)
    rw [beq_self_eq_true] at this
    exact this
  have HIn : Hid (∀ (R R' : Nat → Prop) (y z : Value) (x : List Int) (u : World), IntsAt R u y x → IntsAt R' u z x → Calls Tryd.prog 11 #[y, z] u fun e w' => e = .returned (.bool true) ∧ Below u.heap.size u w') := fun R R' y z x u hy hz => by
    refine (SInts_any x x y z u hy hz).mono ?_
    rintro e w' ⟨rfl, n, rfl⟩
    exact ⟨by rw [show eqI x x = true by simp [eqI]], below_drewN (Below.refl _ _) _⟩
  by_cases hE : shufE l part = 0
  · obtain ⟨e1, e2, e3⟩ := shufE_0 hE
    have HR : Hid (Calls Tryd.prog 14 #[v, .int .i64 part] w fun e w' => ∃ y, e = .returned (.tuple #[y, .int .i64 (allS l part)]) ∧ IntsAt (fun b => w.heap.size ≤ b) w' y (shufL l part) ∧ Below w.heap.size w w') := RShuf_any l part v w hv e1 e2 e3
    have HE0 : Hid (∀ u : World, Below w.heap.size w u → Calls Tryd.prog 10 #[.nilIface, .int .i64 0] u fun e w' => e = .returned (.bool true) ∧ Below u.heap.size u w') := fun u hu => by
      have := HEr.out 0 u hu
      rwa [errV_0] at this
    rw [hE, errV_0, okL_0] at HS
    rw [hE, errV_0, okI_0] at HPa
    rw [e1] at HW
    generalize shufL l part = x at *
    generalize allS l part = A at *
    obtain ⟨a, cap, rfl, ⟨hm1, hm2⟩, hc⟩ := hv
    clear hc hE e1 hg HEr
    have q1 : decide (part < 0) = false := by simp; omega
    have q2 : decide (part > 1000) = false := by simp; omega
    go_enter Tryd.func5, Tryd.ntmps5
    go_wp2_with fail
    refine HW.out.mono ?_
    rintro e w ⟨rfl, rfl⟩
    go_wp2_with fail
    refine HR.out.mono ?_
    rintro e w1 ⟨y, rfl, hy, hw1⟩
    have B1 : Hid (Below w.heap.size w w1) := hw1
    have HX : Hid (IntsAt (fun b => w.heap.size ≤ b) w1 y x) := hy
    obtain ⟨a8, c8, rfl, _⟩ := hy
    clear hw1
    go_wp2_with fail
    refine (HS.out _ B1.out).mono ?_
    rintro e w2 ⟨y, rfl, hy, hw2⟩
    have B2 : Hid (Below w.heap.size w w2) := B1.out.trans (hw2.mono B1.out.size)
    have HX2 : Hid (IntsAt (fun b => w.heap.size ≤ b) w2 (.slice a8 x.length c8) x) := HX.out.later hw2
    have HY : Hid (IntsAt (fun b => w1.heap.size ≤ b) w2 y x) := hy
    obtain ⟨ay, cy, rfl, _⟩ := hy
    clear hw2 HX
    go_wp2_with fail
    refine (HE0.out _ B2.out).mono ?_
    rintro e w3 ⟨rfl, hw3⟩
    have B3 : Hid (Below w.heap.size w w3) := B2.out.trans (hw3.mono B2.out.size)
    have HI3 : Hid (Calls Tryd.prog 11 #[.slice ay x.length cy, .slice a8 x.length c8] w3 fun e w' => e = .returned (.bool true) ∧ Below w3.heap.size w3 w') := HIn.out _ _ _ _ x w3 (HY.out.later hw3) (HX2.out.later hw3)
    clear hw3 HY HX2
    go_wp2_with fail
    refine HI3.out.mono ?_
    rintro e w4 ⟨rfl, hw4⟩
    have B4 : Hid (Below w.heap.size w w4) := B3.out.trans (hw4.mono B3.out.size)
    clear hw4
    go_wp2_with fail
    refine (HPa.out _ B4.out).mono ?_
    rintro e w5 ⟨rfl, hw5⟩
    have B5 : Hid (Below w.heap.size w w5) := B4.out.trans (hw5.mono B4.out.size)
    clear hw5
    go_wp2_with fail
    refine (HE0.out _ B5.out).mono ?_
    rintro e w6 ⟨rfl, hw6⟩
    have B6 : Hid (Below w.heap.size w w6) := B5.out.trans (hw6.mono B5.out.size)
    clear hw6
    go_wp2
    go_ret
    exact ⟨Ns.ret_bool rfl, B6.out⟩
  · rw [okL_ne hE] at HS
    rw [okI_ne hE] at HPa
    have hcase : (few l 10000 ≠ 0 ∧ Hid (shufE l part = few l 10000)) ∨ (few l 10000 = 0 ∧ part < 0 ∧ Hid (shufE l part = 1)) ∨ (few l 10000 = 0 ∧ ¬ part < 0 ∧ 1000 < part ∧ Hid (shufE l part = 1)) := by
      by_cases h0 : few l 10000 = 0
      · right
        by_cases h1 : part < 0
        · exact .inl ⟨h0, h1, by show _ = _; rw [shufE, if_pos h0, if_pos (.inl h1)]⟩
        · by_cases h2 : 1000 < part
          · exact .inr ⟨h0, h1, h2, by show _ = _; rw [shufE, if_pos h0, if_pos (.inr h2)]⟩
          · exfalso; apply hE; rw [shufE, if_pos h0, if_neg (by omega)]
      · exact .inl ⟨h0, by show _ = _; rw [shufE, if_neg h0]⟩
    have HEk : Hid (∀ u : World, Below w.heap.size w u → Calls Tryd.prog 10 #[errV (shufE l part), .int .i64 (shufE l part)] u fun e w' => e = .returned (.bool true) ∧ Below u.heap.size u w') := fun u hu => HEr.out (shufE l part) u hu
    have HSl0 : Hid (∀ (u : World) (y : Value) (B : Nat), IntsAt (fun b => B ≤ b) u y [] → Calls Tryd.prog 11 #[y, .slice none 0 0] u fun e w' => e = .returned (.bool true) ∧ Below u.heap.size u w') := fun u y B hy => HIn.out _ (fun _ => True) _ _ [] u hy (st_nil _ _)
    have HV : Hid (errV (shufE l part) = .iface 45 (.int .i64 (shufE l part))) := errV_ne hE
    rw [HV.out] at HS HPa HEk
    have hEk : ((shufE l part) == 0) = false := beq_eq_false_iff_ne.2 hE
    obtain ⟨a, cap, rfl, ⟨hm1, hm2⟩, hc⟩ := hv
    clear hc hg HV hE
    rcases hcase with ⟨h0, hs⟩ | ⟨h0, h1, hs⟩ | ⟨h0, h1, h2, hs⟩
    · rw [← hs.out] at HW
      generalize shufE l part = ek at *
      clear hs h0
      go_enter Tryd.func5, Tryd.ntmps5
      go_wp2_with fail
      refine HW.out.mono ?_
      rintro e w ⟨rfl, rfl⟩
      go_wp2_with fail
      refine (HS.out _ (Below.refl _ _)).mono ?_
      rintro e w1 ⟨y, rfl, hy, hw1⟩
      have B1 : Hid (Below w.heap.size w w1) := hw1
      have HY : Hid (IntsAt (fun b => w.heap.size ≤ b) w1 y []) := hy
      obtain ⟨ay, cy, rfl, _⟩ := hy
      clear hw1
      go_wp2_with fail
      refine (HEk.out _ B1.out).mono ?_
      rintro e w2 ⟨rfl, hw2⟩
      have B2 : Hid (Below w.heap.size w w2) := B1.out.trans (hw2.mono B1.out.size)
      have HI2 : Hid (Calls Tryd.prog 11 #[.slice ay 0 cy, .slice none 0 0] w2 fun e w' => e = .returned (.bool true) ∧ Below w2.heap.size w2 w') := HSl0.out w2 _ _ (HY.out.later hw2)
      clear hw2 HY
      go_wp2_with fail
      refine HI2.out.mono ?_
      rintro e w3 ⟨rfl, hw3⟩
      have B3 : Hid (Below w.heap.size w w3) := B2.out.trans (hw3.mono B2.out.size)
      clear hw3
      go_wp2_with fail
      refine (HPa.out _ B3.out).mono ?_
      rintro e w4 ⟨rfl, hw4⟩
      have B4 : Hid (Below w.heap.size w w4) := B3.out.trans (hw4.mono B3.out.size)
      clear hw4
      go_wp2_with fail
      refine (HEk.out _ B4.out).mono ?_
      rintro e w5 ⟨rfl, hw5⟩
      have B5 : Hid (Below w.heap.size w w5) := B4.out.trans (hw5.mono B4.out.size)
      clear hw5
      go_wp2
      go_ret
      exact ⟨Ns.ret_bool rfl, B5.out⟩
    · rw [h0] at HW
      rw [hs.out] at HS HPa HEk
      have q1 : decide (part < 0) = true := by simp; omega
      clear hEk hs h0
      go_enter Tryd.func5, Tryd.ntmps5
      go_wp2_with fail
      refine HW.out.mono ?_
      rintro e w ⟨rfl, rfl⟩
      go_wp2_with fail
      refine (HS.out _ (Below.refl _ _)).mono ?_
      rintro e w1 ⟨y, rfl, hy, hw1⟩
      have B1 : Hid (Below w.heap.size w w1) := hw1
      have HY : Hid (IntsAt (fun b => w.heap.size ≤ b) w1 y []) := hy
      obtain ⟨ay, cy, rfl, _⟩ := hy
      clear hw1
      go_wp2_with fail
      refine (HEk.out _ B1.out).mono ?_
      rintro e w2 ⟨rfl, hw2⟩
      have B2 : Hid (Below w.heap.size w w2) := B1.out.trans (hw2.mono B1.out.size)
      have HI2 : Hid (Calls Tryd.prog 11 #[.slice ay 0 cy, .slice none 0 0] w2 fun e w' => e = .returned (.bool true) ∧ Below w2.heap.size w2 w') := HSl0.out w2 _ _ (HY.out.later hw2)
      clear hw2 HY
      go_wp2_with fail
      refine HI2.out.mono ?_
      rintro e w3 ⟨rfl, hw3⟩
      have B3 : Hid (Below w.heap.size w w3) := B2.out.trans (hw3.mono B2.out.size)
      clear hw3
      go_wp2_with fail
      refine (HPa.out _ B3.out).mono ?_
      rintro e w4 ⟨rfl, hw4⟩
      have B4 : Hid (Below w.heap.size w w4) := B3.out.trans (hw4.mono B3.out.size)
      clear hw4
      go_wp2_with fail
      refine (HEk.out _ B4.out).mono ?_
      rintro e w5 ⟨rfl, hw5⟩
      have B5 : Hid (Below w.heap.size w w5) := B4.out.trans (hw5.mono B4.out.size)
      clear hw5
      go_wp2
      go_ret
      exact ⟨Ns.ret_bool rfl, B5.out⟩
    · rw [h0] at HW
      rw [hs.out] at HS HPa HEk
      have q1 : decide (part < 0) = false := by simp; omega
      have q2 : decide (part > 1000) = true := by simp; omega
      clear hEk hs h0
      go_enter Tryd.func5, Tryd.ntmps5
      go_wp2_with fail
      refine HW.out.mono ?_
      rintro e w ⟨rfl, rfl⟩
      go_wp2_with fail
      refine (HS.out _ (Below.refl _ _)).mono ?_
      rintro e w1 ⟨y, rfl, hy, hw1⟩
      have B1 : Hid (Below w.heap.size w w1) := hw1
      have HY : Hid (IntsAt (fun b => w.heap.size ≤ b) w1 y []) := hy
      obtain ⟨ay, cy, rfl, _⟩ := hy
      clear hw1
      go_wp2_with fail
      refine (HEk.out _ B1.out).mono ?_
      rintro e w2 ⟨rfl, hw2⟩
      have B2 : Hid (Below w.heap.size w w2) := B1.out.trans (hw2.mono B1.out.size)
      have HI2 : Hid (Calls Tryd.prog 11 #[.slice ay 0 cy, .slice none 0 0] w2 fun e w' => e = .returned (.bool true) ∧ Below w2.heap.size w2 w') := HSl0.out w2 _ _ (HY.out.later hw2)
      clear hw2 HY
      go_wp2_with fail
      refine HI2.out.mono ?_
      rintro e w3 ⟨rfl, hw3⟩
      have B3 : Hid (Below w.heap.size w w3) := B2.out.trans (hw3.mono B2.out.size)
      clear hw3
      go_wp2_with fail
      refine (HPa.out _ B3.out).mono ?_
      rintro e w4 ⟨rfl, hw4⟩
      have B4 : Hid (Below w.heap.size w w4) := B3.out.trans (hw4.mono B3.out.size)
      clear hw4
      go_wp2_with fail
      refine (HEk.out _ B4.out).mono ?_
      rintro e w5 ⟨rfl, hw5⟩
      have B5 : Hid (Below w.heap.size w w5) := B4.out.trans (hw5.mono B4.out.size)
      clear hw5
      go_wp2
      go_ret
      exact ⟨Ns.ret_bool rfl, B5.out⟩
end Ev
end Go.Proofs.YtgbhknagmndbfahDoor
