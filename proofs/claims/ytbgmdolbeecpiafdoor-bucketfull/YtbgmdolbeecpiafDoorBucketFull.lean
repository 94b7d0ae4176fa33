/- The law BucketFull returns true for every input, from what is asked of package bucket's calls. -/
import Derived.Test.YtbgmdolbeecpiafDoorPlains
import Derived.Test.YtbgmdolbeecpiafDoorToldB
namespace Go.Proofs.YtbgmdolbeecpiafDoor
namespace Ev
open Go.RowKit Fr Ns Ld Fl
set_option linter.unusedSimpArgs false
set_option linter.unusedVariables false

set_option maxRecDepth 100000 in
set_option maxHeartbeats 4000000 in
theorem bucketFull_walk (hC : BCheckSaid) (hT : BTickSaid) (hK : BTakeSaid) (s r : Int) (w : World) (hg : w.cell? ⟨0, 0, none⟩ = some handleV) :
    Calls Tryd.prog 3 #[.int .i64 s, .int .i64 r] w fun e w' => e = .returned (.bool true) ∧ Below w.heap.size w w' := by
  by_cases hb : bktE s r s = 0
  · have h0 := bktE_0.1 hb
    have hb2 : bktE s r 0 = 0 := bktE_0.2 (by omega)
    have hf1 : fillH s r s = s := by unfold fillH; split <;> omega
    have hf2 : fillH s r 0 = r := by unfold fillH; split <;> omega
    have k1 : takeE s r s s = 0 := by rw [takeE, if_pos hb, if_neg (by omega), if_neg (by omega)]
    have k2 : takeE s r 0 1 = 8 := by rw [takeE, if_pos hb2, if_neg (by omega), if_pos (by omega)]
    have T1 : Hid (∀ u : World, Calls Tryd.prog 4 #[.agg #[.int .i64 s, .int .i64 r, .int .i64 s]] u fun e w' => e = .returned (.tuple #[.agg #[.int .i64 s, .int .i64 r, .int .i64 s], .nilIface]) ∧ Below u.heap.size u w') := fun u => by
      have := hT s r s u
      rw [hb, hf1, errV_0] at this
      exact this
    have T2 : Hid (∀ u : World, Calls Tryd.prog 4 #[.agg #[.int .i64 s, .int .i64 r, .int .i64 0]] u fun e w' => e = .returned (.tuple #[.agg #[.int .i64 s, .int .i64 r, .int .i64 r], .nilIface]) ∧ Below u.heap.size u w') := fun u => by
      have := hT s r 0 u
      rw [hb2, hf2, errV_0] at this
      exact this
    have K1 : Hid (∀ u : World, Calls Tryd.prog 6 #[.agg #[.int .i64 s, .int .i64 r, .int .i64 s], .int .i64 s] u fun e w' => e = .returned (.tuple #[.agg #[.int .i64 s, .int .i64 r, .int .i64 0], .nilIface]) ∧ Below u.heap.size u w') := fun u => by
      have := hK s r s s u
      rw [k1, errV_0, Int.sub_self] at this
      exact this
    have K2 : Hid (∀ u : World, Calls Tryd.prog 6 #[.agg #[.int .i64 s, .int .i64 r, .int .i64 0], .int .i64 1] u fun e w' => e = .returned (.tuple #[.agg #[.int .i64 0, .int .i64 0, .int .i64 0], .iface 34 (.int .i64 8)]) ∧ Below u.heap.size u w') := fun u => by
      have := hK s r 0 1 u
      rw [k2, errV_ne (by decide)] at this
      exact this
    have HEr : Hid (∀ u : World, Below w.heap.size w u → Calls Tryd.prog 7 #[.iface 34 (.int .i64 8), .int .i64 8] u fun e w' => e = .returned (.bool true) ∧ Below u.heap.size u w') := fun u hu => by
      have := Error_any 8 8 u (cell_later hu hg)
      rw [beq_self_eq_true, errV_ne (by decide)] at this
      exact this
    clear hC hT hK hb hb2 h0 hf1 hf2 k1 k2 hg
    go_enter Tryd.func3, Tryd.ntmps3
    go_wp2_with fail
    refine (T1.out _).mono ?_
    rintro e w1 ⟨rfl, hw1⟩
    have z1 : w.heap.size < w1.heap.size := by have := hw1.size; simp at this; omega
    have B1 : Hid (Below w.heap.size w w1) := ((Below.refl _ _).alloc (Nat.le_refl _) _).trans (hw1.mono (by simp))
    obtain ⟨hc1, hf1⟩ := bcell hw1
    clear hw1
    go_wp2_with fail
    refine (K1.out _).mono ?_
    rintro e w2 ⟨rfl, hw2⟩
    have z2 : w1.heap.size < w2.heap.size := by have := hw2.size; simp at this; omega
    have B2 : Hid (Below w.heap.size w w2) := (B1.out.alloc (by omega) _).trans (hw2.mono (by simp; omega))
    obtain ⟨hc2, hf2⟩ := bcell hw2
    clear hw2
    go_wp2_with fail
    refine (K2.out _).mono ?_
    rintro e w3 ⟨rfl, hw3⟩
    have z3 : w2.heap.size < w3.heap.size := by have := hw3.size; simp at this; omega
    have B3 : Hid (Below w.heap.size w w3) := (B2.out.alloc (by omega) _).trans (hw3.mono (by simp; omega))
    obtain ⟨hc3, hf3⟩ := bcell hw3
    clear hw3
    go_wp2_with fail
    refine (T2.out _).mono ?_
    rintro e w4 ⟨rfl, hw4⟩
    have z4 : w3.heap.size < w4.heap.size := by have := hw4.size; simp at this; omega
    have B4 : Hid (Below w.heap.size w w4) := (B3.out.alloc (by omega) _).trans (hw4.mono (by simp; omega))
    obtain ⟨hc4, hf4⟩ := bcell hw4
    have q1 : w.heap.size < w1.heap.size + 1 := by omega
    have q2 : w.heap.size < w2.heap.size + 1 := by omega
    have q3 : w.heap.size < w3.heap.size + 1 := by omega
    have q4 : w1.heap.size < w2.heap.size + 1 := by omega
    have q5 : w1.heap.size < w3.heap.size + 1 := by omega
    have q6 : w2.heap.size < w3.heap.size + 1 := by omega
    have q7 : w.heap.size < w2.heap.size ∧ w.heap.size < w3.heap.size ∧ w.heap.size < w4.heap.size ∧ w1.heap.size < w3.heap.size ∧ w1.heap.size < w4.heap.size ∧ w2.heap.size < w4.heap.size := by omega
    obtain ⟨y1, y2, y3, y4, y5, y6⟩ := q7
    clear hw4
    go_wp2_with fail
    refine (HEr.out _ (B4.out.alloc (by omega) _)).mono ?_
    rintro e w5 ⟨rfl, hw5⟩
    have B5 : Hid (Below w.heap.size w w5) := (B4.out.alloc (by omega) _).trans (hw5.mono (by simp; omega))
    obtain ⟨hc5, hf5⟩ := bcell hw5
    clear hw5
    go_wp2
    go_ret
    exact ⟨rfl, B5.out⟩
  · have T1 : Hid (∀ u : World, Calls Tryd.prog 4 #[.agg #[.int .i64 s, .int .i64 r, .int .i64 s]] u fun e w' => e = .returned (.tuple #[.agg #[.int .i64 0, .int .i64 0, .int .i64 0], .iface 34 (.int .i64 (bktE s r s))]) ∧ Below u.heap.size u w') := fun u => by
      have := hT s r s u
      rw [okN, okN, okN, if_neg hb, if_neg hb, if_neg hb, errV_ne hb] at this
      exact this
    have C1 : Hid (∀ u : World, Calls Tryd.prog 5 #[.agg #[.int .i64 s, .int .i64 r, .int .i64 s]] u fun e w' => e = .returned (.iface 34 (.int .i64 (bktE s r s))) ∧ Below u.heap.size u w') := fun u => by
      have := hC s r s u
      rw [errV_ne hb] at this
      exact this
    clear hC hT hK hg
    generalize bktE s r s = er at *
    go_enter Tryd.func3, Tryd.ntmps3
    go_wp2_with fail
    refine (T1.out _).mono ?_
    rintro e w1 ⟨rfl, hw1⟩
    have z1 : w.heap.size < w1.heap.size := by have := hw1.size; simp at this; omega
    have B1 : Hid (Below w.heap.size w w1) := ((Below.refl _ _).alloc (Nat.le_refl _) _).trans (hw1.mono (by simp))
    obtain ⟨hc1, hf1⟩ := bcell hw1
    clear hw1
    go_wp2_with fail
    refine (C1.out _).mono ?_
    rintro e w2 ⟨rfl, hw2⟩
    have B2 : Hid (Below w.heap.size w w2) := (B1.out.alloc (by omega) _).trans (hw2.mono (by simp; omega))
    clear hw2
    go_wp2
    go_ret
    exact ⟨rfl, B2.out⟩
end Ev
end Go.Proofs.YtbgmdolbeecpiafDoor
