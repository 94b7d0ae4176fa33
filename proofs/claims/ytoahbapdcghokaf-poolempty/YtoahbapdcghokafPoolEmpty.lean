/- The law PoolEmpty returns true for every input, from what is asked of package pool's calls. -/
import Derived.Test.YtoahbapdcghokafPlains
namespace Go.Proofs.Ytoahbapdcghokaf
namespace Ev
open Go.RowKit Fr Ns Ld Fl
set_option linter.unusedSimpArgs false
set_option linter.unusedVariables false

set_option maxRecDepth 100000 in
set_option maxHeartbeats 4000000 in
theorem poolEmpty_walk (hC : PCheckSaid) (hT : PTickSaid) (s r m : Int) (w : World) :
    Calls Try.prog 5 #[.int .i64 s, .int .i64 r, .int .i64 m] w fun e w' => e = .returned (.bool true) ∧ Below w.heap.size w w' := by
  by_cases hb : poolE s r 0 = 0
  · have h0 := poolE_0.1 hb
    by_cases hm : m < 0 ∨ 10000 < m
    · have k1 : ptickE s r 0 m = 1 := by rw [ptickE, if_pos hb, if_pos hm]
      have T1 : Hid (∀ u : World, Calls Try.prog 10 #[.agg #[.int .i64 s, .int .i64 r, .int .i64 0], .int .i64 m] u fun e w' => e = .returned (.tuple #[.agg #[.int .i64 0, .int .i64 0, .int .i64 0], .agg #[.int .i64 0, .int .i64 0, .int .i64 0], .iface 50 (.int .i64 1)]) ∧ Below u.heap.size u w') := fun u => by
        have := hT s r 0 m u
        rw [k1, errV_ne (by decide)] at this
        exact this
      have C1 : Hid (∀ u : World, Calls Try.prog 11 #[.agg #[.int .i64 s, .int .i64 r, .int .i64 0]] u fun e w' => e = .returned .nilIface ∧ Below u.heap.size u w') := fun u => by
        have := hC s r 0 u
        rw [hb, errV_0] at this
        exact this
      have hor : m < 0 ∨ (¬ m < 0 ∧ 10000 < m) := by omega
      clear hC hT hb h0 hm k1
      rcases hor with c1 | ⟨c1, c2⟩
      all_goals
        go_enter Try.func5, Try.ntmps5
        go_wp2_with fail
        refine (T1.out _).mono ?_
        rintro e w1 ⟨rfl, hw1⟩
        have z1 : w.heap.size < w1.heap.size := by have := hw1.size; simp at this; omega
        have z2 : w.heap.size < w1.heap.size + 1 := by omega
        have B1 : Hid (Below w.heap.size w w1) := ((Below.refl _ _).alloc (Nat.le_refl _) _).trans (hw1.mono (by simp))
        obtain ⟨hc1, hf1⟩ := bcell hw1
        clear hw1
        go_wp2_with fail
        refine (C1.out _).mono ?_
        rintro e w2 ⟨rfl, hw2⟩
        have B2 : Hid (Below w.heap.size w w2) := ((B1.out.alloc (by omega) _).alloc (by simp; omega) _).trans (hw2.mono (by simp; omega))
        clear hw2
        go_wp2
        go_ret
        exact ⟨Ns.ret_bool rfl, B2.out⟩
    · have k1 : ptickE s r 0 m = 0 := by rw [ptickE, if_pos hb, if_neg hm]
      have T1 : Hid (∀ u : World, Calls Try.prog 10 #[.agg #[.int .i64 s, .int .i64 r, .int .i64 0], .int .i64 m] u fun e w' => e = .returned (.tuple #[.agg #[.int .i64 s, .int .i64 r, .int .i64 (waitP s r m)], .agg #[.int .i64 (wentP r m), .int .i64 (lostP s r m), .int .i64 (waitP s r m)], .nilIface]) ∧ Below u.heap.size u w') := fun u => by
        have := hT s r 0 m u
        rw [k1, errV_0, Int.zero_add] at this
        exact this
      have hor : (r < m ∧ wentP r m = r ∧ lostP s r m + waitP s r m = m - r ∧ 0 ≤ lostP s r m ∧ lostP s r m ≤ 10000 ∧ 0 ≤ waitP s r m ∧ waitP s r m ≤ 10000) ∨ (¬ r < m ∧ wentP r m = m ∧ lostP s r m = 0 ∧ waitP s r m = 0) := by
        by_cases hc : r < m
        · left
          have e1 : wentP r m = r := if_pos hc
          refine ⟨hc, e1, ?_⟩
          unfold lostP waitP
          rw [e1]
          split <;> omega
        · right
          have e1 : wentP r m = m := if_neg hc
          refine ⟨hc, e1, ?_⟩
          unfold lostP waitP
          rw [e1, if_neg (by omega), if_neg (by omega)]
          omega
      clear hC hT hb k1
      rcases hor with ⟨hc, e1, e2, e3, e4, e5, e6⟩ | ⟨hc, e1, e2, e3⟩
      · rw [e1] at T1
        generalize lostP s r m = lo at *
        generalize waitP s r m = wa at *
        have hw1' : IntKind.i64.wrap (lo + wa) = lo + wa := by rw [IntKind.wrap_i64]; omega
        have hw2' : IntKind.i64.wrap (m - r) = m - r := by rw [IntKind.wrap_i64]; omega
        have q1 : (lo + wa == m - r) = true := by simp [e2]
        clear e1 e2 e3 e4 e5 e6 h0 hm
        go_enter Try.func5, Try.ntmps5
        go_wp2_with fail
        refine (T1.out _).mono ?_
        rintro e w1 ⟨rfl, hw1⟩
        have z1 : w.heap.size < w1.heap.size := by have := hw1.size; simp at this; omega
        have B1 : Hid (Below w.heap.size w w1) := ((Below.refl _ _).alloc (Nat.le_refl _) _).trans (hw1.mono (by simp))
        have B2 : ∀ o o', Hid (Below w.heap.size w ((w1.alloc o).alloc o')) := fun o o' => (B1.out.alloc (by omega) _).alloc (by simp; omega) _
        obtain ⟨hc1, hf1⟩ := bcell hw1
        clear hw1
        go_wp2
        go_ret
        exact ⟨Ns.ret_bool rfl, (B2 _ _).out⟩
      · rw [e1, e2, e3] at T1
        clear e1 e2 e3 h0 hm
        go_enter Try.func5, Try.ntmps5
        go_wp2_with fail
        refine (T1.out _).mono ?_
        rintro e w1 ⟨rfl, hw1⟩
        have z1 : w.heap.size < w1.heap.size := by have := hw1.size; simp at this; omega
        have z2 : w.heap.size < w1.heap.size + 1 := by omega
        have B1 : Hid (Below w.heap.size w w1) := ((Below.refl _ _).alloc (Nat.le_refl _) _).trans (hw1.mono (by simp))
        have B2 : ∀ o o', Hid (Below w.heap.size w ((w1.alloc o).alloc o')) := fun o o' => (B1.out.alloc (by omega) _).alloc (by simp; omega) _
        obtain ⟨hc1, hf1⟩ := bcell hw1
        clear hw1
        go_wp2
        go_ret
        exact ⟨Ns.ret_bool rfl, (B2 _ _).out⟩
  · have k1 : ptickE s r 0 m = poolE s r 0 := by rw [ptickE, if_neg hb]
    have T1 : Hid (∀ u : World, Calls Try.prog 10 #[.agg #[.int .i64 s, .int .i64 r, .int .i64 0], .int .i64 m] u fun e w' => e = .returned (.tuple #[.agg #[.int .i64 0, .int .i64 0, .int .i64 0], .agg #[.int .i64 0, .int .i64 0, .int .i64 0], .iface 50 (.int .i64 (poolE s r 0))]) ∧ Below u.heap.size u w') := fun u => by
      have := hT s r 0 m u
      simp only [k1, okN, if_neg hb, errV_ne hb] at this
      exact this
    have C1 : Hid (∀ u : World, Calls Try.prog 11 #[.agg #[.int .i64 s, .int .i64 r, .int .i64 0]] u fun e w' => e = .returned (.iface 50 (.int .i64 (poolE s r 0))) ∧ Below u.heap.size u w') := fun u => by
      have := hC s r 0 u
      rw [errV_ne hb] at this
      exact this
    clear hC hT k1
    generalize poolE s r 0 = er at *
    go_enter Try.func5, Try.ntmps5
    go_wp2_with fail
    refine (T1.out _).mono ?_
    rintro e w1 ⟨rfl, hw1⟩
    have z1 : w.heap.size < w1.heap.size := by have := hw1.size; simp at this; omega
    have z2 : w.heap.size < w1.heap.size + 1 := by omega
    have B1 : Hid (Below w.heap.size w w1) := ((Below.refl _ _).alloc (Nat.le_refl _) _).trans (hw1.mono (by simp))
    obtain ⟨hc1, hf1⟩ := bcell hw1
    clear hw1
    go_wp2_with fail
    refine (C1.out _).mono ?_
    rintro e w2 ⟨rfl, hw2⟩
    have B2 : Hid (Below w.heap.size w w2) := ((B1.out.alloc (by omega) _).alloc (by simp; omega) _).trans (hw2.mono (by simp; omega))
    clear hw2
    go_wp2
    go_ret
    exact ⟨Ns.ret_bool rfl, B2.out⟩
end Ev
end Go.Proofs.Ytoahbapdcghokaf
