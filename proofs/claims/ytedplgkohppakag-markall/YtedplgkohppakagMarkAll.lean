/- The law MarkAll returns true for every input, from what is asked of package mark's calls. -/
import Derived.Test.YtedplgkohppakagPlains
namespace Go.Proofs.Ytedplgkohppakag
namespace Ev
open Go.RowKit Fr Ns Ld Fl
set_option linter.unusedSimpArgs false
set_option linter.unusedVariables false

theorem ma_fact : mlstE 500 4 = 0 ∧ markL 500 (4 : Int).toNat = [false, true, false, true] := by decide +kernel
theorem bools_four {w : World} {v : Value} {a b c d : Bool} {Q : Nat → Prop} (h : BoolsAt Q w v [a, b, c, d]) : ∃ g off cap, v = .slice (some ⟨g, off, none⟩) 4 cap ∧ w.cell? ⟨g, off, none⟩ = some (.bool a) ∧ w.cell? ⟨g, off + 1, none⟩ = some (.bool b) ∧ w.cell? ⟨g, off + 2, none⟩ = some (.bool c) ∧ w.cell? ⟨g, off + 3, none⟩ = some (.bool d) := by
  obtain ⟨ad, cap, rfl, _, hc⟩ := h
  rcases hc with h | ⟨g, off, rfl, hc, _⟩
  · cases h
  · exact ⟨g, off, cap, rfl, hc 0 (by simp), hc 1 (by simp), hc 2 (by simp), hc 3 (by simp)⟩

set_option maxRecDepth 100000 in
set_option maxHeartbeats 2000000 in
theorem markAll_walk (hI : MIsSaid) (hL : MListSaid) (i : Int) (w : World) :
    Calls Try.prog 4 #[.int .i64 i] w fun e w' => e = .returned (.bool true) ∧ Below w.heap.size w w' := by
  by_cases hr : i < 0 ∨ 1000000000 < i
  · have e1 : misE 0 i = 1 := by unfold misE; rw [if_pos (by omega)]
    have e2 : misE 1000 i = 1 := by unfold misE; rw [if_pos (by omega)]
    have I1 : Hid (∀ u : World, Calls Try.prog 6 #[.int .i64 0, .int .i64 i] u fun e w' => e = .returned (.tuple #[.bool false, .iface 34 (.int .i64 1)]) ∧ Below u.heap.size u w') := fun u => by
      have := hI 0 i u
      rw [e1, errV_ne (by decide)] at this
      exact this
    have I2 : Hid (∀ u : World, Calls Try.prog 6 #[.int .i64 1000, .int .i64 i] u fun e w' => e = .returned (.tuple #[.bool false, .iface 34 (.int .i64 1)]) ∧ Below u.heap.size u w') := fun u => by
      have := hI 1000 i u
      rw [e2, errV_ne (by decide)] at this
      exact this
    have hor : i < 0 ∨ (¬ i < 0 ∧ 1000000000 < i) := by omega
    clear hI hL hr e1 e2
    rcases hor with c1 | ⟨c1, c2⟩
    all_goals
      go_enter Try.func4, Try.ntmps4
      go_wp2_with fail
      refine (I1.out _).mono ?_
      rintro e w1 ⟨rfl, hw1⟩
      have B1 : Hid (Below w.heap.size w w1) := hw1
      clear hw1
      go_wp2_with fail
      refine (I2.out _).mono ?_
      rintro e w2 ⟨rfl, hw2⟩
      have B2 : Hid (Below w.heap.size w w2) := Bel.call B1.out (Nat.le_refl _) hw2
      clear hw2
      go_wp2
      go_ret
      exact ⟨Ns.ret_bool rfl, B2.out⟩
  · have e1 : misE 0 i = 0 := by unfold misE; rw [if_neg (by omega)]
    have e2 : misE 1000 i = 0 := by unfold misE; rw [if_neg (by omega)]
    have m1 : markB 0 i = false := by unfold markB; simp
    have m2 : markB 1000 i = true := by
      unfold markB
      rw [Int.mul_ediv_cancel _ (by decide), Int.mul_ediv_cancel _ (by decide)]
      simp; omega
    have I1 : Hid (∀ u : World, Calls Try.prog 6 #[.int .i64 0, .int .i64 i] u fun e w' => e = .returned (.tuple #[.bool false, .nilIface]) ∧ Below u.heap.size u w') := fun u => by
      have := hI 0 i u
      rw [e1, errV_0, m1] at this
      exact this
    have I2 : Hid (∀ u : World, Calls Try.prog 6 #[.int .i64 1000, .int .i64 i] u fun e w' => e = .returned (.tuple #[.bool true, .nilIface]) ∧ Below u.heap.size u w') := fun u => by
      have := hI 1000 i u
      rw [e2, errV_0, m2] at this
      exact this
    have L1 : Hid (∀ u : World, Calls Try.prog 7 #[.int .i64 500, .int .i64 4] u fun e w' => ∃ y, e = .returned (.tuple #[y, .nilIface]) ∧ BoolsAt (fun b => u.heap.size ≤ b) w' y [false, true, false, true] ∧ Below u.heap.size u w') := fun u => by
      have := hL 500 4 u
      rw [ma_fact.1, ma_fact.2, errV_0] at this
      exact this
    clear hI hL hr e1 e2 m1 m2
    go_enter Try.func4, Try.ntmps4
    go_wp2_with fail
    refine (I1.out _).mono ?_
    rintro e w1 ⟨rfl, hw1⟩
    have B1 : Hid (Below w.heap.size w w1) := hw1
    clear hw1
    go_wp2_with fail
    refine (I2.out _).mono ?_
    rintro e w2 ⟨rfl, hw2⟩
    have B2 : Hid (Below w.heap.size w w2) := Bel.call B1.out (Nat.le_refl _) hw2
    clear hw2
    go_wp2_with fail
    refine (L1.out _).mono ?_
    rintro e w3 ⟨y, rfl, hy, hw3⟩
    have B3 : Hid (Below w.heap.size w w3) := Bel.call B2.out (Nat.le_refl _) hw3
    obtain ⟨g, off, cap, rfl, c0, c1, c2, c3⟩ := bools_four hy
    clear hw3 hy
    go_wp2
    go_ret
    exact ⟨Ns.ret_bool rfl, B3.out⟩
end Ev
end Go.Proofs.Ytedplgkohppakag
