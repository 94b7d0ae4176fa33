/- The law MarkEven returns true for every input, from what is asked of package mark's Count. -/
import Derived.Test.YtedplgkohppakagPlains
import Derived.Deep.DeepCutAuto
namespace Go.Proofs.Ytedplgkohppakag
namespace Ev
open Go.RowKit Fr Ns Ld Fl
set_option linter.unusedSimpArgs false
set_option linter.unusedVariables false

theorem me_fact : mcntE 500 0 7 = 0 ∧ cntM 500 0 (7 : Int).toNat = 3 := by decide +kernel
theorem mcntE_0 {f a m : Int} : mcntE f a m = 0 ↔ 0 ≤ f ∧ f ≤ 1000 ∧ 0 ≤ a ∧ a ≤ 10000 ∧ 0 ≤ m ∧ m ≤ 10000 := by
  unfold mcntE
  split <;> constructor <;> intro hh <;> omega

set_option maxRecDepth 100000 in
set_option maxHeartbeats 4000000 in
theorem markEven_walk (hC : MCountSaid) (f a m g : Int) (w : World) :
    Calls Try.prog 3 #[.int .i64 f, .int .i64 a, .int .i64 m, .int .i64 g] w fun e w' => e = .returned (.bool true) ∧ Below w.heap.size w w' := by
  have HF : Hid (∀ u : World, Calls Try.prog 5 #[.int .i64 500, .int .i64 0, .int .i64 7] u fun e w' => e = .returned (.tuple #[.int .i64 3, .nilIface]) ∧ Below u.heap.size u w') := fun u => by
    have := hC 500 0 7 u
    rw [me_fact.1, me_fact.2, errV_0] at this
    exact this
  by_cases he : mcntE f a m = 0
  · obtain ⟨f0, f1, a0, a1, m0, m1⟩ := mcntE_0.1 he
    obtain ⟨n, rfl⟩ : ∃ n : Nat, m = n := ⟨m.toNat, by omega⟩
    have he2 : mcntE f a 1000 = 0 := mcntE_0.2 (by omega)
    have he3 : mcntE f 0 n = 0 := mcntE_0.2 (by omega)
    have hev := cnt_even f0 f1 a n
    have hth := cnt_thousand f0 f1 a
    have C1 : Hid (∀ u : World, Calls Try.prog 5 #[.int .i64 f, .int .i64 a, .int .i64 n] u fun e w' => e = .returned (.tuple #[.int .i64 (cntM f a n), .nilIface]) ∧ Below u.heap.size u w') := fun u => by
      have := hC f a n u
      rw [he, errV_0, Int.toNat_natCast] at this
      exact this
    have C2 : Hid (∀ u : World, Calls Try.prog 5 #[.int .i64 f, .int .i64 a, .int .i64 1000] u fun e w' => e = .returned (.tuple #[.int .i64 f, .nilIface]) ∧ Below u.heap.size u w') := fun u => by
      have := hC f a 1000 u
      rw [he2, errV_0, show (1000 : Int).toNat = 1000 from rfl, hth] at this
      exact this
    have C3 : Hid (∀ u : World, Calls Try.prog 5 #[.int .i64 f, .int .i64 0, .int .i64 n] u fun e w' => e = .returned (.tuple #[.int .i64 (cntM f 0 n), .nilIface]) ∧ Below u.heap.size u w') := fun u => by
      have := hC f 0 n u
      rw [he3, errV_0, Int.toNat_natCast] at this
      exact this
    have C4 : Hid (∀ u : World, Calls Try.prog 5 #[.int .i64 g, .int .i64 0, .int .i64 n] u fun e w' => e = .returned (.tuple #[.int .i64 (okN (mcntE g 0 n) (cntM g 0 n)), errV (mcntE g 0 n)]) ∧ Below u.heap.size u w') := fun u => by
      have := hC g 0 n u
      rw [Int.toNat_natCast] at this
      exact this
    have HG : Hid (mcntE g 0 n = 0 → (f ≤ g ∧ cntM f 0 n ≤ cntM g 0 n) ∨ (¬ f ≤ g ∧ f ≥ g ∧ cntM f 0 n ≥ cntM g 0 n)) := fun hg => by
      obtain ⟨g0, g1, _⟩ := mcntE_0.1 hg
      by_cases hc : f ≤ g
      · exact .inl ⟨hc, cnt_more f0 hc g1 n⟩
      · exact .inr ⟨hc, by omega, cnt_more g0 (by omega) f1 n⟩
    have p1 : 0 ≤ f * (n : Int) := Int.mul_nonneg f0 (by omega)
    have p2 : f * (n : Int) ≤ 1000 * 10000 := Int.mul_le_mul f1 (by omega) (by omega) (by decide)
    obtain ⟨P, hP⟩ : ∃ P, Hid (f * (n : Int) = P) := ⟨_, rfl⟩
    rw [hP.out] at p1 p2 hev
    have w1 : IntKind.i64.wrap (f * (n : Int)) = P := by rw [IntKind.wrap_i64, hP.out]; omega
    have t1 : P.tdiv 1000 = P / 1000 := Int.tdiv_eq_ediv_of_nonneg p1
    have w2 : IntKind.i64.wrap (P / 1000) = P / 1000 := by rw [IntKind.wrap_i64]; omega
    have w3 : IntKind.i64.wrap (P / 1000 + 1) = P / 1000 + 1 := by rw [IntKind.wrap_i64]; omega
    have n1 : ¬ f < 0 := by omega
    have n2 : ¬ 1000 < f := by omega
    have n3 : ¬ (n : Int) < 0 := by omega
    have n4 : ¬ (10000 : Int) < (n : Int) := by omega
    generalize cntM f a n = c1 at *
    generalize cntM f 0 n = c3 at *
    generalize cntM g 0 n = c4 at *
    generalize mcntE g 0 n = eg at *
    clear hC he he2 he3 hth f0 f1 a0 a1 m0 m1 p1 p2
    generalize P / 1000 = k at *
    have hcase : (c1 = k) ∨ (c1 ≠ k ∧ c1 = k + 1) := by omega
    have hfin : (eg ≠ 0) ∨ (eg = 0 ∧ f ≤ g ∧ c3 ≤ c4) ∨ (eg = 0 ∧ ¬ f ≤ g ∧ f ≥ g ∧ c3 ≥ c4) := by
      by_cases h0 : eg = 0
      · rcases HG.out h0 with h | h
        · exact .inr (.inl ⟨h0, h⟩)
        · exact .inr (.inr ⟨h0, h⟩)
      · exact .inl h0
    clear hev HG
    go_enter Try.func3, Try.ntmps3
    go_wp2_with fail
    refine (HF.out _).mono ?_
    rintro e w1' ⟨rfl, hw1⟩
    have B1 : Hid (Below w.heap.size w w1') := hw1
    clear hw1
    go_wp2_with fail
    refine (C1.out _).mono ?_
    rintro e w2' ⟨rfl, hw2⟩
    have B2 : Hid (Below w.heap.size w w2') := Bel.call B1.out (Nat.le_refl _) hw2
    clear hw2
    go_upto_region 8 with fail
    go_cut [69] (fun s69 wc => s69 = .bool false ∧ Hid (wc = w2'))
    case first =>
      as_aux_lemma =>
        rcases hcase with rfl | ⟨h1, rfl⟩
        · have q1 : (c1 != c1) = false := by simp
          go_wp2
          go_meet
          case rel => exact ⟨rfl, rfl⟩
        · have q1 : (k + 1 != k) = true := by simp; omega
          have q2 : (k + 1 != k + 1) = false := by simp
          go_wp2
          go_meet
          case rel => exact ⟨rfl, rfl⟩
    case rest =>
      as_aux_lemma =>
        obtain ⟨rfl, hw2⟩ := hcut
        obtain rfl := hw2.out
        obtain ⟨w2', rfl⟩ : ∃ x : World, x = wc := ⟨_, rfl⟩
        have q0 : (f != f) = false := by simp
        clear hcase
        go_wp2_with fail
        refine (C2.out _).mono ?_
        rintro e w3' ⟨rfl, hw3⟩
        have B3 : Hid (Below w.heap.size w w3') := Bel.call B2.out (Nat.le_refl _) hw3
        clear hw3
        go_wp2_with fail
        refine (C3.out _).mono ?_
        rintro e w4' ⟨rfl, hw4⟩
        have B4 : Hid (Below w.heap.size w w4') := Bel.call B3.out (Nat.le_refl _) hw4
        clear hw4
        go_wp2_with fail
        refine (C4.out _).mono ?_
        rintro e w5' ⟨rfl, hw5⟩
        have B5 : Hid (Below w.heap.size w w5') := Bel.call B4.out (Nat.le_refl _) hw5
        clear hw5
        rcases hfin with h0 | ⟨h0, h1, h2⟩ | ⟨h0, h1, h2, h3⟩
        · rw [errV_ne h0]
          generalize okN eg c4 = c5 at *
          go_wp2
          go_ret
          exact ⟨Ns.ret_bool rfl, B5.out⟩
        · subst h0
          rw [errV_0, show okN 0 c4 = c4 from if_pos rfl]
          go_wp2
          go_ret
          exact ⟨Ns.ret_bool rfl, B5.out⟩
        · subst h0
          rw [errV_0, show okN 0 c4 = c4 from if_pos rfl]
          go_wp2
          go_ret
          exact ⟨Ns.ret_bool rfl, B5.out⟩
  · have C1 : Hid (∀ u : World, Calls Try.prog 5 #[.int .i64 f, .int .i64 a, .int .i64 m] u fun e w' => e = .returned (.tuple #[.int .i64 0, .iface 34 (.int .i64 (mcntE f a m))]) ∧ Below u.heap.size u w') := fun u => by
      have := hC f a m u
      rw [okN, if_neg he, errV_ne he] at this
      exact this
    clear hC
    generalize mcntE f a m = er at *
    go_enter Try.func3, Try.ntmps3
    go_wp2_with fail
    refine (HF.out _).mono ?_
    rintro e w1 ⟨rfl, hw1⟩
    have B1 : Hid (Below w.heap.size w w1) := hw1
    clear hw1
    go_wp2_with fail
    refine (C1.out _).mono ?_
    rintro e w2 ⟨rfl, hw2⟩
    have B2 : Hid (Below w.heap.size w w2) := Bel.call B1.out (Nat.le_refl _) hw2
    clear hw2
    go_wp2
    go_ret
    exact ⟨Ns.ret_bool rfl, B2.out⟩
end Ev
end Go.Proofs.Ytedplgkohppakag
