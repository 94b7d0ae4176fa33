/- Package source's small parts: what is within, what may be, what Check and checkMove tell. -/
import Derived.Test.YtkpmjmgmgkdfnajDoorPlains
import Derived.Lib.MinMax
namespace Go.Proofs.YtkpmjmgmgkdfnajDoor
namespace Ev
open Go.RowKit Fr Ns Ld Fl
set_option linter.unusedSimpArgs false
set_option linter.unusedVariables false

theorem swithin_any (n a b : Int) (w : World) :
    Calls Tryd.prog 40 #[.int .i64 n, .int .i64 a, .int .i64 b] w fun e w' => e = .returned (.bool (inR n a b)) ∧ w' = w := by
  have HR : Hid (inR n a b = (decide (a ≤ n) && decide (n ≤ b))) := rfl
  by_cases h1 : a ≤ n
  · go_enter Tryd.func40, Tryd.ntmps40
    go_wp2
    go_ret
    exact ⟨ret_bool (by rw [HR.out]; simp [h1]; try omega), rfl⟩
  · go_enter Tryd.func40, Tryd.ntmps40
    go_wp2
    go_ret
    exact ⟨ret_bool (by rw [HR.out]; simp [h1]; try omega), rfl⟩
theorem swithin_is {n a b : Int} {x : Bool} (h : inR n a b = x) (w : World) :
    Calls Tryd.prog 40 #[.int .i64 n, .int .i64 a, .int .i64 b] w fun e w' => e = .returned (.bool x) ∧ w' = w := by
  rw [← h]; exact swithin_any n a b w
theorem smay_is {n : Int} {x : Bool} (h : inR n 0 10000 = x) (w : World) :
    Calls Tryd.prog 41 #[.int .i64 n] w fun e w' => e = .returned (.bool x) ∧ w' = w := by
  have HM : Hid (∀ u : World, Calls Tryd.prog 40 #[.int .i64 n, .int .i64 0, .int .i64 10000] u fun e w' => e = .returned (.bool x) ∧ w' = u) := fun u => swithin_is h u
  clear h
  go_enter Tryd.func41, Tryd.ntmps41
  go_wp2_with fail
  refine (HM.out _).mono ?_
  rintro e w' ⟨rfl, rfl⟩
  go_wp2
  go_ret
  exact ⟨rfl, rfl⟩
theorem srcE_1 {a b c d : Int} (h : srcE a b c d ≠ 0) : srcE a b c d = 1 := by
  unfold srcE at h ⊢; split <;> simp_all

set_option maxHeartbeats 1000000 in
theorem scheck_said : SCheckSaid := by
  intro a b c d w
  cases h1 : inR a 1 1000 with
  | false =>
    have HE : Hid (srcE a b c d = 1) := by have := inR_0.1 h1; show _ = _; rw [srcE, if_pos (by omega)]
    have H1 : Hid (∀ u : World, Calls Tryd.prog 40 #[.int .i64 a, .int .i64 1, .int .i64 1000] u fun e w' => e = .returned (.bool false) ∧ w' = u) := fun u => swithin_is h1 u
    clear h1
    go_enter Tryd.func34, Tryd.ntmps34
    go_wp2_with fail
    refine (H1.out _).mono ?_
    rintro e w1 ⟨rfl, rfl⟩
    go_wp2
    go_ret
    exact ⟨ret_bk (by rw [HE.out]; rfl), (Below.refl _ _).alloc (Nat.le_refl _) _⟩
  | true =>
    have H1 : Hid (∀ u : World, Calls Tryd.prog 40 #[.int .i64 a, .int .i64 1, .int .i64 1000] u fun e w' => e = .returned (.bool true) ∧ w' = u) := fun u => swithin_is h1 u
    cases h2 : inR b 0 10000 with
    | false =>
      have HE : Hid (srcE a b c d = 1) := by have := inR_0.1 h2; show _ = _; rw [srcE, if_pos (by omega)]
      have H2 : Hid (∀ u : World, Calls Tryd.prog 41 #[.int .i64 b] u fun e w' => e = .returned (.bool false) ∧ w' = u) := fun u => smay_is h2 u
      clear h1 h2
      go_enter Tryd.func34, Tryd.ntmps34
      go_wp2_with fail
      refine (H1.out _).mono ?_
      rintro e w1 ⟨rfl, rfl⟩
      go_wp2_with fail
      refine (H2.out _).mono ?_
      rintro e w1 ⟨rfl, rfl⟩
      go_wp2
      go_ret
      exact ⟨ret_bk (by rw [HE.out]; rfl), (Below.refl _ _).alloc (Nat.le_refl _) _⟩
    | true =>
      have H2 : Hid (∀ u : World, Calls Tryd.prog 41 #[.int .i64 b] u fun e w' => e = .returned (.bool true) ∧ w' = u) := fun u => smay_is h2 u
      cases h3 : inR c 0 10000 with
      | false =>
        have HE : Hid (srcE a b c d = 1) := by have := inR_0.1 h3; show _ = _; rw [srcE, if_pos (by omega)]
        have H3 : Hid (∀ u : World, Calls Tryd.prog 41 #[.int .i64 c] u fun e w' => e = .returned (.bool false) ∧ w' = u) := fun u => smay_is h3 u
        clear h1 h2 h3
        go_enter Tryd.func34, Tryd.ntmps34
        go_wp2_with fail
        refine (H1.out _).mono ?_
        rintro e w1 ⟨rfl, rfl⟩
        go_wp2_with fail
        refine (H2.out _).mono ?_
        rintro e w1 ⟨rfl, rfl⟩
        go_wp2_with fail
        refine (H3.out _).mono ?_
        rintro e w1 ⟨rfl, rfl⟩
        go_wp2
        go_ret
        exact ⟨ret_bk (by rw [HE.out]; rfl), (Below.refl _ _).alloc (Nat.le_refl _) _⟩
      | true =>
        have H3 : Hid (∀ u : World, Calls Tryd.prog 41 #[.int .i64 c] u fun e w' => e = .returned (.bool true) ∧ w' = u) := fun u => smay_is h3 u
        obtain ⟨x, h4⟩ : ∃ x, inR d 0 10000 = x := ⟨_, rfl⟩
        have HE : Hid (srcE a b c d = if x then 0 else 1) := by
          have a1 := inR_1.1 h1
          have a2 := inR_1.1 h2
          have a3 := inR_1.1 h3
          cases x with
          | false => have := inR_0.1 h4; show _ = _; rw [srcE, if_pos (by omega)]; rfl
          | true => have := inR_1.1 h4; show _ = _; rw [srcE, if_neg (by omega)]; rfl
        have H4 : Hid (∀ u : World, Calls Tryd.prog 41 #[.int .i64 d] u fun e w' => e = .returned (.bool x) ∧ w' = u) := fun u => smay_is h4 u
        clear h1 h2 h3 h4
        cases x
        all_goals
          go_enter Tryd.func34, Tryd.ntmps34
          go_wp2_with fail
          refine (H1.out _).mono ?_
          rintro e w1 ⟨rfl, rfl⟩
          go_wp2_with fail
          refine (H2.out _).mono ?_
          rintro e w1 ⟨rfl, rfl⟩
          go_wp2_with fail
          refine (H3.out _).mono ?_
          rintro e w1 ⟨rfl, rfl⟩
          go_wp2_with fail
          refine (H4.out _).mono ?_
          rintro e w1 ⟨rfl, rfl⟩
          go_wp2
          go_ret
          exact ⟨ret_bk (by rw [HE.out]; rfl), (Below.refl _ _).alloc (Nat.le_refl _) _⟩

def movE (a b c d k : Int) : Int := if srcE a b c d = 0 then (if b = 0 then 8 else if k = 10000 then 4 else 0) else srcE a b c d
set_option maxHeartbeats 1000000 in
theorem smove_any (a b c d k : Int) (w : World) :
    Calls Tryd.prog 33 #[.agg #[.int .i64 a, .int .i64 b, .int .i64 c, .int .i64 d], .int .i64 k] w fun e w' => e = .returned (errV (movE a b c d k)) ∧ Below w.heap.size w w' := by
  have HKp : Hid (∀ u : World, Below (w.alloc (.cells #[.int .i64 a, .int .i64 b, .int .i64 c, .int .i64 d] 43)).heap.size (w.alloc (.cells #[.int .i64 a, .int .i64 b, .int .i64 c, .int .i64 d] 43)) u → Below w.heap.size w u ∧ RowAt u w.heap.size 43 [.int .i64 a, .int .i64 b, .int .i64 c, .int .i64 d]) := fun u hu =>
    ⟨((Below.refl _ _).alloc (Nat.le_refl _) _).trans (hu.mono (by simp)), (row_made w _ _ _ _ rfl rfl).later hu (by simp)⟩
  by_cases hk : srcE a b c d = 0
  · have HK : Hid (∀ u : World, Calls Tryd.prog 34 #[.agg #[.int .i64 a, .int .i64 b, .int .i64 c, .int .i64 d]] u fun e w' => e = .returned (.nilIface) ∧ Below u.heap.size u w') := fun u => by have := scheck_said a b c d u; rw [hk, errV_0] at this; exact this
    by_cases h0 : b = 0
    · have HE : Hid (movE a b c d k = 8) := by show _ = _; rw [movE, if_pos hk, if_pos h0]
      clear hk
      subst h0
      go_enter Tryd.func33, Tryd.ntmps33
      go_wp2_with fail
      refine (HK.out _).mono ?_
      rintro e w1 ⟨rfl, hw1⟩
      obtain ⟨b1, R1⟩ := HKp.out _ hw1
      have B1 : Hid (Below w.heap.size w w1) := b1
      obtain ⟨d0, d1, d2, d3, f0, f1, f2, f3, g0⟩ := R1.four
      clear b1 R1 hw1
      go_wp2
      go_ret
      exact ⟨ret_bk (by rw [HE.out]; rfl), B1.out⟩
    · by_cases h1 : k = 10000
      · have HE : Hid (movE a b c d k = 4) := by show _ = _; rw [movE, if_pos hk, if_neg h0, if_pos h1]
        clear hk
        subst h1
        go_enter Tryd.func33, Tryd.ntmps33
        go_wp2_with fail
        refine (HK.out _).mono ?_
        rintro e w1 ⟨rfl, hw1⟩
        obtain ⟨b1, R1⟩ := HKp.out _ hw1
        have B1 : Hid (Below w.heap.size w w1) := b1
        obtain ⟨d0, d1, d2, d3, f0, f1, f2, f3, g0⟩ := R1.four
        clear b1 R1 hw1
        go_wp2
        go_ret
        exact ⟨ret_bk (by rw [HE.out]; rfl), B1.out⟩
      · have HE : Hid (movE a b c d k = 0) := by show _ = _; rw [movE, if_pos hk, if_neg h0, if_neg h1]
        clear hk
        go_enter Tryd.func33, Tryd.ntmps33
        go_wp2_with fail
        refine (HK.out _).mono ?_
        rintro e w1 ⟨rfl, hw1⟩
        obtain ⟨b1, R1⟩ := HKp.out _ hw1
        have B1 : Hid (Below w.heap.size w w1) := b1
        obtain ⟨d0, d1, d2, d3, f0, f1, f2, f3, g0⟩ := R1.four
        clear b1 R1 hw1
        go_wp2
        go_ret
        exact ⟨ret_bk (by rw [HE.out]; rfl), B1.out⟩
  · have hk1 := srcE_1 hk
    have HK : Hid (∀ u : World, Calls Tryd.prog 34 #[.agg #[.int .i64 a, .int .i64 b, .int .i64 c, .int .i64 d]] u fun e w' => e = .returned (.iface 54 (.int .i64 1)) ∧ Below u.heap.size u w') := fun u => by have := scheck_said a b c d u; rw [hk1, errV_ne (by decide)] at this; exact this
    have HE : Hid (movE a b c d k = 1) := by show _ = _; rw [movE, if_neg hk, hk1]
    clear hk hk1
    go_enter Tryd.func33, Tryd.ntmps33
    go_wp2_with fail
    refine (HK.out _).mono ?_
    rintro e w1 ⟨rfl, hw1⟩
    obtain ⟨b1, R1⟩ := HKp.out _ hw1
    have B1 : Hid (Below w.heap.size w w1) := b1
    obtain ⟨d0, d1, d2, d3, f0, f1, f2, f3, g0⟩ := R1.four
    clear b1 R1 hw1
    go_wp2
    go_ret
    exact ⟨ret_bk (by rw [HE.out]; rfl), B1.out⟩
end Ev
end Go.Proofs.YtkpmjmgmgkdfnajDoor
