/- Contracts of the small functions of package frac: the bounds, the divisor, lowest terms. -/
import Derived.Test.YtdldgefahgojaakDoorChecked
import Derived.Test.YtdldgefahgojaakDoorPlains
import Derived.WalkKit
import Derived.WalkSpells
import Derived.WalkLawsBesides
import Derived.Deep.QuietTactic
import Derived.BigQuiet
namespace Go.Proofs.YtdldgefahgojaakDoor
namespace Fr
open Go.RowKit

theorem ret_int {k : IntKind} {a b : Int} (h : a = b) : Ending.returned (.int k a) = .returned (.int k b) := by rw [h]
theorem ret_bool {a b : Bool} (h : a = b) : Ending.returned (.bool a) = .returned (.bool b) := by rw [h]

set_option maxHeartbeats 400000 in
theorem mayBe_any (t b : Int) (w : World) :
    Calls Tryd.prog 30 #[.int .i64 t, .int .i64 b] w fun e w' => e = .returned (.bool (mayB t b)) ∧ w' = w := by
  go_enter Tryd.func30, Tryd.ntmps30
  go_wp2
  all_goals
    go_ret
    refine ⟨ret_bool ?_, rfl⟩
    simp only [mayB]
    first | (apply decide_eq_decide.2; omega) | (symm; apply decide_eq_false; omega)

set_option maxHeartbeats 400000 in
theorem isNaN_any (x : Int) (w : World) :
    Calls Tryd.prog 82 #[.int .i64 x] w fun e w' => e = .returned (.bool false) ∧ w' = w := by
  go_enter Tryd.func82, Tryd.ntmps82
  go_wp2
  go_ret
  exact ⟨by simp, rfl⟩

set_option maxHeartbeats 400000 in
theorem divisor_any (a b : Nat) (w : World) (ha : a ≤ 9223372036854775807) (hb : b ≤ 9223372036854775807) :
    Calls Tryd.prog 48 #[.int .i64 a, .int .i64 b] w fun e w' => e = .returned (.int .i64 (Nat.gcd a b)) ∧ ∃ n, w' = w.drewN n := by
  go_enter Tryd.func48, Tryd.ntmps48
  go_wp2
  go_loopw [0, 1] (fun x y wr => ∃ p q n : Nat, x = .int .i64 p ∧ y = .int .i64 q ∧ p ≤ 9223372036854775807 ∧ q ≤ 9223372036854775807 ∧ Hid (Nat.gcd p q = Nat.gcd a b) ∧ wr = w.drewN n) (fun _ y _ => (intOf y).toNat)
  case atStart => exact ⟨a, b, 0, rfl, rfl, ha, hb, rfl, rfl⟩
  case round =>
    obtain ⟨p, q, n, rfl, rfl, hp, hq, hg, rfl⟩ := hrel
    by_cases hz : q = 0
    · subst hz
      go_wp2
      go_ret
      refine ⟨ret_int ?_, n, rfl⟩
      have := hg.out
      rw [Nat.gcd_zero_right] at this
      rw [this]
    · have hq1 : (1 : Int) ≤ (q : Int) := by omega
      have hne : ((q : Int) == 0) = false := by simp; omega
      go_wp2
      go_quiet (fail)
      go_wp2
      go_roundw
      case rel =>
        refine ⟨q, p % q, n + nq, rfl, by go_num, hq, ?_, ?_, by simp⟩
        · have := Nat.mod_lt p (show q > 0 by omega); omega
        · have := hg.out; show Nat.gcd q (p % q) = Nat.gcd a b; rw [← this, Nat.gcd_comm, ← Nat.gcd_rec, Nat.gcd_comm]
      case measure =>
        have := Nat.mod_lt p (show q > 0 by omega)
        show ((p : Int) % (q : Int)).toNat < ((q : Int)).toNat
        omega

theorem divisor_int (x y : Int) (w : World) (hx : 0 ≤ x) (hx' : x ≤ 9223372036854775807) (hy : 0 ≤ y) (hy' : y ≤ 9223372036854775807) :
    Calls Tryd.prog 48 #[.int .i64 x, .int .i64 y] w fun e w' => e = .returned (.int .i64 (gd x y)) ∧ ∃ n, w' = w.drewN n := by
  obtain ⟨a, rfl⟩ := Int.eq_ofNat_of_zero_le hx
  obtain ⟨b, rfl⟩ := Int.eq_ofNat_of_zero_le hy
  exact divisor_any a b w (by omega) (by omega)

/-- the call of the built-in max, then the divisor -/
theorem max_abs (t : Int) : max t (-t) = (t.natAbs : Int) := by omega

set_option maxHeartbeats 400000 in
theorem lowest_any (t b : Int) (w : World) (h1 : -1000000000000000000 ≤ t) (h2 : t ≤ 1000000000000000000) (h3 : 1 ≤ b) (h4 : b ≤ 1000000000000000000) :
    Calls Tryd.prog 31 #[.int .i64 t, .int .i64 b] w fun e w' => e = .returned (.agg #[.int .i64 (lowT t b), .int .i64 (lowB t b)]) ∧ Below w.heap.size w w' := by
  have hg1 := gd_pos (t := t) h3
  by_cases h0 : 0 ≤ t
  · go_enter Tryd.func31, Tryd.ntmps31
    go_wp2_with fail
    refine (divisor_int t b _ (by omega) (by omega) (by omega) (by omega)).mono ?_
    rintro e w1 ⟨rfl, n, rfl⟩
    go_wp2
    go_region
    go_wp2
    exact bodyPost_ret (v := .agg #[.int .i64 (lowT t b), .int .i64 (lowB t b)]) (by simp [results, Tryd.results31, go_sem, lowT, lowB]) rfl ⟨rfl, ((below_drewN ((Below.refl _ _).alloc (Nat.le_refl _) _) _).setCell (Nat.le_refl _) _).setCell (Nat.le_refl _) _⟩
  · have h0' : t < 0 := by omega
    go_enter Tryd.func31, Tryd.ntmps31
    go_wp2_with fail
    refine (divisor_int (-t) b _ (by omega) (by omega) (by omega) (by omega)).mono ?_
    rintro e w1 ⟨rfl, n, rfl⟩
    rw [gd_neg]
    go_wp2
    go_region
    go_wp2
    exact bodyPost_ret (v := .agg #[.int .i64 (lowT t b), .int .i64 (lowB t b)]) (by simp [results, Tryd.results31, go_sem, lowT, lowB, tdiv_gd]) rfl ⟨rfl, ((below_drewN ((Below.refl _ _).alloc (Nat.le_refl _) _) _).setCell (Nat.le_refl _) _).setCell (Nat.le_refl _) _⟩
end Fr
end Go.Proofs.YtdldgefahgojaakDoor
