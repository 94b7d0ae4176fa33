/- The document's common (package fairref1). -/
import Derived.Test.YtpnmmmlckdkcdakGreatDoorFracAll
import Derived.Test.YtpnmmmlckdkcdakGreatDoorPlains
namespace Go.Proofs.YtpnmmmlckdkcdakGreatDoor
namespace Fr
open Go.RowKit
set_option linter.unusedSimpArgs false
set_option linter.unusedVariables false

set_option maxHeartbeats 400000 in
theorem common_nat (a b : Nat) (w : World) (ha : a ≤ 9223372036854775807) (hb : b ≤ 9223372036854775807) :
    Calls Tryz.prog 62 #[.int .i64 a, .int .i64 b] w fun e w' => e = .returned (.int .i64 (Nat.gcd a b)) ∧ w' = w := by
  have h0 : ¬ (a : Int) < 0 := by omega
  go_enter Tryz.func62, Tryz.ntmps62
  go_wp2
  go_loop [0, 1] (fun x y => ∃ p q : Nat, x = .int .i64 p ∧ y = .int .i64 q ∧ p ≤ 9223372036854775807 ∧ q ≤ 9223372036854775807 ∧ Hid (Nat.gcd p q = Nat.gcd a b)) (fun x _ => (intOf x).toNat)
  case atStart => exact ⟨a, b, rfl, rfl, ha, hb, rfl⟩
  case round =>
    obtain ⟨p, q, rfl, rfl, hp, hq, hg⟩ := hrel
    by_cases hz : p = 0
    · subst hz
      go_wp2
      go_ret
      refine ⟨ret_int ?_, rfl⟩
      have := hg.out
      rw [Nat.gcd_zero_left] at this
      rw [this]
    · have hq1 : (1 : Int) ≤ (p : Int) := by omega
      have hne : ((p : Int) == 0) = false := by simp; omega
      go_wp2
      go_round
      case rel =>
        refine ⟨q % p, p, by go_num, rfl, ?_, hp, ?_⟩
        · have := Nat.mod_lt q (show p > 0 by omega); omega
        · have := hg.out; show Nat.gcd (q % p) p = Nat.gcd a b; rw [← this, ← Nat.gcd_rec]
      case measure =>
        have := Nat.mod_lt q (show p > 0 by omega)
        show ((q : Int) % (p : Int)).toNat < ((p : Int)).toNat
        omega

set_option maxHeartbeats 400000 in
theorem common_neg (a b : Nat) (w : World) (ha : a ≤ 9223372036854775807) (h1 : 1 ≤ a) (hb : b ≤ 9223372036854775807) :
    Calls Tryz.prog 62 #[.int .i64 (-(a : Int)), .int .i64 b] w fun e w' => e = .returned (.int .i64 (Nat.gcd a b)) ∧ w' = w := by
  have h0 : -(a : Int) < 0 := by omega
  go_enter Tryz.func62, Tryz.ntmps62
  go_wp2
  go_loop [0, 1] (fun x y => ∃ p q : Nat, x = .int .i64 p ∧ y = .int .i64 q ∧ p ≤ 9223372036854775807 ∧ q ≤ 9223372036854775807 ∧ Hid (Nat.gcd p q = Nat.gcd a b)) (fun x _ => (intOf x).toNat)
  case atStart => exact ⟨a, b, by simp, rfl, ha, hb, rfl⟩
  case round =>
    obtain ⟨p, q, rfl, rfl, hp, hq, hg⟩ := hrel
    by_cases hz : p = 0
    · subst hz
      go_wp2
      go_ret
      refine ⟨ret_int ?_, rfl⟩
      have := hg.out
      rw [Nat.gcd_zero_left] at this
      rw [this]
    · have hq1 : (1 : Int) ≤ (p : Int) := by omega
      have hne : ((p : Int) == 0) = false := by simp; omega
      go_wp2
      go_round
      case rel =>
        refine ⟨q % p, p, by go_num, rfl, ?_, hp, ?_⟩
        · have := Nat.mod_lt q (show p > 0 by omega); omega
        · have := hg.out; show Nat.gcd (q % p) p = Nat.gcd a b; rw [← this, ← Nat.gcd_rec]
      case measure =>
        have := Nat.mod_lt q (show p > 0 by omega)
        show ((q : Int) % (p : Int)).toNat < ((p : Int)).toNat
        omega

theorem common_any (t b : Int) (w : World) (h1 : -1000000000000000000 ≤ t) (h2 : t ≤ 1000000000000000000) (h3 : 0 ≤ b) (h4 : b ≤ 1000000000000000000) :
    Calls Tryz.prog 62 #[.int .i64 t, .int .i64 b] w fun e w' => e = .returned (.int .i64 (gd t b)) ∧ w' = w := by
  obtain ⟨q, rfl⟩ := Int.eq_ofNat_of_zero_le h3
  by_cases h : 0 ≤ t
  · obtain ⟨p, rfl⟩ := Int.eq_ofNat_of_zero_le h
    exact common_nat p q w (by omega) (by omega)
  · obtain ⟨p, hp⟩ := Int.eq_ofNat_of_zero_le (show 0 ≤ -t by omega)
    obtain rfl : t = -(p : Int) := by omega
    have := common_neg p q w (by omega) (by omega) (by omega)
    have e : gd (-(p : Int)) (q : Int) = (Nat.gcd p q : Int) := by rw [gd_neg]; rfl
    rw [e]
    exact this
end Fr
end Go.Proofs.YtpnmmmlckdkcdakGreatDoor
