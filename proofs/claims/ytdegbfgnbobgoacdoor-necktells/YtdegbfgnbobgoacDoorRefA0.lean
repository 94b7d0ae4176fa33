/- The document's common, Frac and Order (package fairref1). -/
import Derived.Test.YtdegbfgnbobgoacDoorFracA
import Derived.Test.YtdegbfgnbobgoacDoorPlains
namespace Go.Proofs.YtdegbfgnbobgoacDoor
namespace Fr
open Go.RowKit
set_option linter.unusedSimpArgs false
set_option linter.unusedVariables false

set_option maxHeartbeats 400000 in
theorem common_nat (a b : Nat) (w : World) (ha : a ≤ 9223372036854775807) (hb : b ≤ 9223372036854775807) :
    Calls Tryd.prog 31 #[.int .i64 a, .int .i64 b] w fun e w' => e = .returned (.int .i64 (Nat.gcd a b)) ∧ w' = w := by
  have h0 : ¬ (a : Int) < 0 := by omega
  go_enter Tryd.func31, Tryd.ntmps31
  go_wp2
  go_loop [0, 1] (fun x y => ∃ p q : Nat, x = .int .i64 p ∧ y = .int .i64 q ∧ p ≤ 9223372036854775807 ∧ q ≤ 9223372036854775807 ∧ Hid (Nat.gcd p q = Nat.gcd a b)) (fun x _ => (intOf x).toNat)
  case atStart => exact ⟨a, b, rfl, rfl, ha, hb, rfl⟩
  case round =>
    obtain ⟨p, q, rfl, rfl, hp, hq, hg⟩ := hrel
    by_cases hz : p = 0
    · subst hz
      go_wp2
      go_ret
      refine ⟨ret_int ?_, rfl⟩
      have := hg.out
      rw [Nat.gcd_zero_left] at this
      rw [this]
    · have hq1 : (1 : Int) ≤ (p : Int) := by omega
      have hne : ((p : Int) == 0) = false := by simp; omega
      go_wp2
      go_round
      case rel =>
        refine ⟨q % p, p, by go_num, rfl, ?_, hp, ?_⟩
        · have := Nat.mod_lt q (show p > 0 by omega); omega
        · have := hg.out; show Nat.gcd (q % p) p = Nat.gcd a b; rw [← this, ← Nat.gcd_rec]
      case measure =>
        have := Nat.mod_lt q (show p > 0 by omega)
        show ((q : Int) % (p : Int)).toNat < ((p : Int)).toNat
        omega

set_option maxHeartbeats 400000 in
theorem common_neg (a b : Nat) (w : World) (ha : a ≤ 9223372036854775807) (h1 : 1 ≤ a) (hb : b ≤ 9223372036854775807) :
    Calls Tryd.prog 31 #[.int .i64 (-(a : Int)), .int .i64 b] w fun e w' => e = .returned (.int .i64 (Nat.gcd a b)) ∧ w' = w := by
  have h0 : -(a : Int) < 0 := by omega
  go_enter Tryd.func31, Tryd.ntmps31
  go_wp2
  go_loop [0, 1] (fun x y => ∃ p q : Nat, x = .int .i64 p ∧ y = .int .i64 q ∧ p ≤ 9223372036854775807 ∧ q ≤ 9223372036854775807 ∧ Hid (Nat.gcd p q = Nat.gcd a b)) (fun x _ => (intOf x).toNat)
  case atStart => exact ⟨a, b, by simp, rfl, ha, hb, rfl⟩
  case round =>
    obtain ⟨p, q, rfl, rfl, hp, hq, hg⟩ := hrel
    by_cases hz : p = 0
    · subst hz
      go_wp2
      go_ret
      refine ⟨ret_int ?_, rfl⟩
      have := hg.out
      rw [Nat.gcd_zero_left] at this
      rw [this]
    · have hq1 : (1 : Int) ≤ (p : Int) := by omega
      have hne : ((p : Int) == 0) = false := by simp; omega
      go_wp2
      go_round
      case rel =>
        refine ⟨q % p, p, by go_num, rfl, ?_, hp, ?_⟩
        · have := Nat.mod_lt q (show p > 0 by omega); omega
        · have := hg.out; show Nat.gcd (q % p) p = Nat.gcd a b; rw [← this, ← Nat.gcd_rec]
      case measure =>
        have := Nat.mod_lt q (show p > 0 by omega)
        show ((q : Int) % (p : Int)).toNat < ((p : Int)).toNat
        omega

theorem common_any (t b : Int) (w : World) (h1 : -1000000000000000000 ≤ t) (h2 : t ≤ 1000000000000000000) (h3 : 0 ≤ b) (h4 : b ≤ 1000000000000000000) :
    Calls Tryd.prog 31 #[.int .i64 t, .int .i64 b] w fun e w' => e = .returned (.int .i64 (gd t b)) ∧ w' = w := by
  obtain ⟨q, rfl⟩ := Int.eq_ofNat_of_zero_le h3
  by_cases h : 0 ≤ t
  · obtain ⟨p, rfl⟩ := Int.eq_ofNat_of_zero_le h
    exact common_nat p q w (by omega) (by omega)
  · obtain ⟨p, hp⟩ := Int.eq_ofNat_of_zero_le (show 0 ≤ -t by omega)
    obtain rfl : t = -(p : Int) := by omega
    have := common_neg p q w (by omega) (by omega) (by omega)
    have e : gd (-(p : Int)) (q : Int) = (Nat.gcd p q : Int) := by rw [gd_neg]; rfl
    rw [e]
    exact this

theorem isLow_iff {t b : Int} (hb : 1 ≤ b) : isLow t b = true ↔ gd t b = 1 := by
  simp only [isLow, decide_eq_true_eq]
  constructor
  · rintro ⟨h1, h2⟩
    have := low_coprime (t := t) hb
    rw [← h1, ← h2] at this
    exact this
  · intro h
    obtain ⟨l1, l2⟩ := low_self h
    exact ⟨l1.symm, l2.symm⟩

set_option maxHeartbeats 400000 in
theorem RFrac_any (t b : Int) (w : World) :
    Calls Tryd.prog 15 #[.agg #[.int .i64 t, .int .i64 b]] w fun e w' => e = .returned (.int .i64 (fault t b)) ∧ Below w.heap.size w w' := by
  by_cases hm : mayB t b = true
  · obtain ⟨m1, m2, m3, m4⟩ := mayB_iff.1 hm
    by_cases hg : gd t b = 1
    · have HF : Hid (fault t b = 0) := fault_iff.2 ⟨hm, hg⟩
      have HG : Hid (gd t b = 1) := hg
      clear hm hg
      go_enter Tryd.func15, Tryd.ntmps15
      go_wp2_with fail
      refine (common_any t b _ (by omega) (by omega) (by omega) (by omega)).mono ?_
      rintro e w1 ⟨rfl, rfl⟩
      rw [HG.out]
      go_wp2
      go_ret
      exact ⟨ret_int HF.out.symm, (Below.refl _ _).alloc (Nat.le_refl _) _⟩
    · have HF : Hid (fault t b = 3) := by
        show fault t b = 3
        rw [fault, if_pos hm, if_neg]
        intro h; exact hg ((isLow_iff m1).1 h)
      have hn : (gd t b != 1) = true := by simpa using hg
      clear hm hg
      go_enter Tryd.func15, Tryd.ntmps15
      go_wp2_with fail
      refine (common_any t b _ (by omega) (by omega) (by omega) (by omega)).mono ?_
      rintro e w1 ⟨rfl, rfl⟩
      go_wp2
      go_ret
      exact ⟨ret_int HF.out.symm, (Below.refl _ _).alloc (Nat.le_refl _) _⟩
  · have HF : Hid (fault t b = 1) := by
      show fault t b = 1
      rw [fault, if_neg hm]
    have hm' : ¬ (1 ≤ b ∧ b ≤ 100000000 ∧ -1000000000 ≤ t ∧ t ≤ 1000000000) := fun h => hm (mayB_iff.2 h)
    have hw : b < 1 ∨ (1 ≤ b ∧ 100000000 < b) ∨ (1 ≤ b ∧ b ≤ 100000000 ∧ t < -1000000000) ∨ (1 ≤ b ∧ b ≤ 100000000 ∧ -1000000000 ≤ t ∧ 1000000000 < t) := by omega
    clear hm hm'
    rcases hw with h | ⟨h, h'⟩ | ⟨h, h', h''⟩ | ⟨h, h', h'', h'''⟩
    all_goals
      go_enter Tryd.func15, Tryd.ntmps15
      go_wp2
      go_ret
      exact ⟨ret_int HF.out.symm, (Below.refl _ _).alloc (Nat.le_refl _) _⟩

set_option maxHeartbeats 400000 in
theorem Order_any (t b u c : Int) (w : World) (f1 : fault t b = 0) (f2 : fault u c = 0) :
    Calls Tryd.prog 22 #[.agg #[.int .i64 t, .int .i64 b], .agg #[.int .i64 u, .int .i64 c]] w fun e w' => e = .returned (.int .i64 (cmpI (t * c) (u * b))) ∧ Below w.heap.size w w' := by
  obtain ⟨m1, m2, m3, m4⟩ := fault_0 f1
  obtain ⟨n1, n2, n3, n4⟩ := fault_0 f2
  obtain ⟨q1, q2⟩ := mul_bd (t := t) (c := c) (A := 1000000000) (C := 100000000) (by omega) (by omega) (by omega) (by omega)
  obtain ⟨q3, q4⟩ := mul_bd (t := u) (c := b) (A := 1000000000) (C := 100000000) (by omega) (by omega) (by omega) (by omega)
  clear f1 f2
  by_cases h1 : t * c < u * b
  · have HR : Hid (cmpI (t * c) (u * b) = -1) := by show cmpI _ _ = -1; simp [cmpI, h1]
    go_enter Tryd.func22, Tryd.ntmps22
    go_wp2
    go_ret
    exact ⟨ret_int HR.out.symm, ((Below.refl _ _).alloc (Nat.le_refl _) _).alloc (by simp) _⟩
  · by_cases h2 : u * b < t * c
    · have HR : Hid (cmpI (t * c) (u * b) = 1) := by show cmpI _ _ = 1; simp [cmpI, h1, h2]
      go_enter Tryd.func22, Tryd.ntmps22
      go_wp2
      go_ret
      exact ⟨ret_int HR.out.symm, ((Below.refl _ _).alloc (Nat.le_refl _) _).alloc (by simp) _⟩
    · have HR : Hid (cmpI (t * c) (u * b) = 0) := by show cmpI _ _ = 0; simp [cmpI, h1, h2]
      go_enter Tryd.func22, Tryd.ntmps22
      go_wp2
      go_ret
      exact ⟨ret_int HR.out.symm, ((Below.refl _ _).alloc (Nat.le_refl _) _).alloc (by simp) _⟩

end Fr
end Go.Proofs.YtdegbfgnbobgoacDoor
