/- Contracts of the document's answers on fractions (package fairref1: common, Low, Frac, Big, Order, Sum). -/
import Derived.Test.YtinmoocnhgkleabDoorFracA
import Derived.Test.YtinmoocnhgkleabDoorErrV
import Derived.Test.YtinmoocnhgkleabDoorPlains
namespace Go.Proofs.YtinmoocnhgkleabDoor
namespace Fr
open Go.RowKit
set_option linter.unusedSimpArgs false
set_option linter.unusedVariables false

set_option maxHeartbeats 400000 in
theorem common_nat (a b : Nat) (w : World) (ha : a ≤ 9223372036854775807) (hb : b ≤ 9223372036854775807) :
    Calls Tryd.prog 53 #[.int .i64 a, .int .i64 b] w fun e w' => e = .returned (.int .i64 (Nat.gcd a b)) ∧ w' = w := by
  have h0 : ¬ (a : Int) < 0 := by omega
  go_enter Tryd.func53, Tryd.ntmps53
  go_wp2
  go_loop [0, 1] (fun x y => ∃ p q : Nat, x = .int .i64 p ∧ y = .int .i64 q ∧ p ≤ 9223372036854775807 ∧ q ≤ 9223372036854775807 ∧ Hid (Nat.gcd p q = Nat.gcd a b)) (fun x _ => (intOf x).toNat)
  case atStart => exact ⟨a, b, rfl, rfl, ha, hb, rfl⟩
  case round =>
    obtain ⟨p, q, rfl, rfl, hp, hq, hg⟩ := hrel
    by_cases hz : p = 0
    · subst hz
      go_wp2
      go_ret
      refine ⟨ret_int ?_, rfl⟩
      have := hg.out
      rw [Nat.gcd_zero_left] at this
      rw [this]
    · have hq1 : (1 : Int) ≤ (p : Int) := by omega
      have hne : ((p : Int) == 0) = false := by simp; omega
      go_wp2
      go_round
      case rel =>
        refine ⟨q % p, p, by go_num, rfl, ?_, hp, ?_⟩
        · have := Nat.mod_lt q (show p > 0 by omega); omega
        · have := hg.out; show Nat.gcd (q % p) p = Nat.gcd a b; rw [← this, ← Nat.gcd_rec]
      case measure =>
        have := Nat.mod_lt q (show p > 0 by omega)
        show ((q : Int) % (p : Int)).toNat < ((p : Int)).toNat
        omega

set_option maxHeartbeats 400000 in
theorem common_neg (a b : Nat) (w : World) (ha : a ≤ 9223372036854775807) (h1 : 1 ≤ a) (hb : b ≤ 9223372036854775807) :
    Calls Tryd.prog 53 #[.int .i64 (-(a : Int)), .int .i64 b] w fun e w' => e = .returned (.int .i64 (Nat.gcd a b)) ∧ w' = w := by
  have h0 : -(a : Int) < 0 := by omega
  go_enter Tryd.func53, Tryd.ntmps53
  go_wp2
  go_loop [0, 1] (fun x y => ∃ p q : Nat, x = .int .i64 p ∧ y = .int .i64 q ∧ p ≤ 9223372036854775807 ∧ q ≤ 9223372036854775807 ∧ Hid (Nat.gcd p q = Nat.gcd a b)) (fun x _ => (intOf x).toNat)
  case atStart => exact ⟨a, b, by simp, rfl, ha, hb, rfl⟩
  case round =>
    obtain ⟨p, q, rfl, rfl, hp, hq, hg⟩ := hrel
    by_cases hz : p = 0
    · subst hz
      go_wp2
      go_ret
      refine ⟨ret_int ?_, rfl⟩
      have := hg.out
      rw [Nat.gcd_zero_left] at this
      rw [this]
    · have hq1 : (1 : Int) ≤ (p : Int) := by omega
      have hne : ((p : Int) == 0) = false := by simp; omega
      go_wp2
      go_round
      case rel =>
        refine ⟨q % p, p, by go_num, rfl, ?_, hp, ?_⟩
        · have := Nat.mod_lt q (show p > 0 by omega); omega
        · have := hg.out; show Nat.gcd (q % p) p = Nat.gcd a b; rw [← this, ← Nat.gcd_rec]
      case measure =>
        have := Nat.mod_lt q (show p > 0 by omega)
        show ((q : Int) % (p : Int)).toNat < ((p : Int)).toNat
        omega

theorem common_any (t b : Int) (w : World) (h1 : -1000000000000000000 ≤ t) (h2 : t ≤ 1000000000000000000) (h3 : 0 ≤ b) (h4 : b ≤ 1000000000000000000) :
    Calls Tryd.prog 53 #[.int .i64 t, .int .i64 b] w fun e w' => e = .returned (.int .i64 (gd t b)) ∧ w' = w := by
  obtain ⟨q, rfl⟩ := Int.eq_ofNat_of_zero_le h3
  by_cases h : 0 ≤ t
  · obtain ⟨p, rfl⟩ := Int.eq_ofNat_of_zero_le h
    exact common_nat p q w (by omega) (by omega)
  · obtain ⟨p, hp⟩ := Int.eq_ofNat_of_zero_le (show 0 ≤ -t by omega)
    obtain rfl : t = -(p : Int) := by omega
    have := common_neg p q w (by omega) (by omega) (by omega)
    have e : gd (-(p : Int)) (q : Int) = (Nat.gcd p q : Int) := by rw [gd_neg]; rfl
    rw [e]
    exact this

set_option maxHeartbeats 400000 in
theorem Low_any (t b : Int) (w : World) (h1 : -1000000000000000000 ≤ t) (h2 : t ≤ 1000000000000000000) (h3 : 1 ≤ b) (h4 : b ≤ 1000000000000000000) :
    Calls Tryd.prog 43 #[.int .i64 t, .int .i64 b] w fun e w' => e = .returned (.agg #[.int .i64 (lowT t b), .int .i64 (lowB t b)]) ∧ Below w.heap.size w w' := by
  have hg1 := gd_pos (t := t) h3
  by_cases h0 : 0 ≤ t
  · go_enter Tryd.func43, Tryd.ntmps43
    go_wp2_with fail
    refine (common_any t b _ (by omega) (by omega) (by omega) (by omega)).mono ?_
    rintro e w1 ⟨rfl, rfl⟩
    go_wp2
    go_region
    go_wp2
    exact bodyPost_ret (v := .agg #[.int .i64 (lowT t b), .int .i64 (lowB t b)]) (by simp [results, Tryd.results43, go_sem, lowT, lowB, tdiv_gd]) rfl ⟨rfl, ((Below.refl _ _).alloc (Nat.le_refl _) _).drew⟩
  · have h0' : t < 0 := by omega
    go_enter Tryd.func43, Tryd.ntmps43
    go_wp2_with fail
    refine (common_any t b _ (by omega) (by omega) (by omega) (by omega)).mono ?_
    rintro e w1 ⟨rfl, rfl⟩
    go_wp2
    go_region
    go_wp2
    exact bodyPost_ret (v := .agg #[.int .i64 (lowT t b), .int .i64 (lowB t b)]) (by simp [results, Tryd.results43, go_sem, lowT, lowB, tdiv_gd]) rfl ⟨rfl, ((Below.refl _ _).alloc (Nat.le_refl _) _).drew⟩

theorem isLow_iff {t b : Int} (hb : 1 ≤ b) : isLow t b = true ↔ gd t b = 1 := by
  simp only [isLow, decide_eq_true_eq]
  constructor
  · rintro ⟨h1, h2⟩
    have := low_coprime (t := t) hb
    rw [← h1, ← h2] at this
    exact this
  · intro h
    obtain ⟨l1, l2⟩ := low_self h
    exact ⟨l1.symm, l2.symm⟩

set_option maxHeartbeats 400000 in
theorem RFrac_any (t b : Int) (w : World) :
    Calls Tryd.prog 34 #[.agg #[.int .i64 t, .int .i64 b]] w fun e w' => e = .returned (.int .i64 (fault t b)) ∧ Below w.heap.size w w' := by
  by_cases hm : mayB t b = true
  · obtain ⟨m1, m2, m3, m4⟩ := mayB_iff.1 hm
    by_cases hg : gd t b = 1
    · have HF : Hid (fault t b = 0) := fault_iff.2 ⟨hm, hg⟩
      have HG : Hid (gd t b = 1) := hg
      clear hm hg
      go_enter Tryd.func34, Tryd.ntmps34
      go_wp2_with fail
      refine (common_any t b _ (by omega) (by omega) (by omega) (by omega)).mono ?_
      rintro e w1 ⟨rfl, rfl⟩
      rw [HG.out]
      go_wp2
      go_ret
      exact ⟨ret_int HF.out.symm, (Below.refl _ _).alloc (Nat.le_refl _) _⟩
    · have HF : Hid (fault t b = 3) := by
        show fault t b = 3
        rw [fault, if_pos hm, if_neg]
        intro h; exact hg ((isLow_iff m1).1 h)
      have hn : (gd t b != 1) = true := by simpa using hg
      clear hm hg
      go_enter Tryd.func34, Tryd.ntmps34
      go_wp2_with fail
      refine (common_any t b _ (by omega) (by omega) (by omega) (by omega)).mono ?_
      rintro e w1 ⟨rfl, rfl⟩
      go_wp2
      go_ret
      exact ⟨ret_int HF.out.symm, (Below.refl _ _).alloc (Nat.le_refl _) _⟩
  · have HF : Hid (fault t b = 1) := by
      show fault t b = 1
      rw [fault, if_neg hm]
    have hm' : ¬ (1 ≤ b ∧ b ≤ 100000000 ∧ -1000000000 ≤ t ∧ t ≤ 1000000000) := fun h => hm (mayB_iff.2 h)
    have hw : b < 1 ∨ (1 ≤ b ∧ 100000000 < b) ∨ (1 ≤ b ∧ b ≤ 100000000 ∧ t < -1000000000) ∨ (1 ≤ b ∧ b ≤ 100000000 ∧ -1000000000 ≤ t ∧ 1000000000 < t) := by omega
    clear hm hm'
    rcases hw with h | ⟨h, h'⟩ | ⟨h, h', h''⟩ | ⟨h, h', h'', h'''⟩
    all_goals
      go_enter Tryd.func34, Tryd.ntmps34
      go_wp2
      go_ret
      exact ⟨ret_int HF.out.symm, (Below.refl _ _).alloc (Nat.le_refl _) _⟩

/-- may a fraction in lowest terms not be? -/
def bigB (t b : Int) : Bool := decide (100000000 < b ∨ t < -1000000000 ∨ 1000000000 < t)
theorem bigB_low {t b : Int} (hb : 1 ≤ b) : bigB (lowT t b) (lowB t b) = !mayB (lowT t b) (lowB t b) := by
  have := lowB_pos (t := t) hb
  rw [Bool.eq_iff_iff]
  simp [bigB, mayB]
  omega

set_option maxHeartbeats 400000 in
theorem Big_any (t b : Int) (w : World) :
    Calls Tryd.prog 19 #[.agg #[.int .i64 t, .int .i64 b]] w fun e w' => e = .returned (.bool (bigB t b)) ∧ Below w.heap.size w w' := by
  by_cases h1 : 100000000 < b
  · have HR : Hid (bigB t b = true) := by show bigB t b = true; simp [bigB, h1]
    go_enter Tryd.func19, Tryd.ntmps19
    go_wp2
    go_ret
    exact ⟨ret_bool HR.out.symm, (Below.refl _ _).alloc (Nat.le_refl _) _⟩
  · by_cases h2 : t < -1000000000
    · have HR : Hid (bigB t b = true) := by show bigB t b = true; simp [bigB, h2]
      go_enter Tryd.func19, Tryd.ntmps19
      go_wp2
      go_ret
      exact ⟨ret_bool HR.out.symm, (Below.refl _ _).alloc (Nat.le_refl _) _⟩
    · by_cases h3 : 1000000000 < t
      · have HR : Hid (bigB t b = true) := by show bigB t b = true; simp [bigB, h3]
        go_enter Tryd.func19, Tryd.ntmps19
        go_wp2
        go_ret
        exact ⟨ret_bool HR.out.symm, (Below.refl _ _).alloc (Nat.le_refl _) _⟩
      · have HR : Hid (bigB t b = false) := by show bigB t b = false; simp [bigB]; omega
        have h3' : decide (1000000000 < t) = false := by simpa using h3
        go_enter Tryd.func19, Tryd.ntmps19
        go_wp2
        go_ret
        exact ⟨ret_bool (by rw [HR.out]), (Below.refl _ _).alloc (Nat.le_refl _) _⟩

set_option maxHeartbeats 400000 in
theorem Order_any (t b u c : Int) (w : World) (f1 : fault t b = 0) (f2 : fault u c = 0) :
    Calls Tryd.prog 38 #[.agg #[.int .i64 t, .int .i64 b], .agg #[.int .i64 u, .int .i64 c]] w fun e w' => e = .returned (.int .i64 (cmpI (t * c) (u * b))) ∧ Below w.heap.size w w' := by
  obtain ⟨m1, m2, m3, m4⟩ := fault_0 f1
  obtain ⟨n1, n2, n3, n4⟩ := fault_0 f2
  obtain ⟨q1, q2⟩ := mul_bd (t := t) (c := c) (A := 1000000000) (C := 100000000) (by omega) (by omega) (by omega) (by omega)
  obtain ⟨q3, q4⟩ := mul_bd (t := u) (c := b) (A := 1000000000) (C := 100000000) (by omega) (by omega) (by omega) (by omega)
  clear f1 f2
  by_cases h1 : t * c < u * b
  · have HR : Hid (cmpI (t * c) (u * b) = -1) := by show cmpI _ _ = -1; simp [cmpI, h1]
    go_enter Tryd.func38, Tryd.ntmps38
    go_wp2
    go_ret
    exact ⟨ret_int HR.out.symm, ((Below.refl _ _).alloc (Nat.le_refl _) _).alloc (by simp) _⟩
  · by_cases h2 : u * b < t * c
    · have HR : Hid (cmpI (t * c) (u * b) = 1) := by show cmpI _ _ = 1; simp [cmpI, h1, h2]
      go_enter Tryd.func38, Tryd.ntmps38
      go_wp2
      go_ret
      exact ⟨ret_int HR.out.symm, ((Below.refl _ _).alloc (Nat.le_refl _) _).alloc (by simp) _⟩
    · have HR : Hid (cmpI (t * c) (u * b) = 0) := by show cmpI _ _ = 0; simp [cmpI, h1, h2]
      go_enter Tryd.func38, Tryd.ntmps38
      go_wp2
      go_ret
      exact ⟨ret_int HR.out.symm, ((Below.refl _ _).alloc (Nat.le_refl _) _).alloc (by simp) _⟩

set_option maxHeartbeats 400000 in
theorem Sum_any (t b u c : Int) (w : World) (f1 : fault t b = 0) (f2 : fault u c = 0) :
    Calls Tryd.prog 16 #[.agg #[.int .i64 t, .int .i64 b], .agg #[.int .i64 u, .int .i64 c]] w fun e w' => e = .returned (.agg #[.int .i64 (lowT (t * c + u * b) (b * c)), .int .i64 (lowB (t * c + u * b) (b * c))]) ∧ Below w.heap.size w w' := by
  obtain ⟨m1, m2, m3, m4⟩ := fault_0 f1
  obtain ⟨n1, n2, n3, n4⟩ := fault_0 f2
  obtain ⟨q1, q2⟩ := mul_bd (t := t) (c := c) (A := 1000000000) (C := 100000000) (by omega) (by omega) (by omega) (by omega)
  obtain ⟨q3, q4⟩ := mul_bd (t := u) (c := b) (A := 1000000000) (C := 100000000) (by omega) (by omega) (by omega) (by omega)
  obtain ⟨_, q6⟩ := mul_bd (t := b) (c := c) (A := 100000000) (C := 100000000) (by omega) (by omega) (by omega) (by omega)
  have p4 : 1 ≤ b * c := Int.mul_pos (show 0 < b by omega) (show 0 < c by omega)
  clear f1 f2
  go_enter Tryd.func16, Tryd.ntmps16
  go_wp2_with fail
  refine (Low_any (t * c + u * b) (b * c) _ (by omega) (by omega) (by omega) (by omega)).mono ?_
  rintro e w1 ⟨rfl, hb1⟩
  obtain ⟨hc, hf⟩ := bcell hb1
  have hz0 : w.heap.size < w1.heap.size := by have := hb1.size; simp at this; omega
  have hz1 : w.heap.size + 1 < w1.heap.size := by have := hb1.size; simp at this; omega
  have hz2 : w.heap.size + 1 + 1 < w1.heap.size := by have := hb1.size; simp at this; omega
  have hb0 : Below w.heap.size w w1 := ((((Below.refl _ _).alloc (Nat.le_refl _) _).alloc (by simp) _).alloc (by simp; omega) _).trans (hb1.mono (by simp; omega))
  go_wp2
  refine bodyPost_ret (v := .agg #[.int .i64 (lowT (t * c + u * b) (b * c)), .int .i64 (lowB (t * c + u * b) (b * c))]) (by simp [results, Tryd.results16, go_sem, hc, hz0, hz1, hz2]) rfl ⟨rfl, ?_⟩
  repeat (first | exact hb0 | refine Below.setCell ?_ (by simp; try omega) _ | refine Below.alloc ?_ (by first | omega | (simp; omega)) _ | refine Below.drew ?_)
end Fr
end Go.Proofs.YtinmoocnhgkleabDoor
