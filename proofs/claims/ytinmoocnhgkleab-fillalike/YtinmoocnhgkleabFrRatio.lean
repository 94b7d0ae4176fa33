/- Plain facts: lowest terms hang on the ratio alone; sums, parts and multiples of fractions in lowest terms. No Go in it. -/
import Derived.Test.YtinmoocnhgkleabFrPlain
namespace Go.Proofs.Ytinmoocnhgkleab.Fr

theorem gd_comm (t b : Int) : gd t b = gd b t := by unfold gd; rw [Nat.gcd_comm]
theorem gd_one_iff {t b : Int} : gd t b = 1 ↔ Nat.Coprime t.natAbs b.natAbs := by
  unfold gd Nat.Coprime
  omega

theorem natAbs_div {t g : Int} (h : g ∣ t) : (t / g).natAbs = t.natAbs / g.natAbs := by
  obtain ⟨k, rfl⟩ := h
  by_cases hg : g = 0
  · subst hg; simp
  · rw [Int.mul_ediv_cancel_left k hg, Int.natAbs_mul, Nat.mul_div_cancel_left _ (Int.natAbs_pos.2 hg)]

/-- what is in lowest terms has no divisor in common -/
theorem low_coprime {t b : Int} (hb : 1 ≤ b) : gd (lowT t b) (lowB t b) = 1 := by
  rw [gd_one_iff]
  unfold lowT lowB
  rw [natAbs_div (gd_dvd_left t b), natAbs_div (gd_dvd_right t b)]
  have e : (gd t b).natAbs = Nat.gcd t.natAbs b.natAbs := by unfold gd; omega
  rw [e]
  exact Nat.coprime_div_gcd_div_gcd (Nat.gcd_pos_of_pos_right _ (by omega))
theorem lowB_pos {t b : Int} (hb : 1 ≤ b) : 1 ≤ lowB t b := by
  have h1 := gd_pos (t := t) hb
  have h2 := lowB_mul (t := t) (b := b)
  by_cases h : 1 ≤ lowB t b
  · exact h
  · exfalso
    have h3 : lowB t b ≤ 0 := by omega
    have h4 : lowB t b * gd t b ≤ 0 := Int.mul_nonpos_of_nonpos_of_nonneg h3 (by omega)
    omega
theorem low_ratio (t b : Int) : lowT t b * b = t * lowB t b := by
  have h1 := lowT_mul (t := t) (b := b)
  have h2 := lowB_mul (t := t) (b := b)
  calc lowT t b * b = lowT t b * (lowB t b * gd t b) := by rw [h2]
    _ = (lowT t b * gd t b) * lowB t b := by rw [Int.mul_assoc, Int.mul_comm (gd t b)]
    _ = t * lowB t b := by rw [h1]

theorem dvd_of_coprime {q p q' : Int} (h : gd p q = 1) (hd : q ∣ p * q') : q ∣ q' := by
  rw [gd_one_iff] at h
  have hd' : q.natAbs ∣ p.natAbs * q'.natAbs := by rw [← Int.natAbs_mul]; exact Int.natAbs_dvd_natAbs.2 hd
  exact Int.natAbs_dvd_natAbs.1 (Nat.Coprime.dvd_of_dvd_mul_left h.symm hd')

/-- two pairs of one ratio, each with no divisor in common, are one pair -/
theorem ratio_uniq {p q p' q' : Int} (h : gd p q = 1) (h' : gd p' q' = 1) (hq : 1 ≤ q) (hq' : 1 ≤ q') (e : p * q' = p' * q) : p = p' ∧ q = q' := by
  have d1 : q ∣ q' := dvd_of_coprime h (by rw [e]; exact Int.dvd_mul_left _ _)
  have d2 : q' ∣ q := dvd_of_coprime h' (by rw [← e]; exact Int.dvd_mul_left _ _)
  have e1 : q = q' := by
    have a1 := Int.le_of_dvd (by omega) d1
    have a2 := Int.le_of_dvd (by omega) d2
    omega
  refine ⟨?_, e1⟩
  rw [e1] at e
  exact Int.eq_of_mul_eq_mul_right (by omega) e

theorem low_of_ratio {t b u c : Int} (hb : 1 ≤ b) (hc : 1 ≤ c) (e : t * c = u * b) : lowT t b = lowT u c ∧ lowB t b = lowB u c := by
  refine ratio_uniq (low_coprime hb) (low_coprime hc) (lowB_pos hb) (lowB_pos hc) ?_
  have r1 := low_ratio t b
  have r2 := low_ratio u c
  have hbc : b * c ≠ 0 := Int.mul_ne_zero (by omega) (by omega)
  apply Int.eq_of_mul_eq_mul_right hbc
  calc lowT t b * lowB u c * (b * c) = (lowT t b * b) * (lowB u c * c) := by ac_rfl
    _ = (t * lowB t b) * (lowB u c * c) := by rw [r1]
    _ = (t * c) * (lowB t b * lowB u c) := by ac_rfl
    _ = (u * b) * (lowB t b * lowB u c) := by rw [e]
    _ = (u * lowB u c) * (lowB t b * b) := by ac_rfl
    _ = (lowT u c * c) * (lowB t b * b) := by rw [r2]
    _ = lowT u c * lowB t b * (b * c) := by ac_rfl

theorem low_self {p q : Int} (h : gd p q = 1) : lowT p q = p ∧ lowB p q = q := by
  unfold lowT lowB
  rw [h]
  exact ⟨Int.ediv_one _, Int.ediv_one _⟩
theorem fault_iff {t b : Int} : fault t b = 0 ↔ mayB t b = true ∧ gd t b = 1 := by
  constructor
  · intro h
    refine ⟨mayB_of_fault h, ?_⟩
    obtain ⟨l1, l2⟩ := low_of_fault h
    have := low_coprime (t := t) (b := b) (fault_0 h).1
    rw [l1, l2] at this
    exact this
  · rintro ⟨hm, hg⟩
    obtain ⟨l1, l2⟩ := low_self hg
    exact fault_of hm l1 l2
/-- what was brought to lowest terms, and is within the bounds, is a fraction -/
theorem fault_low {t b : Int} (hb : 1 ≤ b) (hm : mayB (lowT t b) (lowB t b) = true) : fault (lowT t b) (lowB t b) = 0 :=
  fault_iff.2 ⟨hm, low_coprime hb⟩

end Go.Proofs.Ytinmoocnhgkleab.Fr
