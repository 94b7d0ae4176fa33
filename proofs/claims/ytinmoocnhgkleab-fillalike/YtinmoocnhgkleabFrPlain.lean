/- Plain facts on fractions: two whole numbers, their greatest common divisor, lowest terms, the bounds. No Go in it. -/
namespace Go.Proofs.Ytinmoocnhgkleab.Fr

/-- both numbers are within a fraction's bounds -/
def mayB (t b : Int) : Bool := decide (1 ≤ b ∧ b ≤ 100000000 ∧ -1000000000 ≤ t ∧ t ≤ 1000000000)
/-- the greatest common divisor -/
def gd (t b : Int) : Int := (Nat.gcd t.natAbs b.natAbs : Int)
def lowT (t b : Int) : Int := t / gd t b
def lowB (t b : Int) : Int := b / gd t b
/-- in lowest terms already -/
def isLow (t b : Int) : Bool := decide (t = lowT t b ∧ b = lowB t b)
/-- what is wrong with a fraction: 1 out of bounds, 3 not in lowest terms, 0 nothing -/
def fault (t b : Int) : Int := if mayB t b then (if isLow t b then 0 else 3) else 1
/-- of two: the first fault -/
def fault2 (t b u c : Int) : Int := if fault t b = 0 then fault u c else fault t b

theorem mayB_iff {t b : Int} : mayB t b = true ↔ (1 ≤ b ∧ b ≤ 100000000 ∧ -1000000000 ≤ t ∧ t ≤ 1000000000) := by simp [mayB]

theorem gd_neg (t b : Int) : gd (-t) b = gd t b := by simp [gd]
theorem gd_pos {t b : Int} (h : 1 ≤ b) : 1 ≤ gd t b := by
  unfold gd
  have : 0 < Nat.gcd t.natAbs b.natAbs := Nat.gcd_pos_of_pos_right _ (by omega)
  omega
theorem gd_dvd_left (t b : Int) : gd t b ∣ t := by
  unfold gd
  exact Int.ofNat_dvd_left.2 (Nat.gcd_dvd_left _ _)
theorem gd_dvd_right (t b : Int) : gd t b ∣ b := by
  unfold gd
  exact Int.ofNat_dvd_left.2 (Nat.gcd_dvd_right _ _)

theorem tdiv_gd (t b : Int) : t.tdiv (gd t b) = lowT t b := Int.tdiv_eq_ediv_of_dvd (gd_dvd_left t b)
theorem lowT_mul {t b : Int} : lowT t b * gd t b = t := by
  unfold lowT; exact Int.ediv_mul_cancel (gd_dvd_left t b)
theorem lowB_mul {t b : Int} : lowB t b * gd t b = b := by
  unfold lowB; exact Int.ediv_mul_cancel (gd_dvd_right t b)

/-- a product with a number from 0 on -/
theorem mul_bd {t c A C : Int} (h1 : -A ≤ t) (h2 : t ≤ A) (h3 : 0 ≤ c) (h4 : c ≤ C) : -(A * C) ≤ t * c ∧ t * c ≤ A * C := by
  have hA : 0 ≤ A := by omega
  have a1 : t * c ≤ A * c := Int.mul_le_mul_of_nonneg_right h2 h3
  have a2 : A * c ≤ A * C := Int.mul_le_mul_of_nonneg_left h4 hA
  have a3 : (-A) * c ≤ t * c := Int.mul_le_mul_of_nonneg_right h1 h3
  rw [Int.neg_mul] at a3
  omega
/-- a product with a number of either sign -/
theorem mul_bd' {t c A C : Int} (h1 : -A ≤ t) (h2 : t ≤ A) (h3 : -C ≤ c) (h4 : c ≤ C) : -(A * C) ≤ t * c ∧ t * c ≤ A * C := by
  by_cases h : 0 ≤ c
  · exact mul_bd h1 h2 h h4
  · have := mul_bd (t := t) (c := -c) (A := A) (C := C) h1 h2 (by omega) (by omega)
    rw [Int.mul_neg] at this
    omega

theorem fault_0 {t b : Int} (h : fault t b = 0) : 1 ≤ b ∧ b ≤ 100000000 ∧ -1000000000 ≤ t ∧ t ≤ 1000000000 := by
  unfold fault at h
  split at h
  · exact mayB_iff.1 ‹_›
  · omega
theorem fault2_0 {t b u c : Int} (h : fault2 t b u c = 0) : fault t b = 0 ∧ fault u c = 0 := by
  unfold fault2 at h
  split at h
  · exact ⟨‹_›, h⟩
  · contradiction
theorem fault_cases (t b : Int) : fault t b = 0 ∨ fault t b = 1 ∨ fault t b = 3 := by
  unfold fault
  split
  · split <;> simp
  · simp

theorem low_of_fault {t b : Int} (h : fault t b = 0) : lowT t b = t ∧ lowB t b = b := by
  unfold fault at h
  split at h
  · split at h
    · have := ‹isLow t b = true›
      simp only [isLow, decide_eq_true_eq] at this
      exact ⟨this.1.symm, this.2.symm⟩
    · omega
  · omega
theorem mayB_of_fault {t b : Int} (h : fault t b = 0) : mayB t b = true := by
  unfold fault at h
  split at h
  · assumption
  · omega
theorem fault_of {t b : Int} (hm : mayB t b = true) (h1 : lowT t b = t) (h2 : lowB t b = b) : fault t b = 0 := by
  unfold fault
  rw [hm, if_pos rfl, if_pos]
  simp only [isLow, decide_eq_true_eq]
  exact ⟨h1.symm, h2.symm⟩
theorem gd_zero {b : Int} (h : 1 ≤ b) : gd 0 b = b := by
  unfold gd
  simp
  omega
theorem low_zero {b : Int} (h : 1 ≤ b) : lowT 0 b = 0 ∧ lowB 0 b = 1 := by
  unfold lowT lowB
  rw [gd_zero h]
  exact ⟨Int.zero_ediv b, Int.ediv_self (by omega)⟩
theorem fault_01 : fault 0 1 = 0 := by decide

/-- which of two numbers is less -/
def cmpI (x y : Int) : Int := if x < y then -1 else if y < x then 1 else 0

end Go.Proofs.Ytinmoocnhgkleab.Fr
