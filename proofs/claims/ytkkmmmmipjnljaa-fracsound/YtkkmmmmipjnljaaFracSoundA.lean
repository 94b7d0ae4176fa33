/- Plain facts behind the law FracSound: what the calls of package frac answer of one another's answers. -/
import Derived.Test.YtkkmmmmipjnljaaFracE
import Derived.Test.YtkkmmmmipjnljaaFrRatio
namespace Go.Proofs.Ytkkmmmmipjnljaa
namespace Fr

theorem made_ok {t b : Int} (h : madeE t b = 0) : mayB (lowT t b) (lowB t b) = true ∧ madeT t b = lowT t b ∧ madeB t b = lowB t b := by
  unfold madeE at h
  split at h
  · rename_i hm
    exact ⟨hm, by rw [madeT, if_pos hm], by rw [madeB, if_pos hm]⟩
  · omega
theorem made_of {t b p q : Int} (h1 : lowT t b = p) (h2 : lowB t b = q) (hm : mayB p q = true) : madeT t b = p ∧ madeB t b = q ∧ madeE t b = 0 := by
  rw [madeT, madeB, madeE, h1, h2, hm]
  exact ⟨rfl, rfl, rfl⟩

theorem add_ok {t b u c : Int} (h : addE t b u c = 0) : fault t b = 0 ∧ fault u c = 0 ∧ addT t b u c = lowT (t * c + u * b) (b * c) ∧ addB t b u c = lowB (t * c + u * b) (b * c) ∧ mayB (lowT (t * c + u * b) (b * c)) (lowB (t * c + u * b) (b * c)) = true := by
  unfold addE at h
  split at h
  · rename_i hk
    obtain ⟨f1, f2⟩ := fault2_0 hk
    obtain ⟨m, e1, e2⟩ := made_ok h
    exact ⟨f1, f2, by rw [addT, if_pos hk, e1], by rw [addB, if_pos hk, e2], m⟩
  · contradiction
theorem fault2_of {t b u c : Int} (f1 : fault t b = 0) (f2 : fault u c = 0) : fault2 t b u c = 0 := by rw [fault2, if_pos f1, f2]
/-- a sum that comes, by its ratio -/
theorem add_of {t b u c p q : Int} (f1 : fault t b = 0) (f2 : fault u c = 0) (fp : fault p q = 0) (e : (t * c + u * b) * q = p * (b * c)) : addT t b u c = p ∧ addB t b u c = q ∧ addE t b u c = 0 := by
  have hk := fault2_of f1 f2
  have hb := (fault_0 f1).1
  have hc := (fault_0 f2).1
  have hq := (fault_0 fp).1
  obtain ⟨l1, l2⟩ := low_of_ratio (t := t * c + u * b) (b := b * c) (u := p) (c := q) (Int.mul_pos (show 0 < b by omega) (show 0 < c by omega)) hq e
  obtain ⟨g1, g2⟩ := low_of_fault fp
  obtain ⟨a1, a2, a3⟩ := made_of (l1.trans g1) (l2.trans g2) (mayB_of_fault fp)
  rw [addT, addB, addE, if_pos hk, if_pos hk, if_pos hk]
  exact ⟨a1, a2, a3⟩
theorem add_fault {t b u c : Int} (h : addE t b u c = 0) : fault (addT t b u c) (addB t b u c) = 0 := by
  obtain ⟨f1, f2, e1, e2, m⟩ := add_ok h
  rw [e1, e2]
  have hb := (fault_0 f1).1
  have hc := (fault_0 f2).1
  exact fault_low (Int.mul_pos (show 0 < b by omega) (show 0 < c by omega)) m
/-- the sum's ratio -/
theorem add_ratio {t b u c : Int} (h : addE t b u c = 0) : addT t b u c * (b * c) = (t * c + u * b) * addB t b u c := by
  obtain ⟨f1, f2, e1, e2, m⟩ := add_ok h
  rw [e1, e2]
  exact low_ratio _ _
theorem add_comm {t b u c : Int} (h : addE t b u c = 0) : addT u c t b = addT t b u c ∧ addB u c t b = addB t b u c ∧ addE u c t b = 0 := by
  obtain ⟨f1, f2, -, -, -⟩ := add_ok h
  refine add_of f2 f1 (add_fault h) ?_
  rw [Int.mul_comm c b, add_ratio h, Int.add_comm]
theorem times_neg {u c : Int} (f : fault u c = 0) : timesT u c (-1) = -u ∧ timesB u c (-1) = c ∧ timesE u c (-1) = 0 ∧ fault (-u) c = 0 := by
  obtain ⟨m1, m2, m3, m4⟩ := fault_0 f
  have hn : (-1000 : Int) ≤ -1 ∧ (-1 : Int) ≤ 1000 := by decide
  have fn : fault (-u) c = 0 := by
    rw [fault_iff] at f ⊢
    exact ⟨mayB_iff.2 ⟨by omega, by omega, by omega, by omega⟩, by rw [gd_neg]; exact f.2⟩
  obtain ⟨g1, g2⟩ := low_of_fault fn
  have e : u * -1 = -u := by omega
  obtain ⟨a1, a2, a3⟩ := made_of (t := u * -1) (b := c) (by rw [e]; exact g1) (by rw [e]; exact g2) (mayB_of_fault fn)
  rw [timesT, timesB, timesE, if_pos f, if_pos f, if_pos f, if_pos hn, if_pos hn, if_pos hn]
  exact ⟨a1, a2, a3, fn⟩
/-- taken away again -/
theorem add_back {t b u c : Int} (h : addE t b u c = 0) : addT (addT t b u c) (addB t b u c) (-u) c = t ∧ addB (addT t b u c) (addB t b u c) (-u) c = b ∧ addE (addT t b u c) (addB t b u c) (-u) c = 0 := by
  obtain ⟨f1, f2, -, -, -⟩ := add_ok h
  refine add_of (add_fault h) (times_neg f2).2.2.2 f1 ?_
  have r := add_ratio h
  generalize addT t b u c = S at *
  generalize addB t b u c = B at *
  calc (S * c + -u * B) * b = S * (b * c) - u * b * B := by
        have w1 : S * c * b = S * (b * c) := by ac_rfl
        have w2 : u * B * b = u * b * B := by ac_rfl
        rw [Int.add_mul, Int.neg_mul, Int.neg_mul, Int.sub_eq_add_neg, w1, w2]
    _ = (t * c + u * b) * B - u * b * B := by rw [r]
    _ = t * c * B := by rw [Int.add_mul]; omega
    _ = t * (B * c) := by ac_rfl

/-- by a number, and times it -/
theorem by_times {t b n : Int} (h : byE t b n = 0) : timesT (byT t b n) (byB t b n) n = t ∧ timesB (byT t b n) (byB t b n) n = b ∧ timesE (byT t b n) (byB t b n) n = 0 := by
  unfold byE at h
  split at h
  · rename_i f
    split at h
    · rename_i hn
      obtain ⟨m, e1, e2⟩ := made_ok h
      have hb := (fault_0 f).1
      have hbn : 1 ≤ b * n := Int.mul_pos (show 0 < b by omega) (show 0 < n by omega)
      have x1 : byT t b n = lowT t (b * n) := by rw [byT, if_pos f, if_pos hn, e1]
      have x2 : byB t b n = lowB t (b * n) := by rw [byB, if_pos f, if_pos hn, e2]
      have fx : fault (byT t b n) (byB t b n) = 0 := by rw [x1, x2]; exact fault_low hbn m
      have r : byT t b n * (b * n) = t * byB t b n := by rw [x1, x2]; exact low_ratio _ _
      generalize byT t b n = x at *
      generalize byB t b n = y at *
      have hy := (fault_0 fx).1
      have hn' : (-1000 : Int) ≤ n ∧ n ≤ 1000 := by omega
      obtain ⟨l1, l2⟩ := low_of_ratio (t := x * n) (b := y) (u := t) (c := b) hy hb (by rw [← r]; ac_rfl)
      obtain ⟨g1, g2⟩ := low_of_fault f
      obtain ⟨a1, a2, a3⟩ := made_of (l1.trans g1) (l2.trans g2) (mayB_of_fault f)
      rw [timesT, timesB, timesE, if_pos fx, if_pos fx, if_pos fx, if_pos hn', if_pos hn', if_pos hn']
      exact ⟨a1, a2, a3⟩
    · omega
  · contradiction

theorem cmpI_neg (x y : Int) : cmpI y x = - cmpI x y := by unfold cmpI; split <;> split <;> omega
theorem cmpI_add (x y r : Int) : cmpI (x + r) (y + r) = cmpI x y := by
  unfold cmpI
  simp only [Int.add_lt_add_iff_right]
theorem cmpI_mul {k : Int} (hk : 0 < k) (x y : Int) : cmpI (k * x) (k * y) = cmpI x y := by
  unfold cmpI
  have h1 : k * x < k * y ↔ x < y := Int.mul_lt_mul_left hk
  have h2 : k * y < k * x ↔ y < x := Int.mul_lt_mul_left hk
  simp only [h1, h2]
theorem cmpI_zero (x y : Int) : cmpI x y = 0 ↔ x = y := by unfold cmpI; split <;> (try split) <;> omega
theorem cmpI_range (x y : Int) : -1 ≤ cmpI x y ∧ cmpI x y ≤ 1 := by unfold cmpI; split <;> (try split) <;> omega

theorem cmpV_of {t b u c : Int} (f1 : fault t b = 0) (f2 : fault u c = 0) : cmpV t b u c = cmpI (t * c) (u * b) := by rw [cmpV, if_pos (fault2_of f1 f2)]
theorem cmpV_neg {t b u c : Int} (f1 : fault t b = 0) (f2 : fault u c = 0) : cmpV u c t b = - cmpV t b u c := by rw [cmpV_of f1 f2, cmpV_of f2 f1, cmpI_neg]
theorem cmpV_zero {t b u c : Int} (f1 : fault t b = 0) (f2 : fault u c = 0) : cmpV t b u c = 0 ↔ t = u ∧ b = c := by
  rw [cmpV_of f1 f2, cmpI_zero]
  constructor
  · intro e
    exact ratio_uniq (fault_iff.1 f1).2 (fault_iff.1 f2).2 (fault_0 f1).1 (fault_0 f2).1 e
  · rintro ⟨rfl, rfl⟩; rfl
/-- what is more stays more when a third is added -/
theorem cmpV_add {t b u c v d : Int} (h1 : addE t b v d = 0) (h2 : addE u c v d = 0) : cmpV (addT t b v d) (addB t b v d) (addT u c v d) (addB u c v d) = cmpV t b u c := by
  obtain ⟨f1, f3, -, -, -⟩ := add_ok h1
  obtain ⟨f2, -, -, -, -⟩ := add_ok h2
  have g1 := add_fault h1
  have g2 := add_fault h2
  have r1 := add_ratio h1
  have r2 := add_ratio h2
  rw [cmpV_of f1 f2, cmpV_of g1 g2]
  have b0 := (fault_0 f1).1
  have c0 := (fault_0 f2).1
  have d0 := (fault_0 f3).1
  have p0 := (fault_0 g1).1
  have q0 := (fault_0 g2).1
  generalize addT t b v d = P at *
  generalize addB t b v d = p at *
  generalize addT u c v d = Q at *
  generalize addB u c v d = q at *
  have k1 : 0 < (b * d) * (c * d) := Int.mul_pos (Int.mul_pos (by omega) (by omega)) (Int.mul_pos (by omega) (by omega))
  have k2 : 0 < (p * q) * (d * d) := Int.mul_pos (Int.mul_pos (by omega) (by omega)) (Int.mul_pos (by omega) (by omega))
  rw [← cmpI_mul k1 (P * q) (Q * p), ← cmpI_mul k2 (t * c) (u * b)]
  have s1 : (b * d) * (c * d) * (P * q) = (p * q) * (d * d) * (t * c) + p * q * d * v * b * c := by
    calc (b * d) * (c * d) * (P * q) = (P * (b * d)) * (q * (c * d)) := by ac_rfl
      _ = ((t * d + v * b) * p) * (q * (c * d)) := by rw [r1]
      _ = (t * d) * (p * (q * (c * d))) + (v * b) * (p * (q * (c * d))) := by rw [Int.mul_assoc, Int.add_mul]
      _ = (p * q) * (d * d) * (t * c) + p * q * d * v * b * c := by congr 1 <;> ac_rfl
  have s2 : (b * d) * (c * d) * (Q * p) = (p * q) * (d * d) * (u * b) + p * q * d * v * b * c := by
    calc (b * d) * (c * d) * (Q * p) = (Q * (c * d)) * (p * (b * d)) := by ac_rfl
      _ = ((u * d + v * c) * q) * (p * (b * d)) := by rw [r2]
      _ = (u * d) * (q * (p * (b * d))) + (v * c) * (q * (p * (b * d))) := by rw [Int.mul_assoc, Int.add_mul]
      _ = (p * q) * (d * d) * (u * b) + p * q * d * v * b * c := by congr 1 <;> ac_rfl
  rw [s1, s2, cmpI_add]

end Fr
end Go.Proofs.Ytkkmmmmipjnljaa
