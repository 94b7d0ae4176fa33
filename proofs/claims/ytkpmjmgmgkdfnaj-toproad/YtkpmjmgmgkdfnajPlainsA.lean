/- Facts and contracts that the walks lean on, one text behind the other; no walk of Go in them. -/
import Derived.Test.YtkpmjmgmgkdfnajChecked
import Derived.WalkKit
import Derived.WalkSpells
import Derived.WalkLawsBesides
import Derived.Deep.QuietTactic
import Derived.BigQuiet
import Derived.Deep.RegionHeld3
/- Plain facts on nets: which number is in a list, what is wrong with links, a path, a net. No Go in it. -/
namespace Go.Proofs.Ytkpmjmgmgkdfnaj.Ns

def inB (l : List Int) (n : Int) : Bool := l.contains n
theorem inB_nil (n : Int) : inB [] n = false := rfl
theorem inB_snoc (l : List Int) (x n : Int) : inB (l ++ [x]) n = (inB l n || x == n) := by
  rw [Bool.eq_iff_iff]
  simp [inB]
  constructor
  · rintro (h | h)
    · exact .inl h
    · exact .inr h.symm
  · rintro (h | h)
    · exact .inl h
    · exact .inr h.symm
theorem inB_of_mem {l : List Int} {n : Int} (h : n ∈ l) : inB l n = true := by simpa [inB] using h
theorem take_snoc {α : Type} (l : List α) (k : Nat) (h : k < l.length) (d : α) : l.take (k + 1) = l.take k ++ [l.getD k d] := by
  rw [List.take_succ_eq_append_getElem h]
  simp [List.getD, List.getElem?_eq_getElem h]
theorem drop_cons {α : Type} (l : List α) (k : Nat) (h : k < l.length) (d : α) : l.drop k = l.getD k d :: l.drop (k + 1) := by
  rw [List.drop_eq_getElem_cons h]
  simp [List.getD, List.getElem?_eq_getElem h]
theorem getD_mem {α : Type} (l : List α) (k : Nat) (h : k < l.length) (d : α) : l.getD k d ∈ l := by
  simp [List.getD, List.getElem?_eq_getElem h]

/-- what is wrong with links: 5 there is none, 4 too many, 1 one is out of bounds, 0 nothing -/
def capsFrom : List Int → Int
  | [] => 0
  | x :: r => if x < 1 ∨ 1000 < x then 1 else capsFrom r
def linksE (l : List Int) : Int := if l.length = 0 then 5 else if 6 < l.length then 4 else capsFrom l
/-- what is wrong with a path, behind the links that it went over -/
def pathFrom (links : Int) : List Int → List Int → Int
  | _, [] => 0
  | seen, x :: r => if x < 0 ∨ links ≤ x then 1 else if inB seen x then 7 else pathFrom links (seen ++ [x]) r
def pathE (links : Int) (p : List Int) : Int := if p.length = 0 then 5 else pathFrom links [] p
/-- what is wrong with some paths: the first fault -/
def pathsFrom (links : Int) : List (List Int) → Int
  | [] => 0
  | p :: r => if pathE links p = 0 then pathsFrom links r else pathE links p
def netE (caps : List Int) (paths : List (List Int)) : Int :=
  if caps.length = 0 ∨ paths.length = 0 then 5 else if 6 < caps.length ∨ 6 < paths.length then 4
  else if linksE caps = 0 then pathsFrom caps.length paths else linksE caps

theorem capsFrom_bd (l : List Int) : 0 ≤ capsFrom l ∧ capsFrom l ≤ 1 := by
  induction l with
  | nil => simp [capsFrom]
  | cons x r ih => unfold capsFrom; split <;> omega
theorem pathFrom_bd (links : Int) (s l : List Int) : 0 ≤ pathFrom links s l ∧ pathFrom links s l ≤ 7 := by
  induction l generalizing s with
  | nil => simp [pathFrom]
  | cons x r ih => unfold pathFrom; split; omega; split; omega; exact ih _

/-- who goes over a link: the flows' numbers, rising -/
def usersFrom (link : Int) : Nat → List (List Int) → List Int
  | _, [] => []
  | i, p :: r => if inB p link then (i : Int) :: usersFrom link (i + 1) r else usersFrom link (i + 1) r
def users (paths : List (List Int)) (link : Int) : List Int := usersFrom link 0 paths
theorem usersFrom_snoc (link : Int) (i : Nat) (l : List (List Int)) (p : List Int) :
    usersFrom link i (l ++ [p]) = usersFrom link i l ++ (if inB p link then [((i + l.length : Nat) : Int)] else []) := by
  induction l generalizing i with
  | nil => simp [usersFrom]
  | cons q r ih =>
    simp only [List.cons_append, usersFrom, ih]
    have : i + 1 + r.length = i + (q :: r).length := by simp; omega
    rw [this]
    split <;> simp
theorem users_length (link : Int) (i : Nat) (l : List (List Int)) : (usersFrom link i l).length ≤ l.length := by
  induction l generalizing i with
  | nil => simp [usersFrom]
  | cons q r ih => unfold usersFrom; have := ih (i + 1); split <;> simp <;> omega

end Go.Proofs.Ytkpmjmgmgkdfnaj.Ns

/- Plain facts on fractions: two whole numbers, their greatest common divisor, lowest terms, the bounds. No Go in it. -/
namespace Go.Proofs.Ytkpmjmgmgkdfnaj.Fr

/-- both numbers are within a fraction's bounds -/
def mayB (t b : Int) : Bool := decide (1 ≤ b ∧ b ≤ 100000000 ∧ -1000000000 ≤ t ∧ t ≤ 1000000000)
/-- the greatest common divisor -/
def gd (t b : Int) : Int := (Nat.gcd t.natAbs b.natAbs : Int)
def lowT (t b : Int) : Int := t / gd t b
def lowB (t b : Int) : Int := b / gd t b
/-- in lowest terms already -/
def isLow (t b : Int) : Bool := decide (t = lowT t b ∧ b = lowB t b)
/-- what is wrong with a fraction: 1 out of bounds, 3 not in lowest terms, 0 nothing -/
def fault (t b : Int) : Int := if mayB t b then (if isLow t b then 0 else 3) else 1
/-- of two: the first fault -/
def fault2 (t b u c : Int) : Int := if fault t b = 0 then fault u c else fault t b

theorem mayB_iff {t b : Int} : mayB t b = true ↔ (1 ≤ b ∧ b ≤ 100000000 ∧ -1000000000 ≤ t ∧ t ≤ 1000000000) := by simp [mayB]

theorem gd_neg (t b : Int) : gd (-t) b = gd t b := by simp [gd]
theorem gd_pos {t b : Int} (h : 1 ≤ b) : 1 ≤ gd t b := by
  unfold gd
  have : 0 < Nat.gcd t.natAbs b.natAbs := Nat.gcd_pos_of_pos_right _ (by omega)
  omega
theorem gd_dvd_left (t b : Int) : gd t b ∣ t := by
  unfold gd
  exact Int.ofNat_dvd_left.2 (Nat.gcd_dvd_left _ _)
theorem gd_dvd_right (t b : Int) : gd t b ∣ b := by
  unfold gd
  exact Int.ofNat_dvd_left.2 (Nat.gcd_dvd_right _ _)

theorem tdiv_gd (t b : Int) : t.tdiv (gd t b) = lowT t b := Int.tdiv_eq_ediv_of_dvd (gd_dvd_left t b)
theorem lowT_mul {t b : Int} : lowT t b * gd t b = t := by
  unfold lowT; exact Int.ediv_mul_cancel (gd_dvd_left t b)
theorem lowB_mul {t b : Int} : lowB t b * gd t b = b := by
  unfold lowB; exact Int.ediv_mul_cancel (gd_dvd_right t b)

/-- a product with a number from 0 on -/
theorem mul_bd {t c A C : Int} (h1 : -A ≤ t) (h2 : t ≤ A) (h3 : 0 ≤ c) (h4 : c ≤ C) : -(A * C) ≤ t * c ∧ t * c ≤ A * C := by
  have hA : 0 ≤ A := by omega
  have a1 : t * c ≤ A * c := Int.mul_le_mul_of_nonneg_right h2 h3
  have a2 : A * c ≤ A * C := Int.mul_le_mul_of_nonneg_left h4 hA
  have a3 : (-A) * c ≤ t * c := Int.mul_le_mul_of_nonneg_right h1 h3
  rw [Int.neg_mul] at a3
  omega
/-- a product with a number of either sign -/
theorem mul_bd' {t c A C : Int} (h1 : -A ≤ t) (h2 : t ≤ A) (h3 : -C ≤ c) (h4 : c ≤ C) : -(A * C) ≤ t * c ∧ t * c ≤ A * C := by
  by_cases h : 0 ≤ c
  · exact mul_bd h1 h2 h h4
  · have := mul_bd (t := t) (c := -c) (A := A) (C := C) h1 h2 (by omega) (by omega)
    rw [Int.mul_neg] at this
    omega

theorem fault_0 {t b : Int} (h : fault t b = 0) : 1 ≤ b ∧ b ≤ 100000000 ∧ -1000000000 ≤ t ∧ t ≤ 1000000000 := by
  unfold fault at h
  split at h
  · exact mayB_iff.1 ‹_›
  · omega
theorem fault2_0 {t b u c : Int} (h : fault2 t b u c = 0) : fault t b = 0 ∧ fault u c = 0 := by
  unfold fault2 at h
  split at h
  · exact ⟨‹_›, h⟩
  · contradiction
theorem fault_cases (t b : Int) : fault t b = 0 ∨ fault t b = 1 ∨ fault t b = 3 := by
  unfold fault
  split
  · split <;> simp
  · simp

theorem low_of_fault {t b : Int} (h : fault t b = 0) : lowT t b = t ∧ lowB t b = b := by
  unfold fault at h
  split at h
  · split at h
    · have := ‹isLow t b = true›
      simp only [isLow, decide_eq_true_eq] at this
      exact ⟨this.1.symm, this.2.symm⟩
    · omega
  · omega
theorem mayB_of_fault {t b : Int} (h : fault t b = 0) : mayB t b = true := by
  unfold fault at h
  split at h
  · assumption
  · omega
theorem fault_of {t b : Int} (hm : mayB t b = true) (h1 : lowT t b = t) (h2 : lowB t b = b) : fault t b = 0 := by
  unfold fault
  rw [hm, if_pos rfl, if_pos]
  simp only [isLow, decide_eq_true_eq]
  exact ⟨h1.symm, h2.symm⟩
theorem gd_zero {b : Int} (h : 1 ≤ b) : gd 0 b = b := by
  unfold gd
  simp
  omega
theorem low_zero {b : Int} (h : 1 ≤ b) : lowT 0 b = 0 ∧ lowB 0 b = 1 := by
  unfold lowT lowB
  rw [gd_zero h]
  exact ⟨Int.zero_ediv b, Int.ediv_self (by omega)⟩
theorem fault_01 : fault 0 1 = 0 := by decide

/-- which of two numbers is less -/
def cmpI (x y : Int) : Int := if x < y then -1 else if y < x then 1 else 0

end Go.Proofs.Ytkpmjmgmgkdfnaj.Fr

/- Plain facts: lowest terms hang on the ratio alone; sums, parts and multiples of fractions in lowest terms. No Go in it. -/
namespace Go.Proofs.Ytkpmjmgmgkdfnaj.Fr

theorem gd_comm (t b : Int) : gd t b = gd b t := by unfold gd; rw [Nat.gcd_comm]
theorem gd_one_iff {t b : Int} : gd t b = 1 ↔ Nat.Coprime t.natAbs b.natAbs := by
  unfold gd Nat.Coprime
  omega

theorem natAbs_div {t g : Int} (h : g ∣ t) : (t / g).natAbs = t.natAbs / g.natAbs := by
  obtain ⟨k, rfl⟩ := h
  by_cases hg : g = 0
  · subst hg; simp
  · rw [Int.mul_ediv_cancel_left k hg, Int.natAbs_mul, Nat.mul_div_cancel_left _ (Int.natAbs_pos.2 hg)]

/-- what is in lowest terms has no divisor in common -/
theorem low_coprime {t b : Int} (hb : 1 ≤ b) : gd (lowT t b) (lowB t b) = 1 := by
  rw [gd_one_iff]
  unfold lowT lowB
  rw [natAbs_div (gd_dvd_left t b), natAbs_div (gd_dvd_right t b)]
  have e : (gd t b).natAbs = Nat.gcd t.natAbs b.natAbs := by unfold gd; omega
  rw [e]
  exact Nat.coprime_div_gcd_div_gcd (Nat.gcd_pos_of_pos_right _ (by omega))
theorem lowB_pos {t b : Int} (hb : 1 ≤ b) : 1 ≤ lowB t b := by
  have h1 := gd_pos (t := t) hb
  have h2 := lowB_mul (t := t) (b := b)
  by_cases h : 1 ≤ lowB t b
  · exact h
  · exfalso
    have h3 : lowB t b ≤ 0 := by omega
    have h4 : lowB t b * gd t b ≤ 0 := Int.mul_nonpos_of_nonpos_of_nonneg h3 (by omega)
    omega
theorem low_ratio (t b : Int) : lowT t b * b = t * lowB t b := by
  have h1 := lowT_mul (t := t) (b := b)
  have h2 := lowB_mul (t := t) (b := b)
  calc lowT t b * b = lowT t b * (lowB t b * gd t b) := by rw [h2]
    _ = (lowT t b * gd t b) * lowB t b := by rw [Int.mul_assoc, Int.mul_comm (gd t b)]
    _ = t * lowB t b := by rw [h1]

theorem dvd_of_coprime {q p q' : Int} (h : gd p q = 1) (hd : q ∣ p * q') : q ∣ q' := by
  rw [gd_one_iff] at h
  have hd' : q.natAbs ∣ p.natAbs * q'.natAbs := by rw [← Int.natAbs_mul]; exact Int.natAbs_dvd_natAbs.2 hd
  exact Int.natAbs_dvd_natAbs.1 (Nat.Coprime.dvd_of_dvd_mul_left h.symm hd')

/-- two pairs of one ratio, each with no divisor in common, are one pair -/
theorem ratio_uniq {p q p' q' : Int} (h : gd p q = 1) (h' : gd p' q' = 1) (hq : 1 ≤ q) (hq' : 1 ≤ q') (e : p * q' = p' * q) : p = p' ∧ q = q' := by
  have d1 : q ∣ q' := dvd_of_coprime h (by rw [e]; exact Int.dvd_mul_left _ _)
  have d2 : q' ∣ q := dvd_of_coprime h' (by rw [← e]; exact Int.dvd_mul_left _ _)
  have e1 : q = q' := by
    have a1 := Int.le_of_dvd (by omega) d1
    have a2 := Int.le_of_dvd (by omega) d2
    omega
  refine ⟨?_, e1⟩
  rw [e1] at e
  exact Int.eq_of_mul_eq_mul_right (by omega) e

theorem low_of_ratio {t b u c : Int} (hb : 1 ≤ b) (hc : 1 ≤ c) (e : t * c = u * b) : lowT t b = lowT u c ∧ lowB t b = lowB u c := by
  refine ratio_uniq (low_coprime hb) (low_coprime hc) (lowB_pos hb) (lowB_pos hc) ?_
  have r1 := low_ratio t b
  have r2 := low_ratio u c
  have hbc : b * c ≠ 0 := Int.mul_ne_zero (by omega) (by omega)
  apply Int.eq_of_mul_eq_mul_right hbc
  calc lowT t b * lowB u c * (b * c) = (lowT t b * b) * (lowB u c * c) := by ac_rfl
    _ = (t * lowB t b) * (lowB u c * c) := by rw [r1]
    _ = (t * c) * (lowB t b * lowB u c) := by ac_rfl
    _ = (u * b) * (lowB t b * lowB u c) := by rw [e]
    _ = (u * lowB u c) * (lowB t b * b) := by ac_rfl
    _ = (lowT u c * c) * (lowB t b * b) := by rw [r2]
    _ = lowT u c * lowB t b * (b * c) := by ac_rfl

theorem low_self {p q : Int} (h : gd p q = 1) : lowT p q = p ∧ lowB p q = q := by
  unfold lowT lowB
  rw [h]
  exact ⟨Int.ediv_one _, Int.ediv_one _⟩
theorem fault_iff {t b : Int} : fault t b = 0 ↔ mayB t b = true ∧ gd t b = 1 := by
  constructor
  · intro h
    refine ⟨mayB_of_fault h, ?_⟩
    obtain ⟨l1, l2⟩ := low_of_fault h
    have := low_coprime (t := t) (b := b) (fault_0 h).1
    rw [l1, l2] at this
    exact this
  · rintro ⟨hm, hg⟩
    obtain ⟨l1, l2⟩ := low_self hg
    exact fault_of hm l1 l2
/-- what was brought to lowest terms, and is within the bounds, is a fraction -/
theorem fault_low {t b : Int} (hb : 1 ≤ b) (hm : mayB (lowT t b) (lowB t b) = true) : fault (lowT t b) (lowB t b) = 0 :=
  fault_iff.2 ⟨hm, low_coprime hb⟩

end Go.Proofs.Ytkpmjmgmgkdfnaj.Fr

/- Plain facts on loads: rates that are right, what goes over a link, what is left, whether it fits. No Go in it. -/
namespace Go.Proofs.Ytkpmjmgmgkdfnaj.Ld
open Fr Ns
set_option linter.unusedSimpArgs false

def faultP (a : Int × Int) : Int := fault a.1 a.2
/-- the sum of two in lowest terms -/
def sumP (a b : Int × Int) : Int × Int := (lowT (a.1 * b.2 + b.1 * a.2) (a.2 * b.2), lowB (a.1 * b.2 + b.1 * a.2) (a.2 * b.2))
def mayP (a : Int × Int) : Bool := mayB a.1 a.2
/-- the first fault of some rates -/
def ratesE : List (Int × Int) → Int
  | [] => 0
  | a :: r => if faultP a = 0 then ratesE r else faultP a
/-- the rates of some flows added up, one by one: none, if that is too much -/
def addUp (r : List (Int × Int)) : List Int → Int × Int → Option (Int × Int)
  | [], s => some s
  | u :: us, s => if mayP (sumP s (r.getD u.toNat (0, 1))) then addUp r us (sumP s (r.getD u.toNat (0, 1))) else none
def loadOf (paths : List (List Int)) (r : List (Int × Int)) (l : Nat) : Option (Int × Int) := addUp r (users paths l) (0, 1)
/-- none is too much, of the first so many links -/
def allOk (paths : List (List Int)) (r : List (Int × Int)) (n : Nat) : Bool := (List.range n).all fun l => (loadOf paths r l).isSome
def loadL (paths : List (List Int)) (r : List (Int × Int)) (n : Nat) : List (Int × Int) := (List.range n).map fun l => (loadOf paths r l).getD (0, 1)
/-- what is wrong with a net and rates -/
def loadE (caps : List Int) (paths : List (List Int)) (r : List (Int × Int)) : Int :=
  if netE caps paths = 0 then if r.length = paths.length then if ratesE r = 0 then if allOk paths r caps.length then 0 else 4 else ratesE r else 3 else netE caps paths
/-- no rate is below 0, no link's load above what it takes -/
def fitsB (caps : List Int) (paths : List (List Int)) (r : List (Int × Int)) : Bool :=
  (r.all fun a => decide (0 ≤ a.1)) && (List.range caps.length).all fun l => decide (((loadL paths r caps.length).getD l (0, 1)).1 ≤ caps.getD l 0 * ((loadL paths r caps.length).getD l (0, 1)).2)
/-- what is left on a link -/
def leftOf (c : Int) (a : Int × Int) : Int × Int := sumP (c, 1) (-a.1, a.2)
def leftL (caps : List Int) (paths : List (List Int)) (r : List (Int × Int)) : List (Int × Int) := (List.range caps.length).map fun l => leftOf (caps.getD l 0) ((loadL paths r caps.length).getD l (0, 1))
def leftE (caps : List Int) (paths : List (List Int)) (r : List (Int × Int)) : Int :=
  if loadE caps paths r = 0 then if (leftL caps paths r).all mayP then 0 else 4 else loadE caps paths r

theorem ratesE_iff (r : List (Int × Int)) : ratesE r = 0 ↔ ∀ a ∈ r, faultP a = 0 := by
  induction r with
  | nil => simp [ratesE]
  | cons a r ih =>
    simp only [ratesE, List.mem_cons, forall_eq_or_imp]
    split
    · simp [ih, *]
    · simp [*]
theorem ratesE_cons (r : List (Int × Int)) (k : Nat) (h : k < r.length) : ratesE (r.drop k) = if faultP (r.getD k (0, 0)) = 0 then ratesE (r.drop (k + 1)) else faultP (r.getD k (0, 0)) := by
  rw [drop_cons r k h (0, 0)]; rfl
theorem loadL_length (paths : List (List Int)) (r : List (Int × Int)) (n : Nat) : (loadL paths r n).length = n := by simp [loadL]
theorem leftL_length (caps : List Int) (paths : List (List Int)) (r : List (Int × Int)) : (leftL caps paths r).length = caps.length := by simp [leftL]
theorem loadL_getD (paths : List (List Int)) (r : List (Int × Int)) (n l : Nat) (h : l < n) (d : Int × Int) : (loadL paths r n).getD l d = (loadOf paths r l).getD (0, 1) := by
  simp [loadL, List.getD, List.getElem?_map, List.getElem?_range h]
theorem loadL_snoc (paths : List (List Int)) (r : List (Int × Int)) (n : Nat) : loadL paths r (n + 1) = loadL paths r n ++ [(loadOf paths r n).getD (0, 1)] := by
  simp [loadL, List.range_succ]
theorem allOk_snoc (paths : List (List Int)) (r : List (Int × Int)) (n : Nat) : allOk paths r (n + 1) = (allOk paths r n && (loadOf paths r n).isSome) := by
  simp [allOk, List.range_succ]
theorem allOk_le {paths : List (List Int)} {r : List (Int × Int)} {n m : Nat} (h : allOk paths r n = true) (hm : m ≤ n) : allOk paths r m = true := by
  simp only [allOk, List.all_eq_true, List.mem_range] at h ⊢
  exact fun l hl => h l (by omega)
theorem allOk_at {paths : List (List Int)} {r : List (Int × Int)} {n l : Nat} (h : allOk paths r n = true) (hl : l < n) : ∃ s, loadOf paths r l = some s := by
  simp only [allOk, List.all_eq_true, List.mem_range] at h
  exact Option.isSome_iff_exists.1 (h l hl)

theorem loadE_0 {caps : List Int} {paths : List (List Int)} {r : List (Int × Int)} (h : loadE caps paths r = 0) : netE caps paths = 0 ∧ r.length = paths.length ∧ ratesE r = 0 ∧ allOk paths r caps.length = true := by
  unfold loadE at h
  split at h
  · split at h
    · split at h
      · split at h
        · exact ⟨by assumption, by assumption, by assumption, by assumption⟩
        · omega
      · contradiction
    · omega
  · contradiction
theorem loadE_mk {caps : List Int} {paths : List (List Int)} {r : List (Int × Int)} (h1 : netE caps paths = 0) (h2 : r.length = paths.length) (h3 : ratesE r = 0) (h4 : allOk paths r caps.length = true) : loadE caps paths r = 0 := by
  rw [loadE, if_pos h1, if_pos h2, if_pos h3, if_pos h4]

theorem fault_sumP {a b : Int × Int} (ha : faultP a = 0) (hb : faultP b = 0) (h : mayP (sumP a b) = true) : faultP (sumP a b) = 0 := by
  have h1 := fault_0 ha
  have h2 := fault_0 hb
  have hp : 1 ≤ a.2 * b.2 := Int.mul_le_mul h1.1 h2.1 (by decide) (by omega)
  exact fault_low hp h
/-- what is added up of right rates is right -/
theorem addUp_fault {r : List (Int × Int)} (hr : ratesE r = 0) : ∀ (us : List Int) (s t : Int × Int), faultP s = 0 → addUp r us s = some t → faultP t = 0 := by
  intro us
  induction us with
  | nil => intro s t hs h; simp only [addUp, Option.some.injEq] at h; exact h ▸ hs
  | cons u us ih =>
    intro s t hs h
    simp only [addUp] at h
    split at h
    · rename_i hm
      refine ih _ _ (fault_sumP hs ?_ hm) h
      by_cases hu : u.toNat < r.length
      · exact (ratesE_iff r).1 hr _ (getD_mem r _ hu _)
      · rw [List.getD_eq_getElem?_getD, List.getElem?_eq_none (by omega)]
        decide
    · cases h
theorem loadOf_fault {paths : List (List Int)} {r : List (Int × Int)} {l : Nat} {s : Int × Int} (hr : ratesE r = 0) (h : loadOf paths r l = some s) : faultP s = 0 := addUp_fault hr _ _ _ (by decide) h
theorem addUp_snoc (r : List (Int × Int)) : ∀ (us : List Int) (u : Int) (s : Int × Int), addUp r (us ++ [u]) s = (addUp r us s).bind fun t => if mayP (sumP t (r.getD u.toNat (0, 1))) then some (sumP t (r.getD u.toNat (0, 1))) else none := by
  intro us
  induction us with
  | nil => intro u s; simp [addUp]
  | cons x us ih =>
    intro u s
    simp only [List.cons_append, addUp]
    split
    · exact ih _ _
    · rfl
/-- the users' numbers are flows -/
theorem usersFrom_mem (link : Int) : ∀ (l : List (List Int)) (i : Nat) (u : Int), u ∈ usersFrom link i l → (i : Int) ≤ u ∧ u < i + l.length := by
  intro l
  induction l with
  | nil => intro i u h; simp [usersFrom] at h
  | cons p r ih =>
    intro i u h
    simp only [usersFrom] at h
    split at h
    · rcases List.mem_cons.1 h with rfl | h
      · simp; omega
      · have := ih (i + 1) u h
        simp; omega
    · have := ih (i + 1) u h
      simp; omega
theorem users_mem {paths : List (List Int)} {link u : Int} (h : u ∈ users paths link) : 0 ≤ u ∧ u < paths.length := by
  have := usersFrom_mem link paths 0 u h
  omega
end Go.Proofs.Ytkpmjmgmgkdfnaj.Ld

/- Fractions as rational numbers: what a sum, a part and an order of two are. No Go in it. -/
namespace Go.Proofs.Ytkpmjmgmgkdfnaj.Fl
open Fr Ns Ld
set_option linter.unusedSimpArgs false

/-- the number that a fraction is -/
def val (a : Int × Int) : Rat := (a.1 : Rat) / (a.2 : Rat)

theorem castPos {b : Int} (h : 1 ≤ b) : (0 : Rat) < (b : Rat) := by
  have : ((0 : Int) : Rat) < (b : Rat) := Rat.intCast_lt_intCast.2 (by omega)
  simpa using this
theorem castNe {b : Int} (h : 1 ≤ b) : (b : Rat) ≠ 0 := by
  have := castPos h
  intro e
  rw [e] at this
  exact absurd this (by decide)
theorem val_mul {a : Int × Int} (h : 1 ≤ a.2) : val a * (a.2 : Rat) = (a.1 : Rat) := by
  have := castNe h
  unfold val
  grind
theorem val_of_mul {a : Int × Int} {q : Rat} (h : 1 ≤ a.2) (e : q * (a.2 : Rat) = (a.1 : Rat)) : val a = q := by
  have := castNe h
  have := val_mul h
  grind
theorem val_low {t b : Int} (h : 1 ≤ b) : val (lowT t b, lowB t b) = val (t, b) := by
  have hb := lowB_pos (t := t) h
  apply val_of_mul (a := (lowT t b, lowB t b)) hb
  have hr := low_ratio t b
  have hr' : (lowT t b : Rat) * (b : Rat) = (t : Rat) * (lowB t b : Rat) := by
    rw [← Rat.intCast_mul, ← Rat.intCast_mul, hr]
  have hv := val_mul (a := (t, b)) h
  have hn := castNe h
  simp only at hv ⊢
  have : (val (t, b) * (lowB t b : Rat)) * (b : Rat) = (lowT t b : Rat) * (b : Rat) := by
    rw [hr', Rat.mul_assoc, Rat.mul_comm (lowB t b : Rat), ← Rat.mul_assoc, hv]
  grind
theorem val_sum {a b : Int × Int} (ha : 1 ≤ a.2) (hb : 1 ≤ b.2) : val (sumP a b) = val a + val b := by
  have hp : 1 ≤ a.2 * b.2 := Int.mul_le_mul ha hb (by decide) (by omega)
  unfold sumP
  rw [val_low hp]
  apply val_of_mul (a := (a.1 * b.2 + b.1 * a.2, a.2 * b.2)) hp
  have h1 := val_mul ha
  have h2 := val_mul hb
  simp only
  rw [Rat.intCast_mul, Rat.intCast_add, Rat.intCast_mul, Rat.intCast_mul, ← h1, ← h2]
  grind
theorem val_neg (a : Int × Int) : val (-a.1, a.2) = - val a := by
  unfold val
  simp only [Rat.intCast_neg]
  grind
theorem val_whole (c : Int) : val (c, 1) = (c : Rat) := by
  have := val_mul (a := (c, 1)) (show (1 : Int) ≤ 1 by decide)
  simp only [Rat.intCast_one, Rat.mul_one] at this
  exact this
theorem val_part {t b k : Int} (hb : 1 ≤ b) (hk : 1 ≤ k) : val (lowT t (b * k), lowB t (b * k)) * (k : Rat) = val (t, b) := by
  have hp : 1 ≤ b * k := Int.mul_le_mul hb hk (by decide) (by omega)
  rw [val_low hp]
  have h1 := val_mul (a := (t, b * k)) hp
  have h2 := val_mul (a := (t, b)) hb
  have hn := castNe hb
  simp only [Rat.intCast_mul] at h1 h2
  have : (val (t, b * k) * (k : Rat)) * (b : Rat) = val (t, b) * (b : Rat) := by
    rw [h2, ← h1]; grind
  grind
theorem cross {a b : Int × Int} (ha : 1 ≤ a.2) (hb : 1 ≤ b.2) : (val a ≤ val b ↔ a.1 * b.2 ≤ b.1 * a.2) := by
  have h1 := val_mul ha
  have h2 := val_mul hb
  have p1 := castPos ha
  have p2 := castPos hb
  have p3 : (0 : Rat) < (a.2 : Rat) * (b.2 : Rat) := Rat.mul_pos p1 p2
  have e1 : ((a.1 * b.2 : Int) : Rat) = val a * ((a.2 : Rat) * (b.2 : Rat)) := by rw [Rat.intCast_mul, ← h1]; grind
  have e2 : ((b.1 * a.2 : Int) : Rat) = val b * ((a.2 : Rat) * (b.2 : Rat)) := by rw [Rat.intCast_mul, ← h2]; grind
  rw [← Rat.intCast_le_intCast, e1, e2]
  exact ⟨fun h => Rat.mul_le_mul_of_nonneg_right h (Rat.le_of_lt p3), fun h => Rat.le_of_mul_le_mul_right h p3⟩
theorem cross_lt {a b : Int × Int} (ha : 1 ≤ a.2) (hb : 1 ≤ b.2) : (val a < val b ↔ a.1 * b.2 < b.1 * a.2) := by
  have := cross hb ha
  rw [← Rat.not_le, this]
  omega
theorem fault_pos {a : Int × Int} (h : faultP a = 0) : 1 ≤ a.2 := (fault_0 h).1
/-- in lowest terms the number tells the fraction -/
theorem val_inj {a b : Int × Int} (ha : 1 ≤ a.2) (hb : 1 ≤ b.2) (ga : gd a.1 a.2 = 1) (gb : gd b.1 b.2 = 1) (h : val a = val b) : a = b := by
  have h1 : a.1 * b.2 ≤ b.1 * a.2 := (cross ha hb).1 (by rw [h]; exact Rat.le_refl)
  have h2 : b.1 * a.2 ≤ a.1 * b.2 := (cross hb ha).1 (by rw [h]; exact Rat.le_refl)
  have := ratio_uniq ga gb ha hb (by omega)
  exact Prod.ext this.1 this.2
theorem val_inj' {a b : Int × Int} (ha : faultP a = 0) (hb : faultP b = 0) (h : val a = val b) : a = b := val_inj (fault_pos ha) (fault_pos hb) (fault_iff.1 ha).2 (fault_iff.1 hb).2 h

/-- a fraction in lowest terms whose bottom divides D -/
def Over (D : Int) (a : Int × Int) : Prop := 1 ≤ a.2 ∧ gd a.1 a.2 = 1 ∧ a.2 ∣ D
theorem over_of {D t b m : Int} (hb : 1 ≤ b) (e : t * D = m * b) : Over D (lowT t b, lowB t b) := by
  refine ⟨lowB_pos hb, low_coprime hb, ?_⟩
  have h : lowT t b * D = m * lowB t b := by
    have h1 := lowT_mul (t := t) (b := b)
    have h2 := lowB_mul (t := t) (b := b)
    have hg := gd_pos (t := t) hb
    rw [← h1] at e
    have e' : m * b = m * (lowB t b * gd t b) := by rw [h2]
    rw [e'] at e
    have : (lowT t b * D) * gd t b = (m * lowB t b) * gd t b := by
      rw [Int.mul_right_comm, e, Int.mul_assoc]
    exact Int.eq_of_mul_eq_mul_right (by omega) this
  exact dvd_of_coprime (low_coprime hb) ⟨m, by rw [h, Int.mul_comm]⟩
theorem over_sum {D : Int} {a b : Int × Int} (ha : Over D a) (hb : Over D b) : Over D (sumP a b) := by
  obtain ⟨a1, _, k, hk⟩ := ha
  obtain ⟨b1, _, m, hm⟩ := hb
  have hp : 1 ≤ a.2 * b.2 := Int.mul_le_mul a1 b1 (by decide) (by omega)
  refine over_of (m := a.1 * k + b.1 * m) hp ?_
  have e1 : a.1 * b.2 * D = a.1 * k * (a.2 * b.2) := by rw [hk]; grind
  have e2 : b.1 * a.2 * D = b.1 * m * (a.2 * b.2) := by rw [hm]; grind
  rw [Int.add_mul, Int.add_mul, e1, e2]
theorem over_neg {D : Int} {a : Int × Int} (ha : Over D a) : Over D (-a.1, a.2) := ⟨ha.1, by rw [gd_neg]; exact ha.2.1, ha.2.2⟩
theorem over_whole (D c : Int) : Over D (c, 1) := ⟨Int.le_refl 1, by unfold gd; simp, ⟨D, by simp⟩⟩
theorem over_part {D k : Int} {a : Int × Int} (ha : Over D a) (hk : 1 ≤ k) : Over (D * k) (lowT a.1 (a.2 * k), lowB a.1 (a.2 * k)) := by
  obtain ⟨a1, _, m, hm⟩ := ha
  have hp : 1 ≤ a.2 * k := Int.mul_le_mul a1 hk (by decide) (by omega)
  exact over_of (m := a.1 * m) hp (by rw [hm]; grind)
theorem Over.mono {D E : Int} {a : Int × Int} (h : Over D a) (hd : D ∣ E) : Over E a := ⟨h.1, h.2.1, Int.dvd_trans h.2.2 hd⟩
theorem over_fault {D : Int} {a : Int × Int} (h : Over D a) (h1 : 1 ≤ D) (h2 : D ≤ 1000000) (l : 0 ≤ val a) (u : val a ≤ 1000) : faultP a = 0 := by
  obtain ⟨a1, ag, hd⟩ := h
  have hb : a.2 ≤ D := Int.le_of_dvd (by omega) hd
  have e0 : val (0, 1) = 0 := by rw [val_whole]; rfl
  have e1 : val (1000, 1) = 1000 := by rw [val_whole]; rfl
  rw [← e0] at l
  rw [← e1] at u
  have l' := (cross (a := (0, 1)) (by decide) a1).1 l
  have u' := (cross (b := (1000, 1)) a1 (by decide)).1 u
  simp only at l' u'
  exact fault_iff.2 ⟨mayB_iff.2 (by omega), ag⟩
end Go.Proofs.Ytkpmjmgmgkdfnaj.Fl

/- Shares: all of them together, their squares, the gap, and what some that go from one to another one make of these. No Go in it. -/
namespace Go.Proofs.Ytkpmjmgmgkdfnaj.Ev
open Fr Ns Ld Fl
set_option linter.unusedSimpArgs false
set_option linter.unusedVariables false

def tot : List Int → Int
  | [] => 0
  | x :: r => x + tot r
def sqs : List Int → Int
  | [] => 0
  | x :: r => x * x + sqs r
theorem tot_append (l m : List Int) : tot (l ++ m) = tot l + tot m := by
  induction l with
  | nil => simp [tot]
  | cons x r ih => simp only [List.cons_append, tot, ih]; omega
theorem sqs_append (l m : List Int) : sqs (l ++ m) = sqs l + sqs m := by
  induction l with
  | nil => simp [sqs]
  | cons x r ih => simp only [List.cons_append, sqs, ih]; omega
theorem tot_step (l : List Int) (k : Nat) (h : k < l.length) : tot (l.take (k + 1)) = tot (l.take k) + l.getD k 0 := by
  rw [take_snoc l k h 0, tot_append]; simp [tot]
theorem sqs_step (l : List Int) (k : Nat) (h : k < l.length) : sqs (l.take (k + 1)) = sqs (l.take k) + l.getD k 0 * l.getD k 0 := by
  rw [take_snoc l k h 0, sqs_append]; simp [sqs]

def inTo (most x : Int) : Bool := decide (0 ≤ x) && decide (x ≤ most)
/-- what is wrong with shares: 5 there is none, 4 too many, 1 one is out of bounds, 0 nothing -/
def few (l : List Int) (most : Int) : Int := if l.length = 0 then 5 else if 6 < l.length then 4 else if l.all (inTo most) then 0 else 1
theorem few_0 {l : List Int} {most : Int} : few l most = 0 ↔ 0 < l.length ∧ l.length ≤ 6 ∧ ∀ x ∈ l, 0 ≤ x ∧ x ≤ most := by
  unfold few
  split
  · constructor
    · intro h; omega
    · intro h; omega
  · split
    · constructor
      · intro h; omega
      · intro h; omega
    · split
      · rename_i h
        rw [List.all_eq_true] at h
        constructor
        · intro _
          exact ⟨by omega, by omega, fun x hx => by simpa [inTo] using h x hx⟩
        · intro _; rfl
      · rename_i h
        constructor
        · intro e; omega
        · rintro ⟨_, _, hb⟩
          exfalso; apply h
          rw [List.all_eq_true]
          intro x hx
          simpa [inTo] using hb x hx

theorem tot_bd {M : Int} : ∀ {l : List Int}, (∀ x ∈ l, 0 ≤ x ∧ x ≤ M) → 0 ≤ tot l ∧ tot l ≤ l.length * M := by
  intro l
  induction l with
  | nil => intro _; simp [tot]
  | cons x r ih =>
    intro h
    have h1 := h x (by simp)
    have h2 := ih fun y hy => h y (by simp [hy])
    simp only [tot, List.length_cons]
    have e : ((r.length + 1 : Nat) : Int) * M = r.length * M + M := by rw [Int.natCast_add, Int.add_mul]; simp
    rw [e]
    omega
theorem sqs_bd {M : Int} : ∀ {l : List Int}, (∀ x ∈ l, 0 ≤ x ∧ x ≤ M) → 0 ≤ sqs l ∧ sqs l ≤ l.length * (M * M) := by
  intro l
  induction l with
  | nil => intro _; simp [sqs]
  | cons x r ih =>
    intro h
    have h1 := h x (by simp)
    have h2 := ih fun y hy => h y (by simp [hy])
    simp only [sqs, List.length_cons]
    have e : ((r.length + 1 : Nat) : Int) * (M * M) = r.length * (M * M) + M * M := by rw [Int.natCast_add, Int.add_mul]; simp
    rw [e]
    have h3 : x * x ≤ M * M := Int.mul_le_mul h1.2 h1.2 h1.1 (by omega)
    have h4 : 0 ≤ x * x := Int.mul_nonneg h1.1 h1.1
    omega

def dev (x : Int) : List Int → Int
  | [] => 0
  | y :: r => (x - y) * (x - y) + dev x r
theorem sq_nonneg (x : Int) : 0 ≤ x * x := by
  rcases Int.le_total 0 x with h | h
  · exact Int.mul_nonneg h h
  · exact Int.mul_nonneg_of_nonpos_of_nonpos h h
theorem sq_zero {x : Int} (h : x * x = 0) : x = 0 := by
  rcases Int.mul_eq_zero.1 h with h | h <;> exact h
theorem dev_nonneg (x : Int) : ∀ l, 0 ≤ dev x l := by
  intro l
  induction l with
  | nil => simp [dev]
  | cons y r ih => have := sq_nonneg (x - y); simp only [dev]; omega
theorem dev_zero {x : Int} : ∀ {l}, dev x l = 0 → ∀ y ∈ l, y = x := by
  intro l
  induction l with
  | nil => intro _ y hy; simp at hy
  | cons z r ih =>
    intro h y hy
    have h1 := sq_nonneg (x - z)
    have h2 := dev_nonneg x r
    simp only [dev] at h
    have h3 : (x - z) * (x - z) = 0 := by omega
    have h4 := sq_zero h3
    rcases List.mem_cons.1 hy with rfl | hy
    · omega
    · exact ih (by omega) y hy
theorem dev_eq (x : Int) : ∀ l : List Int, dev x l = l.length * (x * x) - 2 * (x * tot l) + sqs l := by
  intro l
  induction l with
  | nil => simp [dev, tot, sqs]
  | cons y r ih =>
    simp only [dev, tot, sqs, List.length_cons, ih]
    have e : ((r.length + 1 : Nat) : Int) = r.length + 1 := by simp
    rw [e]
    grind
theorem part_eq (x : Int) (r : List Int) : ((x :: r).length : Int) * sqs (x :: r) - tot (x :: r) * tot (x :: r) = (r.length * sqs r - tot r * tot r) + dev x r := by
  rw [dev_eq]
  simp only [tot, sqs, List.length_cons]
  have e : ((r.length + 1 : Nat) : Int) = r.length + 1 := by simp
  rw [e]
  grind
/-- the square of all together is no more than so many times their squares together, and as much just if all are alike -/
theorem cauchy : ∀ l : List Int, tot l * tot l ≤ l.length * sqs l := by
  intro l
  induction l with
  | nil => simp [tot, sqs]
  | cons x r ih =>
    have := part_eq x r
    have := dev_nonneg x r
    omega
theorem cauchy_eq : ∀ {l : List Int}, tot l * tot l = l.length * sqs l → ∀ x ∈ l, ∀ y ∈ l, x = y := by
  intro l
  induction l with
  | nil => intro _ x hx; simp at hx
  | cons z r ih =>
    intro h
    have h1 := part_eq z r
    have h2 := dev_nonneg z r
    have h3 := cauchy r
    have hz := dev_zero (x := z) (l := r) (by omega)
    intro x hx y hy
    have e : ∀ x ∈ z :: r, x = z := fun x hx => by
      rcases List.mem_cons.1 hx with rfl | hx
      · rfl
      · exact hz x hx
    rw [e x hx, e y hy]
theorem alike_eq {c : Int} : ∀ {l : List Int}, (∀ x ∈ l, x = c) → tot l = l.length * c ∧ sqs l = l.length * (c * c) := by
  intro l
  induction l with
  | nil => intro _; simp [tot, sqs]
  | cons x r ih =>
    intro h
    have h1 := h x (by simp)
    have h2 := ih fun y hy => h y (by simp [hy])
    simp only [tot, sqs, List.length_cons, h1, h2.1, h2.2]
    have e : ((r.length + 1 : Nat) : Int) = r.length + 1 := by simp
    rw [e]
    constructor <;> grind
theorem square_all : ∀ {l : List Int}, (∀ x ∈ l, 0 ≤ x) → sqs l ≤ tot l * tot l ∧ 0 ≤ tot l := by
  intro l
  induction l with
  | nil => intro _; simp [tot, sqs]
  | cons x r ih =>
    intro h
    have h1 := h x (by simp)
    obtain ⟨h2, h3⟩ := ih fun y hy => h y (by simp [hy])
    have h4 : 0 ≤ x * tot r := Int.mul_nonneg h1 h3
    simp only [tot, sqs]
    have e : (x + tot r) * (x + tot r) = x * x + 2 * (x * tot r) + tot r * tot r := by grind
    rw [e]
    constructor <;> omega

/-! ### the gap -/
theorem mx_ge (a : Int) : ∀ l : List Int, a ≤ l.foldl max a ∧ ∀ x ∈ l, x ≤ l.foldl max a := by
  intro l
  induction l generalizing a with
  | nil => simp
  | cons y r ih =>
    obtain ⟨h1, h2⟩ := ih (max a y)
    simp only [List.foldl_cons]
    refine ⟨by omega, fun x hx => ?_⟩
    rcases List.mem_cons.1 hx with rfl | hx
    · omega
    · exact h2 x hx
theorem mx_in (a : Int) : ∀ l : List Int, l.foldl max a = a ∨ l.foldl max a ∈ l := by
  intro l
  induction l generalizing a with
  | nil => simp
  | cons y r ih =>
    simp only [List.foldl_cons]
    rcases ih (max a y) with h | h
    · rcases Int.le_total a y with h' | h'
      · right; rw [h, Int.max_eq_right h']; simp
      · left; rw [h, Int.max_eq_left h']
    · right; simp [h]
theorem mn_le (a : Int) : ∀ l : List Int, l.foldl min a ≤ a ∧ ∀ x ∈ l, l.foldl min a ≤ x := by
  intro l
  induction l generalizing a with
  | nil => simp
  | cons y r ih =>
    obtain ⟨h1, h2⟩ := ih (min a y)
    simp only [List.foldl_cons]
    refine ⟨by omega, fun x hx => ?_⟩
    rcases List.mem_cons.1 hx with rfl | hx
    · omega
    · exact h2 x hx
theorem mn_in (a : Int) : ∀ l : List Int, l.foldl min a = a ∨ l.foldl min a ∈ l := by
  intro l
  induction l generalizing a with
  | nil => simp
  | cons y r ih =>
    simp only [List.foldl_cons]
    rcases ih (min a y) with h | h
    · rcases Int.le_total a y with h' | h'
      · left; rw [h, Int.min_eq_left h']
      · right; rw [h, Int.min_eq_right h']; simp
    · right; simp [h]
def mxL (l : List Int) : Int := l.foldl max (l.getD 0 0)
def mnL (l : List Int) : Int := l.foldl min (l.getD 0 0)
/-- the greatest less the least -/
def gapL (l : List Int) : Int := mxL l - mnL l
theorem mx_step (l : List Int) (a : Int) (k : Nat) (h : k < l.length) : (l.take (k + 1)).foldl max a = max ((l.take k).foldl max a) (l.getD k 0) := by
  rw [take_snoc l k h 0, List.foldl_append]; rfl
theorem mn_step (l : List Int) (a : Int) (k : Nat) (h : k < l.length) : (l.take (k + 1)).foldl min a = min ((l.take k).foldl min a) (l.getD k 0) := by
  rw [take_snoc l k h 0, List.foldl_append]; rfl
theorem mxL_spec {l : List Int} (h : 0 < l.length) : mxL l ∈ l ∧ ∀ x ∈ l, x ≤ mxL l := by
  refine ⟨?_, (mx_ge _ l).2⟩
  rcases mx_in (l.getD 0 0) l with e | e
  · unfold mxL; rw [e]; exact getD_mem l 0 h 0
  · exact e
theorem mnL_spec {l : List Int} (h : 0 < l.length) : mnL l ∈ l ∧ ∀ x ∈ l, mnL l ≤ x := by
  refine ⟨?_, (mn_le _ l).2⟩
  rcases mn_in (l.getD 0 0) l with e | e
  · unfold mnL; rw [e]; exact getD_mem l 0 h 0
  · exact e
theorem gap_nonneg {l : List Int} (h : 0 < l.length) : 0 ≤ gapL l := by
  have := (mxL_spec h).2 _ (mnL_spec h).1
  unfold gapL; omega
/-- no two are further apart than the gap -/
theorem gap_ge {l : List Int} (h : 0 < l.length) {x y : Int} (hx : x ∈ l) (hy : y ∈ l) : x - y ≤ gapL l := by
  have h1 := (mxL_spec h).2 x hx
  have h2 := (mnL_spec h).2 y hy
  unfold gapL; omega
theorem gap_le {l : List Int} {d : Int} (h : 0 < l.length) (hd : ∀ x ∈ l, ∀ y ∈ l, x - y ≤ d) : gapL l ≤ d := hd _ (mxL_spec h).1 _ (mnL_spec h).1
theorem gap_zero {l : List Int} (h : 0 < l.length) : gapL l = 0 ↔ ∀ x ∈ l, ∀ y ∈ l, x = y := by
  constructor
  · intro e x hx y hy
    have h1 := gap_ge h hx hy
    have h2 := gap_ge h hy hx
    omega
  · intro e
    have h1 := gap_nonneg h
    have h2 := gap_le (d := 0) h (fun x hx y hy => by have := e x hx y hy; omega)
    omega

/-! ### the index -/
def idx (l : List Int) : Int × Int := (lowT (tot l * tot l) (l.length * sqs l), lowB (tot l * tot l) (l.length * sqs l))
def idxE (l : List Int) : Int := if few l 1000 = 0 then if tot l = 0 then 5 else 0 else few l 1000
theorem idxE_0 {l : List Int} : idxE l = 0 ↔ few l 1000 = 0 ∧ tot l ≠ 0 := by
  unfold idxE
  split
  · split
    · constructor
      · intro h; omega
      · rintro ⟨_, h⟩; contradiction
    · constructor
      · intro _; exact ⟨by assumption, by assumption⟩
      · intro _; rfl
  · constructor
    · intro h; contradiction
    · rintro ⟨h, _⟩; contradiction
theorem idx_parts {l : List Int} (h : idxE l = 0) : 1 ≤ tot l ∧ tot l ≤ 6000 ∧ 1 ≤ sqs l ∧ sqs l ≤ 6000000 ∧ 1 ≤ (l.length : Int) * sqs l ∧ (l.length : Int) * sqs l ≤ 36000000 ∧ 0 ≤ tot l * tot l ∧ tot l * tot l ≤ 36000000 := by
  obtain ⟨h1, h2⟩ := idxE_0.1 h
  obtain ⟨n1, n2, hb⟩ := few_0.1 h1
  have t := tot_bd hb
  have s := sqs_bd hb
  have c := cauchy l
  have hn : (1 : Int) ≤ l.length ∧ (l.length : Int) ≤ 6 := by omega
  have t1 : 1 ≤ tot l := by omega
  have t2 : tot l ≤ 6000 := by
    have : (l.length : Int) * 1000 ≤ 6 * 1000 := by omega
    omega
  have tt : 1 ≤ tot l * tot l := Int.mul_le_mul t1 t1 (by decide) (by omega)
  have t3 : tot l * tot l ≤ 6000 * 6000 := Int.mul_le_mul t2 t2 (by omega) (by omega)
  have s2 : sqs l ≤ 6000000 := by
    have : (l.length : Int) * (1000 * 1000) ≤ 6 * 1000000 := by omega
    omega
  have s1 : 1 ≤ sqs l := by
    rcases Int.lt_or_le 0 (sqs l) with hs | hs
    · omega
    · have : sqs l = 0 := by omega
      rw [this] at c
      omega
  have ns : (l.length : Int) * sqs l ≤ 6 * 6000000 := Int.mul_le_mul hn.2 s2 (by omega) (by omega)
  exact ⟨t1, t2, s1, s2, by omega, by omega, by omega, by omega⟩
theorem low_bd {t b : Int} (h0 : 0 ≤ t) (hb : 1 ≤ b) : 0 ≤ lowT t b ∧ lowT t b ≤ t ∧ 1 ≤ lowB t b ∧ lowB t b ≤ b := by
  have g := gd_pos (t := t) hb
  have e1 := lowT_mul (t := t) (b := b)
  have e2 := lowB_mul (t := t) (b := b)
  have p := lowB_pos (t := t) hb
  have q : 0 ≤ lowT t b := by
    rcases Int.lt_or_le (lowT t b) 0 with h | h
    · have : lowT t b * gd t b ≤ -1 * gd t b := Int.mul_le_mul_of_nonneg_right (by omega) (by omega)
      omega
    · exact h
  have a1 : lowT t b * 1 ≤ lowT t b * gd t b := Int.mul_le_mul_of_nonneg_left g q
  have a2 : lowB t b * 1 ≤ lowB t b * gd t b := Int.mul_le_mul_of_nonneg_left g (by omega)
  refine ⟨q, by omega, p, by omega⟩
theorem idx_right {l : List Int} (h : idxE l = 0) : faultP (idx l) = 0 := by
  obtain ⟨_, _, _, _, b1, b2, t1, t2⟩ := idx_parts h
  obtain ⟨c1, c2, c3, c4⟩ := low_bd t1 b1
  exact fault_low b1 (mayB_iff.2 (by omega))
theorem idx_val {l : List Int} (h : idxE l = 0) : val (idx l) = val (tot l * tot l, (l.length : Int) * sqs l) := val_low (idx_parts h).2.2.2.2.1
theorem cmp_le' {a b : Int × Int} (ha : 1 ≤ a.2) (hb : 1 ≤ b.2) : cmpI (a.1 * b.2) (b.1 * a.2) ≤ 0 ↔ val a ≤ val b := by
  rw [cross ha hb]; unfold cmpI
  split
  · constructor <;> intro <;> omega
  · split
    · constructor <;> intro <;> omega
    · constructor <;> intro <;> omega
theorem cmp_eq' {a b : Int × Int} (ha : 1 ≤ a.2) (hb : 1 ≤ b.2) : cmpI (a.1 * b.2) (b.1 * a.2) = 0 ↔ val a = val b := by
  have h1 := cross ha hb
  have h2 := cross hb ha
  have e : val a = val b ↔ val a ≤ val b ∧ val b ≤ val a := by
    constructor
    · intro e; rw [e]; exact ⟨Rat.le_refl, Rat.le_refl⟩
    · rintro ⟨x, y⟩; grind
  rw [e, h1, h2]; unfold cmpI
  split
  · constructor <;> intro <;> omega
  · split
    · constructor <;> intro <;> omega
    · constructor <;> intro <;> omega
/-- from all for one to all alike -/
theorem idx_between {l : List Int} (h : idxE l = 0) : cmpI (1 * (idx l).2) ((idx l).1 * (l.length : Int)) ≤ 0 ∧ cmpI ((idx l).1 * 1) (1 * (idx l).2) ≤ 0 ∧ (cmpI ((idx l).1 * 1) (1 * (idx l).2) = 0 ↔ gapL l = 0) := by
  obtain ⟨h1, h2⟩ := idxE_0.1 h
  obtain ⟨n1, n2, hb⟩ := few_0.1 h1
  have hn : (1 : Int) ≤ l.length := by omega
  obtain ⟨t1, t2, s1, s2, b1, b2, q1, q2⟩ := idx_parts h
  have hv := idx_val h
  have hp := fault_pos (idx_right h)
  refine ⟨?_, ?_, ?_⟩
  · rw [cmp_le' (a := (1, (l.length : Int))) (b := idx l) hn hp, hv, cross (a := (1, (l.length : Int))) (b := (tot l * tot l, (l.length : Int) * sqs l)) hn b1]
    have := (square_all fun x hx => (hb x hx).1).1
    have := Int.mul_le_mul_of_nonneg_left this (show (0 : Int) ≤ l.length by omega)
    simp only
    grind
  · rw [cmp_le' (a := idx l) (b := (1, 1)) hp (by decide), hv, cross (a := (tot l * tot l, (l.length : Int) * sqs l)) (b := (1, 1)) b1 (by decide)]
    have := cauchy l
    simpa using this
  · rw [cmp_eq' (a := idx l) (b := (1, 1)) hp (by decide), hv, gap_zero n1]
    have e : val (tot l * tot l, (l.length : Int) * sqs l) = val (1, 1) ↔ tot l * tot l = (l.length : Int) * sqs l := by
      have := cmp_eq' (a := (tot l * tot l, (l.length : Int) * sqs l)) (b := (1, 1)) b1 (by decide)
      rw [← this]
      simp only [Int.mul_one, Int.one_mul]
      unfold cmpI
      split
      · constructor <;> intro <;> omega
      · split
        · constructor <;> intro <;> omega
        · constructor <;> intro <;> omega
    rw [e]
    constructor
    · exact cauchy_eq
    · intro ha
      obtain ⟨e1, e2⟩ := alike_eq (c := l.getD 0 0) (l := l) fun x hx => ha x hx _ (getD_mem l 0 n1 0)
      rw [e1, e2]
      grind

/-! ### some go from one to another one -/
def giveL (l : List Int) (f t : Nat) (m : Int) : List Int := (l.set f (l.getD f 0 - m)).set t ((l.set f (l.getD f 0 - m)).getD t 0 + m)
theorem tot_set : ∀ (l : List Int) (f : Nat) (x : Int), f < l.length → tot (l.set f x) = tot l - l.getD f 0 + x := by
  intro l
  induction l with
  | nil => intro f x h; simp at h
  | cons y r ih =>
    intro f x h
    cases f with
    | zero => simp [tot]; omega
    | succ f => have := ih f x (by simpa using h); simp [tot] at this ⊢; omega
theorem sqs_set : ∀ (l : List Int) (f : Nat) (x : Int), f < l.length → sqs (l.set f x) = sqs l - l.getD f 0 * l.getD f 0 + x * x := by
  intro l
  induction l with
  | nil => intro f x h; simp at h
  | cons y r ih =>
    intro f x h
    cases f with
    | zero => simp [sqs]; omega
    | succ f => have := ih f x (by simpa using h); simp [sqs] at this ⊢; omega
theorem getD_set_self (l : List Int) (f : Nat) (x : Int) (h : f < l.length) : (l.set f x).getD f 0 = x := by
  simp [List.getD, h]
theorem getD_set_ne (l : List Int) {f g : Nat} (x : Int) (h : f ≠ g) : (l.set f x).getD g 0 = l.getD g 0 := by
  simp [List.getD, List.getElem?_set_ne h]
theorem giveL_length (l : List Int) (f t : Nat) (m : Int) : (giveL l f t m).length = l.length := by simp [giveL]
theorem give_same (l : List Int) (f : Nat) (m : Int) (hf : f < l.length) : giveL l f f m = l := by
  unfold giveL
  rw [getD_set_self _ _ _ hf, List.set_set]
  have e : l.getD f 0 - m + m = l.getD f 0 := by omega
  rw [e]
  apply List.ext_getElem?
  intro i
  by_cases h : f = i
  · subst h
    rw [List.getElem?_set_self hf]
    simp [List.getD, List.getElem?_eq_getElem hf]
  · rw [List.getElem?_set_ne h]
theorem give_tot (l : List Int) (f t : Nat) (m : Int) (hf : f < l.length) (ht : t < l.length) : tot (giveL l f t m) = tot l := by
  by_cases e : f = t
  · subst e; rw [give_same _ _ _ hf]
  · unfold giveL
    rw [tot_set _ _ _ (by simpa using ht), tot_set _ _ _ hf]
    omega
/-- what a richer one gives a poorer one, no more than the half between, makes squares no more -/
theorem give_sqs (l : List Int) (f t : Nat) (m : Int) (hf : f < l.length) (ht : t < l.length) (hm : 0 ≤ m) (h2 : 2 * m ≤ l.getD f 0 - l.getD t 0) : sqs (giveL l f t m) ≤ sqs l := by
  by_cases e : f = t
  · subst e; rw [give_same _ _ _ hf]; exact Int.le_refl _
  · unfold giveL
    rw [sqs_set _ _ _ (by simpa using ht), sqs_set _ _ _ hf, getD_set_ne _ _ e]
    generalize l.getD f 0 = a at *
    generalize l.getD t 0 = b at *
    have e1 : (a - m) * (a - m) = a * a - 2 * (m * a) + m * m := by grind
    have e2 : (b + m) * (b + m) = b * b + 2 * (m * b) + m * m := by grind
    have e3 : m * (2 * m) ≤ m * (a - b) := Int.mul_le_mul_of_nonneg_left h2 hm
    have e4 : m * (2 * m) = 2 * (m * m) := by grind
    have e5 : m * (a - b) = m * a - m * b := by grind
    rw [e1, e2]
    have hmm := sq_nonneg m
    omega
theorem mem_give {l : List Int} {f t : Nat} {m : Int} {x : Int} (hf : f < l.length) (ht : t < l.length) (e : f ≠ t) (h : x ∈ giveL l f t m) : x ∈ l ∨ x = l.getD f 0 - m ∨ x = l.getD t 0 + m := by
  unfold giveL at h
  rw [getD_set_ne _ _ e] at h
  rcases List.mem_or_eq_of_mem_set h with h | h
  · rcases List.mem_or_eq_of_mem_set h with h | h
    · exact .inl h
    · exact .inr (.inl h)
  · exact .inr (.inr h)
theorem give_gap (l : List Int) (f t : Nat) (m : Int) (hf : f < l.length) (ht : t < l.length) (hm : 0 ≤ m) (h2 : 2 * m ≤ l.getD f 0 - l.getD t 0) : gapL (giveL l f t m) ≤ gapL l := by
  by_cases e : f = t
  · subst e; rw [give_same _ _ _ hf]; exact Int.le_refl _
  · have h0 : 0 < l.length := by omega
    have bx : ∀ x ∈ giveL l f t m, mnL l ≤ x ∧ x ≤ mxL l := by
      intro x hx
      have a1 := (mxL_spec h0).2
      have a2 := (mnL_spec h0).2
      have f1 := a1 _ (getD_mem l f hf 0)
      have f2 := a2 _ (getD_mem l f hf 0)
      have t1 := a1 _ (getD_mem l t ht 0)
      have t2 := a2 _ (getD_mem l t ht 0)
      rcases mem_give hf ht e hx with h | h | h
      · exact ⟨a2 x h, a1 x h⟩
      · omega
      · omega
    refine gap_le (by rw [giveL_length]; exact h0) fun x hx y hy => ?_
    have := bx x hx
    have := bx y hy
    unfold gapL
    omega
/-- no less even -/
theorem give_idx {l : List Int} {f t : Nat} {m : Int} (h : idxE l = 0) (hy : few (giveL l f t m) 1000 = 0) (hf : f < l.length) (ht : t < l.length) (hm : 0 ≤ m) (h2 : 2 * m ≤ l.getD f 0 - l.getD t 0) :
    idxE (giveL l f t m) = 0 ∧ cmpI ((idx l).1 * (idx (giveL l f t m)).2) ((idx (giveL l f t m)).1 * (idx l).2) ≤ 0 := by
  have e0 : idxE (giveL l f t m) = 0 := idxE_0.2 ⟨hy, by rw [give_tot l f t m hf ht]; exact (idxE_0.1 h).2⟩
  refine ⟨e0, ?_⟩
  rw [cmp_le' (fault_pos (idx_right h)) (fault_pos (idx_right e0)), idx_val h, idx_val e0, give_tot l f t m hf ht, giveL_length]
  have p1 := (idx_parts h).2.2.2.2.1
  have p2 := (idx_parts e0).2.2.2.2.1
  rw [giveL_length] at p2
  rw [cross (a := (tot l * tot l, (l.length : Int) * sqs l)) (b := (tot l * tot l, (l.length : Int) * sqs (giveL l f t m))) p1 p2]
  have := give_sqs l f t m hf ht hm h2
  have := Int.mul_le_mul_of_nonneg_left this (show (0 : Int) ≤ l.length by omega)
  exact Int.mul_le_mul_of_nonneg_left this (sq_nonneg _)

/-! ### times as much -/
theorem tot_times (c : Int) : ∀ l : List Int, tot (l.map (· * c)) = tot l * c := by
  intro l
  induction l with
  | nil => simp [tot]
  | cons x r ih => simp only [List.map_cons, tot, ih]; grind
theorem sqs_times (c : Int) : ∀ l : List Int, sqs (l.map (· * c)) = sqs l * (c * c) := by
  intro l
  induction l with
  | nil => simp [sqs]
  | cons x r ih => simp only [List.map_cons, sqs, ih]; grind
theorem times_idx {l : List Int} {c : Int} (h : idxE l = 0) (hc : 1 ≤ c) (hm : ∀ x ∈ l, x * c ≤ 1000) : idxE (l.map (· * c)) = 0 ∧ idx (l.map (· * c)) = idx l := by
  obtain ⟨h1, h2⟩ := idxE_0.1 h
  obtain ⟨n1, n2, hb⟩ := few_0.1 h1
  have e0 : idxE (l.map (· * c)) = 0 := by
    refine idxE_0.2 ⟨few_0.2 ⟨by simpa using n1, by simpa using n2, fun x hx => ?_⟩, ?_⟩
    · obtain ⟨y, hy, rfl⟩ := List.mem_map.1 hx
      exact ⟨Int.mul_nonneg (hb y hy).1 (by omega), hm y hy⟩
    · rw [tot_times]
      intro e
      rcases Int.mul_eq_zero.1 e with e | e
      · exact h2 e
      · omega
  refine ⟨e0, ?_⟩
  have p1 := (idx_parts h).2.2.2.2.1
  have p2 := (idx_parts e0).2.2.2.2.1
  unfold idx
  rw [tot_times, sqs_times, List.length_map] at *
  have := low_of_ratio (t := tot l * c * (tot l * c)) (b := l.length * (sqs l * (c * c))) (u := tot l * tot l) (c := l.length * sqs l) p2 p1 (by grind)
  rw [this.1, this.2]
theorem times_gap {l : List Int} {c : Int} (h : 0 < l.length) (hc : 0 ≤ c) : gapL (l.map (· * c)) = gapL l * c := by
  have h' : 0 < (l.map (· * c)).length := by simpa using h
  have a := mxL_spec h
  have b := mnL_spec h
  have a' := mxL_spec h'
  have b' := mnL_spec h'
  have e1 : mxL (l.map (· * c)) = mxL l * c := by
    have u1 : mxL l * c ≤ _ := a'.2 _ (List.mem_map.2 ⟨_, a.1, rfl⟩)
    obtain ⟨y, hy, e⟩ := List.mem_map.1 a'.1
    have u2 := Int.mul_le_mul_of_nonneg_right (a.2 y hy) hc
    have e : y * c = _ := e
    omega
  have e2 : mnL (l.map (· * c)) = mnL l * c := by
    have u1 : _ ≤ mnL l * c := b'.2 _ (List.mem_map.2 ⟨_, b.1, rfl⟩)
    obtain ⟨y, hy, e⟩ := List.mem_map.1 b'.1
    have u2 := Int.mul_le_mul_of_nonneg_right (b.2 y hy) hc
    have e : y * c = _ := e
    omega
  unfold gapL
  rw [e1, e2, Int.sub_mul]
end Go.Proofs.Ytkpmjmgmgkdfnaj.Ev

/- A bucket of tokens, a pool ahead of a link, marks of a thousand: tick by tick, and what stays so. No Go in it. -/
namespace Go.Proofs.Ytkpmjmgmgkdfnaj.Ev
open Fr Ns Ld Fl
set_option linter.unusedSimpArgs false
set_option linter.unusedVariables false

theorem foldl_step {α : Type} (f : α → Int → α) (a : α) (l : List Int) (k : Nat) (h : k < l.length) : (l.take (k + 1)).foldl f a = f ((l.take k).foldl f a) (l.getD k 0) := by
  rw [take_snoc l k h 0, List.foldl_append]; rfl
theorem take_all {l : List Int} {k : Nat} (h : l.length ≤ k) : l.take k = l := List.take_of_length_le h
/-- what is wrong with what comes tick by tick -/
def ticksE (l : List Int) : Int := if 60 < l.length then 4 else if l.all (inTo 10000) then 0 else 1
theorem ticksE_0 {l : List Int} : ticksE l = 0 ↔ l.length ≤ 60 ∧ ∀ x ∈ l, 0 ≤ x ∧ x ≤ 10000 := by
  unfold ticksE
  split
  · constructor
    · intro h; omega
    · intro h; omega
  · split
    · rename_i h
      rw [List.all_eq_true] at h
      exact ⟨fun _ => ⟨by omega, fun x hx => by simpa [inTo] using h x hx⟩, fun _ => rfl⟩
    · rename_i h
      constructor
      · intro e; omega
      · rintro ⟨_, hb⟩
        exfalso; apply h
        rw [List.all_eq_true]
        intro x hx
        simpa [inTo] using hb x hx

/-! ### the bucket: how many it holds, how many come, how many there are -/
def bktE (s r h : Int) : Int := if s < 1 ∨ 10000 < s ∨ r < 0 ∨ s < r ∨ h < 0 ∨ s < h then 1 else 0
theorem bktE_0 {s r h : Int} : bktE s r h = 0 ↔ 1 ≤ s ∧ s ≤ 10000 ∧ 0 ≤ r ∧ r ≤ s ∧ 0 ≤ h ∧ h ≤ s := by
  unfold bktE
  split <;> constructor <;> intro hh <;> omega
def fillH (s r h : Int) : Int := if s < h + r then s else h + r
def goes (w h : Int) : Int := if h < w then h else w
/-- what waits, the tokens, what went -/
def stepB (s r : Int) (p : Int × Int × List Int) (c : Int) : Int × Int × List Int := (p.1 + c - goes (p.1 + c) p.2.1, fillH s r (p.2.1 - goes (p.1 + c) p.2.1), p.2.2 ++ [goes (p.1 + c) p.2.1])
def bkSt (s r h : Int) (l : List Int) : Int × Int × List Int := l.foldl (stepB s r) (0, h, [])
def sentL (s r h : Int) (l : List Int) : List Int := (bkSt s r h l).2.2
theorem bkSt_step (s r h : Int) (l : List Int) (k : Nat) (hk : k < l.length) : bkSt s r h (l.take (k + 1)) = stepB s r (bkSt s r h (l.take k)) (l.getD k 0) := foldl_step _ _ l k hk

structure BkInv (s r h : Int) (l : List Int) (k : Nat) : Prop where
  len : (bkSt s r h (l.take k)).2.2.length = k
  wait : 0 ≤ (bkSt s r h (l.take k)).1 ∧ (bkSt s r h (l.take k)).1 + tot (bkSt s r h (l.take k)).2.2 = tot (l.take k)
  has : 0 ≤ (bkSt s r h (l.take k)).2.1 ∧ (bkSt s r h (l.take k)).2.1 ≤ s
  sent : ∀ x ∈ (bkSt s r h (l.take k)).2.2, 0 ≤ x ∧ x ≤ s
theorem bk_inv {s r h : Int} {l : List Int} (hb : bktE s r h = 0) (hl : ∀ x ∈ l, 0 ≤ x) : ∀ k, k ≤ l.length → BkInv s r h l k := by
  have h0 := bktE_0.1 hb
  intro k
  induction k with
  | zero => intro _; exact ⟨by simp [bkSt], by simp [bkSt, tot], by simp [bkSt]; omega, by simp [bkSt]⟩
  | succ k ih =>
    intro hk
    obtain ⟨i1, i2, i3, i4⟩ := ih (by omega)
    have hc := hl _ (getD_mem l k (by omega) 0)
    have ht := tot_step l k (by omega)
    have hst := bkSt_step s r h l k (by omega)
    generalize bkSt s r h (l.take k) = p at *
    generalize l.getD k 0 = c at *
    have hg : 0 ≤ goes (p.1 + c) p.2.1 ∧ goes (p.1 + c) p.2.1 ≤ p.2.1 ∧ goes (p.1 + c) p.2.1 ≤ p.1 + c := by unfold goes; split <;> omega
    have hf : ∀ x, 0 ≤ x → 0 ≤ fillH s r x ∧ fillH s r x ≤ s := by intro x hx; unfold fillH; split <;> omega
    refine ⟨?_, ?_, ?_, ?_⟩ <;> rw [hst] <;> simp only [stepB]
    · simp [i1]
    · rw [tot_append, ht]
      simp only [tot]
      omega
    · exact hf _ (by omega)
    · intro x hx
      rcases List.mem_append.1 hx with hx | hx
      · exact i4 x hx
      · simp at hx; omega
theorem sent_take {s r h : Int} {l : List Int} (k : Nat) (hk : k ≤ l.length) : ∀ m, k ≤ m → m ≤ l.length → BkInv s r h l k → (bkSt s r h (l.take m)).2.2.take k = (bkSt s r h (l.take k)).2.2 := by
  intro m
  induction m with
  | zero =>
    intro h1 _ hi
    have : k = 0 := by omega
    subst this
    rw [List.take_of_length_le (by rw [hi.len]; omega)]
  | succ m ih =>
    intro h1 h2 hi
    by_cases e : k = m + 1
    · rw [← e, List.take_of_length_le (by rw [hi.len]; omega)]
    · have := ih (by omega) (by omega) hi
      rw [bkSt_step s r h l m (by omega)]
      simp only [stepB]
      have hlen : k ≤ (bkSt s r h (l.take m)).2.2.length := by
        have := congrArg List.length this
        rw [hi.len, List.length_take] at this
        omega
      rw [List.take_append_of_le_length hlen]
      exact this
/-- in any row of ticks no more goes than the bucket holds, and what came between -/
theorem sent_row {s r h : Int} {l : List Int} (hb : bktE s r h = 0) (hl : ∀ x ∈ l, 0 ≤ x) (i : Nat) : ∀ k, i ≤ k → k ≤ l.length →
    tot (bkSt s r h (l.take k)).2.2 - tot (bkSt s r h (l.take i)).2.2 + (bkSt s r h (l.take k)).2.1 ≤ (bkSt s r h (l.take i)).2.1 + (k - i : Nat) * r := by
  have h0 := bktE_0.1 hb
  intro k
  induction k with
  | zero => intro h1 _; have : i = 0 := by omega
            subst this; simp
  | succ k ih =>
    intro h1 h2
    by_cases e : i = k + 1
    · subst e; simp
    · have hi := ih (by omega) (by omega)
      rw [bkSt_step s r h l k (by omega)]
      generalize bkSt s r h (l.take k) = p at *
      simp only [stepB, tot_append, tot]
      have hf : fillH s r (p.2.1 - goes (p.1 + l.getD k 0) p.2.1) ≤ p.2.1 - goes (p.1 + l.getD k 0) p.2.1 + r := by unfold fillH; split <;> omega
      have e1 : ((k + 1 - i : Nat) : Int) * r = (k - i : Nat) * r + r := by
        rw [show k + 1 - i = (k - i) + 1 by omega, Int.natCast_add, Int.add_mul]; simp
      rw [e1]
      omega
theorem sentL_length {s r h : Int} {l : List Int} (hb : bktE s r h = 0) (hl : ∀ x ∈ l, 0 ≤ x) : (sentL s r h l).length = l.length := by
  have := (bk_inv hb hl l.length (Nat.le_refl _)).len
  rwa [take_all (Nat.le_refl _)] at this
theorem sentL_pre {s r h : Int} {l : List Int} (hb : bktE s r h = 0) (hl : ∀ x ∈ l, 0 ≤ x) {k : Nat} (hk : k ≤ l.length) : (sentL s r h l).take k = (bkSt s r h (l.take k)).2.2 := by
  have := sent_take k hk l.length hk (Nat.le_refl _) (bk_inv hb hl k hk)
  rwa [take_all (Nat.le_refl _)] at this
theorem sentL_bounds {s r h : Int} {l : List Int} (hb : bktE s r h = 0) (hl : ∀ x ∈ l, 0 ≤ x) :
    (∀ k, k < l.length → 0 ≤ (sentL s r h l).getD k 0 ∧ (sentL s r h l).getD k 0 ≤ s) ∧ (∀ k, k ≤ l.length → tot ((sentL s r h l).take k) ≤ tot (l.take k)) ∧
    (∀ i k, i ≤ k → k < l.length → tot ((sentL s r h l).take (k + 1)) - tot ((sentL s r h l).take i) ≤ s + ((k : Int) - i) * r) ∧
    (0 < l.length → (sentL s r h l).getD 0 0 = goes (l.getD 0 0) h) := by
  have h0 := bktE_0.1 hb
  refine ⟨fun k hk => ?_, fun k hk => ?_, fun i k hik hk => ?_, fun hp => ?_⟩
  · have := (bk_inv hb hl l.length (Nat.le_refl _)).sent
    rw [take_all (Nat.le_refl _)] at this
    exact this _ (getD_mem (sentL s r h l) k (by rw [sentL_length hb hl]; exact hk) 0)
  · rw [sentL_pre hb hl hk]
    have := (bk_inv hb hl k hk).wait
    omega
  · rw [sentL_pre hb hl (by omega), sentL_pre hb hl (by omega)]
    have h1 := sent_row hb hl i k hik (by omega)
    have h2 := (bk_inv hb hl i (by omega)).has
    rw [bkSt_step s r h l k hk]
    generalize bkSt s r h (l.take k) = p at *
    simp only [stepB, tot_append, tot]
    have hg : goes (p.1 + l.getD k 0) p.2.1 ≤ p.2.1 := by unfold goes; split <;> omega
    have e : ((k - i : Nat) : Int) = (k : Int) - i := by omega
    rw [e] at h1
    omega
  · have e1 := sentL_pre hb hl (k := 1) (by omega)
    rw [bkSt_step s r h l 0 hp] at e1
    have e2 : (sentL s r h l).getD 0 0 = ((sentL s r h l).take 1).getD 0 0 := by simp [List.getD, List.getElem?_take]
    rw [e2, e1]
    simp [bkSt, stepB]

/-! ### the pool: its room, its link, what waits -/
def poolE (room cap wait : Int) : Int := if room < 0 ∨ 10000 < room ∨ cap < 1 ∨ 1000 < cap ∨ wait < 0 ∨ room < wait then 1 else 0
theorem poolE_0 {room cap wait : Int} : poolE room cap wait = 0 ↔ 0 ≤ room ∧ room ≤ 10000 ∧ 1 ≤ cap ∧ cap ≤ 1000 ∧ 0 ≤ wait ∧ wait ≤ room := by
  unfold poolE
  split <;> constructor <;> intro hh <;> omega
def wentP (cap n : Int) : Int := if cap < n then cap else n
def lostP (room cap n : Int) : Int := if room < n - wentP cap n then n - wentP cap n - room else 0
def waitP (room cap n : Int) : Int := if room < n - wentP cap n then room else n - wentP cap n
/-- all that went, was lost, and what waits -/
def stepP (room cap : Int) (p : Int × Int × Int) (c : Int) : Int × Int × Int := (p.1 + wentP cap (p.2.2 + c), p.2.1 + lostP room cap (p.2.2 + c), waitP room cap (p.2.2 + c))
def poSt (room cap wait : Int) (l : List Int) : Int × Int × Int := l.foldl (stepP room cap) (0, 0, wait)
theorem poSt_step (room cap wait : Int) (l : List Int) (k : Nat) (hk : k < l.length) : poSt room cap wait (l.take (k + 1)) = stepP room cap (poSt room cap wait (l.take k)) (l.getD k 0) := foldl_step _ _ l k hk
theorem po_keeps {room cap wait : Int} {l : List Int} (hb : poolE room cap wait = 0) (hl : ∀ x ∈ l, 0 ≤ x) : ∀ k, k ≤ l.length →
    0 ≤ (poSt room cap wait (l.take k)).1 ∧ 0 ≤ (poSt room cap wait (l.take k)).2.1 ∧ 0 ≤ (poSt room cap wait (l.take k)).2.2 ∧ (poSt room cap wait (l.take k)).2.2 ≤ room ∧ (poSt room cap wait (l.take k)).1 ≤ k * cap ∧
    (poSt room cap wait (l.take k)).1 + (poSt room cap wait (l.take k)).2.1 + (poSt room cap wait (l.take k)).2.2 = wait + tot (l.take k) := by
  have h0 := poolE_0.1 hb
  intro k
  induction k with
  | zero => intro _; simp [poSt, tot]; omega
  | succ k ih =>
    intro hk
    have hi := ih (by omega)
    have hc := hl _ (getD_mem l k (by omega) 0)
    rw [poSt_step room cap wait l k (by omega), tot_step l k (by omega)]
    generalize poSt room cap wait (l.take k) = p at *
    generalize l.getD k 0 = c at *
    have e1 : ((k + 1 : Nat) : Int) * cap = k * cap + cap := by rw [Int.natCast_add, Int.add_mul]; simp
    rw [e1]
    simp only [stepP]
    unfold lostP waitP wentP
    split <;> split <;> omega
/-- with more room no more is lost, and as much or more went -/
theorem po_room {room cap wait more : Int} {l : List Int} (hm : 0 ≤ more) : ∀ k, k ≤ l.length →
    (poSt room cap wait (l.take k)).2.2 ≤ (poSt (room + more) cap wait (l.take k)).2.2 ∧
    (poSt (room + more) cap wait (l.take k)).2.2 - (poSt room cap wait (l.take k)).2.2 ≤ (poSt room cap wait (l.take k)).2.1 - (poSt (room + more) cap wait (l.take k)).2.1 ∧
    (poSt room cap wait (l.take k)).1 ≤ (poSt (room + more) cap wait (l.take k)).1 := by
  intro k
  induction k with
  | zero => intro _; simp [poSt]
  | succ k ih =>
    intro hk
    have hi := ih (by omega)
    rw [poSt_step room cap wait l k (by omega), poSt_step (room + more) cap wait l k (by omega)]
    generalize poSt room cap wait (l.take k) = p at *
    generalize poSt (room + more) cap wait (l.take k) = q at *
    generalize l.getD k 0 = c at *
    simp only [stepP]
    unfold lostP waitP wentP
    split <;> split <;> split <;> split <;> omega
/-- with a wider link no more waits, and no more is lost -/
theorem po_link {room cap wait more : Int} {l : List Int} (hm : 0 ≤ more) : ∀ k, k ≤ l.length →
    (poSt room (cap + more) wait (l.take k)).2.2 ≤ (poSt room cap wait (l.take k)).2.2 ∧ (poSt room (cap + more) wait (l.take k)).2.1 ≤ (poSt room cap wait (l.take k)).2.1 := by
  intro k
  induction k with
  | zero => intro _; simp [poSt]
  | succ k ih =>
    intro hk
    have hi := ih (by omega)
    rw [poSt_step room cap wait l k (by omega), poSt_step room (cap + more) wait l k (by omega)]
    generalize poSt room cap wait (l.take k) = p at *
    generalize poSt room (cap + more) wait (l.take k) = q at *
    generalize l.getD k 0 = c at *
    simp only [stepP]
    unfold lostP waitP wentP
    split <;> split <;> split <;> split <;> omega
/-- shaped ahead of a pool nothing is lost -/
theorem shaped {s r h room cap : Int} {l : List Int} (hb : bktE s r h = 0) (hl : ∀ x ∈ l, 0 ≤ x) (hp : poolE room cap 0 = 0) (h1 : r ≤ cap) (h2 : s ≤ room + cap) : ∀ k, k ≤ l.length →
    (poSt room cap 0 ((sentL s r h l).take k)).2.1 = 0 ∧ (poSt room cap 0 ((sentL s r h l).take k)).2.2 + (bkSt s r h (l.take k)).2.1 ≤ room + cap := by
  have b0 := bktE_0.1 hb
  have p0 := poolE_0.1 hp
  have hsl := sentL_length hb hl
  have hs0 : ∀ x ∈ sentL s r h l, 0 ≤ x := by
    have := (bk_inv hb hl l.length (Nat.le_refl _)).sent
    rw [take_all (Nat.le_refl _)] at this
    exact fun x hx => (this x hx).1
  intro k
  induction k with
  | zero => intro _; simp [poSt, bkSt]; omega
  | succ k ih =>
    intro hk
    have hi := ih (by omega)
    have hpk := po_keeps hp hs0 k (by omega)
    have hbi := bk_inv hb hl k (by omega)
    have hc := hl _ (getD_mem l k (by omega) 0)
    have e : (sentL s r h l).getD k 0 = goes ((bkSt s r h (l.take k)).1 + l.getD k 0) (bkSt s r h (l.take k)).2.1 := by
      have e1 := sentL_pre hb hl (k := k + 1) (by omega)
      rw [bkSt_step s r h l k (by omega)] at e1
      have e2 : (sentL s r h l).getD k 0 = ((sentL s r h l).take (k + 1)).getD k 0 := by simp [List.getD, List.getElem?_take]
      rw [e2, e1]
      simp only [stepB]
      have := hbi.len
      simp [List.getD, List.getElem?_append_right (show (bkSt s r h (l.take k)).2.2.length ≤ k by omega), this]
    rw [poSt_step room cap 0 (sentL s r h l) k (by omega), bkSt_step s r h l k (by omega), e]
    have hw := hbi.wait
    have hh := hbi.has
    generalize poSt room cap 0 ((sentL s r h l).take k) = p at *
    generalize bkSt s r h (l.take k) = b at *
    generalize l.getD k 0 = c at *
    simp only [stepP, stepB]
    have hg : 0 ≤ goes (b.1 + c) b.2.1 ∧ goes (b.1 + c) b.2.1 ≤ b.2.1 := by unfold goes; split <;> omega
    generalize goes (b.1 + c) b.2.1 = n at *
    have hf : fillH s r (b.2.1 - n) ≤ b.2.1 - n + r ∧ fillH s r (b.2.1 - n) ≤ s := by unfold fillH; split <;> omega
    generalize fillH s r (b.2.1 - n) = f at *
    unfold lostP waitP wentP
    split <;> split <;> omega

/-! ### marks -/
def markB (f i : Int) : Bool := decide (i * f / 1000 < (i + 1) * f / 1000)
def cntM (f a : Int) : Nat → Int
  | 0 => 0
  | m + 1 => cntM f a m + if markB f (a + m) then 1 else 0
theorem cnt_eq {f : Int} (h0 : 0 ≤ f) (h1 : f ≤ 1000) (a : Int) : ∀ m : Nat, cntM f a m = (a + m) * f / 1000 - a * f / 1000 := by
  intro m
  induction m with
  | zero => simp [cntM]
  | succ m ih =>
    have e : (a + ((m + 1 : Nat) : Int)) * f = (a + m) * f + f := by
      rw [show a + ((m + 1 : Nat) : Int) = (a + m) + 1 by omega, Int.add_mul, Int.one_mul]
    have e2 : (a + (m : Int) + 1) * f = (a + m) * f + f := by rw [Int.add_mul, Int.one_mul]
    have hm : markB f (a + m) = decide ((a + m) * f / 1000 < ((a + m) * f + f) / 1000) := by unfold markB; rw [e2]
    simp only [cntM, ih]
    rw [e]
    generalize markB f (a + m) = b at *
    generalize (a + (m : Int)) * f = p at *
    generalize a * f = q at *
    by_cases h : p / 1000 < (p + f) / 1000
    · rw [decide_eq_true h] at hm; rw [hm]; simp only [if_true]; omega
    · rw [decide_eq_false h] at hm; rw [hm]; simp only [Bool.false_eq_true, if_false]; omega
/-- as evenly as may be -/
theorem cnt_even {f : Int} (h0 : 0 ≤ f) (h1 : f ≤ 1000) (a : Int) (m : Nat) : cntM f a m = f * m / 1000 ∨ cntM f a m = f * m / 1000 + 1 := by
  rw [cnt_eq h0 h1]
  have e : (a + (m : Int)) * f = a * f + f * m := by rw [Int.add_mul, Int.mul_comm (m : Int)]
  rw [e]
  generalize a * f = p
  generalize f * (m : Int) = q
  omega
theorem cnt_thousand {f : Int} (h0 : 0 ≤ f) (h1 : f ≤ 1000) (a : Int) : cntM f a 1000 = f := by
  rw [cnt_eq h0 h1]
  have e : (a + ((1000 : Nat) : Int)) * f = a * f + 1000 * f := by rw [Int.add_mul]; rfl
  rw [e]
  generalize a * f = p
  omega
theorem cnt_more {f g : Int} (h0 : 0 ≤ f) (h1 : f ≤ g) (h2 : g ≤ 1000) (m : Nat) : cntM f 0 m ≤ cntM g 0 m := by
  rw [cnt_eq h0 (by omega), cnt_eq (by omega) h2]
  have : (0 + (m : Int)) * f ≤ (0 + (m : Int)) * g := Int.mul_le_mul_of_nonneg_left h1 (by omega)
  simp only [Int.zero_mul]
  omega
end Go.Proofs.Ytkpmjmgmgkdfnaj.Ev

/- What the calls of packages bucket, pool, mark and source tell, as the document says it. No Go in it. -/
namespace Go.Proofs.Ytkpmjmgmgkdfnaj.Ev
open Fr Ns Ld Fl
set_option linter.unusedSimpArgs false
set_option linter.unusedVariables false

def ok3 (k : Int) (p : Int × Int × Int) : Int × Int × Int := if k = 0 then p else (0, 0, 0)
def ok4 (k : Int) (p : Int × Int × Int × Int) : Int × Int × Int × Int := if k = 0 then p else (0, 0, 0, 0)
def okN (k : Int) (n : Int) : Int := if k = 0 then n else 0
def okB (k : Int) (b : Bool) : Bool := decide (k = 0) && b
/-! ### bucket -/
def takeE (s r h m : Int) : Int := if bktE s r h = 0 then (if m < 0 ∨ 10000 < m then 1 else if h < m then 8 else 0) else bktE s r h
def sendE (s r h : Int) (l : List Int) : Int := if bktE s r h = 0 then ticksE l else bktE s r h
theorem sendE_0 {s r h : Int} {l : List Int} (he : sendE s r h l = 0) : bktE s r h = 0 ∧ ticksE l = 0 := by
  unfold sendE at he
  split at he
  · exact ⟨by assumption, he⟩
  · contradiction
/-! ### pool -/
def ptickE (room cap wait came : Int) : Int := if poolE room cap wait = 0 then (if came < 0 ∨ 10000 < came then 1 else 0) else poolE room cap wait
def prunE (room cap wait : Int) (l : List Int) : Int := if poolE room cap wait = 0 then ticksE l else poolE room cap wait
theorem prunE_0 {room cap wait : Int} {l : List Int} (he : prunE room cap wait l = 0) : poolE room cap wait = 0 ∧ ticksE l = 0 := by
  unfold prunE at he
  split at he
  · exact ⟨by assumption, he⟩
  · contradiction
/-! ### mark -/
def misE (f i : Int) : Int := if f < 0 ∨ 1000 < f ∨ i < 0 ∨ 1000000000 < i then 1 else 0
def mcntE (f a m : Int) : Int := if f < 0 ∨ 1000 < f ∨ a < 0 ∨ 10000 < a ∨ m < 0 ∨ 10000 < m then 1 else 0
def mlstE (f m : Int) : Int := if f < 0 ∨ 1000 < f ∨ m < 0 ∨ 60 < m then 1 else 0
def markL (f : Int) (m : Nat) : List Bool := (List.range m).map fun k : Nat => markB f (k : Int)
theorem markL_length (f : Int) (m : Nat) : (markL f m).length = m := by simp [markL]
theorem markL_at (f : Int) (m k : Nat) (h : k < m) : (markL f m).getD k false = markB f k := by
  simp [markL, List.getD, List.getElem?_map, List.getElem?_range h]
/-! ### source: its window, what is under way, what is left, what came -/
def srcE (win way left came : Int) : Int := if win < 1 ∨ 1000 < win ∨ way < 0 ∨ 10000 < way ∨ left < 0 ∨ 10000 < left ∨ came < 0 ∨ 10000 < came then 1 else 0
theorem srcE_0 {win way left came : Int} : srcE win way left came = 0 ↔ 1 ≤ win ∧ win ≤ 1000 ∧ 0 ≤ way ∧ way ≤ 10000 ∧ 0 ≤ left ∧ left ≤ 10000 ∧ 0 ≤ came ∧ came ≤ 10000 := by
  unfold srcE
  split <;> constructor <;> intro hh <;> omega
/-- how many go -/
def goN (win way left : Int) : Int := if way < win then (if left < win - way then left else win - way) else 0
def ackW (win : Int) (faster : Bool) : Int := if faster then (if win < 1000 then win + 1 else win) else (if 1 < win then win - 1 else win)
def lostW (win : Int) : Int := if 1 < win then win / 2 else win
def sent4 (win way left came : Int) : Int × Int × Int × Int := (win, way + goN win way left, left - goN win way left, came)
def ackE (win way left came : Int) : Int := if srcE win way left came = 0 then (if way = 0 then 8 else if came = 10000 then 4 else 0) else srcE win way left came
def ack4 (win way left came : Int) (faster : Bool) : Int × Int × Int × Int := (ackW win faster, way - 1, left, came + 1)
def losE (win way left came : Int) : Int := if srcE win way left came = 0 then (if way = 0 then 8 else if left = 10000 then 4 else 0) else srcE win way left came
def los4 (win way left came : Int) : Int × Int × Int × Int := (lostW win, way - 1, left + 1, came)
end Go.Proofs.Ytkpmjmgmgkdfnaj.Ev

/- Some over one link: the document's road, tick by tick; nothing is lost for good, and at each tick something comes. No Go in it. -/
namespace Go.Proofs.Ytkpmjmgmgkdfnaj.Ev
open Fr Ns Ld Fl
set_option linter.unusedSimpArgs false
set_option linter.unusedVariables false

/-- a source: window, under way, left, came -/
abbrev Src := Int × Int × Int × Int
def sAt (S : List Src) (i : Nat) : Src := S.getD i (0, 0, 0, 0)
def goS (s : Src) : Int := goN s.1 s.2.1 s.2.2.1
def sentS (s : Src) : Src := sent4 s.1 s.2.1 s.2.2.1 s.2.2.2
def ackS (s : Src) (f : Bool) : Src := ack4 s.1 s.2.1 s.2.2.1 s.2.2.2 f
def losS (s : Src) : Src := los4 s.1 s.2.1 s.2.2.1 s.2.2.2
def okS (s : Src) : Prop := srcE s.1 s.2.1 s.2.2.1 s.2.2.2 = 0
/-- all that a source has -/
def sumS (s : Src) : Int := s.2.1 + s.2.2.1 + s.2.2.2
/-- whose those are that go now -/
def sendFrom : Nat → List Src → List Nat
  | _, [] => []
  | i, s :: r => List.replicate (goS s).toNat i ++ sendFrom (i + 1) r
/-- the first went came, the next wait ones wait, the others are lost -/
def hand (went wait : Nat) (f : Bool) : Nat → List Nat → List Src → List Src
  | _, [], S => S
  | k, i :: r, S => hand went wait f (k + 1) r (if k < went then S.set i (ackS (sAt S i) f) else if k < went + wait then S else S.set i (losS (sAt S i)))
structure Road where
  S : List Src
  room : Int
  cap : Int
  wait : Int
  row : List Nat
/-- what a road's tick makes of so many -/
def wentR (R : Road) (n : Int) : Int := if R.cap < n then R.cap else n
def waitR (R : Road) (n : Int) : Int := if R.room < n - wentR R n then R.room else n - wentR R n
def lostR (R : Road) (n : Int) : Int := n - wentR R n - waitR R n
def rowR (R : Road) : List Nat := R.row ++ sendFrom 0 R.S
def fastR (R : Road) : Bool := decide (R.wait ≤ R.room / 2)
def tickR (R : Road) : Road :=
  { R with S := hand (wentR R (rowR R).length).toNat (waitR R (rowR R).length).toNat (fastR R) 0 (rowR R) (R.S.map sentS), wait := waitR R (rowR R).length,
           row := ((rowR R).drop (wentR R (rowR R).length).toNat).take (waitR R (rowR R).length).toNat }
def ticksR (R : Road) : Nat → Road
  | 0 => R
  | k + 1 => tickR (ticksR R k)

theorem sAt_set_self {S : List Src} {i : Nat} (h : i < S.length) (s : Src) : sAt (S.set i s) i = s := by simp [sAt, List.getD, List.getElem?_set, h]
theorem sAt_set_ne {S : List Src} {i j : Nat} (h : i ≠ j) (s : Src) : sAt (S.set i s) j = sAt S j := by simp [sAt, List.getD, List.getElem?_set, h]
theorem sAt_map {S : List Src} {i : Nat} (h : i < S.length) : sAt (S.map sentS) i = sentS (sAt S i) := by simp [sAt, List.getD, List.getElem?_eq_getElem h]

/-- of each source: it is right, as many are under way as its number comes up in the row, and all that it has is so much -/
def HasR (n : Nat) (L : Nat → Int) (row : List Nat) (S : List Src) : Prop :=
  S.length = n ∧ ∀ i, i < n → okS (sAt S i) ∧ (sAt S i).2.1 = (row.count i : Nat) ∧ sumS (sAt S i) = L i
theorem go_bd {s : Src} (h : okS s) : 0 ≤ goS s ∧ goS s ≤ s.2.2.1 ∧ (0 < s.2.2.1 → s.2.1 = 0 → 1 ≤ goS s) := by
  have := srcE_0.1 h
  unfold goS goN
  split
  · split <;> omega
  · omega
theorem sent_ok {s : Src} (h : okS s) (hs : sumS s ≤ 10000) : okS (sentS s) ∧ sumS (sentS s) = sumS s ∧ (sentS s).2.1 = s.2.1 + goS s := by
  have h0 := srcE_0.1 h
  have hg := go_bd h
  unfold goS at hg
  unfold sumS at hs
  refine ⟨srcE_0.2 ?_, ?_, rfl⟩
  · simp only [sentS, sent4]; omega
  · simp only [sumS, sentS, sent4]; omega
theorem ack_ok {s : Src} {f : Bool} (h : okS s) (hs : sumS s ≤ 10000) (hw : 1 ≤ s.2.1) : okS (ackS s f) ∧ sumS (ackS s f) = sumS s ∧ (ackS s f).2.1 = s.2.1 - 1 ∧ (ackS s f).2.2.2 = s.2.2.2 + 1 := by
  have h0 := srcE_0.1 h
  unfold sumS at hs
  have hwin : 1 ≤ ackW s.1 f ∧ ackW s.1 f ≤ 1000 := by
    unfold ackW
    split <;> split <;> omega
  refine ⟨srcE_0.2 ?_, ?_, rfl, rfl⟩
  · simp only [ackS, ack4]; omega
  · simp only [sumS, ackS, ack4]; omega
theorem los_ok {s : Src} (h : okS s) (hs : sumS s ≤ 10000) (hw : 1 ≤ s.2.1) : okS (losS s) ∧ sumS (losS s) = sumS s ∧ (losS s).2.1 = s.2.1 - 1 ∧ (losS s).2.2.2 = s.2.2.2 := by
  have h0 := srcE_0.1 h
  unfold sumS at hs
  have hwin : 1 ≤ lostW s.1 ∧ lostW s.1 ≤ 1000 := by
    unfold lostW
    split <;> omega
  refine ⟨srcE_0.2 ?_, ?_, rfl, rfl⟩
  · simp only [losS, los4]; omega
  · simp only [sumS, losS, los4]; omega

theorem count_sendFrom : ∀ (S : List Src) (i j : Nat), (∀ k, k < S.length → okS (sAt S k)) → ((sendFrom i S).count j : Nat) = if i ≤ j ∧ j < i + S.length then goS (sAt S (j - i)) else 0 := by
  intro S
  induction S with
  | nil => intro i j _; rw [if_neg (by simp only [List.length_nil]; omega)]; rfl
  | cons s r ih =>
    intro i j h
    have hs := go_bd (h 0 (by simp))
    have e0 : sAt (s :: r) 0 = s := rfl
    rw [e0] at hs
    have ihr := ih (i + 1) j (fun k hk => by have := h (k + 1) (by simpa using hk); simpa [sAt] using this)
    simp only [sendFrom, List.count_append]
    rw [Int.natCast_add, ihr]
    by_cases e : i = j
    · subst e
      have hrep : (List.replicate (goS s).toNat i).count i = (goS s).toNat := by simp
      rw [hrep, if_neg (show ¬ (i + 1 ≤ i ∧ i < i + 1 + r.length) by omega), if_pos (show i ≤ i ∧ i < i + (s :: r).length by simp only [List.length_cons]; omega), Nat.sub_self, e0]
      omega
    · have hrep : (List.replicate (goS s).toNat i).count j = 0 := by
        rw [List.count_replicate, if_neg (by simpa using e)]
      rw [hrep]
      by_cases h2 : i + 1 ≤ j ∧ j < i + 1 + r.length
      · rw [if_pos h2, if_pos (show i ≤ j ∧ j < i + (s :: r).length by simp only [List.length_cons]; omega)]
        have : sAt (s :: r) (j - i) = sAt r (j - (i + 1)) := by
          rw [show j - i = (j - (i + 1)) + 1 by omega]
          rfl
        rw [this]
        simp
      · rw [if_neg h2, if_neg (show ¬ (i ≤ j ∧ j < i + (s :: r).length) by simp only [List.length_cons]; omega)]
        simp
theorem mem_sendFrom : ∀ (S : List Src) (i j : Nat), j ∈ sendFrom i S → i ≤ j ∧ j < i + S.length := by
  intro S
  induction S with
  | nil => intro i j h; simp [sendFrom] at h
  | cons s r ih =>
    intro i j h
    simp only [sendFrom, List.mem_append, List.mem_replicate] at h
    simp only [List.length_cons]
    rcases h with ⟨_, rfl⟩ | h
    · omega
    · have := ih (i + 1) j h; omega

/-- sums over all sources -/
def sumN (g : Nat → Int) : Nat → Int
  | 0 => 0
  | n + 1 => sumN g n + g n
theorem sumN_congr {g h : Nat → Int} : ∀ {n : Nat}, (∀ i, i < n → g i = h i) → sumN g n = sumN h n := by
  intro n
  induction n with
  | zero => intro _; rfl
  | succ n ih => intro hh; simp only [sumN]; rw [ih (fun i hi => hh i (by omega)), hh n (by omega)]
theorem sumN_one {g h : Nat → Int} {j : Nat} {d : Int} : ∀ {n : Nat}, j < n → (∀ i, i < n → i ≠ j → g i = h i) → g j = h j + d → sumN g n = sumN h n + d := by
  intro n
  induction n with
  | zero => intro hj; omega
  | succ n ih =>
    intro hj hh hd
    simp only [sumN]
    by_cases e : j = n
    · subst e
      rw [sumN_congr (fun i hi => hh i (by omega) (by omega)), hd]; omega
    · rw [ih (by omega) (fun i hi hne => hh i (by omega) hne) hd, hh n (by omega) (fun h => e h.symm)]; omega
theorem sumN_le {g h : Nat → Int} : ∀ {n : Nat}, (∀ i, i < n → g i ≤ h i) → sumN g n ≤ sumN h n := by
  intro n
  induction n with
  | zero => intro _; exact Int.le_refl _
  | succ n ih => intro hh; simp only [sumN]; have := ih (fun i hi => hh i (by omega)); have := hh n (by omega); omega
theorem sumN_lt {g h : Nat → Int} : ∀ {n : Nat}, (∀ i, i < n → g i ≤ h i) → sumN g n < sumN h n → ∃ i, i < n ∧ g i < h i := by
  intro n
  induction n with
  | zero => intro _ hl; simp [sumN] at hl
  | succ n ih =>
    intro hh hl
    simp only [sumN] at hl
    by_cases e : g n < h n
    · exact ⟨n, by omega, e⟩
    · obtain ⟨i, hi, hlt⟩ := ih (fun i hi => hh i (by omega)) (by omega)
      exact ⟨i, by omega, hlt⟩
theorem sumN_eq {g h : Nat → Int} : ∀ {n : Nat}, (∀ i, i < n → g i ≤ h i) → sumN g n = sumN h n → ∀ i, i < n → g i = h i := by
  intro n
  induction n with
  | zero => intro _ _ i hi; omega
  | succ n ih =>
    intro hh he i hi
    simp only [sumN] at he
    have h1 := sumN_le (n := n) (fun i hi => hh i (by omega))
    have h2 := hh n (by omega)
    by_cases e : i = n
    · subst e; omega
    · exact ih (fun i hi => hh i (by omega)) (by omega) i (by omega)
def cameN (S : List Src) (n : Nat) : Int := sumN (fun i => (sAt S i).2.2.2) n

/-- one by one: what waits, and what is yet to come, are under way -/
theorem hand_keeps {n : Nat} {L : Nat → Int} (hL : ∀ i, i < n → L i ≤ 10000) (went wait : Nat) (f : Bool) : ∀ (r : List Nat) (k : Nat) (S : List Src) (W : List Nat), (∀ i ∈ r, i < n) → HasR n L (W ++ r) S →
    HasR n L (W ++ (r.drop (went - k)).take (went + wait - max k went)) (hand went wait f k r S) ∧ cameN (hand went wait f k r S) n = cameN S n + (min (went - k) r.length : Nat) := by
  intro r
  induction r with
  | nil => intro k S W _ h; simp only [hand, List.drop_nil, List.take_nil]; exact ⟨h, by simp⟩
  | cons i r ih =>
    intro k S W hr h
    have hi := hr i (by simp)
    obtain ⟨hl, hh⟩ := h
    obtain ⟨o1, o2, o3⟩ := hh i hi
    have hw : 1 ≤ (sAt S i).2.1 := by
      rw [o2, List.count_append, List.count_cons_self]
      omega
    have hs : sumS (sAt S i) ≤ 10000 := by rw [o3]; exact hL i hi
    have hr' : ∀ j ∈ r, j < n := fun j hj => hr j (by simp [hj])
    -- what a change of that one source makes
    have chg : ∀ s' : Src, okS s' → sumS s' = sumS (sAt S i) → s'.2.1 = (sAt S i).2.1 - 1 → HasR n L (W ++ r) (S.set i s') := by
      intro s' a1 a2 a3
      refine ⟨by rw [List.length_set]; exact hl, fun j hj => ?_⟩
      by_cases e : i = j
      · subst e
        rw [sAt_set_self (by omega)]
        refine ⟨a1, ?_, by rw [a2, o3]⟩
        rw [a3, o2, List.count_append, List.count_append, List.count_cons_self]
        omega
      · rw [sAt_set_ne e]
        obtain ⟨b1, b2, b3⟩ := hh j hj
        refine ⟨b1, ?_, b3⟩
        rw [b2, List.count_append, List.count_append, List.count_cons_of_ne e]
    simp only [hand]
    by_cases h1 : k < went
    · rw [if_pos h1]
      obtain ⟨a1, a2, a3, a4⟩ := ack_ok (f := f) o1 hs hw
      obtain ⟨c1, c2⟩ := ih (k + 1) _ W hr' (chg _ a1 a2 a3)
      have e1 : went - k = (went - (k + 1)) + 1 := by omega
      rw [e1, List.drop_succ_cons, show max k went = max (k + 1) went by omega]
      refine ⟨c1, ?_⟩
      rw [c2]
      have : cameN (S.set i (ackS (sAt S i) f)) n = cameN S n + 1 := sumN_one hi (fun j hj hne => by rw [sAt_set_ne (Ne.symm hne)]) (by rw [sAt_set_self (by omega)]; exact a4)
      rw [this]
      simp only [List.length_cons]
      omega
    · rw [if_neg h1]
      have e0 : went - k = 0 := by omega
      have e0' : went - (k + 1) = 0 := by omega
      by_cases h2 : k < went + wait
      · rw [if_pos h2]
        have hS : HasR n L ((W ++ [i]) ++ r) S := by
          rw [List.append_assoc]
          exact ⟨hl, hh⟩
        obtain ⟨c1, c2⟩ := ih (k + 1) S (W ++ [i]) hr' hS
        rw [e0'] at c1 c2
        rw [e0, List.drop_zero]
        rw [List.drop_zero] at c1
        have e3 : went + wait - max k went = (went + wait - max (k + 1) went) + 1 := by omega
        rw [e3, List.take_succ_cons]
        refine ⟨by rwa [List.append_assoc] at c1, ?_⟩
        rw [c2]; simp
      · rw [if_neg h2]
        obtain ⟨a1, a2, a3, a4⟩ := los_ok o1 hs hw
        obtain ⟨c1, c2⟩ := ih (k + 1) _ W hr' (chg _ a1 a2 a3)
        rw [e0'] at c1 c2
        have e3 : went + wait - max k went = 0 := by omega
        have e4 : went + wait - max (k + 1) went = 0 := by omega
        rw [e4, List.take_zero] at c1
        rw [e3, List.take_zero]
        refine ⟨c1, ?_⟩
        rw [c2]
        have : cameN (S.set i (losS (sAt S i))) n = cameN S n := by
          have := sumN_one (g := fun j => (sAt (S.set i (losS (sAt S i))) j).2.2.2) (h := fun j => (sAt S j).2.2.2) (j := i) (d := 0) hi (fun j hj hne => by show (sAt (S.set i (losS (sAt S i))) j).2.2.2 = (sAt S j).2.2.2; rw [sAt_set_ne (Ne.symm hne)]) (by show (sAt (S.set i (losS (sAt S i))) i).2.2.2 = (sAt S i).2.2.2 + 0; rw [sAt_set_self (by omega), a4]; omega)
          simpa [cameN] using this
        rw [this, e0]; simp

/-- what holds of a road behind each tick -/
structure RoadInv (n : Nat) (L : Nat → Int) (room cap : Int) (R : Road) : Prop where
  has : HasR n L R.row R.S
  rows : ∀ i ∈ R.row, i < n
  waits : R.wait = R.row.length
  rooms : R.room = room
  caps : R.cap = cap
  pool : poolE room cap R.wait = 0
theorem row_inv {n : Nat} {L : Nat → Int} {room cap : Int} {R : Road} (hL : ∀ i, i < n → L i ≤ 10000) (h : RoadInv n L room cap R) : HasR n L (rowR R) (R.S.map sentS) ∧ (∀ i ∈ rowR R, i < n) ∧ cameN (R.S.map sentS) n = cameN R.S n := by
  obtain ⟨hl, hh⟩ := h.has
  have hok : ∀ k, k < R.S.length → okS (sAt R.S k) := fun k hk => (hh k (by omega)).1
  refine ⟨⟨by rw [List.length_map]; exact hl, fun i hi => ?_⟩, fun i hi => ?_, ?_⟩
  · obtain ⟨o1, o2, o3⟩ := hh i hi
    obtain ⟨a1, a2, a3⟩ := sent_ok o1 (by rw [o3]; exact hL i hi)
    rw [sAt_map (by omega)]
    refine ⟨a1, ?_, by rw [a2, o3]⟩
    have := count_sendFrom R.S 0 i hok
    rw [if_pos (by omega), Nat.sub_zero] at this
    rw [a3, o2, rowR, List.count_append, Int.natCast_add, this]
  · rcases List.mem_append.1 hi with h' | h'
    · exact h.rows i h'
    · have := mem_sendFrom R.S 0 i h'; omega
  · exact sumN_congr (fun i hi => by rw [sAt_map (by omega)]; rfl)
theorem road_tick {n : Nat} {L : Nat → Int} {room cap : Int} {R : Road} (hL : ∀ i, i < n → L i ≤ 10000) (h : RoadInv n L room cap R) :
    RoadInv n L room cap (tickR R) ∧ cameN (tickR R).S n = cameN R.S n + wentR R (rowR R).length ∧ 0 ≤ wentR R (rowR R).length ∧ wentR R (rowR R).length ≤ cap ∧ 0 ≤ lostR R (rowR R).length ∧ (tickR R).wait = waitR R (rowR R).length ∧
      (cameN R.S n < sumN L n → 1 ≤ wentR R (rowR R).length) := by
  obtain ⟨hR, hm, hc⟩ := row_inv hL h
  have hp := poolE_0.1 h.pool
  have hrm := h.rooms
  have hcp := h.caps
  have w0 : 0 ≤ wentR R (rowR R).length ∧ wentR R (rowR R).length ≤ (rowR R).length ∧ wentR R (rowR R).length ≤ cap := by unfold wentR; split <;> omega
  have v0 : 0 ≤ waitR R (rowR R).length ∧ waitR R (rowR R).length ≤ (rowR R).length - wentR R (rowR R).length ∧ waitR R (rowR R).length ≤ room := by unfold waitR; split <;> omega
  obtain ⟨k1, k2⟩ := hand_keeps hL (wentR R (rowR R).length).toNat (waitR R (rowR R).length).toNat (fastR R) (rowR R) 0 (R.S.map sentS) [] hm (by simpa using hR)
  rw [List.nil_append, Nat.sub_zero, show (wentR R (rowR R).length).toNat + (waitR R (rowR R).length).toNat - max 0 (wentR R (rowR R).length).toNat = (waitR R (rowR R).length).toNat by omega] at k1
  refine ⟨⟨k1, fun i hi => hm i (List.mem_of_mem_drop (List.mem_of_mem_take hi)), ?_, h.rooms, h.caps, poolE_0.2 ?_⟩, ?_, w0.1, w0.2.2, ?_, rfl, fun hlt => ?_⟩
  · simp only [tickR, List.length_take, List.length_drop]
    omega
  · simp only [tickR]; omega
  · simp only [tickR]
    rw [k2, hc, Nat.sub_zero]
    omega
  · unfold lostR; omega
  · -- something is under way, or goes
    obtain ⟨i, hi, hlt'⟩ := sumN_lt (g := fun i => (sAt R.S i).2.2.2) (h := L) (fun i hi => by
      obtain ⟨o1, o2, o3⟩ := h.has.2 i hi
      have := srcE_0.1 o1
      unfold sumS at o3
      omega) hlt
    obtain ⟨o1, o2, o3⟩ := h.has.2 i hi
    have hs := srcE_0.1 o1
    unfold sumS at o3
    have hpos : 1 ≤ (rowR R).length := by
      by_cases hz : (sAt R.S i).2.1 = 0
      · have hg := (go_bd o1).2.2 (by have hlt'' : (sAt R.S i).2.2.2 < L i := hlt'; omega) hz
        have hcnt := count_sendFrom R.S 0 i (fun k hk => (h.has.2 k (by have := h.has.1; omega)).1)
        rw [if_pos (by have := h.has.1; omega), Nat.sub_zero] at hcnt
        have : (sendFrom 0 R.S).count i ≤ (sendFrom 0 R.S).length := List.count_le_length
        simp only [rowR, List.length_append]
        omega
      · have : R.row.count i ≤ R.row.length := List.count_le_length
        simp only [rowR, List.length_append]
        omega
    unfold wentR
    split <;> omega
/-- behind so many ticks at least as many came, or all -/
theorem road_ticks {n : Nat} {L : Nat → Int} {room cap : Int} {R : Road} (hL : ∀ i, i < n → L i ≤ 10000) (h : RoadInv n L room cap R) (h0 : 0 ≤ cameN R.S n) : ∀ k : Nat, RoadInv n L room cap (ticksR R k) ∧ cameN (ticksR R k).S n ≤ sumN L n ∧ (cameN (ticksR R k).S n < sumN L n → (k : Int) ≤ cameN (ticksR R k).S n) := by
  have hle : ∀ Q : Road, RoadInv n L room cap Q → cameN Q.S n ≤ sumN L n := fun Q hq => sumN_le (fun i hi => by
    obtain ⟨o1, o2, o3⟩ := hq.has.2 i hi
    have := srcE_0.1 o1
    unfold sumS at o3
    omega)
  intro k
  induction k with
  | zero => exact ⟨h, hle _ h, fun _ => by simpa [ticksR] using h0⟩
  | succ k ih =>
    obtain ⟨i1, i2, i3⟩ := ih
    obtain ⟨t1, t2, t3, t4, t5, t6, t7⟩ := road_tick hL i1
    refine ⟨t1, hle _ t1, fun hlt => ?_⟩
    simp only [ticksR] at hlt ⊢
    rw [t2] at hlt ⊢
    have := t7 (by omega)
    have := i3 (by omega)
    omega
/-- when all came nothing is left, or under way, or waits -/
theorem road_done {n : Nat} {L : Nat → Int} {room cap : Int} {R : Road} (h : RoadInv n L room cap R) (he : cameN R.S n = sumN L n) : (∀ i, i < n → (sAt R.S i).2.2.2 = L i ∧ (sAt R.S i).2.1 = 0 ∧ (sAt R.S i).2.2.1 = 0) ∧ R.row = [] ∧ R.wait = 0 := by
  have hi' : ∀ i, i < n → (sAt R.S i).2.2.2 = L i ∧ (sAt R.S i).2.1 = 0 ∧ (sAt R.S i).2.2.1 = 0 := fun i hi => by
    have e := sumN_eq (g := fun i => (sAt R.S i).2.2.2) (h := L) (fun i hi => by
      obtain ⟨o1, o2, o3⟩ := h.has.2 i hi
      have := srcE_0.1 o1
      unfold sumS at o3
      omega) he i hi
    have e' : (sAt R.S i).2.2.2 = L i := e
    obtain ⟨o1, o2, o3⟩ := h.has.2 i hi
    have := srcE_0.1 o1
    unfold sumS at o3
    omega
  have hrow : R.row = [] := by
    cases hr : R.row with
    | nil => rfl
    | cons i r =>
      exfalso
      have hi := h.rows i (by rw [hr]; simp)
      have h2 := (h.has.2 i hi).2.1
      rw [(hi' i hi).2.1, hr, List.count_cons_self] at h2
      omega
  exact ⟨hi', hrow, by rw [h.waits, hrow]; rfl⟩
end Go.Proofs.Ytkpmjmgmgkdfnaj.Ev

/- Slices of int, slices of these, and a net: what a walk is told of them, and what stays of it. -/
namespace Go.Proofs.Ytkpmjmgmgkdfnaj
namespace Ns
open Go.RowKit
set_option linter.unusedSimpArgs false
set_option linter.unusedVariables false

/-- the slice v holds the numbers l in the world w, in a block of which Q holds -/
def IntsAt (Q : Nat → Prop) (w : World) (v : Value) (l : List Int) : Prop :=
  ∃ a cap, v = .slice a l.length cap ∧ (l.length ≤ cap ∧ l.length ≤ 9223372036854775807) ∧
    (l = [] ∨ ∃ b off, a = some ⟨b, off, none⟩ ∧ (∀ i, i < l.length → w.cell? ⟨b, off + i, none⟩ = some (.int .i64 (l.getD i 0))) ∧ Q b)

theorem IntsAt.later {Q : Nat → Prop} {w w' : World} {v : Value} {l : List Int} (hb : Below w.heap.size w w') (h : IntsAt Q w v l) : IntsAt Q w' v l := by
  obtain ⟨a, cap, rfl, hm, h⟩ := h
  refine ⟨a, cap, rfl, hm, ?_⟩
  rcases h with h | ⟨b, off, rfl, h, hQ⟩
  · exact .inl h
  · exact .inr ⟨b, off, rfl, fun i hi => cell_later hb (h i hi), hQ⟩
/-- only the blocks of which Q holds matter -/
theorem IntsAt.keep {Q R : Nat → Prop} {w w' : World} {v : Value} {l : List Int} (hk : ∀ b, Q b → b < w.heap.size → w'.heap[b]? = w.heap[b]?) (hQR : ∀ b, Q b → b < w.heap.size → R b) (h : IntsAt Q w v l) : IntsAt R w' v l := by
  obtain ⟨a, cap, rfl, hm, h⟩ := h
  refine ⟨a, cap, rfl, hm, ?_⟩
  rcases h with h | ⟨b, off, rfl, h, hQ⟩
  · exact .inl h
  · by_cases hl : l = []
    · exact .inl hl
    · have hb : b < w.heap.size := World.block_lt_of_cell? _ _ (h 0 (List.length_pos_iff.2 hl))
      refine .inr ⟨b, off, rfl, fun i hi => ?_, hQR b hQ hb⟩
      rw [World.cell?_of_block (w := w) (a := ⟨b, off + i, none⟩) (hk b hQ hb)]
      exact h i hi

theorem ret_bool {a b : Bool} (h : a = b) : Ending.returned (.bool a) = .returned (.bool b) := by rw [h]
theorem ret_int {k : IntKind} {a b : Int} (h : a = b) : Ending.returned (.int k a) = .returned (.int k b) := by rw [h]

theorem IntsAt.take {Q : Nat → Prop} {w : World} {b off cap : Nat} {l : List Int} (hm : l.length ≤ cap) (hm2 : l.length ≤ 9223372036854775807) (h : ∀ i, i < l.length → w.cell? ⟨b, off + i, none⟩ = some (.int .i64 (l.getD i 0))) (k : Nat) (hk : k ≤ l.length) (hQ : Q b) :
    IntsAt Q w (.slice (some ⟨b, off, none⟩) k cap) (l.take k) := by
  refine ⟨_, cap, by rw [List.length_take, Nat.min_eq_left hk], ⟨by rw [List.length_take]; omega, by rw [List.length_take]; omega⟩, .inr ⟨b, off, rfl, fun i hi => ?_, hQ⟩⟩
  rw [List.length_take] at hi
  rw [h i (by omega)]
  congr 2
  simp [List.getD, List.getElem?_take, show i < k by omega]

/-- the slice v holds the lists ll in the world w -/
def ListsAt (Q : Nat → Prop) (w : World) (v : Value) (ll : List (List Int)) : Prop :=
  ∃ a cap, v = .slice a ll.length cap ∧ (ll.length ≤ cap ∧ ll.length ≤ 9223372036854775807) ∧
    (ll = [] ∨ ∃ b off, a = some ⟨b, off, none⟩ ∧ (∀ i, i < ll.length → ∃ x, w.cell? ⟨b, off + i, none⟩ = some x ∧ IntsAt Q w x (ll.getD i [])) ∧ Q b)

theorem ListsAt.later {Q : Nat → Prop} {w w' : World} {v : Value} {l : List (List Int)} (hb : Below w.heap.size w w') (h : ListsAt Q w v l) : ListsAt Q w' v l := by
  obtain ⟨a, cap, rfl, hm, h⟩ := h
  refine ⟨a, cap, rfl, hm, ?_⟩
  rcases h with h | ⟨b, off, rfl, h, hQ⟩
  · exact .inl h
  · refine .inr ⟨b, off, rfl, fun i hi => ?_, hQ⟩
    obtain ⟨x, hx, hi⟩ := h i hi
    exact ⟨x, cell_later hb hx, hi.later hb⟩
theorem ListsAt.keep {Q R : Nat → Prop} {w w' : World} {v : Value} {l : List (List Int)} (hk : ∀ b, Q b → b < w.heap.size → w'.heap[b]? = w.heap[b]?) (hQR : ∀ b, Q b → b < w.heap.size → R b) (h : ListsAt Q w v l) : ListsAt R w' v l := by
  obtain ⟨a, cap, rfl, hm, h⟩ := h
  refine ⟨a, cap, rfl, hm, ?_⟩
  rcases h with h | ⟨b, off, rfl, h, hQ⟩
  · exact .inl h
  · by_cases hl : l = []
    · exact .inl hl
    · obtain ⟨x0, hx0, _⟩ := h 0 (List.length_pos_iff.2 hl)
      have hb : b < w.heap.size := World.block_lt_of_cell? _ _ hx0
      refine .inr ⟨b, off, rfl, fun i hi => ?_, hQR b hQ hb⟩
      obtain ⟨x, hx, hxi⟩ := h i hi
      exact ⟨x, by rw [World.cell?_of_block (w := w) (a := ⟨b, off + i, none⟩) (hk b hQ hb)]; exact hx, hxi.keep hk hQR⟩

/-- the value v is the net of these links and paths in the world w -/
def NetAt (Q : Nat → Prop) (w : World) (v : Value) (caps : List Int) (paths : List (List Int)) : Prop :=
  ∃ v1 v2, v = .agg #[v1, v2] ∧ IntsAt Q w v1 caps ∧ ListsAt Q w v2 paths
theorem NetAt.later {Q : Nat → Prop} {w w' : World} {v : Value} {c : List Int} {l : List (List Int)} (hb : Below w.heap.size w w') (h : NetAt Q w v c l) : NetAt Q w' v c l := by
  obtain ⟨v1, v2, rfl, h1, h2⟩ := h
  exact ⟨v1, v2, rfl, h1.later hb, h2.later hb⟩
theorem NetAt.keep {Q R : Nat → Prop} {w w' : World} {v : Value} {c : List Int} {l : List (List Int)} (hk : ∀ b, Q b → b < w.heap.size → w'.heap[b]? = w.heap[b]?) (hQR : ∀ b, Q b → b < w.heap.size → R b) (h : NetAt Q w v c l) : NetAt R w' v c l := by
  obtain ⟨v1, v2, rfl, h1, h2⟩ := h
  exact ⟨v1, v2, rfl, h1.keep hk hQR, h2.keep hk hQR⟩
/-- a store into a block of which Q does not hold -/
theorem NetAt.setCell {Q : Nat → Prop} {w : World} {v : Value} {c : List Int} {l : List (List Int)} (h : NetAt Q w v c l) {a : Addr} (ha : ¬ Q a.block) (u : Value) : NetAt Q (w.setCell a u) v c l :=
  h.keep (fun b hb _ => Below.heap_setCell w a u b (fun e => ha (e ▸ hb))) (fun _ h _ => h)

theorem NetAt.shape {Q : Nat → Prop} {w : World} {v : Value} {c : List Int} {l : List (List Int)} (h : NetAt Q w v c l) : ∃ a n k a' n' k', v = .agg #[.slice a n k, .slice a' n' k'] := by
  obtain ⟨_, _, rfl, ⟨_, _, rfl, _⟩, ⟨_, _, rfl, _⟩⟩ := h
  exact ⟨_, _, _, _, _, _, rfl⟩
theorem pathsFrom_cons (L : Int) (l : List (List Int)) (k : Nat) (h : k < l.length) :
    pathsFrom L (l.drop k) = if pathE L (l.getD k []) = 0 then pathsFrom L (l.drop (k + 1)) else pathE L (l.getD k []) := by
  rw [drop_cons l k h []]; rfl

theorem infoInt : (Try.prog.info? 3).map (fun i => (i.zero, i.size, i.bytes)) = some (some (.int .i64 0), 1, 8) := by kernel_rfl

/-- a row of ints that the call owns is a list -/
theorem ints_of_owns {Q : Nat → Prop} {w : World} {base : Nat} {v : Value} {l : List Int} (hl : l.length ≤ 9223372036854775807) (h : w.ownsRow base 3 1 v l.length (l.map (Value.int .i64))) (hQ : ∀ g, base ≤ g → Q g) : IntsAt Q w v l := by
  have h' := h
  obtain ⟨h0, h⟩ := h
  rcases h with ⟨rfl, h⟩ | ⟨g, cap, cur, rfl, hb, hg, hc, hm, hs, ht⟩
  · have : l = [] := List.eq_nil_of_length_eq_zero h
    subst this
    exact ⟨none, 0, rfl, ⟨Nat.le_refl _, by simp⟩, .inl rfl⟩
  · refine ⟨_, cap, rfl, ⟨hc, hl⟩, .inr ⟨g, 0, rfl, fun i hi => ?_, hQ g hb⟩⟩
    have := h'.cells (g := g) rfl i (.int .i64 (l.getD i 0)) (by simp [List.getD, List.getElem?_eq_getElem hi])
    have e : (⟨g, 0, none⟩ : Addr).add i = ⟨g, 0 + i, none⟩ := by unfold Addr.add; split <;> simp_all
    rw [e] at this
    exact this

/-- behind an append to a row of the call's own nothing below has turned -/
theorem rel_append {B : Nat} {W wr w1 : World} {e : TypeId} {sz n : Nat} {v : Value} {xs : List Value} {o : Obj} (hb : Below B W wr) (hs : B ≤ wr.heap.size) (ho : wr.ownsRow B e sz v n xs) (hg : (wr.alloc o).grownBy w1 v.ownBlock) : Below B W w1 :=
  (hb.alloc hs o).grown hg (by simp; omega) (fun k hk => (ho.lt k hk).1)

theorem users_step (paths : List (List Int)) (link : Int) (k : Nat) (h : k < paths.length) :
    users (paths.take (k + 1)) link = users (paths.take k) link ++ (if inB (paths.getD k []) link then [(k : Int)] else []) := by
  unfold users
  rw [take_snoc paths k h [], usersFrom_snoc]
  have : 0 + (paths.take k).length = k := by rw [List.length_take]; omega
  rw [this]

/-- the values in the cells of a list of lists -/
theorem ListsAt.vals {Q : Nat → Prop} {w : World} {v : Value} {ll : List (List Int)} (h : ListsAt Q w v ll) (hne : ll ≠ []) :
    ∃ b off cap vs, v = .slice (some ⟨b, off, none⟩) ll.length cap ∧ ll.length ≤ cap ∧ List.length vs = ll.length ∧ ∀ i, i < ll.length → w.cell? ⟨b, off + i, none⟩ = some (vs.getD i undef) ∧ IntsAt Q w (vs.getD i undef) (ll.getD i []) := by
  obtain ⟨a, cap, rfl, ⟨hm, hm2⟩, h⟩ := h
  rcases h with h | ⟨b, off, rfl, h, hQ⟩
  · exact absurd h hne
  · refine ⟨b, off, cap, (List.range ll.length).map (fun i => (w.cell? ⟨b, off + i, none⟩).getD undef), rfl, hm, by simp, fun i hi => ?_⟩
    obtain ⟨x, hx, hi'⟩ := h i hi
    have e : ((List.range ll.length).map (fun i => (w.cell? ⟨b, off + i, none⟩).getD undef)).getD i undef = x := by
      simp [List.getD, List.getElem?_range hi, hx]
    rw [e]
    exact ⟨hx, hi'⟩

theorem add_addr (b off i : Nat) : (⟨b, off, none⟩ : Addr).add i = ⟨b, off + i, none⟩ := by unfold Addr.add; split <;> simp_all

theorem ones {Q : Nat → Prop} {w : World} {vs : List Value} {ll : List (List Int)} (hl : vs.length = ll.length) (h : ∀ i, i < ll.length → IntsAt Q w (vs.getD i undef) (ll.getD i [])) : ∀ u ∈ vs, u.oneCell' = true := by
  intro u hu
  obtain ⟨i, hi, rfl⟩ := List.mem_iff_getElem.1 hu
  obtain ⟨a, c, e, _⟩ := h i (by omega)
  have : vs[i] = vs.getD i undef := by simp [List.getD, List.getElem?_eq_getElem hi]
  rw [this, e]
  rfl

theorem ints_snoc {Q : Nat → Prop} {w : World} {vs : List Value} {ll : List (List Int)} {v : Value} {l : List Int} (hl : vs.length = ll.length) (h : ∀ i, i < ll.length → IntsAt Q w (vs.getD i undef) (ll.getD i [])) (hv : IntsAt Q w v l) :
    ∀ i, i < (ll ++ [l]).length → IntsAt Q w ((vs ++ [v]).getD i undef) ((ll ++ [l]).getD i []) := by
  intro i hi
  by_cases hlt : i < ll.length
  · have e1 : (vs ++ [v]).getD i undef = vs.getD i undef := by simp [List.getD, List.getElem?_append_left (show i < vs.length by omega)]
    have e2 : (ll ++ [l]).getD i [] = ll.getD i [] := by simp [List.getD, List.getElem?_append_left hlt]
    rw [e1, e2]; exact h i hlt
  · have hi' : i = ll.length := by simp at hi; omega
    subst hi'
    have e1 : (vs ++ [v]).getD ll.length undef = v := by rw [← hl]; simp [List.getD]
    have e2 : (ll ++ [l]).getD ll.length [] = l := by simp [List.getD]
    rw [e1, e2]; exact hv
end Ns
end Go.Proofs.Ytkpmjmgmgkdfnaj

/- An error as a value, and old memory behind a contract. -/
namespace Go.Proofs.Ytkpmjmgmgkdfnaj
namespace Fr
open Go.RowKit

/-- an error value: none, or the number in an api.Errno -/
def errV (k : Int) : Value := if k = 0 then .nilIface else .iface 59 (.int .i64 k)
theorem errV_0 : errV 0 = .nilIface := rfl
theorem errV_ne {k : Int} (h : k ≠ 0) : errV k = .iface 59 (.int .i64 k) := by simp [errV, h]

theorem bcell {W w1 : World} (hb : Below W.heap.size W w1) : (∀ b o, b < W.heap.size → w1.cell? ⟨b, o, none⟩ = W.cell? ⟨b, o, none⟩) ∧ (∀ b o, b < W.heap.size → w1.frozen? ⟨b, o, none⟩ = W.frozen? ⟨b, o, none⟩) :=
  ⟨fun b o h => hb.cell (p := ⟨b, o, none⟩) h, fun b o h => hb.frozen (p := ⟨b, o, none⟩) h⟩

end Fr
end Go.Proofs.Ytkpmjmgmgkdfnaj

/- Small laws on worlds behind calls: what lies below stays. -/
namespace Go.Proofs.Ytkpmjmgmgkdfnaj
namespace Bel
open Go.RowKit
theorem more {B : Nat} {W u : World} (h : Below B W u) (hB : B ≤ W.heap.size) (o : Obj) : Below B W (u.alloc o) := h.alloc (Nat.le_trans hB h.size) o
theorem call {B : Nat} {W u u' : World} (h : Below B W u) (hB : B ≤ W.heap.size) (hc : Below u.heap.size u u') : Below B W u' := h.trans (hc.mono (Nat.le_trans hB h.size))
end Bel
end Go.Proofs.Ytkpmjmgmgkdfnaj

/- A call that changes memory of its thing's own alone. -/
namespace Go.Proofs.Ytkpmjmgmgkdfnaj
namespace Ev
open Go.RowKit
set_option linter.unusedVariables false

/-- but in some blocks the memory is as it was -/
def ButIn (F : Nat → Prop) (w w' : World) : Prop := Below 0 w w' ∧ ∀ b, b < w.heap.size → ¬ F b → w'.heap[b]? = w.heap[b]?
theorem ButIn.below {F : Nat → Prop} {w w' : World} {B : Nat} (h : ButIn F w w') (hF : ∀ b, F b → B ≤ b) (hB : B ≤ w.heap.size) : Below B w w' :=
  ⟨h.1.os, h.1.tape, h.1.output, h.1.size, fun k hk => h.2 k (by omega) (fun hf => by have := hF k hf; omega)⟩
theorem ButIn.of_below {F : Nat → Prop} {w w' : World} (h : Below w.heap.size w w') : ButIn F w w' := ⟨h.mono (Nat.zero_le _), fun b hb _ => h.block b hb⟩
theorem ButIn.refl (F : Nat → Prop) (w : World) : ButIn F w w := ⟨Below.refl _ _, fun _ _ _ => rfl⟩
end Ev
end Go.Proofs.Ytkpmjmgmgkdfnaj

/- Some over one link: slices of sources, as a walk meets them; and what New tells. -/
namespace Go.Proofs.Ytkpmjmgmgkdfnaj
namespace Ev
open Go.RowKit Fr Ns Ld Fl
set_option linter.unusedSimpArgs false
set_option linter.unusedVariables false

/-- a source as a value -/
def srcV (s : Src) : Value := .agg #[.int .i64 s.1, .int .i64 s.2.1, .int .i64 s.2.2.1, .int .i64 s.2.2.2]
/-- the source s lies at that place -/
def SrcAt (w : World) (b o : Nat) (s : Src) : Prop := w.cell? ⟨b, o, none⟩ = some (.int .i64 s.1) ∧ w.cell? ⟨b, o + 1, none⟩ = some (.int .i64 s.2.1) ∧ w.cell? ⟨b, o + 2, none⟩ = some (.int .i64 s.2.2.1) ∧ w.cell? ⟨b, o + 3, none⟩ = some (.int .i64 s.2.2.2)
/-- the slice v holds the sources l in the world w, in a block of which Q holds -/
def SrcsAt (Q : Nat → Prop) (w : World) (v : Value) (l : List Src) : Prop :=
  ∃ a cap, v = .slice a l.length cap ∧ (l.length ≤ cap ∧ l.length ≤ 9223372036854775807) ∧
    (l = [] ∨ ∃ b off, a = some ⟨b, off, none⟩ ∧ (∀ i, i < l.length → SrcAt w b (off + i * 4) (sAt l i)) ∧ Q b)
theorem SrcAt.later {w w' : World} {b o : Nat} {s : Src} (hb : Below w.heap.size w w') (h : SrcAt w b o s) : SrcAt w' b o s := ⟨cell_later hb h.1, cell_later hb h.2.1, cell_later hb h.2.2.1, cell_later hb h.2.2.2⟩
theorem SrcAt.keep {w w' : World} {b o : Nat} {s : Src} (hk : w'.heap[b]? = w.heap[b]?) (h : SrcAt w b o s) : SrcAt w' b o s := by
  refine ⟨?_, ?_, ?_, ?_⟩
  · rw [World.cell?_of_block (w := w) (a := ⟨b, o, none⟩) hk]; exact h.1
  · rw [World.cell?_of_block (w := w) (a := ⟨b, o + 1, none⟩) hk]; exact h.2.1
  · rw [World.cell?_of_block (w := w) (a := ⟨b, o + 2, none⟩) hk]; exact h.2.2.1
  · rw [World.cell?_of_block (w := w) (a := ⟨b, o + 3, none⟩) hk]; exact h.2.2.2
theorem SrcAt.lt {w : World} {b o : Nat} {s : Src} (h : SrcAt w b o s) : b < w.heap.size := World.block_lt_of_cell? _ _ h.1
theorem SrcsAt.later {Q : Nat → Prop} {w w' : World} {v : Value} {l : List Src} (hb : Below w.heap.size w w') (h : SrcsAt Q w v l) : SrcsAt Q w' v l := by
  obtain ⟨a, cap, rfl, hm, h⟩ := h
  refine ⟨a, cap, rfl, hm, ?_⟩
  rcases h with h | ⟨b, off, rfl, h, hQ⟩
  · exact .inl h
  · exact .inr ⟨b, off, rfl, fun i hi => (h i hi).later hb, hQ⟩
theorem SrcsAt.keep {Q R : Nat → Prop} {w w' : World} {v : Value} {l : List Src} (hk : ∀ b, Q b → b < w.heap.size → w'.heap[b]? = w.heap[b]?) (hQR : ∀ b, Q b → b < w.heap.size → R b) (h : SrcsAt Q w v l) : SrcsAt R w' v l := by
  obtain ⟨a, cap, rfl, hm, h⟩ := h
  refine ⟨a, cap, rfl, hm, ?_⟩
  rcases h with h | ⟨b, off, rfl, h, hQ⟩
  · exact .inl h
  · by_cases hl : l = []
    · exact .inl hl
    · have hb : b < w.heap.size := (h 0 (List.length_pos_iff.2 hl)).lt
      exact .inr ⟨b, off, rfl, fun i hi => (h i hi).keep (hk b hQ hb), hQR b hQ hb⟩
/-- the fault of some sources, one by one -/
def srcsE : List Src → Int
  | [] => 0
  | s :: r => if srcE s.1 s.2.1 s.2.2.1 s.2.2.2 = 0 then (if s.2.1 ≠ 0 ∨ s.2.2.2 ≠ 0 then 3 else srcsE r) else srcE s.1 s.2.1 s.2.2.1 s.2.2.2
/-- what New tells -/
def newE (S : List Src) (room cap wait : Int) : Int :=
  if S.length = 0 then 5 else if 6 < S.length then 4 else if srcsE S = 0 then (if poolE room cap wait = 0 then (if wait ≠ 0 then 3 else 0) else poolE room cap wait) else srcsE S
def road0 (S : List Src) (room cap wait : Int) : Road := ⟨S, room, cap, wait, []⟩
theorem srcsE_0 : ∀ {S : List Src}, srcsE S = 0 → ∀ i, i < S.length → okS (sAt S i) ∧ (sAt S i).2.1 = 0 ∧ (sAt S i).2.2.2 = 0 := by
  intro S
  induction S with
  | nil => intro _ i hi; simp at hi
  | cons s r ih =>
    intro h i hi
    simp only [srcsE] at h
    split at h
    · rename_i h1
      split at h
      · omega
      · rename_i h2
        cases i with
        | zero => exact ⟨h1, by show s.2.1 = 0; omega, by show s.2.2.2 = 0; omega⟩
        | succ i => exact ih h i (by simpa using hi)
    · contradiction
theorem newE_0 {S : List Src} {room cap wait : Int} (h : newE S room cap wait = 0) : 0 < S.length ∧ S.length ≤ 6 ∧ poolE room cap wait = 0 ∧ wait = 0 ∧ ∀ i, i < S.length → okS (sAt S i) ∧ (sAt S i).2.1 = 0 ∧ (sAt S i).2.2.2 = 0 := by
  unfold newE at h
  split at h
  · omega
  · split at h
    · omega
    · split at h
      · split at h
        · split at h
          · omega
          · refine ⟨by omega, by omega, by assumption, by omega, srcsE_0 (by assumption)⟩
        · contradiction
      · contradiction
/-- what each has to send -/
def leftN (S : List Src) (i : Nat) : Int := (sAt S i).2.2.1
theorem road0_inv {S : List Src} {room cap wait : Int} (h : newE S room cap wait = 0) : RoadInv S.length (leftN S) room cap (road0 S room cap wait) ∧ (∀ i, i < S.length → leftN S i ≤ 10000) ∧ cameN S S.length = 0 := by
  obtain ⟨h1, h2, h3, h4, h5⟩ := newE_0 h
  refine ⟨⟨⟨rfl, fun i hi => ?_⟩, by simp [road0], by simp [road0, h4], rfl, rfl, h3⟩, fun i hi => ?_, ?_⟩
  · obtain ⟨a1, a2, a3⟩ := h5 i hi
    refine ⟨a1, by simp [road0, a2], ?_⟩
    show (sAt S i).2.1 + (sAt S i).2.2.1 + (sAt S i).2.2.2 = _
    rw [a2, a3]; simp [leftN]
  · have := srcE_0.1 (h5 i hi).1
    unfold leftN
    omega
  · have : cameN S S.length = sumN (fun _ => 0) S.length := sumN_congr (fun i hi => (h5 i hi).2.2)
    rw [this]
    generalize S.length = n
    induction n with
    | zero => rfl
    | succ n ih => simp only [sumN, ih]; rfl
/-- a road is right: there are so many sources, each with so much -/
def RightR (R : Road) : Prop := ∃ L, R.S.length ≤ 6 ∧ (∀ i, i < R.S.length → L i ≤ 10000) ∧ RoadInv R.S.length L R.room R.cap R
/-- a road as package road has it: what of the memory is its own only the package knows -/
structure RoadFace where
  Inv : World → Value → (Nat → Prop) → Road → Prop
  lt : ∀ {w p F R}, Inv w p F R → ∀ b, F b → b < w.heap.size
  keep : ∀ {w w' p F R}, Inv w p F R → (∀ b, F b → w'.heap[b]? = w.heap[b]?) → Inv w' p F R
  ptr : ∀ {w p F R}, Inv w p F R → ∃ a, p = .pointer (some a)
theorem RoadFace.later (X : RoadFace) {w w' : World} {p : Value} {F : Nat → Prop} {R : Road} (hb : Below w.heap.size w w') (h : X.Inv w p F R) : X.Inv w' p F R := X.keep h (fun b hb' => hb.block b (X.lt h b hb'))
def goneV (R : Road) : Value := .agg #[.int .i64 (wentR R (rowR R).length), .int .i64 (lostR R (rowR R).length), .int .i64 (waitR R (rowR R).length)]
def atI (n : Nat) (i : Int) : Int := if i < 0 ∨ (n : Int) ≤ i then 1 else 0
def okS4 (k : Int) (s : Src) : Src := if k = 0 then s else (0, 0, 0, 0)
end Ev
end Go.Proofs.Ytkpmjmgmgkdfnaj

/- What is asked of package road's New, as the document says it. -/
namespace Go.Proofs.Ytkpmjmgmgkdfnaj
namespace Ev
open Go.RowKit Fr Ns Ld Fl
/-- what New hands out -/
def Made (X : RoadFace) (S : List Src) (room cap wait : Int) (w w' : World) (e : Ending) : Prop :=
  ∃ p, e = .returned (.tuple #[p, errV (newE S room cap wait)]) ∧ (∃ a, p = .pointer a) ∧ (newE S room cap wait = 0 → ∃ F, X.Inv w' p F (road0 S room cap wait) ∧ ∀ b, F b → w.heap.size ≤ b) ∧ Below w.heap.size w w'
def RNewSaid (X : RoadFace) : Prop := ∀ (Q : Nat → Prop) (S : List Src) (room cap wait : Int) (v : Value) (w : World), SrcsAt Q w v S →
  Calls Try.prog 5 #[v, .agg #[.int .i64 room, .int .i64 cap, .int .i64 wait]] w fun e w' => Made X S room cap wait w w' e
end Ev
end Go.Proofs.Ytkpmjmgmgkdfnaj

/- What is asked of package road's Tick, as the document says it. -/
namespace Go.Proofs.Ytkpmjmgmgkdfnaj
namespace Ev
open Go.RowKit Fr Ns Ld Fl
/-- what Tick leaves -/
def Ticked (X : RoadFace) (p : Value) (F : Nat → Prop) (R : Road) (w w' : World) : Prop := ∃ F', X.Inv w' p F' (tickR R) ∧ (∀ b, F' b → F b ∨ w.heap.size ≤ b) ∧ ButIn F w w'
def RTickSaid (X : RoadFace) : Prop := ∀ (p : Value) (F : Nat → Prop) (R : Road) (w : World), X.Inv w p F R → RightR R →
  Calls Try.prog 6 #[p] w fun e w' => e = .returned (goneV R) ∧ Ticked X p F R w w'
end Ev
end Go.Proofs.Ytkpmjmgmgkdfnaj

/- What is asked of package road's Source, Pool and Waits, as the document says it. -/
namespace Go.Proofs.Ytkpmjmgmgkdfnaj
namespace Ev
open Go.RowKit Fr Ns Ld Fl
def RSourceSaid (X : RoadFace) : Prop := ∀ (p : Value) (F : Nat → Prop) (R : Road) (i : Int) (w : World), X.Inv w p F R → RightR R →
  Calls Try.prog 9 #[p, .int .i64 i] w fun e w' => e = .returned (.tuple #[srcV (okS4 (atI R.S.length i) (sAt R.S i.toNat)), errV (atI R.S.length i)]) ∧ Below w.heap.size w w'
def RPoolSaid (X : RoadFace) : Prop := ∀ (p : Value) (F : Nat → Prop) (R : Road) (w : World), X.Inv w p F R → RightR R →
  Calls Try.prog 8 #[p] w fun e w' => e = .returned (.agg #[.int .i64 R.room, .int .i64 R.cap, .int .i64 R.wait]) ∧ Below w.heap.size w w'
theorem pool_below {X : RoadFace} (hP : RPoolSaid X) (p : Value) (F : Nat → Prop) (R : Road) (w : World) (hi : X.Inv w p F R) (hr : RightR R) : Calls Try.prog 8 #[p] w fun e w' => e = .returned (.agg #[.int .i64 R.room, .int .i64 R.cap, .int .i64 R.wait]) ∧ Below w.heap.size w w' := hP p F R w hi hr
def RWaitsSaid (X : RoadFace) : Prop := ∀ (p : Value) (F : Nat → Prop) (R : Road) (w : World), X.Inv w p F R → RightR R →
  Calls Try.prog 7 #[p] w fun e w' => ∃ y, e = .returned y ∧ IntsAt (fun b => w.heap.size ≤ b) w' y (R.row.map Int.ofNat) ∧ Below w.heap.size w w'
end Ev
end Go.Proofs.Ytkpmjmgmgkdfnaj

/- A road that package road has made, tick by tick: what the laws are told of it. -/
namespace Go.Proofs.Ytkpmjmgmgkdfnaj
namespace Ev
open Go.RowKit Fr Ns Ld Fl
set_option linter.unusedSimpArgs false
set_option linter.unusedVariables false

/-- how much came behind so many ticks -/
def cameK (R : Road) (k : Nat) : Int := cameN (ticksR R k).S R.S.length
def goneK (R : Road) (k : Nat) : Int × Int × Int := (wentR (ticksR R k) (rowR (ticksR R k)).length, lostR (ticksR R k) (rowR (ticksR R k)).length, waitR (ticksR R k) (rowR (ticksR R k)).length)
theorem goneV_K (R : Road) (k : Nat) : goneV (ticksR R k) = .agg #[.int .i64 (goneK R k).1, .int .i64 (goneK R k).2.1, .int .i64 (goneK R k).2.2] := rfl
/-- a road that is right at first is right behind each tick -/
structure RoadAll (S : List Src) (room cap : Int) (R : Road) : Prop where
  right : ∀ k, RightR (ticksR R k)
  inv : ∀ k, RoadInv S.length (leftN S) room cap (ticksR R k)
  step : ∀ k, cameK R (k + 1) = cameK R k + (goneK R k).1
  bound : ∀ k, 0 ≤ (goneK R k).1 ∧ (goneK R k).1 ≤ cap ∧ 0 ≤ (goneK R k).2.1 ∧ (ticksR R (k + 1)).wait = (goneK R k).2.2
  zero : cameK R 0 = 0
  upto : ∀ k, cameK R k ≤ sumN (leftN S) S.length ∧ (cameK R k < sumN (leftN S) S.length → (k : Int) ≤ cameK R k)
  lefts : ∀ i, i < S.length → 0 ≤ leftN S i ∧ leftN S i ≤ 10000
  few : 0 < S.length ∧ S.length ≤ 6
theorem road_all {S : List Src} {room cap wait : Int} (h : newE S room cap wait = 0) : RoadAll S room cap (road0 S room cap wait) := by
  obtain ⟨n1, n2, n3, n4, n5⟩ := newE_0 h
  obtain ⟨hi, hl, hc⟩ := road0_inv h
  have ht := road_ticks (R := road0 S room cap wait) hl hi (by show 0 ≤ cameN S S.length; omega)
  have hlen : ∀ k, (ticksR (road0 S room cap wait) k).S.length = S.length := fun k => (ht k).1.has.1
  refine ⟨fun k => ⟨leftN S, by rw [hlen]; exact n2, by rw [hlen]; exact hl, ?_⟩, fun k => (ht k).1, fun k => ?_, fun k => ?_, hc, fun k => (ht k).2, fun i hi' => ?_, ⟨n1, n2⟩⟩
  · have := (ht k).1
    rw [hlen, this.rooms, this.caps]
    exact this
  · obtain ⟨_, t2, _⟩ := road_tick hl (ht k).1
    exact t2
  · obtain ⟨_, _, t3, t4, t5, t6, _⟩ := road_tick hl (ht k).1
    exact ⟨t3, t4, t5, t6⟩
  · have := srcE_0.1 (n5 i hi').1
    unfold leftN
    omega
theorem sumN_bd {g : Nat → Int} {M : Int} (hM : 0 ≤ M) : ∀ {n : Nat}, (∀ i, i < n → 0 ≤ g i ∧ g i ≤ M) → 0 ≤ sumN g n ∧ sumN g n ≤ n * M := by
  intro n
  induction n with
  | zero => intro _; simp [sumN]
  | succ n ih =>
    intro h
    have h1 := ih (fun i hi => h i (by omega))
    have h2 := h n (by omega)
    simp only [sumN]
    have e : ((n + 1 : Nat) : Int) * M = n * M + M := by rw [Int.natCast_add, Int.add_mul]; simp
    rw [e]
    omega
/-- behind as many ticks as there were to send all came -/
theorem RoadAll.done {S : List Src} {room cap : Int} {R : Road} (h : RoadAll S room cap R) (hS : R.S.length = S.length) {k : Nat} (hk : sumN (leftN S) S.length ≤ k) : cameK R k = sumN (leftN S) S.length ∧ (∀ i, i < S.length → (sAt (ticksR R k).S i).2.2.2 = leftN S i ∧ (sAt (ticksR R k).S i).2.1 = 0 ∧ (sAt (ticksR R k).S i).2.2.1 = 0) ∧ (ticksR R k).row = [] ∧ (ticksR R k).wait = 0 := by
  obtain ⟨u1, u2⟩ := h.upto k
  have e : cameK R k = sumN (leftN S) S.length := by
    by_cases hlt : cameK R k < sumN (leftN S) S.length
    · have := u2 hlt; omega
    · omega
  refine ⟨e, ?_⟩
  have e' : cameN (ticksR R k).S S.length = sumN (leftN S) S.length := by rw [← hS]; rw [hS]; rw [cameK, hS] at e; exact e
  exact road_done (h.inv k) e'

/-- the calls on a road behind so many ticks, as a law meets them: B, W: the world when the road was made -/
def RdTicks (X : RoadFace) (R : Road) (B : Nat) (W : World) : Prop := ∀ (k : Nat) (a : Addr) (F : Nat → Prop) (u : World), X.Inv u (.pointer (some a)) F (ticksR R k) → (∀ b, F b → B ≤ b) → Below B W u →
  Calls Try.prog 6 #[.pointer (some a)] u fun e w' => e = .returned (.agg #[.int .i64 (goneK R k).1, .int .i64 (goneK R k).2.1, .int .i64 (goneK R k).2.2]) ∧ (∃ F', X.Inv w' (.pointer (some a)) F' (ticksR R (k + 1)) ∧ ∀ b, F' b → B ≤ b) ∧ Below B W w'
theorem ticks_of {X : RoadFace} (hT : RTickSaid X) {R : Road} (hr : ∀ k, RightR (ticksR R k)) (B : Nat) (W : World) (hB : B ≤ W.heap.size) : RdTicks X R B W := by
  intro k a F u hi hF hb
  refine (hT _ F _ u hi (hr k)).mono ?_
  rintro e w' ⟨rfl, F', hi', hF', hbut⟩
  have hBu : B ≤ u.heap.size := Nat.le_trans hB hb.size
  refine ⟨by rw [goneV_K], ⟨F', hi', fun b hb' => ?_⟩, hb.trans (hbut.below hF hBu)⟩
  rcases hF' b hb' with h | h
  · exact hF b h
  · omega
theorem source_of {X : RoadFace} (hS : RSourceSaid X) {R : Road} (hr : ∀ k, RightR (ticksR R k)) (n : Nat) (hn : ∀ k, (ticksR R k).S.length = n) (k : Nat) (a : Addr) (F : Nat → Prop) (i : Nat) (u : World) (hi : X.Inv u (.pointer (some a)) F (ticksR R k)) (hin : i < n) :
    Calls Try.prog 9 #[.pointer (some a), .int .i64 i] u fun e w' => e = .returned (.tuple #[.agg #[.int .i64 (sAt (ticksR R k).S i).1, .int .i64 (sAt (ticksR R k).S i).2.1, .int .i64 (sAt (ticksR R k).S i).2.2.1, .int .i64 (sAt (ticksR R k).S i).2.2.2], .nilIface]) ∧ Below u.heap.size u w' := by
  have := hS _ F _ (i : Int) u hi (hr k)
  rw [hn, atI, if_neg (by omega), okS4, if_pos rfl, errV_0, Int.toNat_natCast] at this
  exact this
theorem pool_of {X : RoadFace} (hP : RPoolSaid X) {R : Road} (hr : ∀ k, RightR (ticksR R k)) (k : Nat) (a : Addr) (F : Nat → Prop) (u : World) (hi : X.Inv u (.pointer (some a)) F (ticksR R k)) :
    Calls Try.prog 8 #[.pointer (some a)] u fun e w' => e = .returned (.agg #[.int .i64 (ticksR R k).room, .int .i64 (ticksR R k).cap, .int .i64 (ticksR R k).wait]) ∧ Below u.heap.size u w' := pool_below hP _ F _ u hi (hr k)
theorem waits_of {X : RoadFace} (hW : RWaitsSaid X) {R : Road} (hr : ∀ k, RightR (ticksR R k)) (k : Nat) (a : Addr) (F : Nat → Prop) (u : World) (hi : X.Inv u (.pointer (some a)) F (ticksR R k)) :
    Calls Try.prog 7 #[.pointer (some a)] u fun e w' => ∃ y, e = .returned y ∧ IntsAt (fun b => u.heap.size ≤ b) w' y ((ticksR R k).row.map Int.ofNat) ∧ Below u.heap.size u w' := hW _ F _ u hi (hr k)
theorem made_good {X : RoadFace} {S : List Src} {room cap wait : Int} {W : World} (he : newE S room cap wait = 0) : ∀ e w', Made X S room cap wait W w' e → ∃ a F, e = .returned (.tuple #[.pointer (some a), .nilIface]) ∧ X.Inv w' (.pointer (some a)) F (ticksR (road0 S room cap wait) 0) ∧ (∀ b, F b → W.heap.size ≤ b) ∧ Below W.heap.size W w' := fun e w' ⟨p, h1, _, h2, h3⟩ => by
  obtain ⟨F, hi, hF⟩ := h2 he
  obtain ⟨a, rfl⟩ := X.ptr hi
  rw [he, errV_0] at h1
  exact ⟨a, F, h1, hi, hF, h3⟩
theorem made_bad {X : RoadFace} {S : List Src} {room cap wait : Int} {W : World} (he : newE S room cap wait ≠ 0) : ∀ e w', Made X S room cap wait W w' e → ∃ a, e = .returned (.tuple #[.pointer a, .iface 59 (.int .i64 (newE S room cap wait))]) ∧ Below W.heap.size W w' := fun e w' ⟨p, h1, ⟨a, h2⟩, _, h3⟩ => by
  rw [errV_ne he, h2] at h1
  exact ⟨a, h1, h3⟩
end Ev
end Go.Proofs.Ytkpmjmgmgkdfnaj

/- Slices of fractions: what a walk is told of them; and package fairsame's Fracs. -/
namespace Go.Proofs.Ytkpmjmgmgkdfnaj
namespace Ld
open Go.RowKit Fr Ns
set_option linter.unusedSimpArgs false
set_option linter.unusedVariables false

/-- the slice v holds the fractions l in the world w, in a block of which Q holds -/
def FracsAt (Q : Nat → Prop) (w : World) (v : Value) (l : List (Int × Int)) : Prop :=
  ∃ a cap, v = .slice a l.length cap ∧ (l.length ≤ cap ∧ l.length ≤ 9223372036854775807) ∧
    (l = [] ∨ ∃ b off, a = some ⟨b, off, none⟩ ∧ (∀ i, i < l.length → w.cell? ⟨b, off + i * 2, none⟩ = some (.int .i64 (l.getD i (0, 0)).1) ∧ w.cell? ⟨b, off + i * 2 + 1, none⟩ = some (.int .i64 (l.getD i (0, 0)).2)) ∧ Q b)

theorem FracsAt.later {Q : Nat → Prop} {w w' : World} {v : Value} {l : List (Int × Int)} (hb : Below w.heap.size w w') (h : FracsAt Q w v l) : FracsAt Q w' v l := by
  obtain ⟨a, cap, rfl, hm, h⟩ := h
  refine ⟨a, cap, rfl, hm, ?_⟩
  rcases h with h | ⟨b, off, rfl, h, hQ⟩
  · exact .inl h
  · exact .inr ⟨b, off, rfl, fun i hi => ⟨cell_later hb (h i hi).1, cell_later hb (h i hi).2⟩, hQ⟩
theorem FracsAt.keep {Q R : Nat → Prop} {w w' : World} {v : Value} {l : List (Int × Int)} (hk : ∀ b, Q b → b < w.heap.size → w'.heap[b]? = w.heap[b]?) (hQR : ∀ b, Q b → b < w.heap.size → R b) (h : FracsAt Q w v l) : FracsAt R w' v l := by
  obtain ⟨a, cap, rfl, hm, h⟩ := h
  refine ⟨a, cap, rfl, hm, ?_⟩
  rcases h with h | ⟨b, off, rfl, h, hQ⟩
  · exact .inl h
  · by_cases hl : l = []
    · exact .inl hl
    · have hb : b < w.heap.size := World.block_lt_of_cell? _ _ (h 0 (List.length_pos_iff.2 hl)).1
      refine .inr ⟨b, off, rfl, fun i hi => ?_, hQR b hQ hb⟩
      rw [World.cell?_of_block (w := w) (a := ⟨b, off + i * 2, none⟩) (hk b hQ hb), World.cell?_of_block (w := w) (a := ⟨b, off + i * 2 + 1, none⟩) (hk b hQ hb)]
      exact h i hi
theorem FracsAt.shape {Q : Nat → Prop} {w : World} {v : Value} {l : List (Int × Int)} (h : FracsAt Q w v l) : ∃ a n k, v = .slice a n k := by
  obtain ⟨_, _, rfl, _⟩ := h
  exact ⟨_, _, _, rfl⟩
theorem fracs_nil (Q : Nat → Prop) (w : World) : FracsAt Q w (.slice none 0 0) [] := ⟨none, 0, rfl, ⟨Nat.le_refl _, by simp⟩, .inl rfl⟩

theorem cell_set2 {w : World} {g : Nat} {x y z z' : Value} (h0 : w.cell? ⟨g, 0, none⟩ = some z) (h1 : w.cell? ⟨g, 1, none⟩ = some z') :
    ((w.setCell ⟨g, 0, none⟩ x).setCell ⟨g, 1, none⟩ y).cell? ⟨g, 0, none⟩ = some x ∧ ((w.setCell ⟨g, 0, none⟩ x).setCell ⟨g, 1, none⟩ y).cell? ⟨g, 1, none⟩ = some y := by
  constructor <;> go_simp
theorem infoFrac : (Try.prog.info? 49).map (fun i => (i.zero, i.size, i.bytes)) = some (some (.agg #[.int .i64 0, .int .i64 0]), 2, 16) := by kernel_rfl

/-- the cells of a row of fractions -/
def flat : List (Int × Int) → List Value
  | [] => []
  | a :: r => .int .i64 a.1 :: .int .i64 a.2 :: flat r
theorem flat_length (l : List (Int × Int)) : (flat l).length = l.length * 2 := by
  induction l with
  | nil => rfl
  | cons a r ih => simp [flat, ih]; omega
theorem flat_append (l m : List (Int × Int)) : flat (l ++ m) = flat l ++ flat m := by
  induction l with
  | nil => rfl
  | cons a r ih => simp [flat, ih]
theorem flat_at : ∀ (l : List (Int × Int)) (i : Nat), i < l.length → (flat l)[i * 2]? = some (.int .i64 (l.getD i (0, 0)).1) ∧ (flat l)[i * 2 + 1]? = some (.int .i64 (l.getD i (0, 0)).2) := by
  intro l
  induction l with
  | nil => intro i h; simp at h
  | cons a r ih =>
    intro i h
    cases i with
    | zero => simp [flat]
    | succ i =>
      have := ih i (by simpa using h)
      rw [show (i + 1) * 2 = i * 2 + 1 + 1 by omega]
      simpa [flat] using this
/-- a row of fractions that the call owns is a list -/
theorem fracs_of_owns {Q : Nat → Prop} {w : World} {base : Nat} {v : Value} {l : List (Int × Int)} (hl : l.length ≤ 9223372036854775807) (h : w.ownsRow base 49 2 v l.length (flat l)) (hQ : ∀ g, base ≤ g → Q g) : FracsAt Q w v l := by
  have h' := h
  obtain ⟨h0, h⟩ := h
  rcases h with ⟨rfl, h⟩ | ⟨g, cap, cur, rfl, hb, hg, hc, hm, hs, ht⟩
  · have : l = [] := List.eq_nil_of_length_eq_zero h
    subst this
    exact fracs_nil _ _
  · refine ⟨_, cap, rfl, ⟨hc, hl⟩, .inr ⟨g, 0, rfl, fun i hi => ?_, hQ g hb⟩⟩
    have e := flat_at l i hi
    have c1 := h'.cells (g := g) rfl (i * 2) _ e.1
    have c2 := h'.cells (g := g) rfl (i * 2 + 1) _ e.2
    rw [add_addr] at c1 c2
    exact ⟨c1, by rw [Nat.add_assoc]; exact c2⟩
/-- the two cells of a fraction that is appended -/
theorem news_two (w : World) (x y : Value) (T : TypeId) : ∀ j u, [x, y][j]? = some u → (w.alloc (.cells #[x, y] T)).cell? ((⟨w.heap.size, 0, none⟩ : Addr).add j) = some u := by
  intro j u hj
  match j, hj with
  | 0, hj => simp at hj; subst hj; simp [Addr.add]
  | 1, hj => simp at hj; subst hj; simp [Addr.add]
theorem ones_two (a b : Int) : ∀ u ∈ [Value.int .i64 a, Value.int .i64 b], u.oneCell' = true := by
  intro u hu
  simp at hu
  rcases hu with rfl | rfl <;> rfl
end Ld
end Go.Proofs.Ytkpmjmgmgkdfnaj

/- What package net's calls tell, in plain numbers. -/
namespace Go.Proofs.Ytkpmjmgmgkdfnaj
namespace Ns
open Go.RowKit Fr
set_option linter.unusedSimpArgs false
set_option linter.unusedVariables false

/-- what comes out beside a fault: nothing -/
def okL {α : Type} (k : Int) (l : List α) : List α := if k = 0 then l else []
theorem okL_0 {α : Type} (l : List α) : okL 0 l = l := rfl
theorem okL_ne {α : Type} {k : Int} (h : k ≠ 0) (l : List α) : okL k l = [] := if_neg h
def usersE (caps : List Int) (paths : List (List Int)) (link : Int) : Int :=
  if netE caps paths = 0 then if link < 0 ∨ (caps.length : Int) ≤ link then 1 else 0 else netE caps paths
def addE (caps : List Int) (paths : List (List Int)) (path : List Int) : Int :=
  if netE caps paths = 0 then if paths.length = 6 then 4 else pathE caps.length path else netE caps paths
def dropE (caps : List Int) (paths : List (List Int)) (flow : Int) : Int :=
  if netE caps paths = 0 then if flow < 0 ∨ (paths.length : Int) ≤ flow then 1 else if paths.length = 1 then 5 else 0 else netE caps paths
def less (paths : List (List Int)) (flow : Int) : List (List Int) := paths.take flow.toNat ++ paths.drop (flow.toNat + 1)

theorem netE_0 {caps : List Int} {paths : List (List Int)} (h : netE caps paths = 0) :
    0 < caps.length ∧ caps.length ≤ 6 ∧ 0 < paths.length ∧ paths.length ≤ 6 ∧ linksE caps = 0 ∧ pathsFrom caps.length paths = 0 := by
  unfold netE at h
  split at h
  · omega
  · split at h
    · omega
    · split at h
      · refine ⟨by omega, by omega, by omega, by omega, by assumption, h⟩
      · contradiction
theorem netE_mk {caps : List Int} {paths : List (List Int)} (h : 0 < caps.length ∧ caps.length ≤ 6 ∧ 0 < paths.length ∧ paths.length ≤ 6 ∧ linksE caps = 0 ∧ pathsFrom caps.length paths = 0) : netE caps paths = 0 := by
  rw [netE, if_neg (by omega), if_neg (by omega), if_pos h.2.2.2.2.1]
  exact h.2.2.2.2.2
theorem pathsFrom_append (L : Int) (l m : List (List Int)) (h : pathsFrom L l = 0) : pathsFrom L (l ++ m) = pathsFrom L m := by
  induction l with
  | nil => rfl
  | cons p r ih =>
    simp only [List.cons_append, pathsFrom] at h ⊢
    split at h
    · rw [if_pos (by assumption)]; exact ih h
    · contradiction
theorem pathsFrom_one (L : Int) (p : List Int) : pathsFrom L [p] = pathE L p := by
  simp only [pathsFrom]
  split <;> simp_all
theorem pathsFrom_iff (L : Int) (l : List (List Int)) : pathsFrom L l = 0 ↔ ∀ p ∈ l, pathE L p = 0 := by
  induction l with
  | nil => simp [pathsFrom]
  | cons q r ih =>
    simp only [pathsFrom, List.mem_cons, forall_eq_or_imp]
    split
    · simp [ih, *]
    · simp [*]
/-- a net with a flow more is a net -/
theorem netE_add {caps : List Int} {paths : List (List Int)} {path : List Int} (h : addE caps paths path = 0) :
    netE caps paths = 0 ∧ paths.length < 6 ∧ pathE caps.length path = 0 ∧ netE caps (paths ++ [path]) = 0 := by
  unfold addE at h
  split at h
  · rename_i h0
    split at h
    · omega
    · have := netE_0 h0
      refine ⟨h0, by omega, h, netE_mk ⟨this.1, this.2.1, by simp, by simp; omega, this.2.2.2.2.1, ?_⟩⟩
      rw [pathsFrom_append _ _ _ this.2.2.2.2.2, pathsFrom_one, h]
  · contradiction
end Ns
end Go.Proofs.Ytkpmjmgmgkdfnaj

/- What is asked of package net's Check, as the document says it: a contract to be proved of the landed code. -/
namespace Go.Proofs.Ytkpmjmgmgkdfnaj
namespace Ns
open Go.RowKit Fr

def CheckSaid : Prop := ∀ (Q : Nat → Prop) (caps : List Int) (paths : List (List Int)) (v : Value) (w : World), NetAt Q w v caps paths →
  Calls Try.prog 25 #[v] w fun e w' => e = .returned (errV (netE caps paths)) ∧ Below w.heap.size w w'
end Ns
end Go.Proofs.Ytkpmjmgmgkdfnaj

/- Rates that fit, and narrow places, of whatever flows and links: what follows of these. Plain numbers; no Go in it. -/
namespace Go.Proofs.Ytkpmjmgmgkdfnaj.Fl
set_option linter.unusedSimpArgs false

def sumQ (x : Nat → Rat) : List Nat → Rat
  | [] => 0
  | u :: us => x u + sumQ x us
theorem sumQ_le {x y : Nat → Rat} : ∀ {l : List Nat}, (∀ g ∈ l, x g ≤ y g) → sumQ x l ≤ sumQ y l := by
  intro l
  induction l with
  | nil => intro _; exact Rat.le_refl
  | cons u us ih =>
    intro h
    have h1 := h u (by simp)
    have h2 := ih (fun g hg => h g (by simp [hg]))
    simp only [sumQ]
    grind
theorem sumQ_lt {x y : Nat → Rat} {f : Nat} : ∀ {l : List Nat}, (∀ g ∈ l, x g ≤ y g) → f ∈ l → x f < y f → sumQ x l < sumQ y l := by
  intro l
  induction l with
  | nil => intro _ hf; simp at hf
  | cons u us ih =>
    intro h hf hlt
    have h1 := h u (by simp)
    have h2 := sumQ_le (fun g hg => h g (List.mem_cons_of_mem u hg))
    simp only [sumQ]
    rcases List.mem_cons.1 hf with rfl | hf
    · grind
    · have := ih (fun g hg => h g (by simp [hg])) hf hlt
      grind
theorem sumQ_congr {x y : Nat → Rat} : ∀ {l : List Nat}, (∀ g ∈ l, x g = y g) → sumQ x l = sumQ y l := by
  intro l
  induction l with
  | nil => intro _; rfl
  | cons u us ih =>
    intro h
    simp only [sumQ]
    rw [h u (by simp), ih (fun g hg => h g (by simp [hg]))]
/-- together no more, and one has more: another one has less -/
theorem other_less {x y : Nat → Rat} {f : Nat} {l : List Nat} (hs : sumQ y l ≤ sumQ x l) (hf : f ∈ l) (hlt : x f < y f) : ∃ g ∈ l, y g < x g := by
  apply Classical.byContradiction
  intro hn
  have h : ∀ g ∈ l, x g ≤ y g := fun g hg => by
    rcases (Rat.le_total : x g ≤ y g ∨ y g ≤ x g) with h | h
    · exact h
    · apply Classical.byContradiction
      intro hh
      exact hn ⟨g, hg, by grind⟩
  have := sumQ_lt h hf hlt
  grind

def FitsQ (us : Nat → List Nat) (cap : Nat → Rat) (L n : Nat) (x : Nat → Rat) : Prop := (∀ f, f < n → 0 ≤ x f) ∧ ∀ l, l < L → sumQ x (us l) ≤ cap l
def NeckQ (us : Nat → List Nat) (cap : Nat → Rat) (L : Nat) (x : Nat → Rat) (f : Nat) : Prop := ∃ l, l < L ∧ f ∈ us l ∧ sumQ x (us l) = cap l ∧ ∀ g ∈ us l, x g ≤ x f

variable {us : Nat → List Nat} {cap : Nat → Rat} {L n : Nat} {r x : Nat → Rat}

/-- giving one more takes of one who has no more -/
theorem weak {f : Nat} (hr : FitsQ us cap L n r) (hx : NeckQ us cap L x f) (h : x f < r f) : ∃ l g, l < L ∧ g ∈ us l ∧ g ≠ f ∧ x g ≤ x f ∧ r g < x g := by
  obtain ⟨l, hl, hf, he, hm⟩ := hx
  obtain ⟨g, hg, hlt⟩ := other_less (x := x) (y := r) (by rw [he]; exact hr.2 l hl) hf h
  refine ⟨l, g, hl, hg, ?_, hm g hg, hlt⟩
  rintro rfl
  grind

theorem exists_min (p : Nat → Prop) (m : Nat → Rat) : ∀ n : Nat, (∃ f, f < n ∧ p f) → ∃ f, f < n ∧ p f ∧ ∀ g, g < n → p g → m f ≤ m g := by
  intro n
  induction n with
  | zero => rintro ⟨f, hf, _⟩; omega
  | succ n ih =>
    rintro ⟨f, hf, hp⟩
    by_cases hs : ∃ f, f < n ∧ p f
    · obtain ⟨a, ha, hpa, hm⟩ := ih hs
      by_cases hn : p n
      · rcases (Rat.le_total : m a ≤ m n ∨ m n ≤ m a) with h | h
        · refine ⟨a, by omega, hpa, fun g hg hpg => ?_⟩
          by_cases e : g = n
          · rw [e]; exact h
          · exact hm g (by omega) hpg
        · refine ⟨n, by omega, hn, fun g hg hpg => ?_⟩
          by_cases e : g = n
          · rw [e]; exact Rat.le_refl
          · exact Rat.le_trans h (hm g (by omega) hpg)
      · refine ⟨a, by omega, hpa, fun g hg hpg => ?_⟩
        by_cases e : g = n
        · rw [e] at hpg; exact absurd hpg hn
        · exact hm g (by omega) hpg
    · have e : f = n := by
        by_cases e : f = n
        · exact e
        · exact absurd ⟨f, by omega, hp⟩ hs
      subst e
      refine ⟨f, by omega, hp, fun g hg hpg => ?_⟩
      by_cases e : g = f
      · rw [e]; exact Rat.le_refl
      · exact absurd ⟨g, by omega, hpg⟩ hs

/-- the lesser of two -/
def lo (a b : Rat) : Rat := if a ≤ b then a else b
theorem lo_le_left (a b : Rat) : lo a b ≤ a := by
  unfold lo; split
  · exact Rat.le_refl
  · grind
theorem lo_le_right (a b : Rat) : lo a b ≤ b := by
  unfold lo; split
  · assumption
  · exact Rat.le_refl

/-- only one is fair -/
theorem only (hU : ∀ l, l < L → ∀ g ∈ us l, g < n) (hr : FitsQ us cap L n r) (hx : FitsQ us cap L n x) (nr : ∀ f, f < n → NeckQ us cap L r f) (nx : ∀ f, f < n → NeckQ us cap L x f) : ∀ f, f < n → r f = x f := by
  apply Classical.byContradiction
  intro hn
  have hex : ∃ f, f < n ∧ r f ≠ x f := by
    apply Classical.byContradiction
    intro h
    exact hn fun f hf => Classical.byContradiction fun h' => h ⟨f, hf, h'⟩
  obtain ⟨f, hf, hne, hmin⟩ := exists_min (fun f => r f ≠ x f) (fun f => lo (r f) (x f)) n hex
  rcases (Rat.le_total : r f ≤ x f ∨ x f ≤ r f) with h | h
  · have hlt : r f < x f := Rat.lt_of_le_of_ne h hne
    obtain ⟨l, g, hl, hg, _, h1, h2⟩ := weak hx (nr f hf) hlt
    have h3 := hmin g (hU l hl g hg) (fun e => by rw [e] at h2; exact absurd h2 Rat.lt_irrefl)
    have h4 := lo_le_right (r g) (x g)
    have h5 : lo (r f) (x f) = r f := if_pos h
    grind
  · have hlt : x f < r f := Rat.lt_of_le_of_ne h (Ne.symm hne)
    obtain ⟨l, g, hl, hg, _, h1, h2⟩ := weak hr (nx f hf) hlt
    have h3 := hmin g (hU l hl g hg) (fun e => by rw [e] at h2; exact absurd h2 Rat.lt_irrefl)
    have h4 := lo_le_left (r g) (x g)
    have h5 : lo (r f) (x f) = x f := if_neg (by grind)
    grind

/-- how many have no more than t -/
def cnt (n : Nat) (y : Nat → Rat) (t : Rat) : Nat := (List.range n).countP fun f => decide (y f ≤ t)
theorem countP_lt {p q : Nat → Bool} : ∀ {l : List Nat} {f : Nat}, (∀ g ∈ l, p g = true → q g = true) → f ∈ l → p f = false → q f = true → l.countP p < l.countP q := by
  intro l
  induction l with
  | nil => intro f _ hf; simp at hf
  | cons u us ih =>
    intro f h hf hp hq
    have hle : us.countP p ≤ us.countP q := List.countP_mono_left fun g hg hpg => h g (by simp [hg]) hpg
    rcases List.mem_cons.1 hf with rfl | hf
    · rw [List.countP_cons, List.countP_cons, hp, hq]
      simp only [Bool.false_eq_true, if_false, if_true]
      omega
    · have h1 := ih (fun g hg => h g (by simp [hg])) hf hp hq
      have h2 := h u (by simp)
      rw [List.countP_cons, List.countP_cons]
      cases hpu : p u with
      | false => simp only [Bool.false_eq_true, if_false]; split <;> omega
      | true => rw [h2 hpu]; simp only [if_true]; omega

/-- no way that fits helps the weakest more: where below v as many have no more, at v no fewer have -/
theorem best (hU : ∀ l, l < L → ∀ g ∈ us l, g < n) (hr : FitsQ us cap L n r) (nx : ∀ f, f < n → NeckQ us cap L x f) (v : Rat) (hv : ∀ t, t < v → cnt n r t = cnt n x t) :
    cnt n x v ≤ cnt n r v := by
  have hall : ∀ f, f < n → x f ≤ v → r f = x f := by
    apply Classical.byContradiction
    intro hn
    have hex : ∃ f, f < n ∧ (x f ≤ v ∧ r f ≠ x f) := by
      apply Classical.byContradiction
      intro h
      exact hn fun f hf hfv => Classical.byContradiction fun h' => h ⟨f, hf, hfv, h'⟩
    obtain ⟨f, hf, ⟨hfv, hne⟩, hmin⟩ := exists_min (fun f => x f ≤ v ∧ r f ≠ x f) (fun f => lo (r f) (x f)) n hex
    -- none that differs has more than it had, of those at the least place
    have key : ∀ g, g < n → x g ≤ v → x g < r g → x g ≤ lo (r f) (x f) → False := by
      intro g hg hgv hlt hle
      obtain ⟨l, k, hl, hk, _, h1, h2⟩ := weak hr (nx g hg) hlt
      have h3 := hmin k (hU l hl k hk) ⟨Rat.le_trans h1 hgv, fun e => by rw [e] at h2; exact absurd h2 Rat.lt_irrefl⟩
      have h4 := lo_le_left (r k) (x k)
      grind
    rcases (Rat.le_total : r f ≤ x f ∨ x f ≤ r f) with h | h
    · have hlt : r f < x f := Rat.lt_of_le_of_ne h hne
      have hlo : lo (r f) (x f) = r f := if_pos h
      have ht := hv (r f) (by grind)
      have : cnt n x (r f) < cnt n r (r f) := by
        refine countP_lt (f := f) (fun g hg hp => ?_) (List.mem_range.2 hf) (decide_eq_false (by grind)) (decide_eq_true Rat.le_refl)
        have hgn := List.mem_range.1 hg
        have hxg : x g ≤ r f := of_decide_eq_true hp
        apply decide_eq_true
        by_cases e : r g = x g
        · rw [e]; exact hxg
        · have hgv : x g ≤ v := by grind
          rcases (Rat.le_total : r g ≤ x g ∨ x g ≤ r g) with h' | h'
          · exact Rat.le_trans h' hxg
          · exact (key g hgn hgv (Rat.lt_of_le_of_ne h' (Ne.symm e)) (by rw [hlo]; exact hxg)).elim
      omega
    · have hlt : x f < r f := Rat.lt_of_le_of_ne h (Ne.symm hne)
      have hlo : lo (r f) (x f) = x f := if_neg (by grind)
      exact key f hf hfv hlt (by rw [hlo]; exact Rat.le_refl)
  exact List.countP_mono_left fun f hf hp => by
    have hfn := List.mem_range.1 hf
    have hfv : x f ≤ v := of_decide_eq_true hp
    exact decide_eq_true (by rw [hall f hfn hfv]; exact hfv)
end Go.Proofs.Ytkpmjmgmgkdfnaj.Fl

/- All rise together: the document's rounds as plain lists, and what each step of them is. No Go in it. -/
namespace Go.Proofs.Ytkpmjmgmgkdfnaj.Fl
open Fr Ns Ld
set_option linter.unusedSimpArgs false

def dB (done : List Bool) (f : Nat) : Bool := done.getD f false
def rP (rate : List (Int × Int)) (f : Nat) : Int × Int := rate.getD f (0, 0)
def negP (a : Int × Int) : Int × Int := (-a.1, a.2)
/-- what a link takes, less the rates of those that are not free, and how many are free -/
def linkSum (rate : List (Int × Int)) (done : List Bool) : List Int → Int × Int → Nat → (Int × Int) × Nat
  | [], s, k => (s, k)
  | u :: us, s, k => if dB done u.toNat then linkSum rate done us (sumP s (negP (rP rate u.toNat))) k else linkSum rate done us s (k + 1)
/-- a fraction's k-th part -/
def partP (s : Int × Int) (k : Int) : Int × Int := (lowT s.1 (s.2 * k), lowB s.1 (s.2 * k))
def shareOf (caps : List Int) (paths : List (List Int)) (rate : List (Int × Int)) (done : List Bool) (l : Nat) : Option (Int × Int) :=
  if (linkSum rate done (users paths l) (caps.getD l 0, 1) 0).2 = 0 then none
  else some (partP (linkSum rate done (users paths l) (caps.getD l 0, 1) 0).1 ((linkSum rate done (users paths l) (caps.getD l 0, 1) 0).2 : Nat))
/-- the least one of the first so many -/
def bestOf (sh : Nat → Option (Int × Int)) : Nat → Option (Int × Int)
  | 0 => none
  | n + 1 => match sh n, bestOf sh n with
    | none, b => b
    | some s, none => some s
    | some s, some b => if s.1 * b.2 < b.1 * s.2 then some s else some b
/-- the free flows that go over a link with that share -/
def roundOf (paths : List (List Int)) (done : List Bool) (nar : Nat → Bool) : List Int :=
  ((List.range paths.length).filter fun f => !dB done f && (paths.getD f []).any fun x => nar x.toNat).map (fun f : Nat => (f : Int))
def setRate (rate : List (Int × Int)) (rd : List Int) (b : Int × Int) : List (Int × Int) := (List.range rate.length).map fun f : Nat => if rd.contains (f : Int) then b else rP rate f
def setDone (done : List Bool) (rd : List Int) : List Bool := (List.range done.length).map fun f : Nat => rd.contains (f : Int) || dB done f
def narOf (sh : Nat → Option (Int × Int)) (n : Nat) (l : Nat) : Bool := decide (l < n) && (sh l).isSome && decide (sh l = bestOf sh n)
def fillFrom (caps : List Int) (paths : List (List Int)) : Nat → List (Int × Int) → List Bool → List (Int × Int) × List (List Int)
  | 0, rate, _ => (rate, [])
  | k + 1, rate, done => if done.all id then (rate, []) else
    match bestOf (shareOf caps paths rate done) caps.length with
    | none => (rate, [])
    | some b => ((fillFrom caps paths k (setRate rate (roundOf paths done (narOf (shareOf caps paths rate done) caps.length)) b) (setDone done (roundOf paths done (narOf (shareOf caps paths rate done) caps.length)))).1,
        roundOf paths done (narOf (shareOf caps paths rate done) caps.length) :: (fillFrom caps paths k (setRate rate (roundOf paths done (narOf (shareOf caps paths rate done) caps.length)) b) (setDone done (roundOf paths done (narOf (shareOf caps paths rate done) caps.length)))).2)
def fill (caps : List Int) (paths : List (List Int)) : List (Int × Int) × List (List Int) := fillFrom caps paths paths.length (List.replicate paths.length (0, 0)) (List.replicate paths.length false)

def xQ (rate : List (Int × Int)) (f : Nat) : Rat := val (rP rate f)
/-- what each has, if those that are free have t -/
def lev (done : List Bool) (rate : List (Int × Int)) (t : Rat) (u : Nat) : Rat := if dB done u then xQ rate u else t
/-- who goes over a link -/
def usN (paths : List (List Int)) (l : Nat) : List Nat := (users paths l).map Int.toNat
def capQ (caps : List Int) (l : Nat) : Rat := ((caps.getD l 0 : Int) : Rat)

/-- a net whose links and paths are right; there may be more links than a net's -/
def Good (caps : List Int) (paths : List (List Int)) : Prop :=
  (∀ c ∈ caps, 1 ≤ c ∧ c ≤ 1000) ∧ (∀ p ∈ paths, p ≠ [] ∧ ∀ x ∈ p, 0 ≤ x ∧ x < caps.length) ∧ paths.length ≤ 6 ∧ 0 < paths.length

/-! ### who goes over a link -/
theorem usersFrom_iff (link : Int) : ∀ (l : List (List Int)) (i : Nat) (f : Nat), ((i + f : Nat) : Int) ∈ usersFrom link i l ↔ f < l.length ∧ inB (l.getD f []) link = true := by
  intro l
  induction l with
  | nil => intro i f; simp [usersFrom]
  | cons p r ih =>
    intro i f
    cases f with
    | zero =>
      have hno : ((i : Nat) : Int) ∉ usersFrom link (i + 1) r := fun h => by
        have := usersFrom_mem link r (i + 1) _ h
        omega
      simp only [usersFrom, Nat.add_zero]
      split
      · rename_i hp; simp [hp]
      · rename_i hp; simp [hno, hp]
    | succ f =>
      have e : i + (f + 1) = (i + 1) + f := by omega
      rw [e]
      simp only [usersFrom]
      have := ih (i + 1) f
      split
      · rw [List.mem_cons, this]
        have hne : ¬ (((i + 1 + f : Nat) : Int) = (i : Int)) := by omega
        simp only [hne, false_or]
        simp
      · rw [this]; simp
theorem usN_iff {paths : List (List Int)} {l f : Nat} : f ∈ usN paths l ↔ f < paths.length ∧ inB (paths.getD f []) (l : Int) = true := by
  have := usersFrom_iff (l : Int) paths 0 f
  rw [Nat.zero_add] at this
  unfold usN users
  rw [← this, List.mem_map]
  constructor
  · rintro ⟨a, ha, rfl⟩
    have h2 := usersFrom_mem (l : Int) paths 0 a ha
    have : ((a.toNat : Nat) : Int) = a := by omega
    rw [this]; exact ha
  · intro h
    exact ⟨_, h, by simp⟩
theorem usN_lt {paths : List (List Int)} {l f : Nat} (h : f ∈ usN paths l) : f < paths.length := (usN_iff.1 h).1

/-! ### a link's share -/
theorem lev_lin (done : List Bool) (rate : List (Int × Int)) (s t : Rat) : ∀ us : List Nat, sumQ (lev done rate s) us = sumQ (lev done rate t) us + (s - t) * ((us.countP fun u => !dB done u : Nat) : Rat) := by
  intro us
  induction us with
  | nil => simp [sumQ]; grind
  | cons u us ih =>
    simp only [sumQ, List.countP_cons]
    rw [ih]
    unfold lev
    cases dB done u with
    | true => simp; grind
    | false =>
      simp only [Bool.not_false, if_true, Bool.false_eq_true, if_false]
      rw [Rat.natCast_add]
      grind
theorem linkSum_spec (rate : List (Int × Int)) (done : List Bool) (D : Int) : ∀ (us : List Int) (s : Int × Int) (k : Nat), Over D s → (∀ u ∈ us, dB done u.toNat = true → Over D (rP rate u.toNat)) →
    Over D (linkSum rate done us s k).1 ∧ (linkSum rate done us s k).2 = k + (us.map Int.toNat).countP (fun u => !dB done u) ∧ sumQ (lev done rate 0) (us.map Int.toNat) = val s - val (linkSum rate done us s k).1 := by
  intro us
  induction us with
  | nil => intro s k hs _; refine ⟨hs, by simp [linkSum], ?_⟩; simp only [linkSum, sumQ, List.map_nil]; grind
  | cons u us ih =>
    intro s k hs h
    simp only [linkSum, List.map_cons, sumQ, List.countP_cons]
    by_cases hd : dB done u.toNat = true
    · have hr := h u (by simp) hd
      have hn : Over D (negP (rP rate u.toNat)) := over_neg hr
      obtain ⟨h1, h2, h3⟩ := ih (sumP s (negP (rP rate u.toNat))) k (over_sum hs hn) (fun v hv => h v (by simp [hv]))
      rw [if_pos hd]
      refine ⟨h1, ?_, ?_⟩
      · rw [h2, hd]; simp
      · rw [h3, val_sum hs.1 hn.1]
        have : val (negP (rP rate u.toNat)) = - xQ rate u.toNat := val_neg _
        rw [this]
        simp only [lev, hd, if_true]
        grind
    · obtain ⟨h1, h2, h3⟩ := ih s (k + 1) hs (fun v hv => h v (by simp [hv]))
      rw [if_neg hd]
      have hd' : dB done u.toNat = false := by simpa using hd
      refine ⟨h1, ?_, ?_⟩
      · rw [h2, hd']; simp; omega
      · rw [h3]
        simp only [lev, hd', Bool.false_eq_true, if_false]
        grind
theorem share_some {caps : List Int} {paths : List (List Int)} {rate : List (Int × Int)} {done : List Bool} {D : Int} {l : Nat} {s : Int × Int} (hr : ∀ f, f < paths.length → dB done f = true → Over D (rP rate f)) (h : shareOf caps paths rate done l = some s) :
    sumQ (lev done rate (val s)) (usN paths l) = capQ caps l ∧ (∃ u ∈ usN paths l, dB done u = false) ∧ ∃ k : Nat, 1 ≤ k ∧ k ≤ paths.length ∧ Over (D * k) s := by
  have hsp := linkSum_spec rate done D (users paths l) (caps.getD l 0, 1) 0 (over_whole D _) (fun u hu hd => hr _ (by have := users_mem hu; omega) hd)
  unfold shareOf at h
  have e0 : (users paths l).map Int.toNat = usN paths l := rfl
  rw [e0] at hsp
  revert h hsp
  generalize linkSum rate done (users paths l) (caps.getD l 0, 1) 0 = z
  intro h hsp
  obtain ⟨h1, h2, h3⟩ := hsp
  split at h
  · cases h
  · rename_i hk
    obtain rfl := Option.some.inj h
    have hk1 : 1 ≤ z.2 := by omega
    have hle : z.2 ≤ paths.length := by
      rw [h2, Nat.zero_add]
      refine Nat.le_trans List.countP_le_length ?_
      have := users_length (l : Int) 0 paths
      unfold usN users
      rw [List.length_map]
      exact this
    refine ⟨?_, ?_, z.2, hk1, hle, over_part h1 (by omega)⟩
    · have hp := val_part (t := z.1.1) (b := z.1.2) (k := (z.2 : Int)) h1.1 (by omega)
      have hz : val (z.1.1, z.1.2) = val z.1 := rfl
      rw [hz] at hp
      rw [lev_lin done rate _ 0, h3, val_whole]
      have hc : ((usN paths l).countP fun u => !dB done u) = z.2 := by rw [h2, Nat.zero_add]
      rw [hc]
      have : ((z.2 : Nat) : Rat) = (((z.2 : Nat) : Int) : Rat) := by rw [Rat.intCast_natCast]
      rw [this]
      unfold partP capQ
      grind
    · apply Classical.byContradiction
      intro hn
      have : (usN paths l).countP (fun u => !dB done u) = 0 := by
        rw [List.countP_eq_zero]
        intro u hu hd
        exact hn ⟨u, hu, by simpa using hd⟩
      omega
theorem share_none {caps : List Int} {paths : List (List Int)} {rate : List (Int × Int)} {done : List Bool} {D : Int} {l : Nat} (hr : ∀ f, f < paths.length → dB done f = true → Over D (rP rate f)) (h : shareOf caps paths rate done l = none) :
    ∀ u ∈ usN paths l, dB done u = true := by
  have hsp := linkSum_spec rate done D (users paths l) (caps.getD l 0, 1) 0 (over_whole D _) (fun u hu hd => hr _ (by have := users_mem hu; omega) hd)
  unfold shareOf at h
  split at h
  · rename_i hk
    intro u hu
    have : (usN paths l).countP (fun u => !dB done u) = 0 := by
      have := hsp.2.1
      rw [hk] at this
      unfold usN
      omega
    rw [List.countP_eq_zero] at this
    simpa using this u hu
  · cases h
theorem best_some {sh : Nat → Option (Int × Int)} (hp : ∀ l s, sh l = some s → 1 ≤ s.2) : ∀ (n : Nat) (b : Int × Int), bestOf sh n = some b → (∃ l, l < n ∧ sh l = some b) ∧ ∀ l s, l < n → sh l = some s → val b ≤ val s := by
  intro n
  induction n with
  | zero => intro b h; simp [bestOf] at h
  | succ n ih =>
    intro b h
    unfold bestOf at h
    cases hs : sh n with
    | none =>
      rw [hs] at h
      obtain ⟨⟨l, hl, hb⟩, hm⟩ := ih b h
      refine ⟨⟨l, by omega, hb⟩, fun l s hl hs' => ?_⟩
      by_cases e : l = n
      · rw [e, hs] at hs'; cases hs'
      · exact hm l s (by omega) hs'
    | some s =>
      rw [hs] at h
      cases hb : bestOf sh n with
      | none =>
        rw [hb] at h
        obtain rfl := Option.some.inj h
        refine ⟨⟨n, by omega, hs⟩, fun l t hl ht => ?_⟩
        by_cases e : l = n
        · rw [e, hs] at ht; cases ht; exact Rat.le_refl
        · exfalso
          have hno : ∀ m, bestOf sh m = none → ∀ l, l < m → sh l = none := by
            intro m
            induction m with
            | zero => intro _ l hl; omega
            | succ m ihm =>
              intro hm l hl
              unfold bestOf at hm
              cases hsm : sh m with
              | none =>
                rw [hsm] at hm
                by_cases e : l = m
                · rw [e]; exact hsm
                · exact ihm hm l (by omega)
              | some x =>
                rw [hsm] at hm
                cases hbm : bestOf sh m with
                | none => rw [hbm] at hm; cases hm
                | some y => rw [hbm] at hm; simp only at hm; split at hm <;> cases hm
          have := hno n hb l (by omega)
          rw [this] at ht; cases ht
      | some b0 =>
        rw [hb] at h
        obtain ⟨⟨l0, hl0, hb0⟩, hm⟩ := ih b0 hb
        have p1 := hp n s hs
        have p2 := hp l0 b0 hb0
        simp only at h
        split at h
        · rename_i hlt
          obtain rfl := Option.some.inj h
          have hv : val s < val b0 := (cross_lt p1 p2).2 hlt
          refine ⟨⟨n, by omega, hs⟩, fun l t hl ht => ?_⟩
          by_cases e : l = n
          · rw [e, hs] at ht; cases ht; exact Rat.le_refl
          · have := hm l t (by omega) ht
            grind
        · rename_i hlt
          obtain rfl := Option.some.inj h
          have hv : ¬ val s < val b0 := fun h => hlt ((cross_lt p1 p2).1 h)
          refine ⟨⟨l0, by omega, hb0⟩, fun l t hl ht => ?_⟩
          by_cases e : l = n
          · rw [e, hs] at ht; cases ht; grind
          · exact hm l t (by omega) ht
theorem best_none {sh : Nat → Option (Int × Int)} : ∀ m, bestOf sh m = none → ∀ l, l < m → sh l = none := by
  intro m
  induction m with
  | zero => intro _ l hl; omega
  | succ m ihm =>
    intro hm l hl
    unfold bestOf at hm
    cases hsm : sh m with
    | none =>
      rw [hsm] at hm
      by_cases e : l = m
      · rw [e]; exact hsm
      · exact ihm hm l (by omega)
    | some x =>
      rw [hsm] at hm
      cases hbm : bestOf sh m with
      | none => rw [hbm] at hm; cases hm
      | some y => rw [hbm] at hm; simp only at hm; split at hm <;> cases hm
end Go.Proofs.Ytkpmjmgmgkdfnaj.Fl

/- All rise together: what holds behind each round, and in the end: it fits, and each has its narrow place. No Go in it. -/
namespace Go.Proofs.Ytkpmjmgmgkdfnaj.Fl
open Fr Ns Ld
set_option linter.unusedSimpArgs false

theorem rP_setRate {rate : List (Int × Int)} {rd : List Int} {b : Int × Int} {f : Nat} (h : f < rate.length) : rP (setRate rate rd b) f = if (f : Int) ∈ rd then b else rP rate f := by
  unfold setRate
  have e : rP ((List.range rate.length).map fun f : Nat => if rd.contains (f : Int) then b else rP rate f) f = if rd.contains (f : Int) then b else rP rate f := by
    conv => lhs; unfold rP
    simp only [List.getD, List.getElem?_map, List.getElem?_range h]
    rfl
  rw [e]
  by_cases hm : (f : Int) ∈ rd
  · rw [if_pos hm, if_pos (by simpa using hm)]
  · rw [if_neg hm, if_neg (by simpa using hm)]
theorem dB_setDone {done : List Bool} {rd : List Int} {f : Nat} (h : f < done.length) : dB (setDone done rd) f = (decide ((f : Int) ∈ rd) || dB done f) := by
  unfold setDone
  have e : dB ((List.range done.length).map fun f : Nat => rd.contains (f : Int) || dB done f) f = (rd.contains (f : Int) || dB done f) := by
    conv => lhs; unfold dB
    simp only [List.getD, List.getElem?_map, List.getElem?_range h]
    rfl
  rw [e]
  congr 1
  by_cases hm : (f : Int) ∈ rd
  · simp [hm]
  · simp [hm]
theorem mem_round {paths : List (List Int)} {done : List Bool} {nar : Nat → Bool} {f : Nat} : (f : Int) ∈ roundOf paths done nar ↔ f < paths.length ∧ dB done f = false ∧ ∃ x ∈ paths.getD f [], nar x.toNat = true := by
  unfold roundOf
  rw [List.mem_map]
  constructor
  · rintro ⟨a, ha, e⟩
    have e' : a = f := by omega
    subst e'
    rw [List.mem_filter, List.mem_range] at ha
    simp only [Bool.and_eq_true, Bool.not_eq_true', List.any_eq_true] at ha
    exact ⟨ha.1, ha.2.1, ha.2.2⟩
  · rintro ⟨h1, h2, h3⟩
    refine ⟨f, ?_, rfl⟩
    rw [List.mem_filter, List.mem_range]
    simp only [Bool.and_eq_true, Bool.not_eq_true', List.any_eq_true]
    exact ⟨h1, h2, h3⟩
theorem round_nat {paths : List (List Int)} {done : List Bool} {nar : Nat → Bool} {u : Int} (h : u ∈ roundOf paths done nar) : ∃ f : Nat, u = f ∧ f < paths.length := by
  unfold roundOf at h
  rw [List.mem_map] at h
  obtain ⟨a, ha, rfl⟩ := h
  exact ⟨a, rfl, by rw [List.mem_filter, List.mem_range] at ha; exact ha.1⟩
theorem le_sumQ {x : Nat → Rat} {f : Nat} : ∀ {l : List Nat}, (∀ g ∈ l, 0 ≤ x g) → f ∈ l → x f ≤ sumQ x l := by
  intro l
  induction l with
  | nil => intro _ h; simp at h
  | cons u us ih =>
    intro h hf
    have h1 := h u (by simp)
    have h0 : (0 : Rat) ≤ sumQ x us := by
      have := sumQ_le (x := fun _ => 0) (y := x) (l := us) (fun g hg => h g (by simp [hg]))
      have e : ∀ l : List Nat, sumQ (fun _ => 0) l = 0 := by
        intro l
        induction l with
        | nil => rfl
        | cons a r ih => simp only [sumQ, ih]; grind
      rw [e] at this
      exact this
    simp only [sumQ]
    rcases List.mem_cons.1 hf with rfl | hf
    · grind
    · have := ih (fun g hg => h g (by simp [hg])) hf
      grind

/-- what holds behind each round: b is the last rate, D what the bottoms divide -/
structure Inv (caps : List Int) (paths : List (List Int)) (rate : List (Int × Int)) (done : List Bool) (b : Rat) (D : Int) : Prop where
  lr : rate.length = paths.length
  ld : done.length = paths.length
  hD : 1 ≤ D
  hb : 0 ≤ b
  over : ∀ f, f < paths.length → dB done f = true → Over D (rP rate f) ∧ 0 < xQ rate f ∧ xQ rate f ≤ b
  room : ∀ l, l < caps.length → sumQ (lev done rate b) (usN paths l) ≤ capQ caps l
  strict : ∀ l, l < caps.length → (∃ u ∈ usN paths l, dB done u = false) → sumQ (lev done rate b) (usN paths l) < capQ caps l
  neck : ∀ f, f < paths.length → dB done f = true → ∃ l, l < caps.length ∧ f ∈ usN paths l ∧ (∀ g ∈ usN paths l, dB done g = true) ∧ sumQ (xQ rate) (usN paths l) = capQ caps l ∧ ∀ g ∈ usN paths l, xQ rate g ≤ xQ rate f

theorem capQ_bd {caps : List Int} {l : Nat} (hc : ∀ c ∈ caps, 1 ≤ c ∧ c ≤ 1000) (hl : l < caps.length) : 1 ≤ capQ caps l ∧ capQ caps l ≤ 1000 := by
  have := hc _ (getD_mem caps l hl 0)
  unfold capQ
  constructor
  · have h : ((1 : Int) : Rat) ≤ ((caps.getD l 0 : Int) : Rat) := Rat.intCast_le_intCast.2 this.1
    simpa using h
  · have h : ((caps.getD l 0 : Int) : Rat) ≤ ((1000 : Int) : Rat) := Rat.intCast_le_intCast.2 this.2
    exact h
theorem getD_replicate {α : Type} (n : Nat) (a d : α) (f : Nat) (h : f < n) : (List.replicate n a).getD f d = a := by
  simp [List.getD, List.getElem?_replicate, h]
theorem inv_start {caps : List Int} {paths : List (List Int)} (hg : Good caps paths) : Inv caps paths (List.replicate paths.length (0, 0)) (List.replicate paths.length false) 0 1 := by
  have hd : ∀ f, dB (List.replicate paths.length false) f = false := fun f => by
    unfold dB
    simp only [List.getD, List.getElem?_replicate]
    split <;> rfl
  have h0 : ∀ l, sumQ (lev (List.replicate paths.length false) (List.replicate paths.length (0, 0)) 0) l = 0 := by
    intro l
    induction l with
    | nil => rfl
    | cons u us ih => simp only [sumQ, ih, lev, hd, Bool.false_eq_true, if_false]; grind
  refine ⟨by simp, by simp, by decide, Rat.le_refl, fun f _ h => ?_, fun l hl => ?_, fun l hl _ => ?_, fun f _ h => ?_⟩
  · rw [hd] at h; cases h
  · rw [h0]; have := capQ_bd hg.1 hl; grind
  · rw [h0]; have := capQ_bd hg.1 hl; grind
  · rw [hd] at h; cases h

theorem toNat_lt {caps : List Int} {paths : List (List Int)} (hg : Good caps paths) {f : Nat} (hf : f < paths.length) {x : Int} (hx : x ∈ paths.getD f []) : x.toNat < caps.length ∧ f ∈ usN paths x.toNat := by
  have hp := hg.2.1 _ (getD_mem paths f hf [])
  have hb := hp.2 x hx
  refine ⟨by omega, usN_iff.2 ⟨hf, ?_⟩⟩
  have e : ((x.toNat : Nat) : Int) = x := by omega
  rw [e]
  exact inB_of_mem hx

/-- one round -/
theorem inv_step {caps : List Int} {paths : List (List Int)} {rate : List (Int × Int)} {done : List Bool} {b : Rat} {D : Int} (hg : Good caps paths) (hi : Inv caps paths rate done b D) (hf : ∃ f, f < paths.length ∧ dB done f = false) :
    ∃ bst, bestOf (shareOf caps paths rate done) caps.length = some bst ∧ b < val bst ∧ roundOf paths done (narOf (shareOf caps paths rate done) caps.length) ≠ [] ∧
      ∃ k : Nat, 1 ≤ k ∧ k ≤ 6 ∧ Inv caps paths (setRate rate (roundOf paths done (narOf (shareOf caps paths rate done) caps.length)) bst) (setDone done (roundOf paths done (narOf (shareOf caps paths rate done) caps.length))) (val bst) (D * k) := by
  obtain ⟨f0, hf0, hd0⟩ := hf
  have hr : ∀ f, f < paths.length → dB done f = true → Over D (rP rate f) := fun f h1 h2 => (hi.over f h1 h2).1
  have hp2 : ∀ l s, shareOf caps paths rate done l = some s → 1 ≤ s.2 := fun l s h => by
    obtain ⟨_, _, k, _, _, ho⟩ := share_some hr h
    exact ho.1
  generalize hsh : shareOf caps paths rate done = sh at *
  have hS : ∀ l s, sh l = some s → sumQ (lev done rate (val s)) (usN paths l) = capQ caps l ∧ (∃ u ∈ usN paths l, dB done u = false) ∧ ∃ k : Nat, 1 ≤ k ∧ k ≤ paths.length ∧ Over (D * k) s := fun l s h => share_some hr (by rw [hsh]; exact h)
  have hN : ∀ l, sh l = none → ∀ u ∈ usN paths l, dB done u = true := fun l h => share_none hr (by rw [hsh]; exact h)
  cases hbest : bestOf sh caps.length with
  | none =>
    exfalso
    have hp := hg.2.1 _ (getD_mem paths f0 hf0 [])
    obtain ⟨x, hx⟩ := List.exists_mem_of_ne_nil _ hp.1
    obtain ⟨h1, h2⟩ := toNat_lt hg hf0 hx
    have := hN _ (best_none _ hbest _ h1) _ h2
    rw [hd0] at this; cases this
  | some bst =>
    obtain ⟨⟨lb, hlb, hsb⟩, hmin⟩ := best_some hp2 _ _ hbest
    obtain ⟨s1, ⟨ub, hub, hdb⟩, k, hk1, hk2, hov⟩ := hS lb bst hsb
    have hnar : ∀ l, narOf sh caps.length l = true ↔ l < caps.length ∧ sh l = some bst := by
      intro l
      unfold narOf
      rw [hbest]
      simp only [Bool.and_eq_true, decide_eq_true_eq]
      constructor
      · rintro ⟨⟨h1, _⟩, h3⟩; exact ⟨h1, h3⟩
      · rintro ⟨h1, h3⟩; exact ⟨⟨h1, by rw [h3]; rfl⟩, h3⟩
    have hbv : b < val bst := by
      have hst := hi.strict lb hlb ⟨ub, hub, hdb⟩
      rw [← s1] at hst
      apply Classical.byContradiction
      intro hn
      have hle : val bst ≤ b := by grind
      have := sumQ_le (x := lev done rate (val bst)) (y := lev done rate b) (l := usN paths lb) (fun g _ => by
        unfold lev
        split
        · exact Rat.le_refl
        · exact hle)
      grind
    generalize hrd : roundOf paths done (narOf sh caps.length) = rd
    have hmem : ∀ f : Nat, (f : Int) ∈ rd ↔ f < paths.length ∧ dB done f = false ∧ ∃ x ∈ paths.getD f [], x.toNat < caps.length ∧ sh x.toNat = some bst := by
      intro f
      rw [← hrd, mem_round]
      simp only [hnar]
    have hmem' : ∀ (f l : Nat), l < caps.length → f ∈ usN paths l → dB done f = false → sh l = some bst → (f : Int) ∈ rd := by
      intro f l hl hf hd hs
      obtain ⟨h1, h2⟩ := usN_iff.1 hf
      refine (hmem f).2 ⟨h1, hd, (l : Int), ?_, by simpa using hl, by simpa using hs⟩
      simpa [inB] using h2
    have hrP : ∀ f, f < paths.length → rP (setRate rate rd bst) f = if (f : Int) ∈ rd then bst else rP rate f := fun f h => rP_setRate (by rw [hi.lr]; exact h)
    have hdB : ∀ f, f < paths.length → dB (setDone done rd) f = (decide ((f : Int) ∈ rd) || dB done f) := fun f h => dB_setDone (by rw [hi.ld]; exact h)
    have hx1 : ∀ f, f < paths.length → (f : Int) ∈ rd → xQ (setRate rate rd bst) f = val bst := fun f h h' => by unfold xQ; rw [hrP f h, if_pos h']
    have hx2 : ∀ f, f < paths.length → (f : Int) ∉ rd → xQ (setRate rate rd bst) f = xQ rate f := fun f h h' => by unfold xQ; rw [hrP f h, if_neg h']
    have hno : ∀ f : Nat, dB done f = true → (f : Int) ∉ rd := fun f h h' => by have := ((hmem f).1 h').2.1; rw [h] at this; cases this
    have hlev : ∀ f, f < paths.length → lev (setDone done rd) (setRate rate rd bst) (val bst) f = lev done rate (val bst) f := by
      intro f h
      unfold lev
      rw [hdB f h]
      by_cases h1 : (f : Int) ∈ rd
      · have h2 := ((hmem f).1 h1).2.1
        rw [h2]
        simp only [h1, decide_true, Bool.true_or, if_true, Bool.false_eq_true, if_false]
        exact hx1 f h h1
      · simp only [h1, decide_false, Bool.false_or]
        cases hd : dB done f with
        | true => simp only [if_true]; exact hx2 f h h1
        | false => simp only [Bool.false_eq_true, if_false]
    have hlevS : ∀ l, sumQ (lev (setDone done rd) (setRate rate rd bst) (val bst)) (usN paths l) = sumQ (lev done rate (val bst)) (usN paths l) := fun l => sumQ_congr fun g hg => hlev g (usN_lt hg)
    refine ⟨bst, rfl, hbv, ?_, k, hk1, Nat.le_trans hk2 hg.2.2.1, ?_⟩
    · intro he
      have := hmem' ub lb hlb hub hdb hsb
      rw [he] at this
      cases this
    · refine ⟨by simp [setRate, hi.lr], by simp [setDone, hi.ld], ?_, ?_, ?_, ?_, ?_, ?_⟩
      · have := Int.mul_le_mul hi.hD (show (1 : Int) ≤ (k : Int) by omega) (by decide) (by have := hi.hD; omega)
        omega
      · have := hi.hb; grind
      · intro f hf hd
        rw [hdB f hf] at hd
        by_cases h1 : (f : Int) ∈ rd
        · rw [hrP f hf, if_pos h1, hx1 f hf h1]
          refine ⟨hov, ?_, Rat.le_refl⟩
          have := hi.hb; grind
        · simp only [h1, decide_false, Bool.false_or] at hd
          obtain ⟨o1, o2, o3⟩ := hi.over f hf hd
          rw [hrP f hf, if_neg h1, hx2 f hf h1]
          exact ⟨o1.mono ⟨k, rfl⟩, o2, by grind⟩
      · intro l hl
        rw [hlevS]
        cases hs : sh l with
        | none =>
          have hall := hN l hs
          have e : sumQ (lev done rate (val bst)) (usN paths l) = sumQ (lev done rate b) (usN paths l) := sumQ_congr fun g hg => by unfold lev; rw [hall g hg]; rfl
          rw [e]; exact hi.room l hl
        | some s =>
          have h1 := hmin l s hl hs
          have h2 := (hS l s hs).1
          rw [← h2]
          exact sumQ_le fun g _ => by
            unfold lev
            split
            · exact Rat.le_refl
            · exact h1
      · rintro l hl ⟨u, hu, hd⟩
        have hun := usN_lt hu
        rw [hdB u hun] at hd
        simp only [Bool.or_eq_false_iff, decide_eq_false_iff_not] at hd
        obtain ⟨hd1, hd2⟩ := hd
        rw [hlevS]
        cases hs : sh l with
        | none => have := hN l hs u hu; rw [hd2] at this; cases this
        | some s =>
          obtain ⟨h2, _, k', hk', _, hov'⟩ := hS l s hs
          have h1 := hmin l s hl hs
          have hne : val bst ≠ val s := by
            intro e
            have : bst = s := val_inj hov.1 hov'.1 hov.2.1 hov'.2.1 e
            subst this
            exact hd1 (hmem' u l hl hu hd2 hs)
          have hlt : val bst < val s := Rat.lt_of_le_of_ne h1 hne
          rw [← h2]
          refine sumQ_lt (f := u) (fun g _ => ?_) hu ?_
          · unfold lev
            split
            · exact Rat.le_refl
            · exact h1
          · unfold lev
            rw [hd2]
            simp only [Bool.false_eq_true, if_false]
            exact hlt
      · intro f hf hd
        rw [hdB f hf] at hd
        by_cases h1 : (f : Int) ∈ rd
        · obtain ⟨_, hdf, x, hx, hxl, hxs⟩ := (hmem f).1 h1
          obtain ⟨_, hfu⟩ := toNat_lt hg hf hx
          have hall : ∀ g ∈ usN paths x.toNat, dB done g = true ∨ (g : Int) ∈ rd := fun g hgu => by
            cases hd : dB done g with
            | true => exact .inl rfl
            | false => exact .inr (hmem' g _ hxl hgu hd hxs)
          refine ⟨x.toNat, hxl, hfu, fun g hgu => ?_, ?_, fun g hgu => ?_⟩
          · rw [hdB g (usN_lt hgu)]
            rcases hall g hgu with h | h
            · rw [h]; simp
            · simp [h]
          · rw [← (hS _ _ hxs).1]
            refine sumQ_congr fun g hgu => ?_
            rcases hall g hgu with h | h
            · rw [hx2 g (usN_lt hgu) (hno g h)]; unfold lev; rw [h]; rfl
            · rw [hx1 g (usN_lt hgu) h]
              unfold lev
              rw [((hmem g).1 h).2.1]; rfl
          · rw [hx1 f hf h1]
            rcases hall g hgu with h | h
            · rw [hx2 g (usN_lt hgu) (hno g h)]
              have := (hi.over g (usN_lt hgu) h).2.2
              grind
            · rw [hx1 g (usN_lt hgu) h]; exact Rat.le_refl
        · simp only [h1, decide_false, Bool.false_or] at hd
          obtain ⟨l, hl, hfl, hall, hsum, hm⟩ := hi.neck f hf hd
          refine ⟨l, hl, hfl, fun g hgu => ?_, ?_, fun g hgu => ?_⟩
          · rw [hdB g (usN_lt hgu), hall g hgu]; simp
          · rw [← hsum]
            exact sumQ_congr fun g hgu => hx2 g (usN_lt hgu) (hno g (hall g hgu))
          · rw [hx2 f hf h1, hx2 g (usN_lt hgu) (hno g (hall g hgu))]
            exact hm g hgu
end Go.Proofs.Ytkpmjmgmgkdfnaj.Fl

/- All rise together: in the end it fits, each has its narrow place, each is in one round, later ones have more. No Go in it. -/
namespace Go.Proofs.Ytkpmjmgmgkdfnaj.Fl
open Fr Ns Ld
set_option linter.unusedSimpArgs false

/-- rates that fit, of which each flow has a narrow place; they are right, and above 0 -/
structure Fair (caps : List Int) (paths : List (List Int)) (x : List (Int × Int)) : Prop where
  len : x.length = paths.length
  right : ∀ f, f < paths.length → faultP (rP x f) = 0 ∧ 0 < xQ x f ∧ xQ x f ≤ 1000
  bottom : ∃ D : Int, 1 ≤ D ∧ D ≤ 46656 ∧ ∀ f, f < paths.length → Over D (rP x f)
  fits : FitsQ (usN paths) (capQ caps) caps.length paths.length (xQ x)
  neck : ∀ f, f < paths.length → NeckQ (usN paths) (capQ caps) caps.length (xQ x) f
/-- rounds at rates that rise -/
def Rises (x : Nat → Rat) : Rat → List (List Int) → Prop
  | _, [] => True
  | b, rd :: rest => rd ≠ [] ∧ ∃ v, b < v ∧ (∀ u ∈ rd, x u.toNat = v) ∧ Rises x v rest
def freeN (paths : List (List Int)) (done : List Bool) : Nat := (List.range paths.length).countP fun f => !dB done f

theorem six {a b : Nat} (h : a ≤ b) : (6 : Int) ^ a ≤ 6 ^ b := by
  have h1 : (6 : Nat) ^ a ≤ 6 ^ b := Nat.pow_le_pow_right (by decide) h
  have h2 : (((6 : Nat) ^ a : Nat) : Int) ≤ (((6 : Nat) ^ b : Nat) : Int) := Int.ofNat_le.2 h1
  simpa using h2
theorem inv_end {caps : List Int} {paths : List (List Int)} {rate : List (Int × Int)} {done : List Bool} {b : Rat} {D : Int} (hg : Good caps paths) (hi : Inv caps paths rate done b D) (hD : D ≤ 46656) (ha : ∀ f, f < paths.length → dB done f = true) : Fair caps paths rate := by
  have hle : ∀ f, f < paths.length → 0 < xQ rate f ∧ xQ rate f ≤ 1000 := by
    intro f hf
    have h1 := (hi.over f hf (ha f hf)).2.1
    obtain ⟨l, hl, hfl, _, hs, _⟩ := hi.neck f hf (ha f hf)
    have h2 := le_sumQ (x := xQ rate) (fun g hgl => by have := (hi.over g (usN_lt hgl) (ha g (usN_lt hgl))).2.1; grind) hfl
    have h3 := (capQ_bd hg.1 hl).2
    exact ⟨h1, by grind⟩
  refine ⟨hi.lr, fun f hf => ⟨?_, hle f hf⟩, ⟨D, hi.hD, hD, fun f hf => (hi.over f hf (ha f hf)).1⟩, ⟨fun f hf => Rat.le_of_lt (hle f hf).1, fun l hl => ?_⟩, fun f hf => ?_⟩
  · exact over_fault (hi.over f hf (ha f hf)).1 hi.hD (by omega) (Rat.le_of_lt (hle f hf).1) (hle f hf).2
  · rw [← sumQ_congr (x := lev done rate b) (y := xQ rate) (fun g hgl => by unfold lev; rw [ha g (usN_lt hgl)]; rfl)]
    exact hi.room l hl
  · obtain ⟨l, hl, hfl, _, hs, hm⟩ := hi.neck f hf (ha f hf)
    exact ⟨l, hl, hfl, hs, hm⟩

theorem all_done {done : List Bool} {n : Nat} (hl : done.length = n) : (done.all id = true) ↔ ∀ f, f < n → dB done f = true := by
  rw [List.all_eq_true]
  constructor
  · intro h f hf
    exact h _ (getD_mem done f (by omega) false)
  · intro h a ha
    obtain ⟨i, hi, rfl⟩ := List.mem_iff_getElem.1 ha
    have := h i (by omega)
    simpa [dB, List.getD, List.getElem?_eq_getElem hi] using this

theorem nodup_round {paths : List (List Int)} {done : List Bool} {nar : Nat → Bool} : (roundOf paths done nar).Nodup := by
  unfold roundOf
  have h1 : ((List.range paths.length).filter fun f => !dB done f && (paths.getD f []).any fun x => nar x.toNat).Nodup := List.Nodup.sublist List.filter_sublist List.nodup_range
  exact List.Pairwise.map (R := (· ≠ ·)) (S := (· ≠ ·)) _ (fun a b h e => h (by omega)) h1

theorem fill_spec {caps : List Int} {paths : List (List Int)} (hg : Good caps paths) : ∀ (fuel : Nat) (rate : List (Int × Int)) (done : List Bool) (b : Rat) (D : Int), Inv caps paths rate done b D → freeN paths done ≤ fuel → D * 6 ^ freeN paths done ≤ 46656 →
    Fair caps paths (fillFrom caps paths fuel rate done).1 ∧ (∀ f, f < paths.length → dB done f = true → rP (fillFrom caps paths fuel rate done).1 f = rP rate f) ∧
    Rises (xQ (fillFrom caps paths fuel rate done).1) b (fillFrom caps paths fuel rate done).2 ∧ (fillFrom caps paths fuel rate done).2.flatten.Nodup ∧
    (∀ u : Int, u ∈ (fillFrom caps paths fuel rate done).2.flatten ↔ ∃ f : Nat, u = f ∧ f < paths.length ∧ dB done f = false) := by
  intro fuel
  induction fuel with
  | zero =>
    intro rate done b D hi hf hD
    have h0 : freeN paths done = 0 := by omega
    have ha : ∀ f, f < paths.length → dB done f = true := by
      intro f hf
      unfold freeN at h0
      rw [List.countP_eq_zero] at h0
      simpa using h0 f (List.mem_range.2 hf)
    rw [h0] at hD
    simp only [fillFrom]
    refine ⟨inv_end hg hi (by omega) ha, fun _ _ _ => by first | rfl | trivial, trivial, by simp, fun u => ?_⟩
    simp only [List.flatten_nil, List.not_mem_nil, false_iff]
    rintro ⟨f, _, hf, hd⟩
    rw [ha f hf] at hd; cases hd
  | succ k ih =>
    intro rate done b D hi hf hD
    by_cases hall : done.all id = true
    · have ha := (all_done hi.ld).1 hall
      have h0 : freeN paths done = 0 := by
        unfold freeN
        rw [List.countP_eq_zero]
        intro f hf
        rw [ha f (List.mem_range.1 hf)]; decide
      rw [h0] at hD
      simp only [fillFrom]
      rw [if_pos hall]
      refine ⟨inv_end hg hi (by omega) ha, fun _ _ _ => by first | rfl | trivial, trivial, by simp, fun u => ?_⟩
      simp only [List.flatten_nil, List.not_mem_nil, false_iff]
      rintro ⟨f, _, hf, hd⟩
      rw [ha f hf] at hd; cases hd
    · have hex : ∃ f, f < paths.length ∧ dB done f = false := by
        apply Classical.byContradiction
        intro hn
        exact hall ((all_done hi.ld).2 fun f hf => by
          cases hd : dB done f with
          | true => rfl
          | false => exact absurd ⟨f, hf, hd⟩ hn)
      obtain ⟨bst, hbest, hbv, hne, kk, hk1, hk6, hi'⟩ := inv_step hg hi hex
      have hround : ∀ f : Nat, (f : Int) ∈ roundOf paths done (narOf (shareOf caps paths rate done) caps.length) → f < paths.length ∧ dB done f = false := fun f h => ⟨(mem_round.1 h).1, (mem_round.1 h).2.1⟩
      have hnat : ∀ u ∈ roundOf paths done (narOf (shareOf caps paths rate done) caps.length), ∃ f : Nat, u = f ∧ f < paths.length := fun u h => round_nat h
      have hnd : (roundOf paths done (narOf (shareOf caps paths rate done) caps.length)).Nodup := nodup_round
      simp only [fillFrom]
      rw [if_neg hall, hbest]
      simp only
      generalize roundOf paths done (narOf (shareOf caps paths rate done) caps.length) = rd at *
      have hdB : ∀ f, f < paths.length → dB (setDone done rd) f = (decide ((f : Int) ∈ rd) || dB done f) := fun f h => dB_setDone (by rw [hi.ld]; exact h)
      obtain ⟨u0, hu0⟩ := List.exists_mem_of_ne_nil _ hne
      obtain ⟨f1, rfl, hf1⟩ := hnat u0 hu0
      have hlt : freeN paths (setDone done rd) < freeN paths done := by
        refine countP_lt (f := f1) (fun g hg' hp => ?_) (List.mem_range.2 hf1) ?_ ?_
        · rw [hdB g (List.mem_range.1 hg')] at hp
          simp only [Bool.not_or, Bool.and_eq_true] at hp
          exact hp.2
        · rw [hdB f1 hf1]; simp [hu0]
        · rw [(hround f1 hu0).2]; rfl
      have hpow : D * (kk : Int) * 6 ^ freeN paths (setDone done rd) ≤ 46656 := by
        have e1 : (6 : Int) ^ (freeN paths (setDone done rd) + 1) ≤ 6 ^ freeN paths done := by
          exact six (by omega)
        have p0 : (0 : Int) ≤ 6 ^ freeN paths (setDone done rd) := Int.le_of_lt (Int.pow_pos (by decide))
        have e2 : (kk : Int) * 6 ^ freeN paths (setDone done rd) ≤ 6 ^ freeN paths done := by
          have h6 : (kk : Int) * 6 ^ freeN paths (setDone done rd) ≤ 6 * 6 ^ freeN paths (setDone done rd) := Int.mul_le_mul_of_nonneg_right (by omega) p0
          rw [Int.pow_succ] at e1
          omega
        have e3 : D * ((kk : Int) * 6 ^ freeN paths (setDone done rd)) ≤ D * 6 ^ freeN paths done := Int.mul_le_mul_of_nonneg_left e2 (by have := hi.hD; omega)
        rw [Int.mul_assoc]
        omega
      obtain ⟨i1, i2, i3, i4, i5⟩ := ih _ _ _ _ hi' (by omega) hpow
      generalize fillFrom caps paths k (setRate rate rd bst) (setDone done rd) = z at *
      refine ⟨i1, fun f hf hd => ?_, ⟨hne, val bst, hbv, fun u hu => ?_, i3⟩, ?_, fun u => ?_⟩
      · rw [i2 f hf (by rw [hdB f hf, hd]; simp), rP_setRate (by rw [hi.lr]; exact hf), if_neg]
        intro h
        have := (hround f h).2
        rw [hd] at this; cases this
      · obtain ⟨f, rfl, hf⟩ := hnat u hu
        have e : ((f : Int)).toNat = f := by omega
        rw [e]
        unfold xQ
        rw [i2 f hf (by rw [hdB f hf]; simp [hu]), rP_setRate (by rw [hi.lr]; exact hf), if_pos hu]
      · rw [List.flatten_cons, List.nodup_append]
        refine ⟨hnd, i4, fun a ha c hc e => ?_⟩
        subst e
        obtain ⟨f, rfl, hf, hd⟩ := (i5 a).1 hc
        rw [hdB f hf] at hd
        simp [ha] at hd
      · rw [List.flatten_cons, List.mem_append, i5 u]
        constructor
        · rintro (h | ⟨f, rfl, hf, hd⟩)
          · obtain ⟨f, rfl, hf⟩ := hnat u h
            exact ⟨f, rfl, hf, (hround f h).2⟩
          · rw [hdB f hf] at hd
            simp only [Bool.or_eq_false_iff] at hd
            exact ⟨f, rfl, hf, hd.2⟩
        · rintro ⟨f, rfl, hf, hd⟩
          by_cases h : (f : Int) ∈ rd
          · exact .inl h
          · exact .inr ⟨f, rfl, hf, by rw [hdB f hf]; simp [h, hd]⟩

/-- rates that rise together are fair, and their rounds are as the document says -/
theorem fill_fair {caps : List Int} {paths : List (List Int)} (hg : Good caps paths) :
    Fair caps paths (fill caps paths).1 ∧ Rises (xQ (fill caps paths).1) 0 (fill caps paths).2 ∧ (fill caps paths).2.flatten.Nodup ∧ (∀ u : Int, u ∈ (fill caps paths).2.flatten ↔ ∃ f : Nat, u = f ∧ f < paths.length) := by
  have hd : ∀ f, dB (List.replicate paths.length false) f = false := fun f => by
    unfold dB
    simp only [List.getD, List.getElem?_replicate]
    split <;> rfl
  have hfn : freeN paths (List.replicate paths.length false) ≤ paths.length := by
    unfold freeN
    exact Nat.le_trans List.countP_le_length (by simp)
  have hpow : (1 : Int) * 6 ^ freeN paths (List.replicate paths.length false) ≤ 46656 := by
    rw [Int.one_mul]
    have h1 : (6 : Int) ^ freeN paths (List.replicate paths.length false) ≤ 6 ^ 6 := six (Nat.le_trans hfn hg.2.2.1)
    have h2 : (6 : Int) ^ 6 = 46656 := by decide
    omega
  obtain ⟨h1, _, h3, h4, h5⟩ := fill_spec hg paths.length _ _ 0 1 (inv_start hg) hfn hpow
  refine ⟨h1, h3, h4, fun u => ?_⟩
  rw [show (fill caps paths).2 = (fillFrom caps paths paths.length (List.replicate paths.length (0, 0)) (List.replicate paths.length false)).2 from rfl, h5 u]
  constructor
  · rintro ⟨f, e, hf, _⟩; exact ⟨f, e, hf⟩
  · rintro ⟨f, e, hf⟩; exact ⟨f, e, hf, hd f⟩
end Go.Proofs.Ytkpmjmgmgkdfnaj.Fl

/- What is asked of package fill's Rates, as the document says it. -/
namespace Go.Proofs.Ytkpmjmgmgkdfnaj
namespace Fl
open Go.RowKit Fr Ns Ld

def RatesSaid : Prop := ∀ (Q : Nat → Prop) (caps : List Int) (paths : List (List Int)) (v : Value) (w : World), NetAt Q w v caps paths →
  Calls Try.prog 10 #[v] w fun e w' => ∃ y, e = .returned (.tuple #[y, errV (netE caps paths)]) ∧
    FracsAt (fun b => w.heap.size ≤ b) w' y (okL (netE caps paths) (fill caps paths).1) ∧ Below w.heap.size w w'
end Fl
end Go.Proofs.Ytkpmjmgmgkdfnaj

/- More plain facts on loads: a flow of rate 0 more, what is left and what goes over together, rates of 0. No Go in it. -/
namespace Go.Proofs.Ytkpmjmgmgkdfnaj.Ld
open Fr Ns
set_option linter.unusedSimpArgs false

theorem users_snoc (paths : List (List Int)) (path : List Int) (link : Int) : users (paths ++ [path]) link = users paths link ++ (if inB path link then [(paths.length : Int)] else []) := by
  unfold users
  rw [usersFrom_snoc, Nat.zero_add]
theorem sum_zero {t : Int × Int} (h : faultP t = 0) : sumP t (0, 1) = t := by
  have := low_of_fault h
  unfold sumP
  simp only [Int.mul_one, Int.zero_mul, Int.add_zero]
  exact Prod.ext this.1 this.2
theorem getD_snoc_lt (r : List (Int × Int)) (z d : Int × Int) (k : Nat) (h : k < r.length) : (r ++ [z]).getD k d = r.getD k d := by
  simp [List.getD, List.getElem?_append_left h]
theorem addUp_more (r : List (Int × Int)) (z : Int × Int) : ∀ (us : List Int) (s : Int × Int), (∀ u ∈ us, u.toNat < r.length) → addUp (r ++ [z]) us s = addUp r us s := by
  intro us
  induction us with
  | nil => intro s _; rfl
  | cons u us ih =>
    intro s h
    simp only [addUp]
    rw [getD_snoc_lt r z _ _ (h u (by simp)), ih _ (fun x hx => h x (by simp [hx]))]
theorem loadOf_more {paths : List (List Int)} {r : List (Int × Int)} (hr : ratesE r = 0) (hl : r.length = paths.length) (path : List Int) (l : Nat) : loadOf (paths ++ [path]) (r ++ [(0, 1)]) l = loadOf paths r l := by
  have e : addUp (r ++ [(0, 1)]) (users paths l) (0, 1) = addUp r (users paths l) (0, 1) := addUp_more r _ _ _ (fun u hu => by have := users_mem hu; omega)
  unfold loadOf
  rw [users_snoc]
  split
  · rw [addUp_snoc, e]
    cases h : addUp r (users paths l) (0, 1) with
    | none => rfl
    | some t =>
      have ht := addUp_fault hr _ _ _ (by decide) h
      have hg : (r ++ [(0, 1)]).getD ((paths.length : Int).toNat) (0, 1) = (0, 1) := by
        rw [show ((paths.length : Int).toNat) = r.length by omega]
        simp [List.getD]
      simp only [Option.bind_some]
      rw [hg, sum_zero ht, if_pos (show mayP t = true from mayB_of_fault ht)]
  · rw [List.append_nil, e]
theorem load_more {caps : List Int} {paths : List (List Int)} {r : List (Int × Int)} {path : List Int} (h : loadE caps paths r = 0) (ha : Ns.addE caps paths path = 0) :
    loadE caps (paths ++ [path]) (r ++ [(0, 1)]) = 0 ∧ (∀ n, loadL (paths ++ [path]) (r ++ [(0, 1)]) n = loadL paths r n) ∧ fitsB caps (paths ++ [path]) (r ++ [(0, 1)]) = fitsB caps paths r := by
  obtain ⟨h1, h2, h3, h4⟩ := loadE_0 h
  have hm := netE_add ha
  have hL : ∀ n, loadL (paths ++ [path]) (r ++ [(0, 1)]) n = loadL paths r n := fun n => by
    unfold loadL
    simp only [loadOf_more h3 h2]
  refine ⟨loadE_mk hm.2.2.2 (by simp [h2]) ?_ ?_, hL, ?_⟩
  · rw [ratesE_iff] at h3 ⊢
    intro a hA
    rcases List.mem_append.1 hA with hA | hA
    · exact h3 a hA
    · simp at hA; subst hA; decide
  · unfold allOk at h4 ⊢
    simp only [loadOf_more h3 h2]
    exact h4
  · unfold fitsB
    rw [hL]
    simp

/-- what goes over, and what is left, is all -/
theorem left_sum {c : Int} {x : Int × Int} (hx : faultP x = 0) : lowT (x.1 * (leftOf c x).2 + (leftOf c x).1 * x.2) (x.2 * (leftOf c x).2) = c ∧ lowB (x.1 * (leftOf c x).2 + (leftOf c x).1 * x.2) (x.2 * (leftOf c x).2) = 1 := by
  obtain ⟨b1, _, _, _⟩ := fault_0 hx
  have hb : 1 ≤ (1 : Int) * x.2 := by omega
  have hp := lowB_pos (t := c * x.2 + -x.1 * 1) hb
  have hrat := low_ratio (c * x.2 + -x.1 * 1) (1 * x.2)
  have e1 : (leftOf c x).1 = lowT (c * x.2 + -x.1 * 1) (1 * x.2) := rfl
  have e2 : (leftOf c x).2 = lowB (c * x.2 + -x.1 * 1) (1 * x.2) := rfl
  rw [← e1, ← e2] at hrat
  rw [← e2] at hp
  generalize (leftOf c x).1 = p at *
  generalize (leftOf c x).2 = q at *
  have hq : 1 ≤ x.2 * q := Int.mul_le_mul b1 hp (by decide) (by omega)
  have key : (x.1 * q + p * x.2) * 1 = c * (x.2 * q) := by
    have h' : p * x.2 = (c * x.2 + -x.1) * q := by simpa using hrat
    rw [Int.mul_one, h', Int.add_mul, Int.neg_mul, Int.mul_assoc]
    omega
  have := low_of_ratio hq (by decide : (1 : Int) ≤ 1) key
  have hc : gd c 1 = 1 := by unfold gd; simp
  have hs := low_self hc
  exact ⟨this.1.trans hs.1, this.2.trans hs.2⟩
theorem left_sign {c : Int} {x : Int × Int} (hx : faultP x = 0) (h : x.1 ≤ c * x.2) : 0 ≤ (leftOf c x).1 := by
  obtain ⟨b1, _, _, _⟩ := fault_0 hx
  show 0 ≤ lowT (c * x.2 + -x.1 * 1) (1 * x.2)
  unfold lowT
  have hb : 1 ≤ (1 : Int) * x.2 := by omega
  exact Int.ediv_nonneg (by omega) (by have := gd_pos (t := c * x.2 + -x.1 * 1) hb; omega)

theorem capsFrom_ge : ∀ {l : List Int} {x : Int}, capsFrom l = 0 → x ∈ l → 1 ≤ x := by
  intro l
  induction l with
  | nil => intro x _ h; simp at h
  | cons y r ih =>
    intro x h hm
    unfold capsFrom at h
    split at h
    · omega
    · rcases List.mem_cons.1 hm with rfl | hm
      · omega
      · exact ih h hm
theorem capsFrom_bounds : ∀ {l : List Int} {x : Int}, capsFrom l = 0 → x ∈ l → 1 ≤ x ∧ x ≤ 1000 := by
  intro l
  induction l with
  | nil => intro x _ h; simp at h
  | cons y r ih =>
    intro x h hm
    unfold capsFrom at h
    split at h
    · omega
    · rcases List.mem_cons.1 hm with rfl | hm
      · omega
      · exact ih h hm
theorem addUp_zeros (n : Nat) : ∀ us : List Int, addUp (List.replicate n (0, 1)) us (0, 1) = some (0, 1) := by
  intro us
  induction us with
  | nil => rfl
  | cons u us ih =>
    have hg : (List.replicate n ((0 : Int), (1 : Int))).getD u.toNat (0, 1) = (0, 1) := by
      simp only [List.getD, List.getElem?_replicate]
      split <;> rfl
    have hs : sumP (0, 1) (0, 1) = (0, 1) := sum_zero (by decide)
    simp only [addUp]
    rw [hg, hs, if_pos (by decide)]
    exact ih
theorem zeros {caps : List Int} {paths : List (List Int)} :
    loadE caps paths (List.replicate paths.length (0, 1)) = netE caps paths ∧ (∀ n, loadL paths (List.replicate paths.length (0, 1)) n = List.replicate n (0, 1)) ∧ (netE caps paths = 0 → fitsB caps paths (List.replicate paths.length (0, 1)) = true) := by
  have hO : ∀ l, loadOf paths (List.replicate paths.length (0, 1)) l = some (0, 1) := fun l => addUp_zeros _ _
  have hL : ∀ n, loadL paths (List.replicate paths.length (0, 1)) n = List.replicate n (0, 1) := fun n => by
    unfold loadL
    apply List.ext_getElem
    · simp
    · intro i h1 h2
      simp [hO]
  refine ⟨?_, hL, fun h => ?_⟩
  · by_cases h : netE caps paths = 0
    · rw [h]
      refine loadE_mk h (by simp) ((ratesE_iff _).2 (fun a ha => ?_)) ?_
      · rw [List.eq_of_mem_replicate ha]; decide
      · unfold allOk
        simp [hO]
    · rw [loadE, if_neg h]
  · unfold fitsB
    rw [hL]
    simp only [Bool.and_eq_true, List.all_eq_true, List.mem_range, decide_eq_true_eq]
    refine ⟨fun a ha => by rw [List.eq_of_mem_replicate ha]; decide, fun l hl => ?_⟩
    have hg : (List.replicate caps.length ((0 : Int), (1 : Int))).getD l (0, 1) = (0, 1) := by
      simp only [List.getD, List.getElem?_replicate]
      split <;> rfl
    rw [hg]
    have hb := (netE_0 h).2.2.2.2.1
    have hc : 1 ≤ caps.getD l 0 := capsFrom_ge (by
      have := netE_0 h
      rw [linksE, if_neg (by omega), if_neg (by omega)] at hb
      exact hb) (getD_mem caps l hl 0)
    simp only [Int.mul_one]
    omega
end Go.Proofs.Ytkpmjmgmgkdfnaj.Ld

/- Loads, narrow places and fairness as the document says them, and as rational numbers: they are the same. No Go in it. -/
namespace Go.Proofs.Ytkpmjmgmgkdfnaj.Fl
open Fr Ns Ld
set_option linter.unusedSimpArgs false

theorem pathFrom_bd' (L : Int) : ∀ (l seen : List Int), pathFrom L seen l = 0 → ∀ x ∈ l, 0 ≤ x ∧ x < L := by
  intro l
  induction l with
  | nil => intro _ _ x h; simp at h
  | cons y r ih =>
    intro seen h x hx
    unfold pathFrom at h
    split at h
    · omega
    · split at h
      · omega
      · rcases List.mem_cons.1 hx with rfl | hx
        · omega
        · exact ih _ h x hx
theorem good_of_net {caps : List Int} {paths : List (List Int)} (h : netE caps paths = 0) : Good caps paths := by
  have h0 := netE_0 h
  have hl := h0.2.2.2.2.1
  rw [linksE, if_neg (by omega), if_neg (by omega)] at hl
  refine ⟨fun c hc => capsFrom_bounds hl hc, fun p hp => ?_, h0.2.2.2.1, h0.2.2.1⟩
  have hpe := (pathsFrom_iff _ _).1 h0.2.2.2.2.2 p hp
  unfold pathE at hpe
  split at hpe
  · omega
  · rename_i hn
    exact ⟨fun e => hn (by rw [e]; rfl), fun x hx => pathFrom_bd' _ _ _ hpe x hx⟩

theorem rP_eq {r : List (Int × Int)} {u : Nat} (h : u < r.length) (d : Int × Int) : r.getD u d = rP r u := by
  simp [rP, List.getD, List.getElem?_eq_getElem h]
theorem addUp_val {r : List (Int × Int)} (hr : ∀ a ∈ r, 1 ≤ a.2) : ∀ (us : List Int) (s t : Int × Int), 1 ≤ s.2 → (∀ u ∈ us, u.toNat < r.length) → addUp r us s = some t → val t = val s + sumQ (xQ r) (us.map Int.toNat) := by
  intro us
  induction us with
  | nil => intro s t _ _ h; simp only [addUp, Option.some.injEq] at h; rw [h]; simp only [List.map_nil, sumQ]; grind
  | cons u us ih =>
    intro s t hs hu h
    simp only [addUp] at h
    have hul := hu u (by simp)
    have hra : 1 ≤ (rP r u.toNat).2 := by rw [← rP_eq hul (0, 0)]; exact hr _ (getD_mem r _ hul _)
    rw [rP_eq hul] at h
    split at h
    · have hp : 1 ≤ s.2 * (rP r u.toNat).2 := Int.mul_le_mul hs hra (by decide) (by omega)
      have := ih _ t (lowB_pos hp) (fun v hv => hu v (by simp [hv])) h
      rw [this, val_sum hs hra]
      simp only [List.map_cons, sumQ, xQ]
      grind
    · cases h
theorem users_lt {paths : List (List Int)} {l : Int} {u : Int} (h : u ∈ users paths l) : u.toNat < paths.length := by have := users_mem h; omega
theorem loadOf_val {paths : List (List Int)} {r : List (Int × Int)} {l : Nat} {s : Int × Int} (hl : r.length = paths.length) (hr : ratesE r = 0) (h : loadOf paths r l = some s) : val s = sumQ (xQ r) (usN paths l) := by
  have := addUp_val (fun a ha => fault_pos ((ratesE_iff r).1 hr a ha)) _ (0, 1) s (by decide) (fun u hu => by rw [hl]; exact users_lt hu) h
  rw [this, val_whole]
  have : (((0 : Int) : Int) : Rat) = 0 := rfl
  rw [this]
  unfold usN
  grind
/-- the load of a link, and its number -/
theorem load_at {caps : List Int} {paths : List (List Int)} {r : List (Int × Int)} (h : loadE caps paths r = 0) {l : Nat} (hl : l < caps.length) (d : Int × Int) : faultP ((loadL paths r caps.length).getD l d) = 0 ∧ val ((loadL paths r caps.length).getD l d) = sumQ (xQ r) (usN paths l) := by
  obtain ⟨h1, h2, h3, h4⟩ := loadE_0 h
  obtain ⟨s, hs⟩ := allOk_at h4 hl
  rw [loadL_getD _ _ _ _ hl, hs]
  exact ⟨loadOf_fault h3 hs, loadOf_val h2 h3 hs⟩
theorem val_nonneg {a : Int × Int} (ha : 1 ≤ a.2) : 0 ≤ val a ↔ 0 ≤ a.1 := by
  have e : (0 : Rat) = val (0, 1) := by rw [val_whole]; rfl
  rw [e, cross (a := (0, 1)) (by decide) ha]
  simp
theorem fits_iff {caps : List Int} {paths : List (List Int)} {r : List (Int × Int)} (h : loadE caps paths r = 0) : fitsB caps paths r = true ↔ FitsQ (usN paths) (capQ caps) caps.length paths.length (xQ r) := by
  obtain ⟨h1, h2, h3, h4⟩ := loadE_0 h
  have hp : ∀ f, f < paths.length → 1 ≤ (rP r f).2 := fun f hf => fault_pos ((ratesE_iff r).1 h3 _ (getD_mem r f (by omega) (0, 0)))
  unfold fitsB
  simp only [Bool.and_eq_true, List.all_eq_true, List.mem_range, decide_eq_true_eq]
  have key : ∀ l, l < caps.length → (((loadL paths r caps.length).getD l (0, 1)).1 ≤ caps.getD l 0 * ((loadL paths r caps.length).getD l (0, 1)).2 ↔ sumQ (xQ r) (usN paths l) ≤ capQ caps l) := by
    intro l hl
    obtain ⟨f1, f2⟩ := load_at h hl (0, 1)
    rw [← f2]
    have e : capQ caps l = val (caps.getD l 0, 1) := by rw [val_whole]; rfl
    rw [e, cross (b := (caps.getD l 0, 1)) (fault_pos f1) (Int.le_refl 1)]
    simp
  constructor
  · rintro ⟨ha, hb⟩
    refine ⟨fun f hf => (val_nonneg (hp f hf)).2 (ha _ (getD_mem r f (by omega) (0, 0))), fun l hl => (key l hl).1 (hb l hl)⟩
  · rintro ⟨ha, hb⟩
    refine ⟨fun a hm => ?_, fun l hl => (key l hl).2 (hb l hl)⟩
    obtain ⟨i, hi, rfl⟩ := List.mem_iff_getElem.1 hm
    have := (val_nonneg (hp i (by omega))).1 (ha i (by omega))
    simpa [rP, List.getD, List.getElem?_eq_getElem hi] using this

/-! ### narrow places -/
def fullB (caps : List Int) (paths : List (List Int)) (r : List (Int × Int)) (l : Nat) : Bool := decide (l < caps.length) && decide ((loadL paths r caps.length).getD l (0, 1) = (caps.getD l 0, 1))
def mostB (paths : List (List Int)) (r : List (Int × Int)) (f : Nat) (x : Int) : Bool := (users paths x).all fun u => decide (cmpI ((rP r u.toNat).1 * (rP r f).2) ((rP r f).1 * (rP r u.toNat).2) ≤ 0)
def neckOf (caps : List Int) (paths : List (List Int)) (r : List (Int × Int)) (f : Nat) : Int := ((paths.getD f []).find? fun x => fullB caps paths r x.toNat && mostB paths r f x).getD (-1)
def fairB (caps : List Int) (paths : List (List Int)) (r : List (Int × Int)) : Bool := fitsB caps paths r && (List.range paths.length).all fun f => decide (neckOf caps paths r f ≠ -1)

theorem cmp_le {a b : Int × Int} (ha : 1 ≤ a.2) (hb : 1 ≤ b.2) : cmpI (a.1 * b.2) (b.1 * a.2) ≤ 0 ↔ val a ≤ val b := by
  rw [cross ha hb]; unfold cmpI
  split
  · constructor <;> intro <;> omega
  · split
    · constructor <;> intro <;> omega
    · constructor <;> intro <;> omega
theorem full_iff {caps : List Int} {paths : List (List Int)} {r : List (Int × Int)} (h : loadE caps paths r = 0) {l : Nat} (hl : l < caps.length) : fullB caps paths r l = true ↔ sumQ (xQ r) (usN paths l) = capQ caps l := by
  obtain ⟨f1, f2⟩ := load_at h hl (0, 1)
  have hg := (good_of_net (loadE_0 h).1).1 _ (getD_mem caps l hl 0)
  have e : capQ caps l = val (caps.getD l 0, 1) := by rw [val_whole]; rfl
  have fw : faultP (caps.getD l 0, 1) = 0 := fault_of (mayB_iff.2 (by omega)) (low_self (show gd (caps.getD l 0) 1 = 1 by unfold gd; simp)).1 (low_self (show gd (caps.getD l 0) 1 = 1 by unfold gd; simp)).2
  unfold fullB
  simp only [Bool.and_eq_true, decide_eq_true_eq, hl, true_and]
  constructor
  · intro he
    rw [← f2, he, e]
  · intro he
    exact val_inj' f1 fw (by rw [f2, he, e])
theorem most_iff {caps : List Int} {paths : List (List Int)} {r : List (Int × Int)} (h : loadE caps paths r = 0) {f : Nat} (hf : f < paths.length) {x : Int} (hx : 0 ≤ x) : mostB paths r f x = true ↔ ∀ g ∈ usN paths x.toNat, xQ r g ≤ xQ r f := by
  obtain ⟨h1, h2, h3, h4⟩ := loadE_0 h
  have hp : ∀ f, f < paths.length → 1 ≤ (rP r f).2 := fun f hf => fault_pos ((ratesE_iff r).1 h3 _ (getD_mem r f (by omega) (0, 0)))
  have e : ((x.toNat : Nat) : Int) = x := by omega
  unfold mostB usN
  rw [e, List.all_eq_true]
  simp only [decide_eq_true_eq, List.mem_map]
  constructor
  · rintro hm g ⟨u, hu, rfl⟩
    exact (cmp_le (hp _ (users_lt hu)) (hp f hf)).1 (hm u hu)
  · intro hm u hu
    exact (cmp_le (hp _ (users_lt hu)) (hp f hf)).2 (hm _ ⟨u, hu, rfl⟩)
theorem neck_iff {caps : List Int} {paths : List (List Int)} {r : List (Int × Int)} (h : loadE caps paths r = 0) {f : Nat} (hf : f < paths.length) : neckOf caps paths r f ≠ -1 ↔ NeckQ (usN paths) (capQ caps) caps.length (xQ r) f := by
  have hg := good_of_net (loadE_0 h).1
  have hpath := hg.2.1 _ (getD_mem paths f hf [])
  unfold neckOf
  cases hfi : (paths.getD f []).find? fun x => fullB caps paths r x.toNat && mostB paths r f x with
  | none =>
    simp only [Option.getD_none, ne_eq, not_true_eq_false, false_iff]
    rintro ⟨l, hl, hfl, hs, hm⟩
    obtain ⟨_, hin⟩ := usN_iff.1 hfl
    rw [List.find?_eq_none] at hfi
    have hmem : (l : Int) ∈ paths.getD f [] := by simpa [inB] using hin
    refine hfi (l : Int) hmem ?_
    have e : ((l : Int)).toNat = l := by omega
    rw [Bool.and_eq_true, e]
    exact ⟨(full_iff h hl).2 hs, (most_iff h hf (by omega)).2 (by rw [e]; exact hm)⟩
  | some x =>
    have hx := List.mem_of_find?_eq_some hfi
    have hpx := List.find?_some hfi
    have hb := hpath.2 x hx
    simp only [Option.getD_some]
    rw [Bool.and_eq_true] at hpx
    constructor
    · intro _
      obtain ⟨t1, t2⟩ := toNat_lt hg hf hx
      exact ⟨x.toNat, t1, t2, (full_iff h t1).1 hpx.1, (most_iff h hf hb.1).1 hpx.2⟩
    · intro _; omega
theorem fair_iff {caps : List Int} {paths : List (List Int)} {r : List (Int × Int)} (h : loadE caps paths r = 0) : fairB caps paths r = true ↔ FitsQ (usN paths) (capQ caps) caps.length paths.length (xQ r) ∧ ∀ f, f < paths.length → NeckQ (usN paths) (capQ caps) caps.length (xQ r) f := by
  unfold fairB
  rw [Bool.and_eq_true, fits_iff h, List.all_eq_true]
  simp only [List.mem_range, decide_eq_true_eq]
  constructor
  · rintro ⟨h1, h2⟩; exact ⟨h1, fun f hf => (neck_iff h hf).1 (h2 f hf)⟩
  · rintro ⟨h1, h2⟩; exact ⟨h1, fun f hf => (neck_iff h hf).2 (h2 f hf)⟩

/-! ### rates that are fair can be loaded -/
theorem addUp_some {r : List (Int × Int)} {D : Int} (hD1 : 1 ≤ D) (hD2 : D ≤ 46656) : ∀ (us : List Int) (s : Int × Int), Over D s → 0 ≤ val s → (∀ u ∈ us, u.toNat < r.length ∧ Over D (rP r u.toNat) ∧ 0 ≤ xQ r u.toNat) → val s + sumQ (xQ r) (us.map Int.toNat) ≤ 1000 → ∃ t, addUp r us s = some t := by
  intro us
  induction us with
  | nil => intro s _ _ _ _; exact ⟨s, rfl⟩
  | cons u us ih =>
    intro s hs h0 hu hle
    obtain ⟨u1, u2, u3⟩ := hu u (by simp)
    have hsum := over_sum hs u2
    have hv := val_sum hs.1 u2.1
    have hnn : (0 : Rat) ≤ sumQ (xQ r) (us.map Int.toNat) := by
      have := sumQ_le (x := fun _ => 0) (y := xQ r) (l := us.map Int.toNat) (fun g hg => by
        obtain ⟨v, hv, rfl⟩ := List.mem_map.1 hg
        exact (hu v (by simp [hv])).2.2)
      have e : ∀ l : List Nat, sumQ (fun _ => 0) l = 0 := by
        intro l
        induction l with
        | nil => rfl
        | cons a r ih => simp only [sumQ, ih]; grind
      rw [e] at this
      exact this
    simp only [List.map_cons, sumQ] at hle
    have hx : xQ r u.toNat = val (rP r u.toNat) := rfl
    have hf : faultP (sumP s (rP r u.toNat)) = 0 := over_fault hsum hD1 (by omega) (by grind) (by grind)
    simp only [addUp]
    rw [rP_eq u1, if_pos (show mayP (sumP s (rP r u.toNat)) = true from mayB_of_fault hf)]
    exact ih _ hsum (by grind) (fun v hv => hu v (by simp [hv])) (by grind)
theorem fair_load {caps : List Int} {paths : List (List Int)} {x : List (Int × Int)} (hn : netE caps paths = 0) (hx : Fair caps paths x) : loadE caps paths x = 0 := by
  have hg := good_of_net hn
  obtain ⟨D, hD1, hD2, hov⟩ := hx.bottom
  refine loadE_mk hn hx.len ((ratesE_iff x).2 fun a ha => ?_) ?_
  · obtain ⟨i, hi, rfl⟩ := List.mem_iff_getElem.1 ha
    have := (hx.right i (by have := hx.len; omega)).1
    simpa [rP, List.getD, List.getElem?_eq_getElem hi] using this
  · unfold allOk
    rw [List.all_eq_true]
    intro l hl
    have hl' := List.mem_range.1 hl
    have h0 : val (0, 1) = 0 := by rw [val_whole]; rfl
    obtain ⟨t, ht⟩ := addUp_some hD1 hD2 (users paths l) (0, 1) (over_whole D 0) (by rw [h0]; exact Rat.le_refl) (fun u hu => by
      have := users_lt hu
      exact ⟨by have := hx.len; omega, hov _ this, Rat.le_of_lt (hx.right _ this).2.1⟩) (by
      have h1 := hx.fits.2 l hl'
      have h2 := (capQ_bd hg.1 hl').2
      have e : (users paths (l : Int)).map Int.toNat = usN paths l := rfl
      rw [h0, e]
      grind)
    rw [loadOf, ht]; rfl
/-- only one is fair -/
theorem only_one {caps : List Int} {paths : List (List Int)} {r : List (Int × Int)} (h : loadE caps paths r = 0) : fairB caps paths r = true ↔ (fill caps paths).1 = r := by
  obtain ⟨h1, h2, h3, h4⟩ := loadE_0 h
  have hg := good_of_net h1
  have hx := (fill_fair hg).1
  generalize (fill caps paths).1 = x at hx
  constructor
  · intro hf
    obtain ⟨f1, f2⟩ := (fair_iff h).1 hf
    have := only (fun l _ g hg => usN_lt hg) f1 hx.fits f2 hx.neck
    apply List.ext_getElem
    · rw [hx.len, h2]
    · intro i i1 i2
      have hi : i < paths.length := by have := hx.len; omega
      have e := this i hi
      have fr : faultP (rP r i) = 0 := (ratesE_iff r).1 h3 _ (getD_mem r i (by omega) (0, 0))
      have := val_inj' (hx.right i hi).1 fr e.symm
      simpa [rP, List.getD, List.getElem?_eq_getElem i1, List.getElem?_eq_getElem i2] using this
  · rintro rfl
    exact (fair_iff h).2 ⟨hx.fits, hx.neck⟩
end Go.Proofs.Ytkpmjmgmgkdfnaj.Fl
