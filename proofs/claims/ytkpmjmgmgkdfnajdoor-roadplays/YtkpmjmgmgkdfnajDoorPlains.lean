/- Facts and contracts that the walks lean on, one text behind the other; no walk of Go in them. -/
import Derived.Test.YtkpmjmgmgkdfnajDoorChecked
import Derived.WalkKit
import Derived.WalkSpells
import Derived.WalkLawsBesides
import Derived.Deep.QuietTactic
import Derived.BigQuiet
import Derived.Deep.RegionHeld3
import Derived.OwnWalk
import Derived.Maps.AppendAt
import Derived.LaidEql
import Derived.Stop.Asserts
import Derived.RowKitTokens
import Derived.ArgAppend
import Derived.ProofKit
import Derived.OpenShut
import Derived.Lib.SmallJoins
import Derived.Deep.Matrix
import Derived.Deep.SlicePairs
/- Plain facts on nets: which number is in a list, what is wrong with links, a path, a net. No Go in it. -/
namespace Go.Proofs.YtkpmjmgmgkdfnajDoor.Ns

def inB (l : List Int) (n : Int) : Bool := l.contains n
theorem inB_nil (n : Int) : inB [] n = false := rfl
theorem inB_snoc (l : List Int) (x n : Int) : inB (l ++ [x]) n = (inB l n || x == n) := by
  rw [Bool.eq_iff_iff]
  simp [inB]
  constructor
  · rintro (h | h)
    · exact .inl h
    · exact .inr h.symm
  · rintro (h | h)
    · exact .inl h
    · exact .inr h.symm
theorem inB_of_mem {l : List Int} {n : Int} (h : n ∈ l) : inB l n = true := by simpa [inB] using h
theorem take_snoc {α : Type} (l : List α) (k : Nat) (h : k < l.length) (d : α) : l.take (k + 1) = l.take k ++ [l.getD k d] := by
  rw [List.take_succ_eq_append_getElem h]
  simp [List.getD, List.getElem?_eq_getElem h]
theorem drop_cons {α : Type} (l : List α) (k : Nat) (h : k < l.length) (d : α) : l.drop k = l.getD k d :: l.drop (k + 1) := by
  rw [List.drop_eq_getElem_cons h]
  simp [List.getD, List.getElem?_eq_getElem h]
theorem getD_mem {α : Type} (l : List α) (k : Nat) (h : k < l.length) (d : α) : l.getD k d ∈ l := by
  simp [List.getD, List.getElem?_eq_getElem h]

/-- what is wrong with links: 5 there is none, 4 too many, 1 one is out of bounds, 0 nothing -/
def capsFrom : List Int → Int
  | [] => 0
  | x :: r => if x < 1 ∨ 1000 < x then 1 else capsFrom r
def linksE (l : List Int) : Int := if l.length = 0 then 5 else if 6 < l.length then 4 else capsFrom l
/-- what is wrong with a path, behind the links that it went over -/
def pathFrom (links : Int) : List Int → List Int → Int
  | _, [] => 0
  | seen, x :: r => if x < 0 ∨ links ≤ x then 1 else if inB seen x then 7 else pathFrom links (seen ++ [x]) r
def pathE (links : Int) (p : List Int) : Int := if p.length = 0 then 5 else pathFrom links [] p
/-- what is wrong with some paths: the first fault -/
def pathsFrom (links : Int) : List (List Int) → Int
  | [] => 0
  | p :: r => if pathE links p = 0 then pathsFrom links r else pathE links p
def netE (caps : List Int) (paths : List (List Int)) : Int :=
  if caps.length = 0 ∨ paths.length = 0 then 5 else if 6 < caps.length ∨ 6 < paths.length then 4
  else if linksE caps = 0 then pathsFrom caps.length paths else linksE caps

theorem capsFrom_bd (l : List Int) : 0 ≤ capsFrom l ∧ capsFrom l ≤ 1 := by
  induction l with
  | nil => simp [capsFrom]
  | cons x r ih => unfold capsFrom; split <;> omega
theorem pathFrom_bd (links : Int) (s l : List Int) : 0 ≤ pathFrom links s l ∧ pathFrom links s l ≤ 7 := by
  induction l generalizing s with
  | nil => simp [pathFrom]
  | cons x r ih => unfold pathFrom; split; omega; split; omega; exact ih _

/-- who goes over a link: the flows' numbers, rising -/
def usersFrom (link : Int) : Nat → List (List Int) → List Int
  | _, [] => []
  | i, p :: r => if inB p link then (i : Int) :: usersFrom link (i + 1) r else usersFrom link (i + 1) r
def users (paths : List (List Int)) (link : Int) : List Int := usersFrom link 0 paths
theorem usersFrom_snoc (link : Int) (i : Nat) (l : List (List Int)) (p : List Int) :
    usersFrom link i (l ++ [p]) = usersFrom link i l ++ (if inB p link then [((i + l.length : Nat) : Int)] else []) := by
  induction l generalizing i with
  | nil => simp [usersFrom]
  | cons q r ih =>
    simp only [List.cons_append, usersFrom, ih]
    have : i + 1 + r.length = i + (q :: r).length := by simp; omega
    rw [this]
    split <;> simp
theorem users_length (link : Int) (i : Nat) (l : List (List Int)) : (usersFrom link i l).length ≤ l.length := by
  induction l generalizing i with
  | nil => simp [usersFrom]
  | cons q r ih => unfold usersFrom; have := ih (i + 1); split <;> simp <;> omega

end Go.Proofs.YtkpmjmgmgkdfnajDoor.Ns

/- Plain facts on fractions: two whole numbers, their greatest common divisor, lowest terms, the bounds. No Go in it. -/
namespace Go.Proofs.YtkpmjmgmgkdfnajDoor.Fr

/-- both numbers are within a fraction's bounds -/
def mayB (t b : Int) : Bool := decide (1 ≤ b ∧ b ≤ 100000000 ∧ -1000000000 ≤ t ∧ t ≤ 1000000000)
/-- the greatest common divisor -/
def gd (t b : Int) : Int := (Nat.gcd t.natAbs b.natAbs : Int)
def lowT (t b : Int) : Int := t / gd t b
def lowB (t b : Int) : Int := b / gd t b
/-- in lowest terms already -/
def isLow (t b : Int) : Bool := decide (t = lowT t b ∧ b = lowB t b)
/-- what is wrong with a fraction: 1 out of bounds, 3 not in lowest terms, 0 nothing -/
def fault (t b : Int) : Int := if mayB t b then (if isLow t b then 0 else 3) else 1
/-- of two: the first fault -/
def fault2 (t b u c : Int) : Int := if fault t b = 0 then fault u c else fault t b

theorem mayB_iff {t b : Int} : mayB t b = true ↔ (1 ≤ b ∧ b ≤ 100000000 ∧ -1000000000 ≤ t ∧ t ≤ 1000000000) := by simp [mayB]

theorem gd_neg (t b : Int) : gd (-t) b = gd t b := by simp [gd]
theorem gd_pos {t b : Int} (h : 1 ≤ b) : 1 ≤ gd t b := by
  unfold gd
  have : 0 < Nat.gcd t.natAbs b.natAbs := Nat.gcd_pos_of_pos_right _ (by omega)
  omega
theorem gd_dvd_left (t b : Int) : gd t b ∣ t := by
  unfold gd
  exact Int.ofNat_dvd_left.2 (Nat.gcd_dvd_left _ _)
theorem gd_dvd_right (t b : Int) : gd t b ∣ b := by
  unfold gd
  exact Int.ofNat_dvd_left.2 (Nat.gcd_dvd_right _ _)

theorem tdiv_gd (t b : Int) : t.tdiv (gd t b) = lowT t b := Int.tdiv_eq_ediv_of_dvd (gd_dvd_left t b)
theorem lowT_mul {t b : Int} : lowT t b * gd t b = t := by
  unfold lowT; exact Int.ediv_mul_cancel (gd_dvd_left t b)
theorem lowB_mul {t b : Int} : lowB t b * gd t b = b := by
  unfold lowB; exact Int.ediv_mul_cancel (gd_dvd_right t b)

/-- a product with a number from 0 on -/
theorem mul_bd {t c A C : Int} (h1 : -A ≤ t) (h2 : t ≤ A) (h3 : 0 ≤ c) (h4 : c ≤ C) : -(A * C) ≤ t * c ∧ t * c ≤ A * C := by
  have hA : 0 ≤ A := by omega
  have a1 : t * c ≤ A * c := Int.mul_le_mul_of_nonneg_right h2 h3
  have a2 : A * c ≤ A * C := Int.mul_le_mul_of_nonneg_left h4 hA
  have a3 : (-A) * c ≤ t * c := Int.mul_le_mul_of_nonneg_right h1 h3
  rw [Int.neg_mul] at a3
  omega
/-- a product with a number of either sign -/
theorem mul_bd' {t c A C : Int} (h1 : -A ≤ t) (h2 : t ≤ A) (h3 : -C ≤ c) (h4 : c ≤ C) : -(A * C) ≤ t * c ∧ t * c ≤ A * C := by
  by_cases h : 0 ≤ c
  · exact mul_bd h1 h2 h h4
  · have := mul_bd (t := t) (c := -c) (A := A) (C := C) h1 h2 (by omega) (by omega)
    rw [Int.mul_neg] at this
    omega

theorem fault_0 {t b : Int} (h : fault t b = 0) : 1 ≤ b ∧ b ≤ 100000000 ∧ -1000000000 ≤ t ∧ t ≤ 1000000000 := by
  unfold fault at h
  split at h
  · exact mayB_iff.1 ‹_›
  · omega
theorem fault2_0 {t b u c : Int} (h : fault2 t b u c = 0) : fault t b = 0 ∧ fault u c = 0 := by
  unfold fault2 at h
  split at h
  · exact ⟨‹_›, h⟩
  · contradiction
theorem fault_cases (t b : Int) : fault t b = 0 ∨ fault t b = 1 ∨ fault t b = 3 := by
  unfold fault
  split
  · split <;> simp
  · simp

theorem low_of_fault {t b : Int} (h : fault t b = 0) : lowT t b = t ∧ lowB t b = b := by
  unfold fault at h
  split at h
  · split at h
    · have := ‹isLow t b = true›
      simp only [isLow, decide_eq_true_eq] at this
      exact ⟨this.1.symm, this.2.symm⟩
    · omega
  · omega
theorem mayB_of_fault {t b : Int} (h : fault t b = 0) : mayB t b = true := by
  unfold fault at h
  split at h
  · assumption
  · omega
theorem fault_of {t b : Int} (hm : mayB t b = true) (h1 : lowT t b = t) (h2 : lowB t b = b) : fault t b = 0 := by
  unfold fault
  rw [hm, if_pos rfl, if_pos]
  simp only [isLow, decide_eq_true_eq]
  exact ⟨h1.symm, h2.symm⟩
theorem gd_zero {b : Int} (h : 1 ≤ b) : gd 0 b = b := by
  unfold gd
  simp
  omega
theorem low_zero {b : Int} (h : 1 ≤ b) : lowT 0 b = 0 ∧ lowB 0 b = 1 := by
  unfold lowT lowB
  rw [gd_zero h]
  exact ⟨Int.zero_ediv b, Int.ediv_self (by omega)⟩
theorem fault_01 : fault 0 1 = 0 := by decide

/-- which of two numbers is less -/
def cmpI (x y : Int) : Int := if x < y then -1 else if y < x then 1 else 0

end Go.Proofs.YtkpmjmgmgkdfnajDoor.Fr

/- Plain facts: lowest terms hang on the ratio alone; sums, parts and multiples of fractions in lowest terms. No Go in it. -/
namespace Go.Proofs.YtkpmjmgmgkdfnajDoor.Fr

theorem gd_comm (t b : Int) : gd t b = gd b t := by unfold gd; rw [Nat.gcd_comm]
theorem gd_one_iff {t b : Int} : gd t b = 1 ↔ Nat.Coprime t.natAbs b.natAbs := by
  unfold gd Nat.Coprime
  omega

theorem natAbs_div {t g : Int} (h : g ∣ t) : (t / g).natAbs = t.natAbs / g.natAbs := by
  obtain ⟨k, rfl⟩ := h
  by_cases hg : g = 0
  · subst hg; simp
  · rw [Int.mul_ediv_cancel_left k hg, Int.natAbs_mul, Nat.mul_div_cancel_left _ (Int.natAbs_pos.2 hg)]

/-- what is in lowest terms has no divisor in common -/
theorem low_coprime {t b : Int} (hb : 1 ≤ b) : gd (lowT t b) (lowB t b) = 1 := by
  rw [gd_one_iff]
  unfold lowT lowB
  rw [natAbs_div (gd_dvd_left t b), natAbs_div (gd_dvd_right t b)]
  have e : (gd t b).natAbs = Nat.gcd t.natAbs b.natAbs := by unfold gd; omega
  rw [e]
  exact Nat.coprime_div_gcd_div_gcd (Nat.gcd_pos_of_pos_right _ (by omega))
theorem lowB_pos {t b : Int} (hb : 1 ≤ b) : 1 ≤ lowB t b := by
  have h1 := gd_pos (t := t) hb
  have h2 := lowB_mul (t := t) (b := b)
  by_cases h : 1 ≤ lowB t b
  · exact h
  · exfalso
    have h3 : lowB t b ≤ 0 := by omega
    have h4 : lowB t b * gd t b ≤ 0 := Int.mul_nonpos_of_nonpos_of_nonneg h3 (by omega)
    omega
theorem low_ratio (t b : Int) : lowT t b * b = t * lowB t b := by
  have h1 := lowT_mul (t := t) (b := b)
  have h2 := lowB_mul (t := t) (b := b)
  calc lowT t b * b = lowT t b * (lowB t b * gd t b) := by rw [h2]
    _ = (lowT t b * gd t b) * lowB t b := by rw [Int.mul_assoc, Int.mul_comm (gd t b)]
    _ = t * lowB t b := by rw [h1]

theorem dvd_of_coprime {q p q' : Int} (h : gd p q = 1) (hd : q ∣ p * q') : q ∣ q' := by
  rw [gd_one_iff] at h
  have hd' : q.natAbs ∣ p.natAbs * q'.natAbs := by rw [← Int.natAbs_mul]; exact Int.natAbs_dvd_natAbs.2 hd
  exact Int.natAbs_dvd_natAbs.1 (Nat.Coprime.dvd_of_dvd_mul_left h.symm hd')

/-- two pairs of one ratio, each with no divisor in common, are one pair -/
theorem ratio_uniq {p q p' q' : Int} (h : gd p q = 1) (h' : gd p' q' = 1) (hq : 1 ≤ q) (hq' : 1 ≤ q') (e : p * q' = p' * q) : p = p' ∧ q = q' := by
  have d1 : q ∣ q' := dvd_of_coprime h (by rw [e]; exact Int.dvd_mul_left _ _)
  have d2 : q' ∣ q := dvd_of_coprime h' (by rw [← e]; exact Int.dvd_mul_left _ _)
  have e1 : q = q' := by
    have a1 := Int.le_of_dvd (by omega) d1
    have a2 := Int.le_of_dvd (by omega) d2
    omega
  refine ⟨?_, e1⟩
  rw [e1] at e
  exact Int.eq_of_mul_eq_mul_right (by omega) e

theorem low_of_ratio {t b u c : Int} (hb : 1 ≤ b) (hc : 1 ≤ c) (e : t * c = u * b) : lowT t b = lowT u c ∧ lowB t b = lowB u c := by
  refine ratio_uniq (low_coprime hb) (low_coprime hc) (lowB_pos hb) (lowB_pos hc) ?_
  have r1 := low_ratio t b
  have r2 := low_ratio u c
  have hbc : b * c ≠ 0 := Int.mul_ne_zero (by omega) (by omega)
  apply Int.eq_of_mul_eq_mul_right hbc
  calc lowT t b * lowB u c * (b * c) = (lowT t b * b) * (lowB u c * c) := by ac_rfl
    _ = (t * lowB t b) * (lowB u c * c) := by rw [r1]
    _ = (t * c) * (lowB t b * lowB u c) := by ac_rfl
    _ = (u * b) * (lowB t b * lowB u c) := by rw [e]
    _ = (u * lowB u c) * (lowB t b * b) := by ac_rfl
    _ = (lowT u c * c) * (lowB t b * b) := by rw [r2]
    _ = lowT u c * lowB t b * (b * c) := by ac_rfl

theorem low_self {p q : Int} (h : gd p q = 1) : lowT p q = p ∧ lowB p q = q := by
  unfold lowT lowB
  rw [h]
  exact ⟨Int.ediv_one _, Int.ediv_one _⟩
theorem fault_iff {t b : Int} : fault t b = 0 ↔ mayB t b = true ∧ gd t b = 1 := by
  constructor
  · intro h
    refine ⟨mayB_of_fault h, ?_⟩
    obtain ⟨l1, l2⟩ := low_of_fault h
    have := low_coprime (t := t) (b := b) (fault_0 h).1
    rw [l1, l2] at this
    exact this
  · rintro ⟨hm, hg⟩
    obtain ⟨l1, l2⟩ := low_self hg
    exact fault_of hm l1 l2
/-- what was brought to lowest terms, and is within the bounds, is a fraction -/
theorem fault_low {t b : Int} (hb : 1 ≤ b) (hm : mayB (lowT t b) (lowB t b) = true) : fault (lowT t b) (lowB t b) = 0 :=
  fault_iff.2 ⟨hm, low_coprime hb⟩

end Go.Proofs.YtkpmjmgmgkdfnajDoor.Fr

/- Plain facts on loads: rates that are right, what goes over a link, what is left, whether it fits. No Go in it. -/
namespace Go.Proofs.YtkpmjmgmgkdfnajDoor.Ld
open Fr Ns
set_option linter.unusedSimpArgs false

def faultP (a : Int × Int) : Int := fault a.1 a.2
/-- the sum of two in lowest terms -/
def sumP (a b : Int × Int) : Int × Int := (lowT (a.1 * b.2 + b.1 * a.2) (a.2 * b.2), lowB (a.1 * b.2 + b.1 * a.2) (a.2 * b.2))
def mayP (a : Int × Int) : Bool := mayB a.1 a.2
/-- the first fault of some rates -/
def ratesE : List (Int × Int) → Int
  | [] => 0
  | a :: r => if faultP a = 0 then ratesE r else faultP a
/-- the rates of some flows added up, one by one: none, if that is too much -/
def addUp (r : List (Int × Int)) : List Int → Int × Int → Option (Int × Int)
  | [], s => some s
  | u :: us, s => if mayP (sumP s (r.getD u.toNat (0, 1))) then addUp r us (sumP s (r.getD u.toNat (0, 1))) else none
def loadOf (paths : List (List Int)) (r : List (Int × Int)) (l : Nat) : Option (Int × Int) := addUp r (users paths l) (0, 1)
/-- none is too much, of the first so many links -/
def allOk (paths : List (List Int)) (r : List (Int × Int)) (n : Nat) : Bool := (List.range n).all fun l => (loadOf paths r l).isSome
def loadL (paths : List (List Int)) (r : List (Int × Int)) (n : Nat) : List (Int × Int) := (List.range n).map fun l => (loadOf paths r l).getD (0, 1)
/-- what is wrong with a net and rates -/
def loadE (caps : List Int) (paths : List (List Int)) (r : List (Int × Int)) : Int :=
  if netE caps paths = 0 then if r.length = paths.length then if ratesE r = 0 then if allOk paths r caps.length then 0 else 4 else ratesE r else 3 else netE caps paths
/-- no rate is below 0, no link's load above what it takes -/
def fitsB (caps : List Int) (paths : List (List Int)) (r : List (Int × Int)) : Bool :=
  (r.all fun a => decide (0 ≤ a.1)) && (List.range caps.length).all fun l => decide (((loadL paths r caps.length).getD l (0, 1)).1 ≤ caps.getD l 0 * ((loadL paths r caps.length).getD l (0, 1)).2)
/-- what is left on a link -/
def leftOf (c : Int) (a : Int × Int) : Int × Int := sumP (c, 1) (-a.1, a.2)
def leftL (caps : List Int) (paths : List (List Int)) (r : List (Int × Int)) : List (Int × Int) := (List.range caps.length).map fun l => leftOf (caps.getD l 0) ((loadL paths r caps.length).getD l (0, 1))
def leftE (caps : List Int) (paths : List (List Int)) (r : List (Int × Int)) : Int :=
  if loadE caps paths r = 0 then if (leftL caps paths r).all mayP then 0 else 4 else loadE caps paths r

theorem ratesE_iff (r : List (Int × Int)) : ratesE r = 0 ↔ ∀ a ∈ r, faultP a = 0 := by
  induction r with
  | nil => simp [ratesE]
  | cons a r ih =>
    simp only [ratesE, List.mem_cons, forall_eq_or_imp]
    split
    · simp [ih, *]
    · simp [*]
theorem ratesE_cons (r : List (Int × Int)) (k : Nat) (h : k < r.length) : ratesE (r.drop k) = if faultP (r.getD k (0, 0)) = 0 then ratesE (r.drop (k + 1)) else faultP (r.getD k (0, 0)) := by
  rw [drop_cons r k h (0, 0)]; rfl
theorem loadL_length (paths : List (List Int)) (r : List (Int × Int)) (n : Nat) : (loadL paths r n).length = n := by simp [loadL]
theorem leftL_length (caps : List Int) (paths : List (List Int)) (r : List (Int × Int)) : (leftL caps paths r).length = caps.length := by simp [leftL]
theorem loadL_getD (paths : List (List Int)) (r : List (Int × Int)) (n l : Nat) (h : l < n) (d : Int × Int) : (loadL paths r n).getD l d = (loadOf paths r l).getD (0, 1) := by
  simp [loadL, List.getD, List.getElem?_map, List.getElem?_range h]
theorem loadL_snoc (paths : List (List Int)) (r : List (Int × Int)) (n : Nat) : loadL paths r (n + 1) = loadL paths r n ++ [(loadOf paths r n).getD (0, 1)] := by
  simp [loadL, List.range_succ]
theorem allOk_snoc (paths : List (List Int)) (r : List (Int × Int)) (n : Nat) : allOk paths r (n + 1) = (allOk paths r n && (loadOf paths r n).isSome) := by
  simp [allOk, List.range_succ]
theorem allOk_le {paths : List (List Int)} {r : List (Int × Int)} {n m : Nat} (h : allOk paths r n = true) (hm : m ≤ n) : allOk paths r m = true := by
  simp only [allOk, List.all_eq_true, List.mem_range] at h ⊢
  exact fun l hl => h l (by omega)
theorem allOk_at {paths : List (List Int)} {r : List (Int × Int)} {n l : Nat} (h : allOk paths r n = true) (hl : l < n) : ∃ s, loadOf paths r l = some s := by
  simp only [allOk, List.all_eq_true, List.mem_range] at h
  exact Option.isSome_iff_exists.1 (h l hl)

theorem loadE_0 {caps : List Int} {paths : List (List Int)} {r : List (Int × Int)} (h : loadE caps paths r = 0) : netE caps paths = 0 ∧ r.length = paths.length ∧ ratesE r = 0 ∧ allOk paths r caps.length = true := by
  unfold loadE at h
  split at h
  · split at h
    · split at h
      · split at h
        · exact ⟨by assumption, by assumption, by assumption, by assumption⟩
        · omega
      · contradiction
    · omega
  · contradiction
theorem loadE_mk {caps : List Int} {paths : List (List Int)} {r : List (Int × Int)} (h1 : netE caps paths = 0) (h2 : r.length = paths.length) (h3 : ratesE r = 0) (h4 : allOk paths r caps.length = true) : loadE caps paths r = 0 := by
  rw [loadE, if_pos h1, if_pos h2, if_pos h3, if_pos h4]

theorem fault_sumP {a b : Int × Int} (ha : faultP a = 0) (hb : faultP b = 0) (h : mayP (sumP a b) = true) : faultP (sumP a b) = 0 := by
  have h1 := fault_0 ha
  have h2 := fault_0 hb
  have hp : 1 ≤ a.2 * b.2 := Int.mul_le_mul h1.1 h2.1 (by decide) (by omega)
  exact fault_low hp h
/-- what is added up of right rates is right -/
theorem addUp_fault {r : List (Int × Int)} (hr : ratesE r = 0) : ∀ (us : List Int) (s t : Int × Int), faultP s = 0 → addUp r us s = some t → faultP t = 0 := by
  intro us
  induction us with
  | nil => intro s t hs h; simp only [addUp, Option.some.injEq] at h; exact h ▸ hs
  | cons u us ih =>
    intro s t hs h
    simp only [addUp] at h
    split at h
    · rename_i hm
      refine ih _ _ (fault_sumP hs ?_ hm) h
      by_cases hu : u.toNat < r.length
      · exact (ratesE_iff r).1 hr _ (getD_mem r _ hu _)
      · rw [List.getD_eq_getElem?_getD, List.getElem?_eq_none (by omega)]
        decide
    · cases h
theorem loadOf_fault {paths : List (List Int)} {r : List (Int × Int)} {l : Nat} {s : Int × Int} (hr : ratesE r = 0) (h : loadOf paths r l = some s) : faultP s = 0 := addUp_fault hr _ _ _ (by decide) h
theorem addUp_snoc (r : List (Int × Int)) : ∀ (us : List Int) (u : Int) (s : Int × Int), addUp r (us ++ [u]) s = (addUp r us s).bind fun t => if mayP (sumP t (r.getD u.toNat (0, 1))) then some (sumP t (r.getD u.toNat (0, 1))) else none := by
  intro us
  induction us with
  | nil => intro u s; simp [addUp]
  | cons x us ih =>
    intro u s
    simp only [List.cons_append, addUp]
    split
    · exact ih _ _
    · rfl
/-- the users' numbers are flows -/
theorem usersFrom_mem (link : Int) : ∀ (l : List (List Int)) (i : Nat) (u : Int), u ∈ usersFrom link i l → (i : Int) ≤ u ∧ u < i + l.length := by
  intro l
  induction l with
  | nil => intro i u h; simp [usersFrom] at h
  | cons p r ih =>
    intro i u h
    simp only [usersFrom] at h
    split at h
    · rcases List.mem_cons.1 h with rfl | h
      · simp; omega
      · have := ih (i + 1) u h
        simp; omega
    · have := ih (i + 1) u h
      simp; omega
theorem users_mem {paths : List (List Int)} {link u : Int} (h : u ∈ users paths link) : 0 ≤ u ∧ u < paths.length := by
  have := usersFrom_mem link paths 0 u h
  omega
end Go.Proofs.YtkpmjmgmgkdfnajDoor.Ld

/- Fractions as rational numbers: what a sum, a part and an order of two are. No Go in it. -/
namespace Go.Proofs.YtkpmjmgmgkdfnajDoor.Fl
open Fr Ns Ld
set_option linter.unusedSimpArgs false

/-- the number that a fraction is -/
def val (a : Int × Int) : Rat := (a.1 : Rat) / (a.2 : Rat)

theorem castPos {b : Int} (h : 1 ≤ b) : (0 : Rat) < (b : Rat) := by
  have : ((0 : Int) : Rat) < (b : Rat) := Rat.intCast_lt_intCast.2 (by omega)
  simpa using this
theorem castNe {b : Int} (h : 1 ≤ b) : (b : Rat) ≠ 0 := by
  have := castPos h
  intro e
  rw [e] at this
  exact absurd this (by decide)
theorem val_mul {a : Int × Int} (h : 1 ≤ a.2) : val a * (a.2 : Rat) = (a.1 : Rat) := by
  have := castNe h
  unfold val
  grind
theorem val_of_mul {a : Int × Int} {q : Rat} (h : 1 ≤ a.2) (e : q * (a.2 : Rat) = (a.1 : Rat)) : val a = q := by
  have := castNe h
  have := val_mul h
  grind
theorem val_low {t b : Int} (h : 1 ≤ b) : val (lowT t b, lowB t b) = val (t, b) := by
  have hb := lowB_pos (t := t) h
  apply val_of_mul (a := (lowT t b, lowB t b)) hb
  have hr := low_ratio t b
  have hr' : (lowT t b : Rat) * (b : Rat) = (t : Rat) * (lowB t b : Rat) := by
    rw [← Rat.intCast_mul, ← Rat.intCast_mul, hr]
  have hv := val_mul (a := (t, b)) h
  have hn := castNe h
  simp only at hv ⊢
  have : (val (t, b) * (lowB t b : Rat)) * (b : Rat) = (lowT t b : Rat) * (b : Rat) := by
    rw [hr', Rat.mul_assoc, Rat.mul_comm (lowB t b : Rat), ← Rat.mul_assoc, hv]
  grind
theorem val_sum {a b : Int × Int} (ha : 1 ≤ a.2) (hb : 1 ≤ b.2) : val (sumP a b) = val a + val b := by
  have hp : 1 ≤ a.2 * b.2 := Int.mul_le_mul ha hb (by decide) (by omega)
  unfold sumP
  rw [val_low hp]
  apply val_of_mul (a := (a.1 * b.2 + b.1 * a.2, a.2 * b.2)) hp
  have h1 := val_mul ha
  have h2 := val_mul hb
  simp only
  rw [Rat.intCast_mul, Rat.intCast_add, Rat.intCast_mul, Rat.intCast_mul, ← h1, ← h2]
  grind
theorem val_neg (a : Int × Int) : val (-a.1, a.2) = - val a := by
  unfold val
  simp only [Rat.intCast_neg]
  grind
theorem val_whole (c : Int) : val (c, 1) = (c : Rat) := by
  have := val_mul (a := (c, 1)) (show (1 : Int) ≤ 1 by decide)
  simp only [Rat.intCast_one, Rat.mul_one] at this
  exact this
theorem val_part {t b k : Int} (hb : 1 ≤ b) (hk : 1 ≤ k) : val (lowT t (b * k), lowB t (b * k)) * (k : Rat) = val (t, b) := by
  have hp : 1 ≤ b * k := Int.mul_le_mul hb hk (by decide) (by omega)
  rw [val_low hp]
  have h1 := val_mul (a := (t, b * k)) hp
  have h2 := val_mul (a := (t, b)) hb
  have hn := castNe hb
  simp only [Rat.intCast_mul] at h1 h2
  have : (val (t, b * k) * (k : Rat)) * (b : Rat) = val (t, b) * (b : Rat) := by
    rw [h2, ← h1]; grind
  grind
theorem cross {a b : Int × Int} (ha : 1 ≤ a.2) (hb : 1 ≤ b.2) : (val a ≤ val b ↔ a.1 * b.2 ≤ b.1 * a.2) := by
  have h1 := val_mul ha
  have h2 := val_mul hb
  have p1 := castPos ha
  have p2 := castPos hb
  have p3 : (0 : Rat) < (a.2 : Rat) * (b.2 : Rat) := Rat.mul_pos p1 p2
  have e1 : ((a.1 * b.2 : Int) : Rat) = val a * ((a.2 : Rat) * (b.2 : Rat)) := by rw [Rat.intCast_mul, ← h1]; grind
  have e2 : ((b.1 * a.2 : Int) : Rat) = val b * ((a.2 : Rat) * (b.2 : Rat)) := by rw [Rat.intCast_mul, ← h2]; grind
  rw [← Rat.intCast_le_intCast, e1, e2]
  exact ⟨fun h => Rat.mul_le_mul_of_nonneg_right h (Rat.le_of_lt p3), fun h => Rat.le_of_mul_le_mul_right h p3⟩
theorem cross_lt {a b : Int × Int} (ha : 1 ≤ a.2) (hb : 1 ≤ b.2) : (val a < val b ↔ a.1 * b.2 < b.1 * a.2) := by
  have := cross hb ha
  rw [← Rat.not_le, this]
  omega
theorem fault_pos {a : Int × Int} (h : faultP a = 0) : 1 ≤ a.2 := (fault_0 h).1
/-- in lowest terms the number tells the fraction -/
theorem val_inj {a b : Int × Int} (ha : 1 ≤ a.2) (hb : 1 ≤ b.2) (ga : gd a.1 a.2 = 1) (gb : gd b.1 b.2 = 1) (h : val a = val b) : a = b := by
  have h1 : a.1 * b.2 ≤ b.1 * a.2 := (cross ha hb).1 (by rw [h]; exact Rat.le_refl)
  have h2 : b.1 * a.2 ≤ a.1 * b.2 := (cross hb ha).1 (by rw [h]; exact Rat.le_refl)
  have := ratio_uniq ga gb ha hb (by omega)
  exact Prod.ext this.1 this.2
theorem val_inj' {a b : Int × Int} (ha : faultP a = 0) (hb : faultP b = 0) (h : val a = val b) : a = b := val_inj (fault_pos ha) (fault_pos hb) (fault_iff.1 ha).2 (fault_iff.1 hb).2 h

/-- a fraction in lowest terms whose bottom divides D -/
def Over (D : Int) (a : Int × Int) : Prop := 1 ≤ a.2 ∧ gd a.1 a.2 = 1 ∧ a.2 ∣ D
theorem over_of {D t b m : Int} (hb : 1 ≤ b) (e : t * D = m * b) : Over D (lowT t b, lowB t b) := by
  refine ⟨lowB_pos hb, low_coprime hb, ?_⟩
  have h : lowT t b * D = m * lowB t b := by
    have h1 := lowT_mul (t := t) (b := b)
    have h2 := lowB_mul (t := t) (b := b)
    have hg := gd_pos (t := t) hb
    rw [← h1] at e
    have e' : m * b = m * (lowB t b * gd t b) := by rw [h2]
    rw [e'] at e
    have : (lowT t b * D) * gd t b = (m * lowB t b) * gd t b := by
      rw [Int.mul_right_comm, e, Int.mul_assoc]
    exact Int.eq_of_mul_eq_mul_right (by omega) this
  exact dvd_of_coprime (low_coprime hb) ⟨m, by rw [h, Int.mul_comm]⟩
theorem over_sum {D : Int} {a b : Int × Int} (ha : Over D a) (hb : Over D b) : Over D (sumP a b) := by
  obtain ⟨a1, _, k, hk⟩ := ha
  obtain ⟨b1, _, m, hm⟩ := hb
  have hp : 1 ≤ a.2 * b.2 := Int.mul_le_mul a1 b1 (by decide) (by omega)
  refine over_of (m := a.1 * k + b.1 * m) hp ?_
  have e1 : a.1 * b.2 * D = a.1 * k * (a.2 * b.2) := by rw [hk]; grind
  have e2 : b.1 * a.2 * D = b.1 * m * (a.2 * b.2) := by rw [hm]; grind
  rw [Int.add_mul, Int.add_mul, e1, e2]
theorem over_neg {D : Int} {a : Int × Int} (ha : Over D a) : Over D (-a.1, a.2) := ⟨ha.1, by rw [gd_neg]; exact ha.2.1, ha.2.2⟩
theorem over_whole (D c : Int) : Over D (c, 1) := ⟨Int.le_refl 1, by unfold gd; simp, ⟨D, by simp⟩⟩
theorem over_part {D k : Int} {a : Int × Int} (ha : Over D a) (hk : 1 ≤ k) : Over (D * k) (lowT a.1 (a.2 * k), lowB a.1 (a.2 * k)) := by
  obtain ⟨a1, _, m, hm⟩ := ha
  have hp : 1 ≤ a.2 * k := Int.mul_le_mul a1 hk (by decide) (by omega)
  exact over_of (m := a.1 * m) hp (by rw [hm]; grind)
theorem Over.mono {D E : Int} {a : Int × Int} (h : Over D a) (hd : D ∣ E) : Over E a := ⟨h.1, h.2.1, Int.dvd_trans h.2.2 hd⟩
theorem over_fault {D : Int} {a : Int × Int} (h : Over D a) (h1 : 1 ≤ D) (h2 : D ≤ 1000000) (l : 0 ≤ val a) (u : val a ≤ 1000) : faultP a = 0 := by
  obtain ⟨a1, ag, hd⟩ := h
  have hb : a.2 ≤ D := Int.le_of_dvd (by omega) hd
  have e0 : val (0, 1) = 0 := by rw [val_whole]; rfl
  have e1 : val (1000, 1) = 1000 := by rw [val_whole]; rfl
  rw [← e0] at l
  rw [← e1] at u
  have l' := (cross (a := (0, 1)) (by decide) a1).1 l
  have u' := (cross (b := (1000, 1)) a1 (by decide)).1 u
  simp only at l' u'
  exact fault_iff.2 ⟨mayB_iff.2 (by omega), ag⟩
end Go.Proofs.YtkpmjmgmgkdfnajDoor.Fl

/- Shares: all of them together, their squares, the gap, and what some that go from one to another one make of these. No Go in it. -/
namespace Go.Proofs.YtkpmjmgmgkdfnajDoor.Ev
open Fr Ns Ld Fl
set_option linter.unusedSimpArgs false
set_option linter.unusedVariables false

def tot : List Int → Int
  | [] => 0
  | x :: r => x + tot r
def sqs : List Int → Int
  | [] => 0
  | x :: r => x * x + sqs r
theorem tot_append (l m : List Int) : tot (l ++ m) = tot l + tot m := by
  induction l with
  | nil => simp [tot]
  | cons x r ih => simp only [List.cons_append, tot, ih]; omega
theorem sqs_append (l m : List Int) : sqs (l ++ m) = sqs l + sqs m := by
  induction l with
  | nil => simp [sqs]
  | cons x r ih => simp only [List.cons_append, sqs, ih]; omega
theorem tot_step (l : List Int) (k : Nat) (h : k < l.length) : tot (l.take (k + 1)) = tot (l.take k) + l.getD k 0 := by
  rw [take_snoc l k h 0, tot_append]; simp [tot]
theorem sqs_step (l : List Int) (k : Nat) (h : k < l.length) : sqs (l.take (k + 1)) = sqs (l.take k) + l.getD k 0 * l.getD k 0 := by
  rw [take_snoc l k h 0, sqs_append]; simp [sqs]

def inTo (most x : Int) : Bool := decide (0 ≤ x) && decide (x ≤ most)
/-- what is wrong with shares: 5 there is none, 4 too many, 1 one is out of bounds, 0 nothing -/
def few (l : List Int) (most : Int) : Int := if l.length = 0 then 5 else if 6 < l.length then 4 else if l.all (inTo most) then 0 else 1
theorem few_0 {l : List Int} {most : Int} : few l most = 0 ↔ 0 < l.length ∧ l.length ≤ 6 ∧ ∀ x ∈ l, 0 ≤ x ∧ x ≤ most := by
  unfold few
  split
  · constructor
    · intro h; omega
    · intro h; omega
  · split
    · constructor
      · intro h; omega
      · intro h; omega
    · split
      · rename_i h
        rw [List.all_eq_true] at h
        constructor
        · intro _
          exact ⟨by omega, by omega, fun x hx => by simpa [inTo] using h x hx⟩
        · intro _; rfl
      · rename_i h
        constructor
        · intro e; omega
        · rintro ⟨_, _, hb⟩
          exfalso; apply h
          rw [List.all_eq_true]
          intro x hx
          simpa [inTo] using hb x hx

theorem tot_bd {M : Int} : ∀ {l : List Int}, (∀ x ∈ l, 0 ≤ x ∧ x ≤ M) → 0 ≤ tot l ∧ tot l ≤ l.length * M := by
  intro l
  induction l with
  | nil => intro _; simp [tot]
  | cons x r ih =>
    intro h
    have h1 := h x (by simp)
    have h2 := ih fun y hy => h y (by simp [hy])
    simp only [tot, List.length_cons]
    have e : ((r.length + 1 : Nat) : Int) * M = r.length * M + M := by rw [Int.natCast_add, Int.add_mul]; simp
    rw [e]
    omega
theorem sqs_bd {M : Int} : ∀ {l : List Int}, (∀ x ∈ l, 0 ≤ x ∧ x ≤ M) → 0 ≤ sqs l ∧ sqs l ≤ l.length * (M * M) := by
  intro l
  induction l with
  | nil => intro _; simp [sqs]
  | cons x r ih =>
    intro h
    have h1 := h x (by simp)
    have h2 := ih fun y hy => h y (by simp [hy])
    simp only [sqs, List.length_cons]
    have e : ((r.length + 1 : Nat) : Int) * (M * M) = r.length * (M * M) + M * M := by rw [Int.natCast_add, Int.add_mul]; simp
    rw [e]
    have h3 : x * x ≤ M * M := Int.mul_le_mul h1.2 h1.2 h1.1 (by omega)
    have h4 : 0 ≤ x * x := Int.mul_nonneg h1.1 h1.1
    omega

def dev (x : Int) : List Int → Int
  | [] => 0
  | y :: r => (x - y) * (x - y) + dev x r
theorem sq_nonneg (x : Int) : 0 ≤ x * x := by
  rcases Int.le_total 0 x with h | h
  · exact Int.mul_nonneg h h
  · exact Int.mul_nonneg_of_nonpos_of_nonpos h h
theorem sq_zero {x : Int} (h : x * x = 0) : x = 0 := by
  rcases Int.mul_eq_zero.1 h with h | h <;> exact h
theorem dev_nonneg (x : Int) : ∀ l, 0 ≤ dev x l := by
  intro l
  induction l with
  | nil => simp [dev]
  | cons y r ih => have := sq_nonneg (x - y); simp only [dev]; omega
theorem dev_zero {x : Int} : ∀ {l}, dev x l = 0 → ∀ y ∈ l, y = x := by
  intro l
  induction l with
  | nil => intro _ y hy; simp at hy
  | cons z r ih =>
    intro h y hy
    have h1 := sq_nonneg (x - z)
    have h2 := dev_nonneg x r
    simp only [dev] at h
    have h3 : (x - z) * (x - z) = 0 := by omega
    have h4 := sq_zero h3
    rcases List.mem_cons.1 hy with rfl | hy
    · omega
    · exact ih (by omega) y hy
theorem dev_eq (x : Int) : ∀ l : List Int, dev x l = l.length * (x * x) - 2 * (x * tot l) + sqs l := by
  intro l
  induction l with
  | nil => simp [dev, tot, sqs]
  | cons y r ih =>
    simp only [dev, tot, sqs, List.length_cons, ih]
    have e : ((r.length + 1 : Nat) : Int) = r.length + 1 := by simp
    rw [e]
    grind
theorem part_eq (x : Int) (r : List Int) : ((x :: r).length : Int) * sqs (x :: r) - tot (x :: r) * tot (x :: r) = (r.length * sqs r - tot r * tot r) + dev x r := by
  rw [dev_eq]
  simp only [tot, sqs, List.length_cons]
  have e : ((r.length + 1 : Nat) : Int) = r.length + 1 := by simp
  rw [e]
  grind
/-- the square of all together is no more than so many times their squares together, and as much just if all are alike -/
theorem cauchy : ∀ l : List Int, tot l * tot l ≤ l.length * sqs l := by
  intro l
  induction l with
  | nil => simp [tot, sqs]
  | cons x r ih =>
    have := part_eq x r
    have := dev_nonneg x r
    omega
theorem cauchy_eq : ∀ {l : List Int}, tot l * tot l = l.length * sqs l → ∀ x ∈ l, ∀ y ∈ l, x = y := by
  intro l
  induction l with
  | nil => intro _ x hx; simp at hx
  | cons z r ih =>
    intro h
    have h1 := part_eq z r
    have h2 := dev_nonneg z r
    have h3 := cauchy r
    have hz := dev_zero (x := z) (l := r) (by omega)
    intro x hx y hy
    have e : ∀ x ∈ z :: r, x = z := fun x hx => by
      rcases List.mem_cons.1 hx with rfl | hx
      · rfl
      · exact hz x hx
    rw [e x hx, e y hy]
theorem alike_eq {c : Int} : ∀ {l : List Int}, (∀ x ∈ l, x = c) → tot l = l.length * c ∧ sqs l = l.length * (c * c) := by
  intro l
  induction l with
  | nil => intro _; simp [tot, sqs]
  | cons x r ih =>
    intro h
    have h1 := h x (by simp)
    have h2 := ih fun y hy => h y (by simp [hy])
    simp only [tot, sqs, List.length_cons, h1, h2.1, h2.2]
    have e : ((r.length + 1 : Nat) : Int) = r.length + 1 := by simp
    rw [e]
    constructor <;> grind
theorem square_all : ∀ {l : List Int}, (∀ x ∈ l, 0 ≤ x) → sqs l ≤ tot l * tot l ∧ 0 ≤ tot l := by
  intro l
  induction l with
  | nil => intro _; simp [tot, sqs]
  | cons x r ih =>
    intro h
    have h1 := h x (by simp)
    obtain ⟨h2, h3⟩ := ih fun y hy => h y (by simp [hy])
    have h4 : 0 ≤ x * tot r := Int.mul_nonneg h1 h3
    simp only [tot, sqs]
    have e : (x + tot r) * (x + tot r) = x * x + 2 * (x * tot r) + tot r * tot r := by grind
    rw [e]
    constructor <;> omega

/-! ### the gap -/
theorem mx_ge (a : Int) : ∀ l : List Int, a ≤ l.foldl max a ∧ ∀ x ∈ l, x ≤ l.foldl max a := by
  intro l
  induction l generalizing a with
  | nil => simp
  | cons y r ih =>
    obtain ⟨h1, h2⟩ := ih (max a y)
    simp only [List.foldl_cons]
    refine ⟨by omega, fun x hx => ?_⟩
    rcases List.mem_cons.1 hx with rfl | hx
    · omega
    · exact h2 x hx
theorem mx_in (a : Int) : ∀ l : List Int, l.foldl max a = a ∨ l.foldl max a ∈ l := by
  intro l
  induction l generalizing a with
  | nil => simp
  | cons y r ih =>
    simp only [List.foldl_cons]
    rcases ih (max a y) with h | h
    · rcases Int.le_total a y with h' | h'
      · right; rw [h, Int.max_eq_right h']; simp
      · left; rw [h, Int.max_eq_left h']
    · right; simp [h]
theorem mn_le (a : Int) : ∀ l : List Int, l.foldl min a ≤ a ∧ ∀ x ∈ l, l.foldl min a ≤ x := by
  intro l
  induction l generalizing a with
  | nil => simp
  | cons y r ih =>
    obtain ⟨h1, h2⟩ := ih (min a y)
    simp only [List.foldl_cons]
    refine ⟨by omega, fun x hx => ?_⟩
    rcases List.mem_cons.1 hx with rfl | hx
    · omega
    · exact h2 x hx
theorem mn_in (a : Int) : ∀ l : List Int, l.foldl min a = a ∨ l.foldl min a ∈ l := by
  intro l
  induction l generalizing a with
  | nil => simp
  | cons y r ih =>
    simp only [List.foldl_cons]
    rcases ih (min a y) with h | h
    · rcases Int.le_total a y with h' | h'
      · left; rw [h, Int.min_eq_left h']
      · right; rw [h, Int.min_eq_right h']; simp
    · right; simp [h]
def mxL (l : List Int) : Int := l.foldl max (l.getD 0 0)
def mnL (l : List Int) : Int := l.foldl min (l.getD 0 0)
/-- the greatest less the least -/
def gapL (l : List Int) : Int := mxL l - mnL l
theorem mx_step (l : List Int) (a : Int) (k : Nat) (h : k < l.length) : (l.take (k + 1)).foldl max a = max ((l.take k).foldl max a) (l.getD k 0) := by
  rw [take_snoc l k h 0, List.foldl_append]; rfl
theorem mn_step (l : List Int) (a : Int) (k : Nat) (h : k < l.length) : (l.take (k + 1)).foldl min a = min ((l.take k).foldl min a) (l.getD k 0) := by
  rw [take_snoc l k h 0, List.foldl_append]; rfl
theorem mxL_spec {l : List Int} (h : 0 < l.length) : mxL l ∈ l ∧ ∀ x ∈ l, x ≤ mxL l := by
  refine ⟨?_, (mx_ge _ l).2⟩
  rcases mx_in (l.getD 0 0) l with e | e
  · unfold mxL; rw [e]; exact getD_mem l 0 h 0
  · exact e
theorem mnL_spec {l : List Int} (h : 0 < l.length) : mnL l ∈ l ∧ ∀ x ∈ l, mnL l ≤ x := by
  refine ⟨?_, (mn_le _ l).2⟩
  rcases mn_in (l.getD 0 0) l with e | e
  · unfold mnL; rw [e]; exact getD_mem l 0 h 0
  · exact e
theorem gap_nonneg {l : List Int} (h : 0 < l.length) : 0 ≤ gapL l := by
  have := (mxL_spec h).2 _ (mnL_spec h).1
  unfold gapL; omega
/-- no two are further apart than the gap -/
theorem gap_ge {l : List Int} (h : 0 < l.length) {x y : Int} (hx : x ∈ l) (hy : y ∈ l) : x - y ≤ gapL l := by
  have h1 := (mxL_spec h).2 x hx
  have h2 := (mnL_spec h).2 y hy
  unfold gapL; omega
theorem gap_le {l : List Int} {d : Int} (h : 0 < l.length) (hd : ∀ x ∈ l, ∀ y ∈ l, x - y ≤ d) : gapL l ≤ d := hd _ (mxL_spec h).1 _ (mnL_spec h).1
theorem gap_zero {l : List Int} (h : 0 < l.length) : gapL l = 0 ↔ ∀ x ∈ l, ∀ y ∈ l, x = y := by
  constructor
  · intro e x hx y hy
    have h1 := gap_ge h hx hy
    have h2 := gap_ge h hy hx
    omega
  · intro e
    have h1 := gap_nonneg h
    have h2 := gap_le (d := 0) h (fun x hx y hy => by have := e x hx y hy; omega)
    omega

/-! ### the index -/
def idx (l : List Int) : Int × Int := (lowT (tot l * tot l) (l.length * sqs l), lowB (tot l * tot l) (l.length * sqs l))
def idxE (l : List Int) : Int := if few l 1000 = 0 then if tot l = 0 then 5 else 0 else few l 1000
theorem idxE_0 {l : List Int} : idxE l = 0 ↔ few l 1000 = 0 ∧ tot l ≠ 0 := by
  unfold idxE
  split
  · split
    · constructor
      · intro h; omega
      · rintro ⟨_, h⟩; contradiction
    · constructor
      · intro _; exact ⟨by assumption, by assumption⟩
      · intro _; rfl
  · constructor
    · intro h; contradiction
    · rintro ⟨h, _⟩; contradiction
theorem idx_parts {l : List Int} (h : idxE l = 0) : 1 ≤ tot l ∧ tot l ≤ 6000 ∧ 1 ≤ sqs l ∧ sqs l ≤ 6000000 ∧ 1 ≤ (l.length : Int) * sqs l ∧ (l.length : Int) * sqs l ≤ 36000000 ∧ 0 ≤ tot l * tot l ∧ tot l * tot l ≤ 36000000 := by
  obtain ⟨h1, h2⟩ := idxE_0.1 h
  obtain ⟨n1, n2, hb⟩ := few_0.1 h1
  have t := tot_bd hb
  have s := sqs_bd hb
  have c := cauchy l
  have hn : (1 : Int) ≤ l.length ∧ (l.length : Int) ≤ 6 := by omega
  have t1 : 1 ≤ tot l := by omega
  have t2 : tot l ≤ 6000 := by
    have : (l.length : Int) * 1000 ≤ 6 * 1000 := by omega
    omega
  have tt : 1 ≤ tot l * tot l := Int.mul_le_mul t1 t1 (by decide) (by omega)
  have t3 : tot l * tot l ≤ 6000 * 6000 := Int.mul_le_mul t2 t2 (by omega) (by omega)
  have s2 : sqs l ≤ 6000000 := by
    have : (l.length : Int) * (1000 * 1000) ≤ 6 * 1000000 := by omega
    omega
  have s1 : 1 ≤ sqs l := by
    rcases Int.lt_or_le 0 (sqs l) with hs | hs
    · omega
    · have : sqs l = 0 := by omega
      rw [this] at c
      omega
  have ns : (l.length : Int) * sqs l ≤ 6 * 6000000 := Int.mul_le_mul hn.2 s2 (by omega) (by omega)
  exact ⟨t1, t2, s1, s2, by omega, by omega, by omega, by omega⟩
theorem low_bd {t b : Int} (h0 : 0 ≤ t) (hb : 1 ≤ b) : 0 ≤ lowT t b ∧ lowT t b ≤ t ∧ 1 ≤ lowB t b ∧ lowB t b ≤ b := by
  have g := gd_pos (t := t) hb
  have e1 := lowT_mul (t := t) (b := b)
  have e2 := lowB_mul (t := t) (b := b)
  have p := lowB_pos (t := t) hb
  have q : 0 ≤ lowT t b := by
    rcases Int.lt_or_le (lowT t b) 0 with h | h
    · have : lowT t b * gd t b ≤ -1 * gd t b := Int.mul_le_mul_of_nonneg_right (by omega) (by omega)
      omega
    · exact h
  have a1 : lowT t b * 1 ≤ lowT t b * gd t b := Int.mul_le_mul_of_nonneg_left g q
  have a2 : lowB t b * 1 ≤ lowB t b * gd t b := Int.mul_le_mul_of_nonneg_left g (by omega)
  refine ⟨q, by omega, p, by omega⟩
theorem idx_right {l : List Int} (h : idxE l = 0) : faultP (idx l) = 0 := by
  obtain ⟨_, _, _, _, b1, b2, t1, t2⟩ := idx_parts h
  obtain ⟨c1, c2, c3, c4⟩ := low_bd t1 b1
  exact fault_low b1 (mayB_iff.2 (by omega))
theorem idx_val {l : List Int} (h : idxE l = 0) : val (idx l) = val (tot l * tot l, (l.length : Int) * sqs l) := val_low (idx_parts h).2.2.2.2.1
theorem cmp_le' {a b : Int × Int} (ha : 1 ≤ a.2) (hb : 1 ≤ b.2) : cmpI (a.1 * b.2) (b.1 * a.2) ≤ 0 ↔ val a ≤ val b := by
  rw [cross ha hb]; unfold cmpI
  split
  · constructor <;> intro <;> omega
  · split
    · constructor <;> intro <;> omega
    · constructor <;> intro <;> omega
theorem cmp_eq' {a b : Int × Int} (ha : 1 ≤ a.2) (hb : 1 ≤ b.2) : cmpI (a.1 * b.2) (b.1 * a.2) = 0 ↔ val a = val b := by
  have h1 := cross ha hb
  have h2 := cross hb ha
  have e : val a = val b ↔ val a ≤ val b ∧ val b ≤ val a := by
    constructor
    · intro e; rw [e]; exact ⟨Rat.le_refl, Rat.le_refl⟩
    · rintro ⟨x, y⟩; grind
  rw [e, h1, h2]; unfold cmpI
  split
  · constructor <;> intro <;> omega
  · split
    · constructor <;> intro <;> omega
    · constructor <;> intro <;> omega
/-- from all for one to all alike -/
theorem idx_between {l : List Int} (h : idxE l = 0) : cmpI (1 * (idx l).2) ((idx l).1 * (l.length : Int)) ≤ 0 ∧ cmpI ((idx l).1 * 1) (1 * (idx l).2) ≤ 0 ∧ (cmpI ((idx l).1 * 1) (1 * (idx l).2) = 0 ↔ gapL l = 0) := by
  obtain ⟨h1, h2⟩ := idxE_0.1 h
  obtain ⟨n1, n2, hb⟩ := few_0.1 h1
  have hn : (1 : Int) ≤ l.length := by omega
  obtain ⟨t1, t2, s1, s2, b1, b2, q1, q2⟩ := idx_parts h
  have hv := idx_val h
  have hp := fault_pos (idx_right h)
  refine ⟨?_, ?_, ?_⟩
  · rw [cmp_le' (a := (1, (l.length : Int))) (b := idx l) hn hp, hv, cross (a := (1, (l.length : Int))) (b := (tot l * tot l, (l.length : Int) * sqs l)) hn b1]
    have := (square_all fun x hx => (hb x hx).1).1
    have := Int.mul_le_mul_of_nonneg_left this (show (0 : Int) ≤ l.length by omega)
    simp only
    grind
  · rw [cmp_le' (a := idx l) (b := (1, 1)) hp (by decide), hv, cross (a := (tot l * tot l, (l.length : Int) * sqs l)) (b := (1, 1)) b1 (by decide)]
    have := cauchy l
    simpa using this
  · rw [cmp_eq' (a := idx l) (b := (1, 1)) hp (by decide), hv, gap_zero n1]
    have e : val (tot l * tot l, (l.length : Int) * sqs l) = val (1, 1) ↔ tot l * tot l = (l.length : Int) * sqs l := by
      have := cmp_eq' (a := (tot l * tot l, (l.length : Int) * sqs l)) (b := (1, 1)) b1 (by decide)
      rw [← this]
      simp only [Int.mul_one, Int.one_mul]
      unfold cmpI
      split
      · constructor <;> intro <;> omega
      · split
        · constructor <;> intro <;> omega
        · constructor <;> intro <;> omega
    rw [e]
    constructor
    · exact cauchy_eq
    · intro ha
      obtain ⟨e1, e2⟩ := alike_eq (c := l.getD 0 0) (l := l) fun x hx => ha x hx _ (getD_mem l 0 n1 0)
      rw [e1, e2]
      grind

/-! ### some go from one to another one -/
def giveL (l : List Int) (f t : Nat) (m : Int) : List Int := (l.set f (l.getD f 0 - m)).set t ((l.set f (l.getD f 0 - m)).getD t 0 + m)
theorem tot_set : ∀ (l : List Int) (f : Nat) (x : Int), f < l.length → tot (l.set f x) = tot l - l.getD f 0 + x := by
  intro l
  induction l with
  | nil => intro f x h; simp at h
  | cons y r ih =>
    intro f x h
    cases f with
    | zero => simp [tot]; omega
    | succ f => have := ih f x (by simpa using h); simp [tot] at this ⊢; omega
theorem sqs_set : ∀ (l : List Int) (f : Nat) (x : Int), f < l.length → sqs (l.set f x) = sqs l - l.getD f 0 * l.getD f 0 + x * x := by
  intro l
  induction l with
  | nil => intro f x h; simp at h
  | cons y r ih =>
    intro f x h
    cases f with
    | zero => simp [sqs]; omega
    | succ f => have := ih f x (by simpa using h); simp [sqs] at this ⊢; omega
theorem getD_set_self (l : List Int) (f : Nat) (x : Int) (h : f < l.length) : (l.set f x).getD f 0 = x := by
  simp [List.getD, h]
theorem getD_set_ne (l : List Int) {f g : Nat} (x : Int) (h : f ≠ g) : (l.set f x).getD g 0 = l.getD g 0 := by
  simp [List.getD, List.getElem?_set_ne h]
theorem giveL_length (l : List Int) (f t : Nat) (m : Int) : (giveL l f t m).length = l.length := by simp [giveL]
theorem give_same (l : List Int) (f : Nat) (m : Int) (hf : f < l.length) : giveL l f f m = l := by
  unfold giveL
  rw [getD_set_self _ _ _ hf, List.set_set]
  have e : l.getD f 0 - m + m = l.getD f 0 := by omega
  rw [e]
  apply List.ext_getElem?
  intro i
  by_cases h : f = i
  · subst h
    rw [List.getElem?_set_self hf]
    simp [List.getD, List.getElem?_eq_getElem hf]
  · rw [List.getElem?_set_ne h]
theorem give_tot (l : List Int) (f t : Nat) (m : Int) (hf : f < l.length) (ht : t < l.length) : tot (giveL l f t m) = tot l := by
  by_cases e : f = t
  · subst e; rw [give_same _ _ _ hf]
  · unfold giveL
    rw [tot_set _ _ _ (by simpa using ht), tot_set _ _ _ hf]
    omega
/-- what a richer one gives a poorer one, no more than the half between, makes squares no more -/
theorem give_sqs (l : List Int) (f t : Nat) (m : Int) (hf : f < l.length) (ht : t < l.length) (hm : 0 ≤ m) (h2 : 2 * m ≤ l.getD f 0 - l.getD t 0) : sqs (giveL l f t m) ≤ sqs l := by
  by_cases e : f = t
  · subst e; rw [give_same _ _ _ hf]; exact Int.le_refl _
  · unfold giveL
    rw [sqs_set _ _ _ (by simpa using ht), sqs_set _ _ _ hf, getD_set_ne _ _ e]
    generalize l.getD f 0 = a at *
    generalize l.getD t 0 = b at *
    have e1 : (a - m) * (a - m) = a * a - 2 * (m * a) + m * m := by grind
    have e2 : (b + m) * (b + m) = b * b + 2 * (m * b) + m * m := by grind
    have e3 : m * (2 * m) ≤ m * (a - b) := Int.mul_le_mul_of_nonneg_left h2 hm
    have e4 : m * (2 * m) = 2 * (m * m) := by grind
    have e5 : m * (a - b) = m * a - m * b := by grind
    rw [e1, e2]
    have hmm := sq_nonneg m
    omega
theorem mem_give {l : List Int} {f t : Nat} {m : Int} {x : Int} (hf : f < l.length) (ht : t < l.length) (e : f ≠ t) (h : x ∈ giveL l f t m) : x ∈ l ∨ x = l.getD f 0 - m ∨ x = l.getD t 0 + m := by
  unfold giveL at h
  rw [getD_set_ne _ _ e] at h
  rcases List.mem_or_eq_of_mem_set h with h | h
  · rcases List.mem_or_eq_of_mem_set h with h | h
    · exact .inl h
    · exact .inr (.inl h)
  · exact .inr (.inr h)
theorem give_gap (l : List Int) (f t : Nat) (m : Int) (hf : f < l.length) (ht : t < l.length) (hm : 0 ≤ m) (h2 : 2 * m ≤ l.getD f 0 - l.getD t 0) : gapL (giveL l f t m) ≤ gapL l := by
  by_cases e : f = t
  · subst e; rw [give_same _ _ _ hf]; exact Int.le_refl _
  · have h0 : 0 < l.length := by omega
    have bx : ∀ x ∈ giveL l f t m, mnL l ≤ x ∧ x ≤ mxL l := by
      intro x hx
      have a1 := (mxL_spec h0).2
      have a2 := (mnL_spec h0).2
      have f1 := a1 _ (getD_mem l f hf 0)
      have f2 := a2 _ (getD_mem l f hf 0)
      have t1 := a1 _ (getD_mem l t ht 0)
      have t2 := a2 _ (getD_mem l t ht 0)
      rcases mem_give hf ht e hx with h | h | h
      · exact ⟨a2 x h, a1 x h⟩
      · omega
      · omega
    refine gap_le (by rw [giveL_length]; exact h0) fun x hx y hy => ?_
    have := bx x hx
    have := bx y hy
    unfold gapL
    omega
/-- no less even -/
theorem give_idx {l : List Int} {f t : Nat} {m : Int} (h : idxE l = 0) (hy : few (giveL l f t m) 1000 = 0) (hf : f < l.length) (ht : t < l.length) (hm : 0 ≤ m) (h2 : 2 * m ≤ l.getD f 0 - l.getD t 0) :
    idxE (giveL l f t m) = 0 ∧ cmpI ((idx l).1 * (idx (giveL l f t m)).2) ((idx (giveL l f t m)).1 * (idx l).2) ≤ 0 := by
  have e0 : idxE (giveL l f t m) = 0 := idxE_0.2 ⟨hy, by rw [give_tot l f t m hf ht]; exact (idxE_0.1 h).2⟩
  refine ⟨e0, ?_⟩
  rw [cmp_le' (fault_pos (idx_right h)) (fault_pos (idx_right e0)), idx_val h, idx_val e0, give_tot l f t m hf ht, giveL_length]
  have p1 := (idx_parts h).2.2.2.2.1
  have p2 := (idx_parts e0).2.2.2.2.1
  rw [giveL_length] at p2
  rw [cross (a := (tot l * tot l, (l.length : Int) * sqs l)) (b := (tot l * tot l, (l.length : Int) * sqs (giveL l f t m))) p1 p2]
  have := give_sqs l f t m hf ht hm h2
  have := Int.mul_le_mul_of_nonneg_left this (show (0 : Int) ≤ l.length by omega)
  exact Int.mul_le_mul_of_nonneg_left this (sq_nonneg _)

/-! ### times as much -/
theorem tot_times (c : Int) : ∀ l : List Int, tot (l.map (· * c)) = tot l * c := by
  intro l
  induction l with
  | nil => simp [tot]
  | cons x r ih => simp only [List.map_cons, tot, ih]; grind
theorem sqs_times (c : Int) : ∀ l : List Int, sqs (l.map (· * c)) = sqs l * (c * c) := by
  intro l
  induction l with
  | nil => simp [sqs]
  | cons x r ih => simp only [List.map_cons, sqs, ih]; grind
theorem times_idx {l : List Int} {c : Int} (h : idxE l = 0) (hc : 1 ≤ c) (hm : ∀ x ∈ l, x * c ≤ 1000) : idxE (l.map (· * c)) = 0 ∧ idx (l.map (· * c)) = idx l := by
  obtain ⟨h1, h2⟩ := idxE_0.1 h
  obtain ⟨n1, n2, hb⟩ := few_0.1 h1
  have e0 : idxE (l.map (· * c)) = 0 := by
    refine idxE_0.2 ⟨few_0.2 ⟨by simpa using n1, by simpa using n2, fun x hx => ?_⟩, ?_⟩
    · obtain ⟨y, hy, rfl⟩ := List.mem_map.1 hx
      exact ⟨Int.mul_nonneg (hb y hy).1 (by omega), hm y hy⟩
    · rw [tot_times]
      intro e
      rcases Int.mul_eq_zero.1 e with e | e
      · exact h2 e
      · omega
  refine ⟨e0, ?_⟩
  have p1 := (idx_parts h).2.2.2.2.1
  have p2 := (idx_parts e0).2.2.2.2.1
  unfold idx
  rw [tot_times, sqs_times, List.length_map] at *
  have := low_of_ratio (t := tot l * c * (tot l * c)) (b := l.length * (sqs l * (c * c))) (u := tot l * tot l) (c := l.length * sqs l) p2 p1 (by grind)
  rw [this.1, this.2]
theorem times_gap {l : List Int} {c : Int} (h : 0 < l.length) (hc : 0 ≤ c) : gapL (l.map (· * c)) = gapL l * c := by
  have h' : 0 < (l.map (· * c)).length := by simpa using h
  have a := mxL_spec h
  have b := mnL_spec h
  have a' := mxL_spec h'
  have b' := mnL_spec h'
  have e1 : mxL (l.map (· * c)) = mxL l * c := by
    have u1 : mxL l * c ≤ _ := a'.2 _ (List.mem_map.2 ⟨_, a.1, rfl⟩)
    obtain ⟨y, hy, e⟩ := List.mem_map.1 a'.1
    have u2 := Int.mul_le_mul_of_nonneg_right (a.2 y hy) hc
    have e : y * c = _ := e
    omega
  have e2 : mnL (l.map (· * c)) = mnL l * c := by
    have u1 : _ ≤ mnL l * c := b'.2 _ (List.mem_map.2 ⟨_, b.1, rfl⟩)
    obtain ⟨y, hy, e⟩ := List.mem_map.1 b'.1
    have u2 := Int.mul_le_mul_of_nonneg_right (b.2 y hy) hc
    have e : y * c = _ := e
    omega
  unfold gapL
  rw [e1, e2, Int.sub_mul]
end Go.Proofs.YtkpmjmgmgkdfnajDoor.Ev

/- A bucket of tokens, a pool ahead of a link, marks of a thousand: tick by tick, and what stays so. No Go in it. -/
namespace Go.Proofs.YtkpmjmgmgkdfnajDoor.Ev
open Fr Ns Ld Fl
set_option linter.unusedSimpArgs false
set_option linter.unusedVariables false

theorem foldl_step {α : Type} (f : α → Int → α) (a : α) (l : List Int) (k : Nat) (h : k < l.length) : (l.take (k + 1)).foldl f a = f ((l.take k).foldl f a) (l.getD k 0) := by
  rw [take_snoc l k h 0, List.foldl_append]; rfl
theorem take_all {l : List Int} {k : Nat} (h : l.length ≤ k) : l.take k = l := List.take_of_length_le h
/-- what is wrong with what comes tick by tick -/
def ticksE (l : List Int) : Int := if 60 < l.length then 4 else if l.all (inTo 10000) then 0 else 1
theorem ticksE_0 {l : List Int} : ticksE l = 0 ↔ l.length ≤ 60 ∧ ∀ x ∈ l, 0 ≤ x ∧ x ≤ 10000 := by
  unfold ticksE
  split
  · constructor
    · intro h; omega
    · intro h; omega
  · split
    · rename_i h
      rw [List.all_eq_true] at h
      exact ⟨fun _ => ⟨by omega, fun x hx => by simpa [inTo] using h x hx⟩, fun _ => rfl⟩
    · rename_i h
      constructor
      · intro e; omega
      · rintro ⟨_, hb⟩
        exfalso; apply h
        rw [List.all_eq_true]
        intro x hx
        simpa [inTo] using hb x hx

/-! ### the bucket: how many it holds, how many come, how many there are -/
def bktE (s r h : Int) : Int := if s < 1 ∨ 10000 < s ∨ r < 0 ∨ s < r ∨ h < 0 ∨ s < h then 1 else 0
theorem bktE_0 {s r h : Int} : bktE s r h = 0 ↔ 1 ≤ s ∧ s ≤ 10000 ∧ 0 ≤ r ∧ r ≤ s ∧ 0 ≤ h ∧ h ≤ s := by
  unfold bktE
  split <;> constructor <;> intro hh <;> omega
def fillH (s r h : Int) : Int := if s < h + r then s else h + r
def goes (w h : Int) : Int := if h < w then h else w
/-- what waits, the tokens, what went -/
def stepB (s r : Int) (p : Int × Int × List Int) (c : Int) : Int × Int × List Int := (p.1 + c - goes (p.1 + c) p.2.1, fillH s r (p.2.1 - goes (p.1 + c) p.2.1), p.2.2 ++ [goes (p.1 + c) p.2.1])
def bkSt (s r h : Int) (l : List Int) : Int × Int × List Int := l.foldl (stepB s r) (0, h, [])
def sentL (s r h : Int) (l : List Int) : List Int := (bkSt s r h l).2.2
theorem bkSt_step (s r h : Int) (l : List Int) (k : Nat) (hk : k < l.length) : bkSt s r h (l.take (k + 1)) = stepB s r (bkSt s r h (l.take k)) (l.getD k 0) := foldl_step _ _ l k hk

structure BkInv (s r h : Int) (l : List Int) (k : Nat) : Prop where
  len : (bkSt s r h (l.take k)).2.2.length = k
  wait : 0 ≤ (bkSt s r h (l.take k)).1 ∧ (bkSt s r h (l.take k)).1 + tot (bkSt s r h (l.take k)).2.2 = tot (l.take k)
  has : 0 ≤ (bkSt s r h (l.take k)).2.1 ∧ (bkSt s r h (l.take k)).2.1 ≤ s
  sent : ∀ x ∈ (bkSt s r h (l.take k)).2.2, 0 ≤ x ∧ x ≤ s
theorem bk_inv {s r h : Int} {l : List Int} (hb : bktE s r h = 0) (hl : ∀ x ∈ l, 0 ≤ x) : ∀ k, k ≤ l.length → BkInv s r h l k := by
  have h0 := bktE_0.1 hb
  intro k
  induction k with
  | zero => intro _; exact ⟨by simp [bkSt], by simp [bkSt, tot], by simp [bkSt]; omega, by simp [bkSt]⟩
  | succ k ih =>
    intro hk
    obtain ⟨i1, i2, i3, i4⟩ := ih (by omega)
    have hc := hl _ (getD_mem l k (by omega) 0)
    have ht := tot_step l k (by omega)
    have hst := bkSt_step s r h l k (by omega)
    generalize bkSt s r h (l.take k) = p at *
    generalize l.getD k 0 = c at *
    have hg : 0 ≤ goes (p.1 + c) p.2.1 ∧ goes (p.1 + c) p.2.1 ≤ p.2.1 ∧ goes (p.1 + c) p.2.1 ≤ p.1 + c := by unfold goes; split <;> omega
    have hf : ∀ x, 0 ≤ x → 0 ≤ fillH s r x ∧ fillH s r x ≤ s := by intro x hx; unfold fillH; split <;> omega
    refine ⟨?_, ?_, ?_, ?_⟩ <;> rw [hst] <;> simp only [stepB]
    · simp [i1]
    · rw [tot_append, ht]
      simp only [tot]
      omega
    · exact hf _ (by omega)
    · intro x hx
      rcases List.mem_append.1 hx with hx | hx
      · exact i4 x hx
      · simp at hx; omega
theorem sent_take {s r h : Int} {l : List Int} (k : Nat) (hk : k ≤ l.length) : ∀ m, k ≤ m → m ≤ l.length → BkInv s r h l k → (bkSt s r h (l.take m)).2.2.take k = (bkSt s r h (l.take k)).2.2 := by
  intro m
  induction m with
  | zero =>
    intro h1 _ hi
    have : k = 0 := by omega
    subst this
    rw [List.take_of_length_le (by rw [hi.len]; omega)]
  | succ m ih =>
    intro h1 h2 hi
    by_cases e : k = m + 1
    · rw [← e, List.take_of_length_le (by rw [hi.len]; omega)]
    · have := ih (by omega) (by omega) hi
      rw [bkSt_step s r h l m (by omega)]
      simp only [stepB]
      have hlen : k ≤ (bkSt s r h (l.take m)).2.2.length := by
        have := congrArg List.length this
        rw [hi.len, List.length_take] at this
        omega
      rw [List.take_append_of_le_length hlen]
      exact this
/-- in any row of ticks no more goes than the bucket holds, and what came between -/
theorem sent_row {s r h : Int} {l : List Int} (hb : bktE s r h = 0) (hl : ∀ x ∈ l, 0 ≤ x) (i : Nat) : ∀ k, i ≤ k → k ≤ l.length →
    tot (bkSt s r h (l.take k)).2.2 - tot (bkSt s r h (l.take i)).2.2 + (bkSt s r h (l.take k)).2.1 ≤ (bkSt s r h (l.take i)).2.1 + (k - i : Nat) * r := by
  have h0 := bktE_0.1 hb
  intro k
  induction k with
  | zero => intro h1 _; have : i = 0 := by omega
            subst this; simp
  | succ k ih =>
    intro h1 h2
    by_cases e : i = k + 1
    · subst e; simp
    · have hi := ih (by omega) (by omega)
      rw [bkSt_step s r h l k (by omega)]
      generalize bkSt s r h (l.take k) = p at *
      simp only [stepB, tot_append, tot]
      have hf : fillH s r (p.2.1 - goes (p.1 + l.getD k 0) p.2.1) ≤ p.2.1 - goes (p.1 + l.getD k 0) p.2.1 + r := by unfold fillH; split <;> omega
      have e1 : ((k + 1 - i : Nat) : Int) * r = (k - i : Nat) * r + r := by
        rw [show k + 1 - i = (k - i) + 1 by omega, Int.natCast_add, Int.add_mul]; simp
      rw [e1]
      omega
theorem sentL_length {s r h : Int} {l : List Int} (hb : bktE s r h = 0) (hl : ∀ x ∈ l, 0 ≤ x) : (sentL s r h l).length = l.length := by
  have := (bk_inv hb hl l.length (Nat.le_refl _)).len
  rwa [take_all (Nat.le_refl _)] at this
theorem sentL_pre {s r h : Int} {l : List Int} (hb : bktE s r h = 0) (hl : ∀ x ∈ l, 0 ≤ x) {k : Nat} (hk : k ≤ l.length) : (sentL s r h l).take k = (bkSt s r h (l.take k)).2.2 := by
  have := sent_take k hk l.length hk (Nat.le_refl _) (bk_inv hb hl k hk)
  rwa [take_all (Nat.le_refl _)] at this
theorem sentL_bounds {s r h : Int} {l : List Int} (hb : bktE s r h = 0) (hl : ∀ x ∈ l, 0 ≤ x) :
    (∀ k, k < l.length → 0 ≤ (sentL s r h l).getD k 0 ∧ (sentL s r h l).getD k 0 ≤ s) ∧ (∀ k, k ≤ l.length → tot ((sentL s r h l).take k) ≤ tot (l.take k)) ∧
    (∀ i k, i ≤ k → k < l.length → tot ((sentL s r h l).take (k + 1)) - tot ((sentL s r h l).take i) ≤ s + ((k : Int) - i) * r) ∧
    (0 < l.length → (sentL s r h l).getD 0 0 = goes (l.getD 0 0) h) := by
  have h0 := bktE_0.1 hb
  refine ⟨fun k hk => ?_, fun k hk => ?_, fun i k hik hk => ?_, fun hp => ?_⟩
  · have := (bk_inv hb hl l.length (Nat.le_refl _)).sent
    rw [take_all (Nat.le_refl _)] at this
    exact this _ (getD_mem (sentL s r h l) k (by rw [sentL_length hb hl]; exact hk) 0)
  · rw [sentL_pre hb hl hk]
    have := (bk_inv hb hl k hk).wait
    omega
  · rw [sentL_pre hb hl (by omega), sentL_pre hb hl (by omega)]
    have h1 := sent_row hb hl i k hik (by omega)
    have h2 := (bk_inv hb hl i (by omega)).has
    rw [bkSt_step s r h l k hk]
    generalize bkSt s r h (l.take k) = p at *
    simp only [stepB, tot_append, tot]
    have hg : goes (p.1 + l.getD k 0) p.2.1 ≤ p.2.1 := by unfold goes; split <;> omega
    have e : ((k - i : Nat) : Int) = (k : Int) - i := by omega
    rw [e] at h1
    omega
  · have e1 := sentL_pre hb hl (k := 1) (by omega)
    rw [bkSt_step s r h l 0 hp] at e1
    have e2 : (sentL s r h l).getD 0 0 = ((sentL s r h l).take 1).getD 0 0 := by simp [List.getD, List.getElem?_take]
    rw [e2, e1]
    simp [bkSt, stepB]

/-! ### the pool: its room, its link, what waits -/
def poolE (room cap wait : Int) : Int := if room < 0 ∨ 10000 < room ∨ cap < 1 ∨ 1000 < cap ∨ wait < 0 ∨ room < wait then 1 else 0
theorem poolE_0 {room cap wait : Int} : poolE room cap wait = 0 ↔ 0 ≤ room ∧ room ≤ 10000 ∧ 1 ≤ cap ∧ cap ≤ 1000 ∧ 0 ≤ wait ∧ wait ≤ room := by
  unfold poolE
  split <;> constructor <;> intro hh <;> omega
def wentP (cap n : Int) : Int := if cap < n then cap else n
def lostP (room cap n : Int) : Int := if room < n - wentP cap n then n - wentP cap n - room else 0
def waitP (room cap n : Int) : Int := if room < n - wentP cap n then room else n - wentP cap n
/-- all that went, was lost, and what waits -/
def stepP (room cap : Int) (p : Int × Int × Int) (c : Int) : Int × Int × Int := (p.1 + wentP cap (p.2.2 + c), p.2.1 + lostP room cap (p.2.2 + c), waitP room cap (p.2.2 + c))
def poSt (room cap wait : Int) (l : List Int) : Int × Int × Int := l.foldl (stepP room cap) (0, 0, wait)
theorem poSt_step (room cap wait : Int) (l : List Int) (k : Nat) (hk : k < l.length) : poSt room cap wait (l.take (k + 1)) = stepP room cap (poSt room cap wait (l.take k)) (l.getD k 0) := foldl_step _ _ l k hk
theorem po_keeps {room cap wait : Int} {l : List Int} (hb : poolE room cap wait = 0) (hl : ∀ x ∈ l, 0 ≤ x) : ∀ k, k ≤ l.length →
    0 ≤ (poSt room cap wait (l.take k)).1 ∧ 0 ≤ (poSt room cap wait (l.take k)).2.1 ∧ 0 ≤ (poSt room cap wait (l.take k)).2.2 ∧ (poSt room cap wait (l.take k)).2.2 ≤ room ∧ (poSt room cap wait (l.take k)).1 ≤ k * cap ∧
    (poSt room cap wait (l.take k)).1 + (poSt room cap wait (l.take k)).2.1 + (poSt room cap wait (l.take k)).2.2 = wait + tot (l.take k) := by
  have h0 := poolE_0.1 hb
  intro k
  induction k with
  | zero => intro _; simp [poSt, tot]; omega
  | succ k ih =>
    intro hk
    have hi := ih (by omega)
    have hc := hl _ (getD_mem l k (by omega) 0)
    rw [poSt_step room cap wait l k (by omega), tot_step l k (by omega)]
    generalize poSt room cap wait (l.take k) = p at *
    generalize l.getD k 0 = c at *
    have e1 : ((k + 1 : Nat) : Int) * cap = k * cap + cap := by rw [Int.natCast_add, Int.add_mul]; simp
    rw [e1]
    simp only [stepP]
    unfold lostP waitP wentP
    split <;> split <;> omega
/-- with more room no more is lost, and as much or more went -/
theorem po_room {room cap wait more : Int} {l : List Int} (hm : 0 ≤ more) : ∀ k, k ≤ l.length →
    (poSt room cap wait (l.take k)).2.2 ≤ (poSt (room + more) cap wait (l.take k)).2.2 ∧
    (poSt (room + more) cap wait (l.take k)).2.2 - (poSt room cap wait (l.take k)).2.2 ≤ (poSt room cap wait (l.take k)).2.1 - (poSt (room + more) cap wait (l.take k)).2.1 ∧
    (poSt room cap wait (l.take k)).1 ≤ (poSt (room + more) cap wait (l.take k)).1 := by
  intro k
  induction k with
  | zero => intro _; simp [poSt]
  | succ k ih =>
    intro hk
    have hi := ih (by omega)
    rw [poSt_step room cap wait l k (by omega), poSt_step (room + more) cap wait l k (by omega)]
    generalize poSt room cap wait (l.take k) = p at *
    generalize poSt (room + more) cap wait (l.take k) = q at *
    generalize l.getD k 0 = c at *
    simp only [stepP]
    unfold lostP waitP wentP
    split <;> split <;> split <;> split <;> omega
/-- with a wider link no more waits, and no more is lost -/
theorem po_link {room cap wait more : Int} {l : List Int} (hm : 0 ≤ more) : ∀ k, k ≤ l.length →
    (poSt room (cap + more) wait (l.take k)).2.2 ≤ (poSt room cap wait (l.take k)).2.2 ∧ (poSt room (cap + more) wait (l.take k)).2.1 ≤ (poSt room cap wait (l.take k)).2.1 := by
  intro k
  induction k with
  | zero => intro _; simp [poSt]
  | succ k ih =>
    intro hk
    have hi := ih (by omega)
    rw [poSt_step room cap wait l k (by omega), poSt_step room (cap + more) wait l k (by omega)]
    generalize poSt room cap wait (l.take k) = p at *
    generalize poSt room (cap + more) wait (l.take k) = q at *
    generalize l.getD k 0 = c at *
    simp only [stepP]
    unfold lostP waitP wentP
    split <;> split <;> split <;> split <;> omega
/-- shaped ahead of a pool nothing is lost -/
theorem shaped {s r h room cap : Int} {l : List Int} (hb : bktE s r h = 0) (hl : ∀ x ∈ l, 0 ≤ x) (hp : poolE room cap 0 = 0) (h1 : r ≤ cap) (h2 : s ≤ room + cap) : ∀ k, k ≤ l.length →
    (poSt room cap 0 ((sentL s r h l).take k)).2.1 = 0 ∧ (poSt room cap 0 ((sentL s r h l).take k)).2.2 + (bkSt s r h (l.take k)).2.1 ≤ room + cap := by
  have b0 := bktE_0.1 hb
  have p0 := poolE_0.1 hp
  have hsl := sentL_length hb hl
  have hs0 : ∀ x ∈ sentL s r h l, 0 ≤ x := by
    have := (bk_inv hb hl l.length (Nat.le_refl _)).sent
    rw [take_all (Nat.le_refl _)] at this
    exact fun x hx => (this x hx).1
  intro k
  induction k with
  | zero => intro _; simp [poSt, bkSt]; omega
  | succ k ih =>
    intro hk
    have hi := ih (by omega)
    have hpk := po_keeps hp hs0 k (by omega)
    have hbi := bk_inv hb hl k (by omega)
    have hc := hl _ (getD_mem l k (by omega) 0)
    have e : (sentL s r h l).getD k 0 = goes ((bkSt s r h (l.take k)).1 + l.getD k 0) (bkSt s r h (l.take k)).2.1 := by
      have e1 := sentL_pre hb hl (k := k + 1) (by omega)
      rw [bkSt_step s r h l k (by omega)] at e1
      have e2 : (sentL s r h l).getD k 0 = ((sentL s r h l).take (k + 1)).getD k 0 := by simp [List.getD, List.getElem?_take]
      rw [e2, e1]
      simp only [stepB]
      have := hbi.len
      simp [List.getD, List.getElem?_append_right (show (bkSt s r h (l.take k)).2.2.length ≤ k by omega), this]
    rw [poSt_step room cap 0 (sentL s r h l) k (by omega), bkSt_step s r h l k (by omega), e]
    have hw := hbi.wait
    have hh := hbi.has
    generalize poSt room cap 0 ((sentL s r h l).take k) = p at *
    generalize bkSt s r h (l.take k) = b at *
    generalize l.getD k 0 = c at *
    simp only [stepP, stepB]
    have hg : 0 ≤ goes (b.1 + c) b.2.1 ∧ goes (b.1 + c) b.2.1 ≤ b.2.1 := by unfold goes; split <;> omega
    generalize goes (b.1 + c) b.2.1 = n at *
    have hf : fillH s r (b.2.1 - n) ≤ b.2.1 - n + r ∧ fillH s r (b.2.1 - n) ≤ s := by unfold fillH; split <;> omega
    generalize fillH s r (b.2.1 - n) = f at *
    unfold lostP waitP wentP
    split <;> split <;> omega

/-! ### marks -/
def markB (f i : Int) : Bool := decide (i * f / 1000 < (i + 1) * f / 1000)
def cntM (f a : Int) : Nat → Int
  | 0 => 0
  | m + 1 => cntM f a m + if markB f (a + m) then 1 else 0
theorem cnt_eq {f : Int} (h0 : 0 ≤ f) (h1 : f ≤ 1000) (a : Int) : ∀ m : Nat, cntM f a m = (a + m) * f / 1000 - a * f / 1000 := by
  intro m
  induction m with
  | zero => simp [cntM]
  | succ m ih =>
    have e : (a + ((m + 1 : Nat) : Int)) * f = (a + m) * f + f := by
      rw [show a + ((m + 1 : Nat) : Int) = (a + m) + 1 by omega, Int.add_mul, Int.one_mul]
    have e2 : (a + (m : Int) + 1) * f = (a + m) * f + f := by rw [Int.add_mul, Int.one_mul]
    have hm : markB f (a + m) = decide ((a + m) * f / 1000 < ((a + m) * f + f) / 1000) := by unfold markB; rw [e2]
    simp only [cntM, ih]
    rw [e]
    generalize markB f (a + m) = b at *
    generalize (a + (m : Int)) * f = p at *
    generalize a * f = q at *
    by_cases h : p / 1000 < (p + f) / 1000
    · rw [decide_eq_true h] at hm; rw [hm]; simp only [if_true]; omega
    · rw [decide_eq_false h] at hm; rw [hm]; simp only [Bool.false_eq_true, if_false]; omega
/-- as evenly as may be -/
theorem cnt_even {f : Int} (h0 : 0 ≤ f) (h1 : f ≤ 1000) (a : Int) (m : Nat) : cntM f a m = f * m / 1000 ∨ cntM f a m = f * m / 1000 + 1 := by
  rw [cnt_eq h0 h1]
  have e : (a + (m : Int)) * f = a * f + f * m := by rw [Int.add_mul, Int.mul_comm (m : Int)]
  rw [e]
  generalize a * f = p
  generalize f * (m : Int) = q
  omega
theorem cnt_thousand {f : Int} (h0 : 0 ≤ f) (h1 : f ≤ 1000) (a : Int) : cntM f a 1000 = f := by
  rw [cnt_eq h0 h1]
  have e : (a + ((1000 : Nat) : Int)) * f = a * f + 1000 * f := by rw [Int.add_mul]; rfl
  rw [e]
  generalize a * f = p
  omega
theorem cnt_more {f g : Int} (h0 : 0 ≤ f) (h1 : f ≤ g) (h2 : g ≤ 1000) (m : Nat) : cntM f 0 m ≤ cntM g 0 m := by
  rw [cnt_eq h0 (by omega), cnt_eq (by omega) h2]
  have : (0 + (m : Int)) * f ≤ (0 + (m : Int)) * g := Int.mul_le_mul_of_nonneg_left h1 (by omega)
  simp only [Int.zero_mul]
  omega
end Go.Proofs.YtkpmjmgmgkdfnajDoor.Ev

/- What the calls of packages bucket, pool, mark and source tell, as the document says it. No Go in it. -/
namespace Go.Proofs.YtkpmjmgmgkdfnajDoor.Ev
open Fr Ns Ld Fl
set_option linter.unusedSimpArgs false
set_option linter.unusedVariables false

def ok3 (k : Int) (p : Int × Int × Int) : Int × Int × Int := if k = 0 then p else (0, 0, 0)
def ok4 (k : Int) (p : Int × Int × Int × Int) : Int × Int × Int × Int := if k = 0 then p else (0, 0, 0, 0)
def okN (k : Int) (n : Int) : Int := if k = 0 then n else 0
def okB (k : Int) (b : Bool) : Bool := decide (k = 0) && b
/-! ### bucket -/
def takeE (s r h m : Int) : Int := if bktE s r h = 0 then (if m < 0 ∨ 10000 < m then 1 else if h < m then 8 else 0) else bktE s r h
def sendE (s r h : Int) (l : List Int) : Int := if bktE s r h = 0 then ticksE l else bktE s r h
theorem sendE_0 {s r h : Int} {l : List Int} (he : sendE s r h l = 0) : bktE s r h = 0 ∧ ticksE l = 0 := by
  unfold sendE at he
  split at he
  · exact ⟨by assumption, he⟩
  · contradiction
/-! ### pool -/
def ptickE (room cap wait came : Int) : Int := if poolE room cap wait = 0 then (if came < 0 ∨ 10000 < came then 1 else 0) else poolE room cap wait
def prunE (room cap wait : Int) (l : List Int) : Int := if poolE room cap wait = 0 then ticksE l else poolE room cap wait
theorem prunE_0 {room cap wait : Int} {l : List Int} (he : prunE room cap wait l = 0) : poolE room cap wait = 0 ∧ ticksE l = 0 := by
  unfold prunE at he
  split at he
  · exact ⟨by assumption, he⟩
  · contradiction
/-! ### mark -/
def misE (f i : Int) : Int := if f < 0 ∨ 1000 < f ∨ i < 0 ∨ 1000000000 < i then 1 else 0
def mcntE (f a m : Int) : Int := if f < 0 ∨ 1000 < f ∨ a < 0 ∨ 10000 < a ∨ m < 0 ∨ 10000 < m then 1 else 0
def mlstE (f m : Int) : Int := if f < 0 ∨ 1000 < f ∨ m < 0 ∨ 60 < m then 1 else 0
def markL (f : Int) (m : Nat) : List Bool := (List.range m).map fun k : Nat => markB f (k : Int)
theorem markL_length (f : Int) (m : Nat) : (markL f m).length = m := by simp [markL]
theorem markL_at (f : Int) (m k : Nat) (h : k < m) : (markL f m).getD k false = markB f k := by
  simp [markL, List.getD, List.getElem?_map, List.getElem?_range h]
/-! ### source: its window, what is under way, what is left, what came -/
def srcE (win way left came : Int) : Int := if win < 1 ∨ 1000 < win ∨ way < 0 ∨ 10000 < way ∨ left < 0 ∨ 10000 < left ∨ came < 0 ∨ 10000 < came then 1 else 0
theorem srcE_0 {win way left came : Int} : srcE win way left came = 0 ↔ 1 ≤ win ∧ win ≤ 1000 ∧ 0 ≤ way ∧ way ≤ 10000 ∧ 0 ≤ left ∧ left ≤ 10000 ∧ 0 ≤ came ∧ came ≤ 10000 := by
  unfold srcE
  split <;> constructor <;> intro hh <;> omega
/-- how many go -/
def goN (win way left : Int) : Int := if way < win then (if left < win - way then left else win - way) else 0
def ackW (win : Int) (faster : Bool) : Int := if faster then (if win < 1000 then win + 1 else win) else (if 1 < win then win - 1 else win)
def lostW (win : Int) : Int := if 1 < win then win / 2 else win
def sent4 (win way left came : Int) : Int × Int × Int × Int := (win, way + goN win way left, left - goN win way left, came)
def ackE (win way left came : Int) : Int := if srcE win way left came = 0 then (if way = 0 then 8 else if came = 10000 then 4 else 0) else srcE win way left came
def ack4 (win way left came : Int) (faster : Bool) : Int × Int × Int × Int := (ackW win faster, way - 1, left, came + 1)
def losE (win way left came : Int) : Int := if srcE win way left came = 0 then (if way = 0 then 8 else if left = 10000 then 4 else 0) else srcE win way left came
def los4 (win way left came : Int) : Int × Int × Int × Int := (lostW win, way - 1, left + 1, came)
end Go.Proofs.YtkpmjmgmgkdfnajDoor.Ev

/- Some over one link: the document's road, tick by tick; nothing is lost for good, and at each tick something comes. No Go in it. -/
namespace Go.Proofs.YtkpmjmgmgkdfnajDoor.Ev
open Fr Ns Ld Fl
set_option linter.unusedSimpArgs false
set_option linter.unusedVariables false

/-- a source: window, under way, left, came -/
abbrev Src := Int × Int × Int × Int
def sAt (S : List Src) (i : Nat) : Src := S.getD i (0, 0, 0, 0)
def goS (s : Src) : Int := goN s.1 s.2.1 s.2.2.1
def sentS (s : Src) : Src := sent4 s.1 s.2.1 s.2.2.1 s.2.2.2
def ackS (s : Src) (f : Bool) : Src := ack4 s.1 s.2.1 s.2.2.1 s.2.2.2 f
def losS (s : Src) : Src := los4 s.1 s.2.1 s.2.2.1 s.2.2.2
def okS (s : Src) : Prop := srcE s.1 s.2.1 s.2.2.1 s.2.2.2 = 0
/-- all that a source has -/
def sumS (s : Src) : Int := s.2.1 + s.2.2.1 + s.2.2.2
/-- whose those are that go now -/
def sendFrom : Nat → List Src → List Nat
  | _, [] => []
  | i, s :: r => List.replicate (goS s).toNat i ++ sendFrom (i + 1) r
/-- the first went came, the next wait ones wait, the others are lost -/
def hand (went wait : Nat) (f : Bool) : Nat → List Nat → List Src → List Src
  | _, [], S => S
  | k, i :: r, S => hand went wait f (k + 1) r (if k < went then S.set i (ackS (sAt S i) f) else if k < went + wait then S else S.set i (losS (sAt S i)))
structure Road where
  S : List Src
  room : Int
  cap : Int
  wait : Int
  row : List Nat
/-- what a road's tick makes of so many -/
def wentR (R : Road) (n : Int) : Int := if R.cap < n then R.cap else n
def waitR (R : Road) (n : Int) : Int := if R.room < n - wentR R n then R.room else n - wentR R n
def lostR (R : Road) (n : Int) : Int := n - wentR R n - waitR R n
def rowR (R : Road) : List Nat := R.row ++ sendFrom 0 R.S
def fastR (R : Road) : Bool := decide (R.wait ≤ R.room / 2)
def tickR (R : Road) : Road :=
  { R with S := hand (wentR R (rowR R).length).toNat (waitR R (rowR R).length).toNat (fastR R) 0 (rowR R) (R.S.map sentS), wait := waitR R (rowR R).length,
           row := ((rowR R).drop (wentR R (rowR R).length).toNat).take (waitR R (rowR R).length).toNat }
def ticksR (R : Road) : Nat → Road
  | 0 => R
  | k + 1 => tickR (ticksR R k)

theorem sAt_set_self {S : List Src} {i : Nat} (h : i < S.length) (s : Src) : sAt (S.set i s) i = s := by simp [sAt, List.getD, List.getElem?_set, h]
theorem sAt_set_ne {S : List Src} {i j : Nat} (h : i ≠ j) (s : Src) : sAt (S.set i s) j = sAt S j := by simp [sAt, List.getD, List.getElem?_set, h]
theorem sAt_map {S : List Src} {i : Nat} (h : i < S.length) : sAt (S.map sentS) i = sentS (sAt S i) := by simp [sAt, List.getD, List.getElem?_eq_getElem h]

/-- of each source: it is right, as many are under way as its number comes up in the row, and all that it has is so much -/
def HasR (n : Nat) (L : Nat → Int) (row : List Nat) (S : List Src) : Prop :=
  S.length = n ∧ ∀ i, i < n → okS (sAt S i) ∧ (sAt S i).2.1 = (row.count i : Nat) ∧ sumS (sAt S i) = L i
theorem go_bd {s : Src} (h : okS s) : 0 ≤ goS s ∧ goS s ≤ s.2.2.1 ∧ (0 < s.2.2.1 → s.2.1 = 0 → 1 ≤ goS s) := by
  have := srcE_0.1 h
  unfold goS goN
  split
  · split <;> omega
  · omega
theorem sent_ok {s : Src} (h : okS s) (hs : sumS s ≤ 10000) : okS (sentS s) ∧ sumS (sentS s) = sumS s ∧ (sentS s).2.1 = s.2.1 + goS s := by
  have h0 := srcE_0.1 h
  have hg := go_bd h
  unfold goS at hg
  unfold sumS at hs
  refine ⟨srcE_0.2 ?_, ?_, rfl⟩
  · simp only [sentS, sent4]; omega
  · simp only [sumS, sentS, sent4]; omega
theorem ack_ok {s : Src} {f : Bool} (h : okS s) (hs : sumS s ≤ 10000) (hw : 1 ≤ s.2.1) : okS (ackS s f) ∧ sumS (ackS s f) = sumS s ∧ (ackS s f).2.1 = s.2.1 - 1 ∧ (ackS s f).2.2.2 = s.2.2.2 + 1 := by
  have h0 := srcE_0.1 h
  unfold sumS at hs
  have hwin : 1 ≤ ackW s.1 f ∧ ackW s.1 f ≤ 1000 := by
    unfold ackW
    split <;> split <;> omega
  refine ⟨srcE_0.2 ?_, ?_, rfl, rfl⟩
  · simp only [ackS, ack4]; omega
  · simp only [sumS, ackS, ack4]; omega
theorem los_ok {s : Src} (h : okS s) (hs : sumS s ≤ 10000) (hw : 1 ≤ s.2.1) : okS (losS s) ∧ sumS (losS s) = sumS s ∧ (losS s).2.1 = s.2.1 - 1 ∧ (losS s).2.2.2 = s.2.2.2 := by
  have h0 := srcE_0.1 h
  unfold sumS at hs
  have hwin : 1 ≤ lostW s.1 ∧ lostW s.1 ≤ 1000 := by
    unfold lostW
    split <;> omega
  refine ⟨srcE_0.2 ?_, ?_, rfl, rfl⟩
  · simp only [losS, los4]; omega
  · simp only [sumS, losS, los4]; omega

theorem count_sendFrom : ∀ (S : List Src) (i j : Nat), (∀ k, k < S.length → okS (sAt S k)) → ((sendFrom i S).count j : Nat) = if i ≤ j ∧ j < i + S.length then goS (sAt S (j - i)) else 0 := by
  intro S
  induction S with
  | nil => intro i j _; rw [if_neg (by simp only [List.length_nil]; omega)]; rfl
  | cons s r ih =>
    intro i j h
    have hs := go_bd (h 0 (by simp))
    have e0 : sAt (s :: r) 0 = s := rfl
    rw [e0] at hs
    have ihr := ih (i + 1) j (fun k hk => by have := h (k + 1) (by simpa using hk); simpa [sAt] using this)
    simp only [sendFrom, List.count_append]
    rw [Int.natCast_add, ihr]
    by_cases e : i = j
    · subst e
      have hrep : (List.replicate (goS s).toNat i).count i = (goS s).toNat := by simp
      rw [hrep, if_neg (show ¬ (i + 1 ≤ i ∧ i < i + 1 + r.length) by omega), if_pos (show i ≤ i ∧ i < i + (s :: r).length by simp only [List.length_cons]; omega), Nat.sub_self, e0]
      omega
    · have hrep : (List.replicate (goS s).toNat i).count j = 0 := by
        rw [List.count_replicate, if_neg (by simpa using e)]
      rw [hrep]
      by_cases h2 : i + 1 ≤ j ∧ j < i + 1 + r.length
      · rw [if_pos h2, if_pos (show i ≤ j ∧ j < i + (s :: r).length by simp only [List.length_cons]; omega)]
        have : sAt (s :: r) (j - i) = sAt r (j - (i + 1)) := by
          rw [show j - i = (j - (i + 1)) + 1 by omega]
          rfl
        rw [this]
        simp
      · rw [if_neg h2, if_neg (show ¬ (i ≤ j ∧ j < i + (s :: r).length) by simp only [List.length_cons]; omega)]
        simp
theorem mem_sendFrom : ∀ (S : List Src) (i j : Nat), j ∈ sendFrom i S → i ≤ j ∧ j < i + S.length := by
  intro S
  induction S with
  | nil => intro i j h; simp [sendFrom] at h
  | cons s r ih =>
    intro i j h
    simp only [sendFrom, List.mem_append, List.mem_replicate] at h
    simp only [List.length_cons]
    rcases h with ⟨_, rfl⟩ | h
    · omega
    · have := ih (i + 1) j h; omega

/-- sums over all sources -/
def sumN (g : Nat → Int) : Nat → Int
  | 0 => 0
  | n + 1 => sumN g n + g n
theorem sumN_congr {g h : Nat → Int} : ∀ {n : Nat}, (∀ i, i < n → g i = h i) → sumN g n = sumN h n := by
  intro n
  induction n with
  | zero => intro _; rfl
  | succ n ih => intro hh; simp only [sumN]; rw [ih (fun i hi => hh i (by omega)), hh n (by omega)]
theorem sumN_one {g h : Nat → Int} {j : Nat} {d : Int} : ∀ {n : Nat}, j < n → (∀ i, i < n → i ≠ j → g i = h i) → g j = h j + d → sumN g n = sumN h n + d := by
  intro n
  induction n with
  | zero => intro hj; omega
  | succ n ih =>
    intro hj hh hd
    simp only [sumN]
    by_cases e : j = n
    · subst e
      rw [sumN_congr (fun i hi => hh i (by omega) (by omega)), hd]; omega
    · rw [ih (by omega) (fun i hi hne => hh i (by omega) hne) hd, hh n (by omega) (fun h => e h.symm)]; omega
theorem sumN_le {g h : Nat → Int} : ∀ {n : Nat}, (∀ i, i < n → g i ≤ h i) → sumN g n ≤ sumN h n := by
  intro n
  induction n with
  | zero => intro _; exact Int.le_refl _
  | succ n ih => intro hh; simp only [sumN]; have := ih (fun i hi => hh i (by omega)); have := hh n (by omega); omega
theorem sumN_lt {g h : Nat → Int} : ∀ {n : Nat}, (∀ i, i < n → g i ≤ h i) → sumN g n < sumN h n → ∃ i, i < n ∧ g i < h i := by
  intro n
  induction n with
  | zero => intro _ hl; simp [sumN] at hl
  | succ n ih =>
    intro hh hl
    simp only [sumN] at hl
    by_cases e : g n < h n
    · exact ⟨n, by omega, e⟩
    · obtain ⟨i, hi, hlt⟩ := ih (fun i hi => hh i (by omega)) (by omega)
      exact ⟨i, by omega, hlt⟩
theorem sumN_eq {g h : Nat → Int} : ∀ {n : Nat}, (∀ i, i < n → g i ≤ h i) → sumN g n = sumN h n → ∀ i, i < n → g i = h i := by
  intro n
  induction n with
  | zero => intro _ _ i hi; omega
  | succ n ih =>
    intro hh he i hi
    simp only [sumN] at he
    have h1 := sumN_le (n := n) (fun i hi => hh i (by omega))
    have h2 := hh n (by omega)
    by_cases e : i = n
    · subst e; omega
    · exact ih (fun i hi => hh i (by omega)) (by omega) i (by omega)
def cameN (S : List Src) (n : Nat) : Int := sumN (fun i => (sAt S i).2.2.2) n

/-- one by one: what waits, and what is yet to come, are under way -/
theorem hand_keeps {n : Nat} {L : Nat → Int} (hL : ∀ i, i < n → L i ≤ 10000) (went wait : Nat) (f : Bool) : ∀ (r : List Nat) (k : Nat) (S : List Src) (W : List Nat), (∀ i ∈ r, i < n) → HasR n L (W ++ r) S →
    HasR n L (W ++ (r.drop (went - k)).take (went + wait - max k went)) (hand went wait f k r S) ∧ cameN (hand went wait f k r S) n = cameN S n + (min (went - k) r.length : Nat) := by
  intro r
  induction r with
  | nil => intro k S W _ h; simp only [hand, List.drop_nil, List.take_nil]; exact ⟨h, by simp⟩
  | cons i r ih =>
    intro k S W hr h
    have hi := hr i (by simp)
    obtain ⟨hl, hh⟩ := h
    obtain ⟨o1, o2, o3⟩ := hh i hi
    have hw : 1 ≤ (sAt S i).2.1 := by
      rw [o2, List.count_append, List.count_cons_self]
      omega
    have hs : sumS (sAt S i) ≤ 10000 := by rw [o3]; exact hL i hi
    have hr' : ∀ j ∈ r, j < n := fun j hj => hr j (by simp [hj])
    -- what a change of that one source makes
    have chg : ∀ s' : Src, okS s' → sumS s' = sumS (sAt S i) → s'.2.1 = (sAt S i).2.1 - 1 → HasR n L (W ++ r) (S.set i s') := by
      intro s' a1 a2 a3
      refine ⟨by rw [List.length_set]; exact hl, fun j hj => ?_⟩
      by_cases e : i = j
      · subst e
        rw [sAt_set_self (by omega)]
        refine ⟨a1, ?_, by rw [a2, o3]⟩
        rw [a3, o2, List.count_append, List.count_append, List.count_cons_self]
        omega
      · rw [sAt_set_ne e]
        obtain ⟨b1, b2, b3⟩ := hh j hj
        refine ⟨b1, ?_, b3⟩
        rw [b2, List.count_append, List.count_append, List.count_cons_of_ne e]
    simp only [hand]
    by_cases h1 : k < went
    · rw [if_pos h1]
      obtain ⟨a1, a2, a3, a4⟩ := ack_ok (f := f) o1 hs hw
      obtain ⟨c1, c2⟩ := ih (k + 1) _ W hr' (chg _ a1 a2 a3)
      have e1 : went - k = (went - (k + 1)) + 1 := by omega
      rw [e1, List.drop_succ_cons, show max k went = max (k + 1) went by omega]
      refine ⟨c1, ?_⟩
      rw [c2]
      have : cameN (S.set i (ackS (sAt S i) f)) n = cameN S n + 1 := sumN_one hi (fun j hj hne => by rw [sAt_set_ne (Ne.symm hne)]) (by rw [sAt_set_self (by omega)]; exact a4)
      rw [this]
      simp only [List.length_cons]
      omega
    · rw [if_neg h1]
      have e0 : went - k = 0 := by omega
      have e0' : went - (k + 1) = 0 := by omega
      by_cases h2 : k < went + wait
      · rw [if_pos h2]
        have hS : HasR n L ((W ++ [i]) ++ r) S := by
          rw [List.append_assoc]
          exact ⟨hl, hh⟩
        obtain ⟨c1, c2⟩ := ih (k + 1) S (W ++ [i]) hr' hS
        rw [e0'] at c1 c2
        rw [e0, List.drop_zero]
        rw [List.drop_zero] at c1
        have e3 : went + wait - max k went = (went + wait - max (k + 1) went) + 1 := by omega
        rw [e3, List.take_succ_cons]
        refine ⟨by rwa [List.append_assoc] at c1, ?_⟩
        rw [c2]; simp
      · rw [if_neg h2]
        obtain ⟨a1, a2, a3, a4⟩ := los_ok o1 hs hw
        obtain ⟨c1, c2⟩ := ih (k + 1) _ W hr' (chg _ a1 a2 a3)
        rw [e0'] at c1 c2
        have e3 : went + wait - max k went = 0 := by omega
        have e4 : went + wait - max (k + 1) went = 0 := by omega
        rw [e4, List.take_zero] at c1
        rw [e3, List.take_zero]
        refine ⟨c1, ?_⟩
        rw [c2]
        have : cameN (S.set i (losS (sAt S i))) n = cameN S n := by
          have := sumN_one (g := fun j => (sAt (S.set i (losS (sAt S i))) j).2.2.2) (h := fun j => (sAt S j).2.2.2) (j := i) (d := 0) hi (fun j hj hne => by show (sAt (S.set i (losS (sAt S i))) j).2.2.2 = (sAt S j).2.2.2; rw [sAt_set_ne (Ne.symm hne)]) (by show (sAt (S.set i (losS (sAt S i))) i).2.2.2 = (sAt S i).2.2.2 + 0; rw [sAt_set_self (by omega), a4]; omega)
          simpa [cameN] using this
        rw [this, e0]; simp

/-- what holds of a road behind each tick -/
structure RoadInv (n : Nat) (L : Nat → Int) (room cap : Int) (R : Road) : Prop where
  has : HasR n L R.row R.S
  rows : ∀ i ∈ R.row, i < n
  waits : R.wait = R.row.length
  rooms : R.room = room
  caps : R.cap = cap
  pool : poolE room cap R.wait = 0
theorem row_inv {n : Nat} {L : Nat → Int} {room cap : Int} {R : Road} (hL : ∀ i, i < n → L i ≤ 10000) (h : RoadInv n L room cap R) : HasR n L (rowR R) (R.S.map sentS) ∧ (∀ i ∈ rowR R, i < n) ∧ cameN (R.S.map sentS) n = cameN R.S n := by
  obtain ⟨hl, hh⟩ := h.has
  have hok : ∀ k, k < R.S.length → okS (sAt R.S k) := fun k hk => (hh k (by omega)).1
  refine ⟨⟨by rw [List.length_map]; exact hl, fun i hi => ?_⟩, fun i hi => ?_, ?_⟩
  · obtain ⟨o1, o2, o3⟩ := hh i hi
    obtain ⟨a1, a2, a3⟩ := sent_ok o1 (by rw [o3]; exact hL i hi)
    rw [sAt_map (by omega)]
    refine ⟨a1, ?_, by rw [a2, o3]⟩
    have := count_sendFrom R.S 0 i hok
    rw [if_pos (by omega), Nat.sub_zero] at this
    rw [a3, o2, rowR, List.count_append, Int.natCast_add, this]
  · rcases List.mem_append.1 hi with h' | h'
    · exact h.rows i h'
    · have := mem_sendFrom R.S 0 i h'; omega
  · exact sumN_congr (fun i hi => by rw [sAt_map (by omega)]; rfl)
theorem road_tick {n : Nat} {L : Nat → Int} {room cap : Int} {R : Road} (hL : ∀ i, i < n → L i ≤ 10000) (h : RoadInv n L room cap R) :
    RoadInv n L room cap (tickR R) ∧ cameN (tickR R).S n = cameN R.S n + wentR R (rowR R).length ∧ 0 ≤ wentR R (rowR R).length ∧ wentR R (rowR R).length ≤ cap ∧ 0 ≤ lostR R (rowR R).length ∧ (tickR R).wait = waitR R (rowR R).length ∧
      (cameN R.S n < sumN L n → 1 ≤ wentR R (rowR R).length) := by
  obtain ⟨hR, hm, hc⟩ := row_inv hL h
  have hp := poolE_0.1 h.pool
  have hrm := h.rooms
  have hcp := h.caps
  have w0 : 0 ≤ wentR R (rowR R).length ∧ wentR R (rowR R).length ≤ (rowR R).length ∧ wentR R (rowR R).length ≤ cap := by unfold wentR; split <;> omega
  have v0 : 0 ≤ waitR R (rowR R).length ∧ waitR R (rowR R).length ≤ (rowR R).length - wentR R (rowR R).length ∧ waitR R (rowR R).length ≤ room := by unfold waitR; split <;> omega
  obtain ⟨k1, k2⟩ := hand_keeps hL (wentR R (rowR R).length).toNat (waitR R (rowR R).length).toNat (fastR R) (rowR R) 0 (R.S.map sentS) [] hm (by simpa using hR)
  rw [List.nil_append, Nat.sub_zero, show (wentR R (rowR R).length).toNat + (waitR R (rowR R).length).toNat - max 0 (wentR R (rowR R).length).toNat = (waitR R (rowR R).length).toNat by omega] at k1
  refine ⟨⟨k1, fun i hi => hm i (List.mem_of_mem_drop (List.mem_of_mem_take hi)), ?_, h.rooms, h.caps, poolE_0.2 ?_⟩, ?_, w0.1, w0.2.2, ?_, rfl, fun hlt => ?_⟩
  · simp only [tickR, List.length_take, List.length_drop]
    omega
  · simp only [tickR]; omega
  · simp only [tickR]
    rw [k2, hc, Nat.sub_zero]
    omega
  · unfold lostR; omega
  · -- something is under way, or goes
    obtain ⟨i, hi, hlt'⟩ := sumN_lt (g := fun i => (sAt R.S i).2.2.2) (h := L) (fun i hi => by
      obtain ⟨o1, o2, o3⟩ := h.has.2 i hi
      have := srcE_0.1 o1
      unfold sumS at o3
      omega) hlt
    obtain ⟨o1, o2, o3⟩ := h.has.2 i hi
    have hs := srcE_0.1 o1
    unfold sumS at o3
    have hpos : 1 ≤ (rowR R).length := by
      by_cases hz : (sAt R.S i).2.1 = 0
      · have hg := (go_bd o1).2.2 (by have hlt'' : (sAt R.S i).2.2.2 < L i := hlt'; omega) hz
        have hcnt := count_sendFrom R.S 0 i (fun k hk => (h.has.2 k (by have := h.has.1; omega)).1)
        rw [if_pos (by have := h.has.1; omega), Nat.sub_zero] at hcnt
        have : (sendFrom 0 R.S).count i ≤ (sendFrom 0 R.S).length := List.count_le_length
        simp only [rowR, List.length_append]
        omega
      · have : R.row.count i ≤ R.row.length := List.count_le_length
        simp only [rowR, List.length_append]
        omega
    unfold wentR
    split <;> omega
/-- behind so many ticks at least as many came, or all -/
theorem road_ticks {n : Nat} {L : Nat → Int} {room cap : Int} {R : Road} (hL : ∀ i, i < n → L i ≤ 10000) (h : RoadInv n L room cap R) (h0 : 0 ≤ cameN R.S n) : ∀ k : Nat, RoadInv n L room cap (ticksR R k) ∧ cameN (ticksR R k).S n ≤ sumN L n ∧ (cameN (ticksR R k).S n < sumN L n → (k : Int) ≤ cameN (ticksR R k).S n) := by
  have hle : ∀ Q : Road, RoadInv n L room cap Q → cameN Q.S n ≤ sumN L n := fun Q hq => sumN_le (fun i hi => by
    obtain ⟨o1, o2, o3⟩ := hq.has.2 i hi
    have := srcE_0.1 o1
    unfold sumS at o3
    omega)
  intro k
  induction k with
  | zero => exact ⟨h, hle _ h, fun _ => by simpa [ticksR] using h0⟩
  | succ k ih =>
    obtain ⟨i1, i2, i3⟩ := ih
    obtain ⟨t1, t2, t3, t4, t5, t6, t7⟩ := road_tick hL i1
    refine ⟨t1, hle _ t1, fun hlt => ?_⟩
    simp only [ticksR] at hlt ⊢
    rw [t2] at hlt ⊢
    have := t7 (by omega)
    have := i3 (by omega)
    omega
/-- when all came nothing is left, or under way, or waits -/
theorem road_done {n : Nat} {L : Nat → Int} {room cap : Int} {R : Road} (h : RoadInv n L room cap R) (he : cameN R.S n = sumN L n) : (∀ i, i < n → (sAt R.S i).2.2.2 = L i ∧ (sAt R.S i).2.1 = 0 ∧ (sAt R.S i).2.2.1 = 0) ∧ R.row = [] ∧ R.wait = 0 := by
  have hi' : ∀ i, i < n → (sAt R.S i).2.2.2 = L i ∧ (sAt R.S i).2.1 = 0 ∧ (sAt R.S i).2.2.1 = 0 := fun i hi => by
    have e := sumN_eq (g := fun i => (sAt R.S i).2.2.2) (h := L) (fun i hi => by
      obtain ⟨o1, o2, o3⟩ := h.has.2 i hi
      have := srcE_0.1 o1
      unfold sumS at o3
      omega) he i hi
    have e' : (sAt R.S i).2.2.2 = L i := e
    obtain ⟨o1, o2, o3⟩ := h.has.2 i hi
    have := srcE_0.1 o1
    unfold sumS at o3
    omega
  have hrow : R.row = [] := by
    cases hr : R.row with
    | nil => rfl
    | cons i r =>
      exfalso
      have hi := h.rows i (by rw [hr]; simp)
      have h2 := (h.has.2 i hi).2.1
      rw [(hi' i hi).2.1, hr, List.count_cons_self] at h2
      omega
  exact ⟨hi', hrow, by rw [h.waits, hrow]; rfl⟩
end Go.Proofs.YtkpmjmgmgkdfnajDoor.Ev

/- Slices of int, slices of these, and a net: what a walk is told of them, and what stays of it. -/
namespace Go.Proofs.YtkpmjmgmgkdfnajDoor
namespace Ns
open Go.RowKit
set_option linter.unusedSimpArgs false
set_option linter.unusedVariables false

/-- the slice v holds the numbers l in the world w, in a block of which Q holds -/
def IntsAt (Q : Nat → Prop) (w : World) (v : Value) (l : List Int) : Prop :=
  ∃ a cap, v = .slice a l.length cap ∧ (l.length ≤ cap ∧ l.length ≤ 9223372036854775807) ∧
    (l = [] ∨ ∃ b off, a = some ⟨b, off, none⟩ ∧ (∀ i, i < l.length → w.cell? ⟨b, off + i, none⟩ = some (.int .i64 (l.getD i 0))) ∧ Q b)

theorem IntsAt.later {Q : Nat → Prop} {w w' : World} {v : Value} {l : List Int} (hb : Below w.heap.size w w') (h : IntsAt Q w v l) : IntsAt Q w' v l := by
  obtain ⟨a, cap, rfl, hm, h⟩ := h
  refine ⟨a, cap, rfl, hm, ?_⟩
  rcases h with h | ⟨b, off, rfl, h, hQ⟩
  · exact .inl h
  · exact .inr ⟨b, off, rfl, fun i hi => cell_later hb (h i hi), hQ⟩
/-- only the blocks of which Q holds matter -/
theorem IntsAt.keep {Q R : Nat → Prop} {w w' : World} {v : Value} {l : List Int} (hk : ∀ b, Q b → b < w.heap.size → w'.heap[b]? = w.heap[b]?) (hQR : ∀ b, Q b → b < w.heap.size → R b) (h : IntsAt Q w v l) : IntsAt R w' v l := by
  obtain ⟨a, cap, rfl, hm, h⟩ := h
  refine ⟨a, cap, rfl, hm, ?_⟩
  rcases h with h | ⟨b, off, rfl, h, hQ⟩
  · exact .inl h
  · by_cases hl : l = []
    · exact .inl hl
    · have hb : b < w.heap.size := World.block_lt_of_cell? _ _ (h 0 (List.length_pos_iff.2 hl))
      refine .inr ⟨b, off, rfl, fun i hi => ?_, hQR b hQ hb⟩
      rw [World.cell?_of_block (w := w) (a := ⟨b, off + i, none⟩) (hk b hQ hb)]
      exact h i hi

theorem ret_bool {a b : Bool} (h : a = b) : Ending.returned (.bool a) = .returned (.bool b) := by rw [h]
theorem ret_int {k : IntKind} {a b : Int} (h : a = b) : Ending.returned (.int k a) = .returned (.int k b) := by rw [h]

theorem IntsAt.take {Q : Nat → Prop} {w : World} {b off cap : Nat} {l : List Int} (hm : l.length ≤ cap) (hm2 : l.length ≤ 9223372036854775807) (h : ∀ i, i < l.length → w.cell? ⟨b, off + i, none⟩ = some (.int .i64 (l.getD i 0))) (k : Nat) (hk : k ≤ l.length) (hQ : Q b) :
    IntsAt Q w (.slice (some ⟨b, off, none⟩) k cap) (l.take k) := by
  refine ⟨_, cap, by rw [List.length_take, Nat.min_eq_left hk], ⟨by rw [List.length_take]; omega, by rw [List.length_take]; omega⟩, .inr ⟨b, off, rfl, fun i hi => ?_, hQ⟩⟩
  rw [List.length_take] at hi
  rw [h i (by omega)]
  congr 2
  simp [List.getD, List.getElem?_take, show i < k by omega]

/-- the slice v holds the lists ll in the world w -/
def ListsAt (Q : Nat → Prop) (w : World) (v : Value) (ll : List (List Int)) : Prop :=
  ∃ a cap, v = .slice a ll.length cap ∧ (ll.length ≤ cap ∧ ll.length ≤ 9223372036854775807) ∧
    (ll = [] ∨ ∃ b off, a = some ⟨b, off, none⟩ ∧ (∀ i, i < ll.length → ∃ x, w.cell? ⟨b, off + i, none⟩ = some x ∧ IntsAt Q w x (ll.getD i [])) ∧ Q b)

theorem ListsAt.later {Q : Nat → Prop} {w w' : World} {v : Value} {l : List (List Int)} (hb : Below w.heap.size w w') (h : ListsAt Q w v l) : ListsAt Q w' v l := by
  obtain ⟨a, cap, rfl, hm, h⟩ := h
  refine ⟨a, cap, rfl, hm, ?_⟩
  rcases h with h | ⟨b, off, rfl, h, hQ⟩
  · exact .inl h
  · refine .inr ⟨b, off, rfl, fun i hi => ?_, hQ⟩
    obtain ⟨x, hx, hi⟩ := h i hi
    exact ⟨x, cell_later hb hx, hi.later hb⟩
theorem ListsAt.keep {Q R : Nat → Prop} {w w' : World} {v : Value} {l : List (List Int)} (hk : ∀ b, Q b → b < w.heap.size → w'.heap[b]? = w.heap[b]?) (hQR : ∀ b, Q b → b < w.heap.size → R b) (h : ListsAt Q w v l) : ListsAt R w' v l := by
  obtain ⟨a, cap, rfl, hm, h⟩ := h
  refine ⟨a, cap, rfl, hm, ?_⟩
  rcases h with h | ⟨b, off, rfl, h, hQ⟩
  · exact .inl h
  · by_cases hl : l = []
    · exact .inl hl
    · obtain ⟨x0, hx0, _⟩ := h 0 (List.length_pos_iff.2 hl)
      have hb : b < w.heap.size := World.block_lt_of_cell? _ _ hx0
      refine .inr ⟨b, off, rfl, fun i hi => ?_, hQR b hQ hb⟩
      obtain ⟨x, hx, hxi⟩ := h i hi
      exact ⟨x, by rw [World.cell?_of_block (w := w) (a := ⟨b, off + i, none⟩) (hk b hQ hb)]; exact hx, hxi.keep hk hQR⟩

/-- the value v is the net of these links and paths in the world w -/
def NetAt (Q : Nat → Prop) (w : World) (v : Value) (caps : List Int) (paths : List (List Int)) : Prop :=
  ∃ v1 v2, v = .agg #[v1, v2] ∧ IntsAt Q w v1 caps ∧ ListsAt Q w v2 paths
theorem NetAt.later {Q : Nat → Prop} {w w' : World} {v : Value} {c : List Int} {l : List (List Int)} (hb : Below w.heap.size w w') (h : NetAt Q w v c l) : NetAt Q w' v c l := by
  obtain ⟨v1, v2, rfl, h1, h2⟩ := h
  exact ⟨v1, v2, rfl, h1.later hb, h2.later hb⟩
theorem NetAt.keep {Q R : Nat → Prop} {w w' : World} {v : Value} {c : List Int} {l : List (List Int)} (hk : ∀ b, Q b → b < w.heap.size → w'.heap[b]? = w.heap[b]?) (hQR : ∀ b, Q b → b < w.heap.size → R b) (h : NetAt Q w v c l) : NetAt R w' v c l := by
  obtain ⟨v1, v2, rfl, h1, h2⟩ := h
  exact ⟨v1, v2, rfl, h1.keep hk hQR, h2.keep hk hQR⟩
/-- a store into a block of which Q does not hold -/
theorem NetAt.setCell {Q : Nat → Prop} {w : World} {v : Value} {c : List Int} {l : List (List Int)} (h : NetAt Q w v c l) {a : Addr} (ha : ¬ Q a.block) (u : Value) : NetAt Q (w.setCell a u) v c l :=
  h.keep (fun b hb _ => Below.heap_setCell w a u b (fun e => ha (e ▸ hb))) (fun _ h _ => h)

theorem NetAt.shape {Q : Nat → Prop} {w : World} {v : Value} {c : List Int} {l : List (List Int)} (h : NetAt Q w v c l) : ∃ a n k a' n' k', v = .agg #[.slice a n k, .slice a' n' k'] := by
  obtain ⟨_, _, rfl, ⟨_, _, rfl, _⟩, ⟨_, _, rfl, _⟩⟩ := h
  exact ⟨_, _, _, _, _, _, rfl⟩
theorem pathsFrom_cons (L : Int) (l : List (List Int)) (k : Nat) (h : k < l.length) :
    pathsFrom L (l.drop k) = if pathE L (l.getD k []) = 0 then pathsFrom L (l.drop (k + 1)) else pathE L (l.getD k []) := by
  rw [drop_cons l k h []]; rfl

theorem infoInt : (Tryd.prog.info? 3).map (fun i => (i.zero, i.size, i.bytes)) = some (some (.int .i64 0), 1, 8) := by kernel_rfl

/-- a row of ints that the call owns is a list -/
theorem ints_of_owns {Q : Nat → Prop} {w : World} {base : Nat} {v : Value} {l : List Int} (hl : l.length ≤ 9223372036854775807) (h : w.ownsRow base 3 1 v l.length (l.map (Value.int .i64))) (hQ : ∀ g, base ≤ g → Q g) : IntsAt Q w v l := by
  have h' := h
  obtain ⟨h0, h⟩ := h
  rcases h with ⟨rfl, h⟩ | ⟨g, cap, cur, rfl, hb, hg, hc, hm, hs, ht⟩
  · have : l = [] := List.eq_nil_of_length_eq_zero h
    subst this
    exact ⟨none, 0, rfl, ⟨Nat.le_refl _, by simp⟩, .inl rfl⟩
  · refine ⟨_, cap, rfl, ⟨hc, hl⟩, .inr ⟨g, 0, rfl, fun i hi => ?_, hQ g hb⟩⟩
    have := h'.cells (g := g) rfl i (.int .i64 (l.getD i 0)) (by simp [List.getD, List.getElem?_eq_getElem hi])
    have e : (⟨g, 0, none⟩ : Addr).add i = ⟨g, 0 + i, none⟩ := by unfold Addr.add; split <;> simp_all
    rw [e] at this
    exact this

/-- behind an append to a row of the call's own nothing below has turned -/
theorem rel_append {B : Nat} {W wr w1 : World} {e : TypeId} {sz n : Nat} {v : Value} {xs : List Value} {o : Obj} (hb : Below B W wr) (hs : B ≤ wr.heap.size) (ho : wr.ownsRow B e sz v n xs) (hg : (wr.alloc o).grownBy w1 v.ownBlock) : Below B W w1 :=
  (hb.alloc hs o).grown hg (by simp; omega) (fun k hk => (ho.lt k hk).1)

theorem users_step (paths : List (List Int)) (link : Int) (k : Nat) (h : k < paths.length) :
    users (paths.take (k + 1)) link = users (paths.take k) link ++ (if inB (paths.getD k []) link then [(k : Int)] else []) := by
  unfold users
  rw [take_snoc paths k h [], usersFrom_snoc]
  have : 0 + (paths.take k).length = k := by rw [List.length_take]; omega
  rw [this]

/-- the values in the cells of a list of lists -/
theorem ListsAt.vals {Q : Nat → Prop} {w : World} {v : Value} {ll : List (List Int)} (h : ListsAt Q w v ll) (hne : ll ≠ []) :
    ∃ b off cap vs, v = .slice (some ⟨b, off, none⟩) ll.length cap ∧ ll.length ≤ cap ∧ List.length vs = ll.length ∧ ∀ i, i < ll.length → w.cell? ⟨b, off + i, none⟩ = some (vs.getD i undef) ∧ IntsAt Q w (vs.getD i undef) (ll.getD i []) := by
  obtain ⟨a, cap, rfl, ⟨hm, hm2⟩, h⟩ := h
  rcases h with h | ⟨b, off, rfl, h, hQ⟩
  · exact absurd h hne
  · refine ⟨b, off, cap, (List.range ll.length).map (fun i => (w.cell? ⟨b, off + i, none⟩).getD undef), rfl, hm, by simp, fun i hi => ?_⟩
    obtain ⟨x, hx, hi'⟩ := h i hi
    have e : ((List.range ll.length).map (fun i => (w.cell? ⟨b, off + i, none⟩).getD undef)).getD i undef = x := by
      simp [List.getD, List.getElem?_range hi, hx]
    rw [e]
    exact ⟨hx, hi'⟩

theorem add_addr (b off i : Nat) : (⟨b, off, none⟩ : Addr).add i = ⟨b, off + i, none⟩ := by unfold Addr.add; split <;> simp_all

theorem ones {Q : Nat → Prop} {w : World} {vs : List Value} {ll : List (List Int)} (hl : vs.length = ll.length) (h : ∀ i, i < ll.length → IntsAt Q w (vs.getD i undef) (ll.getD i [])) : ∀ u ∈ vs, u.oneCell' = true := by
  intro u hu
  obtain ⟨i, hi, rfl⟩ := List.mem_iff_getElem.1 hu
  obtain ⟨a, c, e, _⟩ := h i (by omega)
  have : vs[i] = vs.getD i undef := by simp [List.getD, List.getElem?_eq_getElem hi]
  rw [this, e]
  rfl

theorem ints_snoc {Q : Nat → Prop} {w : World} {vs : List Value} {ll : List (List Int)} {v : Value} {l : List Int} (hl : vs.length = ll.length) (h : ∀ i, i < ll.length → IntsAt Q w (vs.getD i undef) (ll.getD i [])) (hv : IntsAt Q w v l) :
    ∀ i, i < (ll ++ [l]).length → IntsAt Q w ((vs ++ [v]).getD i undef) ((ll ++ [l]).getD i []) := by
  intro i hi
  by_cases hlt : i < ll.length
  · have e1 : (vs ++ [v]).getD i undef = vs.getD i undef := by simp [List.getD, List.getElem?_append_left (show i < vs.length by omega)]
    have e2 : (ll ++ [l]).getD i [] = ll.getD i [] := by simp [List.getD, List.getElem?_append_left hlt]
    rw [e1, e2]; exact h i hlt
  · have hi' : i = ll.length := by simp at hi; omega
    subst hi'
    have e1 : (vs ++ [v]).getD ll.length undef = v := by rw [← hl]; simp [List.getD]
    have e2 : (ll ++ [l]).getD ll.length [] = l := by simp [List.getD]
    rw [e1, e2]; exact hv
end Ns
end Go.Proofs.YtkpmjmgmgkdfnajDoor

/- An error as a value, and old memory behind a contract. -/
namespace Go.Proofs.YtkpmjmgmgkdfnajDoor
namespace Fr
open Go.RowKit

/-- an error value: none, or the number in an api.Errno -/
def errV (k : Int) : Value := if k = 0 then .nilIface else .iface 54 (.int .i64 k)
theorem errV_0 : errV 0 = .nilIface := rfl
theorem errV_ne {k : Int} (h : k ≠ 0) : errV k = .iface 54 (.int .i64 k) := by simp [errV, h]

theorem bcell {W w1 : World} (hb : Below W.heap.size W w1) : (∀ b o, b < W.heap.size → w1.cell? ⟨b, o, none⟩ = W.cell? ⟨b, o, none⟩) ∧ (∀ b o, b < W.heap.size → w1.frozen? ⟨b, o, none⟩ = W.frozen? ⟨b, o, none⟩) :=
  ⟨fun b o h => hb.cell (p := ⟨b, o, none⟩) h, fun b o h => hb.frozen (p := ⟨b, o, none⟩) h⟩

end Fr
end Go.Proofs.YtkpmjmgmgkdfnajDoor

/- Small laws on worlds behind calls: what lies below stays. -/
namespace Go.Proofs.YtkpmjmgmgkdfnajDoor
namespace Bel
open Go.RowKit
theorem more {B : Nat} {W u : World} (h : Below B W u) (hB : B ≤ W.heap.size) (o : Obj) : Below B W (u.alloc o) := h.alloc (Nat.le_trans hB h.size) o
theorem call {B : Nat} {W u u' : World} (h : Below B W u) (hB : B ≤ W.heap.size) (hc : Below u.heap.size u u') : Below B W u' := h.trans (hc.mono (Nat.le_trans hB h.size))
end Bel
end Go.Proofs.YtkpmjmgmgkdfnajDoor

/- A call that changes memory of its thing's own alone. -/
namespace Go.Proofs.YtkpmjmgmgkdfnajDoor
namespace Ev
open Go.RowKit
set_option linter.unusedVariables false

/-- but in some blocks the memory is as it was -/
def ButIn (F : Nat → Prop) (w w' : World) : Prop := Below 0 w w' ∧ ∀ b, b < w.heap.size → ¬ F b → w'.heap[b]? = w.heap[b]?
theorem ButIn.below {F : Nat → Prop} {w w' : World} {B : Nat} (h : ButIn F w w') (hF : ∀ b, F b → B ≤ b) (hB : B ≤ w.heap.size) : Below B w w' :=
  ⟨h.1.os, h.1.tape, h.1.output, h.1.size, fun k hk => h.2 k (by omega) (fun hf => by have := hF k hf; omega)⟩
theorem ButIn.of_below {F : Nat → Prop} {w w' : World} (h : Below w.heap.size w w') : ButIn F w w' := ⟨h.mono (Nat.zero_le _), fun b hb _ => h.block b hb⟩
theorem ButIn.refl (F : Nat → Prop) (w : World) : ButIn F w w := ⟨Below.refl _ _, fun _ _ _ => rfl⟩
end Ev
end Go.Proofs.YtkpmjmgmgkdfnajDoor

/- Some over one link: slices of sources, as a walk meets them; and what New tells. -/
namespace Go.Proofs.YtkpmjmgmgkdfnajDoor
namespace Ev
open Go.RowKit Fr Ns Ld Fl
set_option linter.unusedSimpArgs false
set_option linter.unusedVariables false

/-- a source as a value -/
def srcV (s : Src) : Value := .agg #[.int .i64 s.1, .int .i64 s.2.1, .int .i64 s.2.2.1, .int .i64 s.2.2.2]
/-- the source s lies at that place -/
def SrcAt (w : World) (b o : Nat) (s : Src) : Prop := w.cell? ⟨b, o, none⟩ = some (.int .i64 s.1) ∧ w.cell? ⟨b, o + 1, none⟩ = some (.int .i64 s.2.1) ∧ w.cell? ⟨b, o + 2, none⟩ = some (.int .i64 s.2.2.1) ∧ w.cell? ⟨b, o + 3, none⟩ = some (.int .i64 s.2.2.2)
/-- the slice v holds the sources l in the world w, in a block of which Q holds -/
def SrcsAt (Q : Nat → Prop) (w : World) (v : Value) (l : List Src) : Prop :=
  ∃ a cap, v = .slice a l.length cap ∧ (l.length ≤ cap ∧ l.length ≤ 9223372036854775807) ∧
    (l = [] ∨ ∃ b off, a = some ⟨b, off, none⟩ ∧ (∀ i, i < l.length → SrcAt w b (off + i * 4) (sAt l i)) ∧ Q b)
theorem SrcAt.later {w w' : World} {b o : Nat} {s : Src} (hb : Below w.heap.size w w') (h : SrcAt w b o s) : SrcAt w' b o s := ⟨cell_later hb h.1, cell_later hb h.2.1, cell_later hb h.2.2.1, cell_later hb h.2.2.2⟩
theorem SrcAt.keep {w w' : World} {b o : Nat} {s : Src} (hk : w'.heap[b]? = w.heap[b]?) (h : SrcAt w b o s) : SrcAt w' b o s := by
  refine ⟨?_, ?_, ?_, ?_⟩
  · rw [World.cell?_of_block (w := w) (a := ⟨b, o, none⟩) hk]; exact h.1
  · rw [World.cell?_of_block (w := w) (a := ⟨b, o + 1, none⟩) hk]; exact h.2.1
  · rw [World.cell?_of_block (w := w) (a := ⟨b, o + 2, none⟩) hk]; exact h.2.2.1
  · rw [World.cell?_of_block (w := w) (a := ⟨b, o + 3, none⟩) hk]; exact h.2.2.2
theorem SrcAt.lt {w : World} {b o : Nat} {s : Src} (h : SrcAt w b o s) : b < w.heap.size := World.block_lt_of_cell? _ _ h.1
theorem SrcsAt.later {Q : Nat → Prop} {w w' : World} {v : Value} {l : List Src} (hb : Below w.heap.size w w') (h : SrcsAt Q w v l) : SrcsAt Q w' v l := by
  obtain ⟨a, cap, rfl, hm, h⟩ := h
  refine ⟨a, cap, rfl, hm, ?_⟩
  rcases h with h | ⟨b, off, rfl, h, hQ⟩
  · exact .inl h
  · exact .inr ⟨b, off, rfl, fun i hi => (h i hi).later hb, hQ⟩
theorem SrcsAt.keep {Q R : Nat → Prop} {w w' : World} {v : Value} {l : List Src} (hk : ∀ b, Q b → b < w.heap.size → w'.heap[b]? = w.heap[b]?) (hQR : ∀ b, Q b → b < w.heap.size → R b) (h : SrcsAt Q w v l) : SrcsAt R w' v l := by
  obtain ⟨a, cap, rfl, hm, h⟩ := h
  refine ⟨a, cap, rfl, hm, ?_⟩
  rcases h with h | ⟨b, off, rfl, h, hQ⟩
  · exact .inl h
  · by_cases hl : l = []
    · exact .inl hl
    · have hb : b < w.heap.size := (h 0 (List.length_pos_iff.2 hl)).lt
      exact .inr ⟨b, off, rfl, fun i hi => (h i hi).keep (hk b hQ hb), hQR b hQ hb⟩
/-- the fault of some sources, one by one -/
def srcsE : List Src → Int
  | [] => 0
  | s :: r => if srcE s.1 s.2.1 s.2.2.1 s.2.2.2 = 0 then (if s.2.1 ≠ 0 ∨ s.2.2.2 ≠ 0 then 3 else srcsE r) else srcE s.1 s.2.1 s.2.2.1 s.2.2.2
/-- what New tells -/
def newE (S : List Src) (room cap wait : Int) : Int :=
  if S.length = 0 then 5 else if 6 < S.length then 4 else if srcsE S = 0 then (if poolE room cap wait = 0 then (if wait ≠ 0 then 3 else 0) else poolE room cap wait) else srcsE S
def road0 (S : List Src) (room cap wait : Int) : Road := ⟨S, room, cap, wait, []⟩
theorem srcsE_0 : ∀ {S : List Src}, srcsE S = 0 → ∀ i, i < S.length → okS (sAt S i) ∧ (sAt S i).2.1 = 0 ∧ (sAt S i).2.2.2 = 0 := by
  intro S
  induction S with
  | nil => intro _ i hi; simp at hi
  | cons s r ih =>
    intro h i hi
    simp only [srcsE] at h
    split at h
    · rename_i h1
      split at h
      · omega
      · rename_i h2
        cases i with
        | zero => exact ⟨h1, by show s.2.1 = 0; omega, by show s.2.2.2 = 0; omega⟩
        | succ i => exact ih h i (by simpa using hi)
    · contradiction
theorem newE_0 {S : List Src} {room cap wait : Int} (h : newE S room cap wait = 0) : 0 < S.length ∧ S.length ≤ 6 ∧ poolE room cap wait = 0 ∧ wait = 0 ∧ ∀ i, i < S.length → okS (sAt S i) ∧ (sAt S i).2.1 = 0 ∧ (sAt S i).2.2.2 = 0 := by
  unfold newE at h
  split at h
  · omega
  · split at h
    · omega
    · split at h
      · split at h
        · split at h
          · omega
          · refine ⟨by omega, by omega, by assumption, by omega, srcsE_0 (by assumption)⟩
        · contradiction
      · contradiction
/-- what each has to send -/
def leftN (S : List Src) (i : Nat) : Int := (sAt S i).2.2.1
theorem road0_inv {S : List Src} {room cap wait : Int} (h : newE S room cap wait = 0) : RoadInv S.length (leftN S) room cap (road0 S room cap wait) ∧ (∀ i, i < S.length → leftN S i ≤ 10000) ∧ cameN S S.length = 0 := by
  obtain ⟨h1, h2, h3, h4, h5⟩ := newE_0 h
  refine ⟨⟨⟨rfl, fun i hi => ?_⟩, by simp [road0], by simp [road0, h4], rfl, rfl, h3⟩, fun i hi => ?_, ?_⟩
  · obtain ⟨a1, a2, a3⟩ := h5 i hi
    refine ⟨a1, by simp [road0, a2], ?_⟩
    show (sAt S i).2.1 + (sAt S i).2.2.1 + (sAt S i).2.2.2 = _
    rw [a2, a3]; simp [leftN]
  · have := srcE_0.1 (h5 i hi).1
    unfold leftN
    omega
  · have : cameN S S.length = sumN (fun _ => 0) S.length := sumN_congr (fun i hi => (h5 i hi).2.2)
    rw [this]
    generalize S.length = n
    induction n with
    | zero => rfl
    | succ n ih => simp only [sumN, ih]; rfl
/-- a road is right: there are so many sources, each with so much -/
def RightR (R : Road) : Prop := ∃ L, R.S.length ≤ 6 ∧ (∀ i, i < R.S.length → L i ≤ 10000) ∧ RoadInv R.S.length L R.room R.cap R
/-- a road as package road has it: what of the memory is its own only the package knows -/
structure RoadFace where
  Inv : World → Value → (Nat → Prop) → Road → Prop
  lt : ∀ {w p F R}, Inv w p F R → ∀ b, F b → b < w.heap.size
  keep : ∀ {w w' p F R}, Inv w p F R → (∀ b, F b → w'.heap[b]? = w.heap[b]?) → Inv w' p F R
  ptr : ∀ {w p F R}, Inv w p F R → ∃ a, p = .pointer (some a)
theorem RoadFace.later (X : RoadFace) {w w' : World} {p : Value} {F : Nat → Prop} {R : Road} (hb : Below w.heap.size w w') (h : X.Inv w p F R) : X.Inv w' p F R := X.keep h (fun b hb' => hb.block b (X.lt h b hb'))
def goneV (R : Road) : Value := .agg #[.int .i64 (wentR R (rowR R).length), .int .i64 (lostR R (rowR R).length), .int .i64 (waitR R (rowR R).length)]
def atI (n : Nat) (i : Int) : Int := if i < 0 ∨ (n : Int) ≤ i then 1 else 0
def okS4 (k : Int) (s : Src) : Src := if k = 0 then s else (0, 0, 0, 0)
end Ev
end Go.Proofs.YtkpmjmgmgkdfnajDoor

/- What is asked of package road's New, as the document says it. -/
namespace Go.Proofs.YtkpmjmgmgkdfnajDoor
namespace Ev
open Go.RowKit Fr Ns Ld Fl
/-- what New hands out -/
def Made (X : RoadFace) (S : List Src) (room cap wait : Int) (w w' : World) (e : Ending) : Prop :=
  ∃ p, e = .returned (.tuple #[p, errV (newE S room cap wait)]) ∧ (∃ a, p = .pointer a) ∧ (newE S room cap wait = 0 → ∃ F, X.Inv w' p F (road0 S room cap wait) ∧ ∀ b, F b → w.heap.size ≤ b) ∧ Below w.heap.size w w'
def RNewSaid (X : RoadFace) : Prop := ∀ (Q : Nat → Prop) (S : List Src) (room cap wait : Int) (v : Value) (w : World), SrcsAt Q w v S →
  Calls Tryd.prog 5 #[v, .agg #[.int .i64 room, .int .i64 cap, .int .i64 wait]] w fun e w' => Made X S room cap wait w w' e
end Ev
end Go.Proofs.YtkpmjmgmgkdfnajDoor

/- What is asked of package road's Tick, as the document says it. -/
namespace Go.Proofs.YtkpmjmgmgkdfnajDoor
namespace Ev
open Go.RowKit Fr Ns Ld Fl
/-- what Tick leaves -/
def Ticked (X : RoadFace) (p : Value) (F : Nat → Prop) (R : Road) (w w' : World) : Prop := ∃ F', X.Inv w' p F' (tickR R) ∧ (∀ b, F' b → F b ∨ w.heap.size ≤ b) ∧ ButIn F w w'
def RTickSaid (X : RoadFace) : Prop := ∀ (p : Value) (F : Nat → Prop) (R : Road) (w : World), X.Inv w p F R → RightR R →
  Calls Tryd.prog 8 #[p] w fun e w' => e = .returned (goneV R) ∧ Ticked X p F R w w'
end Ev
end Go.Proofs.YtkpmjmgmgkdfnajDoor

/- What is asked of package road's Source, Pool and Waits, as the document says it. -/
namespace Go.Proofs.YtkpmjmgmgkdfnajDoor
namespace Ev
open Go.RowKit Fr Ns Ld Fl
def RSourceSaid (X : RoadFace) : Prop := ∀ (p : Value) (F : Nat → Prop) (R : Road) (i : Int) (w : World), X.Inv w p F R → RightR R →
  Calls Tryd.prog 12 #[p, .int .i64 i] w fun e w' => e = .returned (.tuple #[srcV (okS4 (atI R.S.length i) (sAt R.S i.toNat)), errV (atI R.S.length i)]) ∧ Below w.heap.size w w'
def RPoolSaid (X : RoadFace) : Prop := ∀ (p : Value) (F : Nat → Prop) (R : Road) (w : World), X.Inv w p F R → RightR R →
  Calls Tryd.prog 9 #[p] w fun e w' => e = .returned (.agg #[.int .i64 R.room, .int .i64 R.cap, .int .i64 R.wait]) ∧ Below w.heap.size w w'
theorem pool_below {X : RoadFace} (hP : RPoolSaid X) (p : Value) (F : Nat → Prop) (R : Road) (w : World) (hi : X.Inv w p F R) (hr : RightR R) : Calls Tryd.prog 9 #[p] w fun e w' => e = .returned (.agg #[.int .i64 R.room, .int .i64 R.cap, .int .i64 R.wait]) ∧ Below w.heap.size w w' := hP p F R w hi hr
def RWaitsSaid (X : RoadFace) : Prop := ∀ (p : Value) (F : Nat → Prop) (R : Road) (w : World), X.Inv w p F R → RightR R →
  Calls Tryd.prog 11 #[p] w fun e w' => ∃ y, e = .returned y ∧ IntsAt (fun b => w.heap.size ≤ b) w' y (R.row.map Int.ofNat) ∧ Below w.heap.size w w'
end Ev
end Go.Proofs.YtkpmjmgmgkdfnajDoor

/- A road that package road has made, tick by tick: what the laws are told of it. -/
namespace Go.Proofs.YtkpmjmgmgkdfnajDoor
namespace Ev
open Go.RowKit Fr Ns Ld Fl
set_option linter.unusedSimpArgs false
set_option linter.unusedVariables false

/-- how much came behind so many ticks -/
def cameK (R : Road) (k : Nat) : Int := cameN (ticksR R k).S R.S.length
def goneK (R : Road) (k : Nat) : Int × Int × Int := (wentR (ticksR R k) (rowR (ticksR R k)).length, lostR (ticksR R k) (rowR (ticksR R k)).length, waitR (ticksR R k) (rowR (ticksR R k)).length)
theorem goneV_K (R : Road) (k : Nat) : goneV (ticksR R k) = .agg #[.int .i64 (goneK R k).1, .int .i64 (goneK R k).2.1, .int .i64 (goneK R k).2.2] := rfl
/-- a road that is right at first is right behind each tick -/
structure RoadAll (S : List Src) (room cap : Int) (R : Road) : Prop where
  right : ∀ k, RightR (ticksR R k)
  inv : ∀ k, RoadInv S.length (leftN S) room cap (ticksR R k)
  step : ∀ k, cameK R (k + 1) = cameK R k + (goneK R k).1
  bound : ∀ k, 0 ≤ (goneK R k).1 ∧ (goneK R k).1 ≤ cap ∧ 0 ≤ (goneK R k).2.1 ∧ (ticksR R (k + 1)).wait = (goneK R k).2.2
  zero : cameK R 0 = 0
  upto : ∀ k, cameK R k ≤ sumN (leftN S) S.length ∧ (cameK R k < sumN (leftN S) S.length → (k : Int) ≤ cameK R k)
  lefts : ∀ i, i < S.length → 0 ≤ leftN S i ∧ leftN S i ≤ 10000
  few : 0 < S.length ∧ S.length ≤ 6
theorem road_all {S : List Src} {room cap wait : Int} (h : newE S room cap wait = 0) : RoadAll S room cap (road0 S room cap wait) := by
  obtain ⟨n1, n2, n3, n4, n5⟩ := newE_0 h
  obtain ⟨hi, hl, hc⟩ := road0_inv h
  have ht := road_ticks (R := road0 S room cap wait) hl hi (by show 0 ≤ cameN S S.length; omega)
  have hlen : ∀ k, (ticksR (road0 S room cap wait) k).S.length = S.length := fun k => (ht k).1.has.1
  refine ⟨fun k => ⟨leftN S, by rw [hlen]; exact n2, by rw [hlen]; exact hl, ?_⟩, fun k => (ht k).1, fun k => ?_, fun k => ?_, hc, fun k => (ht k).2, fun i hi' => ?_, ⟨n1, n2⟩⟩
  · have := (ht k).1
    rw [hlen, this.rooms, this.caps]
    exact this
  · obtain ⟨_, t2, _⟩ := road_tick hl (ht k).1
    exact t2
  · obtain ⟨_, _, t3, t4, t5, t6, _⟩ := road_tick hl (ht k).1
    exact ⟨t3, t4, t5, t6⟩
  · have := srcE_0.1 (n5 i hi').1
    unfold leftN
    omega
theorem sumN_bd {g : Nat → Int} {M : Int} (hM : 0 ≤ M) : ∀ {n : Nat}, (∀ i, i < n → 0 ≤ g i ∧ g i ≤ M) → 0 ≤ sumN g n ∧ sumN g n ≤ n * M := by
  intro n
  induction n with
  | zero => intro _; simp [sumN]
  | succ n ih =>
    intro h
    have h1 := ih (fun i hi => h i (by omega))
    have h2 := h n (by omega)
    simp only [sumN]
    have e : ((n + 1 : Nat) : Int) * M = n * M + M := by rw [Int.natCast_add, Int.add_mul]; simp
    rw [e]
    omega
/-- behind as many ticks as there were to send all came -/
theorem RoadAll.done {S : List Src} {room cap : Int} {R : Road} (h : RoadAll S room cap R) (hS : R.S.length = S.length) {k : Nat} (hk : sumN (leftN S) S.length ≤ k) : cameK R k = sumN (leftN S) S.length ∧ (∀ i, i < S.length → (sAt (ticksR R k).S i).2.2.2 = leftN S i ∧ (sAt (ticksR R k).S i).2.1 = 0 ∧ (sAt (ticksR R k).S i).2.2.1 = 0) ∧ (ticksR R k).row = [] ∧ (ticksR R k).wait = 0 := by
  obtain ⟨u1, u2⟩ := h.upto k
  have e : cameK R k = sumN (leftN S) S.length := by
    by_cases hlt : cameK R k < sumN (leftN S) S.length
    · have := u2 hlt; omega
    · omega
  refine ⟨e, ?_⟩
  have e' : cameN (ticksR R k).S S.length = sumN (leftN S) S.length := by rw [← hS]; rw [hS]; rw [cameK, hS] at e; exact e
  exact road_done (h.inv k) e'

/-- the calls on a road behind so many ticks, as a law meets them: B, W: the world when the road was made -/
def RdTicks (X : RoadFace) (R : Road) (B : Nat) (W : World) : Prop := ∀ (k : Nat) (a : Addr) (F : Nat → Prop) (u : World), X.Inv u (.pointer (some a)) F (ticksR R k) → (∀ b, F b → B ≤ b) → Below B W u →
  Calls Tryd.prog 8 #[.pointer (some a)] u fun e w' => e = .returned (.agg #[.int .i64 (goneK R k).1, .int .i64 (goneK R k).2.1, .int .i64 (goneK R k).2.2]) ∧ (∃ F', X.Inv w' (.pointer (some a)) F' (ticksR R (k + 1)) ∧ ∀ b, F' b → B ≤ b) ∧ Below B W w'
theorem ticks_of {X : RoadFace} (hT : RTickSaid X) {R : Road} (hr : ∀ k, RightR (ticksR R k)) (B : Nat) (W : World) (hB : B ≤ W.heap.size) : RdTicks X R B W := by
  intro k a F u hi hF hb
  refine (hT _ F _ u hi (hr k)).mono ?_
  rintro e w' ⟨rfl, F', hi', hF', hbut⟩
  have hBu : B ≤ u.heap.size := Nat.le_trans hB hb.size
  refine ⟨by rw [goneV_K], ⟨F', hi', fun b hb' => ?_⟩, hb.trans (hbut.below hF hBu)⟩
  rcases hF' b hb' with h | h
  · exact hF b h
  · omega
theorem source_of {X : RoadFace} (hS : RSourceSaid X) {R : Road} (hr : ∀ k, RightR (ticksR R k)) (n : Nat) (hn : ∀ k, (ticksR R k).S.length = n) (k : Nat) (a : Addr) (F : Nat → Prop) (i : Nat) (u : World) (hi : X.Inv u (.pointer (some a)) F (ticksR R k)) (hin : i < n) :
    Calls Tryd.prog 12 #[.pointer (some a), .int .i64 i] u fun e w' => e = .returned (.tuple #[.agg #[.int .i64 (sAt (ticksR R k).S i).1, .int .i64 (sAt (ticksR R k).S i).2.1, .int .i64 (sAt (ticksR R k).S i).2.2.1, .int .i64 (sAt (ticksR R k).S i).2.2.2], .nilIface]) ∧ Below u.heap.size u w' := by
  have := hS _ F _ (i : Int) u hi (hr k)
  rw [hn, atI, if_neg (by omega), okS4, if_pos rfl, errV_0, Int.toNat_natCast] at this
  exact this
theorem pool_of {X : RoadFace} (hP : RPoolSaid X) {R : Road} (hr : ∀ k, RightR (ticksR R k)) (k : Nat) (a : Addr) (F : Nat → Prop) (u : World) (hi : X.Inv u (.pointer (some a)) F (ticksR R k)) :
    Calls Tryd.prog 9 #[.pointer (some a)] u fun e w' => e = .returned (.agg #[.int .i64 (ticksR R k).room, .int .i64 (ticksR R k).cap, .int .i64 (ticksR R k).wait]) ∧ Below u.heap.size u w' := pool_below hP _ F _ u hi (hr k)
theorem waits_of {X : RoadFace} (hW : RWaitsSaid X) {R : Road} (hr : ∀ k, RightR (ticksR R k)) (k : Nat) (a : Addr) (F : Nat → Prop) (u : World) (hi : X.Inv u (.pointer (some a)) F (ticksR R k)) :
    Calls Tryd.prog 11 #[.pointer (some a)] u fun e w' => ∃ y, e = .returned y ∧ IntsAt (fun b => u.heap.size ≤ b) w' y ((ticksR R k).row.map Int.ofNat) ∧ Below u.heap.size u w' := hW _ F _ u hi (hr k)
theorem made_good {X : RoadFace} {S : List Src} {room cap wait : Int} {W : World} (he : newE S room cap wait = 0) : ∀ e w', Made X S room cap wait W w' e → ∃ a F, e = .returned (.tuple #[.pointer (some a), .nilIface]) ∧ X.Inv w' (.pointer (some a)) F (ticksR (road0 S room cap wait) 0) ∧ (∀ b, F b → W.heap.size ≤ b) ∧ Below W.heap.size W w' := fun e w' ⟨p, h1, _, h2, h3⟩ => by
  obtain ⟨F, hi, hF⟩ := h2 he
  obtain ⟨a, rfl⟩ := X.ptr hi
  rw [he, errV_0] at h1
  exact ⟨a, F, h1, hi, hF, h3⟩
theorem made_bad {X : RoadFace} {S : List Src} {room cap wait : Int} {W : World} (he : newE S room cap wait ≠ 0) : ∀ e w', Made X S room cap wait W w' e → ∃ a, e = .returned (.tuple #[.pointer a, .iface 54 (.int .i64 (newE S room cap wait))]) ∧ Below W.heap.size W w' := fun e w' ⟨p, h1, ⟨a, h2⟩, _, h3⟩ => by
  rw [errV_ne he, h2] at h1
  exact ⟨a, h1, h3⟩
end Ev
end Go.Proofs.YtkpmjmgmgkdfnajDoor

/- Some over one link: a tick of the document's road, one by one. No Go in it. -/
namespace Go.Proofs.YtkpmjmgmgkdfnajDoor.Ev
open Fr Ns Ld Fl
set_option linter.unusedSimpArgs false
set_option linter.unusedVariables false

/-! ### first each source sends -/
/-- the first i have sent -/
def sentI (S : List Src) (i : Nat) : List Src := (S.take i).map sentS ++ S.drop i
/-- whose those are that wait when the first i have sent -/
def rowSI (R : Road) (i : Nat) : List Nat := R.row ++ sendFrom 0 (R.S.take i)
theorem sentI_0 (S : List Src) : sentI S 0 = S := rfl
theorem sentI_all (S : List Src) : sentI S S.length = S.map sentS := by simp [sentI]
theorem sentI_length (S : List Src) (i : Nat) : (sentI S i).length = S.length := by
  simp only [sentI, List.length_append, List.length_map, List.length_take, List.length_drop]; omega
theorem sentI_at {S : List Src} {i : Nat} (h : i < S.length) : sAt (sentI S i) i = sAt S i := by
  unfold sAt sentI
  rw [List.getD, List.getElem?_append_right (by simp; omega)]
  simp only [List.length_map, List.length_take, List.getElem?_drop]
  rw [show i + (i - min i S.length) = i by omega]
  rfl
theorem sentI_set {S : List Src} {i : Nat} (h : i < S.length) : (sentI S i).set i (sentS (sAt S i)) = sentI S (i + 1) := by
  have e : sAt S i = S[i] := by simp [sAt, List.getD, List.getElem?_eq_getElem h]
  unfold sentI
  rw [List.set_append_right _ _ (by simp; omega)]
  have h2 : S.drop i = S[i] :: S.drop (i + 1) := List.drop_eq_getElem_cons h
  rw [h2, e]
  have h3 : i - ((S.take i).map sentS).length = 0 := by simp; omega
  have h4 : S.take (i + 1) = S.take i ++ [S[i]] := by rw [List.take_add_one, List.getElem?_eq_getElem h]; rfl
  rw [h3, List.set_cons_zero, h4, List.map_append, List.append_assoc]
  rfl
theorem sendFrom_snoc : ∀ (l : List Src) (j : Nat) (s : Src), sendFrom j (l ++ [s]) = sendFrom j l ++ List.replicate (goS s).toNat (j + l.length) := by
  intro l
  induction l with
  | nil => intro j s; simp [sendFrom]
  | cons a r ih =>
    intro j s
    simp only [List.cons_append, sendFrom, ih, List.append_assoc, List.length_cons]
    rw [show j + 1 + r.length = j + (r.length + 1) by omega]
theorem rowSI_0 (R : Road) : rowSI R 0 = R.row := by simp [rowSI, sendFrom]
theorem rowSI_all (R : Road) : rowSI R R.S.length = rowR R := by simp [rowSI, rowR]
theorem rowSI_step (R : Road) {i : Nat} (h : i < R.S.length) : rowSI R (i + 1) = rowSI R i ++ List.replicate (goS (sAt R.S i)).toNat i := by
  have e : sAt R.S i = R.S[i] := by simp [sAt, List.getD, List.getElem?_eq_getElem h]
  have : R.S.take (i + 1) = R.S.take i ++ [sAt R.S i] := by rw [List.take_add_one, List.getElem?_eq_getElem h, e]; rfl
  unfold rowSI
  rw [this, sendFrom_snoc, List.length_take, Nat.min_eq_left (by omega), Nat.zero_add, List.append_assoc]
theorem rowSI_le (R : Road) {i : Nat} (h : i ≤ R.S.length) : (rowSI R i).length ≤ (rowR R).length := by
  have key : ∀ m, i + m ≤ R.S.length → (rowSI R i).length ≤ (rowSI R (i + m)).length := by
    intro m
    induction m with
    | zero => intro _; exact Nat.le_refl _
    | succ m ih =>
      intro hm
      have := ih (by omega)
      have h2 := congrArg List.length (rowSI_step R (i := i + m) (by omega))
      simp only [List.length_append, List.length_replicate] at h2
      rw [show i + (m + 1) = i + m + 1 by omega, h2]
      omega
  have := key (R.S.length - i) (by omega)
  rwa [show i + (R.S.length - i) = R.S.length by omega, rowSI_all] at this

/-! ### then each of those is answered, waits, or is lost -/
theorem hand_snoc (went wait : Nat) (f : Bool) : ∀ (l : List Nat) (k i : Nat) (S : List Src), hand went wait f k (l ++ [i]) S = (if k + l.length < went then (hand went wait f k l S).set i (ackS (sAt (hand went wait f k l S) i) f) else if k + l.length < went + wait then hand went wait f k l S else (hand went wait f k l S).set i (losS (sAt (hand went wait f k l S) i))) := by
  intro l
  induction l with
  | nil => intro k i S; simp [hand]
  | cons a r ih =>
    intro k i S
    simp only [List.cons_append, hand, List.length_cons]
    rw [ih, show k + 1 + r.length = k + (r.length + 1) by omega]
theorem hand_length (went wait : Nat) (f : Bool) : ∀ (l : List Nat) (k : Nat) (S : List Src), (hand went wait f k l S).length = S.length := by
  intro l
  induction l with
  | nil => intro k S; rfl
  | cons a r ih =>
    intro k S
    simp only [hand]
    rw [ih]
    split
    · rw [List.length_set]
    · split
      · rfl
      · rw [List.length_set]
/-- the sources when k of those were told -/
def handK (R : Road) (k : Nat) : List Src := hand (wentR R (rowR R).length).toNat (waitR R (rowR R).length).toNat (fastR R) 0 ((rowR R).take k) (R.S.map sentS)
/-- those of the first k that wait -/
def waitK (R : Road) (k : Nat) : List Nat := ((rowR R).take k |>.drop (wentR R (rowR R).length).toNat).take (waitR R (rowR R).length).toNat
theorem handK_0 (R : Road) : handK R 0 = R.S.map sentS := rfl
theorem waitK_0 (R : Road) : waitK R 0 = [] := by simp [waitK]
theorem handK_all (R : Road) : handK R (rowR R).length = (tickR R).S := by simp [handK, tickR]
theorem waitK_all (R : Road) : waitK R (rowR R).length = (tickR R).row := by simp [waitK, tickR]
theorem handK_length (R : Road) (k : Nat) : (handK R k).length = R.S.length := by unfold handK; rw [hand_length, List.length_map]
theorem take_one (l : List Nat) (k : Nat) (h : k < l.length) : l.take (k + 1) = l.take k ++ [l.getD k 0] := by
  rw [List.take_add_one, List.getElem?_eq_getElem h, List.getD, List.getElem?_eq_getElem h]; rfl
theorem handK_step (R : Road) {k : Nat} (h : k < (rowR R).length) : handK R (k + 1) = (if k < (wentR R (rowR R).length).toNat then (handK R k).set ((rowR R).getD k 0) (ackS (sAt (handK R k) ((rowR R).getD k 0)) (fastR R)) else if k < (wentR R (rowR R).length).toNat + (waitR R (rowR R).length).toNat then handK R k else (handK R k).set ((rowR R).getD k 0) (losS (sAt (handK R k) ((rowR R).getD k 0)))) := by
  unfold handK
  rw [take_one _ k h, hand_snoc, List.length_take, Nat.min_eq_left (by omega), Nat.zero_add]
theorem waitK_step (R : Road) {k : Nat} (h : k < (rowR R).length) : waitK R (k + 1) = if (wentR R (rowR R).length).toNat ≤ k ∧ k < (wentR R (rowR R).length).toNat + (waitR R (rowR R).length).toNat then waitK R k ++ [(rowR R).getD k 0] else waitK R k := by
  unfold waitK
  rw [take_one _ k h]
  generalize (wentR R (rowR R).length).toNat = a
  generalize (waitR R (rowR R).length).toNat = b
  have hl : ((rowR R).take k).length = k := by rw [List.length_take]; omega
  split
  · rename_i hc
    rw [List.drop_append_of_le_length (by omega), List.take_append, List.length_drop, hl]
    have e : b - (k - a) = (b - (k - a) - 1) + 1 := by omega
    rw [e]; simp
  · rename_i hc
    by_cases h1 : k < a
    · rw [List.drop_eq_nil_of_le (by simp; omega), List.drop_eq_nil_of_le (by omega)]
    · rw [List.drop_append_of_le_length (by omega), List.take_append, List.length_drop, hl]
      have e : b - (k - a) = 0 := by omega
      rw [e]; simp
theorem handK_ok {n : Nat} {L : Nat → Int} {room cap : Int} {R : Road} (hL : ∀ i, i < n → L i ≤ 10000) (h : RoadInv n L room cap R) (k : Nat) : (∀ i, i < n → okS (sAt (handK R k) i)) ∧ ∀ j, j < (rowR R).length → (rowR R).getD j 0 < n := by
  obtain ⟨hR, hm, _⟩ := row_inv hL h
  have hp : HasR n L ((rowR R).drop k ++ (rowR R).take k) (R.S.map sentS) := by
    refine ⟨hR.1, fun i hi => ?_⟩
    obtain ⟨o1, o2, o3⟩ := hR.2 i hi
    refine ⟨o1, ?_, o3⟩
    rw [o2, List.count_append, Nat.add_comm, ← List.count_append, List.take_append_drop]
  obtain ⟨k1, _⟩ := hand_keeps hL (wentR R (rowR R).length).toNat (waitR R (rowR R).length).toNat (fastR R) ((rowR R).take k) 0 (R.S.map sentS) ((rowR R).drop k) (fun i hi => hm i (List.mem_of_mem_take hi)) hp
  refine ⟨fun i hi => (k1.2 i hi).1, fun j hj => hm _ ?_⟩
  rw [List.getD, List.getElem?_eq_getElem hj]
  exact List.getElem_mem _
/-- how many come, all together -/
theorem rowSI_bd {R : Road} (hok : ∀ i, i < R.S.length → okS (sAt R.S i)) : ∀ i, i ≤ R.S.length → (rowSI R i).length ≤ R.row.length + 1000 * i ∧ R.row.length ≤ (rowSI R i).length := by
  intro i
  induction i with
  | zero => intro _; rw [rowSI_0]; omega
  | succ i ih =>
    intro hi
    have h1 := ih (by omega)
    have h2 := congrArg List.length (rowSI_step R (i := i) (by omega))
    simp only [List.length_append, List.length_replicate] at h2
    have h3 := srcE_0.1 (hok i (by omega))
    have h4 : 0 ≤ goS (sAt R.S i) ∧ goS (sAt R.S i) ≤ 1000 := by
      have := go_bd (hok i (by omega))
      refine ⟨this.1, ?_⟩
      unfold goS goN
      split
      · split <;> omega
      · omega
    omega
end Go.Proofs.YtkpmjmgmgkdfnajDoor.Ev

/- Rows of cells that a call makes and writes into: what a walk is told of them. -/
namespace Go.Proofs.YtkpmjmgmgkdfnajDoor
namespace Fl
open Go.RowKit Ns
set_option linter.unusedSimpArgs false
set_option linter.unusedVariables false

/-- the block g holds these cells, and none of it is frozen -/
def RowAt (w : World) (g : Nat) (T : TypeId) (xs : List Value) : Prop := w.heap[g]? = some (.cells xs.toArray T (0, 0))
theorem RowAt.lt {w : World} {g : Nat} {T : TypeId} {xs : List Value} (h : RowAt w g T xs) : g < w.heap.size := (Array.getElem?_eq_some_iff.1 h).1
theorem RowAt.cell {w : World} {g : Nat} {T : TypeId} {xs : List Value} (h : RowAt w g T xs) {i : Nat} {v : Value} (hi : xs[i]? = some v) : w.cell? ⟨g, i, none⟩ = some v := by
  rw [cell_of_row w g i _ T (0, 0) h]
  simpa using hi
theorem RowAt.frozen {w : World} {g : Nat} {T : TypeId} {xs : List Value} (h : RowAt w g T xs) (i : Nat) : w.frozen? ⟨g, i, none⟩ = false := frozen_of_row w g i _ T h
theorem RowAt.set {w : World} {g : Nat} {T : TypeId} {xs : List Value} (h : RowAt w g T xs) (i : Nat) (v : Value) : RowAt (w.setCell ⟨g, i, none⟩ v) g T (xs.set i v) := by
  unfold RowAt
  rw [heap_setCell_same w g i _ T v h]
  simp
theorem RowAt.later {w w' : World} {g B : Nat} {T : TypeId} {xs : List Value} (hb : Below B w w') (hg : g < B) (h : RowAt w g T xs) : RowAt w' g T xs := by
  unfold RowAt
  rw [hb.block g hg]; exact h
theorem RowAt.other {w : World} {g : Nat} {T : TypeId} {xs : List Value} (h : RowAt w g T xs) {a : Addr} (ha : a.block ≠ g) (v : Value) : RowAt (w.setCell a v) g T xs := by
  unfold RowAt
  rw [Below.heap_setCell w a v g (fun e => ha e.symm)]; exact h
theorem RowAt.alloc {w : World} {g : Nat} {T : TypeId} {xs : List Value} (h : RowAt w g T xs) (o : Obj) : RowAt (w.alloc o) g T xs := h.later (((Below.refl w.heap.size w)).alloc (Nat.le_refl _) o) h.lt
theorem RowAt.new (w : World) (a : Array Value) (T : TypeId) : RowAt (w.alloc (.cells a T (0, 0))) w.heap.size T a.toList := by
  unfold RowAt
  rw [heap_alloc_new]
theorem RowAt.owns {w : World} {base g n size : Nat} {T : TypeId} {xs : List Value} (h : RowAt w g T xs) (hb : base ≤ g) (hl : xs.length = n * size) (hn : n ≤ maxLen) : w.ownsRow base T size (.slice (some ⟨g, 0, none⟩) n n) n xs := by
  refine ⟨hl, .inr ⟨g, n, xs.toArray, rfl, hb, h, Nat.le_refl _, hn, by simp [hl], by simp [← hl]⟩⟩
theorem RowAt.of_owns {w : World} {base g n size : Nat} {T : TypeId} {xs : List Value} (h : w.ownsRow base T size (.slice (some ⟨g, 0, none⟩) n n) n xs) : RowAt w g T xs := by
  obtain ⟨h0, h⟩ := h
  rcases h with ⟨e, _⟩ | ⟨g', cap, cur, e, hb, hg, hc, hm, hs, ht⟩
  · cases e
  · simp only [Value.slice.injEq, Option.some.injEq, Addr.mk.injEq, and_true, true_and] at e
    obtain ⟨rfl, rfl⟩ := e
    unfold RowAt
    rw [hg]
    have : cur.toList = xs := by
      have : cur.toList.take (n * size) = cur.toList := List.take_of_length_le (by simp [hs])
      rw [← this]; exact ht
    rw [← this]
/-- the cells of a row of three -/
theorem RowAt.three {w : World} {g : Nat} {T : TypeId} {a b c : Value} (h : RowAt w g T [a, b, c]) : w.cell? ⟨g, 0, none⟩ = some a ∧ w.cell? ⟨g, 1, none⟩ = some b ∧ w.cell? ⟨g, 2, none⟩ = some c ∧ w.frozen? ⟨g, 0, none⟩ = false ∧ w.frozen? ⟨g, 1, none⟩ = false ∧ w.frozen? ⟨g, 2, none⟩ = false ∧ g < w.heap.size :=
  ⟨h.cell rfl, h.cell rfl, h.cell rfl, h.frozen 0, h.frozen 1, h.frozen 2, h.lt⟩
theorem RowAt.set3 {w : World} {g : Nat} {T : TypeId} {a b c : Value} (h : RowAt w g T [a, b, c]) (x y z : Value) : RowAt (((w.setCell ⟨g, 0, none⟩ x).setCell ⟨g, 1, none⟩ y).setCell ⟨g, 2, none⟩ z) g T [x, y, z] := ((h.set 0 x).set 1 y).set 2 z
theorem RowAt.four {w : World} {g : Nat} {T : TypeId} {a b c d : Value} (h : RowAt w g T [a, b, c, d]) : w.cell? ⟨g, 0, none⟩ = some a ∧ w.cell? ⟨g, 1, none⟩ = some b ∧ w.cell? ⟨g, 2, none⟩ = some c ∧ w.cell? ⟨g, 3, none⟩ = some d ∧ w.frozen? ⟨g, 0, none⟩ = false ∧ w.frozen? ⟨g, 1, none⟩ = false ∧ w.frozen? ⟨g, 2, none⟩ = false ∧ w.frozen? ⟨g, 3, none⟩ = false ∧ g < w.heap.size :=
  ⟨h.cell rfl, h.cell rfl, h.cell rfl, h.cell rfl, h.frozen 0, h.frozen 1, h.frozen 2, h.frozen 3, h.lt⟩
theorem RowAt.put4 {w : World} {g : Nat} {T : TypeId} {a b c d : Value} (h : RowAt w g T [a, b, c, d]) (x y z u : Value) : RowAt ((((w.setCell ⟨g, 0, none⟩ x).setCell ⟨g, 1, none⟩ y).setCell ⟨g, 2, none⟩ z).setCell ⟨g, 3, none⟩ u) g T [x, y, z, u] := (((h.set 0 x).set 1 y).set 2 z).set 3 u
theorem row_made (w : World) (a : Array Value) (T : TypeId) (g : Nat) (xs : List Value) (hg : g = w.heap.size) (hx : a.toList = xs) : RowAt (w.alloc (.cells a T (0, 0))) g T xs := by
  rw [hg, ← hx]; exact RowAt.new w a T
theorem new1 (w : World) (x : Value) (T : TypeId) (g : Nat) (hg : g = w.heap.size) : ∀ j u, [x][j]? = some u → (w.alloc (.cells #[x] T)).cell? ((⟨g, 0, none⟩ : Addr).add j) = some u := by
  intro j u hj
  subst hg
  match j, hj with
  | 0, hj => simp at hj; subst hj; simp [Addr.add]
theorem own_keeps {w w' : World} {base : Nat} {e : TypeId} {size n : Nat} {v : Value} {xs : List Value} (hk : ∀ g, base ≤ g → g < w.heap.size → w'.heap[g]? = w.heap[g]?) (h : w.ownsRow base e size v n xs) : w'.ownsRow base e size v n xs := by
  obtain ⟨h0, h⟩ := h
  refine ⟨h0, ?_⟩
  rcases h with h | ⟨g, cap, cur, e1, hb, hg, hr⟩
  · exact .inl h
  · exact .inr ⟨g, cap, cur, e1, hb, by rw [hk g hb (Array.getElem?_eq_some_iff.1 hg).1]; exact hg, hr⟩
theorem stay_set (w : World) (g i k : Nat) (x : Value) (h : k ≠ g) : (w.setCell ⟨g, i, none⟩ x).heap[k]? = w.heap[k]? := Below.heap_setCell w ⟨g, i, none⟩ x k h
theorem own_slice {w : World} {base n size : Nat} {e : TypeId} {v : Value} {xs : List Value} (h : w.ownsRow base e size v n xs) : ∃ a c, v = .slice a n c := by
  rcases h.2 with ⟨rfl, h0⟩ | ⟨g, cap, cur, rfl, _⟩
  · exact ⟨none, 0, by rw [h0]⟩
  · exact ⟨_, _, rfl⟩
theorem grew1 {B : Nat} {W wg : World} {o1 : Obj} {k : Option Nat} (hs : B ≤ W.heap.size) (hg : (W.alloc o1).grownBy wg k) (hk : ∀ j, k = some j → B ≤ j) : Below B W wg :=
  ((Below.refl B W).alloc hs o1).grown hg (by simp; omega) hk
theorem owns_shape {w : World} {base n size : Nat} {e : TypeId} {v : Value} {xs : List Value} (h : w.ownsRow base e size v n xs) : ∃ a c, v = .slice a n c := by
  rcases h.2 with ⟨rfl, h0⟩ | ⟨g, cap, cur, rfl, _⟩
  · exact ⟨none, 0, by rw [h0]⟩
  · exact ⟨_, _, rfl⟩
def bestZ (o : Option (Int × Int)) : Int × Int := o.getD (0, 0)
end Fl
end Go.Proofs.YtkpmjmgmgkdfnajDoor

/- Rows of sources in memory, cell by cell. -/
namespace Go.Proofs.YtkpmjmgmgkdfnajDoor
namespace Ev
open Go.RowKit Fr Ns Ld Fl
set_option linter.unusedSimpArgs false
set_option linter.unusedVariables false

/-- the cells of some sources -/
def flatS : List Src → List Value
  | [] => []
  | s :: r => .int .i64 s.1 :: .int .i64 s.2.1 :: .int .i64 s.2.2.1 :: .int .i64 s.2.2.2 :: flatS r
theorem flatS_length : ∀ l : List Src, (flatS l).length = l.length * 4 := by
  intro l
  induction l with
  | nil => rfl
  | cons s r ih => simp only [flatS, List.length_cons, ih]; omega
theorem flatS_at : ∀ (l : List Src) (sp : List Value) (i : Nat), i < l.length → (flatS l ++ sp)[i * 4]? = some (.int .i64 (sAt l i).1) ∧ (flatS l ++ sp)[i * 4 + 1]? = some (.int .i64 (sAt l i).2.1) ∧ (flatS l ++ sp)[i * 4 + 2]? = some (.int .i64 (sAt l i).2.2.1) ∧ (flatS l ++ sp)[i * 4 + 3]? = some (.int .i64 (sAt l i).2.2.2) := by
  intro l
  induction l with
  | nil => intro sp i hi; simp at hi
  | cons s r ih =>
    intro sp i hi
    cases i with
    | zero => simp [flatS, sAt]
    | succ i =>
      have := ih sp i (by simpa using hi)
      have e : sAt (s :: r) (i + 1) = sAt r i := rfl
      rw [e]
      simp only [flatS, List.cons_append, show (i + 1) * 4 = i * 4 + 1 + 1 + 1 + 1 by omega, List.getElem?_cons_succ]
      exact this
theorem flatS_set : ∀ (l : List Src) (sp : List Value) (i : Nat) (s : Src), i < l.length → ((((flatS l ++ sp).set (i * 4) (.int .i64 s.1)).set (i * 4 + 1) (.int .i64 s.2.1)).set (i * 4 + 2) (.int .i64 s.2.2.1)).set (i * 4 + 3) (.int .i64 s.2.2.2) = flatS (l.set i s) ++ sp := by
  intro l
  induction l with
  | nil => intro sp i s hi; simp at hi
  | cons a r ih =>
    intro sp i s hi
    cases i with
    | zero => simp [flatS]
    | succ i =>
      have := ih sp i s (by simpa using hi)
      simp only [flatS, List.cons_append, show (i + 1) * 4 = i * 4 + 1 + 1 + 1 + 1 by omega, List.set_cons_succ]
      rw [this]
theorem row_src {w : World} {g : Nat} {T : TypeId} {l : List Src} {sp : List Value} (h : RowAt w g T (flatS l ++ sp)) {i : Nat} (hi : i < l.length) : SrcAt w g (i * 4) (sAt l i) := by
  obtain ⟨a, b, c, d⟩ := flatS_at l sp i hi
  exact ⟨h.cell a, h.cell b, h.cell c, h.cell d⟩
theorem row_setSrc {w : World} {g : Nat} {T : TypeId} {l : List Src} {sp : List Value} (h : RowAt w g T (flatS l ++ sp)) {i : Nat} (hi : i < l.length) (s : Src) : RowAt ((((w.setCell ⟨g, i * 4, none⟩ (.int .i64 s.1)).setCell ⟨g, i * 4 + 1, none⟩ (.int .i64 s.2.1)).setCell ⟨g, i * 4 + 2, none⟩ (.int .i64 s.2.2.1)).setCell ⟨g, i * 4 + 3, none⟩ (.int .i64 s.2.2.2)) g T (flatS (l.set i s) ++ sp) := by
  have := (((h.set (i * 4) (.int .i64 s.1)).set (i * 4 + 1) (.int .i64 s.2.1)).set (i * 4 + 2) (.int .i64 s.2.2.1)).set (i * 4 + 3) (.int .i64 s.2.2.2)
  rwa [flatS_set l sp i s hi] at this
def natsV (l : List Nat) : List Value := l.map fun i : Nat => Value.int .i64 (i : Int)
theorem natsV_snoc (l : List Nat) (i : Nat) : natsV (l ++ [i]) = natsV l ++ [.int .i64 i] := by simp [natsV]
theorem natsV_ints (l : List Nat) : natsV l = (l.map Int.ofNat).map (Value.int .i64) := by simp [natsV]
/-- a row that is its own: it stays where its block stays -/
theorem owns_keep {w w' : World} {e : TypeId} {size n : Nat} {v : Value} {xs : List Value} (hk : ∀ g, v.ownBlock = some g → w'.heap[g]? = w.heap[g]?) (h : w.ownsRow 0 e size v n xs) : w'.ownsRow 0 e size v n xs := by
  obtain ⟨h0, h⟩ := h
  refine ⟨h0, ?_⟩
  rcases h with h | ⟨g, cap, cur, e1, hb, hg, hr⟩
  · exact .inl h
  · exact .inr ⟨g, cap, cur, e1, hb, by rw [hk g (by rw [e1]; rfl)]; exact hg, hr⟩
theorem owns_lt {w : World} {e : TypeId} {size n g : Nat} {v : Value} {xs : List Value} (h : w.ownsRow 0 e size v n xs) (hg : v.ownBlock = some g) : g < w.heap.size := by
  rcases h.2 with ⟨rfl, _⟩ | ⟨g', cap, cur, e1, _, h2, _⟩
  · simp [Value.ownBlock] at hg
  · rw [e1] at hg
    simp [Value.ownBlock] at hg
    subst hg
    exact (Array.getElem?_eq_some_iff.1 h2).1
/-- what of the memory is a road's own -/
def refF (g gs : Nat) (rv : Value) (b : Nat) : Prop := b = g ∨ b = gs ∨ rv.ownBlock = some b
end Ev
end Go.Proofs.YtkpmjmgmgkdfnajDoor

/- The document's road in memory (package fairref2): a struct, a row of sources, a row of those that wait. -/
namespace Go.Proofs.YtkpmjmgmgkdfnajDoor
namespace Ev
open Go.RowKit Fr Ns Ld Fl
set_option linter.unusedSimpArgs false
set_option linter.unusedVariables false

/-- the document's road at the block g: its sources in the block gs, those that wait in rv -/
structure RefAt (w : World) (g gs cs : Nat) (sp : List Value) (rv : Value) (S : List Src) (room cap wait : Int) (row : List Nat) : Prop where
  cells : RowAt w g 35 [.slice (some ⟨gs, 0, none⟩) S.length cs, .int .i64 room, .int .i64 cap, .int .i64 wait, rv]
  srcs : RowAt w gs 43 (flatS S ++ sp)
  rows : w.ownsRow 0 3 1 rv row.length (natsV row)
  apart : g ≠ gs ∧ rv.ownBlock ≠ some g ∧ rv.ownBlock ≠ some gs
  room : S.length ≤ cs
def RefInv (w : World) (p : Value) (F : Nat → Prop) (R : Road) : Prop := ∃ g gs cs sp rv, p = .pointer (some ⟨g, 0, none⟩) ∧ RefAt w g gs cs sp rv R.S R.room R.cap R.wait R.row ∧ ∀ b, F b ↔ refF g gs rv b
theorem RefAt.keep {w w' : World} {g gs cs : Nat} {sp : List Value} {rv : Value} {S : List Src} {room cap wait : Int} {row : List Nat} (h : RefAt w g gs cs sp rv S room cap wait row) (hk : ∀ b, refF g gs rv b → w'.heap[b]? = w.heap[b]?) : RefAt w' g gs cs sp rv S room cap wait row := by
  refine ⟨?_, ?_, owns_keep (fun b hb => hk b (.inr (.inr hb))) h.rows, h.apart, h.room⟩
  · have := h.cells; unfold RowAt at this ⊢; rw [hk g (.inl rfl)]; exact this
  · have := h.srcs; unfold RowAt at this ⊢; rw [hk gs (.inr (.inl rfl))]; exact this
theorem RefAt.lt {w : World} {g gs cs : Nat} {sp : List Value} {rv : Value} {S : List Src} {room cap wait : Int} {row : List Nat} (h : RefAt w g gs cs sp rv S room cap wait row) : ∀ b, refF g gs rv b → b < w.heap.size := by
  rintro b (rfl | rfl | hb)
  · exact h.cells.lt
  · exact h.srcs.lt
  · exact owns_lt h.rows hb
theorem RefAt.later {w w' : World} {g gs cs : Nat} {sp : List Value} {rv : Value} {S : List Src} {room cap wait : Int} {row : List Nat} (h : RefAt w g gs cs sp rv S room cap wait row) (hb : Below w.heap.size w w') : RefAt w' g gs cs sp rv S room cap wait row := h.keep (fun b hb' => hb.block b (h.lt b hb'))
def RefX : RoadFace where
  Inv := RefInv
  lt := fun ⟨g, gs, cs, sp, rv, _, h, hF⟩ b hb => h.lt b ((hF b).1 hb)
  keep := fun ⟨g, gs, cs, sp, rv, hp, h, hF⟩ hk => ⟨g, gs, cs, sp, rv, hp, h.keep (fun b hb => hk b ((hF b).2 hb)), hF⟩
  ptr := fun ⟨g, gs, cs, sp, rv, hp, _, _⟩ => ⟨_, hp⟩
end Ev
end Go.Proofs.YtkpmjmgmgkdfnajDoor

/- A tick of the document's road in memory, one by one: what a walk carries along. -/
namespace Go.Proofs.YtkpmjmgmgkdfnajDoor
namespace Ev
open Go.RowKit Fr Ns Ld Fl
set_option linter.unusedSimpArgs false
set_option linter.unusedVariables false

/-- within a tick that began in w: the road so far; but for the road's own memory all is as it was -/
structure InT (w wr : World) (g gs cs : Nat) (sp : List Value) (rv rv' : Value) (S : List Src) (room cap wait : Int) (row : List Nat) : Prop where
  ref : RefAt wr g gs cs sp rv' S room cap wait row
  but : ButIn (refF g gs rv) w wr
  res : RowAt wr w.heap.size 37 [.int .i64 0, .int .i64 0, .int .i64 0]
  own : ∀ b, rv'.ownBlock = some b → rv.ownBlock = some b ∨ w.heap.size < b
  old : g < w.heap.size ∧ gs < w.heap.size ∧ ∀ b, rv.ownBlock = some b → b < w.heap.size
theorem ButIn.trans {F : Nat → Prop} {w w1 w2 : World} (h : ButIn F w w1) (h2 : Below 0 w1 w2) (hk : ∀ b, b < w.heap.size → ¬ F b → w2.heap[b]? = w1.heap[b]?) : ButIn F w w2 :=
  ⟨h.1.trans h2, fun b hb hF => (hk b hb hF).trans (h.2 b hb hF)⟩
theorem InT.size {w wr : World} {g gs cs : Nat} {sp : List Value} {rv rv' : Value} {S : List Src} {room cap wait : Int} {row : List Nat} (h : InT w wr g gs cs sp rv rv' S room cap wait row) : w.heap.size < wr.heap.size := h.res.lt
theorem InT.later {w wr w1 : World} {g gs cs : Nat} {sp : List Value} {rv rv' : Value} {S : List Src} {room cap wait : Int} {row : List Nat} (h : InT w wr g gs cs sp rv rv' S room cap wait row) (hb : Below wr.heap.size wr w1) : InT w w1 g gs cs sp rv rv' S room cap wait row :=
  ⟨h.ref.later hb, h.but.trans (hb.mono (Nat.zero_le _)) (fun b hb' _ => hb.block b (by have := h.size; omega)), h.res.later hb h.res.lt, h.own, h.old⟩
/-- a source is put into its place -/
theorem InT.setS {w wr : World} {g gs cs : Nat} {sp : List Value} {rv rv' : Value} {S : List Src} {room cap wait : Int} {row : List Nat} (h : InT w wr g gs cs sp rv rv' S room cap wait row) {i : Nat} (hi : i < S.length) (s : Src) {S' : List Src} (hS : S' = S.set i s) :
    InT w ((((wr.setCell ⟨gs, i * 4, none⟩ (.int .i64 s.1)).setCell ⟨gs, i * 4 + 1, none⟩ (.int .i64 s.2.1)).setCell ⟨gs, i * 4 + 2, none⟩ (.int .i64 s.2.2.1)).setCell ⟨gs, i * 4 + 3, none⟩ (.int .i64 s.2.2.2)) g gs cs sp rv rv' S' room cap wait row := by
  subst hS
  have hst : ∀ b, b ≠ gs → ((((wr.setCell ⟨gs, i * 4, none⟩ (.int .i64 s.1)).setCell ⟨gs, i * 4 + 1, none⟩ (.int .i64 s.2.1)).setCell ⟨gs, i * 4 + 2, none⟩ (.int .i64 s.2.2.1)).setCell ⟨gs, i * 4 + 3, none⟩ (.int .i64 s.2.2.2)).heap[b]? = wr.heap[b]? := fun b hb => by
    rw [stay_set _ _ _ _ _ hb, stay_set _ _ _ _ _ hb, stay_set _ _ _ _ _ hb, stay_set _ _ _ _ _ hb]
  refine ⟨⟨?_, row_setSrc h.ref.srcs hi s, owns_keep (fun b hb => hst b (fun e => h.ref.apart.2.2 (by rw [← e]; exact hb))) h.ref.rows, h.ref.apart, by rw [List.length_set]; exact h.ref.room⟩, h.but.trans ((((Below.refl 0 wr).setCell (Nat.zero_le _) _).setCell (Nat.zero_le _) _).setCell (Nat.zero_le _) _ |>.setCell (Nat.zero_le _) _) (fun b _ hF => hst b (fun e => hF (.inr (.inl e)))), ?_, h.own, h.old⟩
  · have := h.ref.cells
    unfold RowAt at this ⊢
    rw [List.length_set, hst g h.ref.apart.1]; exact this
  · have := h.res
    unfold RowAt at this ⊢
    rw [hst _ (by have := h.old.2.1; omega)]; exact this
/-- one more waits: behind the append, and the store of the row -/
theorem InT.snoc {w wr w1 : World} {g gs cs i : Nat} {sp : List Value} {rv rv' v' : Value} {S : List Src} {room cap wait : Int} {row : List Nat} {o : Obj} (h : InT w wr g gs cs sp rv rv' S room cap wait row)
    (ho : w1.ownsRow 0 3 1 v' (row.length + 1) (natsV row ++ [.int .i64 i])) (hg : (wr.alloc o).grownBy w1 rv'.ownBlock) (hat : v'.ownBlock = rv'.ownBlock ∨ v'.ownBlock = some (wr.alloc o).heap.size) :
    InT w (w1.setCell ⟨g, 4, none⟩ v') g gs cs sp rv v' S room cap wait (row ++ [i]) := by
  have hz := h.size
  have hsz : (wr.alloc o).heap.size = wr.heap.size + 1 := by simp
  have hb1 : ∀ b, b < wr.heap.size → some b ≠ rv'.ownBlock → w1.heap[b]? = wr.heap[b]? := fun b hb hne => by
    rw [hg.block b (by omega) hne]
    exact ((Below.refl wr.heap.size wr).alloc (Nat.le_refl _) o).block b hb
  have hgl := h.ref.cells.lt
  have hsl := h.ref.srcs.lt
  have hnew : ∀ b, v'.ownBlock = some b → rv'.ownBlock = some b ∨ wr.heap.size < b := fun b hb => by
    rcases hat with e | e
    · exact .inl (by rw [← e]; exact hb)
    · rw [e, hsz] at hb; simp at hb; exact .inr (by omega)
  have hng : v'.ownBlock ≠ some g := fun e => by
    rcases hnew g e with h1 | h1
    · exact h.ref.apart.2.1 h1
    · omega
  have hngs : v'.ownBlock ≠ some gs := fun e => by
    rcases hnew gs e with h1 | h1
    · exact h.ref.apart.2.2 h1
    · omega
  have hB : Below 0 wr w1 := ((Below.refl 0 wr).alloc (Nat.zero_le _) o).grown hg (Nat.zero_le _) (fun _ _ => Nat.zero_le _)
  refine ⟨⟨?_, ?_, ?_, ⟨h.ref.apart.1, hng, hngs⟩, h.ref.room⟩, ?_, ?_, fun b hb => ?_, h.old⟩
  · have h1 : RowAt w1 g 35 [.slice (some ⟨gs, 0, none⟩) S.length cs, .int .i64 room, .int .i64 cap, .int .i64 wait, rv'] := by
      have := h.ref.cells; unfold RowAt at this ⊢; rw [hb1 g hgl (Ne.symm h.ref.apart.2.1)]; exact this
    exact h1.set 4 v'
  · have h1 : RowAt w1 gs 43 (flatS S ++ sp) := by
      have := h.ref.srcs; unfold RowAt at this ⊢; rw [hb1 gs hsl (Ne.symm h.ref.apart.2.2)]; exact this
    exact h1.other (a := ⟨g, 4, none⟩) h.ref.apart.1 _
  · rw [natsV_snoc]
    have : (row ++ [i]).length = row.length + 1 := by simp
    rw [this]
    exact owns_keep (fun b hb => stay_set _ _ _ _ _ (fun e => hng (by rw [← e]; exact hb))) ho
  · refine h.but.trans (hB.setCell (Nat.zero_le _) _) (fun b hb hF => ?_)
    rw [stay_set _ _ _ _ _ (fun e => hF (.inl e))]
    refine hb1 b (by omega) (fun e => ?_)
    rcases h.own b e.symm with h1 | h1
    · exact hF (.inr (.inr h1))
    · omega
  · have h1 : RowAt w1 w.heap.size 37 [.int .i64 0, .int .i64 0, .int .i64 0] := by
      have := h.res; unfold RowAt at this ⊢
      rw [hb1 _ hz (fun e => by
        rcases h.own _ e.symm with h1 | h1
        · have := h.old.2.2 _ h1; omega
        · omega)]
      exact this
    exact h1.other (a := ⟨g, 4, none⟩) (by have := h.old.1; show g ≠ w.heap.size; omega) _
  · rcases hnew b hb with h1 | h1
    · exact h.own b h1
    · exact .inr (by omega)
/-- behind the append, ahead of the store: the struct is as it was -/
theorem InT.grown {w wr w1 : World} {g gs cs : Nat} {sp : List Value} {rv rv' : Value} {S : List Src} {room cap wait : Int} {row : List Nat} {o : Obj} (h : InT w wr g gs cs sp rv rv' S room cap wait row)
    (hg : (wr.alloc o).grownBy w1 rv'.ownBlock) : RowAt w1 g 35 [.slice (some ⟨gs, 0, none⟩) S.length cs, .int .i64 room, .int .i64 cap, .int .i64 wait, rv'] := by
  have hgl := h.ref.cells.lt
  have := h.ref.cells
  unfold RowAt at this ⊢
  rw [hg.block g (by simp; omega) (Ne.symm h.ref.apart.2.1), ((Below.refl wr.heap.size wr).alloc (Nat.le_refl _) o).block g hgl]
  exact this
/-- the pool is put into its place -/
theorem InT.setP {w wr : World} {g gs cs : Nat} {sp : List Value} {rv rv' : Value} {S : List Src} {room cap wait : Int} {row : List Nat} (h : InT w wr g gs cs sp rv rv' S room cap wait row) (x y z : Int) :
    InT w (((wr.setCell ⟨g, 1, none⟩ (.int .i64 x)).setCell ⟨g, 2, none⟩ (.int .i64 y)).setCell ⟨g, 3, none⟩ (.int .i64 z)) g gs cs sp rv rv' S x y z row := by
  have hst : ∀ b, b ≠ g → (((wr.setCell ⟨g, 1, none⟩ (.int .i64 x)).setCell ⟨g, 2, none⟩ (.int .i64 y)).setCell ⟨g, 3, none⟩ (.int .i64 z)).heap[b]? = wr.heap[b]? := fun b hb => by
    rw [stay_set _ _ _ _ _ hb, stay_set _ _ _ _ _ hb, stay_set _ _ _ _ _ hb]
  refine ⟨⟨((h.ref.cells.set 1 _).set 2 _).set 3 _, ?_, owns_keep (fun b hb => hst b (fun e => h.ref.apart.2.1 (by rw [← e]; exact hb))) h.ref.rows, h.ref.apart, h.ref.room⟩, h.but.trans ((((Below.refl 0 wr).setCell (Nat.zero_le _) _).setCell (Nat.zero_le _) _).setCell (Nat.zero_le _) _) (fun b _ hF => hst b (fun e => hF (.inl e))), ?_, h.own, h.old⟩
  · have := h.ref.srcs
    unfold RowAt at this ⊢
    rw [hst _ (Ne.symm h.ref.apart.1)]; exact this
  · have := h.res
    unfold RowAt at this ⊢
    rw [hst _ (by have := h.old.1; omega)]; exact this
/-- at the end: those that wait take the row's place -/
theorem InT.fin {w wr : World} {g gs cs : Nat} {sp : List Value} {rv rv' wv : Value} {S : List Src} {room cap wait : Int} {row row' : List Nat} (h : InT w wr g gs cs sp rv rv' S room cap wait row) {B : Nat} (hB : w.heap.size < B) (ho : wr.ownsRow B 3 1 wv row'.length (natsV row')) (x y z : Int) :
    ButIn (refF g gs rv) w ((((wr.setCell ⟨g, 4, none⟩ wv).setCell ⟨w.heap.size, 0, none⟩ (.int .i64 x)).setCell ⟨w.heap.size, 1, none⟩ (.int .i64 y)).setCell ⟨w.heap.size, 2, none⟩ (.int .i64 z)) ∧
    RefAt ((((wr.setCell ⟨g, 4, none⟩ wv).setCell ⟨w.heap.size, 0, none⟩ (.int .i64 x)).setCell ⟨w.heap.size, 1, none⟩ (.int .i64 y)).setCell ⟨w.heap.size, 2, none⟩ (.int .i64 z)) g gs cs sp wv S room cap wait row' ∧ (∀ b, wv.ownBlock = some b → w.heap.size ≤ b) := by
  obtain ⟨o1, o2, o3⟩ := h.old
  have hwb : ∀ b, wv.ownBlock = some b → B ≤ b := fun b hb => by
    rcases ho.2 with ⟨rfl, _⟩ | ⟨g', cap, cur, e1, hb', _⟩
    · simp [Value.ownBlock] at hb
    · rw [e1] at hb; simp [Value.ownBlock] at hb; omega
  have hst : ∀ b, b ≠ g → b ≠ w.heap.size → ((((wr.setCell ⟨g, 4, none⟩ wv).setCell ⟨w.heap.size, 0, none⟩ (.int .i64 x)).setCell ⟨w.heap.size, 1, none⟩ (.int .i64 y)).setCell ⟨w.heap.size, 2, none⟩ (.int .i64 z)).heap[b]? = wr.heap[b]? := fun b h1 h2 => by
    rw [stay_set _ _ _ _ _ h2, stay_set _ _ _ _ _ h2, stay_set _ _ _ _ _ h2, stay_set _ _ _ _ _ h1]
  have ho0 : wr.ownsRow 0 3 1 wv row'.length (natsV row') := by
    refine ⟨ho.1, ?_⟩
    rcases ho.2 with h1 | ⟨g', cap, cur, e1, _, h2⟩
    · exact .inl h1
    · exact .inr ⟨g', cap, cur, e1, Nat.zero_le _, h2⟩
  refine ⟨h.but.trans (((((Below.refl 0 wr).setCell (Nat.zero_le _) _).setCell (Nat.zero_le _) _).setCell (Nat.zero_le _) _).setCell (Nat.zero_le _) _) (fun b hb hF => hst b (fun e => hF (.inl e)) (by omega)), ⟨?_, ?_, owns_keep (fun b hb => hst b (by have := hwb b hb; omega) (by have := hwb b hb; omega)) ho0, ⟨h.ref.apart.1, fun e => by have := hwb _ e; omega, fun e => by have := hwb _ e; omega⟩, h.ref.room⟩, fun b hb => by have := hwb b hb; omega⟩
  · exact (((h.ref.cells.set 4 wv).other (a := ⟨w.heap.size, 0, none⟩) (by show w.heap.size ≠ g; omega) _).other (a := ⟨w.heap.size, 1, none⟩) (by show w.heap.size ≠ g; omega) _).other (a := ⟨w.heap.size, 2, none⟩) (by show w.heap.size ≠ g; omega) _
  · have := h.ref.srcs
    unfold RowAt at this ⊢
    rw [hst _ (Ne.symm h.ref.apart.1) (by omega)]; exact this
/-- what changes from a block on alone -/
theorem InT.above {w wr w1 : World} {g gs cs B : Nat} {sp : List Value} {rv rv' : Value} {S : List Src} {room cap wait : Int} {row : List Nat} (h : InT w wr g gs cs sp rv rv' S room cap wait row) (hb : Below B wr w1) (hB : w.heap.size < B) (ho : ∀ b, rv'.ownBlock = some b → b < B) : InT w w1 g gs cs sp rv rv' S room cap wait row := by
  obtain ⟨o1, o2, o3⟩ := h.old
  refine ⟨h.ref.keep ?_, h.but.trans (hb.mono (Nat.zero_le _)) (fun b hb' _ => hb.block b (by omega)), h.res.later hb hB, h.own, h.old⟩
  rintro b (rfl | rfl | e)
  · exact hb.block _ (by omega)
  · exact hb.block _ (by omega)
  · exact hb.block _ (ho b e)
theorem owns_cell {w : World} {base n c : Nat} {T : TypeId} {a : Option Addr} {xs : List Value} (h : w.ownsRow base T 1 (.slice a n c) n xs) {k : Nat} (hk : k < n) {x : Value} (hx : xs[k]? = some x) : ∃ gr, a = some ⟨gr, 0, none⟩ ∧ w.cell? ⟨gr, k, none⟩ = some x := by
  rcases h.2 with ⟨e, h0⟩ | ⟨gr, cap, cur, hv, hb, hg, hc, hm, hs, ht⟩
  · omega
  · simp only [Value.slice.injEq] at hv
    refine ⟨gr, hv.1, ?_⟩
    rw [cell_of_row w gr k _ T (0, 0) hg]
    rw [← ht, List.getElem?_take] at hx
    split at hx
    · simpa using hx
    · cases hx
theorem natsV_at (l : List Nat) (k : Nat) (h : k < l.length) : (natsV l)[k]? = some (.int .i64 (l.getD k 0 : Nat)) := by
  simp [natsV, List.getD, List.getElem?_eq_getElem h]
/-- the beginning -/
theorem InT.start {w : World} {g gs cs : Nat} {sp : List Value} {rv : Value} {S : List Src} {room cap wait : Int} {row : List Nat} (h : RefAt w g gs cs sp rv S room cap wait row) : InT w (w.alloc (.cells #[.int .i64 0, .int .i64 0, .int .i64 0] 37)) g gs cs sp rv rv S room cap wait row := by
  have hb : Below w.heap.size w (w.alloc (.cells #[.int .i64 0, .int .i64 0, .int .i64 0] 37)) := (Below.refl _ _).alloc (Nat.le_refl _) _
  exact ⟨h.later hb, ButIn.of_below hb, row_made w _ _ _ _ rfl rfl, fun b hb => .inl hb, h.cells.lt, h.srcs.lt, fun b hb => owns_lt h.rows hb⟩
end Ev
end Go.Proofs.YtkpmjmgmgkdfnajDoor

/- Contracts of errors.As at an api.Errno, of plain.Told, and of fairsame.Error. After the kit's worked text on errors.As (Toyas), turned to a target of an integer type. -/
namespace Go.Proofs.YtkpmjmgmgkdfnajDoor
namespace Fr
open Go.RowKit Go.Extern.Stop Go.Stop Go.Extern
set_option linter.unusedSimpArgs false
set_option linter.unusedVariables false

/-- what package errors' variable errorType holds -/
def handleV : Value := .iface 88 (.agg #[.pointer (some ⟨1, 28, none⟩)])

theorem valueOfT (t : Addr) (w : World) : (ReflectliteValue.unpack (.iface 68 (.pointer (some t)))).run Tryd.prog w
    = .ok (.agg #[.pointer (some ⟨1, 68, none⟩), .pointer (some ⟨w.heap.size, 0, none⟩), .int .u64 150]) (w.alloc (.cells #[.pointer (some t)] 68)) := by kernel_rfl
theorem typeT (a : Addr) (w : World) : (ReflectliteValue.methodAny (ReflectliteValue.valueError "reflectlite.Value.Type" 0) (fun t _ _ _ => ReflectliteType.toType t) #[.agg #[.pointer (some ⟨1, 68, none⟩), .pointer (some a), .int .u64 150]]).run Tryd.prog w
    = .ok (.iface 88 (.agg #[.pointer (some ⟨1, 68, none⟩)])) w := by kernel_rfl
theorem methodKind (h : Value) (w : World) : (Go.method 231 88 (.agg #[h]) "Kind").run Tryd.prog w = .ok (59, h) w := by kernel_rfl
theorem kindT (w : World) : ((ReflectliteType.abiMethod fun t => Functor.map (fun a : Nat => Value.int IntKind.u8 (a : Int)) (Rtype.kind t)) #[.pointer (some ⟨1, 68, none⟩)]).run Tryd.prog w = .ok (.int .u8 22) w := by kernel_rfl
theorem kindE (w : World) : ((ReflectliteType.abiMethod fun t => Functor.map (fun a : Nat => Value.int IntKind.u8 (a : Int)) (Rtype.kind t)) #[.pointer (some ⟨1, 54, none⟩)]).run Tryd.prog w = .ok (.int .u8 2) w := by kernel_rfl

/-- a method of a Value first takes the Value apart -/
theorem method_shape (z : Sem Value) (f : TypeId → Addr → Nat → Nat → Sem Value) : ∃ g : Option (TypeId × Addr × Nat) → Sem Value,
    (∀ v, ReflectliteValue.method z f #[v] = (ReflectliteValue.parts v >>= g)) ∧ ∀ t a fl, g (some (t, a, fl)) = f t a fl (fl % 32) :=
  ⟨_, fun _ => rfl, fun _ _ _ => rfl⟩
theorem partsT (a : Addr) (w : World) : (ReflectliteValue.parts (.agg #[.pointer (some ⟨1, 68, none⟩), .pointer (some a), .int .u64 150])).run Tryd.prog w = .ok (some (68, a, 150)) w := by kernel_rfl
theorem isNilT (a p : Addr) (W : World) (ha : W.cell? a = some (.pointer (some p))) :
    (ReflectliteValue.method (ReflectliteValue.valueError "reflectlite.Value.IsNil" 0) ReflectliteValue.isNil #[.agg #[.pointer (some ⟨1, 68, none⟩), .pointer (some a), .int .u64 150]]).run Tryd.prog W = .ok (.bool false) W := by
  obtain ⟨g, h1, h2⟩ := method_shape _ _
  rw [h1]
  simp only [Sem.run_bind, partsT, Result.andThen, h2]
  simp [ReflectliteValue.isNil, loadVar, isAgg, underlying, Tryd.underlying68, ha, Result.andThen]

theorem methodElem (h : Value) (w : World) : (Go.method 231 88 (.agg #[h]) "Elem").run Tryd.prog w = .ok (69, .agg #[h]) w := by kernel_rfl
theorem methodImplements (h : Value) (w : World) : (Go.method 231 88 (.agg #[h]) "Implements").run Tryd.prog w = .ok (70, .agg #[h]) w := by kernel_rfl
theorem methodAssignableTo (h : Value) (w : World) : (Go.method 231 88 (.agg #[h]) "AssignableTo").run Tryd.prog w = .ok (67, .agg #[h]) w := by kernel_rfl
theorem elemT (w : World) : (ReflectliteType.method ReflectliteType.elem #[.agg #[.pointer (some ⟨1, 68, none⟩)]]).run Tryd.prog w = .ok (.iface 88 (.agg #[.pointer (some ⟨1, 54, none⟩)])) w := by kernel_rfl
theorem implementsE (w : World) : (ReflectliteType.relation "Implements" ReflectliteType.implements_ #[.agg #[.pointer (some ⟨1, 54, none⟩)], .iface 88 (.agg #[.pointer (some ⟨1, 28, none⟩)])]).run Tryd.prog w = .ok (.bool true) w := by kernel_rfl
theorem typeOfE (v : Value) (w : World) : (ReflectliteType.typeOf #[.iface 54 v]).run Tryd.prog w = .ok (.iface 88 (.agg #[.pointer (some ⟨1, 54, none⟩)])) w := by kernel_rfl
theorem assignableE (w : World) : (ReflectliteType.relation "AssignableTo" ReflectliteType.assignableTo #[.agg #[.pointer (some ⟨1, 54, none⟩)], .iface 88 (.agg #[.pointer (some ⟨1, 54, none⟩)])]).run Tryd.prog w = .ok (.bool true) w := by kernel_rfl
theorem valueOfE (k : Int) (w : World) : (ReflectliteValue.unpack (.iface 54 (.int .i64 k))).run Tryd.prog w
    = .ok (.agg #[.pointer (some ⟨1, 54, none⟩), .pointer (some ⟨w.heap.size, 0, none⟩), .int .u64 130]) (w.alloc (.cells #[.int .i64 k] 54)) := by kernel_rfl

theorem elemOfT (w : World) : (Rtype.elem? 68).run Tryd.prog w = .ok (some 54) w := by kernel_rfl
theorem mkE (p : Addr) (w : World) : (ReflectliteValue.mk 54 p ReflectliteValue.flagAddr).run Tryd.prog w = .ok (.agg #[.pointer (some ⟨1, 54, none⟩), .pointer (some p), .int .u64 386]) w := by kernel_rfl
theorem elemVT (a p : Addr) (W : World) (ha : W.cell? a = some (.pointer (some p))) :
    (ReflectliteValue.method (ReflectliteValue.valueError "reflectlite.Value.Elem" 0) ReflectliteValue.elem #[.agg #[.pointer (some ⟨1, 68, none⟩), .pointer (some a), .int .u64 150]]).run Tryd.prog W
      = .ok (.agg #[.pointer (some ⟨1, 54, none⟩), .pointer (some p), .int .u64 386]) W := by
  obtain ⟨g, h1, h2⟩ := method_shape _ _
  rw [h1]
  simp only [Sem.run_bind, partsT, Result.andThen, h2]
  simp [ReflectliteValue.elem, loadVar, isAgg, underlying, Tryd.underlying68, ha, Result.andThen, elemOfT, mkE]
theorem partsEa (a : Addr) (w : World) : (ReflectliteValue.parts (.agg #[.pointer (some ⟨1, 54, none⟩), .pointer (some a), .int .u64 386])).run Tryd.prog w = .ok (some (54, a, 386)) w := by kernel_rfl
theorem partsE (a : Addr) (w : World) : (ReflectliteValue.parts (.agg #[.pointer (some ⟨1, 54, none⟩), .pointer (some a), .int .u64 130])).run Tryd.prog w = .ok (some (54, a, 130)) w := by kernel_rfl
theorem directE (w : World) : (Rtype.directlyAssignable 54 54).run Tryd.prog w = .ok true w := by kernel_rfl
/-- of two Values of api.Errno, the first one addressable: what the second one holds is read, whether it may be assigned is asked, then it is stored -/
theorem set_shape : ∃ (g : Option (TypeId × Addr × Nat) → Option (TypeId × Addr × Nat) → Sem Value) (h : Addr → Value → Bool → Sem Value),
    (∀ v x, ReflectliteValue.set #[v, x] = (ReflectliteValue.parts v >>= fun p => ReflectliteValue.parts x >>= fun q => g p q)) ∧
    (∀ a b, g (some (54, a, 386)) (some (54, b, 130)) = (loadVar 54 b >>= fun val => Rtype.directlyAssignable 54 54 >>= fun d => h a val d)) ∧
    ∀ a val, h a val true = (storeVar 54 a val >>= fun _ => pure (.tuple #[])) :=
  ⟨_, _, fun _ _ => rfl, fun _ _ => rfl, fun _ _ => rfl⟩
theorem setE (ta b : Addr) (k : Int) (old : Value) (W : World) (hb : W.cell? b = some (.int .i64 k)) (ht : W.cell? ta = some old) (hf : W.frozen? ta = false) :
    (ReflectliteValue.set #[.agg #[.pointer (some ⟨1, 54, none⟩), .pointer (some ta), .int .u64 386], .agg #[.pointer (some ⟨1, 54, none⟩), .pointer (some b), .int .u64 130]]).run Tryd.prog W
      = .ok (.tuple #[]) (W.setCell ta (.int .i64 k)) := by
  obtain ⟨g, h, h1, h2, h3⟩ := set_shape
  rw [h1]
  simp only [Sem.run_bind, partsEa, partsE, Result.andThen, h2]
  simp [loadVar, isAgg, underlying, Tryd.underlying54, hb, Result.andThen, directE, h3, storeVar, Value.cells, storeCells, Addr.add]
  rw [run_store Tryd.prog W ta _ _ (by rfl)]
  simp [ht, hf]
end Fr
end Go.Proofs.YtkpmjmgmgkdfnajDoor

/- Slices of slices of int: rows of them that a call owns. -/
namespace Go.Proofs.YtkpmjmgmgkdfnajDoor
namespace Ns
open Go.RowKit
set_option linter.unusedSimpArgs false
set_option linter.unusedVariables false

theorem infoInts : (Tryd.prog.info? 33).map (fun i => (i.zero, i.size, i.bytes)) = some (some (.slice none 0 0), 1, 24) := by kernel_rfl

/-- a row of slices that the call owns is a list of lists -/
theorem lists_of_owns {Q : Nat → Prop} {w : World} {base : Nat} {v : Value} {ll : List (List Int)} {vs : List Value} (hl : ll.length ≤ 9223372036854775807) (hvs : vs.length = ll.length) (h : w.ownsRow base 33 1 v ll.length vs)
    (hi : ∀ i, i < ll.length → IntsAt Q w (vs.getD i undef) (ll.getD i [])) (hQ : ∀ g, base ≤ g → Q g) : ListsAt Q w v ll := by
  have h' := h
  obtain ⟨h0, h⟩ := h
  rcases h with ⟨rfl, h⟩ | ⟨g, cap, cur, rfl, hb, hg, hc, hm, hs, ht⟩
  · have : ll = [] := List.eq_nil_of_length_eq_zero h
    subst this
    exact ⟨none, 0, rfl, ⟨Nat.le_refl _, by simp⟩, .inl rfl⟩
  · refine ⟨_, cap, rfl, ⟨hc, hl⟩, .inr ⟨g, 0, rfl, fun i hi' => ⟨vs.getD i undef, ?_, hi i hi'⟩, hQ g hb⟩⟩
    have := h'.cells (g := g) rfl i (vs.getD i undef) (by simp [List.getD, List.getElem?_eq_getElem (show i < vs.length by omega)])
    rw [add_addr] at this
    exact this

end Ns
end Go.Proofs.YtkpmjmgmgkdfnajDoor

/- A slice that lies somewhere within a block of its thing's own, and what an append and a cut make of it. -/
namespace Go.Proofs.YtkpmjmgmgkdfnajDoor
namespace Ev
open Go.RowKit Fr Ns Ld Fl
set_option linter.unusedSimpArgs false
set_option linter.unusedVariables false

/-- the slice v holds the cells xs, a cell each; what lies behind it up to its capacity may be written into -/
def TailAt (w : World) (T : TypeId) (v : Value) (n : Nat) (xs : List Value) : Prop :=
  xs.length = n ∧ ((v = .slice none 0 0 ∧ n = 0) ∨ ∃ g cap pre sp, v = .slice (some ⟨g, pre.length, none⟩) n cap ∧ RowAt w g T (pre ++ (xs ++ sp)) ∧ n ≤ cap ∧ cap ≤ maxLen ∧ cap ≤ n + sp.length)
theorem TailAt.keep {w w' : World} {T : TypeId} {v : Value} {n : Nat} {xs : List Value} (hk : ∀ g, v.ownBlock = some g → w'.heap[g]? = w.heap[g]?) (h : TailAt w T v n xs) : TailAt w' T v n xs := by
  obtain ⟨h0, h⟩ := h
  refine ⟨h0, ?_⟩
  rcases h with h | ⟨g, cap, pre, sp, e1, hr, hm⟩
  · exact .inl h
  · refine .inr ⟨g, cap, pre, sp, e1, ?_, hm⟩
    unfold RowAt at hr ⊢
    rw [hk g (by rw [e1]; rfl)]; exact hr
theorem TailAt.lt {w : World} {T : TypeId} {v : Value} {n g : Nat} {xs : List Value} (h : TailAt w T v n xs) (hg : v.ownBlock = some g) : g < w.heap.size := by
  rcases h.2 with ⟨rfl, _⟩ | ⟨g', cap, pre, sp, e1, hr, _⟩
  · simp [Value.ownBlock] at hg
  · rw [e1] at hg
    simp [Value.ownBlock] at hg
    subst hg
    exact hr.lt
theorem TailAt.shape {w : World} {T : TypeId} {v : Value} {n : Nat} {xs : List Value} (h : TailAt w T v n xs) : ∃ a c, v = .slice a n c := by
  rcases h.2 with ⟨rfl, h0⟩ | ⟨g, cap, pre, sp, e1, _⟩
  · exact ⟨none, 0, by rw [h0]⟩
  · exact ⟨_, _, e1⟩
theorem TailAt.bound {w : World} {T : TypeId} {a : Option Addr} {c n : Nat} {xs : List Value} (h : TailAt w T (.slice a n c) n xs) : n ≤ c ∧ c ≤ maxLen := by
  rcases h.2 with ⟨e, h0⟩ | ⟨g, cap, pre, sp, e1, _, h2, h3, _⟩
  · simp only [Value.slice.injEq] at e
    obtain ⟨-, -, rfl⟩ := e
    exact ⟨by omega, Nat.zero_le _⟩
  · simp only [Value.slice.injEq] at e1
    obtain ⟨-, -, rfl⟩ := e1
    exact ⟨h2, h3⟩
theorem TailAt.nil (w : World) (T : TypeId) : TailAt w T (.slice none 0 0) 0 [] := ⟨rfl, .inl ⟨rfl, rfl⟩⟩
theorem TailAt.of_owns {w : World} {base n : Nat} {T : TypeId} {v : Value} {xs : List Value} (h : w.ownsRow base T 1 v n xs) : TailAt w T v n xs ∧ ∀ g, v.ownBlock = some g → base ≤ g := by
  obtain ⟨h0, h⟩ := h
  rcases h with ⟨rfl, h1⟩ | ⟨g, cap, cur, rfl, hb, hg, hc, hm, hs, ht⟩
  · exact ⟨⟨by omega, .inl ⟨rfl, h1⟩⟩, fun g hg => by simp [Value.ownBlock] at hg⟩
  · refine ⟨⟨by omega, .inr ⟨g, cap, [], cur.toList.drop n, rfl, ?_, hc, hm, ?_⟩⟩, fun k hk => by simp [Value.ownBlock] at hk; omega⟩
    · unfold RowAt
      rw [hg, ← ht, Nat.mul_one, List.nil_append, List.take_append_drop]
    · simp [hs]; omega
/-- one more behind it -/
theorem run_append_tail {P : Program} (w : World) (t ty e : TypeId) (i : TypeInfo) (z : Value) (bytes : Nat) (ht : P.underlying t = some (.slice e)) (hi : P.info? e = some i) (hz : i.zero = some z)
    (hsize : i.size = 1) (hby : i.bytes = bytes) (hzs : z.cells.size = 1) (v : Value) (n : Nat) (xs : List Value) (h : TailAt w e v n xs)
    (a : Addr) (c : Nat) (x : Value) (hx : ∀ j u, [x][j]? = some u → w.cell? (a.add j) = some u) (h1 : x.oneCell' = true) (h63 : n + 1 ≤ maxLen) (hbytes : (n + 1) * bytes ≤ 140737488355328) :
    ∃ v' w', (Builtin.append_ #[t, t] ty #[v, .slice (some a) 1 c]).run P w = .ok v' w' ∧ TailAt w' e v' (n + 1) (xs ++ [x]) ∧ w.grownBy w' v.ownBlock ∧ (v'.ownBlock = v.ownBlock ∨ ∀ g, v'.ownBlock = some g → w.heap.size ≤ g) := by
  have h1' : ∀ u ∈ [x], u.oneCell' = true := by intro u hu; simp at hu; subst hu; exact h1
  obtain ⟨h0, h⟩ := h
  rcases h with ⟨rfl, rfl⟩ | ⟨g, cap, pre, sp, rfl, hr, hc, hm, hsp⟩
  · obtain rfl : xs = [] := List.eq_nil_of_length_eq_zero h0
    obtain ⟨v', w', hrun, r1, r2, _⟩ := run_append_own (P := P) w w.heap.size t ty e i z 1 bytes ht hi hz hsize hby hzs (by decide) (.slice none 0 0) 0 [] (World.ownsRow_nil w _ e 1) a 1 c [x] rfl hx h1' h63 hbytes (Nat.le_refl _)
    obtain ⟨q1, q2⟩ := TailAt.of_owns r1
    exact ⟨v', w', hrun, q1, r2, .inr q2⟩
  · by_cases hroom : n + 1 ≤ cap
    · cases sp with
      | nil => simp at hsp; omega
      | cons y r =>
        have hat : (pre ++ (xs ++ y :: r))[pre.length + n]? = some y := by
          rw [List.getElem?_append_right (by omega), List.getElem?_append_right (by omega)]
          simp [h0]
        have hrun := run_append_room_cells (P := P) w t ty e i ht hi g pre.length n cap a 1 c [x] (by rw [hsize]; rfl) hx h1' hroom
          (fun j hj => by
            have : j = 0 := by simpa using hj
            subst this
            rw [hsize, Nat.mul_one, Nat.add_zero, hr.cell hat]; rfl)
          (fun j hj => hr.frozen _)
        rw [hsize, Nat.mul_one] at hrun
        have hset : w.setCells g (pre.length + n) [x] = w.setCell ⟨g, pre.length + n, none⟩ x := rfl
        rw [hset] at hrun
        have hB0 : Below 0 w (w.setCell ⟨g, pre.length + n, none⟩ x) := (Below.refl 0 w).setCell (Nat.zero_le _) _
        refine ⟨_, _, hrun, ⟨by simp [h0], .inr ⟨g, cap, pre, r, rfl, ?_, hroom, hm, by simp at hsp; omega⟩⟩, ⟨hB0.os, hB0.tape, hB0.output, hB0.size, fun k hk hne => stay_set _ _ _ _ _ (fun e => hne (by rw [e]; rfl))⟩, .inl rfl⟩
        have := hr.set (pre.length + n) x
        rw [List.set_append_right _ _ (by omega), List.set_append_right _ _ (by omega)] at this
        rw [show pre.length + n - pre.length - xs.length = 0 by omega, List.set_cons_zero] at this
        simpa using this
    · obtain ⟨v', w', hrun, r1, r2⟩ := run_append_arg_grows (P := P) w t ty e i z 1 bytes ht hi hz hsize hby hzs (by decide) ⟨g, pre.length, none⟩ n cap xs (by omega)
        (fun j u hj => by
          rw [Addr.add_lit]
          refine hr.cell ?_
          have hl : j < xs.length := (List.getElem?_eq_some_iff.1 hj).1
          rw [List.getElem?_append_right (by omega), Nat.add_sub_cancel_left, List.getElem?_append_left hl]; exact hj) a 1 c [x] rfl hx (by omega) h63 hbytes
      obtain ⟨q1, q2⟩ := TailAt.of_owns r1
      exact ⟨v', w', hrun, q1, ⟨r2.os, r2.tape, r2.output, r2.size, fun k hk _ => r2.block k hk (by simp)⟩, .inr q2⟩
/-- for the walk -/
theorem wpList_append_tail {P : Program} (w : World) {ops : Array Oper} {rest : List Oper} {o : Oper} {a : Act} {Q : Exit → Act → World → Prop} (hgd : o.guard = none) (s x : Operand) (t : TypeId)
    (ho : o.op = .call { callee := .builtin .append, args := #[s, x], argTypes := #[t, t] })
    (e : TypeId) (i : TypeInfo) (z : Value) (bytes : Nat) (ht : P.underlying t = some (.slice e)) (hi : P.info? e = some i) (hz : i.zero = some z) (hsize : i.size = 1) (hby : i.bytes = bytes) (hzs : z.cells.size = 1)
    (v : Value) (n : Nat) (xs : List Value) (hs : a.eval s = v) (h : TailAt w e v n xs)
    (ad : Addr) (c : Nat) (y : Value) (hx : a.eval x = .slice (some ad) 1 c) (hnews : ∀ j u, [y][j]? = some u → w.cell? (ad.add j) = some u) (h1 : y.oneCell' = true)
    (h63 : n + 1 ≤ maxLen) (hbytes : (n + 1) * bytes ≤ 140737488355328)
    (hK : ∀ v' w', TailAt w' e v' (n + 1) (xs ++ [y]) → w.grownBy w' v.ownBlock → (v'.ownBlock = v.ownBlock ∨ ∀ g, v'.ownBlock = some g → w.heap.size ≤ g) → wpList P ops Q rest (a.put o.dst v') w') :
    wpList P ops Q (o :: rest) a w := by
  refine wpList_plain hgd fun K hK' => ?_
  obtain ⟨v', w', hrun, h2, h3, h4⟩ := run_append_tail (P := P) w t o.type e i z bytes ht hi hz hsize hby hzs v n xs h ad c y hnews h1 h63 hbytes
  unfold Oper.wp
  simp [execOp, ho, resolve, invoke, builtin, hs, hx, hrun, Result.andThen]
  exact hK' _ _ (hK v' w' h2 h3 h4)
theorem TailAt.alloc {w : World} {T : TypeId} {v : Value} {n : Nat} {xs : List Value} (h : TailAt w T v n xs) (o : Obj) : TailAt (w.alloc o) T v n xs :=
  h.keep (fun g hg => ((Below.refl w.heap.size w).alloc (Nat.le_refl _) o).block g (h.lt hg))
/-- where its cells lie -/
theorem TailAt.cell {w : World} {T : TypeId} {a : Option Addr} {n c : Nat} {xs : List Value} (h : TailAt w T (.slice a n c) n xs) : (n = 0 ∧ c = 0 ∧ a = none) ∨ ∃ g off, a = some ⟨g, off, none⟩ ∧ ∀ k x, xs[k]? = some x → w.cell? ⟨g, off + k, none⟩ = some x := by
  rcases h.2 with ⟨e, h0⟩ | ⟨g, cap, pre, sp, e1, hr, _⟩
  · simp only [Value.slice.injEq] at e
    obtain ⟨rfl, -, rfl⟩ := e
    exact .inl ⟨h0, rfl, rfl⟩
  · simp only [Value.slice.injEq] at e1
    obtain ⟨rfl, -, rfl⟩ := e1
    refine .inr ⟨g, pre.length, rfl, fun k x hk => hr.cell ?_⟩
    have hl : k < xs.length := (List.getElem?_eq_some_iff.1 hk).1
    rw [List.getElem?_append_right (by omega), Nat.add_sub_cancel_left, List.getElem?_append_left hl]; exact hk
/-- a cut of it -/
theorem TailAt.cut {w : World} {T : TypeId} {g off n c : Nat} {xs : List Value} (h : TailAt w T (.slice (some ⟨g, off, none⟩) n c) n xs) {i j : Nat} (hij : i ≤ j) (hj : j ≤ n) : TailAt w T (.slice (some (if c = i then ⟨g, off, none⟩ else ⟨g, off + i, none⟩)) (j - i) (c - i)) (j - i) ((xs.drop i).take (j - i)) := by
  obtain ⟨h0, h⟩ := h
  refine ⟨by simp [h0]; omega, ?_⟩
  rcases h with ⟨e, _⟩ | ⟨g', cap, pre, sp, e1, hr, hc, hm, hsp⟩
  · simp at e
  · simp only [Value.slice.injEq, Option.some.injEq, Addr.mk.injEq, and_true, true_and] at e1
    obtain ⟨⟨rfl, rfl⟩, rfl⟩ := e1
    refine .inr ?_
    by_cases hci : c = i
    · subst hci
      have hj' : j = c := by omega
      subst hj'
      refine ⟨g, 0, pre, xs ++ sp, by simp, ?_, by omega, Nat.zero_le _, Nat.zero_le _⟩
      simpa using hr
    · refine ⟨g, c - i, pre ++ xs.take i, xs.drop j ++ sp, ?_, ?_, by omega, by omega, ?_⟩
      · rw [if_neg hci]
        have hpl : (pre ++ xs.take i).length = pre.length + i := by rw [List.length_append, List.length_take]; omega
        rw [hpl]
      · have e : pre ++ xs.take i ++ ((xs.drop i).take (j - i) ++ (xs.drop j ++ sp)) = pre ++ (xs ++ sp) := by
          have e1 : (xs.drop i).take (j - i) ++ xs.drop j = xs.drop i := by
            have : xs.drop j = (xs.drop i).drop (j - i) := by rw [List.drop_drop, show i + (j - i) = j by omega]
            rw [this, List.take_append_drop]
          rw [List.append_assoc, ← List.append_assoc ((xs.drop i).take (j - i)), e1, ← List.append_assoc (xs.take i), List.take_append_drop]
        rw [e]; exact hr
      · simp [h0]; omega
end Ev
end Go.Proofs.YtkpmjmgmgkdfnajDoor

/- The landed road in memory (package road): a struct, a row of sources, a slice of those that wait; and a tick of it, one by one. -/
namespace Go.Proofs.YtkpmjmgmgkdfnajDoor
namespace Ev
open Go.RowKit Fr Ns Ld Fl
set_option linter.unusedSimpArgs false
set_option linter.unusedVariables false

theorem butIn_trans {F : Nat → Prop} {w w1 w2 : World} (h : ButIn F w w1) (h2 : Below 0 w1 w2) (hk : ∀ b, b < w.heap.size → ¬ F b → w2.heap[b]? = w1.heap[b]?) : ButIn F w w2 :=
  ⟨h.1.trans h2, fun b hb hF => (hk b hb hF).trans (h.2 b hb hF)⟩
/-- the landed road at the block g: its sources in the block gs, those that wait in rv -/
structure LandAt (w : World) (g gs cs : Nat) (sp : List Value) (rv : Value) (S : List Src) (room cap wait : Int) (row : List Nat) : Prop where
  cells : RowAt w g 53 [.slice (some ⟨gs, 0, none⟩) S.length cs, .int .i64 room, .int .i64 cap, .int .i64 wait, rv]
  srcs : RowAt w gs 43 (flatS S ++ sp)
  rows : TailAt w 3 rv row.length (natsV row)
  apart : g ≠ gs ∧ rv.ownBlock ≠ some g ∧ rv.ownBlock ≠ some gs
  room : S.length ≤ cs
def LandInv (w : World) (p : Value) (F : Nat → Prop) (R : Road) : Prop := ∃ g gs cs sp rv, p = .pointer (some ⟨g, 0, none⟩) ∧ LandAt w g gs cs sp rv R.S R.room R.cap R.wait R.row ∧ ∀ b, F b ↔ refF g gs rv b
section
variable {w w' wr w1 : World} {g gs cs : Nat} {sp : List Value} {rv qv v' : Value} {S S' : List Src} {room cap wait : Int} {row q : List Nat}
theorem LandAt.keep (h : LandAt w g gs cs sp rv S room cap wait row) (hk : ∀ b, refF g gs rv b → w'.heap[b]? = w.heap[b]?) : LandAt w' g gs cs sp rv S room cap wait row := by
  refine ⟨?_, ?_, h.rows.keep (fun b hb => hk b (.inr (.inr hb))), h.apart, h.room⟩
  · have := h.cells; unfold RowAt at this ⊢; rw [hk g (.inl rfl)]; exact this
  · have := h.srcs; unfold RowAt at this ⊢; rw [hk gs (.inr (.inl rfl))]; exact this
theorem LandAt.lt (h : LandAt w g gs cs sp rv S room cap wait row) : ∀ b, refF g gs rv b → b < w.heap.size := by
  rintro b (rfl | rfl | hb)
  · exact h.cells.lt
  · exact h.srcs.lt
  · exact h.rows.lt hb
/-- within a tick that began in w: the sources and those that wait so far (qv); but for the road's own memory all is as it was -/
structure InL (w wr : World) (g gs cs : Nat) (sp : List Value) (rv qv : Value) (S : List Src) (room cap wait : Int) (q : List Nat) : Prop where
  cells : RowAt wr g 53 [.slice (some ⟨gs, 0, none⟩) S.length cs, .int .i64 room, .int .i64 cap, .int .i64 wait, rv]
  srcs : RowAt wr gs 43 (flatS S ++ sp)
  rows : TailAt wr 3 qv q.length (natsV q)
  apart : g ≠ gs ∧ qv.ownBlock ≠ some g ∧ qv.ownBlock ≠ some gs
  room : S.length ≤ cs
  but : ButIn (refF g gs rv) w wr
  own : ∀ b, qv.ownBlock = some b → rv.ownBlock = some b ∨ w.heap.size ≤ b
  old : g < w.heap.size ∧ gs < w.heap.size ∧ ∀ b, rv.ownBlock = some b → b < w.heap.size
theorem InL.start (h : LandAt w g gs cs sp rv S room cap wait row) : InL w w g gs cs sp rv rv S room cap wait row :=
  ⟨h.cells, h.srcs, h.rows, h.apart, h.room, ButIn.refl _ _, fun b hb => .inl hb, h.cells.lt, h.srcs.lt, fun b hb => h.rows.lt hb⟩
theorem InL.size (h : InL w wr g gs cs sp rv qv S room cap wait q) : w.heap.size ≤ wr.heap.size := h.but.1.size
theorem InL.later (h : InL w wr g gs cs sp rv qv S room cap wait q) (hb : Below wr.heap.size wr w1) : InL w w1 g gs cs sp rv qv S room cap wait q :=
  ⟨h.cells.later hb h.cells.lt, h.srcs.later hb h.srcs.lt, h.rows.keep (fun b hb' => hb.block b (h.rows.lt hb')), h.apart, h.room,
    butIn_trans h.but (hb.mono (Nat.zero_le _)) (fun b hb' _ => hb.block b (by have := h.size; omega)), h.own, h.old⟩
/-- a source is put into its place -/
theorem InL.setS (h : InL w wr g gs cs sp rv qv S room cap wait q) {i : Nat} (hi : i < S.length) (s : Src) (hS : S' = S.set i s) :
    InL w ((((wr.setCell ⟨gs, i * 4, none⟩ (.int .i64 s.1)).setCell ⟨gs, i * 4 + 1, none⟩ (.int .i64 s.2.1)).setCell ⟨gs, i * 4 + 2, none⟩ (.int .i64 s.2.2.1)).setCell ⟨gs, i * 4 + 3, none⟩ (.int .i64 s.2.2.2)) g gs cs sp rv qv S' room cap wait q := by
  subst hS
  have hst : ∀ b, b ≠ gs → ((((wr.setCell ⟨gs, i * 4, none⟩ (.int .i64 s.1)).setCell ⟨gs, i * 4 + 1, none⟩ (.int .i64 s.2.1)).setCell ⟨gs, i * 4 + 2, none⟩ (.int .i64 s.2.2.1)).setCell ⟨gs, i * 4 + 3, none⟩ (.int .i64 s.2.2.2)).heap[b]? = wr.heap[b]? := fun b hb => by
    rw [stay_set _ _ _ _ _ hb, stay_set _ _ _ _ _ hb, stay_set _ _ _ _ _ hb, stay_set _ _ _ _ _ hb]
  refine ⟨?_, row_setSrc h.srcs hi s, h.rows.keep (fun b hb => hst b (fun e => h.apart.2.2 (by rw [← e]; exact hb))), h.apart, by rw [List.length_set]; exact h.room,
    butIn_trans h.but ((((Below.refl 0 wr).setCell (Nat.zero_le _) _).setCell (Nat.zero_le _) _).setCell (Nat.zero_le _) _ |>.setCell (Nat.zero_le _) _) (fun b _ hF => hst b (fun e => hF (.inr (.inl e)))), h.own, h.old⟩
  have := h.cells
  unfold RowAt at this ⊢
  rw [List.length_set, hst g h.apart.1]; exact this
/-- one more waits: behind the append -/
theorem InL.snoc {i : Nat} {o : Obj} (h : InL w wr g gs cs sp rv qv S room cap wait q) (ho : TailAt w1 3 v' (q.length + 1) (natsV q ++ [.int .i64 i])) (hg : (wr.alloc o).grownBy w1 qv.ownBlock)
    (hat : v'.ownBlock = qv.ownBlock ∨ ∀ b, v'.ownBlock = some b → (wr.alloc o).heap.size ≤ b) : InL w w1 g gs cs sp rv v' S room cap wait (q ++ [i]) := by
  have hz := h.size
  have hsz : (wr.alloc o).heap.size = wr.heap.size + 1 := by simp
  have hb1 : ∀ b, b < wr.heap.size → some b ≠ qv.ownBlock → w1.heap[b]? = wr.heap[b]? := fun b hb hne => by
    rw [hg.block b (by omega) hne]
    exact ((Below.refl wr.heap.size wr).alloc (Nat.le_refl _) o).block b hb
  have hgl := h.cells.lt
  have hsl := h.srcs.lt
  have hnew : ∀ b, v'.ownBlock = some b → qv.ownBlock = some b ∨ wr.heap.size < b := fun b hb => by
    rcases hat with e | e
    · exact .inl (by rw [← e]; exact hb)
    · have := e b hb; exact .inr (by omega)
  have hB : Below 0 wr w1 := ((Below.refl 0 wr).alloc (Nat.zero_le _) o).grown hg (Nat.zero_le _) (fun _ _ => Nat.zero_le _)
  refine ⟨?_, ?_, ?_, ⟨h.apart.1, fun e => ?_, fun e => ?_⟩, h.room, ?_, fun b hb => ?_, h.old⟩
  · have := h.cells; unfold RowAt at this ⊢; rw [hb1 g hgl (Ne.symm h.apart.2.1)]; exact this
  · have := h.srcs; unfold RowAt at this ⊢; rw [hb1 gs hsl (Ne.symm h.apart.2.2)]; exact this
  · rw [natsV_snoc]
    have : (q ++ [i]).length = q.length + 1 := by simp
    rw [this]; exact ho
  · rcases hnew g e with h1 | h1
    · exact h.apart.2.1 h1
    · omega
  · rcases hnew gs e with h1 | h1
    · exact h.apart.2.2 h1
    · omega
  · refine butIn_trans h.but hB (fun b hb hF => hb1 b (by omega) (fun e => ?_))
    rcases h.own b e.symm with h1 | h1
    · exact hF (.inr (.inr h1))
    · omega
  · rcases hnew b hb with h1 | h1
    · exact h.own b h1
    · exact .inr (by omega)
/-- at the end: the pool, and those that wait, are put into their places -/
theorem InL.fin {wv : Value} (h : InL w wr g gs cs sp rv qv S room cap wait q) (ho : TailAt wr 3 wv row.length (natsV row)) (hw : ∀ b, wv.ownBlock = some b → qv.ownBlock = some b) (x y z : Int) :
    ButIn (refF g gs rv) w ((((wr.setCell ⟨g, 1, none⟩ (.int .i64 x)).setCell ⟨g, 2, none⟩ (.int .i64 y)).setCell ⟨g, 3, none⟩ (.int .i64 z)).setCell ⟨g, 4, none⟩ wv) ∧
    LandAt ((((wr.setCell ⟨g, 1, none⟩ (.int .i64 x)).setCell ⟨g, 2, none⟩ (.int .i64 y)).setCell ⟨g, 3, none⟩ (.int .i64 z)).setCell ⟨g, 4, none⟩ wv) g gs cs sp wv S x y z row ∧ (∀ b, wv.ownBlock = some b → rv.ownBlock = some b ∨ w.heap.size ≤ b) := by
  have hst : ∀ b, b ≠ g → ((((wr.setCell ⟨g, 1, none⟩ (.int .i64 x)).setCell ⟨g, 2, none⟩ (.int .i64 y)).setCell ⟨g, 3, none⟩ (.int .i64 z)).setCell ⟨g, 4, none⟩ wv).heap[b]? = wr.heap[b]? := fun b hb => by
    rw [stay_set _ _ _ _ _ hb, stay_set _ _ _ _ _ hb, stay_set _ _ _ _ _ hb, stay_set _ _ _ _ _ hb]
  refine ⟨butIn_trans h.but (((((Below.refl 0 wr).setCell (Nat.zero_le _) _).setCell (Nat.zero_le _) _).setCell (Nat.zero_le _) _).setCell (Nat.zero_le _) _) (fun b hb hF => hst b (fun e => hF (.inl e))), ⟨?_, ?_, ho.keep (fun b hb => hst b (fun e => h.apart.2.1 (by rw [← e]; exact hw b hb))), ⟨h.apart.1, fun e => h.apart.2.1 (hw _ e), fun e => h.apart.2.2 (hw _ e)⟩, h.room⟩, fun b hb => h.own b (hw b hb)⟩
  · exact (((h.cells.set 1 (.int .i64 x)).set 2 (.int .i64 y)).set 3 (.int .i64 z)).set 4 wv
  · have := h.srcs
    unfold RowAt at this ⊢
    rw [hst _ (Ne.symm h.apart.1)]; exact this
/-- the cells -/
theorem InL.five (h : InL w wr g gs cs sp rv qv S room cap wait q) :
    wr.cell? ⟨g, 0, none⟩ = some (.slice (some ⟨gs, 0, none⟩) S.length cs) ∧ wr.cell? ⟨g, 1, none⟩ = some (.int .i64 room) ∧ wr.cell? ⟨g, 2, none⟩ = some (.int .i64 cap) ∧ wr.cell? ⟨g, 3, none⟩ = some (.int .i64 wait) ∧ wr.cell? ⟨g, 4, none⟩ = some rv ∧ (∀ i, wr.frozen? ⟨g, i, none⟩ = false) ∧ (∀ i, wr.frozen? ⟨gs, i, none⟩ = false) ∧ g < wr.heap.size ∧ gs < wr.heap.size ∧ ∃ a c, qv = .slice a q.length c :=
  ⟨h.cells.cell rfl, h.cells.cell rfl, h.cells.cell rfl, h.cells.cell rfl, h.cells.cell rfl, fun i => h.cells.frozen i, fun i => h.srcs.frozen i, h.cells.lt, h.srcs.lt, h.rows.shape⟩
end
def roadX : RoadFace where
  Inv := LandInv
  lt := fun ⟨g, gs, cs, sp, rv, _, h, hF⟩ b hb => h.lt b ((hF b).1 hb)
  keep := fun ⟨g, gs, cs, sp, rv, hp, h, hF⟩ hk => ⟨g, gs, cs, sp, rv, hp, h.keep (fun b hb => hk b ((hF b).2 hb)), hF⟩
  ptr := fun ⟨g, gs, cs, sp, rv, hp, _, _⟩ => ⟨_, hp⟩
end Ev
end Go.Proofs.YtkpmjmgmgkdfnajDoor

/- A number from one to another one; what is wrong with what comes tick by tick. No Go in it. -/
namespace Go.Proofs.YtkpmjmgmgkdfnajDoor
namespace Ev
open Go.RowKit Fr Ns Ld Fl
set_option linter.unusedSimpArgs false
set_option linter.unusedVariables false

theorem ret_bk {k : Int} {v : Value} (h : v = errV k) : Ending.returned v = .returned (errV k) := by rw [h]
def inR (n a b : Int) : Bool := decide (a ≤ n) && decide (n ≤ b)
theorem inR_1 {n a b : Int} : inR n a b = true ↔ a ≤ n ∧ n ≤ b := by simp [inR]
theorem inR_0 {n a b : Int} : inR n a b = false ↔ n < a ∨ b < n := by simp [inR]; omega
theorem ticks_any {l : List Int} (h6 : ¬ 60 < l.length) : ticksE l = if l.any (fun x => !inTo 10000 x) then 1 else 0 := by
  have e : l.any (fun x => !inTo 10000 x) = !l.all (inTo 10000) := by simp [List.any_eq_not_all_not]
  rw [ticksE, if_neg h6, e]
  cases l.all (inTo 10000) <;> rfl

end Ev
end Go.Proofs.YtkpmjmgmgkdfnajDoor

/- What package net's calls tell, in plain numbers. -/
namespace Go.Proofs.YtkpmjmgmgkdfnajDoor
namespace Ns
open Go.RowKit Fr
set_option linter.unusedSimpArgs false
set_option linter.unusedVariables false

/-- what comes out beside a fault: nothing -/
def okL {α : Type} (k : Int) (l : List α) : List α := if k = 0 then l else []
theorem okL_0 {α : Type} (l : List α) : okL 0 l = l := rfl
theorem okL_ne {α : Type} {k : Int} (h : k ≠ 0) (l : List α) : okL k l = [] := if_neg h
def usersE (caps : List Int) (paths : List (List Int)) (link : Int) : Int :=
  if netE caps paths = 0 then if link < 0 ∨ (caps.length : Int) ≤ link then 1 else 0 else netE caps paths
def addE (caps : List Int) (paths : List (List Int)) (path : List Int) : Int :=
  if netE caps paths = 0 then if paths.length = 6 then 4 else pathE caps.length path else netE caps paths
def dropE (caps : List Int) (paths : List (List Int)) (flow : Int) : Int :=
  if netE caps paths = 0 then if flow < 0 ∨ (paths.length : Int) ≤ flow then 1 else if paths.length = 1 then 5 else 0 else netE caps paths
def less (paths : List (List Int)) (flow : Int) : List (List Int) := paths.take flow.toNat ++ paths.drop (flow.toNat + 1)

theorem netE_0 {caps : List Int} {paths : List (List Int)} (h : netE caps paths = 0) :
    0 < caps.length ∧ caps.length ≤ 6 ∧ 0 < paths.length ∧ paths.length ≤ 6 ∧ linksE caps = 0 ∧ pathsFrom caps.length paths = 0 := by
  unfold netE at h
  split at h
  · omega
  · split at h
    · omega
    · split at h
      · refine ⟨by omega, by omega, by omega, by omega, by assumption, h⟩
      · contradiction
theorem netE_mk {caps : List Int} {paths : List (List Int)} (h : 0 < caps.length ∧ caps.length ≤ 6 ∧ 0 < paths.length ∧ paths.length ≤ 6 ∧ linksE caps = 0 ∧ pathsFrom caps.length paths = 0) : netE caps paths = 0 := by
  rw [netE, if_neg (by omega), if_neg (by omega), if_pos h.2.2.2.2.1]
  exact h.2.2.2.2.2
theorem pathsFrom_append (L : Int) (l m : List (List Int)) (h : pathsFrom L l = 0) : pathsFrom L (l ++ m) = pathsFrom L m := by
  induction l with
  | nil => rfl
  | cons p r ih =>
    simp only [List.cons_append, pathsFrom] at h ⊢
    split at h
    · rw [if_pos (by assumption)]; exact ih h
    · contradiction
theorem pathsFrom_one (L : Int) (p : List Int) : pathsFrom L [p] = pathE L p := by
  simp only [pathsFrom]
  split <;> simp_all
theorem pathsFrom_iff (L : Int) (l : List (List Int)) : pathsFrom L l = 0 ↔ ∀ p ∈ l, pathE L p = 0 := by
  induction l with
  | nil => simp [pathsFrom]
  | cons q r ih =>
    simp only [pathsFrom, List.mem_cons, forall_eq_or_imp]
    split
    · simp [ih, *]
    · simp [*]
/-- a net with a flow more is a net -/
theorem netE_add {caps : List Int} {paths : List (List Int)} {path : List Int} (h : addE caps paths path = 0) :
    netE caps paths = 0 ∧ paths.length < 6 ∧ pathE caps.length path = 0 ∧ netE caps (paths ++ [path]) = 0 := by
  unfold addE at h
  split at h
  · rename_i h0
    split at h
    · omega
    · have := netE_0 h0
      refine ⟨h0, by omega, h, netE_mk ⟨this.1, this.2.1, by simp, by simp; omega, this.2.2.2.2.1, ?_⟩⟩
      rw [pathsFrom_append _ _ _ this.2.2.2.2.2, pathsFrom_one, h]
  · contradiction
end Ns
end Go.Proofs.YtkpmjmgmgkdfnajDoor

/- What is asked of package source's Check, as the document says it. -/
namespace Go.Proofs.YtkpmjmgmgkdfnajDoor
namespace Ev
open Go.RowKit Fr Ns Ld Fl

def SCheckSaid : Prop := ∀ (a b c d : Int) (w : World),
  Calls Tryd.prog 34 #[.agg #[.int .i64 a, .int .i64 b, .int .i64 c, .int .i64 d]] w fun e w' => e = .returned (errV (srcE a b c d)) ∧ Below w.heap.size w w'
end Ev
end Go.Proofs.YtkpmjmgmgkdfnajDoor

/- The library's IndexFunc and ContainsFunc at a slice of int, with any test that tells and changes nothing. -/
namespace Go.Proofs.YtkpmjmgmgkdfnajDoor
namespace Ev
open Go.RowKit Ns
set_option linter.unusedSimpArgs false
set_option linter.unusedVariables false

/-- the function g tells p of an int, and changes nothing -/
def TellsI (g : Nat) (p : Int → Bool) : Prop := (∀ (args : Array Value) (w : World), (callFunc g args).run Tryd.prog w = .ok (.enter g args) w) ∧
  ∀ (x : Int) (u : World), Calls Tryd.prog g #[.int .i64 x] u fun e w' => e = .returned (.bool (p x)) ∧ ∃ m, w' = u.drewN m
theorem enters {g : Nat} {fn : Func} (hf : Tryd.prog.funcs[g]? = some fn) (hname : (fn.name == "runtime.NumGoroutine") = false) (hb : fn.body.isNone = false) (args : Array Value) (w : World) : (callFunc g args).run Tryd.prog w = .ok (.enter g args) w := by
  have h1 : ¬ fn.name = "runtime.NumGoroutine" := by simpa using hname
  have h2 : ¬ fn.body = none := by cases hx : fn.body <;> simp_all
  simp [callFunc, hf, h1, h2, go_sem]
/-- what changes nothing changes no old memory -/
theorem drawn {f : Nat} {args : Array Value} {u : World} {R : Ending → Prop} (h : Calls Tryd.prog f args u fun e w' => R e ∧ ∃ m, w' = u.drewN m) : Calls Tryd.prog f args u fun e w' => R e ∧ Below u.heap.size u w' := by
  refine h.mono ?_
  rintro e w' ⟨he, m, rfl⟩
  exact ⟨he, below_drewN (Below.refl _ _) _⟩
theorem any_step {l : List Int} {p : Int → Bool} {k : Nat} (h : k < l.length) : (l.take (k + 1)).any p = ((l.take k).any p || p (l.getD k 0)) := by
  rw [take_snoc l k h 0, List.any_append]
  simp
theorem drewN_drewN (w : World) (m n : Nat) : ∃ k, (w.drewN m).drewN n = w.drewN k := ⟨n + m, by simp [World.drewN, Nat.add_comm, Nat.add_left_comm]⟩

end Ev
end Go.Proofs.YtkpmjmgmgkdfnajDoor

/- What is asked of package pool's Check, as the document says it. -/
namespace Go.Proofs.YtkpmjmgmgkdfnajDoor
namespace Ev
open Go.RowKit Fr Ns Ld Fl

def PCheckSaid : Prop := ∀ (s r h : Int) (w : World),
  Calls Tryd.prog 28 #[.agg #[.int .i64 s, .int .i64 r, .int .i64 h]] w fun e w' => e = .returned (errV (poolE s r h)) ∧ Below w.heap.size w w'
end Ev
end Go.Proofs.YtkpmjmgmgkdfnajDoor

/- A tick of the landed road: what its walk is told. -/
namespace Go.Proofs.YtkpmjmgmgkdfnajDoor
namespace Ev
open Go.RowKit Fr Ns Ld Fl
set_option linter.unusedSimpArgs false
set_option linter.unusedVariables false

theorem halfL {x : Int} (h : 0 ≤ x) : x.tdiv 2 = x / 2 := Int.tdiv_eq_ediv_of_nonneg h
theorem wentL {R : Road} {n : Int} (h : 0 ≤ R.cap) (hn : 0 ≤ n) : 0 ≤ wentR R n ∧ wentR R n ≤ n ∧ wentR R n ≤ R.cap := by unfold wentR; split <;> omega
theorem waitL {R : Road} {n : Int} (h : 0 ≤ R.cap) (h0 : 0 ≤ R.room) (hn : 0 ≤ n) : 0 ≤ waitR R n ∧ wentR R n + waitR R n ≤ n ∧ waitR R n ≤ R.room := by unfold waitR wentR; split <;> split at * <;> omega
theorem lostL (R : Road) (n : Int) : lostP R.room R.cap n = lostR R n := by
  have e : wentP R.cap n = wentR R n := rfl
  unfold lostP lostR waitR
  rw [e]
  split <;> omega
/-- who is told now has one under way at least -/
theorem handK_has {n : Nat} {L : Nat → Int} {room cap : Int} {R : Road} (hL : ∀ i, i < n → L i ≤ 10000) (h : RoadInv n L room cap R) {k : Nat} (hk : k < (rowR R).length) :
    (rowR R).getD k 0 < n ∧ okS (sAt (handK R k) ((rowR R).getD k 0)) ∧ 1 ≤ (sAt (handK R k) ((rowR R).getD k 0)).2.1 ∧ (sAt (handK R k) ((rowR R).getD k 0)).2.2.1 ≤ 9999 ∧ (sAt (handK R k) ((rowR R).getD k 0)).2.2.2 ≤ 9999 := by
  obtain ⟨hR, hm, _⟩ := row_inv hL h
  have hp : HasR n L ((rowR R).drop k ++ (rowR R).take k) (R.S.map sentS) := by
    refine ⟨hR.1, fun i hi => ?_⟩
    obtain ⟨o1, o2, o3⟩ := hR.2 i hi
    refine ⟨o1, ?_, o3⟩
    rw [o2, List.count_append, Nat.add_comm, ← List.count_append, List.take_append_drop]
  obtain ⟨k1, _⟩ := hand_keeps hL (wentR R (rowR R).length).toNat (waitR R (rowR R).length).toNat (fastR R) ((rowR R).take k) 0 (R.S.map sentS) ((rowR R).drop k) (fun i hi => hm i (List.mem_of_mem_take hi)) hp
  have hin : (rowR R).getD k 0 < n := hm _ (by rw [List.getD, List.getElem?_eq_getElem hk]; exact List.getElem_mem _)
  obtain ⟨o1, o2, o3⟩ := k1.2 _ hin
  have o1' : okS (sAt (handK R k) ((rowR R).getD k 0)) := o1
  have o2' : (sAt (handK R k) ((rowR R).getD k 0)).2.1 = _ := o2
  have o3' : sumS (sAt (handK R k) ((rowR R).getD k 0)) = _ := o3
  have hc : 1 ≤ ((rowR R).drop k).count ((rowR R).getD k 0) := by
    rw [List.drop_eq_getElem_cons hk, List.getD, List.getElem?_eq_getElem hk, Option.getD_some, List.count_cons_self]
    omega
  rw [List.count_append] at o2'
  have hl := hL _ hin
  have hs := srcE_0.1 o1'
  unfold sumS at o3'
  refine ⟨hin, o1', by omega, by omega, by omega⟩
theorem handK_wait (R : Road) : ∀ m, (wentR R (rowR R).length).toNat + m ≤ (rowR R).length → m ≤ (waitR R (rowR R).length).toNat → handK R ((wentR R (rowR R).length).toNat + m) = handK R (wentR R (rowR R).length).toNat := by
  intro m
  induction m with
  | zero => intro _ _; rfl
  | succ m ih =>
    intro h1 h2
    rw [← Nat.add_assoc, handK_step R (by omega), if_neg (by omega), if_pos (by omega)]
    exact ih (by omega) (by omega)
/-- three numbers lie in the block g -/
def BoxAt (w : World) (g : Nat) (x y z : Int) : Prop := w.cell? ⟨g, 0, none⟩ = some (.int .i64 x) ∧ w.cell? ⟨g, 1, none⟩ = some (.int .i64 y) ∧ w.cell? ⟨g, 2, none⟩ = some (.int .i64 z)
theorem BoxAt.keep {w w' : World} {g : Nat} {x y z : Int} (h : BoxAt w g x y z) (hk : w'.heap[g]? = w.heap[g]?) : BoxAt w' g x y z := by
  refine ⟨?_, ?_, ?_⟩
  · rw [World.cell?_of_block (w := w) (a := ⟨g, 0, none⟩) hk]; exact h.1
  · rw [World.cell?_of_block (w := w) (a := ⟨g, 1, none⟩) hk]; exact h.2.1
  · rw [World.cell?_of_block (w := w) (a := ⟨g, 2, none⟩) hk]; exact h.2.2
theorem BoxAt.lt {w : World} {g : Nat} {x y z : Int} (h : BoxAt w g x y z) : g < w.heap.size := World.block_lt_of_cell? _ _ h.1
theorem BoxAt.later {w w' : World} {g : Nat} {x y z : Int} (h : BoxAt w g x y z) (hb : Below w.heap.size w w') : BoxAt w' g x y z := h.keep (hb.block g h.lt)
theorem BoxAt.setS {w : World} {g gs o0 o1 o2 o3 : Nat} {x y z : Int} {a b c d : Value} (h : BoxAt w g x y z) (hne : g ≠ gs) : BoxAt ((((w.setCell ⟨gs, o0, none⟩ a).setCell ⟨gs, o1, none⟩ b).setCell ⟨gs, o2, none⟩ c).setCell ⟨gs, o3, none⟩ d) g x y z :=
  h.keep (by rw [stay_set _ _ _ _ _ hne, stay_set _ _ _ _ _ hne, stay_set _ _ _ _ _ hne, stay_set _ _ _ _ _ hne])
/-- what a tick has to do with the world it began in: w, then the place of its answer (block of number w's size), then w1 -/
theorem InL.oldRow {w wr : World} {g gs cs b : Nat} {sp : List Value} {rv qv : Value} {S : List Src} {room cap wait : Int} {q : List Nat} {T : TypeId} {xs : List Value} (h : InL w wr g gs cs sp rv qv S room cap wait q) (hr : RowAt w b T xs) (hb : ¬ refF g gs rv b) : RowAt wr b T xs := by
  unfold RowAt at hr ⊢
  rw [h.but.2 b (RowAt.lt hr) hb]; exact hr
/-- the end of a tick: the pool, and those that wait, are in their places; what is written then into the answer's own place changes nothing -/
theorem InL.endT {w w1 wr W6 : World} {g gs cs g6 : Nat} {sp : List Value} {rv qv wv : Value} {S : List Src} {room cap wait : Int} {q row : List Nat} {T : TypeId} {zs : List Value} {a b c x y z : Int} (h : InL w1 wr g gs cs sp rv qv S room cap wait q) (hR : RowAt w1 w.heap.size T zs) (hB : Below w.heap.size w w1)
    (hO : ∀ b, refF g gs rv b → b < w.heap.size) (hX : BoxAt wr g6 a b c) (hn : ¬ g6 = g) (ho : TailAt wr 3 wv row.length (natsV row)) (hw : ∀ b, wv.ownBlock = some b → qv.ownBlock = some b)
    (hW : W6 = ((((wr.setCell ⟨g, 1, none⟩ (.int .i64 x)).setCell ⟨g, 2, none⟩ (.int .i64 y)).setCell ⟨g, 3, none⟩ (.int .i64 z)).setCell ⟨g, 4, none⟩ wv).drew) :
    BoxAt W6 g6 a b c ∧ RowAt W6 w.heap.size T zs ∧ ∀ W', Below 0 W6 W' → (∀ k, k ≠ w.heap.size → W'.heap[k]? = W6.heap[k]?) → ButIn (refF g gs rv) w W' ∧ LandAt W' g gs cs sp wv S x y z row ∧ ∀ b, wv.ownBlock = some b → rv.ownBlock = some b ∨ w.heap.size ≤ b := by
  obtain ⟨F1, F2, F3⟩ := h.fin ho hw x y z
  have hst : ∀ k, k ≠ g → W6.heap[k]? = wr.heap[k]? := fun k hk => by
    rw [hW]
    show ((((wr.setCell ⟨g, 1, none⟩ (.int .i64 x)).setCell ⟨g, 2, none⟩ (.int .i64 y)).setCell ⟨g, 3, none⟩ (.int .i64 z)).setCell ⟨g, 4, none⟩ wv).heap[k]? = _
    rw [stay_set _ _ _ _ _ hk, stay_set _ _ _ _ _ hk, stay_set _ _ _ _ _ hk, stay_set _ _ _ _ _ hk]
  have hg : g < w.heap.size := hO g (.inl rfl)
  have hs1 := hR.lt
  refine ⟨hX.keep (hst _ hn), ?_, fun W' hb hk => ⟨⟨?_, fun k h1 h2 => ?_⟩, F2.keep (fun k hF => ?_), fun k hk' => ?_⟩⟩
  · have := h.oldRow hR (fun hF => by have := hO _ hF; omega)
    unfold RowAt at this ⊢
    rw [hst _ (by omega)]; exact this
  · have e : Below 0 w1 W6 := by rw [hW]; exact F1.1.drew
    exact (hB.mono (Nat.zero_le _)).trans (e.trans hb)
  · rw [hk k (by omega), hW]
    exact (F1.2 k (by omega) h2).trans (hB.block k h1)
  · have hne : k ≠ w.heap.size := by
      rcases hF with rfl | rfl | hF
      · omega
      · have := hO k (.inr (.inl rfl)); omega
      · rcases F3 k hF with h1 | h1
        · have := hO k (.inr (.inr h1)); omega
        · omega
    rw [hk k hne, hW]; rfl
  · rcases F3 k hk' with h1 | h1
    · exact .inl h1
    · exact .inr (by omega)
end Ev
end Go.Proofs.YtkpmjmgmgkdfnajDoor

/- What is asked of package source's Send, as the document says it. -/
namespace Go.Proofs.YtkpmjmgmgkdfnajDoor
namespace Ev
open Go.RowKit Fr Ns Ld Fl

def SSendSaid : Prop := ∀ (a b c d : Int) (w : World),
  Calls Tryd.prog 30 #[.agg #[.int .i64 a, .int .i64 b, .int .i64 c, .int .i64 d]] w fun e w' => e = .returned (.tuple #[.agg #[.int .i64 (okN (srcE a b c d) a), .int .i64 (okN (srcE a b c d) (b + goN a b c)), .int .i64 (okN (srcE a b c d) (c - goN a b c)), .int .i64 (okN (srcE a b c d) d)],
    .int .i64 (okN (srcE a b c d) (goN a b c)), errV (srcE a b c d)]) ∧ Below w.heap.size w w'
end Ev
end Go.Proofs.YtkpmjmgmgkdfnajDoor

/- What is asked of package source's Ack, as the document says it. -/
namespace Go.Proofs.YtkpmjmgmgkdfnajDoor
namespace Ev
open Go.RowKit Fr Ns Ld Fl

def SAckSaid : Prop := ∀ (a b c d : Int) (f : Bool) (w : World),
  Calls Tryd.prog 25 #[.agg #[.int .i64 a, .int .i64 b, .int .i64 c, .int .i64 d], .bool f] w fun e w' => e = .returned (.tuple #[.agg #[.int .i64 (okN (ackE a b c d) (ackW a f)), .int .i64 (okN (ackE a b c d) (b - 1)), .int .i64 (okN (ackE a b c d) c), .int .i64 (okN (ackE a b c d) (d + 1))],
    errV (ackE a b c d)]) ∧ Below w.heap.size w w'
end Ev
end Go.Proofs.YtkpmjmgmgkdfnajDoor

/- What is asked of package source's Lost, as the document says it. -/
namespace Go.Proofs.YtkpmjmgmgkdfnajDoor
namespace Ev
open Go.RowKit Fr Ns Ld Fl

def SLostSaid : Prop := ∀ (a b c d : Int) (w : World),
  Calls Tryd.prog 26 #[.agg #[.int .i64 a, .int .i64 b, .int .i64 c, .int .i64 d]] w fun e w' => e = .returned (.tuple #[.agg #[.int .i64 (okN (losE a b c d) (lostW a)), .int .i64 (okN (losE a b c d) (b - 1)), .int .i64 (okN (losE a b c d) (c + 1)), .int .i64 (okN (losE a b c d) d)],
    errV (losE a b c d)]) ∧ Below w.heap.size w w'
end Ev
end Go.Proofs.YtkpmjmgmgkdfnajDoor

/- What is asked of package pool's Tick, as the document says it. -/
namespace Go.Proofs.YtkpmjmgmgkdfnajDoor
namespace Ev
open Go.RowKit Fr Ns Ld Fl

def PTickSaid : Prop := ∀ (s r h m : Int) (w : World),
  Calls Tryd.prog 24 #[.agg #[.int .i64 s, .int .i64 r, .int .i64 h], .int .i64 m] w fun e w' => e = .returned (.tuple #[.agg #[.int .i64 (okN (ptickE s r h m) s), .int .i64 (okN (ptickE s r h m) r), .int .i64 (okN (ptickE s r h m) (waitP s r (h + m)))],
    .agg #[.int .i64 (okN (ptickE s r h m) (wentP r (h + m))), .int .i64 (okN (ptickE s r h m) (lostP s r (h + m))), .int .i64 (okN (ptickE s r h m) (waitP s r (h + m)))], errV (ptickE s r h m)]) ∧ Below w.heap.size w w'
end Ev
end Go.Proofs.YtkpmjmgmgkdfnajDoor

/- From the reading of an argument to what a walk is told of it: a list of ints. -/
namespace Go.Proofs.YtkpmjmgmgkdfnajDoor
namespace Ns
open Go.ChangeShapes Go.WideShapes Go.ChangeAt Go.RowKit Go.Joins Go.Deep
set_option linter.unusedVariables false
set_option linter.unusedSimpArgs false

theorem cellsInt : Tryd.prog.cellsOf 3 = 1 := by kernel_rfl

theorem addr_none {w : World} {a : Addr} {v : Value} (h : w.cell? (a.add 0) = some v) : ∃ b off, a = ⟨b, off, none⟩ := by
  obtain ⟨b, off, spot⟩ := a
  have hs : spot = none := by simpa [Addr.add] using World.cell?_spot h
  subst hs
  exact ⟨b, off, rfl⟩
theorem add_addr' (b off i : Nat) : (⟨b, off, none⟩ : Addr).add i = ⟨b, off + i, none⟩ := by unfold Addr.add; split <;> simp_all

/-- a slice of ints, by its address, its cells and their numbers -/
theorem intsAt_of {w : World} {a : Option Addr} {len cap : Nat} {zs : List Int} (hl : len ≤ cap) (hm : cap ≤ maxLen) (hz : zs.length = cap) (h0 : a = none → cap = 0)
    (h : ∀ a', a = some a' → ∀ c, c < cap → w.cell? (a'.add c) = some (.int .i64 (zs.getD c 0))) : IntsAt (fun b => b < w.heap.size) w (.slice a len cap) (zs.take len) := by
  have hlen : (zs.take len).length = len := by rw [List.length_take]; omega
  unfold maxLen at hm
  refine ⟨a, cap, by rw [hlen], ⟨by omega, by omega⟩, ?_⟩
  by_cases hz0 : len = 0
  · exact .inl (by rw [hz0]; rfl)
  · right
    cases a with
    | none => have := h0 rfl; omega
    | some a' =>
      obtain ⟨b, off, rfl⟩ := addr_none (h a' rfl 0 (by omega))
      refine ⟨b, off, rfl, fun i hi => ?_, World.block_lt_of_cell? _ _ (h _ rfl 0 (by omega))⟩
      have := h _ rfl i (by omega)
      rw [add_addr'] at this
      rw [this]
      congr 2
      simp [List.getD, List.getElem?_take, show i < len by omega]

variable {H : Type} {enc : TypeId × Value → H}

theorem ints_of_trod {w : World} {n : Nat} {v : Value} {y : DataW H × List MemPlace} (h : DataW.trod enc Tryd.prog w 0 (fun _ => true) true n 33 [v] = some y) : ∃ l, IntsAt (fun b => b < w.heap.size) w v l := by
  rcases open_ints Tryd.underlying33 Tryd.underlying3 cellsInt h with ⟨hcs, _⟩ | ⟨a, len, cap, zs, hcs, _, hl, hm, hz, _, hcell, hwz⟩
  · simp at hcs
    subst hcs
    exact ⟨[], none, 0, rfl, ⟨Nat.le_refl _, by simp⟩, .inl rfl⟩
  · simp at hcs
    subst hcs
    have hz' : zs.length = cap := by simpa using hz
    exact ⟨_, intsAt_of hl hm hz' (by intro h; cases h) (fun a' ha c hc => by cases ha; exact hcell c (by omega))⟩

set_option maxRecDepth 100000 in
theorem intsArg_of_trod {w : World} {base : Nat} {v : Value} {d : DataW H} {p : List MemPlace} (hv : Value.okWide Tryd.prog w .any base 33 v) (h : DataW.Trod enc Tryd.prog w 0 (fun _ => true) true 33 v d p) : ∃ l, IntsAt (fun b => b < w.heap.size) w v l := by
  obtain ⟨a, len, cap, rfl⟩ := okWide_slice Tryd.underlying33 hv
  obtain ⟨fuel, hf⟩ := h
  exact ints_of_trod (by simpa [Value.cells] using hf)
end Ns
end Go.Proofs.YtkpmjmgmgkdfnajDoor

/- From the reading of an argument to what a walk is told of it: a struct of three or four ints by value. -/
namespace Go.Proofs.YtkpmjmgmgkdfnajDoor
namespace Ns
open Go.ChangeShapes Go.WideShapes Go.ChangeAt Go.RowKit Go.Joins
set_option linter.unusedVariables false
set_option linter.unusedSimpArgs false

variable {H : Type} {enc : TypeId × Value → H}

theorem cellsPool : Tryd.prog.cellsOf 24 = 3 := by kernel_rfl
theorem cellsSource : Tryd.prog.cellsOf 43 = 4 := by kernel_rfl

set_option maxRecDepth 100000 in
theorem pool_of_trod {w : World} {base : Nat} {v : Value} {d : DataW H} {p : List MemPlace} (hv : Value.okWide Tryd.prog w .any base 24 v) (h : DataW.Trod enc Tryd.prog w 0 (fun _ => true) true 24 v d p) : ∃ a b c : Int, v = .agg #[.int .i64 a, .int .i64 b, .int .i64 c] := by
  obtain ⟨c0, c1, c2, y0, y1, y2, m, rfl, rfl, rfl, hy0, hy1, hy2⟩ := open_agg3 Tryd.underlying24 (by kernel_rfl) cellsPool hv h
  obtain ⟨a, e0, rfl, wa⟩ := DataW.trod_int Tryd.underlying3 hy0
  obtain ⟨b, e1, rfl, wb⟩ := DataW.trod_int Tryd.underlying3 hy1
  obtain ⟨c, e2, rfl, wc⟩ := DataW.trod_int Tryd.underlying3 hy2
  simp at e0 e1 e2
  subst e0 e1 e2
  exact ⟨a, b, c, rfl⟩
set_option maxRecDepth 100000 in
theorem source_of_trod {w : World} {base : Nat} {v : Value} {d : DataW H} {p : List MemPlace} (hv : Value.okWide Tryd.prog w .any base 43 v) (h : DataW.Trod enc Tryd.prog w 0 (fun _ => true) true 43 v d p) : ∃ a b c e : Int, v = .agg #[.int .i64 a, .int .i64 b, .int .i64 c, .int .i64 e] := by
  obtain ⟨c0, c1, c2, c3, y0, y1, y2, y3, m, rfl, rfl, rfl, hy0, hy1, hy2, hy3⟩ := open_agg4 Tryd.underlying43 (by kernel_rfl) cellsSource hv h
  obtain ⟨a, e0, rfl, wa⟩ := DataW.trod_int Tryd.underlying3 hy0
  obtain ⟨b, e1, rfl, wb⟩ := DataW.trod_int Tryd.underlying3 hy1
  obtain ⟨c, e2, rfl, wc⟩ := DataW.trod_int Tryd.underlying3 hy2
  obtain ⟨e, e3, rfl, we⟩ := DataW.trod_int Tryd.underlying3 hy3
  simp at e0 e1 e2 e3
  subst e0 e1 e2 e3
  exact ⟨a, b, c, e, rfl⟩
end Ns
end Go.Proofs.YtkpmjmgmgkdfnajDoor

/- From the reading of an argument to what a walk is told of it: a list of sources. -/
namespace Go.Proofs.YtkpmjmgmgkdfnajDoor
namespace Ns
open Go.ChangeShapes Go.WideShapes Go.ChangeAt Go.RowKit Go.Joins Go.Deep Ev
set_option linter.unusedVariables false
set_option linter.unusedSimpArgs false

variable {H : Type} {enc : TypeId × Value → H}

set_option maxRecDepth 100000 in
theorem srcs_of_trod {w : World} {n : Nat} {v : Value} {y : DataW H × List MemPlace} (h : DataW.trod enc Tryd.prog w 0 (fun _ => true) true n 22 [v] = some y) : ∃ l, SrcsAt (fun b => b < w.heap.size) w v l := by
  rcases open_slice Tryd.underlying22 h with ⟨hcs, _⟩ | ⟨a, len, cap, m, k, D, Pl, hcs, _, hl, hm, hmm, _, hr⟩
  · simp at hcs
    subst hcs
    exact ⟨[], none, 0, rfl, ⟨Nat.le_refl _, by simp⟩, .inl rfl⟩
  · simp at hcs
    subst hcs
    simp only [if_true] at hmm
    subst hmm
    have each : ∀ i, i < m → ∃ z : Src, w.cell? (a.add (i * 4)) = some (.int .i64 z.1) ∧ w.cell? (a.add (i * 4 + 1)) = some (.int .i64 z.2.1) ∧ w.cell? (a.add (i * 4 + 2)) = some (.int .i64 z.2.2.1) ∧ w.cell? (a.add (i * 4 + 3)) = some (.int .i64 z.2.2.2) := by
      intro i hi
      obtain ⟨cs', h1, h2⟩ := hr i hi
      rw [cellsSource] at h1
      obtain ⟨_, hlen, hcell⟩ := World.cells?_some h1
      obtain ⟨xs, k', hk, hxy, _, hxl, hf⟩ := DataW.trod_struct Tryd.underlying43 h2
      match xs, hxl, cs', hlen with
      | [y0, y1, y2, y3], _, [v0, v1, v2, v3], _ =>
        have g0 := hf 0 _ rfl
        have g1 := hf 1 _ rfl
        have g2 := hf 2 _ rfl
        have g3 := hf 3 _ rfl
        have ci : Tryd.prog.cellsOf 3 = 1 := by kernel_rfl
        simp [ci] at g0 g1 g2 g3
        have e0 := hcell 0 (by omega)
        have e1 := hcell 1 (by omega)
        have e2 := hcell 2 (by omega)
        have e3 := hcell 3 (by omega)
        rw [add_add] at e0 e1 e2 e3
        obtain ⟨z0, q0, _, _⟩ := DataW.trod_int Tryd.underlying3 g0
        obtain ⟨z1, q1, _, _⟩ := DataW.trod_int Tryd.underlying3 g1
        obtain ⟨z2, q2, _, _⟩ := DataW.trod_int Tryd.underlying3 g2
        obtain ⟨z3, q3, _, _⟩ := DataW.trod_int Tryd.underlying3 g3
        simp only [List.cons.injEq, and_true] at q0 q1 q2 q3
        subst q0 q1 q2 q3
        exact ⟨(z0, z1, z2, z3), by simpa using e0, by simpa using e1, by simpa using e2, by simpa using e3⟩
    obtain ⟨q, hq⟩ := choose_lt each
    have hlen : ((List.range len).map q).length = len := by simp
    refine ⟨(List.range len).map q, some a, m, by rw [hlen], ⟨by omega, by unfold maxLen at hm; omega⟩, ?_⟩
    by_cases hz0 : len = 0
    · exact .inl (by rw [hz0]; rfl)
    · right
      obtain ⟨b, off, rfl⟩ := addr_none (show w.cell? (a.add 0) = some _ from (hq 0 (by omega)).1)
      refine ⟨b, off, rfl, fun i hi => ?_, World.block_lt_of_cell? _ _ (hq 0 (by omega)).1⟩
      rw [hlen] at hi
      have e : sAt ((List.range len).map q) i = q i := by simp [sAt, List.getD, List.getElem?_range hi]
      obtain ⟨h1, h2, h3, h4⟩ := hq i (by omega)
      rw [add_addr'] at h1 h2 h3 h4
      rw [e]
      exact ⟨h1, by rw [Nat.add_assoc]; exact h2, by rw [Nat.add_assoc]; exact h3, by rw [Nat.add_assoc]; exact h4⟩

set_option maxRecDepth 100000 in
theorem srcsArg_of_trod {w : World} {base : Nat} {v : Value} {d : DataW H} {p : List MemPlace} (hv : Value.okWide Tryd.prog w .any base 22 v) (h : DataW.Trod enc Tryd.prog w 0 (fun _ => true) true 22 v d p) : ∃ l, SrcsAt (fun b => b < w.heap.size) w v l := by
  obtain ⟨a, len, cap, rfl⟩ := okWide_slice Tryd.underlying22 hv
  obtain ⟨fuel, hf⟩ := h
  exact srcs_of_trod (by simpa [Value.cells] using hf)
end Ns
end Go.Proofs.YtkpmjmgmgkdfnajDoor
