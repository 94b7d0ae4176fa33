/- More plain facts on loads: a flow of rate 0 more, what is left and what goes over together, rates of 0. No Go in it. -/
import Derived.Test.YtdegbfgnbobgoacPlains
import Derived.Test.YtdegbfgnbobgoacNetPl
namespace Go.Proofs.Ytdegbfgnbobgoac.Ld
open Fr Ns
set_option linter.unusedSimpArgs false

theorem users_snoc (paths : List (List Int)) (path : List Int) (link : Int) : users (paths ++ [path]) link = users paths link ++ (if inB path link then [(paths.length : Int)] else []) := by
  unfold users
  rw [usersFrom_snoc, Nat.zero_add]
theorem sum_zero {t : Int × Int} (h : faultP t = 0) : sumP t (0, 1) = t := by
  have := low_of_fault h
  unfold sumP
  simp only [Int.mul_one, Int.zero_mul, Int.add_zero]
  exact Prod.ext this.1 this.2
theorem getD_snoc_lt (r : List (Int × Int)) (z d : Int × Int) (k : Nat) (h : k < r.length) : (r ++ [z]).getD k d = r.getD k d := by
  simp [List.getD, List.getElem?_append_left h]
theorem addUp_more (r : List (Int × Int)) (z : Int × Int) : ∀ (us : List Int) (s : Int × Int), (∀ u ∈ us, u.toNat < r.length) → addUp (r ++ [z]) us s = addUp r us s := by
  intro us
  induction us with
  | nil => intro s _; rfl
  | cons u us ih =>
    intro s h
    simp only [addUp]
    rw [getD_snoc_lt r z _ _ (h u (by simp)), ih _ (fun x hx => h x (by simp [hx]))]
theorem loadOf_more {paths : List (List Int)} {r : List (Int × Int)} (hr : ratesE r = 0) (hl : r.length = paths.length) (path : List Int) (l : Nat) : loadOf (paths ++ [path]) (r ++ [(0, 1)]) l = loadOf paths r l := by
  have e : addUp (r ++ [(0, 1)]) (users paths l) (0, 1) = addUp r (users paths l) (0, 1) := addUp_more r _ _ _ (fun u hu => by have := users_mem hu; omega)
  unfold loadOf
  rw [users_snoc]
  split
  · rw [addUp_snoc, e]
    cases h : addUp r (users paths l) (0, 1) with
    | none => rfl
    | some t =>
      have ht := addUp_fault hr _ _ _ (by decide) h
      have hg : (r ++ [(0, 1)]).getD ((paths.length : Int).toNat) (0, 1) = (0, 1) := by
        rw [show ((paths.length : Int).toNat) = r.length by omega]
        simp [List.getD]
      simp only [Option.bind_some]
      rw [hg, sum_zero ht, if_pos (show mayP t = true from mayB_of_fault ht)]
  · rw [List.append_nil, e]
theorem load_more {caps : List Int} {paths : List (List Int)} {r : List (Int × Int)} {path : List Int} (h : loadE caps paths r = 0) (ha : Ns.addE caps paths path = 0) :
    loadE caps (paths ++ [path]) (r ++ [(0, 1)]) = 0 ∧ (∀ n, loadL (paths ++ [path]) (r ++ [(0, 1)]) n = loadL paths r n) ∧ fitsB caps (paths ++ [path]) (r ++ [(0, 1)]) = fitsB caps paths r := by
  obtain ⟨h1, h2, h3, h4⟩ := loadE_0 h
  have hm := netE_add ha
  have hL : ∀ n, loadL (paths ++ [path]) (r ++ [(0, 1)]) n = loadL paths r n := fun n => by
    unfold loadL
    simp only [loadOf_more h3 h2]
  refine ⟨loadE_mk hm.2.2.2 (by simp [h2]) ?_ ?_, hL, ?_⟩
  · rw [ratesE_iff] at h3 ⊢
    intro a hA
    rcases List.mem_append.1 hA with hA | hA
    · exact h3 a hA
    · simp at hA; subst hA; decide
  · unfold allOk at h4 ⊢
    simp only [loadOf_more h3 h2]
    exact h4
  · unfold fitsB
    rw [hL]
    simp

/-- what goes over, and what is left, is all -/
theorem left_sum {c : Int} {x : Int × Int} (hx : faultP x = 0) : lowT (x.1 * (leftOf c x).2 + (leftOf c x).1 * x.2) (x.2 * (leftOf c x).2) = c ∧ lowB (x.1 * (leftOf c x).2 + (leftOf c x).1 * x.2) (x.2 * (leftOf c x).2) = 1 := by
  obtain ⟨b1, _, _, _⟩ := fault_0 hx
  have hb : 1 ≤ (1 : Int) * x.2 := by omega
  have hp := lowB_pos (t := c * x.2 + -x.1 * 1) hb
  have hrat := low_ratio (c * x.2 + -x.1 * 1) (1 * x.2)
  have e1 : (leftOf c x).1 = lowT (c * x.2 + -x.1 * 1) (1 * x.2) := rfl
  have e2 : (leftOf c x).2 = lowB (c * x.2 + -x.1 * 1) (1 * x.2) := rfl
  rw [← e1, ← e2] at hrat
  rw [← e2] at hp
  generalize (leftOf c x).1 = p at *
  generalize (leftOf c x).2 = q at *
  have hq : 1 ≤ x.2 * q := Int.mul_le_mul b1 hp (by decide) (by omega)
  have key : (x.1 * q + p * x.2) * 1 = c * (x.2 * q) := by
    have h' : p * x.2 = (c * x.2 + -x.1) * q := by simpa using hrat
    rw [Int.mul_one, h', Int.add_mul, Int.neg_mul, Int.mul_assoc]
    omega
  have := low_of_ratio hq (by decide : (1 : Int) ≤ 1) key
  have hc : gd c 1 = 1 := by unfold gd; simp
  have hs := low_self hc
  exact ⟨this.1.trans hs.1, this.2.trans hs.2⟩
theorem left_sign {c : Int} {x : Int × Int} (hx : faultP x = 0) (h : x.1 ≤ c * x.2) : 0 ≤ (leftOf c x).1 := by
  obtain ⟨b1, _, _, _⟩ := fault_0 hx
  show 0 ≤ lowT (c * x.2 + -x.1 * 1) (1 * x.2)
  unfold lowT
  have hb : 1 ≤ (1 : Int) * x.2 := by omega
  exact Int.ediv_nonneg (by omega) (by have := gd_pos (t := c * x.2 + -x.1 * 1) hb; omega)

theorem capsFrom_ge : ∀ {l : List Int} {x : Int}, capsFrom l = 0 → x ∈ l → 1 ≤ x := by
  intro l
  induction l with
  | nil => intro x _ h; simp at h
  | cons y r ih =>
    intro x h hm
    unfold capsFrom at h
    split at h
    · omega
    · rcases List.mem_cons.1 hm with rfl | hm
      · omega
      · exact ih h hm
theorem capsFrom_bounds : ∀ {l : List Int} {x : Int}, capsFrom l = 0 → x ∈ l → 1 ≤ x ∧ x ≤ 1000 := by
  intro l
  induction l with
  | nil => intro x _ h; simp at h
  | cons y r ih =>
    intro x h hm
    unfold capsFrom at h
    split at h
    · omega
    · rcases List.mem_cons.1 hm with rfl | hm
      · omega
      · exact ih h hm
theorem addUp_zeros (n : Nat) : ∀ us : List Int, addUp (List.replicate n (0, 1)) us (0, 1) = some (0, 1) := by
  intro us
  induction us with
  | nil => rfl
  | cons u us ih =>
    have hg : (List.replicate n ((0 : Int), (1 : Int))).getD u.toNat (0, 1) = (0, 1) := by
      simp only [List.getD, List.getElem?_replicate]
      split <;> rfl
    have hs : sumP (0, 1) (0, 1) = (0, 1) := sum_zero (by decide)
    simp only [addUp]
    rw [hg, hs, if_pos (by decide)]
    exact ih
theorem zeros {caps : List Int} {paths : List (List Int)} :
    loadE caps paths (List.replicate paths.length (0, 1)) = netE caps paths ∧ (∀ n, loadL paths (List.replicate paths.length (0, 1)) n = List.replicate n (0, 1)) ∧ (netE caps paths = 0 → fitsB caps paths (List.replicate paths.length (0, 1)) = true) := by
  have hO : ∀ l, loadOf paths (List.replicate paths.length (0, 1)) l = some (0, 1) := fun l => addUp_zeros _ _
  have hL : ∀ n, loadL paths (List.replicate paths.length (0, 1)) n = List.replicate n (0, 1) := fun n => by
    unfold loadL
    apply List.ext_getElem
    · simp
    · intro i h1 h2
      simp [hO]
  refine ⟨?_, hL, fun h => ?_⟩
  · by_cases h : netE caps paths = 0
    · rw [h]
      refine loadE_mk h (by simp) ((ratesE_iff _).2 (fun a ha => ?_)) ?_
      · rw [List.eq_of_mem_replicate ha]; decide
      · unfold allOk
        simp [hO]
    · rw [loadE, if_neg h]
  · unfold fitsB
    rw [hL]
    simp only [Bool.and_eq_true, List.all_eq_true, List.mem_range, decide_eq_true_eq]
    refine ⟨fun a ha => by rw [List.eq_of_mem_replicate ha]; decide, fun l hl => ?_⟩
    have hg : (List.replicate caps.length ((0 : Int), (1 : Int))).getD l (0, 1) = (0, 1) := by
      simp only [List.getD, List.getElem?_replicate]
      split <;> rfl
    rw [hg]
    have hb := (netE_0 h).2.2.2.2.1
    have hc : 1 ≤ caps.getD l 0 := capsFrom_ge (by
      have := netE_0 h
      rw [linksE, if_neg (by omega), if_neg (by omega)] at hb
      exact hb) (getD_mem caps l hl 0)
    simp only [Int.mul_one]
    omega
end Go.Proofs.Ytdegbfgnbobgoac.Ld
