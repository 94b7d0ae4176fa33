/- Over one link all get alike, in one round. No Go in it. -/
import Derived.Test.YtinmoocnhgkleabNkPlain
namespace Go.Proofs.Ytinmoocnhgkleab.Fl
open Fr Ns Ld
set_option linter.unusedSimpArgs false

theorem usersFrom_alike : ∀ (m i : Nat), usersFrom 0 i (List.replicate m [0]) = (List.range m).map fun j : Nat => ((i + j : Nat) : Int) := by
  intro m
  induction m with
  | zero => intro i; rfl
  | succ m ih =>
    intro i
    rw [List.replicate_succ, usersFrom, if_pos (by decide), ih, List.range_succ_eq_map, List.map_cons, List.map_map]
    congr 1
    apply List.map_congr_left
    intro j _
    simp only [Function.comp]
    congr 1
    omega
theorem usN_alike (m : Nat) : usN (List.replicate m [0]) 0 = List.range m := by
  unfold usN users
  rw [show ((0 : Nat) : Int) = 0 from rfl, usersFrom_alike, List.map_map]
  apply List.ext_getElem
  · simp
  · intro i h1 h2
    simp
theorem sumQ_const {x : Nat → Rat} {q : Rat} : ∀ l : List Nat, (∀ g ∈ l, x g = q) → sumQ x l = q * (l.length : Nat) := by
  intro l
  induction l with
  | nil => intro _; simp [sumQ]
  | cons u us ih =>
    intro h
    simp only [sumQ, List.length_cons]
    rw [h u (by simp), ih (fun g hg => h g (by simp [hg])), Rat.natCast_add]
    grind
theorem one_round {x : Nat → Rat} {q b : Rat} {rs : List (List Int)} (hr : Rises x b rs) (hn : rs.flatten ≠ []) (hq : ∀ u ∈ rs.flatten, x u.toNat = q) : rs.length = 1 := by
  cases rs with
  | nil => simp at hn
  | cons a rs =>
    cases rs with
    | nil => rfl
    | cons c rs =>
      exfalso
      obtain ⟨h1, v, _, hv, h2, v', hlt, hv', _⟩ := hr
      obtain ⟨u, hu⟩ := List.exists_mem_of_ne_nil _ h1
      obtain ⟨u', hu'⟩ := List.exists_mem_of_ne_nil _ h2
      have e1 := hq u (by simp [hu])
      have e2 := hq u' (by simp [hu'])
      rw [hv u hu] at e1
      rw [hv' u' hu'] at e2
      grind
theorem good_alike {c : Int} {m : Nat} (h1 : 1 ≤ c) (h2 : c ≤ 1000) (m1 : 1 ≤ m) (m6 : m ≤ 6) : Good [c] (List.replicate m [0]) := by
  refine ⟨fun x hx => ?_, fun p hp => ?_, by simpa using m6, by simp; omega⟩
  · simp at hx; subst hx; exact ⟨h1, h2⟩
  · rw [List.eq_of_mem_replicate hp]
    refine ⟨by decide, fun x hx => ?_⟩
    simp at hx
    subst hx
    simp
theorem fill_alike {c : Int} {m : Nat} (h1 : 1 ≤ c) (h2 : c ≤ 1000) (m1 : 1 ≤ m) (m6 : m ≤ 6) :
    (fill [c] (List.replicate m [0])).1 = List.replicate m (lowT c m, lowB c m) ∧ (fill [c] (List.replicate m [0])).2.length = 1 := by
  have hg := good_alike h1 h2 m1 m6
  obtain ⟨hx, hr, _, hfl⟩ := fill_fair hg
  have hm : (1 : Int) ≤ (m : Int) := by omega
  have hq : val (lowT c m, lowB c m) * ((m : Int) : Rat) = (c : Rat) := by
    rw [val_low hm]
    exact val_mul (a := (c, (m : Int))) hm
  have hmp := castPos hm
  have hc0 : (0 : Rat) < (c : Rat) := castPos h1
  have hq0 : 0 ≤ val (lowT c m, lowB c m) := by
    apply Classical.byContradiction
    intro hn
    have : val (lowT c m, lowB c m) * ((m : Int) : Rat) ≤ 0 * ((m : Int) : Rat) := Rat.mul_le_mul_of_nonneg_right (by grind) (Rat.le_of_lt hmp)
    rw [hq, Rat.zero_mul] at this
    grind
  have hlen : (List.replicate m ([0] : List Int)).length = m := by simp
  have hxr : ∀ f, f < m → xQ (List.replicate m (lowT c m, lowB c m)) f = val (lowT c m, lowB c m) := fun f hf => by
    unfold xQ rP; rw [getD_replicate _ _ _ _ hf]
  have hs : sumQ (xQ (List.replicate m (lowT c m, lowB c m))) (usN (List.replicate m [0]) 0) = capQ [c] 0 := by
    rw [usN_alike, sumQ_const _ (fun g hg => hxr g (List.mem_range.1 hg)), List.length_range]
    have : ((m : Nat) : Rat) = ((m : Int) : Rat) := by rw [Rat.intCast_natCast]
    rw [this, hq]; rfl
  have hfit : FitsQ (usN (List.replicate m [0])) (capQ [c]) ([c] : List Int).length (List.replicate m ([0] : List Int)).length (xQ (List.replicate m (lowT c m, lowB c m))) := by
    refine ⟨fun f hf => ?_, fun l hl => ?_⟩
    · rw [hlen] at hf; rw [hxr f hf]; exact hq0
    · have : l = 0 := by simpa using hl
      subst this
      rw [hs]; exact Rat.le_refl
  have hnk : ∀ f, f < (List.replicate m ([0] : List Int)).length → NeckQ (usN (List.replicate m [0])) (capQ [c]) ([c] : List Int).length (xQ (List.replicate m (lowT c m, lowB c m))) f := by
    intro f hf
    rw [hlen] at hf
    refine ⟨0, by simp, by rw [usN_alike]; exact List.mem_range.2 hf, hs, fun g hg => ?_⟩
    rw [usN_alike] at hg
    rw [hxr f hf, hxr g (List.mem_range.1 hg)]
    exact Rat.le_refl
  have he := only (fun l _ g hg => usN_lt hg) hfit hx.fits hnk hx.neck
  rw [hlen] at he
  have hfq : faultP (lowT c m, lowB c m) = 0 := by
    have h3 : val (lowT c m, lowB c m) ≤ 1000 := by
      have := (hx.right 0 (by rw [hlen]; omega)).2.2
      rw [← he 0 (by omega), hxr 0 (by omega)] at this
      exact this
    exact over_fault (D := (m : Int)) (over_of (m := c) hm rfl) hm (by omega) hq0 h3
  refine ⟨?_, ?_⟩
  · apply List.ext_getElem
    · rw [hx.len]; simp
    · intro i i1 i2
      have hi : i < m := by simpa using i2
      have e := he i hi
      rw [hxr i hi] at e
      have := val_inj' (hx.right i (by rw [hlen]; exact hi)).1 hfq e.symm
      simpa [rP, List.getD, List.getElem?_eq_getElem i1] using this
  · refine one_round hr ?_ (q := val (lowT c m, lowB c m)) (fun u hu => ?_)
    · intro e
      have := (hfl 0).2 ⟨0, rfl, by rw [hlen]; omega⟩
      rw [e] at this
      cases this
    · obtain ⟨f, rfl, hf⟩ := (hfl u).1 hu
      rw [hlen] at hf
      have e : ((f : Int)).toNat = f := by omega
      rw [e, ← he f hf, hxr f hf]
end Go.Proofs.Ytinmoocnhgkleab.Fl
