/- All rise together, step by step: what a walk through the rounds meets. No Go in it. -/
import Derived.Test.YtinmoocnhgkleabFlEnd
namespace Go.Proofs.Ytinmoocnhgkleab.Fl
open Fr Ns Ld
set_option linter.unusedSimpArgs false

theorem linkSum_append (rate : List (Int × Int)) (done : List Bool) : ∀ (a b : List Int) (s : Int × Int) (k : Nat), linkSum rate done (a ++ b) s k = linkSum rate done b (linkSum rate done a s k).1 (linkSum rate done a s k).2 := by
  intro a
  induction a with
  | nil => intro b s k; rfl
  | cons u us ih =>
    intro b s k
    simp only [List.cons_append, linkSum]
    split
    · exact ih _ _ _
    · exact ih _ _ _
theorem linkSum_step {rate : List (Int × Int)} {done : List Bool} {us : List Int} {s : Int × Int} {k j : Nat} (hj : j < us.length) :
    linkSum rate done (us.take (j + 1)) s k = if dB done (us.getD j 0).toNat then (sumP (linkSum rate done (us.take j) s k).1 (negP (rP rate (us.getD j 0).toNat)), (linkSum rate done (us.take j) s k).2) else ((linkSum rate done (us.take j) s k).1, (linkSum rate done (us.take j) s k).2 + 1) := by
  rw [take_snoc us j hj 0, linkSum_append]
  simp only [linkSum]
theorem sumQ_nonneg {x : Nat → Rat} : ∀ {l : List Nat}, (∀ g ∈ l, 0 ≤ x g) → 0 ≤ sumQ x l := by
  intro l
  induction l with
  | nil => intro _; exact Rat.le_refl
  | cons u us ih =>
    intro h
    have h1 := h u (by simp)
    have h2 := ih (fun g hg => h g (by simp [hg]))
    simp only [sumQ]
    grind
theorem sumQ_append (x : Nat → Rat) : ∀ (a b : List Nat), sumQ x (a ++ b) = sumQ x a + sumQ x b := by
  intro a
  induction a with
  | nil => intro b; simp only [List.nil_append, sumQ]; grind
  | cons u us ih => intro b; simp only [List.cons_append, sumQ, ih]; grind

section
variable {caps : List Int} {paths : List (List Int)} {rate : List (Int × Int)} {done : List Bool} {b : Rat} {D : Int}

theorem users_toNat {l : Nat} {u : Int} (h : u ∈ users paths l) : u.toNat ∈ usN paths l := List.mem_map.2 ⟨u, h, rfl⟩
theorem lev0_nonneg (hi : Inv caps paths rate done b D) {u : Nat} (hu : u < paths.length) : 0 ≤ lev done rate 0 u := by
  unfold lev
  split
  · rename_i h; exact Rat.le_of_lt (hi.over u hu h).2.1
  · exact Rat.le_refl
/-- what is left on a link is right, and no less than 0 -/
theorem linkSum_right (hg : Good caps paths) (hi : Inv caps paths rate done b D) (hD : D ≤ 46656) {l : Nat} (hl : l < caps.length) (j : Nat) :
    faultP (linkSum rate done ((users paths l).take j) (caps.getD l 0, 1) 0).1 = 0 ∧ Over D (linkSum rate done ((users paths l).take j) (caps.getD l 0, 1) 0).1 ∧ 0 ≤ val (linkSum rate done ((users paths l).take j) (caps.getD l 0, 1) 0).1 ∧ val (linkSum rate done ((users paths l).take j) (caps.getD l 0, 1) 0).1 ≤ 1000 ∧
    (linkSum rate done ((users paths l).take j) (caps.getD l 0, 1) 0).2 ≤ j := by
  obtain ⟨h1, h2, h3⟩ := linkSum_spec rate done D ((users paths l).take j) (caps.getD l 0, 1) 0 (over_whole D _) (fun u hu hd => (hi.over _ (usN_lt (users_toNat (List.mem_of_mem_take hu))) hd).1)
  have hall : ((users paths l).take j).map Int.toNat ++ ((users paths l).drop j).map Int.toNat = usN paths l := by
    rw [← List.map_append, List.take_append_drop]; rfl
  have hc := capQ_bd hg.1 hl
  have hroom := hi.room l hl
  have hlin := lev_lin done rate b 0 (usN paths l)
  have hb := hi.hb
  have hcnt : (0 : Rat) ≤ (b - 0) * ((List.countP (fun u => !dB done u) (usN paths l) : Nat) : Rat) := Rat.mul_nonneg (by grind) Rat.natCast_nonneg
  have hsplit := sumQ_append (lev done rate 0) (((users paths l).take j).map Int.toNat) (((users paths l).drop j).map Int.toNat)
  rw [hall] at hsplit
  have n1 : 0 ≤ sumQ (lev done rate 0) (((users paths l).take j).map Int.toNat) := sumQ_nonneg fun g hg => by
    obtain ⟨u, hu, rfl⟩ := List.mem_map.1 hg
    exact lev0_nonneg hi (usN_lt (users_toNat (List.mem_of_mem_take hu)))
  have n2 : 0 ≤ sumQ (lev done rate 0) (((users paths l).drop j).map Int.toNat) := sumQ_nonneg fun g hg => by
    obtain ⟨u, hu, rfl⟩ := List.mem_map.1 hg
    exact lev0_nonneg hi (usN_lt (users_toNat (List.mem_of_mem_drop hu)))
  have hw : val (caps.getD l 0, 1) = capQ caps l := by rw [val_whole]; rfl
  rw [hw] at h3
  have v1 : 0 ≤ val (linkSum rate done ((users paths l).take j) (caps.getD l 0, 1) 0).1 := by grind
  have v2 : val (linkSum rate done ((users paths l).take j) (caps.getD l 0, 1) 0).1 ≤ 1000 := by grind
  refine ⟨over_fault h1 hi.hD (by omega) v1 v2, h1, v1, v2, ?_⟩
  rw [h2, Nat.zero_add]
  refine Nat.le_trans List.countP_le_length ?_
  rw [List.length_map, List.length_take]
  omega
theorem lev_nonneg (hi : Inv caps paths rate done b D) {t : Rat} (ht : 0 ≤ t) {u : Nat} (hu : u < paths.length) : 0 ≤ lev done rate t u := by
  unfold lev
  split
  · rename_i h; exact Rat.le_of_lt (hi.over u hu h).2.1
  · exact ht
/-- a link's share is right, above what all have, and no more than the link takes -/
theorem share_right (hg : Good caps paths) (hi : Inv caps paths rate done b D) (hD : D ≤ 46656) {l : Nat} (hl : l < caps.length) {s : Int × Int} (h : shareOf caps paths rate done l = some s) : faultP s = 0 ∧ 0 ≤ val s ∧ val s ≤ 1000 := by
  obtain ⟨h1, ⟨u, hu, hd⟩, k, hk1, hk2, ho⟩ := share_some (fun f a b => (hi.over f a b).1) h
  have hc := capQ_bd hg.1 hl
  have hst := hi.strict l hl ⟨u, hu, hd⟩
  have hbv : b < val s := by
    apply Classical.byContradiction
    intro hn
    have hle : val s ≤ b := by grind
    have := sumQ_le (x := lev done rate (val s)) (y := lev done rate b) (l := usN paths l) (fun g _ => by
      unfold lev
      split
      · exact Rat.le_refl
      · exact hle)
    grind
  have hb := hi.hb
  have v0 : 0 ≤ val s := by grind
  have hle := le_sumQ (x := lev done rate (val s)) (f := u) (fun g hg => lev_nonneg hi v0 (usN_lt hg)) hu
  have hlu : lev done rate (val s) u = val s := by unfold lev; rw [hd]; rfl
  have v1 : val s ≤ 1000 := by grind
  have hkD : 1 ≤ D * (k : Int) := by
    have := Int.mul_le_mul hi.hD (show (1 : Int) ≤ (k : Int) by omega) (by decide) (by have := hi.hD; omega)
    omega
  have hkD2 : D * (k : Int) ≤ 1000000 := by
    have hn := hg.2.2.1
    have h0 := hi.hD
    have : D * (k : Int) ≤ D * 6 := Int.mul_le_mul_of_nonneg_left (by omega) (by omega)
    omega
  exact ⟨over_fault ho hkD hkD2 v0 v1, v0, v1⟩
end

/-- which of the first n links have the least share of them -/
def narAt (sh : Nat → Option (Int × Int)) (n l : Nat) : Bool := decide (l < n) && (sh l).isSome && decide (sh l = bestOf sh n)
theorem narAt_eq (sh : Nat → Option (Int × Int)) (n : Nat) : narOf sh n = narAt sh n := rfl
def bestD (o : Option (Int × Int)) : Int × Int := o.getD (-1, 1)
theorem best_skip {sh : Nat → Option (Int × Int)} {n : Nat} (h : sh n = none) : bestOf sh (n + 1) = bestOf sh n ∧ ∀ l, narAt sh (n + 1) l = narAt sh n l := by
  have e : bestOf sh (n + 1) = bestOf sh n := by
    conv => lhs; unfold bestOf
    rw [h]
  refine ⟨e, fun l => ?_⟩
  unfold narAt
  rw [e]
  by_cases hl : l = n
  · subst hl; rw [h]; simp
  · have : (l < n + 1) ↔ (l < n) := by omega
    simp only [this]
/-- a share that is less than all before, or the first one -/
theorem best_new {sh : Nat → Option (Int × Int)} {n : Nat} {s : Int × Int} (hp : ∀ l t, l ≤ n → sh l = some t → faultP t = 0) (h : sh n = some s) (hb : bestOf sh n = none ∨ ∃ b, bestOf sh n = some b ∧ s.1 * b.2 < b.1 * s.2) :
    bestOf sh (n + 1) = some s ∧ ∀ l, narAt sh (n + 1) l = decide (l = n) := by
  have e : bestOf sh (n + 1) = some s := by
    conv => lhs; unfold bestOf
    rw [h]
    rcases hb with hb | ⟨b, hb, hlt⟩
    · rw [hb]
    · rw [hb]; simp only; rw [if_pos hlt]
  refine ⟨e, fun l => ?_⟩
  unfold narAt
  rw [e]
  by_cases hl : l = n
  · subst hl; rw [h]; simp
  · have hx : ∀ x, sh l = some x → l < n → x ≠ s := by
      intro x hx hln hxs
      subst hxs
      rcases hb with hb | ⟨b, hb, hlt⟩
      · have := best_none _ hb l hln; rw [this] at hx; cases hx
      · -- of the first n none is less than b
        let sh' : Nat → Option (Int × Int) := fun l => if l < n then sh l else none
        have hsame : ∀ m, m ≤ n → bestOf sh' m = bestOf sh m := by
          intro m
          induction m with
          | zero => intro _; rfl
          | succ m ih =>
            intro hm
            unfold bestOf
            rw [ih (by omega)]
            have : sh' m = sh m := if_pos (by omega)
            rw [this]
        have hp' : ∀ l t, sh' l = some t → 1 ≤ t.2 := by
          intro l t ht
          by_cases hl : l < n
          · have : sh' l = sh l := if_pos hl
            rw [this] at ht
            exact fault_pos (hp l t (by omega) ht)
          · have : sh' l = none := if_neg hl
            rw [this] at ht; cases ht
        have hmin := (best_some hp' n b (by rw [hsame n (Nat.le_refl _)]; exact hb)).2 l x hln (by rw [show sh' l = sh l from if_pos hln]; exact hx)
        obtain ⟨⟨l0, hl0, hb0⟩, _⟩ := best_some hp' n b (by rw [hsame n (Nat.le_refl _)]; exact hb)
        have pb := hp' l0 b hb0
        have px := fault_pos (hp n x (Nat.le_refl _) h)
        have := (cross_lt px pb).2 hlt
        grind
    have hne : decide (l = n) = false := decide_eq_false hl
    rw [hne]
    by_cases hln : l < n
    · cases hs : sh l with
      | none => simp
      | some x =>
        have := hx x hs hln
        simp [this]
    · have : ¬ l < n + 1 := by omega
      simp [this]
/-- a share as great as the least before -/
theorem best_same {sh : Nat → Option (Int × Int)} {n : Nat} {s : Int × Int} (h : sh n = some s) (hb : bestOf sh n = some s) : bestOf sh (n + 1) = some s ∧ ∀ l, narAt sh (n + 1) l = (narAt sh n l || decide (l = n)) := by
  have e : bestOf sh (n + 1) = some s := by
    conv => lhs; unfold bestOf
    rw [h, hb]
    simp only
    split <;> rfl
  refine ⟨e, fun l => ?_⟩
  unfold narAt
  rw [e, hb]
  by_cases hl : l = n
  · subst hl; rw [h]; simp
  · have : (l < n + 1) ↔ (l < n) := by omega
    simp only [this, hl, decide_false, Bool.or_false]
/-- a greater one -/
theorem best_more {sh : Nat → Option (Int × Int)} {n : Nat} {s b : Int × Int} (h : sh n = some s) (hb : bestOf sh n = some b) (hlt : b.1 * s.2 < s.1 * b.2) : bestOf sh (n + 1) = some b ∧ ∀ l, narAt sh (n + 1) l = narAt sh n l := by
  have e : bestOf sh (n + 1) = some b := by
    conv => lhs; unfold bestOf
    rw [h, hb]
    simp only
    rw [if_neg (by omega)]
  refine ⟨e, fun l => ?_⟩
  unfold narAt
  rw [e, hb]
  by_cases hl : l = n
  · subst hl
    rw [h]
    have : ¬ s = b := by rintro rfl; omega
    simp [this]
  · have : (l < n + 1) ↔ (l < n) := by omega
    simp only [this]

/-- the round, flow by flow -/
theorem round_step (paths : List (List Int)) (done : List Bool) (nar : Nat → Bool) (k : Nat) : ((List.range (k + 1)).filter fun f => !dB done f && (paths.getD f []).any fun x => nar x.toNat).map (fun f : Nat => (f : Int)) =
    ((List.range k).filter fun f => !dB done f && (paths.getD f []).any fun x => nar x.toNat).map (fun f : Nat => (f : Int)) ++ (if (!dB done k && (paths.getD k []).any fun x => nar x.toNat) = true then [(k : Int)] else []) := by
  rw [List.range_succ, List.filter_append, List.map_append]
  congr 1
  simp only [List.filter_cons, List.filter_nil]
  split <;> rfl
def roundTo (paths : List (List Int)) (done : List Bool) (nar : Nat → Bool) (k : Nat) : List Int := ((List.range k).filter fun f => !dB done f && (paths.getD f []).any fun x => nar x.toNat).map (fun f : Nat => (f : Int))
theorem roundTo_all (paths : List (List Int)) (done : List Bool) (nar : Nat → Bool) : roundTo paths done nar paths.length = roundOf paths done nar := rfl
theorem roundTo_length (paths : List (List Int)) (done : List Bool) (nar : Nat → Bool) (k : Nat) : (roundTo paths done nar k).length ≤ k := by
  unfold roundTo
  rw [List.length_map]
  exact Nat.le_trans (List.length_filter_le _ _) (by simp)

/-- so many fewer are free -/
theorem freeN_step {paths : List (List Int)} {done : List Bool} {nar : Nat → Bool} (hl : done.length = paths.length) : freeN paths (setDone done (roundOf paths done nar)) + (roundOf paths done nar).length = freeN paths done := by
  have hm : ∀ f, f < paths.length → dB (setDone done (roundOf paths done nar)) f = (decide ((f : Int) ∈ roundOf paths done nar) || dB done f) := fun f hf => dB_setDone (by omega)
  have hlen : (roundOf paths done nar).length = (List.range paths.length).countP fun f => !dB done f && (paths.getD f []).any fun x => nar x.toNat := by
    unfold roundOf
    rw [List.length_map, List.countP_eq_length_filter]
  rw [hlen]
  unfold freeN
  have key : ∀ l : List Nat, (∀ f ∈ l, f < paths.length) → l.countP (fun f => !dB (setDone done (roundOf paths done nar)) f) + l.countP (fun f => !dB done f && (paths.getD f []).any fun x => nar x.toNat) = l.countP (fun f => !dB done f) := by
    intro l
    induction l with
    | nil => intro _; rfl
    | cons f l ih =>
      intro h
      have h1 := ih (fun g hg => h g (by simp [hg]))
      have hf := h f (by simp)
      rw [List.countP_cons, List.countP_cons, List.countP_cons, hm f hf]
      have hd : decide ((f : Int) ∈ roundOf paths done nar) = (!dB done f && (paths.getD f []).any fun x => nar x.toNat) := by
        rw [Bool.eq_iff_iff, decide_eq_true_eq, mem_round, Bool.and_eq_true, Bool.not_eq_true', List.any_eq_true]
        constructor
        · rintro ⟨_, h2, h3⟩; exact ⟨h2, h3⟩
        · rintro ⟨h2, h3⟩; exact ⟨hf, h2, h3⟩
      rw [hd]
      generalize ((paths.getD f []).any fun x => nar x.toNat) = z
      cases dB done f <;> cases z <;> simp only [Bool.not_true, Bool.not_false, Bool.true_and, Bool.false_and, Bool.or_true, Bool.or_false, Bool.true_or, Bool.false_or, if_true, if_false, Bool.false_eq_true] <;> omega
  exact key _ (fun f hf => List.mem_range.1 hf)
end Go.Proofs.Ytinmoocnhgkleab.Fl
