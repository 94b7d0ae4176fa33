/- Facts and contracts that the walks lean on, one text behind the other; no walk of Go in them. -/
import Derived.Test.YtdldgefahgojaajDoorPlainsA
import Derived.OwnWalk
import Derived.Deep.Quiet
import Derived.Deep.QuietTactic
import Derived.BigQuiet
import Derived.RangeFuncNested
import Derived.RangeFuncBound
import Derived.RangeFuncCalls
import Derived.RangeFuncLeaves
import Derived.Deep.Cut
/- All rise together: in the end it fits, each has its narrow place, each is in one round, later ones have more. No Go in it. -/
namespace Go.Proofs.YtdldgefahgojaajDoor.Fl
open Fr Ns Ld
set_option linter.unusedSimpArgs false

/-- rates that fit, of which each flow has a narrow place; they are right, and above 0 -/
structure Fair (caps : List Int) (paths : List (List Int)) (x : List (Int × Int)) : Prop where
  len : x.length = paths.length
  right : ∀ f, f < paths.length → faultP (rP x f) = 0 ∧ 0 < xQ x f ∧ xQ x f ≤ 1000
  bottom : ∃ D : Int, 1 ≤ D ∧ D ≤ 46656 ∧ ∀ f, f < paths.length → Over D (rP x f)
  fits : FitsQ (usN paths) (capQ caps) caps.length paths.length (xQ x)
  neck : ∀ f, f < paths.length → NeckQ (usN paths) (capQ caps) caps.length (xQ x) f
/-- rounds at rates that rise -/
def Rises (x : Nat → Rat) : Rat → List (List Int) → Prop
  | _, [] => True
  | b, rd :: rest => rd ≠ [] ∧ ∃ v, b < v ∧ (∀ u ∈ rd, x u.toNat = v) ∧ Rises x v rest
def freeN (paths : List (List Int)) (done : List Bool) : Nat := (List.range paths.length).countP fun f => !dB done f

theorem six {a b : Nat} (h : a ≤ b) : (6 : Int) ^ a ≤ 6 ^ b := by
  have h1 : (6 : Nat) ^ a ≤ 6 ^ b := Nat.pow_le_pow_right (by decide) h
  have h2 : (((6 : Nat) ^ a : Nat) : Int) ≤ (((6 : Nat) ^ b : Nat) : Int) := Int.ofNat_le.2 h1
  simpa using h2
theorem inv_end {caps : List Int} {paths : List (List Int)} {rate : List (Int × Int)} {done : List Bool} {b : Rat} {D : Int} (hg : Good caps paths) (hi : Inv caps paths rate done b D) (hD : D ≤ 46656) (ha : ∀ f, f < paths.length → dB done f = true) : Fair caps paths rate := by
  have hle : ∀ f, f < paths.length → 0 < xQ rate f ∧ xQ rate f ≤ 1000 := by
    intro f hf
    have h1 := (hi.over f hf (ha f hf)).2.1
    obtain ⟨l, hl, hfl, _, hs, _⟩ := hi.neck f hf (ha f hf)
    have h2 := le_sumQ (x := xQ rate) (fun g hgl => by have := (hi.over g (usN_lt hgl) (ha g (usN_lt hgl))).2.1; grind) hfl
    have h3 := (capQ_bd hg.1 hl).2
    exact ⟨h1, by grind⟩
  refine ⟨hi.lr, fun f hf => ⟨?_, hle f hf⟩, ⟨D, hi.hD, hD, fun f hf => (hi.over f hf (ha f hf)).1⟩, ⟨fun f hf => Rat.le_of_lt (hle f hf).1, fun l hl => ?_⟩, fun f hf => ?_⟩
  · exact over_fault (hi.over f hf (ha f hf)).1 hi.hD (by omega) (Rat.le_of_lt (hle f hf).1) (hle f hf).2
  · rw [← sumQ_congr (x := lev done rate b) (y := xQ rate) (fun g hgl => by unfold lev; rw [ha g (usN_lt hgl)]; rfl)]
    exact hi.room l hl
  · obtain ⟨l, hl, hfl, _, hs, hm⟩ := hi.neck f hf (ha f hf)
    exact ⟨l, hl, hfl, hs, hm⟩

theorem all_done {done : List Bool} {n : Nat} (hl : done.length = n) : (done.all id = true) ↔ ∀ f, f < n → dB done f = true := by
  rw [List.all_eq_true]
  constructor
  · intro h f hf
    exact h _ (getD_mem done f (by omega) false)
  · intro h a ha
    obtain ⟨i, hi, rfl⟩ := List.mem_iff_getElem.1 ha
    have := h i (by omega)
    simpa [dB, List.getD, List.getElem?_eq_getElem hi] using this

theorem nodup_round {paths : List (List Int)} {done : List Bool} {nar : Nat → Bool} : (roundOf paths done nar).Nodup := by
  unfold roundOf
  have h1 : ((List.range paths.length).filter fun f => !dB done f && (paths.getD f []).any fun x => nar x.toNat).Nodup := List.Nodup.sublist List.filter_sublist List.nodup_range
  exact List.Pairwise.map (R := (· ≠ ·)) (S := (· ≠ ·)) _ (fun a b h e => h (by omega)) h1

theorem fill_spec {caps : List Int} {paths : List (List Int)} (hg : Good caps paths) : ∀ (fuel : Nat) (rate : List (Int × Int)) (done : List Bool) (b : Rat) (D : Int), Inv caps paths rate done b D → freeN paths done ≤ fuel → D * 6 ^ freeN paths done ≤ 46656 →
    Fair caps paths (fillFrom caps paths fuel rate done).1 ∧ (∀ f, f < paths.length → dB done f = true → rP (fillFrom caps paths fuel rate done).1 f = rP rate f) ∧
    Rises (xQ (fillFrom caps paths fuel rate done).1) b (fillFrom caps paths fuel rate done).2 ∧ (fillFrom caps paths fuel rate done).2.flatten.Nodup ∧
    (∀ u : Int, u ∈ (fillFrom caps paths fuel rate done).2.flatten ↔ ∃ f : Nat, u = f ∧ f < paths.length ∧ dB done f = false) := by
  intro fuel
  induction fuel with
  | zero =>
    intro rate done b D hi hf hD
    have h0 : freeN paths done = 0 := by omega
    have ha : ∀ f, f < paths.length → dB done f = true := by
      intro f hf
      unfold freeN at h0
      rw [List.countP_eq_zero] at h0
      simpa using h0 f (List.mem_range.2 hf)
    rw [h0] at hD
    simp only [fillFrom]
    refine ⟨inv_end hg hi (by omega) ha, fun _ _ _ => by first | rfl | trivial, trivial, by simp, fun u => ?_⟩
    simp only [List.flatten_nil, List.not_mem_nil, false_iff]
    rintro ⟨f, _, hf, hd⟩
    rw [ha f hf] at hd; cases hd
  | succ k ih =>
    intro rate done b D hi hf hD
    by_cases hall : done.all id = true
    · have ha := (all_done hi.ld).1 hall
      have h0 : freeN paths done = 0 := by
        unfold freeN
        rw [List.countP_eq_zero]
        intro f hf
        rw [ha f (List.mem_range.1 hf)]; decide
      rw [h0] at hD
      simp only [fillFrom]
      rw [if_pos hall]
      refine ⟨inv_end hg hi (by omega) ha, fun _ _ _ => by first | rfl | trivial, trivial, by simp, fun u => ?_⟩
      simp only [List.flatten_nil, List.not_mem_nil, false_iff]
      rintro ⟨f, _, hf, hd⟩
      rw [ha f hf] at hd; cases hd
    · have hex : ∃ f, f < paths.length ∧ dB done f = false := by
        apply Classical.byContradiction
        intro hn
        exact hall ((all_done hi.ld).2 fun f hf => by
          cases hd : dB done f with
          | true => rfl
          | false => exact absurd ⟨f, hf, hd⟩ hn)
      obtain ⟨bst, hbest, hbv, hne, kk, hk1, hk6, hi'⟩ := inv_step hg hi hex
      have hround : ∀ f : Nat, (f : Int) ∈ roundOf paths done (narOf (shareOf caps paths rate done) caps.length) → f < paths.length ∧ dB done f = false := fun f h => ⟨(mem_round.1 h).1, (mem_round.1 h).2.1⟩
      have hnat : ∀ u ∈ roundOf paths done (narOf (shareOf caps paths rate done) caps.length), ∃ f : Nat, u = f ∧ f < paths.length := fun u h => round_nat h
      have hnd : (roundOf paths done (narOf (shareOf caps paths rate done) caps.length)).Nodup := nodup_round
      simp only [fillFrom]
      rw [if_neg hall, hbest]
      simp only
      generalize roundOf paths done (narOf (shareOf caps paths rate done) caps.length) = rd at *
      have hdB : ∀ f, f < paths.length → dB (setDone done rd) f = (decide ((f : Int) ∈ rd) || dB done f) := fun f h => dB_setDone (by rw [hi.ld]; exact h)
      obtain ⟨u0, hu0⟩ := List.exists_mem_of_ne_nil _ hne
      obtain ⟨f1, rfl, hf1⟩ := hnat u0 hu0
      have hlt : freeN paths (setDone done rd) < freeN paths done := by
        refine countP_lt (f := f1) (fun g hg' hp => ?_) (List.mem_range.2 hf1) ?_ ?_
        · rw [hdB g (List.mem_range.1 hg')] at hp
          simp only [Bool.not_or, Bool.and_eq_true] at hp
          exact hp.2
        · rw [hdB f1 hf1]; simp [hu0]
        · rw [(hround f1 hu0).2]; rfl
      have hpow : D * (kk : Int) * 6 ^ freeN paths (setDone done rd) ≤ 46656 := by
        have e1 : (6 : Int) ^ (freeN paths (setDone done rd) + 1) ≤ 6 ^ freeN paths done := by
          exact six (by omega)
        have p0 : (0 : Int) ≤ 6 ^ freeN paths (setDone done rd) := Int.le_of_lt (Int.pow_pos (by decide))
        have e2 : (kk : Int) * 6 ^ freeN paths (setDone done rd) ≤ 6 ^ freeN paths done := by
          have h6 : (kk : Int) * 6 ^ freeN paths (setDone done rd) ≤ 6 * 6 ^ freeN paths (setDone done rd) := Int.mul_le_mul_of_nonneg_right (by omega) p0
          rw [Int.pow_succ] at e1
          omega
        have e3 : D * ((kk : Int) * 6 ^ freeN paths (setDone done rd)) ≤ D * 6 ^ freeN paths done := Int.mul_le_mul_of_nonneg_left e2 (by have := hi.hD; omega)
        rw [Int.mul_assoc]
        omega
      obtain ⟨i1, i2, i3, i4, i5⟩ := ih _ _ _ _ hi' (by omega) hpow
      generalize fillFrom caps paths k (setRate rate rd bst) (setDone done rd) = z at *
      refine ⟨i1, fun f hf hd => ?_, ⟨hne, val bst, hbv, fun u hu => ?_, i3⟩, ?_, fun u => ?_⟩
      · rw [i2 f hf (by rw [hdB f hf, hd]; simp), rP_setRate (by rw [hi.lr]; exact hf), if_neg]
        intro h
        have := (hround f h).2
        rw [hd] at this; cases this
      · obtain ⟨f, rfl, hf⟩ := hnat u hu
        have e : ((f : Int)).toNat = f := by omega
        rw [e]
        unfold xQ
        rw [i2 f hf (by rw [hdB f hf]; simp [hu]), rP_setRate (by rw [hi.lr]; exact hf), if_pos hu]
      · rw [List.flatten_cons, List.nodup_append]
        refine ⟨hnd, i4, fun a ha c hc e => ?_⟩
        subst e
        obtain ⟨f, rfl, hf, hd⟩ := (i5 a).1 hc
        rw [hdB f hf] at hd
        simp [ha] at hd
      · rw [List.flatten_cons, List.mem_append, i5 u]
        constructor
        · rintro (h | ⟨f, rfl, hf, hd⟩)
          · obtain ⟨f, rfl, hf⟩ := hnat u h
            exact ⟨f, rfl, hf, (hround f h).2⟩
          · rw [hdB f hf] at hd
            simp only [Bool.or_eq_false_iff] at hd
            exact ⟨f, rfl, hf, hd.2⟩
        · rintro ⟨f, rfl, hf, hd⟩
          by_cases h : (f : Int) ∈ rd
          · exact .inl h
          · exact .inr ⟨f, rfl, hf, by rw [hdB f hf]; simp [h, hd]⟩

/-- rates that rise together are fair, and their rounds are as the document says -/
theorem fill_fair {caps : List Int} {paths : List (List Int)} (hg : Good caps paths) :
    Fair caps paths (fill caps paths).1 ∧ Rises (xQ (fill caps paths).1) 0 (fill caps paths).2 ∧ (fill caps paths).2.flatten.Nodup ∧ (∀ u : Int, u ∈ (fill caps paths).2.flatten ↔ ∃ f : Nat, u = f ∧ f < paths.length) := by
  have hd : ∀ f, dB (List.replicate paths.length false) f = false := fun f => by
    unfold dB
    simp only [List.getD, List.getElem?_replicate]
    split <;> rfl
  have hfn : freeN paths (List.replicate paths.length false) ≤ paths.length := by
    unfold freeN
    exact Nat.le_trans List.countP_le_length (by simp)
  have hpow : (1 : Int) * 6 ^ freeN paths (List.replicate paths.length false) ≤ 46656 := by
    rw [Int.one_mul]
    have h1 : (6 : Int) ^ freeN paths (List.replicate paths.length false) ≤ 6 ^ 6 := six (Nat.le_trans hfn hg.2.2.1)
    have h2 : (6 : Int) ^ 6 = 46656 := by decide
    omega
  obtain ⟨h1, _, h3, h4, h5⟩ := fill_spec hg paths.length _ _ 0 1 (inv_start hg) hfn hpow
  refine ⟨h1, h3, h4, fun u => ?_⟩
  rw [show (fill caps paths).2 = (fillFrom caps paths paths.length (List.replicate paths.length (0, 0)) (List.replicate paths.length false)).2 from rfl, h5 u]
  constructor
  · rintro ⟨f, e, hf, _⟩; exact ⟨f, e, hf⟩
  · rintro ⟨f, e, hf⟩; exact ⟨f, e, hf, hd f⟩
end Go.Proofs.YtdldgefahgojaajDoor.Fl

/- What is asked of a log's Rates, as the document says it. -/
namespace Go.Proofs.YtdldgefahgojaajDoor
namespace Ev
open Go.RowKit Fr Ns Ld Fl
def ratesLE (f : Flows) : Int := if f.length = 0 then 5 else 0
end Ev
end Go.Proofs.YtdldgefahgojaajDoor

/- All rise together, step by step: what a walk through the rounds meets. No Go in it. -/
namespace Go.Proofs.YtdldgefahgojaajDoor.Fl
open Fr Ns Ld
set_option linter.unusedSimpArgs false

theorem linkSum_append (rate : List (Int × Int)) (done : List Bool) : ∀ (a b : List Int) (s : Int × Int) (k : Nat), linkSum rate done (a ++ b) s k = linkSum rate done b (linkSum rate done a s k).1 (linkSum rate done a s k).2 := by
  intro a
  induction a with
  | nil => intro b s k; rfl
  | cons u us ih =>
    intro b s k
    simp only [List.cons_append, linkSum]
    split
    · exact ih _ _ _
    · exact ih _ _ _
theorem linkSum_step {rate : List (Int × Int)} {done : List Bool} {us : List Int} {s : Int × Int} {k j : Nat} (hj : j < us.length) :
    linkSum rate done (us.take (j + 1)) s k = if dB done (us.getD j 0).toNat then (sumP (linkSum rate done (us.take j) s k).1 (negP (rP rate (us.getD j 0).toNat)), (linkSum rate done (us.take j) s k).2) else ((linkSum rate done (us.take j) s k).1, (linkSum rate done (us.take j) s k).2 + 1) := by
  rw [take_snoc us j hj 0, linkSum_append]
  simp only [linkSum]
theorem sumQ_nonneg {x : Nat → Rat} : ∀ {l : List Nat}, (∀ g ∈ l, 0 ≤ x g) → 0 ≤ sumQ x l := by
  intro l
  induction l with
  | nil => intro _; exact Rat.le_refl
  | cons u us ih =>
    intro h
    have h1 := h u (by simp)
    have h2 := ih (fun g hg => h g (by simp [hg]))
    simp only [sumQ]
    grind
theorem sumQ_append (x : Nat → Rat) : ∀ (a b : List Nat), sumQ x (a ++ b) = sumQ x a + sumQ x b := by
  intro a
  induction a with
  | nil => intro b; simp only [List.nil_append, sumQ]; grind
  | cons u us ih => intro b; simp only [List.cons_append, sumQ, ih]; grind

section
variable {caps : List Int} {paths : List (List Int)} {rate : List (Int × Int)} {done : List Bool} {b : Rat} {D : Int}

theorem users_toNat {l : Nat} {u : Int} (h : u ∈ users paths l) : u.toNat ∈ usN paths l := List.mem_map.2 ⟨u, h, rfl⟩
theorem lev0_nonneg (hi : Inv caps paths rate done b D) {u : Nat} (hu : u < paths.length) : 0 ≤ lev done rate 0 u := by
  unfold lev
  split
  · rename_i h; exact Rat.le_of_lt (hi.over u hu h).2.1
  · exact Rat.le_refl
/-- what is left on a link is right, and no less than 0 -/
theorem linkSum_right (hg : Good caps paths) (hi : Inv caps paths rate done b D) (hD : D ≤ 46656) {l : Nat} (hl : l < caps.length) (j : Nat) :
    faultP (linkSum rate done ((users paths l).take j) (caps.getD l 0, 1) 0).1 = 0 ∧ Over D (linkSum rate done ((users paths l).take j) (caps.getD l 0, 1) 0).1 ∧ 0 ≤ val (linkSum rate done ((users paths l).take j) (caps.getD l 0, 1) 0).1 ∧ val (linkSum rate done ((users paths l).take j) (caps.getD l 0, 1) 0).1 ≤ 1000 ∧
    (linkSum rate done ((users paths l).take j) (caps.getD l 0, 1) 0).2 ≤ j := by
  obtain ⟨h1, h2, h3⟩ := linkSum_spec rate done D ((users paths l).take j) (caps.getD l 0, 1) 0 (over_whole D _) (fun u hu hd => (hi.over _ (usN_lt (users_toNat (List.mem_of_mem_take hu))) hd).1)
  have hall : ((users paths l).take j).map Int.toNat ++ ((users paths l).drop j).map Int.toNat = usN paths l := by
    rw [← List.map_append, List.take_append_drop]; rfl
  have hc := capQ_bd hg.1 hl
  have hroom := hi.room l hl
  have hlin := lev_lin done rate b 0 (usN paths l)
  have hb := hi.hb
  have hcnt : (0 : Rat) ≤ (b - 0) * ((List.countP (fun u => !dB done u) (usN paths l) : Nat) : Rat) := Rat.mul_nonneg (by grind) Rat.natCast_nonneg
  have hsplit := sumQ_append (lev done rate 0) (((users paths l).take j).map Int.toNat) (((users paths l).drop j).map Int.toNat)
  rw [hall] at hsplit
  have n1 : 0 ≤ sumQ (lev done rate 0) (((users paths l).take j).map Int.toNat) := sumQ_nonneg fun g hg => by
    obtain ⟨u, hu, rfl⟩ := List.mem_map.1 hg
    exact lev0_nonneg hi (usN_lt (users_toNat (List.mem_of_mem_take hu)))
  have n2 : 0 ≤ sumQ (lev done rate 0) (((users paths l).drop j).map Int.toNat) := sumQ_nonneg fun g hg => by
    obtain ⟨u, hu, rfl⟩ := List.mem_map.1 hg
    exact lev0_nonneg hi (usN_lt (users_toNat (List.mem_of_mem_drop hu)))
  have hw : val (caps.getD l 0, 1) = capQ caps l := by rw [val_whole]; rfl
  rw [hw] at h3
  have v1 : 0 ≤ val (linkSum rate done ((users paths l).take j) (caps.getD l 0, 1) 0).1 := by grind
  have v2 : val (linkSum rate done ((users paths l).take j) (caps.getD l 0, 1) 0).1 ≤ 1000 := by grind
  refine ⟨over_fault h1 hi.hD (by omega) v1 v2, h1, v1, v2, ?_⟩
  rw [h2, Nat.zero_add]
  refine Nat.le_trans List.countP_le_length ?_
  rw [List.length_map, List.length_take]
  omega
theorem lev_nonneg (hi : Inv caps paths rate done b D) {t : Rat} (ht : 0 ≤ t) {u : Nat} (hu : u < paths.length) : 0 ≤ lev done rate t u := by
  unfold lev
  split
  · rename_i h; exact Rat.le_of_lt (hi.over u hu h).2.1
  · exact ht
/-- a link's share is right, above what all have, and no more than the link takes -/
theorem share_right (hg : Good caps paths) (hi : Inv caps paths rate done b D) (hD : D ≤ 46656) {l : Nat} (hl : l < caps.length) {s : Int × Int} (h : shareOf caps paths rate done l = some s) : faultP s = 0 ∧ 0 ≤ val s ∧ val s ≤ 1000 := by
  obtain ⟨h1, ⟨u, hu, hd⟩, k, hk1, hk2, ho⟩ := share_some (fun f a b => (hi.over f a b).1) h
  have hc := capQ_bd hg.1 hl
  have hst := hi.strict l hl ⟨u, hu, hd⟩
  have hbv : b < val s := by
    apply Classical.byContradiction
    intro hn
    have hle : val s ≤ b := by grind
    have := sumQ_le (x := lev done rate (val s)) (y := lev done rate b) (l := usN paths l) (fun g _ => by
      unfold lev
      split
      · exact Rat.le_refl
      · exact hle)
    grind
  have hb := hi.hb
  have v0 : 0 ≤ val s := by grind
  have hle := le_sumQ (x := lev done rate (val s)) (f := u) (fun g hg => lev_nonneg hi v0 (usN_lt hg)) hu
  have hlu : lev done rate (val s) u = val s := by unfold lev; rw [hd]; rfl
  have v1 : val s ≤ 1000 := by grind
  have hkD : 1 ≤ D * (k : Int) := by
    have := Int.mul_le_mul hi.hD (show (1 : Int) ≤ (k : Int) by omega) (by decide) (by have := hi.hD; omega)
    omega
  have hkD2 : D * (k : Int) ≤ 1000000 := by
    have hn := hg.2.2.1
    have h0 := hi.hD
    have : D * (k : Int) ≤ D * 6 := Int.mul_le_mul_of_nonneg_left (by omega) (by omega)
    omega
  exact ⟨over_fault ho hkD hkD2 v0 v1, v0, v1⟩
end

/-- which of the first n links have the least share of them -/
def narAt (sh : Nat → Option (Int × Int)) (n l : Nat) : Bool := decide (l < n) && (sh l).isSome && decide (sh l = bestOf sh n)
theorem narAt_eq (sh : Nat → Option (Int × Int)) (n : Nat) : narOf sh n = narAt sh n := rfl
def bestD (o : Option (Int × Int)) : Int × Int := o.getD (-1, 1)
theorem best_skip {sh : Nat → Option (Int × Int)} {n : Nat} (h : sh n = none) : bestOf sh (n + 1) = bestOf sh n ∧ ∀ l, narAt sh (n + 1) l = narAt sh n l := by
  have e : bestOf sh (n + 1) = bestOf sh n := by
    conv => lhs; unfold bestOf
    rw [h]
  refine ⟨e, fun l => ?_⟩
  unfold narAt
  rw [e]
  by_cases hl : l = n
  · subst hl; rw [h]; simp
  · have : (l < n + 1) ↔ (l < n) := by omega
    simp only [this]
/-- a share that is less than all before, or the first one -/
theorem best_new {sh : Nat → Option (Int × Int)} {n : Nat} {s : Int × Int} (hp : ∀ l t, l ≤ n → sh l = some t → faultP t = 0) (h : sh n = some s) (hb : bestOf sh n = none ∨ ∃ b, bestOf sh n = some b ∧ s.1 * b.2 < b.1 * s.2) :
    bestOf sh (n + 1) = some s ∧ ∀ l, narAt sh (n + 1) l = decide (l = n) := by
  have e : bestOf sh (n + 1) = some s := by
    conv => lhs; unfold bestOf
    rw [h]
    rcases hb with hb | ⟨b, hb, hlt⟩
    · rw [hb]
    · rw [hb]; simp only; rw [if_pos hlt]
  refine ⟨e, fun l => ?_⟩
  unfold narAt
  rw [e]
  by_cases hl : l = n
  · subst hl; rw [h]; simp
  · have hx : ∀ x, sh l = some x → l < n → x ≠ s := by
      intro x hx hln hxs
      subst hxs
      rcases hb with hb | ⟨b, hb, hlt⟩
      · have := best_none _ hb l hln; rw [this] at hx; cases hx
      · -- of the first n none is less than b
        let sh' : Nat → Option (Int × Int) := fun l => if l < n then sh l else none
        have hsame : ∀ m, m ≤ n → bestOf sh' m = bestOf sh m := by
          intro m
          induction m with
          | zero => intro _; rfl
          | succ m ih =>
            intro hm
            unfold bestOf
            rw [ih (by omega)]
            have : sh' m = sh m := if_pos (by omega)
            rw [this]
        have hp' : ∀ l t, sh' l = some t → 1 ≤ t.2 := by
          intro l t ht
          by_cases hl : l < n
          · have : sh' l = sh l := if_pos hl
            rw [this] at ht
            exact fault_pos (hp l t (by omega) ht)
          · have : sh' l = none := if_neg hl
            rw [this] at ht; cases ht
        have hmin := (best_some hp' n b (by rw [hsame n (Nat.le_refl _)]; exact hb)).2 l x hln (by rw [show sh' l = sh l from if_pos hln]; exact hx)
        obtain ⟨⟨l0, hl0, hb0⟩, _⟩ := best_some hp' n b (by rw [hsame n (Nat.le_refl _)]; exact hb)
        have pb := hp' l0 b hb0
        have px := fault_pos (hp n x (Nat.le_refl _) h)
        have := (cross_lt px pb).2 hlt
        grind
    have hne : decide (l = n) = false := decide_eq_false hl
    rw [hne]
    by_cases hln : l < n
    · cases hs : sh l with
      | none => simp
      | some x =>
        have := hx x hs hln
        simp [this]
    · have : ¬ l < n + 1 := by omega
      simp [this]
/-- a share as great as the least before -/
theorem best_same {sh : Nat → Option (Int × Int)} {n : Nat} {s : Int × Int} (h : sh n = some s) (hb : bestOf sh n = some s) : bestOf sh (n + 1) = some s ∧ ∀ l, narAt sh (n + 1) l = (narAt sh n l || decide (l = n)) := by
  have e : bestOf sh (n + 1) = some s := by
    conv => lhs; unfold bestOf
    rw [h, hb]
    simp only
    split <;> rfl
  refine ⟨e, fun l => ?_⟩
  unfold narAt
  rw [e, hb]
  by_cases hl : l = n
  · subst hl; rw [h]; simp
  · have : (l < n + 1) ↔ (l < n) := by omega
    simp only [this, hl, decide_false, Bool.or_false]
/-- a greater one -/
theorem best_more {sh : Nat → Option (Int × Int)} {n : Nat} {s b : Int × Int} (h : sh n = some s) (hb : bestOf sh n = some b) (hlt : b.1 * s.2 < s.1 * b.2) : bestOf sh (n + 1) = some b ∧ ∀ l, narAt sh (n + 1) l = narAt sh n l := by
  have e : bestOf sh (n + 1) = some b := by
    conv => lhs; unfold bestOf
    rw [h, hb]
    simp only
    rw [if_neg (by omega)]
  refine ⟨e, fun l => ?_⟩
  unfold narAt
  rw [e, hb]
  by_cases hl : l = n
  · subst hl
    rw [h]
    have : ¬ s = b := by rintro rfl; omega
    simp [this]
  · have : (l < n + 1) ↔ (l < n) := by omega
    simp only [this]

/-- the round, flow by flow -/
theorem round_step (paths : List (List Int)) (done : List Bool) (nar : Nat → Bool) (k : Nat) : ((List.range (k + 1)).filter fun f => !dB done f && (paths.getD f []).any fun x => nar x.toNat).map (fun f : Nat => (f : Int)) =
    ((List.range k).filter fun f => !dB done f && (paths.getD f []).any fun x => nar x.toNat).map (fun f : Nat => (f : Int)) ++ (if (!dB done k && (paths.getD k []).any fun x => nar x.toNat) = true then [(k : Int)] else []) := by
  rw [List.range_succ, List.filter_append, List.map_append]
  congr 1
  simp only [List.filter_cons, List.filter_nil]
  split <;> rfl
def roundTo (paths : List (List Int)) (done : List Bool) (nar : Nat → Bool) (k : Nat) : List Int := ((List.range k).filter fun f => !dB done f && (paths.getD f []).any fun x => nar x.toNat).map (fun f : Nat => (f : Int))
theorem roundTo_all (paths : List (List Int)) (done : List Bool) (nar : Nat → Bool) : roundTo paths done nar paths.length = roundOf paths done nar := rfl
theorem roundTo_length (paths : List (List Int)) (done : List Bool) (nar : Nat → Bool) (k : Nat) : (roundTo paths done nar k).length ≤ k := by
  unfold roundTo
  rw [List.length_map]
  exact Nat.le_trans (List.length_filter_le _ _) (by simp)

/-- so many fewer are free -/
theorem freeN_step {paths : List (List Int)} {done : List Bool} {nar : Nat → Bool} (hl : done.length = paths.length) : freeN paths (setDone done (roundOf paths done nar)) + (roundOf paths done nar).length = freeN paths done := by
  have hm : ∀ f, f < paths.length → dB (setDone done (roundOf paths done nar)) f = (decide ((f : Int) ∈ roundOf paths done nar) || dB done f) := fun f hf => dB_setDone (by omega)
  have hlen : (roundOf paths done nar).length = (List.range paths.length).countP fun f => !dB done f && (paths.getD f []).any fun x => nar x.toNat := by
    unfold roundOf
    rw [List.length_map, List.countP_eq_length_filter]
  rw [hlen]
  unfold freeN
  have key : ∀ l : List Nat, (∀ f ∈ l, f < paths.length) → l.countP (fun f => !dB (setDone done (roundOf paths done nar)) f) + l.countP (fun f => !dB done f && (paths.getD f []).any fun x => nar x.toNat) = l.countP (fun f => !dB done f) := by
    intro l
    induction l with
    | nil => intro _; rfl
    | cons f l ih =>
      intro h
      have h1 := ih (fun g hg => h g (by simp [hg]))
      have hf := h f (by simp)
      rw [List.countP_cons, List.countP_cons, List.countP_cons, hm f hf]
      have hd : decide ((f : Int) ∈ roundOf paths done nar) = (!dB done f && (paths.getD f []).any fun x => nar x.toNat) := by
        rw [Bool.eq_iff_iff, decide_eq_true_eq, mem_round, Bool.and_eq_true, Bool.not_eq_true', List.any_eq_true]
        constructor
        · rintro ⟨_, h2, h3⟩; exact ⟨h2, h3⟩
        · rintro ⟨h2, h3⟩; exact ⟨hf, h2, h3⟩
      rw [hd]
      generalize ((paths.getD f []).any fun x => nar x.toNat) = z
      cases dB done f <;> cases z <;> simp only [Bool.not_true, Bool.not_false, Bool.true_and, Bool.false_and, Bool.or_true, Bool.or_false, Bool.true_or, Bool.false_or, if_true, if_false, Bool.false_eq_true] <;> omega
  exact key _ (fun f hf => List.mem_range.1 hf)
end Go.Proofs.YtdldgefahgojaajDoor.Fl

/- Rows of bools and of fractions that a call makes and writes into: what a walk is told of them. -/
namespace Go.Proofs.YtdldgefahgojaajDoor
namespace Fl
open Go.RowKit Fr Ns Ld
set_option linter.unusedSimpArgs false
set_option linter.unusedVariables false

theorem infoBool : (Tryd.prog.info? 4).map (fun i => (i.zero, i.size, i.bytes)) = some (some (.bool false), 1, 1) := by kernel_rfl
def boolsV (l : List Bool) : List Value := l.map Value.bool
theorem boolsV_length (l : List Bool) : (boolsV l).length = l.length := by simp [boolsV]
end Fl
end Go.Proofs.YtdldgefahgojaajDoor

/- The rounds' memory and how far they are: what the walk through the document's Fill is told. -/
namespace Go.Proofs.YtdldgefahgojaajDoor
namespace Fl
open Go.RowKit Fr Ns Ld
set_option linter.unusedSimpArgs false
set_option linter.unusedVariables false

theorem made_fracs (n : Nat) : (madeCells #[Value.int .i64 0, Value.int .i64 0] (n * 2)).toList = flat (List.replicate n (0, 0)) := by
  apply List.ext_getElem?
  intro i
  by_cases hi : i < n * 2
  · have h1 : (madeCells #[Value.int .i64 0, Value.int .i64 0] (n * 2)).toList[i]? = some (.int .i64 0) := by
      unfold madeCells
      simp only [Array.toList_map, List.getElem?_map, Array.toList_range, List.getElem?_range hi, Option.map_some]
      rcases Nat.mod_two_eq_zero_or_one i with h | h <;> simp [h]
    rw [h1]
    rcases Nat.mod_two_eq_zero_or_one i with h | h
    · have e : i = i / 2 * 2 := by omega
      have := (flat_at (List.replicate n ((0 : Int), (0 : Int))) (i / 2) (by simp; omega)).1
      rw [← e] at this
      rw [this, getD_replicate _ _ _ _ (by omega)]
    · have e : i = i / 2 * 2 + 1 := by omega
      have := (flat_at (List.replicate n ((0 : Int), (0 : Int))) (i / 2) (by simp; omega)).2
      rw [← e] at this
      rw [this, getD_replicate _ _ _ _ (by omega)]
  · rw [List.getElem?_eq_none (by simp [size_madeCells]; omega), List.getElem?_eq_none (by rw [flat_length]; simp; omega)]
theorem made_bools (n : Nat) : (madeCells #[Value.bool false] n).toList = boolsV (List.replicate n false) := by
  rw [toList_madeCells_one]; simp [boolsV]

theorem owns_later {w w' : World} {base : Nat} {e : TypeId} {size n : Nat} {v : Value} {xs : List Value} (hb : Below w.heap.size w w') (h : w.ownsRow base e size v n xs) : w'.ownsRow base e size v n xs := by
  refine ⟨h.1, ?_⟩
  rcases h.2 with h' | ⟨g', cap', cur, h', hg, hc, r⟩
  · exact .inl h'
  · have hlt : g' < w.heap.size := (Array.getElem?_eq_some_iff.1 hc).1
    exact .inr ⟨g', cap', cur, h', hg, by rw [hb.block g' hlt]; exact hc, r⟩
/-- what the rounds' memory holds -/
def FillMem (gr gd : Nat) (w : World) (v6 : Value) (rate : List (Int × Int)) (done : List Bool) (acc : List (List Int)) : Prop :=
  RowAt w gr 96 (flat rate) ∧ RowAt w gd 4 (boolsV done) ∧ ∃ vs, w.ownsRow (gd + 1) 33 1 v6 acc.length vs ∧ ∀ i, i < acc.length → IntsAt (fun b => gd < b ∧ v6.ownBlock ≠ some b) w (vs.getD i undef) (acc.getD i [])
theorem mem_later {gr gd : Nat} {w w' : World} {v6 : Value} {rate : List (Int × Int)} {done : List Bool} {acc : List (List Int)} (h : FillMem gr gd w v6 rate done acc) (hb : Below w.heap.size w w') : FillMem gr gd w' v6 rate done acc := by
  obtain ⟨h1, h2, vs, h3, h4⟩ := h
  exact ⟨h1.later hb h1.lt, h2.later hb h2.lt, vs, owns_later hb h3, fun i hi => (h4 i hi).later hb⟩
theorem nar_start (sh : Nat → Option (Int × Int)) (n : Nat) : (List.range n).map (narAt sh 0) = List.replicate n false := by
  apply List.ext_getElem
  · simp
  · intro i h1 h2
    simp [narAt]
/-- how far the rounds are -/
def FillAt (caps : List Int) (paths : List (List Int)) (rate : List (Int × Int)) (done : List Bool) (acc : List (List Int)) : Prop :=
  ∃ (k : Nat) (b : Rat) (D : Int), Inv caps paths rate done b D ∧ D * 6 ^ freeN paths done ≤ 46656 ∧ freeN paths done ≤ k ∧ fill caps paths = ((fillFrom caps paths k rate done).1, acc ++ (fillFrom caps paths k rate done).2)

theorem freeN_le (paths : List (List Int)) (done : List Bool) : freeN paths done ≤ paths.length := by
  unfold freeN
  exact Nat.le_trans List.countP_le_length (by simp)
theorem freeN_start (paths : List (List Int)) : freeN paths (List.replicate paths.length false) = paths.length := by
  unfold freeN
  have : (List.range paths.length).countP (fun f => !dB (List.replicate paths.length false) f) = (List.range paths.length).length := by
    rw [List.countP_eq_length]
    intro f hf
    have : dB (List.replicate paths.length false) f = false := by
      unfold dB
      simp only [List.getD, List.getElem?_replicate]
      split <;> rfl
    rw [this]; rfl
  rw [this]; simp
theorem fillAt_start {caps : List Int} {paths : List (List Int)} (hg : Good caps paths) : FillAt caps paths (List.replicate paths.length (0, 0)) (List.replicate paths.length false) [] := by
  refine ⟨paths.length, 0, 1, inv_start hg, ?_, freeN_le _ _, by simp [fill]⟩
  rw [Int.one_mul]
  have h1 : (6 : Int) ^ freeN paths (List.replicate paths.length false) ≤ 6 ^ 6 := six (Nat.le_trans (freeN_le _ _) hg.2.2.1)
  have h2 : (6 : Int) ^ 6 = 46656 := by decide
  omega
theorem all_of_free {paths : List (List Int)} {done : List Bool} (h : freeN paths done = 0) : ∀ f, f < paths.length → dB done f = true := by
  intro f hf
  unfold freeN at h
  rw [List.countP_eq_zero] at h
  simpa using h f (List.mem_range.2 hf)
theorem fillAt_end {caps : List Int} {paths : List (List Int)} {rate : List (Int × Int)} {done : List Bool} {acc : List (List Int)} (h : FillAt caps paths rate done acc) (hz : freeN paths done = 0) : fill caps paths = (rate, acc) := by
  obtain ⟨k, b, D, hi, _, _, he⟩ := h
  have hall : done.all id = true := (all_done hi.ld).2 (all_of_free hz)
  have : fillFrom caps paths k rate done = (rate, []) := by
    cases k with
    | zero => rfl
    | succ k => simp only [fillFrom]; rw [if_pos hall]
  rw [he, this]; simp
theorem len_le_flatten : ∀ (l : List (List Int)), (∀ a ∈ l, a ≠ []) → l.length ≤ l.flatten.length := by
  intro l
  induction l with
  | nil => intro _; simp
  | cons a l ih =>
    intro h
    have := ih (fun x hx => h x (by simp [hx]))
    have ha := h a (by simp)
    have : 0 < a.length := List.length_pos_iff.2 ha
    simp only [List.length_cons, List.flatten_cons, List.length_append]
    omega
theorem rises_ne {x : Nat → Rat} : ∀ {l : List (List Int)} {b : Rat}, Rises x b l → ∀ a ∈ l, a ≠ [] := by
  intro l
  induction l with
  | nil => intro b _ a ha; simp at ha
  | cons c l ih =>
    intro b h a ha
    obtain ⟨h1, v, _, _, h2⟩ := h
    rcases List.mem_cons.1 ha with rfl | ha
    · exact h1
    · exact ih h2 a ha
theorem flatten_bound {n : Nat} {l : List Int} (hn : l.Nodup) (h : ∀ u ∈ l, ∃ f : Nat, u = f ∧ f < n) : l.length ≤ n := by
  induction n generalizing l with
  | zero =>
    cases l with
    | nil => simp
    | cons a r => obtain ⟨f, _, hf⟩ := h a (by simp); omega
  | succ n ih =>
    have h1 := ih (l := l.erase (n : Int)) (hn.erase _) (by
      intro x hx
      have hx' := (hn.mem_erase_iff).1 hx
      obtain ⟨f, rfl, hf⟩ := h x hx'.2
      refine ⟨f, rfl, ?_⟩
      have : f ≠ n := fun e => hx'.1 (by rw [e])
      omega)
    have h2 : l.length ≤ (l.erase (n : Int)).length + 1 := by rw [List.length_erase]; split <;> omega
    omega
theorem fill_rounds_le {caps : List Int} {paths : List (List Int)} (hg : Good caps paths) : (fill caps paths).2.length ≤ paths.length := by
  obtain ⟨_, h1, h2, h3⟩ := fill_fair hg
  exact Nat.le_trans (len_le_flatten _ (rises_ne h1)) (flatten_bound h2 (fun u hu => (h3 u).1 hu))
theorem acc_length {caps : List Int} {paths : List (List Int)} {rate : List (Int × Int)} {acc : List (List Int)} (h : fill caps paths = (rate, acc)) (hg : Good caps paths) : acc.length ≤ paths.length := by
  have := fill_rounds_le hg
  rw [h] at this
  exact this

/-- all that one round asks -/
theorem fillAt_facts {caps : List Int} {paths : List (List Int)} {rate : List (Int × Int)} {done : List Bool} {acc : List (List Int)} (hg : Good caps paths) (h : FillAt caps paths rate done acc) (hz : 0 < freeN paths done) :
    rate.length = paths.length ∧ done.length = paths.length ∧
    (∀ l, l < caps.length → ∀ j, faultP (linkSum rate done ((users paths l).take j) (caps.getD l 0, 1) 0).1 = 0 ∧ (linkSum rate done ((users paths l).take j) (caps.getD l 0, 1) 0).1.2 ≤ 46656 ∧ (linkSum rate done ((users paths l).take j) (caps.getD l 0, 1) 0).2 ≤ j) ∧
    (∀ f, f < paths.length → dB done f = true → faultP (rP rate f) = 0) ∧
    (∀ l s, l < caps.length → shareOf caps paths rate done l = some s → faultP s = 0 ∧ 0 ≤ s.1) ∧
    ∃ bst, bestOf (shareOf caps paths rate done) caps.length = some bst ∧ faultP bst = 0 ∧ roundOf paths done (narAt (shareOf caps paths rate done) caps.length) ≠ [] ∧
      FillAt caps paths (setRate rate (roundOf paths done (narAt (shareOf caps paths rate done) caps.length)) bst) (setDone done (roundOf paths done (narAt (shareOf caps paths rate done) caps.length))) (acc ++ [roundOf paths done (narAt (shareOf caps paths rate done) caps.length)]) := by
  obtain ⟨k, b, D, hi, hD, hk, he⟩ := h
  have hD' : D ≤ 46656 := by
    have h1 : (1 : Int) ≤ 6 ^ freeN paths done := by
      have := six (a := 0) (b := freeN paths done) (by omega)
      simpa using this
    have := Int.mul_le_mul_of_nonneg_left h1 (show 0 ≤ D by have := hi.hD; omega)
    omega
  have hex : ∃ f, f < paths.length ∧ dB done f = false := by
    apply Classical.byContradiction
    intro hn
    have : freeN paths done = 0 := by
      unfold freeN
      rw [List.countP_eq_zero]
      intro f hf hd
      exact hn ⟨f, List.mem_range.1 hf, by simpa using hd⟩
    omega
  have hnall : ¬ done.all id = true := fun ha => by
    obtain ⟨f, hf, hd⟩ := hex
    rw [(all_done hi.ld).1 ha f hf] at hd
    cases hd
  obtain ⟨bst, hb, hbv, hne, kk, hk1, hk6, hi'⟩ := inv_step hg hi hex
  have hsr : ∀ l s, l < caps.length → shareOf caps paths rate done l = some s → faultP s = 0 ∧ 0 ≤ s.1 := by
    intro l s hl hs
    obtain ⟨h1, h2, _⟩ := share_right hg hi hD' hl hs
    refine ⟨h1, ?_⟩
    have hp := fault_pos h1
    have e : (0 : Rat) = val (0, 1) := by rw [val_whole]; rfl
    rw [e] at h2
    have := (cross (a := (0, 1)) (by decide) hp).1 h2
    simpa using this
  refine ⟨hi.lr, hi.ld, fun l hl j => ?_, fun f hf hd => ?_, hsr, bst, hb, ?_, hne, ?_⟩
  · obtain ⟨h1, h2, _, _, h5⟩ := linkSum_right hg hi hD' hl j
    exact ⟨h1, Int.le_trans (Int.le_of_dvd (by have := hi.hD; omega) h2.2.2) hD', h5⟩
  · have ho := hi.over f hf hd
    obtain ⟨l, hl, hfl, hall, hs, _⟩ := hi.neck f hf hd
    have h2 := le_sumQ (x := xQ rate) (fun g hgl => Rat.le_of_lt (hi.over g (usN_lt hgl) (hall g hgl)).2.1) hfl
    have h3 := (capQ_bd hg.1 hl).2
    have h4 : xQ rate f = val (rP rate f) := rfl
    exact over_fault ho.1 hi.hD (by omega) (by rw [← h4]; exact Rat.le_of_lt ho.2.1) (by rw [← h4]; grind)
  · obtain ⟨⟨l, hl, hs⟩, _⟩ := best_some (fun l s h => by
      obtain ⟨_, _, _, _, _, ho⟩ := share_some (fun f a b => (hi.over f a b).1) h
      exact ho.1) _ _ hb
    exact (hsr l bst hl hs).1
  · have hfs := freeN_step (nar := narOf (shareOf caps paths rate done) caps.length) hi.ld
    have hlen : 0 < (roundOf paths done (narOf (shareOf caps paths rate done) caps.length)).length := List.length_pos_iff.2 hne
    cases k with
    | zero => omega
    | succ k =>
      refine ⟨k, _, _, hi', ?_, ?_, ?_⟩
      · have e1 : (6 : Int) ^ (freeN paths (setDone done (roundOf paths done (narOf (shareOf caps paths rate done) caps.length))) + 1) ≤ 6 ^ freeN paths done := six (by omega)
        have p0 : (0 : Int) ≤ 6 ^ freeN paths (setDone done (roundOf paths done (narOf (shareOf caps paths rate done) caps.length))) := Int.le_of_lt (Int.pow_pos (by decide))
        have h6 : (kk : Int) * 6 ^ freeN paths (setDone done (roundOf paths done (narOf (shareOf caps paths rate done) caps.length))) ≤ 6 * 6 ^ freeN paths (setDone done (roundOf paths done (narOf (shareOf caps paths rate done) caps.length))) := Int.mul_le_mul_of_nonneg_right (by omega) p0
        rw [Int.pow_succ] at e1
        have e3 : D * ((kk : Int) * 6 ^ freeN paths (setDone done (roundOf paths done (narOf (shareOf caps paths rate done) caps.length)))) ≤ D * 6 ^ freeN paths done := Int.mul_le_mul_of_nonneg_left (by omega) (by have := hi.hD; omega)
        rw [← narAt_eq, Int.mul_assoc]
        omega
      · rw [← narAt_eq]; omega
      · rw [he, fillFrom, if_neg hnall, hb]
        simp only [narAt_eq, List.append_assoc, List.singleton_append]
theorem owns_keep {w w' : World} {base : Nat} {e : TypeId} {size n : Nat} {v : Value} {xs : List Value} (hk : ∀ g, base ≤ g → g < w.heap.size → w'.heap[g]? = w.heap[g]?) (h : w.ownsRow base e size v n xs) : w'.ownsRow base e size v n xs := by
  refine ⟨h.1, ?_⟩
  rcases h.2 with h' | ⟨g', cap', cur, h', hg, hc, r⟩
  · exact .inl h'
  · have hlt : g' < w.heap.size := (Array.getElem?_eq_some_iff.1 hc).1
    exact .inr ⟨g', cap', cur, h', hg, by rw [hk g' hg hlt]; exact hc, r⟩
theorem range_dB (l : List Bool) : (List.range l.length).map (dB l) = l := by
  apply List.ext_getElem
  · simp
  · intro i h1 h2
    simp [dB, List.getD, List.getElem?_eq_getElem h2]
theorem range_rP (l : List (Int × Int)) : (List.range l.length).map (rP l) = l := by
  apply List.ext_getElem
  · simp
  · intro i h1 h2
    simp [rP, List.getD, List.getElem?_eq_getElem h2]
theorem setDone_nil (done : List Bool) : setDone done [] = done := by
  unfold setDone
  simp only [List.contains_nil, Bool.false_or]
  exact range_dB done
theorem setRate_nil (rate : List (Int × Int)) (b : Int × Int) : setRate rate [] b = rate := by
  unfold setRate
  simp only [List.contains_nil, Bool.false_eq_true, if_false]
  exact range_rP rate
theorem mem_take_succ {rd : List Int} {i : Nat} (hi : i < rd.length) (f : Int) : f ∈ rd.take (i + 1) ↔ f ∈ rd.take i ∨ f = rd.getD i 0 := by
  rw [take_snoc rd i hi 0, List.mem_append]
  simp
theorem setDone_step {done : List Bool} {rd : List Int} {i m : Nat} (hi : i < rd.length) (hm : rd.getD i 0 = m) (hl : m < done.length) : setDone done (rd.take (i + 1)) = (setDone done (rd.take i)).set m true := by
  apply List.ext_getElem
  · simp [setDone]
  · intro k h1 h2
    have hk : k < done.length := by simpa [setDone] using h1
    simp only [setDone, List.getElem_map, List.getElem_range, List.getElem_set, List.contains_iff_mem]
    by_cases e : m = k
    · subst e
      rw [if_pos rfl]
      have : ((m : Nat) : Int) ∈ rd.take (i + 1) := (mem_take_succ hi _).2 (.inr hm.symm)
      simp [this]
    · rw [if_neg e]
      congr 1
      rw [Bool.eq_iff_iff, List.contains_iff_mem, List.contains_iff_mem, mem_take_succ hi, hm]
      constructor
      · rintro (h | h)
        · exact h
        · omega
      · exact .inl
theorem setRate_step {rate : List (Int × Int)} {rd : List Int} {b : Int × Int} {i m : Nat} (hi : i < rd.length) (hm : rd.getD i 0 = m) (hl : m < rate.length) : setRate rate (rd.take (i + 1)) b = (setRate rate (rd.take i) b).set m b := by
  apply List.ext_getElem
  · simp [setRate]
  · intro k h1 h2
    have hk : k < rate.length := by simpa [setRate] using h1
    simp only [setRate, List.getElem_map, List.getElem_range, List.getElem_set]
    by_cases e : m = k
    · subst e
      rw [if_pos rfl, if_pos]
      rw [List.contains_iff_mem]
      exact (mem_take_succ hi _).2 (.inr hm.symm)
    · rw [if_neg e]
      have : (rd.take (i + 1)).contains ((k : Nat) : Int) = (rd.take i).contains ((k : Nat) : Int) := by
        rw [Bool.eq_iff_iff, List.contains_iff_mem, List.contains_iff_mem, mem_take_succ hi, hm]
        constructor
        · rintro (h | h)
          · exact h
          · omega
        · exact .inl
      rw [this]
theorem flat_set : ∀ (l : List (Int × Int)) (m : Nat) (a : Int × Int), flat (l.set m a) = ((flat l).set (m * 2) (.int .i64 a.1)).set (m * 2 + 1) (.int .i64 a.2) := by
  intro l
  induction l with
  | nil => intro m a; simp [flat]
  | cons b l ih =>
    intro m a
    cases m with
    | zero => simp [flat]
    | succ m =>
      rw [List.set_cons_succ, flat, ih, show (m + 1) * 2 = m * 2 + 1 + 1 by omega]
      simp [flat]
theorem dB_map (g : Nat → Bool) {n x : Nat} (h : x < n) : dB ((List.range n).map g) x = g x := by
  simp [dB, List.getD, List.getElem?_map, List.getElem?_range h]
theorem any_take (p : List Int) (g : Int → Bool) (i : Nat) (h : i < p.length) : (p.take (i + 1)).any g = ((p.take i).any g || g (p.getD i 0)) := by
  rw [take_snoc p i h 0, List.any_append]
  simp
theorem RowAt.keep {w w' : World} {g : Nat} {T : TypeId} {xs : List Value} (hk : w'.heap[g]? = w.heap[g]?) (h : RowAt w g T xs) : RowAt w' g T xs := by
  unfold RowAt
  rw [hk]; exact h
theorem best_mem {sh : Nat → Option (Int × Int)} : ∀ (n : Nat) (b : Int × Int), bestOf sh n = some b → ∃ l, l < n ∧ sh l = some b := by
  intro n
  induction n with
  | zero => intro b h; simp [bestOf] at h
  | succ n ih =>
    intro b h
    unfold bestOf at h
    cases hs : sh n with
    | none => rw [hs] at h; obtain ⟨l, hl, hb⟩ := ih b h; exact ⟨l, by omega, hb⟩
    | some s =>
      rw [hs] at h
      cases hb : bestOf sh n with
      | none => rw [hb] at h; obtain rfl := Option.some.inj h; exact ⟨n, by omega, hs⟩
      | some b0 =>
        rw [hb] at h
        simp only at h
        split at h
        · obtain rfl := Option.some.inj h; exact ⟨n, by omega, hs⟩
        · obtain rfl := Option.some.inj h; obtain ⟨l, hl, hb'⟩ := ih b0 hb; exact ⟨l, by omega, hb'⟩
theorem nar_new {sh : Nat → Option (Int × Int)} {n l : Nat} (h : ∀ i, narAt sh (l + 1) i = decide (i = l)) : (List.range n).map (narAt sh (l + 1)) = (List.replicate n false).set l true := by
  apply List.ext_getElem
  · simp
  · intro i h1 h2
    simp only [List.getElem_map, List.getElem_range, List.getElem_set, List.getElem_replicate, h]
    by_cases e : i = l
    · subst e; simp
    · have : ¬ l = i := fun x => e x.symm
      simp [e, this]
theorem nar_same {sh : Nat → Option (Int × Int)} {n l : Nat} (h : ∀ i, narAt sh (l + 1) i = (narAt sh l i || decide (i = l))) : (List.range n).map (narAt sh (l + 1)) = ((List.range n).map (narAt sh l)).set l true := by
  apply List.ext_getElem
  · simp
  · intro i h1 h2
    simp only [List.getElem_map, List.getElem_range, List.getElem_set, h]
    by_cases e : i = l
    · subst e; simp
    · have : ¬ l = i := fun x => e x.symm
      simp [e, this]
theorem boolsV_set (l : List Bool) (i : Nat) (b : Bool) : boolsV (l.set i b) = (boolsV l).set i (.bool b) := by simp [boolsV, List.map_set]
theorem RowAt.set2 {w : World} {g : Nat} {T : TypeId} {a b : Value} (h : RowAt w g T [a, b]) (x y : Value) : RowAt ((w.setCell ⟨g, 0, none⟩ x).setCell ⟨g, 1, none⟩ y) g T [x, y] := by
  have := (h.set 0 x).set 1 y
  simpa using this
theorem fillAt_acc {caps : List Int} {paths : List (List Int)} {rate : List (Int × Int)} {done : List Bool} {acc : List (List Int)} (hg : Good caps paths) (h : FillAt caps paths rate done acc) : acc.length ≤ paths.length := by
  obtain ⟨k, b, D, _, _, _, he⟩ := h
  have := fill_rounds_le hg
  rw [he] at this
  simp only [List.length_append] at this
  omega
/-- one round more -/
theorem mem_append {gr gd : Nat} {wr w13 : World} {v6 v' v16 : Value} {o : Obj} {rate' : List (Int × Int)} {done' : List Bool} {acc : List (List Int)} {rd : List Int} {vs : List Value} (hrt : RowAt wr gr 96 (flat rate')) (hdn : RowAt wr gd 4 (boolsV done')) (hgr : gr < gd)
    (hv : ∀ i, i < acc.length → IntsAt (fun b => gd < b ∧ v6.ownBlock ≠ some b) wr (vs.getD i undef) (acc.getD i [])) (hnew : IntsAt (fun b => gd < b ∧ v6.ownBlock ≠ some b) wr v16 rd) (hvs : vs.length = acc.length)
    (hown' : w13.ownsRow (gd + 1) 33 1 v' (acc.length + 1) (vs ++ [v16])) (hgrow : (wr.alloc o).grownBy w13 v6.ownBlock) (hat : v'.ownBlock = v6.ownBlock ∨ v'.ownBlock = some (wr.alloc o).heap.size) (hb : Below (gd + 1) wr w13) :
    FillMem gr gd w13 v' rate' done' (acc ++ [rd]) := by
  refine ⟨hrt.later hb (by omega), hdn.later hb (by omega), vs ++ [v16], by simpa using hown', ?_⟩
  have hkeep : ∀ b, (gd < b ∧ v6.ownBlock ≠ some b) → b < wr.heap.size → w13.heap[b]? = wr.heap[b]? := by
    intro b hb' hlt
    have h1 := hgrow.block b (by simp; omega) (fun e => hb'.2 e.symm)
    rw [h1]
    exact ((Below.refl wr.heap.size wr).alloc (Nat.le_refl _) o).block b hlt
  have hQ : ∀ b, (gd < b ∧ v6.ownBlock ≠ some b) → b < wr.heap.size → (gd < b ∧ v'.ownBlock ≠ some b) := by
    intro b hb' hlt
    refine ⟨hb'.1, ?_⟩
    rcases hat with h | h
    · rw [h]; exact hb'.2
    · rw [h]
      simp
      omega
  exact ints_snoc hvs (fun i hi => (hv i hi).keep hkeep hQ) (hnew.keep hkeep hQ)
theorem flat_cells {rate : List (Int × Int)} {m : Nat} (h : m < rate.length) : (flat rate)[m * 2]? = some (.int .i64 (rP rate m).1) ∧ (flat rate)[m * 2 + 1]? = some (.int .i64 (rP rate m).2) := flat_at rate m h
theorem bools_cell {done : List Bool} {m : Nat} (h : m < done.length) : (boolsV done)[m]? = some (.bool (dB done m)) := by
  simp [boolsV, dB, List.getD, List.getElem?_eq_getElem h]

end Fl
end Go.Proofs.YtdldgefahgojaajDoor

/- The landed fill's own lists: the links of a least share, who is free, flow by flow. No Go in it but what FlMem brings. -/
namespace Go.Proofs.YtdldgefahgojaajDoor
namespace Fl
open Go.RowKit Fr Ns Ld
set_option linter.unusedSimpArgs false
set_option linter.unusedVariables false

/-- the links of the least share among the first n, rising -/
def linksTo (sh : Nat → Option (Int × Int)) (n : Nat) : List Int := ((List.range n).filter (narAt sh n)).map (fun l : Nat => (l : Int))
theorem linksTo_length (sh : Nat → Option (Int × Int)) (n : Nat) : (linksTo sh n).length ≤ n := by
  unfold linksTo
  rw [List.length_map]
  exact Nat.le_trans (List.length_filter_le _ _) (by simp)
theorem links_keep {sh : Nat → Option (Int × Int)} {n : Nat} (h : ∀ l, narAt sh (n + 1) l = narAt sh n l) : linksTo sh (n + 1) = linksTo sh n := by
  unfold linksTo
  have z : narAt sh n n = false := by simp [narAt]
  rw [show narAt sh (n + 1) = narAt sh n from funext h, List.range_succ, List.filter_append, List.map_append]
  simp [List.filter_cons, z]
theorem links_new {sh : Nat → Option (Int × Int)} {n : Nat} (h : ∀ l, narAt sh (n + 1) l = decide (l = n)) : linksTo sh (n + 1) = [(n : Int)] := by
  unfold linksTo
  have e : (List.range n).filter (fun l => decide (l = n)) = [] := List.filter_eq_nil_iff.2 (fun a ha => by have := List.mem_range.1 ha; simp; omega)
  rw [show narAt sh (n + 1) = (fun l => decide (l = n)) from funext h, List.range_succ, List.filter_append, e]
  simp [List.filter_cons]
theorem links_same {sh : Nat → Option (Int × Int)} {n : Nat} (h : ∀ l, narAt sh (n + 1) l = (narAt sh n l || decide (l = n))) : linksTo sh (n + 1) = linksTo sh n ++ [(n : Int)] := by
  unfold linksTo
  have e : (List.range n).filter (fun l => narAt sh n l || decide (l = n)) = (List.range n).filter (narAt sh n) := List.filter_congr (fun a ha => by
    have := List.mem_range.1 ha
    have hne : decide (a = n) = false := decide_eq_false (by omega)
    rw [hne, Bool.or_false])
  rw [show narAt sh (n + 1) = (fun l => narAt sh n l || decide (l = n)) from funext h, List.range_succ, List.filter_append, e]
  simp [List.filter_cons]
theorem mem_links {sh : Nat → Option (Int × Int)} {n : Nat} {x : Int} : x ∈ linksTo sh n ↔ ∃ l : Nat, x = l ∧ l < n ∧ narAt sh n l = true := by
  unfold linksTo
  rw [List.mem_map]
  constructor
  · rintro ⟨l, hl, rfl⟩
    rw [List.mem_filter, List.mem_range] at hl
    exact ⟨l, rfl, hl.1, hl.2⟩
  · rintro ⟨l, rfl, h1, h2⟩
    exact ⟨l, List.mem_filter.2 ⟨List.mem_range.2 h1, h2⟩, rfl⟩
theorem links_some {sh : Nat → Option (Int × Int)} {n : Nat} {b : Int × Int} (h : bestOf sh n = some b) : 0 < (linksTo sh n).length := by
  obtain ⟨l, hl, hs⟩ := best_mem n b h
  have : (l : Int) ∈ linksTo sh n := mem_links.2 ⟨l, rfl, hl, by simp [narAt, hl, hs, h]⟩
  exact List.length_pos_of_mem this
theorem links_none {sh : Nat → Option (Int × Int)} {n : Nat} (h : bestOf sh n = none) : linksTo sh n = [] := by
  rw [List.eq_nil_iff_forall_not_mem]
  intro x hx
  obtain ⟨l, _, hl, hn⟩ := mem_links.1 hx
  have := best_none n h l hl
  simp [narAt, this] at hn
theorem in_links {sh : Nat → Option (Int × Int)} {n : Nat} {x : Int} (hx : 0 ≤ x) : inB (linksTo sh n) x = narAt sh n x.toNat := by
  rw [Bool.eq_iff_iff]
  have : inB (linksTo sh n) x = true ↔ x ∈ linksTo sh n := by simp [inB]
  rw [this, mem_links]
  constructor
  · rintro ⟨l, rfl, _, h⟩; simpa using h
  · intro h
    have hl : x.toNat < n := by
      apply Classical.byContradiction
      intro hn
      simp [narAt, hn] at h
    exact ⟨x.toNat, by omega, hl, h⟩
theorem any_links {sh : Nat → Option (Int × Int)} {n : Nat} {p : List Int} (hp : ∀ x ∈ p, 0 ≤ x) : p.any (fun x => inB (linksTo sh n) x) = p.any (fun x => narAt sh n x.toNat) := by
  rw [Bool.eq_iff_iff, List.any_eq_true, List.any_eq_true]
  constructor
  · rintro ⟨x, hx, h⟩; exact ⟨x, hx, by rw [← in_links (hp x hx)]; exact h⟩
  · rintro ⟨x, hx, h⟩; exact ⟨x, hx, by rw [in_links (hp x hx)]; exact h⟩

/-! ### flow by flow -/
theorem usersFrom_app (link : Int) : ∀ (a b : List (List Int)) (i : Nat), usersFrom link i (a ++ b) = usersFrom link i a ++ usersFrom link (i + a.length) b := by
  intro a
  induction a with
  | nil => intro b i; simp [usersFrom]
  | cons p r ih =>
    intro b i
    simp only [List.cons_append, usersFrom, ih]
    have e : i + 1 + r.length = i + (p :: r).length := by simp; omega
    rw [e]
    split <;> simp
theorem users_take (paths : List (List Int)) (l : Int) (k : Nat) : users (paths.take k) l = (users paths l).take (users (paths.take k) l).length := by
  have e : users paths l = users (paths.take k) l ++ usersFrom l (0 + (paths.take k).length) (paths.drop k) := by
    unfold users
    rw [← usersFrom_app, List.take_append_drop]
  rw [e, List.take_left]
/-- what a link takes, less the rates of the first k flows that are not free, and how many of these are -/
def linkTo (caps : List Int) (paths : List (List Int)) (rate : List (Int × Int)) (done : List Bool) (l k : Nat) : (Int × Int) × Nat := linkSum rate done (users (paths.take k) l) (caps.getD l 0, 1) 0
theorem linkTo_zero (caps : List Int) (paths : List (List Int)) (rate : List (Int × Int)) (done : List Bool) (l : Nat) : linkTo caps paths rate done l 0 = ((caps.getD l 0, 1), 0) := rfl
theorem linkTo_step {caps : List Int} {paths : List (List Int)} {rate : List (Int × Int)} {done : List Bool} {l k : Nat} (hk : k < paths.length) :
    linkTo caps paths rate done l (k + 1) = if inB (paths.getD k []) l = true then (if dB done k = true then (sumP (linkTo caps paths rate done l k).1 (negP (rP rate k)), (linkTo caps paths rate done l k).2) else ((linkTo caps paths rate done l k).1, (linkTo caps paths rate done l k).2 + 1)) else linkTo caps paths rate done l k := by
  unfold linkTo
  rw [users_step paths l k hk, linkSum_append]
  by_cases h : inB (paths.getD k []) l = true
  · rw [if_pos h, if_pos h]
    simp only [linkSum, Int.toNat_natCast]
  · rw [if_neg h, if_neg h]
    simp only [linkSum]
theorem linkTo_all (caps : List Int) (paths : List (List Int)) (rate : List (Int × Int)) (done : List Bool) (l : Nat) : linkTo caps paths rate done l paths.length = linkSum rate done (users paths l) (caps.getD l 0, 1) 0 := by
  unfold linkTo
  rw [List.take_of_length_le (Nat.le_refl _)]
theorem linkTo_part (caps : List Int) (paths : List (List Int)) (rate : List (Int × Int)) (done : List Bool) (l k : Nat) : ∃ j, j ≤ paths.length ∧ linkTo caps paths rate done l k = linkSum rate done ((users paths l).take j) (caps.getD l 0, 1) 0 := by
  refine ⟨(users (paths.take k) l).length, ?_, ?_⟩
  · have := users_length (l : Int) 0 (paths.take k)
    have h2 : (paths.take k).length ≤ paths.length := by rw [List.length_take]; omega
    unfold users
    omega
  · unfold linkTo
    rw [← users_take]
theorem linkTo_free {caps : List Int} {paths : List (List Int)} {rate : List (Int × Int)} {done : List Bool} {l : Nat} : ∀ k, k ≤ paths.length → (linkTo caps paths rate done l k).2 ≤ k := by
  intro k
  induction k with
  | zero => intro _; rw [linkTo_zero]; exact Nat.le_refl 0
  | succ k ih =>
    intro hk
    have := ih (by omega)
    rw [linkTo_step (by omega)]
    split
    · split <;> simp <;> omega
    · omega

/-! ### who is free -/
def freeL (done : List Bool) : List Bool := done.map (fun b => !b)
theorem freeL_length (done : List Bool) : (freeL done).length = done.length := by simp [freeL]
theorem free_cell {done : List Bool} {m : Nat} (h : m < done.length) : (boolsV (freeL done))[m]? = some (.bool (!dB done m)) := by
  simp [boolsV, freeL, dB, List.getD, List.getElem?_eq_getElem h]
theorem freeL_start (n : Nat) : freeL (List.replicate n false) = List.replicate n true := by simp [freeL]
theorem freeL_set (done : List Bool) (m : Nat) : freeL (done.set m true) = (freeL done).set m false := by simp [freeL, List.map_set]
theorem free_any {paths : List (List Int)} {done : List Bool} (hl : done.length = paths.length) : (freeL done).any id = decide (freeN paths done ≠ 0) := by
  rw [Bool.eq_iff_iff, List.any_eq_true, decide_eq_true_eq]
  unfold freeN
  rw [Ne, List.countP_eq_zero]
  constructor
  · rintro ⟨b, hb, h⟩ hn
    obtain ⟨i, hi, rfl⟩ := List.mem_iff_getElem.1 hb
    rw [freeL_length] at hi
    have := hn i (List.mem_range.2 (by omega))
    simp [freeL] at h
    simp [dB, List.getD, List.getElem?_eq_getElem hi, h] at this
  · intro hn
    apply Classical.byContradiction
    intro hc
    refine hn (fun f hf => ?_)
    have hf' := List.mem_range.1 hf
    intro hd
    refine hc ⟨true, ?_, rfl⟩
    have h1 : done[f]'(by omega) = false := by
      simpa [dB, List.getD, List.getElem?_eq_getElem (show f < done.length by omega)] using hd
    unfold freeL
    rw [List.mem_map]
    exact ⟨false, by rw [← h1]; exact List.getElem_mem _, rfl⟩
theorem setDone_snoc {done : List Bool} {rd : List Int} {m : Nat} (hl : m < done.length) : setDone done (rd ++ [(m : Int)]) = (setDone done rd).set m true := by
  have h := setDone_step (done := done) (rd := rd ++ [(m : Int)]) (i := rd.length) (m := m) (by simp) (by simp [List.getD]) hl
  rw [List.take_left] at h
  rw [← h, List.take_of_length_le (by simp)]
theorem setRate_snoc {rate : List (Int × Int)} {rd : List Int} {b : Int × Int} {m : Nat} (hl : m < rate.length) : setRate rate (rd ++ [(m : Int)]) b = (setRate rate rd b).set m b := by
  have h := setRate_step (rate := rate) (rd := rd ++ [(m : Int)]) (b := b) (i := rd.length) (m := m) (by simp) (by simp [List.getD]) hl
  rw [List.take_left] at h
  rw [← h, List.take_of_length_le (by simp)]
theorem roundTo_lt {paths : List (List Int)} {done : List Bool} {nar : Nat → Bool} {k : Nat} {x : Int} (h : x ∈ roundTo paths done nar k) : x < k := by
  unfold roundTo at h
  rw [List.mem_map] at h
  obtain ⟨a, ha, rfl⟩ := h
  rw [List.mem_filter, List.mem_range] at ha
  omega
theorem free_yet {paths : List (List Int)} {done : List Bool} {nar : Nat → Bool} {k : Nat} (hk : k < done.length) : dB (setDone done (roundTo paths done nar k)) k = dB done k := by
  rw [dB_setDone hk]
  have : ¬ ((k : Int) ∈ roundTo paths done nar k) := fun h => by have := roundTo_lt h; omega
  simp [this]
theorem setDone_length (done : List Bool) (rd : List Int) : (setDone done rd).length = done.length := by simp [setDone]
theorem setRate_length (rate : List (Int × Int)) (rd : List Int) (b : Int × Int) : (setRate rate rd b).length = rate.length := by simp [setRate]
end Fl
end Go.Proofs.YtdldgefahgojaajDoor

/- More plain facts on loads: a flow of rate 0 more, what is left and what goes over together, rates of 0. No Go in it. -/
namespace Go.Proofs.YtdldgefahgojaajDoor.Ld
open Fr Ns
set_option linter.unusedSimpArgs false

theorem users_snoc (paths : List (List Int)) (path : List Int) (link : Int) : users (paths ++ [path]) link = users paths link ++ (if inB path link then [(paths.length : Int)] else []) := by
  unfold users
  rw [usersFrom_snoc, Nat.zero_add]
theorem sum_zero {t : Int × Int} (h : faultP t = 0) : sumP t (0, 1) = t := by
  have := low_of_fault h
  unfold sumP
  simp only [Int.mul_one, Int.zero_mul, Int.add_zero]
  exact Prod.ext this.1 this.2
theorem getD_snoc_lt (r : List (Int × Int)) (z d : Int × Int) (k : Nat) (h : k < r.length) : (r ++ [z]).getD k d = r.getD k d := by
  simp [List.getD, List.getElem?_append_left h]
theorem addUp_more (r : List (Int × Int)) (z : Int × Int) : ∀ (us : List Int) (s : Int × Int), (∀ u ∈ us, u.toNat < r.length) → addUp (r ++ [z]) us s = addUp r us s := by
  intro us
  induction us with
  | nil => intro s _; rfl
  | cons u us ih =>
    intro s h
    simp only [addUp]
    rw [getD_snoc_lt r z _ _ (h u (by simp)), ih _ (fun x hx => h x (by simp [hx]))]
theorem loadOf_more {paths : List (List Int)} {r : List (Int × Int)} (hr : ratesE r = 0) (hl : r.length = paths.length) (path : List Int) (l : Nat) : loadOf (paths ++ [path]) (r ++ [(0, 1)]) l = loadOf paths r l := by
  have e : addUp (r ++ [(0, 1)]) (users paths l) (0, 1) = addUp r (users paths l) (0, 1) := addUp_more r _ _ _ (fun u hu => by have := users_mem hu; omega)
  unfold loadOf
  rw [users_snoc]
  split
  · rw [addUp_snoc, e]
    cases h : addUp r (users paths l) (0, 1) with
    | none => rfl
    | some t =>
      have ht := addUp_fault hr _ _ _ (by decide) h
      have hg : (r ++ [(0, 1)]).getD ((paths.length : Int).toNat) (0, 1) = (0, 1) := by
        rw [show ((paths.length : Int).toNat) = r.length by omega]
        simp [List.getD]
      simp only [Option.bind_some]
      rw [hg, sum_zero ht, if_pos (show mayP t = true from mayB_of_fault ht)]
  · rw [List.append_nil, e]
theorem load_more {caps : List Int} {paths : List (List Int)} {r : List (Int × Int)} {path : List Int} (h : loadE caps paths r = 0) (ha : Ns.addE caps paths path = 0) :
    loadE caps (paths ++ [path]) (r ++ [(0, 1)]) = 0 ∧ (∀ n, loadL (paths ++ [path]) (r ++ [(0, 1)]) n = loadL paths r n) ∧ fitsB caps (paths ++ [path]) (r ++ [(0, 1)]) = fitsB caps paths r := by
  obtain ⟨h1, h2, h3, h4⟩ := loadE_0 h
  have hm := netE_add ha
  have hL : ∀ n, loadL (paths ++ [path]) (r ++ [(0, 1)]) n = loadL paths r n := fun n => by
    unfold loadL
    simp only [loadOf_more h3 h2]
  refine ⟨loadE_mk hm.2.2.2 (by simp [h2]) ?_ ?_, hL, ?_⟩
  · rw [ratesE_iff] at h3 ⊢
    intro a hA
    rcases List.mem_append.1 hA with hA | hA
    · exact h3 a hA
    · simp at hA; subst hA; decide
  · unfold allOk at h4 ⊢
    simp only [loadOf_more h3 h2]
    exact h4
  · unfold fitsB
    rw [hL]
    simp

/-- what goes over, and what is left, is all -/
theorem left_sum {c : Int} {x : Int × Int} (hx : faultP x = 0) : lowT (x.1 * (leftOf c x).2 + (leftOf c x).1 * x.2) (x.2 * (leftOf c x).2) = c ∧ lowB (x.1 * (leftOf c x).2 + (leftOf c x).1 * x.2) (x.2 * (leftOf c x).2) = 1 := by
  obtain ⟨b1, _, _, _⟩ := fault_0 hx
  have hb : 1 ≤ (1 : Int) * x.2 := by omega
  have hp := lowB_pos (t := c * x.2 + -x.1 * 1) hb
  have hrat := low_ratio (c * x.2 + -x.1 * 1) (1 * x.2)
  have e1 : (leftOf c x).1 = lowT (c * x.2 + -x.1 * 1) (1 * x.2) := rfl
  have e2 : (leftOf c x).2 = lowB (c * x.2 + -x.1 * 1) (1 * x.2) := rfl
  rw [← e1, ← e2] at hrat
  rw [← e2] at hp
  generalize (leftOf c x).1 = p at *
  generalize (leftOf c x).2 = q at *
  have hq : 1 ≤ x.2 * q := Int.mul_le_mul b1 hp (by decide) (by omega)
  have key : (x.1 * q + p * x.2) * 1 = c * (x.2 * q) := by
    have h' : p * x.2 = (c * x.2 + -x.1) * q := by simpa using hrat
    rw [Int.mul_one, h', Int.add_mul, Int.neg_mul, Int.mul_assoc]
    omega
  have := low_of_ratio hq (by decide : (1 : Int) ≤ 1) key
  have hc : gd c 1 = 1 := by unfold gd; simp
  have hs := low_self hc
  exact ⟨this.1.trans hs.1, this.2.trans hs.2⟩
theorem left_sign {c : Int} {x : Int × Int} (hx : faultP x = 0) (h : x.1 ≤ c * x.2) : 0 ≤ (leftOf c x).1 := by
  obtain ⟨b1, _, _, _⟩ := fault_0 hx
  show 0 ≤ lowT (c * x.2 + -x.1 * 1) (1 * x.2)
  unfold lowT
  have hb : 1 ≤ (1 : Int) * x.2 := by omega
  exact Int.ediv_nonneg (by omega) (by have := gd_pos (t := c * x.2 + -x.1 * 1) hb; omega)

theorem capsFrom_ge : ∀ {l : List Int} {x : Int}, capsFrom l = 0 → x ∈ l → 1 ≤ x := by
  intro l
  induction l with
  | nil => intro x _ h; simp at h
  | cons y r ih =>
    intro x h hm
    unfold capsFrom at h
    split at h
    · omega
    · rcases List.mem_cons.1 hm with rfl | hm
      · omega
      · exact ih h hm
theorem capsFrom_bounds : ∀ {l : List Int} {x : Int}, capsFrom l = 0 → x ∈ l → 1 ≤ x ∧ x ≤ 1000 := by
  intro l
  induction l with
  | nil => intro x _ h; simp at h
  | cons y r ih =>
    intro x h hm
    unfold capsFrom at h
    split at h
    · omega
    · rcases List.mem_cons.1 hm with rfl | hm
      · omega
      · exact ih h hm
theorem addUp_zeros (n : Nat) : ∀ us : List Int, addUp (List.replicate n (0, 1)) us (0, 1) = some (0, 1) := by
  intro us
  induction us with
  | nil => rfl
  | cons u us ih =>
    have hg : (List.replicate n ((0 : Int), (1 : Int))).getD u.toNat (0, 1) = (0, 1) := by
      simp only [List.getD, List.getElem?_replicate]
      split <;> rfl
    have hs : sumP (0, 1) (0, 1) = (0, 1) := sum_zero (by decide)
    simp only [addUp]
    rw [hg, hs, if_pos (by decide)]
    exact ih
theorem zeros {caps : List Int} {paths : List (List Int)} :
    loadE caps paths (List.replicate paths.length (0, 1)) = netE caps paths ∧ (∀ n, loadL paths (List.replicate paths.length (0, 1)) n = List.replicate n (0, 1)) ∧ (netE caps paths = 0 → fitsB caps paths (List.replicate paths.length (0, 1)) = true) := by
  have hO : ∀ l, loadOf paths (List.replicate paths.length (0, 1)) l = some (0, 1) := fun l => addUp_zeros _ _
  have hL : ∀ n, loadL paths (List.replicate paths.length (0, 1)) n = List.replicate n (0, 1) := fun n => by
    unfold loadL
    apply List.ext_getElem
    · simp
    · intro i h1 h2
      simp [hO]
  refine ⟨?_, hL, fun h => ?_⟩
  · by_cases h : netE caps paths = 0
    · rw [h]
      refine loadE_mk h (by simp) ((ratesE_iff _).2 (fun a ha => ?_)) ?_
      · rw [List.eq_of_mem_replicate ha]; decide
      · unfold allOk
        simp [hO]
    · rw [loadE, if_neg h]
  · unfold fitsB
    rw [hL]
    simp only [Bool.and_eq_true, List.all_eq_true, List.mem_range, decide_eq_true_eq]
    refine ⟨fun a ha => by rw [List.eq_of_mem_replicate ha]; decide, fun l hl => ?_⟩
    have hg : (List.replicate caps.length ((0 : Int), (1 : Int))).getD l (0, 1) = (0, 1) := by
      simp only [List.getD, List.getElem?_replicate]
      split <;> rfl
    rw [hg]
    have hb := (netE_0 h).2.2.2.2.1
    have hc : 1 ≤ caps.getD l 0 := capsFrom_ge (by
      have := netE_0 h
      rw [linksE, if_neg (by omega), if_neg (by omega)] at hb
      exact hb) (getD_mem caps l hl 0)
    simp only [Int.mul_one]
    omega
end Go.Proofs.YtdldgefahgojaajDoor.Ld

/- Loads, narrow places and fairness as the document says them, and as rational numbers: they are the same. No Go in it. -/
namespace Go.Proofs.YtdldgefahgojaajDoor.Fl
open Fr Ns Ld
set_option linter.unusedSimpArgs false

theorem pathFrom_bd' (L : Int) : ∀ (l seen : List Int), pathFrom L seen l = 0 → ∀ x ∈ l, 0 ≤ x ∧ x < L := by
  intro l
  induction l with
  | nil => intro _ _ x h; simp at h
  | cons y r ih =>
    intro seen h x hx
    unfold pathFrom at h
    split at h
    · omega
    · split at h
      · omega
      · rcases List.mem_cons.1 hx with rfl | hx
        · omega
        · exact ih _ h x hx
theorem good_of_net {caps : List Int} {paths : List (List Int)} (h : netE caps paths = 0) : Good caps paths := by
  have h0 := netE_0 h
  have hl := h0.2.2.2.2.1
  rw [linksE, if_neg (by omega), if_neg (by omega)] at hl
  refine ⟨fun c hc => capsFrom_bounds hl hc, fun p hp => ?_, h0.2.2.2.1, h0.2.2.1⟩
  have hpe := (pathsFrom_iff _ _).1 h0.2.2.2.2.2 p hp
  unfold pathE at hpe
  split at hpe
  · omega
  · rename_i hn
    exact ⟨fun e => hn (by rw [e]; rfl), fun x hx => pathFrom_bd' _ _ _ hpe x hx⟩

theorem rP_eq {r : List (Int × Int)} {u : Nat} (h : u < r.length) (d : Int × Int) : r.getD u d = rP r u := by
  simp [rP, List.getD, List.getElem?_eq_getElem h]
theorem addUp_val {r : List (Int × Int)} (hr : ∀ a ∈ r, 1 ≤ a.2) : ∀ (us : List Int) (s t : Int × Int), 1 ≤ s.2 → (∀ u ∈ us, u.toNat < r.length) → addUp r us s = some t → val t = val s + sumQ (xQ r) (us.map Int.toNat) := by
  intro us
  induction us with
  | nil => intro s t _ _ h; simp only [addUp, Option.some.injEq] at h; rw [h]; simp only [List.map_nil, sumQ]; grind
  | cons u us ih =>
    intro s t hs hu h
    simp only [addUp] at h
    have hul := hu u (by simp)
    have hra : 1 ≤ (rP r u.toNat).2 := by rw [← rP_eq hul (0, 0)]; exact hr _ (getD_mem r _ hul _)
    rw [rP_eq hul] at h
    split at h
    · have hp : 1 ≤ s.2 * (rP r u.toNat).2 := Int.mul_le_mul hs hra (by decide) (by omega)
      have := ih _ t (lowB_pos hp) (fun v hv => hu v (by simp [hv])) h
      rw [this, val_sum hs hra]
      simp only [List.map_cons, sumQ, xQ]
      grind
    · cases h
theorem users_lt {paths : List (List Int)} {l : Int} {u : Int} (h : u ∈ users paths l) : u.toNat < paths.length := by have := users_mem h; omega
theorem loadOf_val {paths : List (List Int)} {r : List (Int × Int)} {l : Nat} {s : Int × Int} (hl : r.length = paths.length) (hr : ratesE r = 0) (h : loadOf paths r l = some s) : val s = sumQ (xQ r) (usN paths l) := by
  have := addUp_val (fun a ha => fault_pos ((ratesE_iff r).1 hr a ha)) _ (0, 1) s (by decide) (fun u hu => by rw [hl]; exact users_lt hu) h
  rw [this, val_whole]
  have : (((0 : Int) : Int) : Rat) = 0 := rfl
  rw [this]
  unfold usN
  grind
/-- the load of a link, and its number -/
theorem load_at {caps : List Int} {paths : List (List Int)} {r : List (Int × Int)} (h : loadE caps paths r = 0) {l : Nat} (hl : l < caps.length) (d : Int × Int) : faultP ((loadL paths r caps.length).getD l d) = 0 ∧ val ((loadL paths r caps.length).getD l d) = sumQ (xQ r) (usN paths l) := by
  obtain ⟨h1, h2, h3, h4⟩ := loadE_0 h
  obtain ⟨s, hs⟩ := allOk_at h4 hl
  rw [loadL_getD _ _ _ _ hl, hs]
  exact ⟨loadOf_fault h3 hs, loadOf_val h2 h3 hs⟩
theorem val_nonneg {a : Int × Int} (ha : 1 ≤ a.2) : 0 ≤ val a ↔ 0 ≤ a.1 := by
  have e : (0 : Rat) = val (0, 1) := by rw [val_whole]; rfl
  rw [e, cross (a := (0, 1)) (by decide) ha]
  simp
theorem fits_iff {caps : List Int} {paths : List (List Int)} {r : List (Int × Int)} (h : loadE caps paths r = 0) : fitsB caps paths r = true ↔ FitsQ (usN paths) (capQ caps) caps.length paths.length (xQ r) := by
  obtain ⟨h1, h2, h3, h4⟩ := loadE_0 h
  have hp : ∀ f, f < paths.length → 1 ≤ (rP r f).2 := fun f hf => fault_pos ((ratesE_iff r).1 h3 _ (getD_mem r f (by omega) (0, 0)))
  unfold fitsB
  simp only [Bool.and_eq_true, List.all_eq_true, List.mem_range, decide_eq_true_eq]
  have key : ∀ l, l < caps.length → (((loadL paths r caps.length).getD l (0, 1)).1 ≤ caps.getD l 0 * ((loadL paths r caps.length).getD l (0, 1)).2 ↔ sumQ (xQ r) (usN paths l) ≤ capQ caps l) := by
    intro l hl
    obtain ⟨f1, f2⟩ := load_at h hl (0, 1)
    rw [← f2]
    have e : capQ caps l = val (caps.getD l 0, 1) := by rw [val_whole]; rfl
    rw [e, cross (b := (caps.getD l 0, 1)) (fault_pos f1) (Int.le_refl 1)]
    simp
  constructor
  · rintro ⟨ha, hb⟩
    refine ⟨fun f hf => (val_nonneg (hp f hf)).2 (ha _ (getD_mem r f (by omega) (0, 0))), fun l hl => (key l hl).1 (hb l hl)⟩
  · rintro ⟨ha, hb⟩
    refine ⟨fun a hm => ?_, fun l hl => (key l hl).2 (hb l hl)⟩
    obtain ⟨i, hi, rfl⟩ := List.mem_iff_getElem.1 hm
    have := (val_nonneg (hp i (by omega))).1 (ha i (by omega))
    simpa [rP, List.getD, List.getElem?_eq_getElem hi] using this

/-! ### narrow places -/
def fullB (caps : List Int) (paths : List (List Int)) (r : List (Int × Int)) (l : Nat) : Bool := decide (l < caps.length) && decide ((loadL paths r caps.length).getD l (0, 1) = (caps.getD l 0, 1))
def mostB (paths : List (List Int)) (r : List (Int × Int)) (f : Nat) (x : Int) : Bool := (users paths x).all fun u => decide (cmpI ((rP r u.toNat).1 * (rP r f).2) ((rP r f).1 * (rP r u.toNat).2) ≤ 0)
def neckOf (caps : List Int) (paths : List (List Int)) (r : List (Int × Int)) (f : Nat) : Int := ((paths.getD f []).find? fun x => fullB caps paths r x.toNat && mostB paths r f x).getD (-1)
def fairB (caps : List Int) (paths : List (List Int)) (r : List (Int × Int)) : Bool := fitsB caps paths r && (List.range paths.length).all fun f => decide (neckOf caps paths r f ≠ -1)

theorem cmp_le {a b : Int × Int} (ha : 1 ≤ a.2) (hb : 1 ≤ b.2) : cmpI (a.1 * b.2) (b.1 * a.2) ≤ 0 ↔ val a ≤ val b := by
  rw [cross ha hb]; unfold cmpI
  split
  · constructor <;> intro <;> omega
  · split
    · constructor <;> intro <;> omega
    · constructor <;> intro <;> omega
theorem full_iff {caps : List Int} {paths : List (List Int)} {r : List (Int × Int)} (h : loadE caps paths r = 0) {l : Nat} (hl : l < caps.length) : fullB caps paths r l = true ↔ sumQ (xQ r) (usN paths l) = capQ caps l := by
  obtain ⟨f1, f2⟩ := load_at h hl (0, 1)
  have hg := (good_of_net (loadE_0 h).1).1 _ (getD_mem caps l hl 0)
  have e : capQ caps l = val (caps.getD l 0, 1) := by rw [val_whole]; rfl
  have fw : faultP (caps.getD l 0, 1) = 0 := fault_of (mayB_iff.2 (by omega)) (low_self (show gd (caps.getD l 0) 1 = 1 by unfold gd; simp)).1 (low_self (show gd (caps.getD l 0) 1 = 1 by unfold gd; simp)).2
  unfold fullB
  simp only [Bool.and_eq_true, decide_eq_true_eq, hl, true_and]
  constructor
  · intro he
    rw [← f2, he, e]
  · intro he
    exact val_inj' f1 fw (by rw [f2, he, e])
theorem most_iff {caps : List Int} {paths : List (List Int)} {r : List (Int × Int)} (h : loadE caps paths r = 0) {f : Nat} (hf : f < paths.length) {x : Int} (hx : 0 ≤ x) : mostB paths r f x = true ↔ ∀ g ∈ usN paths x.toNat, xQ r g ≤ xQ r f := by
  obtain ⟨h1, h2, h3, h4⟩ := loadE_0 h
  have hp : ∀ f, f < paths.length → 1 ≤ (rP r f).2 := fun f hf => fault_pos ((ratesE_iff r).1 h3 _ (getD_mem r f (by omega) (0, 0)))
  have e : ((x.toNat : Nat) : Int) = x := by omega
  unfold mostB usN
  rw [e, List.all_eq_true]
  simp only [decide_eq_true_eq, List.mem_map]
  constructor
  · rintro hm g ⟨u, hu, rfl⟩
    exact (cmp_le (hp _ (users_lt hu)) (hp f hf)).1 (hm u hu)
  · intro hm u hu
    exact (cmp_le (hp _ (users_lt hu)) (hp f hf)).2 (hm _ ⟨u, hu, rfl⟩)
theorem neck_iff {caps : List Int} {paths : List (List Int)} {r : List (Int × Int)} (h : loadE caps paths r = 0) {f : Nat} (hf : f < paths.length) : neckOf caps paths r f ≠ -1 ↔ NeckQ (usN paths) (capQ caps) caps.length (xQ r) f := by
  have hg := good_of_net (loadE_0 h).1
  have hpath := hg.2.1 _ (getD_mem paths f hf [])
  unfold neckOf
  cases hfi : (paths.getD f []).find? fun x => fullB caps paths r x.toNat && mostB paths r f x with
  | none =>
    simp only [Option.getD_none, ne_eq, not_true_eq_false, false_iff]
    rintro ⟨l, hl, hfl, hs, hm⟩
    obtain ⟨_, hin⟩ := usN_iff.1 hfl
    rw [List.find?_eq_none] at hfi
    have hmem : (l : Int) ∈ paths.getD f [] := by simpa [inB] using hin
    refine hfi (l : Int) hmem ?_
    have e : ((l : Int)).toNat = l := by omega
    rw [Bool.and_eq_true, e]
    exact ⟨(full_iff h hl).2 hs, (most_iff h hf (by omega)).2 (by rw [e]; exact hm)⟩
  | some x =>
    have hx := List.mem_of_find?_eq_some hfi
    have hpx := List.find?_some hfi
    have hb := hpath.2 x hx
    simp only [Option.getD_some]
    rw [Bool.and_eq_true] at hpx
    constructor
    · intro _
      obtain ⟨t1, t2⟩ := toNat_lt hg hf hx
      exact ⟨x.toNat, t1, t2, (full_iff h t1).1 hpx.1, (most_iff h hf hb.1).1 hpx.2⟩
    · intro _; omega
theorem fair_iff {caps : List Int} {paths : List (List Int)} {r : List (Int × Int)} (h : loadE caps paths r = 0) : fairB caps paths r = true ↔ FitsQ (usN paths) (capQ caps) caps.length paths.length (xQ r) ∧ ∀ f, f < paths.length → NeckQ (usN paths) (capQ caps) caps.length (xQ r) f := by
  unfold fairB
  rw [Bool.and_eq_true, fits_iff h, List.all_eq_true]
  simp only [List.mem_range, decide_eq_true_eq]
  constructor
  · rintro ⟨h1, h2⟩; exact ⟨h1, fun f hf => (neck_iff h hf).1 (h2 f hf)⟩
  · rintro ⟨h1, h2⟩; exact ⟨h1, fun f hf => (neck_iff h hf).2 (h2 f hf)⟩

/-! ### rates that are fair can be loaded -/
theorem addUp_some {r : List (Int × Int)} {D : Int} (hD1 : 1 ≤ D) (hD2 : D ≤ 46656) : ∀ (us : List Int) (s : Int × Int), Over D s → 0 ≤ val s → (∀ u ∈ us, u.toNat < r.length ∧ Over D (rP r u.toNat) ∧ 0 ≤ xQ r u.toNat) → val s + sumQ (xQ r) (us.map Int.toNat) ≤ 1000 → ∃ t, addUp r us s = some t := by
  intro us
  induction us with
  | nil => intro s _ _ _ _; exact ⟨s, rfl⟩
  | cons u us ih =>
    intro s hs h0 hu hle
    obtain ⟨u1, u2, u3⟩ := hu u (by simp)
    have hsum := over_sum hs u2
    have hv := val_sum hs.1 u2.1
    have hnn : (0 : Rat) ≤ sumQ (xQ r) (us.map Int.toNat) := by
      have := sumQ_le (x := fun _ => 0) (y := xQ r) (l := us.map Int.toNat) (fun g hg => by
        obtain ⟨v, hv, rfl⟩ := List.mem_map.1 hg
        exact (hu v (by simp [hv])).2.2)
      have e : ∀ l : List Nat, sumQ (fun _ => 0) l = 0 := by
        intro l
        induction l with
        | nil => rfl
        | cons a r ih => simp only [sumQ, ih]; grind
      rw [e] at this
      exact this
    simp only [List.map_cons, sumQ] at hle
    have hx : xQ r u.toNat = val (rP r u.toNat) := rfl
    have hf : faultP (sumP s (rP r u.toNat)) = 0 := over_fault hsum hD1 (by omega) (by grind) (by grind)
    simp only [addUp]
    rw [rP_eq u1, if_pos (show mayP (sumP s (rP r u.toNat)) = true from mayB_of_fault hf)]
    exact ih _ hsum (by grind) (fun v hv => hu v (by simp [hv])) (by grind)
theorem fair_load {caps : List Int} {paths : List (List Int)} {x : List (Int × Int)} (hn : netE caps paths = 0) (hx : Fair caps paths x) : loadE caps paths x = 0 := by
  have hg := good_of_net hn
  obtain ⟨D, hD1, hD2, hov⟩ := hx.bottom
  refine loadE_mk hn hx.len ((ratesE_iff x).2 fun a ha => ?_) ?_
  · obtain ⟨i, hi, rfl⟩ := List.mem_iff_getElem.1 ha
    have := (hx.right i (by have := hx.len; omega)).1
    simpa [rP, List.getD, List.getElem?_eq_getElem hi] using this
  · unfold allOk
    rw [List.all_eq_true]
    intro l hl
    have hl' := List.mem_range.1 hl
    have h0 : val (0, 1) = 0 := by rw [val_whole]; rfl
    obtain ⟨t, ht⟩ := addUp_some hD1 hD2 (users paths l) (0, 1) (over_whole D 0) (by rw [h0]; exact Rat.le_refl) (fun u hu => by
      have := users_lt hu
      exact ⟨by have := hx.len; omega, hov _ this, Rat.le_of_lt (hx.right _ this).2.1⟩) (by
      have h1 := hx.fits.2 l hl'
      have h2 := (capQ_bd hg.1 hl').2
      have e : (users paths (l : Int)).map Int.toNat = usN paths l := rfl
      rw [h0, e]
      grind)
    rw [loadOf, ht]; rfl
/-- only one is fair -/
theorem only_one {caps : List Int} {paths : List (List Int)} {r : List (Int × Int)} (h : loadE caps paths r = 0) : fairB caps paths r = true ↔ (fill caps paths).1 = r := by
  obtain ⟨h1, h2, h3, h4⟩ := loadE_0 h
  have hg := good_of_net h1
  have hx := (fill_fair hg).1
  generalize (fill caps paths).1 = x at hx
  constructor
  · intro hf
    obtain ⟨f1, f2⟩ := (fair_iff h).1 hf
    have := only (fun l _ g hg => usN_lt hg) f1 hx.fits f2 hx.neck
    apply List.ext_getElem
    · rw [hx.len, h2]
    · intro i i1 i2
      have hi : i < paths.length := by have := hx.len; omega
      have e := this i hi
      have fr : faultP (rP r i) = 0 := (ratesE_iff r).1 h3 _ (getD_mem r i (by omega) (0, 0))
      have := val_inj' (hx.right i hi).1 fr e.symm
      simpa [rP, List.getD, List.getElem?_eq_getElem i1, List.getElem?_eq_getElem i2] using this
  · rintro rfl
    exact (fair_iff h).2 ⟨hx.fits, hx.neck⟩
end Go.Proofs.YtdldgefahgojaajDoor.Fl

/- What is asked of package fill's Rates, as the document says it. -/
namespace Go.Proofs.YtdldgefahgojaajDoor
namespace Fl
open Go.RowKit Fr Ns Ld

def RatesSaid : Prop := ∀ (Q : Nat → Prop) (caps : List Int) (paths : List (List Int)) (v : Value) (w : World), NetAt Q w v caps paths →
  Calls Tryd.prog 56 #[v] w fun e w' => ∃ y, e = .returned (.tuple #[y, errV (netE caps paths)]) ∧
    FracsAt (fun b => w.heap.size ≤ b) w' y (okL (netE caps paths) (fill caps paths).1) ∧ Below w.heap.size w w'
end Fl
end Go.Proofs.YtdldgefahgojaajDoor

/- A region whose order Go leaves open, whose operations only read and whose calls make memory of their own alone: walked once, in the order of the text. -/
namespace Go.Proofs.YtdldgefahgojaajDoor
namespace Ev
open Go.RowKit

/-- a world later than W: all that was there in W is as it was -/
structure Lat (W : World) where
  u : World
  b : Below W.heap.size W u
theorem wp_region_lat {P : Program} {id : Nat} {Q : Exit → Act → World → Prop} {a : Act} {w : World} {l : List Oper} (hm : P.follows .mixedOrders = true) (hB : Region.lexB .any l.toArray = true)
    (h : wpQuiet P l.toArray (fun u => ∃ x : Lat w, u = x.u) (fun a' => ∀ w', (∃ x : Lat w, w' = x.u) → Q .normal a' w') l a) : (Code.region id l.toArray true).wp P Q a w :=
  wp_region_quiet (C := fun u => ∃ x : Lat w, u = x.u) hm hB ⟨⟨w.drew, (Below.refl _ _).drew⟩, rfl⟩ (by simpa using h)
theorem lat_of {P : Program} {f : FuncId} {args : Array Value} {W : World} {x : Lat W} {v : Value} (h : Calls P f args x.u fun e w' => e = .returned v ∧ Below x.u.heap.size x.u w') : Calls P f args x.u fun e w'' => e = .returned v ∧ ∃ y : Lat W, w'' = y.u :=
  h.mono fun _ w' ⟨he, hb⟩ => ⟨he, ⟨w', x.b.trans (hb.mono x.b.size)⟩, rfl⟩
theorem Lat.cell {W : World} (x : Lat W) {a : Addr} {v : Value} (h : W.cell? a = some v) : x.u.cell? a = some v := cell_later x.b h
end Ev
end Go.Proofs.YtdldgefahgojaajDoor

/- A range over a function that hands on one thing after the other: what the iterator promises (the k-th round is of the k-th thing, so a body is asked of the next thing alone), and the statement. -/
namespace Go.Proofs.YtdldgefahgojaajDoor
namespace Ev
open Go Go.RowKit
set_option linter.unusedVariables false
set_option linter.unusedSimpArgs false

/-- blocks that are as they were -/
def Stays (G : Nat → Prop) (U U' : World) : Prop := ∀ b, G b → U'.heap[b]? = U.heap[b]?
theorem Stays.refl (G : Nat → Prop) (U : World) : Stays G U U := fun _ _ => rfl
theorem Stays.trans {G : Nat → Prop} {U V X : World} (h : Stays G U V) (k : Stays G V X) : Stays G U X := fun b hb => (k b hb).trans (h b hb)
/-- what is said of a world whatever becomes of the blocks of G -/
def Firm (G : Nat → Prop) (J : Nat → World → Prop) : Prop := ∀ k U U', J k U → ButIn G U U' → J k U'
/-- the iterator gf with these bindings goes over item 0 .. item (N - 1): it reads the blocks of G, writes none but those of Gw, and stops where a round says so -/
def SeqGo (P : Program) (gf : Nat) (lb : Array Value) (item : Nat → Array Value) (N : Nat) (G Gw : Nat → Prop) (w : World) : Prop :=
  ∀ (l : Nat) (J Jx : Nat → World → Prop) (W : World), Below w.heap.size w W → Firm Gw J → Firm Gw Jx →
    (∀ k U, k < N → J k U → YieldAt Fence.wide 3 P l (item k) U fun e U' => (e = .returned (.bool true) ∧ J (k + 1) U' ∧ Stays G U U') ∨ (e = .returned (.bool false) ∧ Jx (k + 1) U')) →
    J 0 W → CallsIn Fence.wide 4 P gf (#[.func (.yield l) #[] #[]] ++ lb) W fun e W' => (∃ v, e = .returned v) ∧ (J N W' ∨ ∃ k, k ≤ N ∧ Jx k W')
/-- how a round's body is left -/
def roundEnd (H : Nat → Prop) (I : Nat → World → Prop) (Ix : Code → Nat → World → Prop) (k : Nat) (U : World) : Exit → Act → World → Prop
  | .normal, _, U' => Stays H U U' ∧ I k U'
  | .ret, _, U' => Stays H U U' ∧ Ix .ret k U'
  | .exit id, _, U' => Stays H U U' ∧ Ix (.exit id) k U'
  | .goto t, _, U' => Stays H U U' ∧ Ix (.goto t) k U'
  | .panic _, _, _ => False
  | .outgrown, _, _ => False
theorem butIn_put (H : Nat → Prop) (U : World) (l : Nat) (o : Obj) (hl : H l) : ButIn H U (U.putObj l o) :=
  ⟨⟨rfl, rfl, rfl, by simp, fun k hk => absurd hk (Nat.not_lt_zero k)⟩, fun b _ hb => World.putObj_heap_other (fun e => hb (e ▸ hl))⟩
theorem butIn_alloc (H : Nat → Prop) (U : World) (o : Obj) : ButIn H U (U.alloc o) := ButIn.of_below ((Below.refl _ _).alloc (Nat.le_refl _) o)

/-- the loop's own two blocks -/
def loopB (w : World) (b : Nat) : Prop := b = w.heap.size ∨ b = w.heap.size + 1

theorem range_go {P : Program} {g : Operand} {ps : Array Tmp} {assign body : Code} {Q : Exit → Act → World → Prop} {a : Act} {w : World} {gf : Nat} {lb : Array Value} {item : Nat → Array Value} {N : Nat} {G Gw : Nat → Prop}
    (hg : a.eval g = .func (.func gf) #[] lb) (eg : ∀ args u, (callFunc gf args).run P u = .ok (.enter gf args) u) (hseq : SeqGo P gf lb item N G Gw w) (hps : ∀ k, (item k).size = ps.size)
    (hG : ∀ b, G b → b < w.heap.size) (hGw : ∀ b, Gw b → b < w.heap.size)
    (I : Nat → World → Prop) (Ix : Code → Nat → World → Prop) (hI : Firm (fun b => Gw b ∨ loopB w b) I) (hIx : ∀ c, Firm (fun b => Gw b ∨ loopB w b) (Ix c)) (h0 : I 0 w)
    (Ax : Nat → Act → World → Prop) (hAx : ∀ k a' U U', Ax k a' U → ButIn (loopB w) U U' → Ax k a' U')
    (hassign : ∀ (k : Nat) (U : World) (K : Act → World → Prop), k < N → I k U → (∀ a' U', Stays (fun b => G b ∨ loopB w b) U U' → I k U' → Ax k a' U' → K a' U') →
      assign.wpIn (Fence.wide.inRound (w.heap.size + 1)) 3 P (Exit.then K (fun _ _ _ => False)) { tmps := (ps.zip (item k)).foldl (fun t (p, v) => t.setIfInBounds p v) a.tmps, defers := [] } U)
    (hbody : ∀ (k : Nat) (a' : Act) (U : World), k < N → w.heap.size + 1 < U.heap.size → I k U → Ax k a' U → body.wpIn (Fence.wide.inRound (w.heap.size + 1)) 3 P (roundEnd (fun b => G b ∨ loopB w b) I Ix (k + 1) U) a' U)
    (hdone : ∀ U : World, I N U → U.heap[w.heap.size]? = some (.deferred (some [])) → Q .normal { a with defers := { target := .collected w.heap.size, args := #[] } :: a.defers } U)
    (hstop : ∀ (c : Code) (k : Nat) (U : World), k ≤ N → Ix c k U → U.heap[w.heap.size]? = some (.deferred (some [])) → c.wpIn Fence.wide 5 P Q { a with defers := { target := .collected w.heap.size, args := #[] } :: a.defers } U) :
    (Code.rangeFunc g ps assign body).wpIn Fence.wide 5 P Q a w := by
  refine wpIn_rangeFunc fun fn hfn => ?_
  -- the record of the loop, in each of its states
  let R : LoopState → Option Code → Obj := fun s j => .loop { state := s, pending := j, fn, tmps := a.tmps, params := ps, assign, body, defers := w.heap.size }
  let B : World → Prop := fun U => U.heap[w.heap.size]? = some (.deferred (some []))
  let W1 : World := (w.alloc (.deferred (some []))).alloc (R .ready none)
  have e1 : W1.heap[w.heap.size + 1]? = some (R .ready none) := by
    have := World.alloc_heap_new (w.alloc (.deferred (some []))) (R .ready none)
    rwa [World.size_alloc] at this
  have e0 : B W1 := (Below.heap_alloc _ _ _ (by simp)).trans (World.alloc_heap_new w _)
  have hw1 : Below w.heap.size w W1 := ((Below.refl _ w).alloc (Nat.le_refl _) _).alloc (by simp) _
  have hi1 : I 0 W1 := hI _ _ _ (hI _ _ _ h0 (butIn_alloc _ _ _)) (butIn_alloc _ _ _)
  have rl : loopB w (w.heap.size + 1) := .inr rfl
  -- what stays of the two blocks where only the iterator's own have changed
  have hlw : ∀ {U U' : World} {b : Nat} {o : Obj}, loopB w b → ButIn Gw U U' → U.heap[b]? = some o → U'.heap[b]? = some o := fun hb h ho =>
    (h.2 _ (Array.getElem?_eq_some_iff.1 ho).1 (fun hgw => by have := hGw _ hgw; rcases hb with rfl | rfl <;> omega)).trans ho
  have hIg : ∀ {k : Nat} {U U' : World}, I k U → ButIn Gw U U' → I k U' := fun h hb => hI _ _ _ h ⟨hb.1, fun b hb1 hb2 => hb.2 b hb1 (fun q => hb2 (.inl q))⟩
  refine ⟨w.heap.size + 1, [{ target := .collected w.heap.size, args := #[] }], W1, { target := .fn (.func gf) lb, args := #[.func (.yield (w.heap.size + 1)) #[] #[]] }, W1, gf,
    #[.func (.yield (w.heap.size + 1)) #[] #[]] ++ lb, W1, run_enterLoop_outer _ _ _ _ _, by simp only [resolve, hg]; simp [go_sem], fun _ _ => trivial, by simp [invoke, go_sem, eg], fun _ => by decide, ?_⟩
  refine (hseq (w.heap.size + 1) (fun k U => I k U ∧ U.heap[w.heap.size + 1]? = some (R .ready none) ∧ B U) (fun k U => ∃ c, Ix c k U ∧ U.heap[w.heap.size + 1]? = some (R .done (some c)) ∧ B U) W1 hw1
    (fun k U U' h hb => ⟨hIg h.1 hb, hlw rl hb h.2.1, hlw (.inl rfl) hb h.2.2⟩)
    (fun k U U' ⟨c, h1, h2, h3⟩ hb => ⟨c, hIx c _ _ _ h1 ⟨hb.1, fun b hb1 hb2 => hb.2 b hb1 (fun q => hb2 (.inl q))⟩, hlw rl hb h2, hlw (.inl rfl) hb h3⟩) ?_ ⟨hi1, e1, e0⟩).mono ?_
  · -- a round
    rintro k U hk ⟨hi, hr, hd⟩
    refine ⟨fn, _, assign, body, run_yield hr (hps k), roundIn_of_wpIn hfn (hassign k U _ hk hi ?_)⟩
    intro a' V hsv hiv hav
    have hrv : V.heap[w.heap.size + 1]? = some (R .ready none) := (hsv _ (.inr rl)).trans hr
    have hdv : B V := (hsv _ (.inr (.inl rfl))).trans hd
    have hlt : w.heap.size + 1 < V.heap.size := (Array.getElem?_eq_some_iff.1 hrv).1
    refine ⟨_, run_beginRound hrv rfl, ?_⟩
    obtain ⟨X, hX⟩ : ∃ X, X = V.putObj (w.heap.size + 1) (R .busy none) := ⟨_, rfl⟩
    have hrx : X.heap[w.heap.size + 1]? = some (R .busy none) := by rw [hX]; exact World.putObj_heap_same hlt
    have hdx : B X := by rw [hX]; exact (World.putObj_heap_other (by omega)).trans hdv
    have hix : I k X := by rw [hX]; exact hI _ _ _ hiv (butIn_put _ _ _ _ (.inr rl))
    have hax : Ax k a' X := by rw [hX]; exact hAx _ _ _ _ hav (butIn_put _ _ _ _ rl)
    have hgx : Stays G U X := fun b hb => by rw [hX]; exact (World.putObj_heap_other (by have := hG b hb; omega)).trans (hsv b (.inl hb))
    show body.wpIn _ _ _ _ _ (V.putObj (w.heap.size + 1) (R .busy none))
    rw [← hX]
    refine wpIn_mono (hbody k a' X hk (Array.getElem?_eq_some_iff.1 hrx).1 hix hax) ?_
    -- the round's end, whichever way its body is left
    have fin : ∀ (j : Option Code) (Y : World), Stays (fun b => G b ∨ loopB w b) X Y → ∃ Z, Z = Y.putObj (w.heap.size + 1) (R (if j.isNone then .ready else .done) j) ∧ (Instr.endRound (w.heap.size + 1) j).run P Y = .ok (.bool j.isNone) Z ∧
        Z.heap[w.heap.size + 1]? = some (R (if j.isNone then .ready else .done) j) ∧ B Z ∧ Stays G U Z := fun j Y hy => by
      have hry : Y.heap[w.heap.size + 1]? = some (R .busy none) := (hy _ (.inr rl)).trans hrx
      refine ⟨_, rfl, run_endRound j hry, World.putObj_heap_same (Array.getElem?_eq_some_iff.1 hry).1, (World.putObj_heap_other (by omega)).trans ((hy _ (.inr (.inl rfl))).trans hdx), fun b hb => ?_⟩
      exact (World.putObj_heap_other (by have := hG b hb; omega)).trans ((hy b (.inl hb)).trans (hgx b hb))
    intro e a3 Y hp
    match e, hp with
    | .normal, hp =>
      obtain ⟨Z, hZ, h1, h2, h3, h4⟩ := fin none Y hp.1
      exact ⟨_, _, h1, .inl ⟨rfl, ⟨by rw [hZ]; exact hI _ _ _ hp.2 (butIn_put _ _ _ _ (.inr rl)), h2, h3⟩, h4⟩⟩
    | .ret, hp =>
      obtain ⟨Z, hZ, h1, h2, h3, h4⟩ := fin (some .ret) Y hp.1
      exact ⟨_, _, h1, .inr ⟨rfl, _, by rw [hZ]; exact hIx _ _ _ _ hp.2 (butIn_put _ _ _ _ (.inr rl)), h2, h3⟩⟩
    | .exit id, hp =>
      obtain ⟨Z, hZ, h1, h2, h3, h4⟩ := fin (some (.exit id)) Y hp.1
      exact ⟨_, _, h1, .inr ⟨rfl, _, by rw [hZ]; exact hIx _ _ _ _ hp.2 (butIn_put _ _ _ _ (.inr rl)), h2, h3⟩⟩
    | .goto t, hp =>
      obtain ⟨Z, hZ, h1, h2, h3, h4⟩ := fin (some (.goto t)) Y hp.1
      exact ⟨_, _, h1, .inr ⟨rfl, _, by rw [hZ]; exact hIx _ _ _ _ hp.2 (butIn_put _ _ _ _ (.inr rl)), h2, h3⟩⟩
    | .panic _, hp => exact hp.elim
    | .outgrown, hp => exact hp.elim
  · -- behind the iterator
    rintro e U ⟨⟨v, rfl⟩, h⟩
    rcases h with ⟨hi, hr, hd⟩ | ⟨k, hk, c, hi, hr, hd⟩
    · exact ⟨none, _, run_endLoop hr (by simp), hdone _ (hI _ _ _ hi (butIn_put _ _ _ _ (.inr rl))) ((World.putObj_heap_other (by omega)).trans hd)⟩
    · exact ⟨some c, _, run_endLoop hr (by simp), hstop c k _ hk (hIx _ _ _ _ hi (butIn_put _ _ _ _ (.inr rl))) ((World.putObj_heap_other (by omega)).trans hd)⟩
end Ev
end Go.Proofs.YtdldgefahgojaajDoor

/- Frames by what some of their slots hold; a piece of a function's code; how pieces join. So that a great function goes piece by piece, each a declaration of its own. -/
namespace Go.Proofs.YtdldgefahgojaajDoor
open Go.RowKit
set_option linter.unusedSimpArgs false
set_option linter.unusedVariables false

def Has (t : List Value) : List (Nat × Value) → Prop
  | [] => True
  | (k, v) :: r => t[k]? = some v ∧ Has t r
def HasX (X : Nat → Value) : List (Nat × Value) → Prop
  | [] => True
  | (k, v) :: r => X k = v ∧ HasX X r
/-- a frame of n slots, of which these hold these -/
def Slots (n : Nat) (vs : List (Nat × Value)) (a : Act) : Prop := a.defers = [] ∧ a.tmps.toList.length = n ∧ Has a.tmps.toList vs
theorem has_x {t : List Value} : ∀ vs, Has t vs → HasX (fun i => t.getD i undef) vs := by
  intro vs
  induction vs with
  | nil => intro _; trivial
  | cons p r ih =>
    obtain ⟨k, v⟩ := p
    rintro ⟨h1, h2⟩
    exact ⟨by simp [List.getD, h1], ih h2⟩
theorem Slots.lay {n : Nat} {vs : List (Nat × Value)} {a : Act} (h : Slots n vs a) : ∃ X : Nat → Value, a = ⟨((List.range n).map X).toArray, []⟩ ∧ HasX X vs := by
  obtain ⟨⟨t⟩, d⟩ := a
  obtain ⟨h1, h2, h3⟩ := h
  simp only at h1 h2 h3
  subst h1 h2
  refine ⟨fun i => t.getD i undef, ?_, has_x vs h3⟩
  congr 2
  apply List.ext_getElem
  · simp
  · intro i h1 h2
    simp [List.getD, h1]
theorem Slots.head {n : Nat} {p : Nat × Value} {vs : List (Nat × Value)} {a : Act} (h : Slots n (p :: vs) a) : a.tmps.toList[p.1]? = some p.2 := h.2.2.1
theorem Slots.tail {n : Nat} {p : Nat × Value} {vs : List (Nat × Value)} {a : Act} (h : Slots n (p :: vs) a) : Slots n vs a := ⟨h.1, h.2.1, h.2.2.2⟩
theorem slot_eval {a : Act} {k : Nat} {v : Value} (h : a.tmps.toList[k]? = some v) : a.eval (.tmp k) = v := by
  obtain ⟨⟨t⟩, d⟩ := a
  simp only at h
  simp [Act.eval, Array.getD]
  obtain ⟨hk, e⟩ := List.getElem?_eq_some_iff.1 h
  simp [hk, e]
/-- a piece of code: left, right, within -/
def dig : List Nat → Code → Code
  | [], c => c
  | 0 :: p, .seq a _ => dig p a
  | _ :: p, .seq _ b => dig p b
  | 0 :: p, .cond _ a _ => dig p a
  | _ :: p, .cond _ _ b => dig p b
  | _ :: p, .block _ c => dig p c
  | _ :: p, .loop c => dig p c
  | _ :: p, .scope c => dig p c
  | _ :: _, c => c
/-- a piece goes through to its end -/
def Thru (c : Code) (R : Act → World → Prop) (a : Act) (w : World) : Prop := c.wp Tryd.prog (fun e a' w' => e = .normal ∧ R a' w') a w
/-- no other way out -/
def NoWay : Exit → Act → World → Prop := fun _ _ _ => False
theorem Thru.mk {c : Code} {R : Act → World → Prop} {a : Act} {w : World} (h : ∀ (J K : Act → World → Prop), (∀ a' w', R a' w' → J a' w') → (∀ a' w', Met J a' w' → K a' w') → c.wp Tryd.prog (Exit.then K NoWay) a w) : Thru c R a w := by
  refine wp_mono (h R R (fun _ _ q => q) (fun _ _ q => q)) ?_
  intro e a' w' hq
  cases e with
  | normal => exact ⟨rfl, hq⟩
  | exit id => exact hq.elim
  | goto l => exact hq.elim
  | ret => exact hq.elim
  | panic ch => exact hq.elim
  | outgrown => exact hq.elim
/-- a piece goes out of the block id -/
def Outs (c : Code) (id : Nat) (R : Act → World → Prop) (a : Act) (w : World) : Prop := c.wp Tryd.prog (fun e a' w' => e = .exit id ∧ R a' w') a w
def OneWay (id : Nat) (K : Act → World → Prop) : Exit → Act → World → Prop
  | .exit id', a, w => id' = id ∧ K a w
  | _, _, _ => False
theorem OneWay.mk {id : Nat} {K : Act → World → Prop} {a : Act} {w : World} (h : K a w) : OneWay id K (.exit id) a w := ⟨rfl, h⟩
theorem Outs.mk {c : Code} {id : Nat} {R : Act → World → Prop} {a : Act} {w : World} (h : ∀ (J : Act → World → Prop) (Q : Exit → Act → World → Prop), (∀ a' w', R a' w' → J a' w') → (∀ a' w', Met J a' w' → Q (.exit id) a' w') → c.wp Tryd.prog (Exit.then (fun _ _ => False) Q) a w) : Outs c id R a w := by
  refine wp_mono (h R (OneWay id R) (fun _ _ q => q) (fun _ _ q => ⟨rfl, q⟩)) ?_
  intro e a' w' hq
  cases e with
  | normal => exact hq.elim
  | exit id' => exact ⟨by rw [hq.1], hq.2⟩
  | goto l => exact hq.elim
  | ret => exact hq.elim
  | panic ch => exact hq.elim
  | outgrown => exact hq.elim
theorem Thru.mono {c : Code} {R R' : Act → World → Prop} {a : Act} {w : World} (h : Thru c R a w) (hr : ∀ a' w', R a' w' → R' a' w') : Thru c R' a w :=
  wp_mono h (fun e a' w' q => ⟨q.1, hr _ _ q.2⟩)
theorem Thru.seq {c x y : Code} (hc : c = .seq x y) {R R' : Act → World → Prop} {a : Act} {w : World} (h : Thru x R a w) (hr : ∀ a' w', R a' w' → Thru y R' a' w') : Thru c R' a w := by
  subst hc
  refine wp_seq (wp_mono h ?_)
  rintro e a' w' ⟨rfl, q⟩
  exact hr _ _ q
theorem Thru.cond {c x y : Code} {k : Nat} (hc : c = .cond (.tmp k) x y) {R : Act → World → Prop} {a : Act} {w : World} {b : Bool} (hb : a.tmps.toList[k]? = some (.bool b)) (ht : b = true → Thru x R a w) (hf : b = false → Thru y R a w) : Thru c R a w := by
  subst hc
  refine wp_cond (slot_eval hb) ?_
  cases b with
  | true => exact ht rfl
  | false => exact hf rfl
theorem Thru.skip {c : Code} (hc : c = .skip) {R : Act → World → Prop} {a : Act} {w : World} (h : R a w) : Thru c R a w := by
  subst hc
  exact wp_skip ⟨rfl, h⟩
theorem Thru.block {c x : Code} {id : Nat} (hc : c = .block id x) {R : Act → World → Prop} {a : Act} {w : World} (h : Thru x R a w) : Thru c R a w := by
  subst hc
  refine wp_block (wp_mono h ?_)
  rintro e a' w' ⟨rfl, q⟩
  exact ⟨rfl, q⟩
theorem Outs.mono {c : Code} {id : Nat} {R R' : Act → World → Prop} {a : Act} {w : World} (h : Outs c id R a w) (hr : ∀ a' w', R a' w' → R' a' w') : Outs c id R' a w :=
  wp_mono h (fun e a' w' q => ⟨q.1, hr _ _ q.2⟩)
theorem slot_int {a : Act} {k : Nat} {n : Int} (h : a.tmps.toList[k]? = some (.int .i64 n)) : intOf (a.tmps.toList.getD k undef) = n := by
  rw [List.getD, h]; rfl
theorem Outs.seq {c x y : Code} {id : Nat} (hc : c = .seq x y) {R : Act → World → Prop} {a : Act} {w : World} (h : Outs x id R a w) : Outs c id R a w := by
  subst hc
  refine wp_seq (wp_mono h ?_)
  rintro e a' w' ⟨rfl, q⟩
  exact ⟨rfl, q⟩
theorem Thru.loop {c x : Code} {id : Nat} (hc : c = .block id (.loop x)) {R : Act → World → Prop} (I : Act → World → Prop) (mu : Act → World → Nat) {a : Act} {w : World} (h0 : I a w)
    (round : ∀ a w, I a w → Thru x (fun a' w' => I a' w' ∧ mu a' w' < mu a w) a w ∨ Outs x id R a w) : Thru c R a w := by
  subst hc
  refine wp_block (wp_loop I mu h0 (fun a w hI => ?_))
  rcases round a w hI with h | h
  · refine wp_mono h ?_
    rintro e a' w' ⟨rfl, q⟩
    exact q
  · refine wp_mono h ?_
    rintro e a' w' ⟨rfl, q⟩
    simp only [Exit.then, Exit.inBlock, if_true]
    exact ⟨trivial, q⟩
/-- where the walk of the whole stands at such a piece -/
theorem Thru.here {c : Code} {R : Act → World → Prop} {K : Act → World → Prop} {Q : Exit → Act → World → Prop} {a : Act} {w : World} (h : Thru c R a w) (hr : ∀ a' w', R a' w' → K a' w') : c.wp Tryd.prog (Exit.then K Q) a w := by
  refine wp_mono h ?_
  rintro e a' w' ⟨rfl, q⟩
  exact hr _ _ q
end Go.Proofs.YtdldgefahgojaajDoor
