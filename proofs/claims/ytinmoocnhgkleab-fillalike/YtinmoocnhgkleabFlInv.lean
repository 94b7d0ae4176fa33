/- All rise together: what holds behind each round, and in the end: it fits, and each has its narrow place. No Go in it. -/
import Derived.Test.YtinmoocnhgkleabFlFill
namespace Go.Proofs.Ytinmoocnhgkleab.Fl
open Fr Ns Ld
set_option linter.unusedSimpArgs false

theorem rP_setRate {rate : List (Int × Int)} {rd : List Int} {b : Int × Int} {f : Nat} (h : f < rate.length) : rP (setRate rate rd b) f = if (f : Int) ∈ rd then b else rP rate f := by
  unfold setRate
  have e : rP ((List.range rate.length).map fun f : Nat => if rd.contains (f : Int) then b else rP rate f) f = if rd.contains (f : Int) then b else rP rate f := by
    conv => lhs; unfold rP
    simp only [List.getD, List.getElem?_map, List.getElem?_range h]
    rfl
  rw [e]
  by_cases hm : (f : Int) ∈ rd
  · rw [if_pos hm, if_pos (by simpa using hm)]
  · rw [if_neg hm, if_neg (by simpa using hm)]
theorem dB_setDone {done : List Bool} {rd : List Int} {f : Nat} (h : f < done.length) : dB (setDone done rd) f = (decide ((f : Int) ∈ rd) || dB done f) := by
  unfold setDone
  have e : dB ((List.range done.length).map fun f : Nat => rd.contains (f : Int) || dB done f) f = (rd.contains (f : Int) || dB done f) := by
    conv => lhs; unfold dB
    simp only [List.getD, List.getElem?_map, List.getElem?_range h]
    rfl
  rw [e]
  congr 1
  by_cases hm : (f : Int) ∈ rd
  · simp [hm]
  · simp [hm]
theorem mem_round {paths : List (List Int)} {done : List Bool} {nar : Nat → Bool} {f : Nat} : (f : Int) ∈ roundOf paths done nar ↔ f < paths.length ∧ dB done f = false ∧ ∃ x ∈ paths.getD f [], nar x.toNat = true := by
  unfold roundOf
  rw [List.mem_map]
  constructor
  · rintro ⟨a, ha, e⟩
    have e' : a = f := by omega
    subst e'
    rw [List.mem_filter, List.mem_range] at ha
    simp only [Bool.and_eq_true, Bool.not_eq_true', List.any_eq_true] at ha
    exact ⟨ha.1, ha.2.1, ha.2.2⟩
  · rintro ⟨h1, h2, h3⟩
    refine ⟨f, ?_, rfl⟩
    rw [List.mem_filter, List.mem_range]
    simp only [Bool.and_eq_true, Bool.not_eq_true', List.any_eq_true]
    exact ⟨h1, h2, h3⟩
theorem round_nat {paths : List (List Int)} {done : List Bool} {nar : Nat → Bool} {u : Int} (h : u ∈ roundOf paths done nar) : ∃ f : Nat, u = f ∧ f < paths.length := by
  unfold roundOf at h
  rw [List.mem_map] at h
  obtain ⟨a, ha, rfl⟩ := h
  exact ⟨a, rfl, by rw [List.mem_filter, List.mem_range] at ha; exact ha.1⟩
theorem le_sumQ {x : Nat → Rat} {f : Nat} : ∀ {l : List Nat}, (∀ g ∈ l, 0 ≤ x g) → f ∈ l → x f ≤ sumQ x l := by
  intro l
  induction l with
  | nil => intro _ h; simp at h
  | cons u us ih =>
    intro h hf
    have h1 := h u (by simp)
    have h0 : (0 : Rat) ≤ sumQ x us := by
      have := sumQ_le (x := fun _ => 0) (y := x) (l := us) (fun g hg => h g (by simp [hg]))
      have e : ∀ l : List Nat, sumQ (fun _ => 0) l = 0 := by
        intro l
        induction l with
        | nil => rfl
        | cons a r ih => simp only [sumQ, ih]; grind
      rw [e] at this
      exact this
    simp only [sumQ]
    rcases List.mem_cons.1 hf with rfl | hf
    · grind
    · have := ih (fun g hg => h g (by simp [hg])) hf
      grind

/-- what holds behind each round: b is the last rate, D what the bottoms divide -/
structure Inv (caps : List Int) (paths : List (List Int)) (rate : List (Int × Int)) (done : List Bool) (b : Rat) (D : Int) : Prop where
  lr : rate.length = paths.length
  ld : done.length = paths.length
  hD : 1 ≤ D
  hb : 0 ≤ b
  over : ∀ f, f < paths.length → dB done f = true → Over D (rP rate f) ∧ 0 < xQ rate f ∧ xQ rate f ≤ b
  room : ∀ l, l < caps.length → sumQ (lev done rate b) (usN paths l) ≤ capQ caps l
  strict : ∀ l, l < caps.length → (∃ u ∈ usN paths l, dB done u = false) → sumQ (lev done rate b) (usN paths l) < capQ caps l
  neck : ∀ f, f < paths.length → dB done f = true → ∃ l, l < caps.length ∧ f ∈ usN paths l ∧ (∀ g ∈ usN paths l, dB done g = true) ∧ sumQ (xQ rate) (usN paths l) = capQ caps l ∧ ∀ g ∈ usN paths l, xQ rate g ≤ xQ rate f

theorem capQ_bd {caps : List Int} {l : Nat} (hc : ∀ c ∈ caps, 1 ≤ c ∧ c ≤ 1000) (hl : l < caps.length) : 1 ≤ capQ caps l ∧ capQ caps l ≤ 1000 := by
  have := hc _ (getD_mem caps l hl 0)
  unfold capQ
  constructor
  · have h : ((1 : Int) : Rat) ≤ ((caps.getD l 0 : Int) : Rat) := Rat.intCast_le_intCast.2 this.1
    simpa using h
  · have h : ((caps.getD l 0 : Int) : Rat) ≤ ((1000 : Int) : Rat) := Rat.intCast_le_intCast.2 this.2
    exact h
theorem getD_replicate {α : Type} (n : Nat) (a d : α) (f : Nat) (h : f < n) : (List.replicate n a).getD f d = a := by
  simp [List.getD, List.getElem?_replicate, h]
theorem inv_start {caps : List Int} {paths : List (List Int)} (hg : Good caps paths) : Inv caps paths (List.replicate paths.length (0, 0)) (List.replicate paths.length false) 0 1 := by
  have hd : ∀ f, dB (List.replicate paths.length false) f = false := fun f => by
    unfold dB
    simp only [List.getD, List.getElem?_replicate]
    split <;> rfl
  have h0 : ∀ l, sumQ (lev (List.replicate paths.length false) (List.replicate paths.length (0, 0)) 0) l = 0 := by
    intro l
    induction l with
    | nil => rfl
    | cons u us ih => simp only [sumQ, ih, lev, hd, Bool.false_eq_true, if_false]; grind
  refine ⟨by simp, by simp, by decide, Rat.le_refl, fun f _ h => ?_, fun l hl => ?_, fun l hl _ => ?_, fun f _ h => ?_⟩
  · rw [hd] at h; cases h
  · rw [h0]; have := capQ_bd hg.1 hl; grind
  · rw [h0]; have := capQ_bd hg.1 hl; grind
  · rw [hd] at h; cases h

theorem toNat_lt {caps : List Int} {paths : List (List Int)} (hg : Good caps paths) {f : Nat} (hf : f < paths.length) {x : Int} (hx : x ∈ paths.getD f []) : x.toNat < caps.length ∧ f ∈ usN paths x.toNat := by
  have hp := hg.2.1 _ (getD_mem paths f hf [])
  have hb := hp.2 x hx
  refine ⟨by omega, usN_iff.2 ⟨hf, ?_⟩⟩
  have e : ((x.toNat : Nat) : Int) = x := by omega
  rw [e]
  exact inB_of_mem hx

/-- one round -/
theorem inv_step {caps : List Int} {paths : List (List Int)} {rate : List (Int × Int)} {done : List Bool} {b : Rat} {D : Int} (hg : Good caps paths) (hi : Inv caps paths rate done b D) (hf : ∃ f, f < paths.length ∧ dB done f = false) :
    ∃ bst, bestOf (shareOf caps paths rate done) caps.length = some bst ∧ b < val bst ∧ roundOf paths done (narOf (shareOf caps paths rate done) caps.length) ≠ [] ∧
      ∃ k : Nat, 1 ≤ k ∧ k ≤ 6 ∧ Inv caps paths (setRate rate (roundOf paths done (narOf (shareOf caps paths rate done) caps.length)) bst) (setDone done (roundOf paths done (narOf (shareOf caps paths rate done) caps.length))) (val bst) (D * k) := by
  obtain ⟨f0, hf0, hd0⟩ := hf
  have hr : ∀ f, f < paths.length → dB done f = true → Over D (rP rate f) := fun f h1 h2 => (hi.over f h1 h2).1
  have hp2 : ∀ l s, shareOf caps paths rate done l = some s → 1 ≤ s.2 := fun l s h => by
    obtain ⟨_, _, k, _, _, ho⟩ := share_some hr h
    exact ho.1
  generalize hsh : shareOf caps paths rate done = sh at *
  have hS : ∀ l s, sh l = some s → sumQ (lev done rate (val s)) (usN paths l) = capQ caps l ∧ (∃ u ∈ usN paths l, dB done u = false) ∧ ∃ k : Nat, 1 ≤ k ∧ k ≤ paths.length ∧ Over (D * k) s := fun l s h => share_some hr (by rw [hsh]; exact h)
  have hN : ∀ l, sh l = none → ∀ u ∈ usN paths l, dB done u = true := fun l h => share_none hr (by rw [hsh]; exact h)
  cases hbest : bestOf sh caps.length with
  | none =>
    exfalso
    have hp := hg.2.1 _ (getD_mem paths f0 hf0 [])
    obtain ⟨x, hx⟩ := List.exists_mem_of_ne_nil _ hp.1
    obtain ⟨h1, h2⟩ := toNat_lt hg hf0 hx
    have := hN _ (best_none _ hbest _ h1) _ h2
    rw [hd0] at this; cases this
  | some bst =>
    obtain ⟨⟨lb, hlb, hsb⟩, hmin⟩ := best_some hp2 _ _ hbest
    obtain ⟨s1, ⟨ub, hub, hdb⟩, k, hk1, hk2, hov⟩ := hS lb bst hsb
    have hnar : ∀ l, narOf sh caps.length l = true ↔ l < caps.length ∧ sh l = some bst := by
      intro l
      unfold narOf
      rw [hbest]
      simp only [Bool.and_eq_true, decide_eq_true_eq]
      constructor
      · rintro ⟨⟨h1, _⟩, h3⟩; exact ⟨h1, h3⟩
      · rintro ⟨h1, h3⟩; exact ⟨⟨h1, by rw [h3]; rfl⟩, h3⟩
    have hbv : b < val bst := by
      have hst := hi.strict lb hlb ⟨ub, hub, hdb⟩
      rw [← s1] at hst
      apply Classical.byContradiction
      intro hn
      have hle : val bst ≤ b := by grind
      have := sumQ_le (x := lev done rate (val bst)) (y := lev done rate b) (l := usN paths lb) (fun g _ => by
        unfold lev
        split
        · exact Rat.le_refl
        · exact hle)
      grind
    generalize hrd : roundOf paths done (narOf sh caps.length) = rd
    have hmem : ∀ f : Nat, (f : Int) ∈ rd ↔ f < paths.length ∧ dB done f = false ∧ ∃ x ∈ paths.getD f [], x.toNat < caps.length ∧ sh x.toNat = some bst := by
      intro f
      rw [← hrd, mem_round]
      simp only [hnar]
    have hmem' : ∀ (f l : Nat), l < caps.length → f ∈ usN paths l → dB done f = false → sh l = some bst → (f : Int) ∈ rd := by
      intro f l hl hf hd hs
      obtain ⟨h1, h2⟩ := usN_iff.1 hf
      refine (hmem f).2 ⟨h1, hd, (l : Int), ?_, by simpa using hl, by simpa using hs⟩
      simpa [inB] using h2
    have hrP : ∀ f, f < paths.length → rP (setRate rate rd bst) f = if (f : Int) ∈ rd then bst else rP rate f := fun f h => rP_setRate (by rw [hi.lr]; exact h)
    have hdB : ∀ f, f < paths.length → dB (setDone done rd) f = (decide ((f : Int) ∈ rd) || dB done f) := fun f h => dB_setDone (by rw [hi.ld]; exact h)
    have hx1 : ∀ f, f < paths.length → (f : Int) ∈ rd → xQ (setRate rate rd bst) f = val bst := fun f h h' => by unfold xQ; rw [hrP f h, if_pos h']
    have hx2 : ∀ f, f < paths.length → (f : Int) ∉ rd → xQ (setRate rate rd bst) f = xQ rate f := fun f h h' => by unfold xQ; rw [hrP f h, if_neg h']
    have hno : ∀ f : Nat, dB done f = true → (f : Int) ∉ rd := fun f h h' => by have := ((hmem f).1 h').2.1; rw [h] at this; cases this
    have hlev : ∀ f, f < paths.length → lev (setDone done rd) (setRate rate rd bst) (val bst) f = lev done rate (val bst) f := by
      intro f h
      unfold lev
      rw [hdB f h]
      by_cases h1 : (f : Int) ∈ rd
      · have h2 := ((hmem f).1 h1).2.1
        rw [h2]
        simp only [h1, decide_true, Bool.true_or, if_true, Bool.false_eq_true, if_false]
        exact hx1 f h h1
      · simp only [h1, decide_false, Bool.false_or]
        cases hd : dB done f with
        | true => simp only [if_true]; exact hx2 f h h1
        | false => simp only [Bool.false_eq_true, if_false]
    have hlevS : ∀ l, sumQ (lev (setDone done rd) (setRate rate rd bst) (val bst)) (usN paths l) = sumQ (lev done rate (val bst)) (usN paths l) := fun l => sumQ_congr fun g hg => hlev g (usN_lt hg)
    refine ⟨bst, rfl, hbv, ?_, k, hk1, Nat.le_trans hk2 hg.2.2.1, ?_⟩
    · intro he
      have := hmem' ub lb hlb hub hdb hsb
      rw [he] at this
      cases this
    · refine ⟨by simp [setRate, hi.lr], by simp [setDone, hi.ld], ?_, ?_, ?_, ?_, ?_, ?_⟩
      · have := Int.mul_le_mul hi.hD (show (1 : Int) ≤ (k : Int) by omega) (by decide) (by have := hi.hD; omega)
        omega
      · have := hi.hb; grind
      · intro f hf hd
        rw [hdB f hf] at hd
        by_cases h1 : (f : Int) ∈ rd
        · rw [hrP f hf, if_pos h1, hx1 f hf h1]
          refine ⟨hov, ?_, Rat.le_refl⟩
          have := hi.hb; grind
        · simp only [h1, decide_false, Bool.false_or] at hd
          obtain ⟨o1, o2, o3⟩ := hi.over f hf hd
          rw [hrP f hf, if_neg h1, hx2 f hf h1]
          exact ⟨o1.mono ⟨k, rfl⟩, o2, by grind⟩
      · intro l hl
        rw [hlevS]
        cases hs : sh l with
        | none =>
          have hall := hN l hs
          have e : sumQ (lev done rate (val bst)) (usN paths l) = sumQ (lev done rate b) (usN paths l) := sumQ_congr fun g hg => by unfold lev; rw [hall g hg]; rfl
          rw [e]; exact hi.room l hl
        | some s =>
          have h1 := hmin l s hl hs
          have h2 := (hS l s hs).1
          rw [← h2]
          exact sumQ_le fun g _ => by
            unfold lev
            split
            · exact Rat.le_refl
            · exact h1
      · rintro l hl ⟨u, hu, hd⟩
        have hun := usN_lt hu
        rw [hdB u hun] at hd
        simp only [Bool.or_eq_false_iff, decide_eq_false_iff_not] at hd
        obtain ⟨hd1, hd2⟩ := hd
        rw [hlevS]
        cases hs : sh l with
        | none => have := hN l hs u hu; rw [hd2] at this; cases this
        | some s =>
          obtain ⟨h2, _, k', hk', _, hov'⟩ := hS l s hs
          have h1 := hmin l s hl hs
          have hne : val bst ≠ val s := by
            intro e
            have : bst = s := val_inj hov.1 hov'.1 hov.2.1 hov'.2.1 e
            subst this
            exact hd1 (hmem' u l hl hu hd2 hs)
          have hlt : val bst < val s := Rat.lt_of_le_of_ne h1 hne
          rw [← h2]
          refine sumQ_lt (f := u) (fun g _ => ?_) hu ?_
          · unfold lev
            split
            · exact Rat.le_refl
            · exact h1
          · unfold lev
            rw [hd2]
            simp only [Bool.false_eq_true, if_false]
            exact hlt
      · intro f hf hd
        rw [hdB f hf] at hd
        by_cases h1 : (f : Int) ∈ rd
        · obtain ⟨_, hdf, x, hx, hxl, hxs⟩ := (hmem f).1 h1
          obtain ⟨_, hfu⟩ := toNat_lt hg hf hx
          have hall : ∀ g ∈ usN paths x.toNat, dB done g = true ∨ (g : Int) ∈ rd := fun g hgu => by
            cases hd : dB done g with
            | true => exact .inl rfl
            | false => exact .inr (hmem' g _ hxl hgu hd hxs)
          refine ⟨x.toNat, hxl, hfu, fun g hgu => ?_, ?_, fun g hgu => ?_⟩
          · rw [hdB g (usN_lt hgu)]
            rcases hall g hgu with h | h
            · rw [h]; simp
            · simp [h]
          · rw [← (hS _ _ hxs).1]
            refine sumQ_congr fun g hgu => ?_
            rcases hall g hgu with h | h
            · rw [hx2 g (usN_lt hgu) (hno g h)]; unfold lev; rw [h]; rfl
            · rw [hx1 g (usN_lt hgu) h]
              unfold lev
              rw [((hmem g).1 h).2.1]; rfl
          · rw [hx1 f hf h1]
            rcases hall g hgu with h | h
            · rw [hx2 g (usN_lt hgu) (hno g h)]
              have := (hi.over g (usN_lt hgu) h).2.2
              grind
            · rw [hx1 g (usN_lt hgu) h]; exact Rat.le_refl
        · simp only [h1, decide_false, Bool.false_or] at hd
          obtain ⟨l, hl, hfl, hall, hsum, hm⟩ := hi.neck f hf hd
          refine ⟨l, hl, hfl, fun g hgu => ?_, ?_, fun g hgu => ?_⟩
          · rw [hdB g (usN_lt hgu), hall g hgu]; simp
          · rw [← hsum]
            exact sumQ_congr fun g hgu => hx2 g (usN_lt hgu) (hno g (hall g hgu))
          · rw [hx2 f hf h1, hx2 g (usN_lt hgu) (hno g (hall g hgu))]
            exact hm g hgu
end Go.Proofs.Ytinmoocnhgkleab.Fl
