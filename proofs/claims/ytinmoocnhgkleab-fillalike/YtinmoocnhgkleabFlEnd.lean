/- All rise together: in the end it fits, each has its narrow place, each is in one round, later ones have more. No Go in it. -/
import Derived.Test.YtinmoocnhgkleabFlInv
namespace Go.Proofs.Ytinmoocnhgkleab.Fl
open Fr Ns Ld
set_option linter.unusedSimpArgs false

/-- rates that fit, of which each flow has a narrow place; they are right, and above 0 -/
structure Fair (caps : List Int) (paths : List (List Int)) (x : List (Int × Int)) : Prop where
  len : x.length = paths.length
  right : ∀ f, f < paths.length → faultP (rP x f) = 0 ∧ 0 < xQ x f ∧ xQ x f ≤ 1000
  bottom : ∃ D : Int, 1 ≤ D ∧ D ≤ 46656 ∧ ∀ f, f < paths.length → Over D (rP x f)
  fits : FitsQ (usN paths) (capQ caps) caps.length paths.length (xQ x)
  neck : ∀ f, f < paths.length → NeckQ (usN paths) (capQ caps) caps.length (xQ x) f
/-- rounds at rates that rise -/
def Rises (x : Nat → Rat) : Rat → List (List Int) → Prop
  | _, [] => True
  | b, rd :: rest => rd ≠ [] ∧ ∃ v, b < v ∧ (∀ u ∈ rd, x u.toNat = v) ∧ Rises x v rest
def freeN (paths : List (List Int)) (done : List Bool) : Nat := (List.range paths.length).countP fun f => !dB done f

theorem six {a b : Nat} (h : a ≤ b) : (6 : Int) ^ a ≤ 6 ^ b := by
  have h1 : (6 : Nat) ^ a ≤ 6 ^ b := Nat.pow_le_pow_right (by decide) h
  have h2 : (((6 : Nat) ^ a : Nat) : Int) ≤ (((6 : Nat) ^ b : Nat) : Int) := Int.ofNat_le.2 h1
  simpa using h2
theorem inv_end {caps : List Int} {paths : List (List Int)} {rate : List (Int × Int)} {done : List Bool} {b : Rat} {D : Int} (hg : Good caps paths) (hi : Inv caps paths rate done b D) (hD : D ≤ 46656) (ha : ∀ f, f < paths.length → dB done f = true) : Fair caps paths rate := by
  have hle : ∀ f, f < paths.length → 0 < xQ rate f ∧ xQ rate f ≤ 1000 := by
    intro f hf
    have h1 := (hi.over f hf (ha f hf)).2.1
    obtain ⟨l, hl, hfl, _, hs, _⟩ := hi.neck f hf (ha f hf)
    have h2 := le_sumQ (x := xQ rate) (fun g hgl => by have := (hi.over g (usN_lt hgl) (ha g (usN_lt hgl))).2.1; grind) hfl
    have h3 := (capQ_bd hg.1 hl).2
    exact ⟨h1, by grind⟩
  refine ⟨hi.lr, fun f hf => ⟨?_, hle f hf⟩, ⟨D, hi.hD, hD, fun f hf => (hi.over f hf (ha f hf)).1⟩, ⟨fun f hf => Rat.le_of_lt (hle f hf).1, fun l hl => ?_⟩, fun f hf => ?_⟩
  · exact over_fault (hi.over f hf (ha f hf)).1 hi.hD (by omega) (Rat.le_of_lt (hle f hf).1) (hle f hf).2
  · rw [← sumQ_congr (x := lev done rate b) (y := xQ rate) (fun g hgl => by unfold lev; rw [ha g (usN_lt hgl)]; rfl)]
    exact hi.room l hl
  · obtain ⟨l, hl, hfl, _, hs, hm⟩ := hi.neck f hf (ha f hf)
    exact ⟨l, hl, hfl, hs, hm⟩

theorem all_done {done : List Bool} {n : Nat} (hl : done.length = n) : (done.all id = true) ↔ ∀ f, f < n → dB done f = true := by
  rw [List.all_eq_true]
  constructor
  · intro h f hf
    exact h _ (getD_mem done f (by omega) false)
  · intro h a ha
    obtain ⟨i, hi, rfl⟩ := List.mem_iff_getElem.1 ha
    have := h i (by omega)
    simpa [dB, List.getD, List.getElem?_eq_getElem hi] using this

theorem nodup_round {paths : List (List Int)} {done : List Bool} {nar : Nat → Bool} : (roundOf paths done nar).Nodup := by
  unfold roundOf
  have h1 : ((List.range paths.length).filter fun f => !dB done f && (paths.getD f []).any fun x => nar x.toNat).Nodup := List.Nodup.sublist List.filter_sublist List.nodup_range
  exact List.Pairwise.map (R := (· ≠ ·)) (S := (· ≠ ·)) _ (fun a b h e => h (by omega)) h1

theorem fill_spec {caps : List Int} {paths : List (List Int)} (hg : Good caps paths) : ∀ (fuel : Nat) (rate : List (Int × Int)) (done : List Bool) (b : Rat) (D : Int), Inv caps paths rate done b D → freeN paths done ≤ fuel → D * 6 ^ freeN paths done ≤ 46656 →
    Fair caps paths (fillFrom caps paths fuel rate done).1 ∧ (∀ f, f < paths.length → dB done f = true → rP (fillFrom caps paths fuel rate done).1 f = rP rate f) ∧
    Rises (xQ (fillFrom caps paths fuel rate done).1) b (fillFrom caps paths fuel rate done).2 ∧ (fillFrom caps paths fuel rate done).2.flatten.Nodup ∧
    (∀ u : Int, u ∈ (fillFrom caps paths fuel rate done).2.flatten ↔ ∃ f : Nat, u = f ∧ f < paths.length ∧ dB done f = false) := by
  intro fuel
  induction fuel with
  | zero =>
    intro rate done b D hi hf hD
    have h0 : freeN paths done = 0 := by omega
    have ha : ∀ f, f < paths.length → dB done f = true := by
      intro f hf
      unfold freeN at h0
      rw [List.countP_eq_zero] at h0
      simpa using h0 f (List.mem_range.2 hf)
    rw [h0] at hD
    simp only [fillFrom]
    refine ⟨inv_end hg hi (by omega) ha, fun _ _ _ => by first | rfl | trivial, trivial, by simp, fun u => ?_⟩
    simp only [List.flatten_nil, List.not_mem_nil, false_iff]
    rintro ⟨f, _, hf, hd⟩
    rw [ha f hf] at hd; cases hd
  | succ k ih =>
    intro rate done b D hi hf hD
    by_cases hall : done.all id = true
    · have ha := (all_done hi.ld).1 hall
      have h0 : freeN paths done = 0 := by
        unfold freeN
        rw [List.countP_eq_zero]
        intro f hf
        rw [ha f (List.mem_range.1 hf)]; decide
      rw [h0] at hD
      simp only [fillFrom]
      rw [if_pos hall]
      refine ⟨inv_end hg hi (by omega) ha, fun _ _ _ => by first | rfl | trivial, trivial, by simp, fun u => ?_⟩
      simp only [List.flatten_nil, List.not_mem_nil, false_iff]
      rintro ⟨f, _, hf, hd⟩
      rw [ha f hf] at hd; cases hd
    · have hex : ∃ f, f < paths.length ∧ dB done f = false := by
        apply Classical.byContradiction
        intro hn
        exact hall ((all_done hi.ld).2 fun f hf => by
          cases hd : dB done f with
          | true => rfl
          | false => exact absurd ⟨f, hf, hd⟩ hn)
      obtain ⟨bst, hbest, hbv, hne, kk, hk1, hk6, hi'⟩ := inv_step hg hi hex
      have hround : ∀ f : Nat, (f : Int) ∈ roundOf paths done (narOf (shareOf caps paths rate done) caps.length) → f < paths.length ∧ dB done f = false := fun f h => ⟨(mem_round.1 h).1, (mem_round.1 h).2.1⟩
      have hnat : ∀ u ∈ roundOf paths done (narOf (shareOf caps paths rate done) caps.length), ∃ f : Nat, u = f ∧ f < paths.length := fun u h => round_nat h
      have hnd : (roundOf paths done (narOf (shareOf caps paths rate done) caps.length)).Nodup := nodup_round
      simp only [fillFrom]
      rw [if_neg hall, hbest]
      simp only
      generalize roundOf paths done (narOf (shareOf caps paths rate done) caps.length) = rd at *
      have hdB : ∀ f, f < paths.length → dB (setDone done rd) f = (decide ((f : Int) ∈ rd) || dB done f) := fun f h => dB_setDone (by rw [hi.ld]; exact h)
      obtain ⟨u0, hu0⟩ := List.exists_mem_of_ne_nil _ hne
      obtain ⟨f1, rfl, hf1⟩ := hnat u0 hu0
      have hlt : freeN paths (setDone done rd) < freeN paths done := by
        refine countP_lt (f := f1) (fun g hg' hp => ?_) (List.mem_range.2 hf1) ?_ ?_
        · rw [hdB g (List.mem_range.1 hg')] at hp
          simp only [Bool.not_or, Bool.and_eq_true] at hp
          exact hp.2
        · rw [hdB f1 hf1]; simp [hu0]
        · rw [(hround f1 hu0).2]; rfl
      have hpow : D * (kk : Int) * 6 ^ freeN paths (setDone done rd) ≤ 46656 := by
        have e1 : (6 : Int) ^ (freeN paths (setDone done rd) + 1) ≤ 6 ^ freeN paths done := by
          exact six (by omega)
        have p0 : (0 : Int) ≤ 6 ^ freeN paths (setDone done rd) := Int.le_of_lt (Int.pow_pos (by decide))
        have e2 : (kk : Int) * 6 ^ freeN paths (setDone done rd) ≤ 6 ^ freeN paths done := by
          have h6 : (kk : Int) * 6 ^ freeN paths (setDone done rd) ≤ 6 * 6 ^ freeN paths (setDone done rd) := Int.mul_le_mul_of_nonneg_right (by omega) p0
          rw [Int.pow_succ] at e1
          omega
        have e3 : D * ((kk : Int) * 6 ^ freeN paths (setDone done rd)) ≤ D * 6 ^ freeN paths done := Int.mul_le_mul_of_nonneg_left e2 (by have := hi.hD; omega)
        rw [Int.mul_assoc]
        omega
      obtain ⟨i1, i2, i3, i4, i5⟩ := ih _ _ _ _ hi' (by omega) hpow
      generalize fillFrom caps paths k (setRate rate rd bst) (setDone done rd) = z at *
      refine ⟨i1, fun f hf hd => ?_, ⟨hne, val bst, hbv, fun u hu => ?_, i3⟩, ?_, fun u => ?_⟩
      · rw [i2 f hf (by rw [hdB f hf, hd]; simp), rP_setRate (by rw [hi.lr]; exact hf), if_neg]
        intro h
        have := (hround f h).2
        rw [hd] at this; cases this
      · obtain ⟨f, rfl, hf⟩ := hnat u hu
        have e : ((f : Int)).toNat = f := by omega
        rw [e]
        unfold xQ
        rw [i2 f hf (by rw [hdB f hf]; simp [hu]), rP_setRate (by rw [hi.lr]; exact hf), if_pos hu]
      · rw [List.flatten_cons, List.nodup_append]
        refine ⟨hnd, i4, fun a ha c hc e => ?_⟩
        subst e
        obtain ⟨f, rfl, hf, hd⟩ := (i5 a).1 hc
        rw [hdB f hf] at hd
        simp [ha] at hd
      · rw [List.flatten_cons, List.mem_append, i5 u]
        constructor
        · rintro (h | ⟨f, rfl, hf, hd⟩)
          · obtain ⟨f, rfl, hf⟩ := hnat u h
            exact ⟨f, rfl, hf, (hround f h).2⟩
          · rw [hdB f hf] at hd
            simp only [Bool.or_eq_false_iff] at hd
            exact ⟨f, rfl, hf, hd.2⟩
        · rintro ⟨f, rfl, hf, hd⟩
          by_cases h : (f : Int) ∈ rd
          · exact .inl h
          · exact .inr ⟨f, rfl, hf, by rw [hdB f hf]; simp [h, hd]⟩

/-- rates that rise together are fair, and their rounds are as the document says -/
theorem fill_fair {caps : List Int} {paths : List (List Int)} (hg : Good caps paths) :
    Fair caps paths (fill caps paths).1 ∧ Rises (xQ (fill caps paths).1) 0 (fill caps paths).2 ∧ (fill caps paths).2.flatten.Nodup ∧ (∀ u : Int, u ∈ (fill caps paths).2.flatten ↔ ∃ f : Nat, u = f ∧ f < paths.length) := by
  have hd : ∀ f, dB (List.replicate paths.length false) f = false := fun f => by
    unfold dB
    simp only [List.getD, List.getElem?_replicate]
    split <;> rfl
  have hfn : freeN paths (List.replicate paths.length false) ≤ paths.length := by
    unfold freeN
    exact Nat.le_trans List.countP_le_length (by simp)
  have hpow : (1 : Int) * 6 ^ freeN paths (List.replicate paths.length false) ≤ 46656 := by
    rw [Int.one_mul]
    have h1 : (6 : Int) ^ freeN paths (List.replicate paths.length false) ≤ 6 ^ 6 := six (Nat.le_trans hfn hg.2.2.1)
    have h2 : (6 : Int) ^ 6 = 46656 := by decide
    omega
  obtain ⟨h1, _, h3, h4, h5⟩ := fill_spec hg paths.length _ _ 0 1 (inv_start hg) hfn hpow
  refine ⟨h1, h3, h4, fun u => ?_⟩
  rw [show (fill caps paths).2 = (fillFrom caps paths paths.length (List.replicate paths.length (0, 0)) (List.replicate paths.length false)).2 from rfl, h5 u]
  constructor
  · rintro ⟨f, e, hf, _⟩; exact ⟨f, e, hf⟩
  · rintro ⟨f, e, hf⟩; exact ⟨f, e, hf, hd f⟩
end Go.Proofs.Ytinmoocnhgkleab.Fl
