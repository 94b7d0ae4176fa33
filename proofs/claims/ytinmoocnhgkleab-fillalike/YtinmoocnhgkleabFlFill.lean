/- All rise together: the document's rounds as plain lists, and what each step of them is. No Go in it. -/
import Derived.Test.YtinmoocnhgkleabFaPlain
namespace Go.Proofs.Ytinmoocnhgkleab.Fl
open Fr Ns Ld
set_option linter.unusedSimpArgs false

def dB (done : List Bool) (f : Nat) : Bool := done.getD f false
def rP (rate : List (Int × Int)) (f : Nat) : Int × Int := rate.getD f (0, 0)
def negP (a : Int × Int) : Int × Int := (-a.1, a.2)
/-- what a link takes, less the rates of those that are not free, and how many are free -/
def linkSum (rate : List (Int × Int)) (done : List Bool) : List Int → Int × Int → Nat → (Int × Int) × Nat
  | [], s, k => (s, k)
  | u :: us, s, k => if dB done u.toNat then linkSum rate done us (sumP s (negP (rP rate u.toNat))) k else linkSum rate done us s (k + 1)
/-- a fraction's k-th part -/
def partP (s : Int × Int) (k : Int) : Int × Int := (lowT s.1 (s.2 * k), lowB s.1 (s.2 * k))
def shareOf (caps : List Int) (paths : List (List Int)) (rate : List (Int × Int)) (done : List Bool) (l : Nat) : Option (Int × Int) :=
  if (linkSum rate done (users paths l) (caps.getD l 0, 1) 0).2 = 0 then none
  else some (partP (linkSum rate done (users paths l) (caps.getD l 0, 1) 0).1 ((linkSum rate done (users paths l) (caps.getD l 0, 1) 0).2 : Nat))
/-- the least one of the first so many -/
def bestOf (sh : Nat → Option (Int × Int)) : Nat → Option (Int × Int)
  | 0 => none
  | n + 1 => match sh n, bestOf sh n with
    | none, b => b
    | some s, none => some s
    | some s, some b => if s.1 * b.2 < b.1 * s.2 then some s else some b
/-- the free flows that go over a link with that share -/
def roundOf (paths : List (List Int)) (done : List Bool) (nar : Nat → Bool) : List Int :=
  ((List.range paths.length).filter fun f => !dB done f && (paths.getD f []).any fun x => nar x.toNat).map (fun f : Nat => (f : Int))
def setRate (rate : List (Int × Int)) (rd : List Int) (b : Int × Int) : List (Int × Int) := (List.range rate.length).map fun f : Nat => if rd.contains (f : Int) then b else rP rate f
def setDone (done : List Bool) (rd : List Int) : List Bool := (List.range done.length).map fun f : Nat => rd.contains (f : Int) || dB done f
def narOf (sh : Nat → Option (Int × Int)) (n : Nat) (l : Nat) : Bool := decide (l < n) && (sh l).isSome && decide (sh l = bestOf sh n)
def fillFrom (caps : List Int) (paths : List (List Int)) : Nat → List (Int × Int) → List Bool → List (Int × Int) × List (List Int)
  | 0, rate, _ => (rate, [])
  | k + 1, rate, done => if done.all id then (rate, []) else
    match bestOf (shareOf caps paths rate done) caps.length with
    | none => (rate, [])
    | some b => ((fillFrom caps paths k (setRate rate (roundOf paths done (narOf (shareOf caps paths rate done) caps.length)) b) (setDone done (roundOf paths done (narOf (shareOf caps paths rate done) caps.length)))).1,
        roundOf paths done (narOf (shareOf caps paths rate done) caps.length) :: (fillFrom caps paths k (setRate rate (roundOf paths done (narOf (shareOf caps paths rate done) caps.length)) b) (setDone done (roundOf paths done (narOf (shareOf caps paths rate done) caps.length)))).2)
def fill (caps : List Int) (paths : List (List Int)) : List (Int × Int) × List (List Int) := fillFrom caps paths paths.length (List.replicate paths.length (0, 0)) (List.replicate paths.length false)

def xQ (rate : List (Int × Int)) (f : Nat) : Rat := val (rP rate f)
/-- what each has, if those that are free have t -/
def lev (done : List Bool) (rate : List (Int × Int)) (t : Rat) (u : Nat) : Rat := if dB done u then xQ rate u else t
/-- who goes over a link -/
def usN (paths : List (List Int)) (l : Nat) : List Nat := (users paths l).map Int.toNat
def capQ (caps : List Int) (l : Nat) : Rat := ((caps.getD l 0 : Int) : Rat)

/-- a net whose links and paths are right; there may be more links than a net's -/
def Good (caps : List Int) (paths : List (List Int)) : Prop :=
  (∀ c ∈ caps, 1 ≤ c ∧ c ≤ 1000) ∧ (∀ p ∈ paths, p ≠ [] ∧ ∀ x ∈ p, 0 ≤ x ∧ x < caps.length) ∧ paths.length ≤ 6 ∧ 0 < paths.length

/-! ### who goes over a link -/
theorem usersFrom_iff (link : Int) : ∀ (l : List (List Int)) (i : Nat) (f : Nat), ((i + f : Nat) : Int) ∈ usersFrom link i l ↔ f < l.length ∧ inB (l.getD f []) link = true := by
  intro l
  induction l with
  | nil => intro i f; simp [usersFrom]
  | cons p r ih =>
    intro i f
    cases f with
    | zero =>
      have hno : ((i : Nat) : Int) ∉ usersFrom link (i + 1) r := fun h => by
        have := usersFrom_mem link r (i + 1) _ h
        omega
      simp only [usersFrom, Nat.add_zero]
      split
      · rename_i hp; simp [hp]
      · rename_i hp; simp [hno, hp]
    | succ f =>
      have e : i + (f + 1) = (i + 1) + f := by omega
      rw [e]
      simp only [usersFrom]
      have := ih (i + 1) f
      split
      · rw [List.mem_cons, this]
        have hne : ¬ (((i + 1 + f : Nat) : Int) = (i : Int)) := by omega
        simp only [hne, false_or]
        simp
      · rw [this]; simp
theorem usN_iff {paths : List (List Int)} {l f : Nat} : f ∈ usN paths l ↔ f < paths.length ∧ inB (paths.getD f []) (l : Int) = true := by
  have := usersFrom_iff (l : Int) paths 0 f
  rw [Nat.zero_add] at this
  unfold usN users
  rw [← this, List.mem_map]
  constructor
  · rintro ⟨a, ha, rfl⟩
    have h2 := usersFrom_mem (l : Int) paths 0 a ha
    have : ((a.toNat : Nat) : Int) = a := by omega
    rw [this]; exact ha
  · intro h
    exact ⟨_, h, by simp⟩
theorem usN_lt {paths : List (List Int)} {l f : Nat} (h : f ∈ usN paths l) : f < paths.length := (usN_iff.1 h).1

/-! ### a link's share -/
theorem lev_lin (done : List Bool) (rate : List (Int × Int)) (s t : Rat) : ∀ us : List Nat, sumQ (lev done rate s) us = sumQ (lev done rate t) us + (s - t) * ((us.countP fun u => !dB done u : Nat) : Rat) := by
  intro us
  induction us with
  | nil => simp [sumQ]; grind
  | cons u us ih =>
    simp only [sumQ, List.countP_cons]
    rw [ih]
    unfold lev
    cases dB done u with
    | true => simp; grind
    | false =>
      simp only [Bool.not_false, if_true, Bool.false_eq_true, if_false]
      rw [Rat.natCast_add]
      grind
theorem linkSum_spec (rate : List (Int × Int)) (done : List Bool) (D : Int) : ∀ (us : List Int) (s : Int × Int) (k : Nat), Over D s → (∀ u ∈ us, dB done u.toNat = true → Over D (rP rate u.toNat)) →
    Over D (linkSum rate done us s k).1 ∧ (linkSum rate done us s k).2 = k + (us.map Int.toNat).countP (fun u => !dB done u) ∧ sumQ (lev done rate 0) (us.map Int.toNat) = val s - val (linkSum rate done us s k).1 := by
  intro us
  induction us with
  | nil => intro s k hs _; refine ⟨hs, by simp [linkSum], ?_⟩; simp only [linkSum, sumQ, List.map_nil]; grind
  | cons u us ih =>
    intro s k hs h
    simp only [linkSum, List.map_cons, sumQ, List.countP_cons]
    by_cases hd : dB done u.toNat = true
    · have hr := h u (by simp) hd
      have hn : Over D (negP (rP rate u.toNat)) := over_neg hr
      obtain ⟨h1, h2, h3⟩ := ih (sumP s (negP (rP rate u.toNat))) k (over_sum hs hn) (fun v hv => h v (by simp [hv]))
      rw [if_pos hd]
      refine ⟨h1, ?_, ?_⟩
      · rw [h2, hd]; simp
      · rw [h3, val_sum hs.1 hn.1]
        have : val (negP (rP rate u.toNat)) = - xQ rate u.toNat := val_neg _
        rw [this]
        simp only [lev, hd, if_true]
        grind
    · obtain ⟨h1, h2, h3⟩ := ih s (k + 1) hs (fun v hv => h v (by simp [hv]))
      rw [if_neg hd]
      have hd' : dB done u.toNat = false := by simpa using hd
      refine ⟨h1, ?_, ?_⟩
      · rw [h2, hd']; simp; omega
      · rw [h3]
        simp only [lev, hd', Bool.false_eq_true, if_false]
        grind
theorem share_some {caps : List Int} {paths : List (List Int)} {rate : List (Int × Int)} {done : List Bool} {D : Int} {l : Nat} {s : Int × Int} (hr : ∀ f, f < paths.length → dB done f = true → Over D (rP rate f)) (h : shareOf caps paths rate done l = some s) :
    sumQ (lev done rate (val s)) (usN paths l) = capQ caps l ∧ (∃ u ∈ usN paths l, dB done u = false) ∧ ∃ k : Nat, 1 ≤ k ∧ k ≤ paths.length ∧ Over (D * k) s := by
  have hsp := linkSum_spec rate done D (users paths l) (caps.getD l 0, 1) 0 (over_whole D _) (fun u hu hd => hr _ (by have := users_mem hu; omega) hd)
  unfold shareOf at h
  have e0 : (users paths l).map Int.toNat = usN paths l := rfl
  rw [e0] at hsp
  revert h hsp
  generalize linkSum rate done (users paths l) (caps.getD l 0, 1) 0 = z
  intro h hsp
  obtain ⟨h1, h2, h3⟩ := hsp
  split at h
  · cases h
  · rename_i hk
    obtain rfl := Option.some.inj h
    have hk1 : 1 ≤ z.2 := by omega
    have hle : z.2 ≤ paths.length := by
      rw [h2, Nat.zero_add]
      refine Nat.le_trans List.countP_le_length ?_
      have := users_length (l : Int) 0 paths
      unfold usN users
      rw [List.length_map]
      exact this
    refine ⟨?_, ?_, z.2, hk1, hle, over_part h1 (by omega)⟩
    · have hp := val_part (t := z.1.1) (b := z.1.2) (k := (z.2 : Int)) h1.1 (by omega)
      have hz : val (z.1.1, z.1.2) = val z.1 := rfl
      rw [hz] at hp
      rw [lev_lin done rate _ 0, h3, val_whole]
      have hc : ((usN paths l).countP fun u => !dB done u) = z.2 := by rw [h2, Nat.zero_add]
      rw [hc]
      have : ((z.2 : Nat) : Rat) = (((z.2 : Nat) : Int) : Rat) := by rw [Rat.intCast_natCast]
      rw [this]
      unfold partP capQ
      grind
    · apply Classical.byContradiction
      intro hn
      have : (usN paths l).countP (fun u => !dB done u) = 0 := by
        rw [List.countP_eq_zero]
        intro u hu hd
        exact hn ⟨u, hu, by simpa using hd⟩
      omega
theorem share_none {caps : List Int} {paths : List (List Int)} {rate : List (Int × Int)} {done : List Bool} {D : Int} {l : Nat} (hr : ∀ f, f < paths.length → dB done f = true → Over D (rP rate f)) (h : shareOf caps paths rate done l = none) :
    ∀ u ∈ usN paths l, dB done u = true := by
  have hsp := linkSum_spec rate done D (users paths l) (caps.getD l 0, 1) 0 (over_whole D _) (fun u hu hd => hr _ (by have := users_mem hu; omega) hd)
  unfold shareOf at h
  split at h
  · rename_i hk
    intro u hu
    have : (usN paths l).countP (fun u => !dB done u) = 0 := by
      have := hsp.2.1
      rw [hk] at this
      unfold usN
      omega
    rw [List.countP_eq_zero] at this
    simpa using this u hu
  · cases h
theorem best_some {sh : Nat → Option (Int × Int)} (hp : ∀ l s, sh l = some s → 1 ≤ s.2) : ∀ (n : Nat) (b : Int × Int), bestOf sh n = some b → (∃ l, l < n ∧ sh l = some b) ∧ ∀ l s, l < n → sh l = some s → val b ≤ val s := by
  intro n
  induction n with
  | zero => intro b h; simp [bestOf] at h
  | succ n ih =>
    intro b h
    unfold bestOf at h
    cases hs : sh n with
    | none =>
      rw [hs] at h
      obtain ⟨⟨l, hl, hb⟩, hm⟩ := ih b h
      refine ⟨⟨l, by omega, hb⟩, fun l s hl hs' => ?_⟩
      by_cases e : l = n
      · rw [e, hs] at hs'; cases hs'
      · exact hm l s (by omega) hs'
    | some s =>
      rw [hs] at h
      cases hb : bestOf sh n with
      | none =>
        rw [hb] at h
        obtain rfl := Option.some.inj h
        refine ⟨⟨n, by omega, hs⟩, fun l t hl ht => ?_⟩
        by_cases e : l = n
        · rw [e, hs] at ht; cases ht; exact Rat.le_refl
        · exfalso
          have hno : ∀ m, bestOf sh m = none → ∀ l, l < m → sh l = none := by
            intro m
            induction m with
            | zero => intro _ l hl; omega
            | succ m ihm =>
              intro hm l hl
              unfold bestOf at hm
              cases hsm : sh m with
              | none =>
                rw [hsm] at hm
                by_cases e : l = m
                · rw [e]; exact hsm
                · exact ihm hm l (by omega)
              | some x =>
                rw [hsm] at hm
                cases hbm : bestOf sh m with
                | none => rw [hbm] at hm; cases hm
                | some y => rw [hbm] at hm; simp only at hm; split at hm <;> cases hm
          have := hno n hb l (by omega)
          rw [this] at ht; cases ht
      | some b0 =>
        rw [hb] at h
        obtain ⟨⟨l0, hl0, hb0⟩, hm⟩ := ih b0 hb
        have p1 := hp n s hs
        have p2 := hp l0 b0 hb0
        simp only at h
        split at h
        · rename_i hlt
          obtain rfl := Option.some.inj h
          have hv : val s < val b0 := (cross_lt p1 p2).2 hlt
          refine ⟨⟨n, by omega, hs⟩, fun l t hl ht => ?_⟩
          by_cases e : l = n
          · rw [e, hs] at ht; cases ht; exact Rat.le_refl
          · have := hm l t (by omega) ht
            grind
        · rename_i hlt
          obtain rfl := Option.some.inj h
          have hv : ¬ val s < val b0 := fun h => hlt ((cross_lt p1 p2).1 h)
          refine ⟨⟨l0, by omega, hb0⟩, fun l t hl ht => ?_⟩
          by_cases e : l = n
          · rw [e, hs] at ht; cases ht; grind
          · exact hm l t (by omega) ht
theorem best_none {sh : Nat → Option (Int × Int)} : ∀ m, bestOf sh m = none → ∀ l, l < m → sh l = none := by
  intro m
  induction m with
  | zero => intro _ l hl; omega
  | succ m ihm =>
    intro hm l hl
    unfold bestOf at hm
    cases hsm : sh m with
    | none =>
      rw [hsm] at hm
      by_cases e : l = m
      · rw [e]; exact hsm
      · exact ihm hm l (by omega)
    | some x =>
      rw [hsm] at hm
      cases hbm : bestOf sh m with
      | none => rw [hbm] at hm; cases hm
      | some y => rw [hbm] at hm; simp only at hm; split at hm <;> cases hm
end Go.Proofs.Ytinmoocnhgkleab.Fl
