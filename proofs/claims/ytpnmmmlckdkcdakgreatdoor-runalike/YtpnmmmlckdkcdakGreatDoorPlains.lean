/- Facts and contracts that the walks lean on, one text behind the other; no walk of Go in them. -/
import Derived.Test.YtpnmmmlckdkcdakGreatDoorPlainsB
import Derived.RangeFuncNested
import Derived.RangeFuncBound
import Derived.RangeFuncCalls
import Derived.RangeFuncLeaves
import Derived.LaidEql
import Derived.Stop.Asserts
import Derived.RowKitTokens
import Derived.Deep.Cut
/- Parts given one by one: what they are behind so many. No Go in it. -/
namespace Go.Proofs.YtpnmmmlckdkcdakGreatDoor.Ev
open Fr Ns Ld Fl
set_option linter.unusedSimpArgs false
set_option linter.unusedVariables false

/-- the numbers, of which the first k in order have one more -/
def outK (key base : Nat → Int) (n k : Nat) : List Int := (List.range n).map fun i => base i + if decide (rankK key n i < k) then 1 else 0
/-- who has one more -/
def gotK (key : Nat → Int) (n k : Nat) : List Bool := (List.range n).map fun i => decide (rankK key n i < k)
def bestI (o : Option Nat) : Int := match o with | none => -1 | some b => b
theorem outK_length (key base : Nat → Int) (n k : Nat) : (outK key base n k).length = n := by simp [outK]
theorem gotK_length (key : Nat → Int) (n k : Nat) : (gotK key n k).length = n := by simp [gotK]
theorem outK_0 (key base : Nat → Int) (n : Nat) : outK key base n 0 = (List.range n).map base := by
  unfold outK
  refine List.map_congr_left fun i _ => ?_
  simp
theorem gotK_0 (key : Nat → Int) (n : Nat) : gotK key n 0 = List.replicate n false := by
  unfold gotK
  apply List.ext_getElem
  · simp
  · intro i h1 h2; simp
theorem gotK_at {key : Nat → Int} {n k i : Nat} (h : i < n) : (gotK key n k).getD i false = decide (rankK key n i < k) := by
  simp [gotK, List.getD, List.getElem?_map, List.getElem?_range h]
theorem outK_at {key base : Nat → Int} {n k i : Nat} (h : i < n) : (outK key base n k).getD i 0 = base i + if decide (rankK key n i < k) then 1 else 0 := by
  simp [outK, List.getD, List.getElem?_map, List.getElem?_range h]
/-- the next one: it is the first of those that are left, and has none yet -/
theorem step_K {key base : Nat → Int} {n k : Nat} (hk : k < n) : ∃ b, bestK key (fun i => (gotK key n k).getD i false) n = some b ∧ b < n ∧ (outK key base n k).getD b 0 = base b ∧ (gotK key n k).getD b false = false ∧
    outK key base n (k + 1) = (outK key base n k).set b (base b + 1) ∧ gotK key n (k + 1) = (gotK key n k).set b true := by
  obtain ⟨b, hb, hbn, hr⟩ := (rank_count key n k (by omega)).2 hk
  have hcong : ∀ m, m ≤ n → bestK key (fun i => (gotK key n k).getD i false) m = bestK key (fun i => decide (rankK key n i < k)) m := by
    intro m
    induction m with
    | zero => intro _; rfl
    | succ m ih =>
      intro hm
      have e : (gotK key n k).getD m false = decide (rankK key n m < k) := gotK_at (by omega)
      simp only [bestK, ih (by omega), e]
  have hiff : ∀ i, i < n → (rankK key n i < k + 1 ↔ rankK key n i < k ∨ i = b) := by
    intro i hi
    constructor
    · intro h
      by_cases e : rankK key n i = k
      · exact .inr (rank_inj hi hbn (by rw [e, hr]))
      · exact .inl (by omega)
    · rintro (h | rfl)
      · omega
      · omega
  refine ⟨b, by rw [hcong n (Nat.le_refl _)]; exact hb, hbn, ?_, ?_, ?_, ?_⟩
  · rw [outK_at hbn, hr]; simp
  · rw [gotK_at hbn, hr]; simp
  · apply List.ext_getElem
    · simp [outK]
    · intro i h1 h2
      simp only [outK, List.length_map, List.length_range] at h1
      rw [List.getElem_set]
      simp only [outK, List.getElem_map, List.getElem_range]
      by_cases e : b = i
      · subst e
        rw [if_pos rfl, hr]
        simp
      · rw [if_neg e]
        have := hiff i h1
        congr 1
        by_cases h3 : rankK key n i < k
        · rw [decide_eq_true h3, decide_eq_true (by omega)]
        · rw [decide_eq_false h3, decide_eq_false (by omega)]
  · apply List.ext_getElem
    · simp [gotK]
    · intro i h1 h2
      simp only [gotK, List.length_map, List.length_range] at h1
      rw [List.getElem_set]
      simp only [gotK, List.getElem_map, List.getElem_range]
      by_cases e : b = i
      · subst e
        rw [if_pos rfl, hr]
        simp
      · rw [if_neg e]
        have := hiff i h1
        by_cases h3 : rankK key n i < k
        · rw [decide_eq_true h3, decide_eq_true (by omega)]
        · rw [decide_eq_false h3, decide_eq_false (by omega)]
/-- the scan for the first of those that are left, step by step -/
theorem scan_got {key : Nat → Int} {got : Nat → Bool} {m : Nat} (h : got m = true) : bestK key got (m + 1) = bestK key got m := by
  simp only [bestK, h]
  cases bestK key got m <;> simp
theorem scan_first {key : Nat → Int} {got : Nat → Bool} {m : Nat} (h : got m = false) (hn : bestK key got m = none) : bestK key got (m + 1) = some m := by simp [bestK, h, hn]
theorem scan_new {key : Nat → Int} {got : Nat → Bool} {m b : Nat} (h : got m = false) (hn : bestK key got m = some b) (hl : key m < key b) : bestK key got (m + 1) = some m := by simp [bestK, h, hn, hl]
theorem scan_old {key : Nat → Int} {got : Nat → Bool} {m b : Nat} (hn : bestK key got m = some b) (hl : ¬ key m < key b) : bestK key got (m + 1) = some b := by simp [bestK, hn, hl]
theorem scan_lt {key : Nat → Int} {got : Nat → Bool} {m b : Nat} (h : bestK key got m = some b) : b < m := ((best_spec key got m).1 b h).1
theorem splitL_out {many : Int} {w : List Int} : splitL many w = outK (keyG many w) (fun i => baseG many (tot w) (w.getD i 0)) w.length (leftG many w).toNat := rfl
theorem shufL_out {l : List Int} {part : Int} : shufL l part = outK (fun i => l.getD i 0) (fun i => l.getD i 0 - takeS part (l.getD i 0) + allS l part / l.length) l.length (allS l part % l.length).toNat := rfl
theorem mem_tot {l : List Int} (hb : ∀ x ∈ l, 0 ≤ x) : ∀ x ∈ l, x ≤ tot l := by
  induction l with
  | nil => intro x hx; simp at hx
  | cons y r ih =>
    have h1 : ∀ x ∈ r, 0 ≤ x := fun x hx => hb x (by simp [hx])
    have h2 : 0 ≤ tot r := by
      clear ih
      induction r with
      | nil => simp [tot]
      | cons z r' ih' =>
        have := ih' (fun x hx => hb x (by simp at hx ⊢; rcases hx with h | h <;> simp [h])) (fun x hx => h1 x (by simp [hx]))
        have := h1 z (by simp)
        simp only [tot]; omega
    intro x hx
    simp only [tot]
    have hy := hb y (by simp)
    rcases List.mem_cons.1 hx with rfl | hx
    · omega
    · have := ih h1 x hx; omega
/-- a part is no more than all, and one -/
theorem part_bd {many : Int} {w : List Int} (h : idxE w = 0) (m0 : 0 ≤ many) {i : Nat} (hi : i < w.length) : 0 ≤ baseG many (tot w) (w.getD i 0) ∧ baseG many (tot w) (w.getD i 0) ≤ many := by
  obtain ⟨t1, _, _, hb⟩ := idx_tot h
  have hm := getD_mem w i hi 0
  have h1 := hb _ hm
  have h2 := mem_tot (fun x hx => (hb x hx).1) _ hm
  unfold baseG
  refine ⟨Int.ediv_nonneg (Int.mul_nonneg m0 h1.1) (by omega), ?_⟩
  have : many * w.getD i 0 ≤ many * tot w := Int.mul_le_mul_of_nonneg_left h2 m0
  have := Int.ediv_le_ediv (show 0 < tot w by omega) this
  rwa [Int.mul_ediv_cancel _ (by omega)] at this
def absM (many : Int) : Int := if many < 0 then -many else many
theorem splitS_at {many : Int} {w : List Int} {i : Nat} (hi : i < w.length) : (splitS many w).getD i 0 = if many < 0 then -(splitL (absM many) w).getD i 0 else (splitL (absM many) w).getD i 0 := by
  unfold splitS absM
  split
  · simp [List.getD, List.getElem?_map, List.getElem?_eq_getElem (show i < (splitL (-many) w).length by rw [splitL_length]; exact hi)]
  · rfl
/-- what each part is -/
theorem part_at {many : Int} {w : List Int} (h : splitE many w = 0) {i : Nat} (hi : i < w.length) : ∃ B p : Int, baseG (absM many) (tot w) (w.getD i 0) = B ∧ (splitL (absM many) w).getD i 0 = p ∧ 0 ≤ B ∧ B ≤ 10000 ∧ B ≤ p ∧ p ≤ B + 1 ∧ (w.getD i 0 = 0 → p = 0) := by
  obtain ⟨h1, h2, h3⟩ := splitE_0 h
  have m0 : 0 ≤ absM many := by unfold absM; split <;> omega
  have m1 : absM many ≤ 10000 := by unfold absM; split <;> omega
  obtain ⟨b0, b1⟩ := part_bd h1 m0 hi
  obtain ⟨p1, p2, p3⟩ := split_part m0 (idx_tot h1).1 hi
  exact ⟨_, _, rfl, rfl, b0, by omega, p1, p2, p3⟩
end Go.Proofs.YtpnmmmlckdkcdakGreatDoor.Ev

/- One up, all down: a step, so many of them, and what becomes of the gap. No Go in it. -/
namespace Go.Proofs.YtpnmmmlckdkcdakGreatDoor.Ev
open Fr Ns Ld Fl
set_option linter.unusedSimpArgs false
set_option linter.unusedVariables false

def knobs (limit up : Int) : Bool := decide (1 ≤ limit) && decide (limit ≤ 1000) && decide (1 ≤ up) && decide (up ≤ 1000)
def over (up : Int) (x : Int) : Bool := decide (10000 < x + up)
def stepE (l : List Int) (limit up : Int) : Int :=
  if few l 10000 = 0 then if knobs limit up then if limit < tot l then 0 else if l.any (over up) then 4 else 0 else 1 else few l 10000
def stepL (l : List Int) (limit up : Int) : List Int := if limit < tot l then l.map (· / 2) else l.map (· + up)
def oneO (limit up : Int) (p : List Int × Nat) : Option (List Int × Nat) := if stepE p.1 limit up = 0 then some (stepL p.1 limit up, p.2 + if limit < tot p.1 then 1 else 0) else none
def stAt (l : List Int) (limit up : Int) : Nat → Option (List Int × Nat)
  | 0 => some (l, 0)
  | k + 1 => (stAt l limit up k).bind (oneO limit up)
def runE (l : List Int) (limit up ticks : Int) : Int :=
  if ticks < 0 ∨ 60 < ticks then 1
  else if few l 10000 = 0 then if knobs limit up then if (stAt l limit up ticks.toNat).isSome then 0 else 4 else 1 else few l 10000
def runL (l : List Int) (limit up ticks : Int) : List Int := ((stAt l limit up ticks.toNat).getD ([], 0)).1
def runC (l : List Int) (limit up ticks : Int) : Nat := ((stAt l limit up ticks.toNat).getD ([], 0)).2

theorem knobs_iff {limit up : Int} : knobs limit up = true ↔ 1 ≤ limit ∧ limit ≤ 1000 ∧ 1 ≤ up ∧ up ≤ 1000 := by simp [knobs, and_assoc]
theorem stepE_0 {l : List Int} {limit up : Int} (h : stepE l limit up = 0) : few l 10000 = 0 ∧ knobs limit up = true ∧ (limit < tot l ∨ ∀ x ∈ l, x + up ≤ 10000) := by
  unfold stepE at h
  split at h
  · split at h
    · split at h
      · exact ⟨by assumption, by assumption, .inl (by assumption)⟩
      · split at h
        · omega
        · rename_i h1 h2 h3 h4
          refine ⟨h1, h2, .inr fun x hx => ?_⟩
          rw [Bool.not_eq_true, List.any_eq_false] at h4
          have := h4 x hx
          simp [over] at this
          omega
    · omega
  · contradiction
theorem stepE_kind {l : List Int} {limit up : Int} (h1 : few l 10000 = 0) (h2 : knobs limit up = true) : stepE l limit up = 0 ∨ stepE l limit up = 4 := by
  unfold stepE
  rw [if_pos h1, if_pos h2]
  split
  · exact .inl rfl
  · split
    · exact .inr rfl
    · exact .inl rfl
theorem stepL_length (l : List Int) (limit up : Int) : (stepL l limit up).length = l.length := by
  unfold stepL; split <;> simp
theorem step_few {l : List Int} {limit up : Int} (h : stepE l limit up = 0) : few (stepL l limit up) 10000 = 0 := by
  obtain ⟨h1, h2, h3⟩ := stepE_0 h
  obtain ⟨n1, n2, hb⟩ := few_0.1 h1
  have hk := knobs_iff.1 h2
  refine few_0.2 ⟨by rw [stepL_length]; exact n1, by rw [stepL_length]; exact n2, fun x hx => ?_⟩
  unfold stepL at hx
  split at hx
  · obtain ⟨y, hy, rfl⟩ := List.mem_map.1 hx
    have := hb y hy
    omega
  · obtain ⟨y, hy, rfl⟩ := List.mem_map.1 hx
    have := hb y hy
    rcases h3 with h3 | h3
    · contradiction
    · have := h3 y hy
      omega

/-- so many times the half, rounded up -/
def halves : Nat → Int → Int
  | 0, g => g
  | n + 1, g => (halves n g + 1) / 2
theorem halves_nonneg (n : Nat) {g : Int} (h : 0 ≤ g) : 0 ≤ halves n g := by
  induction n with
  | zero => exact h
  | succ n ih => simp only [halves]; omega
/-- of what is no more than 1 the half, rounded up, is itself -/
theorem halves_small (n : Nat) {g : Int} (h0 : 0 ≤ g) (h1 : g ≤ 1) : halves n g = g := by
  induction n with
  | zero => rfl
  | succ n ih => simp only [halves, ih]; omega
theorem halves_more (i n : Nat) {g : Int} (hi : i ≤ n) (h0 : 0 ≤ halves i g) (h1 : halves i g ≤ 1) : halves n g = halves i g := by
  induction n with
  | zero => have : i = 0 := by omega
            rw [this]
  | succ n ih =>
    by_cases e : i = n + 1
    · rw [e]
    · have := ih (by omega)
      simp only [halves, this]
      omega

/-- what is said of shares behind so many steps, of which so many were halvings -/
structure Ran (l : List Int) (limit up : Int) (k : Nat) (x : List Int) (c : Nat) : Prop where
  cuts : c ≤ k
  len : x.length = l.length
  few : few x 10000 = 0
  gap : gapL x ≤ halves c (gapL l)
  order : ∀ i j, i < l.length → j < l.length → l.getD j 0 ≤ l.getD i 0 → x.getD j 0 ≤ x.getD i 0
  total : tot l ≤ limit → tot x ≤ limit + l.length * up

theorem getD_map {f : Int → Int} {l : List Int} {i : Nat} (h : i < l.length) : (l.map f).getD i 0 = f (l.getD i 0) := by
  simp [List.getD, List.getElem?_map, List.getElem?_eq_getElem h]
theorem tot_half : ∀ {l : List Int}, (∀ x ∈ l, 0 ≤ x) → tot (l.map (· / 2)) ≤ tot l / 2 ∧ 0 ≤ tot (l.map (· / 2)) := by
  intro l
  induction l with
  | nil => intro _; simp [tot]
  | cons x r ih =>
    intro h
    have h1 := h x (by simp)
    have h2 := ih fun y hy => h y (by simp [hy])
    simp only [List.map_cons, tot]
    omega
theorem tot_up (up : Int) : ∀ l : List Int, tot (l.map (· + up)) = tot l + l.length * up := by
  intro l
  induction l with
  | nil => simp [tot]
  | cons x r ih =>
    simp only [List.map_cons, tot, ih, List.length_cons]
    have e : ((r.length + 1 : Nat) : Int) * up = r.length * up + up := by rw [Int.natCast_add, Int.add_mul]; simp
    rw [e]
    omega
theorem gap_up {l : List Int} (h : 0 < l.length) (up : Int) : gapL (l.map (· + up)) ≤ gapL l := by
  refine gap_le (by simpa using h) fun x hx y hy => ?_
  obtain ⟨a, ha, rfl⟩ := List.mem_map.1 hx
  obtain ⟨b, hb, rfl⟩ := List.mem_map.1 hy
  have := gap_ge h ha hb
  omega
theorem gap_half {l : List Int} (h : 0 < l.length) : gapL (l.map (· / 2)) ≤ (gapL l + 1) / 2 := by
  refine gap_le (by simpa using h) fun x hx y hy => ?_
  obtain ⟨a, ha, rfl⟩ := List.mem_map.1 hx
  obtain ⟨b, hb, rfl⟩ := List.mem_map.1 hy
  have := gap_ge h ha hb
  have := gap_nonneg h
  omega

/-- each halving halves what is uneven -/
theorem ran {l : List Int} {limit up : Int} (hl : few l 10000 = 0) (hkn : knobs limit up = true) : ∀ (k : Nat) (x : List Int) (c : Nat), stAt l limit up k = some (x, c) → Ran l limit up k x c := by
  intro k
  obtain ⟨n1, n2, hb⟩ := few_0.1 hl
  induction k with
  | zero =>
    intro x c h
    simp only [stAt, Option.some.injEq, Prod.mk.injEq] at h
    obtain ⟨rfl, rfl⟩ := h
    refine ⟨Nat.le_refl _, rfl, hl, by simp [halves], fun i j _ _ h => h, fun h => ?_⟩
    have hk := knobs_iff.1 hkn
    have : 0 ≤ (l.length : Int) * up := Int.mul_nonneg (by omega) (by omega)
    omega
  | succ k ih =>
    intro x c h
    simp only [stAt] at h
    cases hs : stAt l limit up k with
    | none => rw [hs] at h; simp at h
    | some p =>
      obtain ⟨y, d⟩ := p
      rw [hs] at h
      simp only [Option.bind_some, oneO] at h
      split at h
      · rename_i he
        obtain ⟨r1, r2, r3, r4, r5, r6⟩ := ih y d hs
        obtain ⟨e1, e2, e3⟩ := stepE_0 he
        have hk := knobs_iff.1 e2
        obtain ⟨m1, m2, mb⟩ := few_0.1 e1
        simp only [Option.some.injEq, Prod.mk.injEq] at h
        obtain ⟨rfl, rfl⟩ := h
        have hf := step_few he
        have hg0 := gap_nonneg n1
        have hup : 0 ≤ (l.length : Int) * up := Int.mul_nonneg (by omega) (by omega)
        refine ⟨by split <;> omega, by rw [stepL_length, r2], hf, ?_, fun i j hi hj hij => ?_, fun ht => ?_⟩
        · unfold stepL
          by_cases hd : limit < tot y
          · rw [if_pos hd, if_pos hd]
            have := gap_half m1
            simp only [halves]
            omega
          · rw [if_neg hd, if_neg hd]
            have := gap_up m1 up
            simp only [Nat.add_zero]
            omega
        · have := r5 i j hi hj hij
          unfold stepL
          split
          · rw [getD_map (by omega), getD_map (by omega)]; omega
          · rw [getD_map (by omega), getD_map (by omega)]; omega
        · have := r6 ht
          unfold stepL
          split
          · have := tot_half fun x hx => (mb x hx).1
            have := (tot_bd mb).1
            omega
          · rw [tot_up, r2]; omega
      · cases h
theorem stAt_less {l : List Int} {limit up : Int} : ∀ {k m : Nat}, k ≤ m → (stAt l limit up m).isSome → (stAt l limit up k).isSome := by
  intro k m h hs
  induction m with
  | zero => have : k = 0 := by omega
            rw [this]; exact hs
  | succ m ih =>
    by_cases e : k = m + 1
    · rw [e]; exact hs
    · refine ih (by omega) ?_
      simp only [stAt] at hs
      cases h2 : stAt l limit up m with
      | none => rw [h2] at hs; simp at hs
      | some p => rfl
end Go.Proofs.YtpnmmmlckdkcdakGreatDoor.Ev

/- A list that is changed place by place; so many steps, one behind the other. No Go in it. -/
namespace Go.Proofs.YtpnmmmlckdkcdakGreatDoor.Ev
open Fr Ns Ld Fl
set_option linter.unusedSimpArgs false
set_option linter.unusedVariables false

/-- the first k places are changed -/
def midL (f : Int → Int) (l : List Int) (k : Nat) : List Int := (l.take k).map f ++ l.drop k
theorem midL_0 (f : Int → Int) (l : List Int) : midL f l 0 = l := by simp [midL]
theorem midL_all (f : Int → Int) (l : List Int) : midL f l l.length = l.map f := by simp [midL]
theorem midL_length (f : Int → Int) (l : List Int) (k : Nat) : (midL f l k).length = l.length := by simp [midL]; omega
theorem midL_at {f : Int → Int} {l : List Int} {k : Nat} (h : k < l.length) : (midL f l k).getD k 0 = l.getD k 0 := by
  have e : ((l.take k).map f).length = k := by simp; omega
  unfold midL
  rw [List.getD_eq_getElem?_getD, List.getElem?_append_right (by omega), e, Nat.sub_self, List.getElem?_drop]
  simp [List.getD_eq_getElem?_getD]
theorem midL_set {f : Int → Int} {l : List Int} {k : Nat} (h : k < l.length) : (midL f l k).set k (f (l.getD k 0)) = midL f l (k + 1) := by
  have e : ((l.take k).map f).length = k := by simp; omega
  unfold midL
  rw [List.set_append_right _ _ (by omega), e, Nat.sub_self, List.drop_eq_getElem_cons h, List.set_cons_zero, take_snoc l k h 0, List.map_append, List.append_assoc]
  simp
theorem few_over {l : List Int} {most : Int} (h0 : l.length ≠ 0) (h6 : ¬ 6 < l.length) : few l most = if l.any (fun x => !inTo most x) then 1 else 0 := by
  have e : l.any (fun x => !inTo most x) = !l.all (inTo most) := by simp [List.any_eq_not_all_not]
  rw [few, if_neg h0, if_neg h6, e]
  cases l.all (inTo most) <;> rfl
/-- what check tells -/
def chkE (l : List Int) (limit up : Int) : Int := if few l 10000 = 0 then if knobs limit up then 0 else 1 else few l 10000
theorem chkE_0 {l : List Int} {limit up : Int} : chkE l limit up = 0 ↔ few l 10000 = 0 ∧ knobs limit up = true := by
  unfold chkE
  split
  · rename_i h
    split
    · rename_i h2; exact ⟨fun _ => ⟨h, h2⟩, fun _ => rfl⟩
    · rename_i h2; exact ⟨fun e => by omega, fun e => absurd e.2 h2⟩
  · rename_i h; exact ⟨fun e => absurd e h, fun e => absurd e.1 h⟩
theorem runE_ne {l : List Int} {limit up ticks : Int} (ht : ¬ (ticks < 0 ∨ 60 < ticks)) (h : chkE l limit up ≠ 0) : runE l limit up ticks = chkE l limit up := by
  rw [runE, if_neg ht]
  unfold chkE at *
  split
  · rename_i h1
    rw [if_pos h1] at h
    split
    · rename_i h2; rw [if_pos h2] at h; exact absurd rfl h
    · rfl
  · rfl
theorem stAt_up {l : List Int} {limit up : Int} {k : Nat} {x : List Int} {c : Nat} (h : stAt l limit up k = some (x, c)) : stAt l limit up (k + 1) = oneO limit up (x, c) := by
  simp only [stAt, h, Option.bind_some]
theorem stAt_none {l : List Int} {limit up : Int} {k m : Nat} (hk : k ≤ m) (h : stAt l limit up k = none) : stAt l limit up m = none := by
  cases hm : stAt l limit up m with
  | none => rfl
  | some p =>
    have := stAt_less hk (by rw [hm]; rfl : (stAt l limit up m).isSome = true)
    rw [h] at this
    cases this
theorem step_cut {x : List Int} {limit up : Int} {c : Nat} (hf : few x 10000 = 0) (hk : knobs limit up = true) (hd : limit < tot x) : oneO limit up (x, c) = some (x.map (· / 2), c + 1) := by
  have he : stepE x limit up = 0 := by rw [stepE, if_pos hf, if_pos hk, if_pos hd]
  rw [oneO]
  simp only [he, stepL, if_pos hd, if_true]
theorem step_up {x : List Int} {limit up : Int} {c : Nat} (hf : few x 10000 = 0) (hk : knobs limit up = true) (hd : ¬ limit < tot x) (ha : x.any (over up) = false) : oneO limit up (x, c) = some (x.map (· + up), c) := by
  have he : stepE x limit up = 0 := by rw [stepE, if_pos hf, if_pos hk, if_neg hd, if_neg (by rw [ha]; decide)]
  rw [oneO]
  simp only [he, stepL, if_neg hd, if_true, Nat.add_zero]
theorem step_full {x : List Int} {limit up : Int} {c : Nat} (hf : few x 10000 = 0) (hk : knobs limit up = true) (hd : ¬ limit < tot x) (ha : x.any (over up) = true) : oneO limit up (x, c) = none := by
  have he : stepE x limit up = 4 := by rw [stepE, if_pos hf, if_pos hk, if_neg hd, if_pos ha]
  rw [oneO]
  simp only [he, if_neg (by decide : ¬ (4 : Int) = 0)]
theorem run_end {l : List Int} {limit up : Int} {K : Nat} {x : List Int} {c : Nat} (hK : K ≤ 60) (hf : few l 10000 = 0) (hk : knobs limit up = true) (h : stAt l limit up K = some (x, c)) : runE l limit up (K : Int) = 0 ∧ runL l limit up (K : Int) = x ∧ runC l limit up (K : Int) = c := by
  refine ⟨?_, ?_, ?_⟩
  · rw [runE, if_neg (by omega), if_pos hf, if_pos hk, Int.toNat_natCast, h]; rfl
  · rw [runL, Int.toNat_natCast, h]; rfl
  · rw [runC, Int.toNat_natCast, h]; rfl
theorem run_fell {l : List Int} {limit up : Int} {K : Nat} (hK : K ≤ 60) (hf : few l 10000 = 0) (hk : knobs limit up = true) (h : stAt l limit up K = none) : runE l limit up (K : Int) = 4 := by
  rw [runE, if_neg (by omega), if_pos hf, if_pos hk, Int.toNat_natCast, h]; rfl
/-- one tick is a step -/
theorem run_one (l : List Int) (limit up : Int) : runE l limit up 1 = stepE l limit up ∧ okL (stepE l limit up) (runL l limit up 1) = okL (stepE l limit up) (stepL l limit up) := by
  by_cases h1 : few l 10000 = 0
  · by_cases h2 : knobs limit up = true
    · rcases stepE_kind h1 h2 with he | he
      · have hs : stAt l limit up 1 = some (stepL l limit up, 0 + if limit < tot l then 1 else 0) := by simp [stAt, oneO, he]
        have hr : runE l limit up ((1 : Nat) : Int) = 0 ∧ runL l limit up ((1 : Nat) : Int) = stepL l limit up ∧ _ := run_end (by decide) h1 h2 hs
        exact ⟨by rw [he]; exact hr.1, by rw [show runL l limit up 1 = stepL l limit up from hr.2.1]⟩
      · have hs : stAt l limit up 1 = none := by simp [stAt, oneO, he]
        have hr : runE l limit up ((1 : Nat) : Int) = 4 := run_fell (by decide) h1 h2 hs
        refine ⟨by rw [he]; exact hr, ?_⟩
        rw [he, okL, okL, if_neg (by decide), if_neg (by decide)]
    · have he : stepE l limit up = 1 := by rw [stepE, if_pos h1, if_neg h2]
      refine ⟨by rw [he, runE, if_neg (by decide), if_pos h1, if_neg h2], ?_⟩
      rw [he, okL, okL, if_neg (by decide), if_neg (by decide)]
  · have he : stepE l limit up = few l 10000 := by rw [stepE, if_neg h1]
    refine ⟨by rw [he, runE, if_neg (by decide), if_neg h1], ?_⟩
    rw [he, okL, okL, if_neg h1, if_neg h1]
end Go.Proofs.YtpnmmmlckdkcdakGreatDoor.Ev

/- Places sorted in their list by a number, each going down past all that are greater: who is where. No Go in it. -/
namespace Go.Proofs.YtpnmmmlckdkcdakGreatDoor.Ev
open Fr Ns Ld Fl
set_option linter.unusedSimpArgs false
set_option linter.unusedVariables false

/-- x behind all that are not greater -/
def insS (κ : Int → Int) (x : Int) (s : List Int) : List Int := s.filter (fun y => !decide (κ x < κ y)) ++ x :: s.filter (fun y => decide (κ x < κ y))
def sortS (κ : Int → Int) (l : List Int) : List Int := l.foldl (fun s x => insS κ x s) []
theorem insS_perm (κ : Int → Int) (x : Int) (s : List Int) : (insS κ x s).Perm (x :: s) := by
  unfold insS
  refine List.perm_middle.trans (List.Perm.cons x ?_)
  refine List.perm_append_comm.trans ?_
  exact List.filter_append_perm (fun y => decide (κ x < κ y)) s
theorem sortS_snoc (κ : Int → Int) (l : List Int) (x : Int) : sortS κ (l ++ [x]) = insS κ x (sortS κ l) := by simp [sortS, List.foldl_append]
theorem sortS_step {κ : Int → Int} {l : List Int} {i : Nat} (h : i < l.length) : sortS κ (l.take (i + 1)) = insS κ (l.getD i 0) (sortS κ (l.take i)) := by
  rw [take_snoc l i h 0, sortS_snoc]
theorem sortFrom_perm (κ : Int → Int) : ∀ (l s : List Int), (l.foldl (fun s x => insS κ x s) s).Perm (l ++ s) := by
  intro l
  induction l with
  | nil => intro s; exact List.Perm.refl _
  | cons x r ih =>
    intro s
    rw [List.foldl_cons]
    refine (ih _).trans ?_
    refine ((insS_perm κ x s).append_left r).trans ?_
    exact List.perm_middle
theorem sortS_perm (κ : Int → Int) (l : List Int) : (sortS κ l).Perm l := by
  have := sortFrom_perm κ l []
  rwa [List.append_nil] at this
theorem sortS_length (κ : Int → Int) (l : List Int) : (sortS κ l).length = l.length := (sortS_perm κ l).length_eq
def AscK (κ : Int → Int) (s : List Int) : Prop := s.Pairwise fun a b => κ a ≤ κ b
theorem insS_asc {κ : Int → Int} {x : Int} {s : List Int} (h : AscK κ s) : AscK κ (insS κ x s) := by
  unfold AscK insS at *
  rw [List.pairwise_append]
  refine ⟨h.sublist List.filter_sublist, ?_, ?_⟩
  · rw [List.pairwise_cons]
    refine ⟨fun b hb => ?_, h.sublist List.filter_sublist⟩
    have := (List.mem_filter.1 hb).2
    simp at this
    omega
  · intro a ha b hb
    have h1 := (List.mem_filter.1 ha).2
    simp at h1
    rcases List.mem_cons.1 hb with rfl | hb
    · exact h1
    · have h2 := (List.mem_filter.1 hb).2
      simp at h2
      omega
theorem sortS_asc (κ : Int → Int) (l : List Int) : AscK κ (sortS κ l) := by
  have : ∀ (l s : List Int), AscK κ s → AscK κ (l.foldl (fun s x => insS κ x s) s) := by
    intro l
    induction l with
    | nil => intro s h; exact h
    | cons x r ih => intro s h; exact ih _ (insS_asc h)
  exact this l [] List.Pairwise.nil

/-- the first i in order, the rest as it was -/
def stS (κ : Int → Int) (l : List Int) (i : Nat) : List Int := sortS κ (l.take i) ++ l.drop i
/-- the one at place i has gone down to place j -/
def curS (κ : Int → Int) (l : List Int) (i j : Nat) : List Int := (sortS κ (l.take i)).take j ++ (l.getD i 0 :: ((sortS κ (l.take i)).drop j ++ l.drop (i + 1)))
theorem stS_1 (κ : Int → Int) (l : List Int) : stS κ l 1 = l := by
  cases l with
  | nil => simp [stS, sortS]
  | cons a l => simp [stS, sortS, insS]
theorem stS_all (κ : Int → Int) (l : List Int) (i : Nat) (h : l.length ≤ i) : stS κ l i = sortS κ l := by
  rw [stS, List.take_of_length_le h, List.drop_of_length_le h, List.append_nil]
theorem sortSTake_length {κ : Int → Int} {l : List Int} {i : Nat} (h : i ≤ l.length) : (sortS κ (l.take i)).length = i := by
  rw [sortS_length, List.length_take]; omega
theorem curS_start {κ : Int → Int} {l : List Int} {i : Nat} (h : i < l.length) : curS κ l i i = stS κ l i := by
  have e := sortSTake_length (κ := κ) (l := l) (i := i) (by omega)
  rw [curS, stS, List.take_of_length_le (by omega), List.drop_of_length_le (l := sortS κ (l.take i)) (by omega), List.nil_append, ← drop_cons l i h 0]
theorem curS_length {κ : Int → Int} {l : List Int} {i j : Nat} (h : i < l.length) (hj : j ≤ i) : (curS κ l i j).length = l.length := by
  have e := sortSTake_length (κ := κ) (l := l) (i := i) (by omega)
  rw [curS, List.length_append, List.length_cons, List.length_append, List.length_take, List.length_drop, List.length_drop, e]; omega
theorem curS_at {κ : Int → Int} {l : List Int} {i j : Nat} (h : i < l.length) (hj : j ≤ i) : (curS κ l i j).getD j 0 = l.getD i 0 := by
  have e := sortSTake_length (κ := κ) (l := l) (i := i) (by omega)
  rw [curS, List.getD_eq_getElem?_getD, List.getElem?_append_right (by rw [List.length_take]; omega)]
  rw [List.length_take, e, show j - min j i = 0 by omega]
  rfl
theorem curS_ahead {κ : Int → Int} {l : List Int} {i j : Nat} (h : i < l.length) (hj : j < i) : (curS κ l i (j + 1)).getD j 0 = (sortS κ (l.take i)).getD j 0 := by
  have e := sortSTake_length (κ := κ) (l := l) (i := i) (by omega)
  rw [curS, List.getD_eq_getElem?_getD, List.getElem?_append_left (by rw [List.length_take]; omega), List.getElem?_take, if_pos (by omega), List.getD_eq_getElem?_getD]
theorem curS_swap {κ : Int → Int} {l : List Int} {i j : Nat} (h : i < l.length) (hj : j < i) : ((curS κ l i (j + 1)).set (j + 1) ((sortS κ (l.take i)).getD j 0)).set j (l.getD i 0) = curS κ l i j := by
  have e := sortSTake_length (κ := κ) (l := l) (i := i) (by omega)
  generalize hS : sortS κ (l.take i) = S at *
  have e1 : S.take (j + 1) = S.take j ++ [S.getD j 0] := take_snoc S j (by omega) 0
  have e2 : S.drop j = S.getD j 0 :: S.drop (j + 1) := drop_cons S j (by omega) 0
  have e3 : (S.take j).length = j := by rw [List.length_take]; omega
  rw [curS, curS, hS, e1, e2]
  generalize S.take j = A at *
  generalize S.drop (j + 1) = B at *
  rw [List.append_assoc, List.singleton_append]
  rw [List.set_append_right _ _ (by omega), show j + 1 - A.length = 1 by omega]
  rw [List.set_append_right _ _ (by omega), show j - A.length = 0 by omega]
  rfl
theorem ascK_at {κ : Int → Int} {s : List Int} (h : AscK κ s) {a b : Nat} (hab : a ≤ b) (hb : b < s.length) : κ (s.getD a 0) ≤ κ (s.getD b 0) := by
  rcases Nat.lt_or_eq_of_le hab with h1 | rfl
  · have := (List.pairwise_iff_getElem.1 h) a b (by omega) hb h1
    rw [List.getD_eq_getElem?_getD, List.getD_eq_getElem?_getD, List.getElem?_eq_getElem (by omega), List.getElem?_eq_getElem hb]
    exact this
  · exact Int.le_refl _
theorem mem_takeAt {s : List Int} {j : Nat} {y : Int} (h : y ∈ s.take j) : ∃ k, k < j ∧ k < s.length ∧ s.getD k 0 = y := by
  obtain ⟨k, hk, rfl⟩ := List.mem_iff_getElem.1 h
  rw [List.length_take] at hk
  exact ⟨k, by omega, by omega, by rw [List.getElem_take, List.getD_eq_getElem?_getD, List.getElem?_eq_getElem (by omega)]; rfl⟩
theorem mem_dropAt {s : List Int} {j : Nat} {y : Int} (h : y ∈ s.drop j) : ∃ k, j ≤ k ∧ k < s.length ∧ s.getD k 0 = y := by
  obtain ⟨k, hk, rfl⟩ := List.mem_iff_getElem.1 h
  rw [List.length_drop] at hk
  exact ⟨j + k, by omega, by omega, by rw [List.getElem_drop, List.getD_eq_getElem?_getD, List.getElem?_eq_getElem (by omega)]; rfl⟩
/-- it stands where it belongs -/
theorem curS_end {κ : Int → Int} {l : List Int} {i j : Nat} (h : i < l.length) (hj : j ≤ i)
    (h1 : ∀ k, j ≤ k → k < i → κ (l.getD i 0) < κ ((sortS κ (l.take i)).getD k 0))
    (h2 : j = 0 ∨ ¬ κ (l.getD i 0) < κ ((sortS κ (l.take i)).getD (j - 1) 0)) : curS κ l i j = stS κ l (i + 1) := by
  have e := sortSTake_length (κ := κ) (l := l) (i := i) (by omega)
  have hA := sortS_asc κ (l.take i)
  rw [stS, sortS_step h, curS]
  generalize sortS κ (l.take i) = S at *
  have f1 : (S.take j).filter (fun y => decide (κ (l.getD i 0) < κ y)) = [] := by
    rw [List.filter_eq_nil_iff]
    intro y hy
    obtain ⟨k, hk, hk2, rfl⟩ := mem_takeAt hy
    rcases h2 with rfl | h2
    · omega
    · have := ascK_at hA (show k ≤ j - 1 by omega) (by omega)
      rw [decide_eq_true_eq]
      omega
  have f2 : (S.drop j).filter (fun y => decide (κ (l.getD i 0) < κ y)) = S.drop j := by
    rw [List.filter_eq_self]
    intro y hy
    obtain ⟨k, hk, hk2, rfl⟩ := mem_dropAt hy
    rw [decide_eq_true_eq]
    exact h1 k hk (by omega)
  have f3 : (S.take j).filter (fun y => !decide (κ (l.getD i 0) < κ y)) = S.take j := by
    rw [List.filter_eq_self]
    intro y hy
    have := (List.filter_eq_nil_iff.1 f1) y hy
    simpa using this
  have f4 : (S.drop j).filter (fun y => !decide (κ (l.getD i 0) < κ y)) = [] := by
    rw [List.filter_eq_nil_iff]
    intro y hy
    have := (List.filter_eq_self.1 f2) y hy
    simp at this ⊢
    exact this
  have g : insS κ (l.getD i 0) S = S.take j ++ l.getD i 0 :: S.drop j := by
    unfold insS
    conv => lhs; rw [← List.take_append_drop j S]
    rw [List.filter_append, List.filter_append, f1, f2, f3, f4]
    simp
  rw [g]
  simp

/-! ### places, from 0 on -/
def upTo (n : Nat) : List Int := (List.range n).map Int.ofNat
theorem upTo_length (n : Nat) : (upTo n).length = n := by simp [upTo]
theorem upTo_succ (n : Nat) : upTo (n + 1) = upTo n ++ [(n : Int)] := by simp [upTo, List.range_succ]
theorem upTo_mem {n : Nat} {x : Int} (h : x ∈ upTo n) : 0 ≤ x ∧ x < n := by
  obtain ⟨i, hi, rfl⟩ := List.mem_map.1 h
  have := List.mem_range.1 hi
  simp only [Int.ofNat_eq_natCast]
  omega
theorem upTo_at {n i : Nat} (h : i < n) : (upTo n).getD i 0 = i := by simp [upTo, List.getD, List.getElem?_map, List.getElem?_range h]
/-- the lesser number is ahead, of several the first -/
def AheadI (κ : Int → Int) (a b : Int) : Prop := κ a < κ b ∨ κ a = κ b ∧ a < b
def aheadZ (κ : Int → Int) (a b : Int) : Bool := decide (κ a < κ b ∨ κ a = κ b ∧ a < b)
theorem aheadZ_iff {κ : Int → Int} {a b : Int} : aheadZ κ a b = true ↔ AheadI κ a b := by simp [aheadZ, AheadI]
theorem sortS_ahead (κ : Int → Int) : ∀ n, (sortS κ (upTo n)).Pairwise (AheadI κ) := by
  intro n
  induction n with
  | zero => exact List.Pairwise.nil
  | succ n ih =>
    have hm : ∀ a ∈ sortS κ (upTo n), a < n := fun a ha => (upTo_mem ((sortS_perm κ _).mem_iff.1 ha)).2
    rw [upTo_succ, sortS_snoc]
    generalize sortS κ (upTo n) = s at *
    unfold insS
    rw [List.pairwise_append]
    refine ⟨ih.sublist List.filter_sublist, ?_, ?_⟩
    · rw [List.pairwise_cons]
      refine ⟨fun b hb => ?_, ih.sublist List.filter_sublist⟩
      have := (List.mem_filter.1 hb).2
      simp at this
      exact .inl this
    · intro a ha b hb
      have h1 := (List.mem_filter.1 ha).2
      have h0 := hm a (List.mem_filter.1 ha).1
      simp at h1
      unfold AheadI
      rcases List.mem_cons.1 hb with rfl | hb
      · omega
      · have h2 := (List.mem_filter.1 hb).2
        simp at h2
        omega
/-- who is at place k has just k ahead of it -/
theorem sortS_rank {κ : Int → Int} {key : Nat → Int} {n k : Nat} (hκ : ∀ i : Nat, i < n → κ i = key i) (hk : k < n) : ∃ b : Nat, (sortS κ (upTo n)).getD k 0 = b ∧ b < n ∧ rankK key n b = k := by
  have hp := sortS_perm κ (upTo n)
  have hl : (sortS κ (upTo n)).length = n := by rw [sortS_length, upTo_length]
  have hA := sortS_ahead κ n
  have hmem : ∀ a ∈ sortS κ (upTo n), 0 ≤ a ∧ a < n := fun a ha => upTo_mem (hp.mem_iff.1 ha)
  generalize hS : sortS κ (upTo n) = S at *
  have hx := hmem _ (getD_mem S k (by omega) 0)
  obtain ⟨b, hb⟩ : ∃ b : Nat, S.getD k 0 = b := ⟨(S.getD k 0).toNat, by omega⟩
  refine ⟨b, hb, by omega, ?_⟩
  have hbn : b < n := by omega
  have hcount : rankK key n b = S.countP fun a => aheadZ κ a b := by
    rw [hp.countP_eq]
    unfold rankK upTo
    rw [List.countP_map]
    refine countP_congr' fun j hj => ?_
    simp only [Function.comp]
    rw [Bool.eq_iff_iff, ahead_iff, aheadZ_iff]
    unfold AheadI
    rw [Int.ofNat_eq_natCast, hκ j hj, hκ b hbn]
    omega
  rw [hcount]
  have hd : S = S.take k ++ (b : Int) :: S.drop (k + 1) := by
    conv => lhs; rw [← List.take_append_drop k S]
    rw [drop_cons S k (by omega) 0, hb]
  have hA2 : (S.take k ++ (b : Int) :: S.drop (k + 1)).Pairwise (AheadI κ) := by rw [← hd]; exact hA
  rw [List.pairwise_append, List.pairwise_cons] at hA2
  obtain ⟨_, ⟨a1, _⟩, a2⟩ := hA2
  have c1 : (S.take k).countP (fun a => aheadZ κ a b) = k := by
    have hlen : (S.take k).length = k := by rw [List.length_take]; omega
    rw [List.countP_eq_length.2 (fun a ha => aheadZ_iff.2 (a2 a ha _ (by simp)))]
    exact hlen
  have c2 : (S.drop (k + 1)).countP (fun a => aheadZ κ a b) = 0 := by
    rw [List.countP_eq_zero]
    intro a ha
    have h1 := a1 a ha
    rw [aheadZ_iff]
    unfold AheadI at h1 ⊢
    omega
  rw [hd, List.countP_append, List.countP_cons, c1, c2]
  have : aheadZ κ (b : Int) b = false := by unfold aheadZ; simp
  rw [this]
  simp
/-- one more for the one at place k -/
theorem step_rank {key base : Nat → Int} {n k b : Nat} (hbn : b < n) (hr : rankK key n b = k) : (outK key base n k).getD b 0 = base b ∧ outK key base n (k + 1) = (outK key base n k).set b (base b + 1) := by
  have hk : k < n := by rw [← hr]; exact rank_bound hbn
  obtain ⟨c, _, hc, hcb, _, hco, _⟩ := step_K (key := key) (base := base) hk
  have : c = b := by
    apply Classical.byContradiction
    intro hne
    have h1 : (outK key base n (k + 1)).getD b 0 = base b + 1 := by rw [outK_at hbn, hr]; simp
    rw [hco, getD_set_ne _ _ hne, outK_at hbn, hr] at h1
    simp at h1
    omega
  subst this
  exact ⟨hcb, hco⟩
end Go.Proofs.YtpnmmmlckdkcdakGreatDoor.Ev

/- What is asked of package give's Split, as the document says it. -/
namespace Go.Proofs.YtpnmmmlckdkcdakGreatDoor
namespace Ev
open Go.RowKit Fr Ns Ld Fl

def GSplitSaid : Prop := ∀ (Q : Nat → Prop) (many : Int) (l : List Int) (v : Value) (w : World), IntsAt Q w v l →
  Calls Tryz.prog 117 #[.int .i64 many, v] w fun e w' => ∃ y, e = .returned (.tuple #[y, errV (splitE many l)]) ∧
    IntsAt (fun b => w.heap.size ≤ b) w' y (okL (splitE many l) (splitS many l)) ∧ Below w.heap.size w w'
end Ev
end Go.Proofs.YtpnmmmlckdkcdakGreatDoor

/- A range over a function that hands on one thing after the other: what the iterator promises (the k-th round is of the k-th thing, so a body is asked of the next thing alone), and the statement. -/
namespace Go.Proofs.YtpnmmmlckdkcdakGreatDoor
namespace Ev
open Go Go.RowKit
set_option linter.unusedVariables false
set_option linter.unusedSimpArgs false

/-- blocks that are as they were -/
def Stays (G : Nat → Prop) (U U' : World) : Prop := ∀ b, G b → U'.heap[b]? = U.heap[b]?
theorem Stays.refl (G : Nat → Prop) (U : World) : Stays G U U := fun _ _ => rfl
theorem Stays.trans {G : Nat → Prop} {U V X : World} (h : Stays G U V) (k : Stays G V X) : Stays G U X := fun b hb => (k b hb).trans (h b hb)
/-- what is said of a world whatever becomes of the blocks of G -/
def Firm (G : Nat → Prop) (J : Nat → World → Prop) : Prop := ∀ k U U', J k U → ButIn G U U' → J k U'
/-- the iterator gf with these bindings goes over item 0 .. item (N - 1): it reads the blocks of G, writes none but those of Gw, and stops where a round says so -/
def SeqGo (P : Program) (gf : Nat) (lb : Array Value) (item : Nat → Array Value) (N : Nat) (G Gw : Nat → Prop) (w : World) : Prop :=
  ∀ (l : Nat) (J Jx : Nat → World → Prop) (W : World), Below w.heap.size w W → Firm Gw J → Firm Gw Jx →
    (∀ k U, k < N → J k U → YieldAt Fence.wide 3 P l (item k) U fun e U' => (e = .returned (.bool true) ∧ J (k + 1) U' ∧ Stays G U U') ∨ (e = .returned (.bool false) ∧ Jx (k + 1) U')) →
    J 0 W → CallsIn Fence.wide 4 P gf (#[.func (.yield l) #[] #[]] ++ lb) W fun e W' => (∃ v, e = .returned v) ∧ (J N W' ∨ ∃ k, k ≤ N ∧ Jx k W')
/-- how a round's body is left -/
def roundEnd (H : Nat → Prop) (I : Nat → World → Prop) (Ix : Code → Nat → World → Prop) (k : Nat) (U : World) : Exit → Act → World → Prop
  | .normal, _, U' => Stays H U U' ∧ I k U'
  | .ret, _, U' => Stays H U U' ∧ Ix .ret k U'
  | .exit id, _, U' => Stays H U U' ∧ Ix (.exit id) k U'
  | .goto t, _, U' => Stays H U U' ∧ Ix (.goto t) k U'
  | .panic _, _, _ => False
  | .outgrown, _, _ => False
theorem butIn_put (H : Nat → Prop) (U : World) (l : Nat) (o : Obj) (hl : H l) : ButIn H U (U.putObj l o) :=
  ⟨⟨rfl, rfl, rfl, by simp, fun k hk => absurd hk (Nat.not_lt_zero k)⟩, fun b _ hb => World.putObj_heap_other (fun e => hb (e ▸ hl))⟩
theorem butIn_alloc (H : Nat → Prop) (U : World) (o : Obj) : ButIn H U (U.alloc o) := ButIn.of_below ((Below.refl _ _).alloc (Nat.le_refl _) o)

/-- the loop's own two blocks -/
def loopB (w : World) (b : Nat) : Prop := b = w.heap.size ∨ b = w.heap.size + 1

theorem range_go {P : Program} {g : Operand} {ps : Array Tmp} {assign body : Code} {Q : Exit → Act → World → Prop} {a : Act} {w : World} {gf : Nat} {lb : Array Value} {item : Nat → Array Value} {N : Nat} {G Gw : Nat → Prop}
    (hg : a.eval g = .func (.func gf) #[] lb) (eg : ∀ args u, (callFunc gf args).run P u = .ok (.enter gf args) u) (hseq : SeqGo P gf lb item N G Gw w) (hps : ∀ k, (item k).size = ps.size)
    (hG : ∀ b, G b → b < w.heap.size) (hGw : ∀ b, Gw b → b < w.heap.size)
    (I : Nat → World → Prop) (Ix : Code → Nat → World → Prop) (hI : Firm (fun b => Gw b ∨ loopB w b) I) (hIx : ∀ c, Firm (fun b => Gw b ∨ loopB w b) (Ix c)) (h0 : I 0 w)
    (Ax : Nat → Act → World → Prop) (hAx : ∀ k a' U U', Ax k a' U → ButIn (loopB w) U U' → Ax k a' U')
    (hassign : ∀ (k : Nat) (U : World) (K : Act → World → Prop), k < N → I k U → (∀ a' U', Stays (fun b => G b ∨ loopB w b) U U' → I k U' → Ax k a' U' → K a' U') →
      assign.wpIn (Fence.wide.inRound (w.heap.size + 1)) 3 P (Exit.then K (fun _ _ _ => False)) { tmps := (ps.zip (item k)).foldl (fun t (p, v) => t.setIfInBounds p v) a.tmps, defers := [] } U)
    (hbody : ∀ (k : Nat) (a' : Act) (U : World), k < N → w.heap.size + 1 < U.heap.size → I k U → Ax k a' U → body.wpIn (Fence.wide.inRound (w.heap.size + 1)) 3 P (roundEnd (fun b => G b ∨ loopB w b) I Ix (k + 1) U) a' U)
    (hdone : ∀ U : World, I N U → U.heap[w.heap.size]? = some (.deferred (some [])) → Q .normal { a with defers := { target := .collected w.heap.size, args := #[] } :: a.defers } U)
    (hstop : ∀ (c : Code) (k : Nat) (U : World), k ≤ N → Ix c k U → U.heap[w.heap.size]? = some (.deferred (some [])) → c.wpIn Fence.wide 5 P Q { a with defers := { target := .collected w.heap.size, args := #[] } :: a.defers } U) :
    (Code.rangeFunc g ps assign body).wpIn Fence.wide 5 P Q a w := by
  refine wpIn_rangeFunc fun fn hfn => ?_
  -- the record of the loop, in each of its states
  let R : LoopState → Option Code → Obj := fun s j => .loop { state := s, pending := j, fn, tmps := a.tmps, params := ps, assign, body, defers := w.heap.size }
  let B : World → Prop := fun U => U.heap[w.heap.size]? = some (.deferred (some []))
  let W1 : World := (w.alloc (.deferred (some []))).alloc (R .ready none)
  have e1 : W1.heap[w.heap.size + 1]? = some (R .ready none) := by
    have := World.alloc_heap_new (w.alloc (.deferred (some []))) (R .ready none)
    rwa [World.size_alloc] at this
  have e0 : B W1 := (Below.heap_alloc _ _ _ (by simp)).trans (World.alloc_heap_new w _)
  have hw1 : Below w.heap.size w W1 := ((Below.refl _ w).alloc (Nat.le_refl _) _).alloc (by simp) _
  have hi1 : I 0 W1 := hI _ _ _ (hI _ _ _ h0 (butIn_alloc _ _ _)) (butIn_alloc _ _ _)
  have rl : loopB w (w.heap.size + 1) := .inr rfl
  -- what stays of the two blocks where only the iterator's own have changed
  have hlw : ∀ {U U' : World} {b : Nat} {o : Obj}, loopB w b → ButIn Gw U U' → U.heap[b]? = some o → U'.heap[b]? = some o := fun hb h ho =>
    (h.2 _ (Array.getElem?_eq_some_iff.1 ho).1 (fun hgw => by have := hGw _ hgw; rcases hb with rfl | rfl <;> omega)).trans ho
  have hIg : ∀ {k : Nat} {U U' : World}, I k U → ButIn Gw U U' → I k U' := fun h hb => hI _ _ _ h ⟨hb.1, fun b hb1 hb2 => hb.2 b hb1 (fun q => hb2 (.inl q))⟩
  refine ⟨w.heap.size + 1, [{ target := .collected w.heap.size, args := #[] }], W1, { target := .fn (.func gf) lb, args := #[.func (.yield (w.heap.size + 1)) #[] #[]] }, W1, gf,
    #[.func (.yield (w.heap.size + 1)) #[] #[]] ++ lb, W1, run_enterLoop_outer _ _ _ _ _, by simp only [resolve, hg]; simp [go_sem], fun _ _ => trivial, by simp [invoke, go_sem, eg], fun _ => by decide, ?_⟩
  refine (hseq (w.heap.size + 1) (fun k U => I k U ∧ U.heap[w.heap.size + 1]? = some (R .ready none) ∧ B U) (fun k U => ∃ c, Ix c k U ∧ U.heap[w.heap.size + 1]? = some (R .done (some c)) ∧ B U) W1 hw1
    (fun k U U' h hb => ⟨hIg h.1 hb, hlw rl hb h.2.1, hlw (.inl rfl) hb h.2.2⟩)
    (fun k U U' ⟨c, h1, h2, h3⟩ hb => ⟨c, hIx c _ _ _ h1 ⟨hb.1, fun b hb1 hb2 => hb.2 b hb1 (fun q => hb2 (.inl q))⟩, hlw rl hb h2, hlw (.inl rfl) hb h3⟩) ?_ ⟨hi1, e1, e0⟩).mono ?_
  · -- a round
    rintro k U hk ⟨hi, hr, hd⟩
    refine ⟨fn, _, assign, body, run_yield hr (hps k), roundIn_of_wpIn hfn (hassign k U _ hk hi ?_)⟩
    intro a' V hsv hiv hav
    have hrv : V.heap[w.heap.size + 1]? = some (R .ready none) := (hsv _ (.inr rl)).trans hr
    have hdv : B V := (hsv _ (.inr (.inl rfl))).trans hd
    have hlt : w.heap.size + 1 < V.heap.size := (Array.getElem?_eq_some_iff.1 hrv).1
    refine ⟨_, run_beginRound hrv rfl, ?_⟩
    obtain ⟨X, hX⟩ : ∃ X, X = V.putObj (w.heap.size + 1) (R .busy none) := ⟨_, rfl⟩
    have hrx : X.heap[w.heap.size + 1]? = some (R .busy none) := by rw [hX]; exact World.putObj_heap_same hlt
    have hdx : B X := by rw [hX]; exact (World.putObj_heap_other (by omega)).trans hdv
    have hix : I k X := by rw [hX]; exact hI _ _ _ hiv (butIn_put _ _ _ _ (.inr rl))
    have hax : Ax k a' X := by rw [hX]; exact hAx _ _ _ _ hav (butIn_put _ _ _ _ rl)
    have hgx : Stays G U X := fun b hb => by rw [hX]; exact (World.putObj_heap_other (by have := hG b hb; omega)).trans (hsv b (.inl hb))
    show body.wpIn _ _ _ _ _ (V.putObj (w.heap.size + 1) (R .busy none))
    rw [← hX]
    refine wpIn_mono (hbody k a' X hk (Array.getElem?_eq_some_iff.1 hrx).1 hix hax) ?_
    -- the round's end, whichever way its body is left
    have fin : ∀ (j : Option Code) (Y : World), Stays (fun b => G b ∨ loopB w b) X Y → ∃ Z, Z = Y.putObj (w.heap.size + 1) (R (if j.isNone then .ready else .done) j) ∧ (Instr.endRound (w.heap.size + 1) j).run P Y = .ok (.bool j.isNone) Z ∧
        Z.heap[w.heap.size + 1]? = some (R (if j.isNone then .ready else .done) j) ∧ B Z ∧ Stays G U Z := fun j Y hy => by
      have hry : Y.heap[w.heap.size + 1]? = some (R .busy none) := (hy _ (.inr rl)).trans hrx
      refine ⟨_, rfl, run_endRound j hry, World.putObj_heap_same (Array.getElem?_eq_some_iff.1 hry).1, (World.putObj_heap_other (by omega)).trans ((hy _ (.inr (.inl rfl))).trans hdx), fun b hb => ?_⟩
      exact (World.putObj_heap_other (by have := hG b hb; omega)).trans ((hy b (.inl hb)).trans (hgx b hb))
    intro e a3 Y hp
    match e, hp with
    | .normal, hp =>
      obtain ⟨Z, hZ, h1, h2, h3, h4⟩ := fin none Y hp.1
      exact ⟨_, _, h1, .inl ⟨rfl, ⟨by rw [hZ]; exact hI _ _ _ hp.2 (butIn_put _ _ _ _ (.inr rl)), h2, h3⟩, h4⟩⟩
    | .ret, hp =>
      obtain ⟨Z, hZ, h1, h2, h3, h4⟩ := fin (some .ret) Y hp.1
      exact ⟨_, _, h1, .inr ⟨rfl, _, by rw [hZ]; exact hIx _ _ _ _ hp.2 (butIn_put _ _ _ _ (.inr rl)), h2, h3⟩⟩
    | .exit id, hp =>
      obtain ⟨Z, hZ, h1, h2, h3, h4⟩ := fin (some (.exit id)) Y hp.1
      exact ⟨_, _, h1, .inr ⟨rfl, _, by rw [hZ]; exact hIx _ _ _ _ hp.2 (butIn_put _ _ _ _ (.inr rl)), h2, h3⟩⟩
    | .goto t, hp =>
      obtain ⟨Z, hZ, h1, h2, h3, h4⟩ := fin (some (.goto t)) Y hp.1
      exact ⟨_, _, h1, .inr ⟨rfl, _, by rw [hZ]; exact hIx _ _ _ _ hp.2 (butIn_put _ _ _ _ (.inr rl)), h2, h3⟩⟩
    | .panic _, hp => exact hp.elim
    | .outgrown, hp => exact hp.elim
  · -- behind the iterator
    rintro e U ⟨⟨v, rfl⟩, h⟩
    rcases h with ⟨hi, hr, hd⟩ | ⟨k, hk, c, hi, hr, hd⟩
    · exact ⟨none, _, run_endLoop hr (by simp), hdone _ (hI _ _ _ hi (butIn_put _ _ _ _ (.inr rl))) ((World.putObj_heap_other (by omega)).trans hd)⟩
    · exact ⟨some c, _, run_endLoop hr (by simp), hstop c k _ hk (hIx _ _ _ _ hi (butIn_put _ _ _ _ (.inr rl))) ((World.putObj_heap_other (by omega)).trans hd)⟩
end Ev
end Go.Proofs.YtpnmmmlckdkcdakGreatDoor

/- Contracts of errors.As at an api.Errno, of plain.Told, and of fairsame.Error. After the kit's worked text on errors.As (Toyas), turned to a target of an integer type. -/
namespace Go.Proofs.YtpnmmmlckdkcdakGreatDoor
namespace Fr
open Go.RowKit Go.Extern.Stop Go.Stop Go.Extern
set_option linter.unusedSimpArgs false
set_option linter.unusedVariables false

/-- what package errors' variable errorType holds -/
def handleV : Value := .iface 178 (.agg #[.pointer (some ⟨7, 28, none⟩)])

theorem valueOfT (t : Addr) (w : World) : (ReflectliteValue.unpack (.iface 112 (.pointer (some t)))).run Tryz.prog w
    = .ok (.agg #[.pointer (some ⟨7, 112, none⟩), .pointer (some ⟨w.heap.size, 0, none⟩), .int .u64 150]) (w.alloc (.cells #[.pointer (some t)] 112)) := by kernel_rfl
theorem typeT (a : Addr) (w : World) : (ReflectliteValue.methodAny (ReflectliteValue.valueError "reflectlite.Value.Type" 0) (fun t _ _ _ => ReflectliteType.toType t) #[.agg #[.pointer (some ⟨7, 112, none⟩), .pointer (some a), .int .u64 150]]).run Tryz.prog w
    = .ok (.iface 178 (.agg #[.pointer (some ⟨7, 112, none⟩)])) w := by kernel_rfl
theorem methodKind (h : Value) (w : World) : (Go.method 381 178 (.agg #[h]) "Kind").run Tryz.prog w = .ok (216, h) w := by kernel_rfl
theorem kindT (w : World) : ((ReflectliteType.abiMethod fun t => Functor.map (fun a : Nat => Value.int IntKind.u8 (a : Int)) (Rtype.kind t)) #[.pointer (some ⟨7, 112, none⟩)]).run Tryz.prog w = .ok (.int .u8 22) w := by kernel_rfl
theorem kindE (w : World) : ((ReflectliteType.abiMethod fun t => Functor.map (fun a : Nat => Value.int IntKind.u8 (a : Int)) (Rtype.kind t)) #[.pointer (some ⟨7, 65, none⟩)]).run Tryz.prog w = .ok (.int .u8 2) w := by kernel_rfl

/-- a method of a Value first takes the Value apart -/
theorem method_shape (z : Sem Value) (f : TypeId → Addr → Nat → Nat → Sem Value) : ∃ g : Option (TypeId × Addr × Nat) → Sem Value,
    (∀ v, ReflectliteValue.method z f #[v] = (ReflectliteValue.parts v >>= g)) ∧ ∀ t a fl, g (some (t, a, fl)) = f t a fl (fl % 32) :=
  ⟨_, fun _ => rfl, fun _ _ _ => rfl⟩
theorem partsT (a : Addr) (w : World) : (ReflectliteValue.parts (.agg #[.pointer (some ⟨7, 112, none⟩), .pointer (some a), .int .u64 150])).run Tryz.prog w = .ok (some (112, a, 150)) w := by kernel_rfl
theorem isNilT (a p : Addr) (W : World) (ha : W.cell? a = some (.pointer (some p))) :
    (ReflectliteValue.method (ReflectliteValue.valueError "reflectlite.Value.IsNil" 0) ReflectliteValue.isNil #[.agg #[.pointer (some ⟨7, 112, none⟩), .pointer (some a), .int .u64 150]]).run Tryz.prog W = .ok (.bool false) W := by
  obtain ⟨g, h1, h2⟩ := method_shape _ _
  rw [h1]
  simp only [Sem.run_bind, partsT, Result.andThen, h2]
  simp [ReflectliteValue.isNil, loadVar, isAgg, underlying, Tryz.underlying112, ha, Result.andThen]

theorem methodElem (h : Value) (w : World) : (Go.method 381 178 (.agg #[h]) "Elem").run Tryz.prog w = .ok (228, .agg #[h]) w := by kernel_rfl
theorem methodImplements (h : Value) (w : World) : (Go.method 381 178 (.agg #[h]) "Implements").run Tryz.prog w = .ok (229, .agg #[h]) w := by kernel_rfl
theorem methodAssignableTo (h : Value) (w : World) : (Go.method 381 178 (.agg #[h]) "AssignableTo").run Tryz.prog w = .ok (226, .agg #[h]) w := by kernel_rfl
theorem elemT (w : World) : (ReflectliteType.method ReflectliteType.elem #[.agg #[.pointer (some ⟨7, 112, none⟩)]]).run Tryz.prog w = .ok (.iface 178 (.agg #[.pointer (some ⟨7, 65, none⟩)])) w := by kernel_rfl
theorem implementsE (w : World) : (ReflectliteType.relation "Implements" ReflectliteType.implements_ #[.agg #[.pointer (some ⟨7, 65, none⟩)], .iface 178 (.agg #[.pointer (some ⟨7, 28, none⟩)])]).run Tryz.prog w = .ok (.bool true) w := by kernel_rfl
theorem typeOfE (v : Value) (w : World) : (ReflectliteType.typeOf #[.iface 65 v]).run Tryz.prog w = .ok (.iface 178 (.agg #[.pointer (some ⟨7, 65, none⟩)])) w := by kernel_rfl
theorem assignableE (w : World) : (ReflectliteType.relation "AssignableTo" ReflectliteType.assignableTo #[.agg #[.pointer (some ⟨7, 65, none⟩)], .iface 178 (.agg #[.pointer (some ⟨7, 65, none⟩)])]).run Tryz.prog w = .ok (.bool true) w := by kernel_rfl
theorem valueOfE (k : Int) (w : World) : (ReflectliteValue.unpack (.iface 65 (.int .i64 k))).run Tryz.prog w
    = .ok (.agg #[.pointer (some ⟨7, 65, none⟩), .pointer (some ⟨w.heap.size, 0, none⟩), .int .u64 130]) (w.alloc (.cells #[.int .i64 k] 65)) := by kernel_rfl

theorem elemOfT (w : World) : (Rtype.elem? 112).run Tryz.prog w = .ok (some 65) w := by kernel_rfl
theorem mkE (p : Addr) (w : World) : (ReflectliteValue.mk 65 p ReflectliteValue.flagAddr).run Tryz.prog w = .ok (.agg #[.pointer (some ⟨7, 65, none⟩), .pointer (some p), .int .u64 386]) w := by kernel_rfl
theorem elemVT (a p : Addr) (W : World) (ha : W.cell? a = some (.pointer (some p))) :
    (ReflectliteValue.method (ReflectliteValue.valueError "reflectlite.Value.Elem" 0) ReflectliteValue.elem #[.agg #[.pointer (some ⟨7, 112, none⟩), .pointer (some a), .int .u64 150]]).run Tryz.prog W
      = .ok (.agg #[.pointer (some ⟨7, 65, none⟩), .pointer (some p), .int .u64 386]) W := by
  obtain ⟨g, h1, h2⟩ := method_shape _ _
  rw [h1]
  simp only [Sem.run_bind, partsT, Result.andThen, h2]
  simp [ReflectliteValue.elem, loadVar, isAgg, underlying, Tryz.underlying112, ha, Result.andThen, elemOfT, mkE]
theorem partsEa (a : Addr) (w : World) : (ReflectliteValue.parts (.agg #[.pointer (some ⟨7, 65, none⟩), .pointer (some a), .int .u64 386])).run Tryz.prog w = .ok (some (65, a, 386)) w := by kernel_rfl
theorem partsE (a : Addr) (w : World) : (ReflectliteValue.parts (.agg #[.pointer (some ⟨7, 65, none⟩), .pointer (some a), .int .u64 130])).run Tryz.prog w = .ok (some (65, a, 130)) w := by kernel_rfl
theorem directE (w : World) : (Rtype.directlyAssignable 65 65).run Tryz.prog w = .ok true w := by kernel_rfl
/-- of two Values of api.Errno, the first one addressable: what the second one holds is read, whether it may be assigned is asked, then it is stored -/
theorem set_shape : ∃ (g : Option (TypeId × Addr × Nat) → Option (TypeId × Addr × Nat) → Sem Value) (h : Addr → Value → Bool → Sem Value),
    (∀ v x, ReflectliteValue.set #[v, x] = (ReflectliteValue.parts v >>= fun p => ReflectliteValue.parts x >>= fun q => g p q)) ∧
    (∀ a b, g (some (65, a, 386)) (some (65, b, 130)) = (loadVar 65 b >>= fun val => Rtype.directlyAssignable 65 65 >>= fun d => h a val d)) ∧
    ∀ a val, h a val true = (storeVar 65 a val >>= fun _ => pure (.tuple #[])) :=
  ⟨_, _, fun _ _ => rfl, fun _ _ => rfl, fun _ _ => rfl⟩
theorem setE (ta b : Addr) (k : Int) (old : Value) (W : World) (hb : W.cell? b = some (.int .i64 k)) (ht : W.cell? ta = some old) (hf : W.frozen? ta = false) :
    (ReflectliteValue.set #[.agg #[.pointer (some ⟨7, 65, none⟩), .pointer (some ta), .int .u64 386], .agg #[.pointer (some ⟨7, 65, none⟩), .pointer (some b), .int .u64 130]]).run Tryz.prog W
      = .ok (.tuple #[]) (W.setCell ta (.int .i64 k)) := by
  obtain ⟨g, h, h1, h2, h3⟩ := set_shape
  rw [h1]
  simp only [Sem.run_bind, partsEa, partsE, Result.andThen, h2]
  simp [loadVar, isAgg, underlying, Tryz.underlying65, hb, Result.andThen, directE, h3, storeVar, Value.cells, storeCells, Addr.add]
  rw [run_store Tryz.prog W ta _ _ (by rfl)]
  simp [ht, hf]
end Fr
end Go.Proofs.YtpnmmmlckdkcdakGreatDoor

/- Frames by what some of their slots hold; a piece of a function's code; how pieces join. So that a great function goes piece by piece, each a declaration of its own. -/
namespace Go.Proofs.YtpnmmmlckdkcdakGreatDoor
open Go.RowKit
set_option linter.unusedSimpArgs false
set_option linter.unusedVariables false

def Has (t : List Value) : List (Nat × Value) → Prop
  | [] => True
  | (k, v) :: r => t[k]? = some v ∧ Has t r
def HasX (X : Nat → Value) : List (Nat × Value) → Prop
  | [] => True
  | (k, v) :: r => X k = v ∧ HasX X r
/-- a frame of n slots, of which these hold these -/
def Slots (n : Nat) (vs : List (Nat × Value)) (a : Act) : Prop := a.defers = [] ∧ a.tmps.toList.length = n ∧ Has a.tmps.toList vs
theorem has_x {t : List Value} : ∀ vs, Has t vs → HasX (fun i => t.getD i undef) vs := by
  intro vs
  induction vs with
  | nil => intro _; trivial
  | cons p r ih =>
    obtain ⟨k, v⟩ := p
    rintro ⟨h1, h2⟩
    exact ⟨by simp [List.getD, h1], ih h2⟩
theorem Slots.lay {n : Nat} {vs : List (Nat × Value)} {a : Act} (h : Slots n vs a) : ∃ X : Nat → Value, a = ⟨((List.range n).map X).toArray, []⟩ ∧ HasX X vs := by
  obtain ⟨⟨t⟩, d⟩ := a
  obtain ⟨h1, h2, h3⟩ := h
  simp only at h1 h2 h3
  subst h1 h2
  refine ⟨fun i => t.getD i undef, ?_, has_x vs h3⟩
  congr 2
  apply List.ext_getElem
  · simp
  · intro i h1 h2
    simp [List.getD, h1]
theorem Slots.head {n : Nat} {p : Nat × Value} {vs : List (Nat × Value)} {a : Act} (h : Slots n (p :: vs) a) : a.tmps.toList[p.1]? = some p.2 := h.2.2.1
theorem Slots.tail {n : Nat} {p : Nat × Value} {vs : List (Nat × Value)} {a : Act} (h : Slots n (p :: vs) a) : Slots n vs a := ⟨h.1, h.2.1, h.2.2.2⟩
theorem slot_eval {a : Act} {k : Nat} {v : Value} (h : a.tmps.toList[k]? = some v) : a.eval (.tmp k) = v := by
  obtain ⟨⟨t⟩, d⟩ := a
  simp only at h
  simp [Act.eval, Array.getD]
  obtain ⟨hk, e⟩ := List.getElem?_eq_some_iff.1 h
  simp [hk, e]
/-- a piece of code: left, right, within -/
def dig : List Nat → Code → Code
  | [], c => c
  | 0 :: p, .seq a _ => dig p a
  | _ :: p, .seq _ b => dig p b
  | 0 :: p, .cond _ a _ => dig p a
  | _ :: p, .cond _ _ b => dig p b
  | _ :: p, .block _ c => dig p c
  | _ :: p, .loop c => dig p c
  | _ :: p, .scope c => dig p c
  | _ :: _, c => c
/-- a piece goes through to its end -/
def Thru (c : Code) (R : Act → World → Prop) (a : Act) (w : World) : Prop := c.wp Tryz.prog (fun e a' w' => e = .normal ∧ R a' w') a w
/-- no other way out -/
def NoWay : Exit → Act → World → Prop := fun _ _ _ => False
theorem Thru.mk {c : Code} {R : Act → World → Prop} {a : Act} {w : World} (h : ∀ (J K : Act → World → Prop), (∀ a' w', R a' w' → J a' w') → (∀ a' w', Met J a' w' → K a' w') → c.wp Tryz.prog (Exit.then K NoWay) a w) : Thru c R a w := by
  refine wp_mono (h R R (fun _ _ q => q) (fun _ _ q => q)) ?_
  intro e a' w' hq
  cases e with
  | normal => exact ⟨rfl, hq⟩
  | exit id => exact hq.elim
  | goto l => exact hq.elim
  | ret => exact hq.elim
  | panic ch => exact hq.elim
  | outgrown => exact hq.elim
/-- a piece goes out of the block id -/
def Outs (c : Code) (id : Nat) (R : Act → World → Prop) (a : Act) (w : World) : Prop := c.wp Tryz.prog (fun e a' w' => e = .exit id ∧ R a' w') a w
def OneWay (id : Nat) (K : Act → World → Prop) : Exit → Act → World → Prop
  | .exit id', a, w => id' = id ∧ K a w
  | _, _, _ => False
theorem OneWay.mk {id : Nat} {K : Act → World → Prop} {a : Act} {w : World} (h : K a w) : OneWay id K (.exit id) a w := ⟨rfl, h⟩
theorem Outs.mk {c : Code} {id : Nat} {R : Act → World → Prop} {a : Act} {w : World} (h : ∀ (J : Act → World → Prop) (Q : Exit → Act → World → Prop), (∀ a' w', R a' w' → J a' w') → (∀ a' w', Met J a' w' → Q (.exit id) a' w') → c.wp Tryz.prog (Exit.then (fun _ _ => False) Q) a w) : Outs c id R a w := by
  refine wp_mono (h R (OneWay id R) (fun _ _ q => q) (fun _ _ q => ⟨rfl, q⟩)) ?_
  intro e a' w' hq
  cases e with
  | normal => exact hq.elim
  | exit id' => exact ⟨by rw [hq.1], hq.2⟩
  | goto l => exact hq.elim
  | ret => exact hq.elim
  | panic ch => exact hq.elim
  | outgrown => exact hq.elim
theorem Thru.mono {c : Code} {R R' : Act → World → Prop} {a : Act} {w : World} (h : Thru c R a w) (hr : ∀ a' w', R a' w' → R' a' w') : Thru c R' a w :=
  wp_mono h (fun e a' w' q => ⟨q.1, hr _ _ q.2⟩)
theorem Thru.seq {c x y : Code} (hc : c = .seq x y) {R R' : Act → World → Prop} {a : Act} {w : World} (h : Thru x R a w) (hr : ∀ a' w', R a' w' → Thru y R' a' w') : Thru c R' a w := by
  subst hc
  refine wp_seq (wp_mono h ?_)
  rintro e a' w' ⟨rfl, q⟩
  exact hr _ _ q
theorem Thru.cond {c x y : Code} {k : Nat} (hc : c = .cond (.tmp k) x y) {R : Act → World → Prop} {a : Act} {w : World} {b : Bool} (hb : a.tmps.toList[k]? = some (.bool b)) (ht : b = true → Thru x R a w) (hf : b = false → Thru y R a w) : Thru c R a w := by
  subst hc
  refine wp_cond (slot_eval hb) ?_
  cases b with
  | true => exact ht rfl
  | false => exact hf rfl
theorem Thru.skip {c : Code} (hc : c = .skip) {R : Act → World → Prop} {a : Act} {w : World} (h : R a w) : Thru c R a w := by
  subst hc
  exact wp_skip ⟨rfl, h⟩
theorem Thru.block {c x : Code} {id : Nat} (hc : c = .block id x) {R : Act → World → Prop} {a : Act} {w : World} (h : Thru x R a w) : Thru c R a w := by
  subst hc
  refine wp_block (wp_mono h ?_)
  rintro e a' w' ⟨rfl, q⟩
  exact ⟨rfl, q⟩
theorem Outs.mono {c : Code} {id : Nat} {R R' : Act → World → Prop} {a : Act} {w : World} (h : Outs c id R a w) (hr : ∀ a' w', R a' w' → R' a' w') : Outs c id R' a w :=
  wp_mono h (fun e a' w' q => ⟨q.1, hr _ _ q.2⟩)
theorem slot_int {a : Act} {k : Nat} {n : Int} (h : a.tmps.toList[k]? = some (.int .i64 n)) : intOf (a.tmps.toList.getD k undef) = n := by
  rw [List.getD, h]; rfl
theorem Outs.seq {c x y : Code} {id : Nat} (hc : c = .seq x y) {R : Act → World → Prop} {a : Act} {w : World} (h : Outs x id R a w) : Outs c id R a w := by
  subst hc
  refine wp_seq (wp_mono h ?_)
  rintro e a' w' ⟨rfl, q⟩
  exact ⟨rfl, q⟩
theorem Thru.loop {c x : Code} {id : Nat} (hc : c = .block id (.loop x)) {R : Act → World → Prop} (I : Act → World → Prop) (mu : Act → World → Nat) {a : Act} {w : World} (h0 : I a w)
    (round : ∀ a w, I a w → Thru x (fun a' w' => I a' w' ∧ mu a' w' < mu a w) a w ∨ Outs x id R a w) : Thru c R a w := by
  subst hc
  refine wp_block (wp_loop I mu h0 (fun a w hI => ?_))
  rcases round a w hI with h | h
  · refine wp_mono h ?_
    rintro e a' w' ⟨rfl, q⟩
    exact q
  · refine wp_mono h ?_
    rintro e a' w' ⟨rfl, q⟩
    simp only [Exit.then, Exit.inBlock, if_true]
    exact ⟨trivial, q⟩
/-- where the walk of the whole stands at such a piece -/
theorem Thru.here {c : Code} {R : Act → World → Prop} {K : Act → World → Prop} {Q : Exit → Act → World → Prop} {a : Act} {w : World} (h : Thru c R a w) (hr : ∀ a' w', R a' w' → K a' w') : c.wp Tryz.prog (Exit.then K Q) a w := by
  refine wp_mono h ?_
  rintro e a' w' ⟨rfl, q⟩
  exact hr _ _ q
end Go.Proofs.YtpnmmmlckdkcdakGreatDoor
