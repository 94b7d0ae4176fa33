/- The rounds' memory and how far they are: what the walk through the document's Fill is told. -/
import Derived.Test.YtdegbfgnbobgoacFlRows
namespace Go.Proofs.Ytdegbfgnbobgoac
namespace Fl
open Go.RowKit Fr Ns Ld
set_option linter.unusedSimpArgs false
set_option linter.unusedVariables false

theorem made_fracs (n : Nat) : (madeCells #[Value.int .i64 0, Value.int .i64 0] (n * 2)).toList = flat (List.replicate n (0, 0)) := by
  apply List.ext_getElem?
  intro i
  by_cases hi : i < n * 2
  · have h1 : (madeCells #[Value.int .i64 0, Value.int .i64 0] (n * 2)).toList[i]? = some (.int .i64 0) := by
      unfold madeCells
      simp only [Array.toList_map, List.getElem?_map, Array.toList_range, List.getElem?_range hi, Option.map_some]
      rcases Nat.mod_two_eq_zero_or_one i with h | h <;> simp [h]
    rw [h1]
    rcases Nat.mod_two_eq_zero_or_one i with h | h
    · have e : i = i / 2 * 2 := by omega
      have := (flat_at (List.replicate n ((0 : Int), (0 : Int))) (i / 2) (by simp; omega)).1
      rw [← e] at this
      rw [this, getD_replicate _ _ _ _ (by omega)]
    · have e : i = i / 2 * 2 + 1 := by omega
      have := (flat_at (List.replicate n ((0 : Int), (0 : Int))) (i / 2) (by simp; omega)).2
      rw [← e] at this
      rw [this, getD_replicate _ _ _ _ (by omega)]
  · rw [List.getElem?_eq_none (by simp [size_madeCells]; omega), List.getElem?_eq_none (by rw [flat_length]; simp; omega)]
theorem made_bools (n : Nat) : (madeCells #[Value.bool false] n).toList = boolsV (List.replicate n false) := by
  rw [toList_madeCells_one]; simp [boolsV]

theorem owns_later {w w' : World} {base : Nat} {e : TypeId} {size n : Nat} {v : Value} {xs : List Value} (hb : Below w.heap.size w w') (h : w.ownsRow base e size v n xs) : w'.ownsRow base e size v n xs := by
  refine ⟨h.1, ?_⟩
  rcases h.2 with h' | ⟨g', cap', cur, h', hg, hc, r⟩
  · exact .inl h'
  · have hlt : g' < w.heap.size := (Array.getElem?_eq_some_iff.1 hc).1
    exact .inr ⟨g', cap', cur, h', hg, by rw [hb.block g' hlt]; exact hc, r⟩
/-- what the rounds' memory holds -/
def FillMem (gr gd : Nat) (w : World) (v6 : Value) (rate : List (Int × Int)) (done : List Bool) (acc : List (List Int)) : Prop :=
  RowAt w gr 37 (flat rate) ∧ RowAt w gd 4 (boolsV done) ∧ ∃ vs, w.ownsRow (gd + 1) 22 1 v6 acc.length vs ∧ ∀ i, i < acc.length → IntsAt (fun b => gd < b ∧ v6.ownBlock ≠ some b) w (vs.getD i undef) (acc.getD i [])
theorem mem_later {gr gd : Nat} {w w' : World} {v6 : Value} {rate : List (Int × Int)} {done : List Bool} {acc : List (List Int)} (h : FillMem gr gd w v6 rate done acc) (hb : Below w.heap.size w w') : FillMem gr gd w' v6 rate done acc := by
  obtain ⟨h1, h2, vs, h3, h4⟩ := h
  exact ⟨h1.later hb h1.lt, h2.later hb h2.lt, vs, owns_later hb h3, fun i hi => (h4 i hi).later hb⟩
theorem nar_start (sh : Nat → Option (Int × Int)) (n : Nat) : (List.range n).map (narAt sh 0) = List.replicate n false := by
  apply List.ext_getElem
  · simp
  · intro i h1 h2
    simp [narAt]
/-- how far the rounds are -/
def FillAt (caps : List Int) (paths : List (List Int)) (rate : List (Int × Int)) (done : List Bool) (acc : List (List Int)) : Prop :=
  ∃ (k : Nat) (b : Rat) (D : Int), Inv caps paths rate done b D ∧ D * 6 ^ freeN paths done ≤ 46656 ∧ freeN paths done ≤ k ∧ fill caps paths = ((fillFrom caps paths k rate done).1, acc ++ (fillFrom caps paths k rate done).2)

theorem freeN_le (paths : List (List Int)) (done : List Bool) : freeN paths done ≤ paths.length := by
  unfold freeN
  exact Nat.le_trans List.countP_le_length (by simp)
theorem freeN_start (paths : List (List Int)) : freeN paths (List.replicate paths.length false) = paths.length := by
  unfold freeN
  have : (List.range paths.length).countP (fun f => !dB (List.replicate paths.length false) f) = (List.range paths.length).length := by
    rw [List.countP_eq_length]
    intro f hf
    have : dB (List.replicate paths.length false) f = false := by
      unfold dB
      simp only [List.getD, List.getElem?_replicate]
      split <;> rfl
    rw [this]; rfl
  rw [this]; simp
theorem fillAt_start {caps : List Int} {paths : List (List Int)} (hg : Good caps paths) : FillAt caps paths (List.replicate paths.length (0, 0)) (List.replicate paths.length false) [] := by
  refine ⟨paths.length, 0, 1, inv_start hg, ?_, freeN_le _ _, by simp [fill]⟩
  rw [Int.one_mul]
  have h1 : (6 : Int) ^ freeN paths (List.replicate paths.length false) ≤ 6 ^ 6 := six (Nat.le_trans (freeN_le _ _) hg.2.2.1)
  have h2 : (6 : Int) ^ 6 = 46656 := by decide
  omega
theorem all_of_free {paths : List (List Int)} {done : List Bool} (h : freeN paths done = 0) : ∀ f, f < paths.length → dB done f = true := by
  intro f hf
  unfold freeN at h
  rw [List.countP_eq_zero] at h
  simpa using h f (List.mem_range.2 hf)
theorem fillAt_end {caps : List Int} {paths : List (List Int)} {rate : List (Int × Int)} {done : List Bool} {acc : List (List Int)} (h : FillAt caps paths rate done acc) (hz : freeN paths done = 0) : fill caps paths = (rate, acc) := by
  obtain ⟨k, b, D, hi, _, _, he⟩ := h
  have hall : done.all id = true := (all_done hi.ld).2 (all_of_free hz)
  have : fillFrom caps paths k rate done = (rate, []) := by
    cases k with
    | zero => rfl
    | succ k => simp only [fillFrom]; rw [if_pos hall]
  rw [he, this]; simp
theorem len_le_flatten : ∀ (l : List (List Int)), (∀ a ∈ l, a ≠ []) → l.length ≤ l.flatten.length := by
  intro l
  induction l with
  | nil => intro _; simp
  | cons a l ih =>
    intro h
    have := ih (fun x hx => h x (by simp [hx]))
    have ha := h a (by simp)
    have : 0 < a.length := List.length_pos_iff.2 ha
    simp only [List.length_cons, List.flatten_cons, List.length_append]
    omega
theorem rises_ne {x : Nat → Rat} : ∀ {l : List (List Int)} {b : Rat}, Rises x b l → ∀ a ∈ l, a ≠ [] := by
  intro l
  induction l with
  | nil => intro b _ a ha; simp at ha
  | cons c l ih =>
    intro b h a ha
    obtain ⟨h1, v, _, _, h2⟩ := h
    rcases List.mem_cons.1 ha with rfl | ha
    · exact h1
    · exact ih h2 a ha
theorem flatten_bound {n : Nat} {l : List Int} (hn : l.Nodup) (h : ∀ u ∈ l, ∃ f : Nat, u = f ∧ f < n) : l.length ≤ n := by
  induction n generalizing l with
  | zero =>
    cases l with
    | nil => simp
    | cons a r => obtain ⟨f, _, hf⟩ := h a (by simp); omega
  | succ n ih =>
    have h1 := ih (l := l.erase (n : Int)) (hn.erase _) (by
      intro x hx
      have hx' := (hn.mem_erase_iff).1 hx
      obtain ⟨f, rfl, hf⟩ := h x hx'.2
      refine ⟨f, rfl, ?_⟩
      have : f ≠ n := fun e => hx'.1 (by rw [e])
      omega)
    have h2 : l.length ≤ (l.erase (n : Int)).length + 1 := by rw [List.length_erase]; split <;> omega
    omega
theorem fill_rounds_le {caps : List Int} {paths : List (List Int)} (hg : Good caps paths) : (fill caps paths).2.length ≤ paths.length := by
  obtain ⟨_, h1, h2, h3⟩ := fill_fair hg
  exact Nat.le_trans (len_le_flatten _ (rises_ne h1)) (flatten_bound h2 (fun u hu => (h3 u).1 hu))
theorem acc_length {caps : List Int} {paths : List (List Int)} {rate : List (Int × Int)} {acc : List (List Int)} (h : fill caps paths = (rate, acc)) (hg : Good caps paths) : acc.length ≤ paths.length := by
  have := fill_rounds_le hg
  rw [h] at this
  exact this

/-- all that one round asks -/
theorem fillAt_facts {caps : List Int} {paths : List (List Int)} {rate : List (Int × Int)} {done : List Bool} {acc : List (List Int)} (hg : Good caps paths) (h : FillAt caps paths rate done acc) (hz : 0 < freeN paths done) :
    rate.length = paths.length ∧ done.length = paths.length ∧
    (∀ l, l < caps.length → ∀ j, faultP (linkSum rate done ((users paths l).take j) (caps.getD l 0, 1) 0).1 = 0 ∧ (linkSum rate done ((users paths l).take j) (caps.getD l 0, 1) 0).1.2 ≤ 46656 ∧ (linkSum rate done ((users paths l).take j) (caps.getD l 0, 1) 0).2 ≤ j) ∧
    (∀ f, f < paths.length → dB done f = true → faultP (rP rate f) = 0) ∧
    (∀ l s, l < caps.length → shareOf caps paths rate done l = some s → faultP s = 0 ∧ 0 ≤ s.1) ∧
    ∃ bst, bestOf (shareOf caps paths rate done) caps.length = some bst ∧ faultP bst = 0 ∧ roundOf paths done (narAt (shareOf caps paths rate done) caps.length) ≠ [] ∧
      FillAt caps paths (setRate rate (roundOf paths done (narAt (shareOf caps paths rate done) caps.length)) bst) (setDone done (roundOf paths done (narAt (shareOf caps paths rate done) caps.length))) (acc ++ [roundOf paths done (narAt (shareOf caps paths rate done) caps.length)]) := by
  obtain ⟨k, b, D, hi, hD, hk, he⟩ := h
  have hD' : D ≤ 46656 := by
    have h1 : (1 : Int) ≤ 6 ^ freeN paths done := by
      have := six (a := 0) (b := freeN paths done) (by omega)
      simpa using this
    have := Int.mul_le_mul_of_nonneg_left h1 (show 0 ≤ D by have := hi.hD; omega)
    omega
  have hex : ∃ f, f < paths.length ∧ dB done f = false := by
    apply Classical.byContradiction
    intro hn
    have : freeN paths done = 0 := by
      unfold freeN
      rw [List.countP_eq_zero]
      intro f hf hd
      exact hn ⟨f, List.mem_range.1 hf, by simpa using hd⟩
    omega
  have hnall : ¬ done.all id = true := fun ha => by
    obtain ⟨f, hf, hd⟩ := hex
    rw [(all_done hi.ld).1 ha f hf] at hd
    cases hd
  obtain ⟨bst, hb, hbv, hne, kk, hk1, hk6, hi'⟩ := inv_step hg hi hex
  have hsr : ∀ l s, l < caps.length → shareOf caps paths rate done l = some s → faultP s = 0 ∧ 0 ≤ s.1 := by
    intro l s hl hs
    obtain ⟨h1, h2, _⟩ := share_right hg hi hD' hl hs
    refine ⟨h1, ?_⟩
    have hp := fault_pos h1
    have e : (0 : Rat) = val (0, 1) := by rw [val_whole]; rfl
    rw [e] at h2
    have := (cross (a := (0, 1)) (by decide) hp).1 h2
    simpa using this
  refine ⟨hi.lr, hi.ld, fun l hl j => ?_, fun f hf hd => ?_, hsr, bst, hb, ?_, hne, ?_⟩
  · obtain ⟨h1, h2, _, _, h5⟩ := linkSum_right hg hi hD' hl j
    exact ⟨h1, Int.le_trans (Int.le_of_dvd (by have := hi.hD; omega) h2.2.2) hD', h5⟩
  · have ho := hi.over f hf hd
    obtain ⟨l, hl, hfl, hall, hs, _⟩ := hi.neck f hf hd
    have h2 := le_sumQ (x := xQ rate) (fun g hgl => Rat.le_of_lt (hi.over g (usN_lt hgl) (hall g hgl)).2.1) hfl
    have h3 := (capQ_bd hg.1 hl).2
    have h4 : xQ rate f = val (rP rate f) := rfl
    exact over_fault ho.1 hi.hD (by omega) (by rw [← h4]; exact Rat.le_of_lt ho.2.1) (by rw [← h4]; grind)
  · obtain ⟨⟨l, hl, hs⟩, _⟩ := best_some (fun l s h => by
      obtain ⟨_, _, _, _, _, ho⟩ := share_some (fun f a b => (hi.over f a b).1) h
      exact ho.1) _ _ hb
    exact (hsr l bst hl hs).1
  · have hfs := freeN_step (nar := narOf (shareOf caps paths rate done) caps.length) hi.ld
    have hlen : 0 < (roundOf paths done (narOf (shareOf caps paths rate done) caps.length)).length := List.length_pos_iff.2 hne
    cases k with
    | zero => omega
    | succ k =>
      refine ⟨k, _, _, hi', ?_, ?_, ?_⟩
      · have e1 : (6 : Int) ^ (freeN paths (setDone done (roundOf paths done (narOf (shareOf caps paths rate done) caps.length))) + 1) ≤ 6 ^ freeN paths done := six (by omega)
        have p0 : (0 : Int) ≤ 6 ^ freeN paths (setDone done (roundOf paths done (narOf (shareOf caps paths rate done) caps.length))) := Int.le_of_lt (Int.pow_pos (by decide))
        have h6 : (kk : Int) * 6 ^ freeN paths (setDone done (roundOf paths done (narOf (shareOf caps paths rate done) caps.length))) ≤ 6 * 6 ^ freeN paths (setDone done (roundOf paths done (narOf (shareOf caps paths rate done) caps.length))) := Int.mul_le_mul_of_nonneg_right (by omega) p0
        rw [Int.pow_succ] at e1
        have e3 : D * ((kk : Int) * 6 ^ freeN paths (setDone done (roundOf paths done (narOf (shareOf caps paths rate done) caps.length)))) ≤ D * 6 ^ freeN paths done := Int.mul_le_mul_of_nonneg_left (by omega) (by have := hi.hD; omega)
        rw [← narAt_eq, Int.mul_assoc]
        omega
      · rw [← narAt_eq]; omega
      · rw [he, fillFrom, if_neg hnall, hb]
        simp only [narAt_eq, List.append_assoc, List.singleton_append]
theorem owns_keep {w w' : World} {base : Nat} {e : TypeId} {size n : Nat} {v : Value} {xs : List Value} (hk : ∀ g, base ≤ g → g < w.heap.size → w'.heap[g]? = w.heap[g]?) (h : w.ownsRow base e size v n xs) : w'.ownsRow base e size v n xs := by
  refine ⟨h.1, ?_⟩
  rcases h.2 with h' | ⟨g', cap', cur, h', hg, hc, r⟩
  · exact .inl h'
  · have hlt : g' < w.heap.size := (Array.getElem?_eq_some_iff.1 hc).1
    exact .inr ⟨g', cap', cur, h', hg, by rw [hk g' hg hlt]; exact hc, r⟩
theorem range_dB (l : List Bool) : (List.range l.length).map (dB l) = l := by
  apply List.ext_getElem
  · simp
  · intro i h1 h2
    simp [dB, List.getD, List.getElem?_eq_getElem h2]
theorem range_rP (l : List (Int × Int)) : (List.range l.length).map (rP l) = l := by
  apply List.ext_getElem
  · simp
  · intro i h1 h2
    simp [rP, List.getD, List.getElem?_eq_getElem h2]
theorem setDone_nil (done : List Bool) : setDone done [] = done := by
  unfold setDone
  simp only [List.contains_nil, Bool.false_or]
  exact range_dB done
theorem setRate_nil (rate : List (Int × Int)) (b : Int × Int) : setRate rate [] b = rate := by
  unfold setRate
  simp only [List.contains_nil, Bool.false_eq_true, if_false]
  exact range_rP rate
theorem mem_take_succ {rd : List Int} {i : Nat} (hi : i < rd.length) (f : Int) : f ∈ rd.take (i + 1) ↔ f ∈ rd.take i ∨ f = rd.getD i 0 := by
  rw [take_snoc rd i hi 0, List.mem_append]
  simp
theorem setDone_step {done : List Bool} {rd : List Int} {i m : Nat} (hi : i < rd.length) (hm : rd.getD i 0 = m) (hl : m < done.length) : setDone done (rd.take (i + 1)) = (setDone done (rd.take i)).set m true := by
  apply List.ext_getElem
  · simp [setDone]
  · intro k h1 h2
    have hk : k < done.length := by simpa [setDone] using h1
    simp only [setDone, List.getElem_map, List.getElem_range, List.getElem_set, List.contains_iff_mem]
    by_cases e : m = k
    · subst e
      rw [if_pos rfl]
      have : ((m : Nat) : Int) ∈ rd.take (i + 1) := (mem_take_succ hi _).2 (.inr hm.symm)
      simp [this]
    · rw [if_neg e]
      congr 1
      rw [Bool.eq_iff_iff, List.contains_iff_mem, List.contains_iff_mem, mem_take_succ hi, hm]
      constructor
      · rintro (h | h)
        · exact h
        · omega
      · exact .inl
theorem setRate_step {rate : List (Int × Int)} {rd : List Int} {b : Int × Int} {i m : Nat} (hi : i < rd.length) (hm : rd.getD i 0 = m) (hl : m < rate.length) : setRate rate (rd.take (i + 1)) b = (setRate rate (rd.take i) b).set m b := by
  apply List.ext_getElem
  · simp [setRate]
  · intro k h1 h2
    have hk : k < rate.length := by simpa [setRate] using h1
    simp only [setRate, List.getElem_map, List.getElem_range, List.getElem_set]
    by_cases e : m = k
    · subst e
      rw [if_pos rfl, if_pos]
      rw [List.contains_iff_mem]
      exact (mem_take_succ hi _).2 (.inr hm.symm)
    · rw [if_neg e]
      have : (rd.take (i + 1)).contains ((k : Nat) : Int) = (rd.take i).contains ((k : Nat) : Int) := by
        rw [Bool.eq_iff_iff, List.contains_iff_mem, List.contains_iff_mem, mem_take_succ hi, hm]
        constructor
        · rintro (h | h)
          · exact h
          · omega
        · exact .inl
      rw [this]
theorem flat_set : ∀ (l : List (Int × Int)) (m : Nat) (a : Int × Int), flat (l.set m a) = ((flat l).set (m * 2) (.int .i64 a.1)).set (m * 2 + 1) (.int .i64 a.2) := by
  intro l
  induction l with
  | nil => intro m a; simp [flat]
  | cons b l ih =>
    intro m a
    cases m with
    | zero => simp [flat]
    | succ m =>
      rw [List.set_cons_succ, flat, ih, show (m + 1) * 2 = m * 2 + 1 + 1 by omega]
      simp [flat]
theorem dB_map (g : Nat → Bool) {n x : Nat} (h : x < n) : dB ((List.range n).map g) x = g x := by
  simp [dB, List.getD, List.getElem?_map, List.getElem?_range h]
theorem any_take (p : List Int) (g : Int → Bool) (i : Nat) (h : i < p.length) : (p.take (i + 1)).any g = ((p.take i).any g || g (p.getD i 0)) := by
  rw [take_snoc p i h 0, List.any_append]
  simp
theorem RowAt.keep {w w' : World} {g : Nat} {T : TypeId} {xs : List Value} (hk : w'.heap[g]? = w.heap[g]?) (h : RowAt w g T xs) : RowAt w' g T xs := by
  unfold RowAt
  rw [hk]; exact h
theorem best_mem {sh : Nat → Option (Int × Int)} : ∀ (n : Nat) (b : Int × Int), bestOf sh n = some b → ∃ l, l < n ∧ sh l = some b := by
  intro n
  induction n with
  | zero => intro b h; simp [bestOf] at h
  | succ n ih =>
    intro b h
    unfold bestOf at h
    cases hs : sh n with
    | none => rw [hs] at h; obtain ⟨l, hl, hb⟩ := ih b h; exact ⟨l, by omega, hb⟩
    | some s =>
      rw [hs] at h
      cases hb : bestOf sh n with
      | none => rw [hb] at h; obtain rfl := Option.some.inj h; exact ⟨n, by omega, hs⟩
      | some b0 =>
        rw [hb] at h
        simp only at h
        split at h
        · obtain rfl := Option.some.inj h; exact ⟨n, by omega, hs⟩
        · obtain rfl := Option.some.inj h; obtain ⟨l, hl, hb'⟩ := ih b0 hb; exact ⟨l, by omega, hb'⟩
theorem nar_new {sh : Nat → Option (Int × Int)} {n l : Nat} (h : ∀ i, narAt sh (l + 1) i = decide (i = l)) : (List.range n).map (narAt sh (l + 1)) = (List.replicate n false).set l true := by
  apply List.ext_getElem
  · simp
  · intro i h1 h2
    simp only [List.getElem_map, List.getElem_range, List.getElem_set, List.getElem_replicate, h]
    by_cases e : i = l
    · subst e; simp
    · have : ¬ l = i := fun x => e x.symm
      simp [e, this]
theorem nar_same {sh : Nat → Option (Int × Int)} {n l : Nat} (h : ∀ i, narAt sh (l + 1) i = (narAt sh l i || decide (i = l))) : (List.range n).map (narAt sh (l + 1)) = ((List.range n).map (narAt sh l)).set l true := by
  apply List.ext_getElem
  · simp
  · intro i h1 h2
    simp only [List.getElem_map, List.getElem_range, List.getElem_set, h]
    by_cases e : i = l
    · subst e; simp
    · have : ¬ l = i := fun x => e x.symm
      simp [e, this]
theorem boolsV_set (l : List Bool) (i : Nat) (b : Bool) : boolsV (l.set i b) = (boolsV l).set i (.bool b) := by simp [boolsV, List.map_set]
theorem RowAt.set2 {w : World} {g : Nat} {T : TypeId} {a b : Value} (h : RowAt w g T [a, b]) (x y : Value) : RowAt ((w.setCell ⟨g, 0, none⟩ x).setCell ⟨g, 1, none⟩ y) g T [x, y] := by
  have := (h.set 0 x).set 1 y
  simpa using this
theorem fillAt_acc {caps : List Int} {paths : List (List Int)} {rate : List (Int × Int)} {done : List Bool} {acc : List (List Int)} (hg : Good caps paths) (h : FillAt caps paths rate done acc) : acc.length ≤ paths.length := by
  obtain ⟨k, b, D, _, _, _, he⟩ := h
  have := fill_rounds_le hg
  rw [he] at this
  simp only [List.length_append] at this
  omega
/-- one round more -/
theorem mem_append {gr gd : Nat} {wr w13 : World} {v6 v' v16 : Value} {o : Obj} {rate' : List (Int × Int)} {done' : List Bool} {acc : List (List Int)} {rd : List Int} {vs : List Value} (hrt : RowAt wr gr 37 (flat rate')) (hdn : RowAt wr gd 4 (boolsV done')) (hgr : gr < gd)
    (hv : ∀ i, i < acc.length → IntsAt (fun b => gd < b ∧ v6.ownBlock ≠ some b) wr (vs.getD i undef) (acc.getD i [])) (hnew : IntsAt (fun b => gd < b ∧ v6.ownBlock ≠ some b) wr v16 rd) (hvs : vs.length = acc.length)
    (hown' : w13.ownsRow (gd + 1) 22 1 v' (acc.length + 1) (vs ++ [v16])) (hgrow : (wr.alloc o).grownBy w13 v6.ownBlock) (hat : v'.ownBlock = v6.ownBlock ∨ v'.ownBlock = some (wr.alloc o).heap.size) (hb : Below (gd + 1) wr w13) :
    FillMem gr gd w13 v' rate' done' (acc ++ [rd]) := by
  refine ⟨hrt.later hb (by omega), hdn.later hb (by omega), vs ++ [v16], by simpa using hown', ?_⟩
  have hkeep : ∀ b, (gd < b ∧ v6.ownBlock ≠ some b) → b < wr.heap.size → w13.heap[b]? = wr.heap[b]? := by
    intro b hb' hlt
    have h1 := hgrow.block b (by simp; omega) (fun e => hb'.2 e.symm)
    rw [h1]
    exact ((Below.refl wr.heap.size wr).alloc (Nat.le_refl _) o).block b hlt
  have hQ : ∀ b, (gd < b ∧ v6.ownBlock ≠ some b) → b < wr.heap.size → (gd < b ∧ v'.ownBlock ≠ some b) := by
    intro b hb' hlt
    refine ⟨hb'.1, ?_⟩
    rcases hat with h | h
    · rw [h]; exact hb'.2
    · rw [h]
      simp
      omega
  exact ints_snoc hvs (fun i hi => (hv i hi).keep hkeep hQ) (hnew.keep hkeep hQ)
theorem flat_cells {rate : List (Int × Int)} {m : Nat} (h : m < rate.length) : (flat rate)[m * 2]? = some (.int .i64 (rP rate m).1) ∧ (flat rate)[m * 2 + 1]? = some (.int .i64 (rP rate m).2) := flat_at rate m h
theorem bools_cell {done : List Bool} {m : Nat} (h : m < done.length) : (boolsV done)[m]? = some (.bool (dB done m)) := by
  simp [boolsV, dB, List.getD, List.getElem?_eq_getElem h]

end Fl
end Go.Proofs.Ytdegbfgnbobgoac
