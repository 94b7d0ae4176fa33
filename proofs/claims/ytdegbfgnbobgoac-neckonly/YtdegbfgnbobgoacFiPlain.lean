/- The landed fill's own lists: the links of a least share, who is free, flow by flow. No Go in it but what FlMem brings. -/
import Derived.Test.YtdegbfgnbobgoacFlMem
namespace Go.Proofs.Ytdegbfgnbobgoac
namespace Fl
open Go.RowKit Fr Ns Ld
set_option linter.unusedSimpArgs false
set_option linter.unusedVariables false

/-- the links of the least share among the first n, rising -/
def linksTo (sh : Nat → Option (Int × Int)) (n : Nat) : List Int := ((List.range n).filter (narAt sh n)).map (fun l : Nat => (l : Int))
theorem linksTo_length (sh : Nat → Option (Int × Int)) (n : Nat) : (linksTo sh n).length ≤ n := by
  unfold linksTo
  rw [List.length_map]
  exact Nat.le_trans (List.length_filter_le _ _) (by simp)
theorem links_keep {sh : Nat → Option (Int × Int)} {n : Nat} (h : ∀ l, narAt sh (n + 1) l = narAt sh n l) : linksTo sh (n + 1) = linksTo sh n := by
  unfold linksTo
  have z : narAt sh n n = false := by simp [narAt]
  rw [show narAt sh (n + 1) = narAt sh n from funext h, List.range_succ, List.filter_append, List.map_append]
  simp [List.filter_cons, z]
theorem links_new {sh : Nat → Option (Int × Int)} {n : Nat} (h : ∀ l, narAt sh (n + 1) l = decide (l = n)) : linksTo sh (n + 1) = [(n : Int)] := by
  unfold linksTo
  have e : (List.range n).filter (fun l => decide (l = n)) = [] := List.filter_eq_nil_iff.2 (fun a ha => by have := List.mem_range.1 ha; simp; omega)
  rw [show narAt sh (n + 1) = (fun l => decide (l = n)) from funext h, List.range_succ, List.filter_append, e]
  simp [List.filter_cons]
theorem links_same {sh : Nat → Option (Int × Int)} {n : Nat} (h : ∀ l, narAt sh (n + 1) l = (narAt sh n l || decide (l = n))) : linksTo sh (n + 1) = linksTo sh n ++ [(n : Int)] := by
  unfold linksTo
  have e : (List.range n).filter (fun l => narAt sh n l || decide (l = n)) = (List.range n).filter (narAt sh n) := List.filter_congr (fun a ha => by
    have := List.mem_range.1 ha
    have hne : decide (a = n) = false := decide_eq_false (by omega)
    rw [hne, Bool.or_false])
  rw [show narAt sh (n + 1) = (fun l => narAt sh n l || decide (l = n)) from funext h, List.range_succ, List.filter_append, e]
  simp [List.filter_cons]
theorem mem_links {sh : Nat → Option (Int × Int)} {n : Nat} {x : Int} : x ∈ linksTo sh n ↔ ∃ l : Nat, x = l ∧ l < n ∧ narAt sh n l = true := by
  unfold linksTo
  rw [List.mem_map]
  constructor
  · rintro ⟨l, hl, rfl⟩
    rw [List.mem_filter, List.mem_range] at hl
    exact ⟨l, rfl, hl.1, hl.2⟩
  · rintro ⟨l, rfl, h1, h2⟩
    exact ⟨l, List.mem_filter.2 ⟨List.mem_range.2 h1, h2⟩, rfl⟩
theorem links_some {sh : Nat → Option (Int × Int)} {n : Nat} {b : Int × Int} (h : bestOf sh n = some b) : 0 < (linksTo sh n).length := by
  obtain ⟨l, hl, hs⟩ := best_mem n b h
  have : (l : Int) ∈ linksTo sh n := mem_links.2 ⟨l, rfl, hl, by simp [narAt, hl, hs, h]⟩
  exact List.length_pos_of_mem this
theorem links_none {sh : Nat → Option (Int × Int)} {n : Nat} (h : bestOf sh n = none) : linksTo sh n = [] := by
  rw [List.eq_nil_iff_forall_not_mem]
  intro x hx
  obtain ⟨l, _, hl, hn⟩ := mem_links.1 hx
  have := best_none n h l hl
  simp [narAt, this] at hn
theorem in_links {sh : Nat → Option (Int × Int)} {n : Nat} {x : Int} (hx : 0 ≤ x) : inB (linksTo sh n) x = narAt sh n x.toNat := by
  rw [Bool.eq_iff_iff]
  have : inB (linksTo sh n) x = true ↔ x ∈ linksTo sh n := by simp [inB]
  rw [this, mem_links]
  constructor
  · rintro ⟨l, rfl, _, h⟩; simpa using h
  · intro h
    have hl : x.toNat < n := by
      apply Classical.byContradiction
      intro hn
      simp [narAt, hn] at h
    exact ⟨x.toNat, by omega, hl, h⟩
theorem any_links {sh : Nat → Option (Int × Int)} {n : Nat} {p : List Int} (hp : ∀ x ∈ p, 0 ≤ x) : p.any (fun x => inB (linksTo sh n) x) = p.any (fun x => narAt sh n x.toNat) := by
  rw [Bool.eq_iff_iff, List.any_eq_true, List.any_eq_true]
  constructor
  · rintro ⟨x, hx, h⟩; exact ⟨x, hx, by rw [← in_links (hp x hx)]; exact h⟩
  · rintro ⟨x, hx, h⟩; exact ⟨x, hx, by rw [in_links (hp x hx)]; exact h⟩

/-! ### flow by flow -/
theorem usersFrom_app (link : Int) : ∀ (a b : List (List Int)) (i : Nat), usersFrom link i (a ++ b) = usersFrom link i a ++ usersFrom link (i + a.length) b := by
  intro a
  induction a with
  | nil => intro b i; simp [usersFrom]
  | cons p r ih =>
    intro b i
    simp only [List.cons_append, usersFrom, ih]
    have e : i + 1 + r.length = i + (p :: r).length := by simp; omega
    rw [e]
    split <;> simp
theorem users_take (paths : List (List Int)) (l : Int) (k : Nat) : users (paths.take k) l = (users paths l).take (users (paths.take k) l).length := by
  have e : users paths l = users (paths.take k) l ++ usersFrom l (0 + (paths.take k).length) (paths.drop k) := by
    unfold users
    rw [← usersFrom_app, List.take_append_drop]
  rw [e, List.take_left]
/-- what a link takes, less the rates of the first k flows that are not free, and how many of these are -/
def linkTo (caps : List Int) (paths : List (List Int)) (rate : List (Int × Int)) (done : List Bool) (l k : Nat) : (Int × Int) × Nat := linkSum rate done (users (paths.take k) l) (caps.getD l 0, 1) 0
theorem linkTo_zero (caps : List Int) (paths : List (List Int)) (rate : List (Int × Int)) (done : List Bool) (l : Nat) : linkTo caps paths rate done l 0 = ((caps.getD l 0, 1), 0) := rfl
theorem linkTo_step {caps : List Int} {paths : List (List Int)} {rate : List (Int × Int)} {done : List Bool} {l k : Nat} (hk : k < paths.length) :
    linkTo caps paths rate done l (k + 1) = if inB (paths.getD k []) l = true then (if dB done k = true then (sumP (linkTo caps paths rate done l k).1 (negP (rP rate k)), (linkTo caps paths rate done l k).2) else ((linkTo caps paths rate done l k).1, (linkTo caps paths rate done l k).2 + 1)) else linkTo caps paths rate done l k := by
  unfold linkTo
  rw [users_step paths l k hk, linkSum_append]
  by_cases h : inB (paths.getD k []) l = true
  · rw [if_pos h, if_pos h]
    simp only [linkSum, Int.toNat_natCast]
  · rw [if_neg h, if_neg h]
    simp only [linkSum]
theorem linkTo_all (caps : List Int) (paths : List (List Int)) (rate : List (Int × Int)) (done : List Bool) (l : Nat) : linkTo caps paths rate done l paths.length = linkSum rate done (users paths l) (caps.getD l 0, 1) 0 := by
  unfold linkTo
  rw [List.take_of_length_le (Nat.le_refl _)]
theorem linkTo_part (caps : List Int) (paths : List (List Int)) (rate : List (Int × Int)) (done : List Bool) (l k : Nat) : ∃ j, j ≤ paths.length ∧ linkTo caps paths rate done l k = linkSum rate done ((users paths l).take j) (caps.getD l 0, 1) 0 := by
  refine ⟨(users (paths.take k) l).length, ?_, ?_⟩
  · have := users_length (l : Int) 0 (paths.take k)
    have h2 : (paths.take k).length ≤ paths.length := by rw [List.length_take]; omega
    unfold users
    omega
  · unfold linkTo
    rw [← users_take]
theorem linkTo_free {caps : List Int} {paths : List (List Int)} {rate : List (Int × Int)} {done : List Bool} {l : Nat} : ∀ k, k ≤ paths.length → (linkTo caps paths rate done l k).2 ≤ k := by
  intro k
  induction k with
  | zero => intro _; rw [linkTo_zero]; exact Nat.le_refl 0
  | succ k ih =>
    intro hk
    have := ih (by omega)
    rw [linkTo_step (by omega)]
    split
    · split <;> simp <;> omega
    · omega

/-! ### who is free -/
def freeL (done : List Bool) : List Bool := done.map (fun b => !b)
theorem freeL_length (done : List Bool) : (freeL done).length = done.length := by simp [freeL]
theorem free_cell {done : List Bool} {m : Nat} (h : m < done.length) : (boolsV (freeL done))[m]? = some (.bool (!dB done m)) := by
  simp [boolsV, freeL, dB, List.getD, List.getElem?_eq_getElem h]
theorem freeL_start (n : Nat) : freeL (List.replicate n false) = List.replicate n true := by simp [freeL]
theorem freeL_set (done : List Bool) (m : Nat) : freeL (done.set m true) = (freeL done).set m false := by simp [freeL, List.map_set]
theorem free_any {paths : List (List Int)} {done : List Bool} (hl : done.length = paths.length) : (freeL done).any id = decide (freeN paths done ≠ 0) := by
  rw [Bool.eq_iff_iff, List.any_eq_true, decide_eq_true_eq]
  unfold freeN
  rw [Ne, List.countP_eq_zero]
  constructor
  · rintro ⟨b, hb, h⟩ hn
    obtain ⟨i, hi, rfl⟩ := List.mem_iff_getElem.1 hb
    rw [freeL_length] at hi
    have := hn i (List.mem_range.2 (by omega))
    simp [freeL] at h
    simp [dB, List.getD, List.getElem?_eq_getElem hi, h] at this
  · intro hn
    apply Classical.byContradiction
    intro hc
    refine hn (fun f hf => ?_)
    have hf' := List.mem_range.1 hf
    intro hd
    refine hc ⟨true, ?_, rfl⟩
    have h1 : done[f]'(by omega) = false := by
      simpa [dB, List.getD, List.getElem?_eq_getElem (show f < done.length by omega)] using hd
    unfold freeL
    rw [List.mem_map]
    exact ⟨false, by rw [← h1]; exact List.getElem_mem _, rfl⟩
theorem setDone_snoc {done : List Bool} {rd : List Int} {m : Nat} (hl : m < done.length) : setDone done (rd ++ [(m : Int)]) = (setDone done rd).set m true := by
  have h := setDone_step (done := done) (rd := rd ++ [(m : Int)]) (i := rd.length) (m := m) (by simp) (by simp [List.getD]) hl
  rw [List.take_left] at h
  rw [← h, List.take_of_length_le (by simp)]
theorem setRate_snoc {rate : List (Int × Int)} {rd : List Int} {b : Int × Int} {m : Nat} (hl : m < rate.length) : setRate rate (rd ++ [(m : Int)]) b = (setRate rate rd b).set m b := by
  have h := setRate_step (rate := rate) (rd := rd ++ [(m : Int)]) (b := b) (i := rd.length) (m := m) (by simp) (by simp [List.getD]) hl
  rw [List.take_left] at h
  rw [← h, List.take_of_length_le (by simp)]
theorem roundTo_lt {paths : List (List Int)} {done : List Bool} {nar : Nat → Bool} {k : Nat} {x : Int} (h : x ∈ roundTo paths done nar k) : x < k := by
  unfold roundTo at h
  rw [List.mem_map] at h
  obtain ⟨a, ha, rfl⟩ := h
  rw [List.mem_filter, List.mem_range] at ha
  omega
theorem free_yet {paths : List (List Int)} {done : List Bool} {nar : Nat → Bool} {k : Nat} (hk : k < done.length) : dB (setDone done (roundTo paths done nar k)) k = dB done k := by
  rw [dB_setDone hk]
  have : ¬ ((k : Int) ∈ roundTo paths done nar k) := fun h => by have := roundTo_lt h; omega
  simp [this]
theorem setDone_length (done : List Bool) (rd : List Int) : (setDone done rd).length = done.length := by simp [setDone]
theorem setRate_length (rate : List (Int × Int)) (rd : List Int) (b : Int × Int) : (setRate rate rd b).length = rate.length := by simp [setRate]
end Fl
end Go.Proofs.Ytdegbfgnbobgoac
