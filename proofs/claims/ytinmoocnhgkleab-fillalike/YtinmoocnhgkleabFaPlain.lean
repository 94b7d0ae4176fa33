/- Rates that fit, and narrow places, of whatever flows and links: what follows of these. Plain numbers; no Go in it. -/
import Derived.Test.YtinmoocnhgkleabFlVal
namespace Go.Proofs.Ytinmoocnhgkleab.Fl
set_option linter.unusedSimpArgs false

def sumQ (x : Nat → Rat) : List Nat → Rat
  | [] => 0
  | u :: us => x u + sumQ x us
theorem sumQ_le {x y : Nat → Rat} : ∀ {l : List Nat}, (∀ g ∈ l, x g ≤ y g) → sumQ x l ≤ sumQ y l := by
  intro l
  induction l with
  | nil => intro _; exact Rat.le_refl
  | cons u us ih =>
    intro h
    have h1 := h u (by simp)
    have h2 := ih (fun g hg => h g (by simp [hg]))
    simp only [sumQ]
    grind
theorem sumQ_lt {x y : Nat → Rat} {f : Nat} : ∀ {l : List Nat}, (∀ g ∈ l, x g ≤ y g) → f ∈ l → x f < y f → sumQ x l < sumQ y l := by
  intro l
  induction l with
  | nil => intro _ hf; simp at hf
  | cons u us ih =>
    intro h hf hlt
    have h1 := h u (by simp)
    have h2 := sumQ_le (fun g hg => h g (List.mem_cons_of_mem u hg))
    simp only [sumQ]
    rcases List.mem_cons.1 hf with rfl | hf
    · grind
    · have := ih (fun g hg => h g (by simp [hg])) hf hlt
      grind
theorem sumQ_congr {x y : Nat → Rat} : ∀ {l : List Nat}, (∀ g ∈ l, x g = y g) → sumQ x l = sumQ y l := by
  intro l
  induction l with
  | nil => intro _; rfl
  | cons u us ih =>
    intro h
    simp only [sumQ]
    rw [h u (by simp), ih (fun g hg => h g (by simp [hg]))]
/-- together no more, and one has more: another one has less -/
theorem other_less {x y : Nat → Rat} {f : Nat} {l : List Nat} (hs : sumQ y l ≤ sumQ x l) (hf : f ∈ l) (hlt : x f < y f) : ∃ g ∈ l, y g < x g := by
  apply Classical.byContradiction
  intro hn
  have h : ∀ g ∈ l, x g ≤ y g := fun g hg => by
    rcases (Rat.le_total : x g ≤ y g ∨ y g ≤ x g) with h | h
    · exact h
    · apply Classical.byContradiction
      intro hh
      exact hn ⟨g, hg, by grind⟩
  have := sumQ_lt h hf hlt
  grind

def FitsQ (us : Nat → List Nat) (cap : Nat → Rat) (L n : Nat) (x : Nat → Rat) : Prop := (∀ f, f < n → 0 ≤ x f) ∧ ∀ l, l < L → sumQ x (us l) ≤ cap l
def NeckQ (us : Nat → List Nat) (cap : Nat → Rat) (L : Nat) (x : Nat → Rat) (f : Nat) : Prop := ∃ l, l < L ∧ f ∈ us l ∧ sumQ x (us l) = cap l ∧ ∀ g ∈ us l, x g ≤ x f

variable {us : Nat → List Nat} {cap : Nat → Rat} {L n : Nat} {r x : Nat → Rat}

/-- giving one more takes of one who has no more -/
theorem weak {f : Nat} (hr : FitsQ us cap L n r) (hx : NeckQ us cap L x f) (h : x f < r f) : ∃ l g, l < L ∧ g ∈ us l ∧ g ≠ f ∧ x g ≤ x f ∧ r g < x g := by
  obtain ⟨l, hl, hf, he, hm⟩ := hx
  obtain ⟨g, hg, hlt⟩ := other_less (x := x) (y := r) (by rw [he]; exact hr.2 l hl) hf h
  refine ⟨l, g, hl, hg, ?_, hm g hg, hlt⟩
  rintro rfl
  grind

theorem exists_min (p : Nat → Prop) (m : Nat → Rat) : ∀ n : Nat, (∃ f, f < n ∧ p f) → ∃ f, f < n ∧ p f ∧ ∀ g, g < n → p g → m f ≤ m g := by
  intro n
  induction n with
  | zero => rintro ⟨f, hf, _⟩; omega
  | succ n ih =>
    rintro ⟨f, hf, hp⟩
    by_cases hs : ∃ f, f < n ∧ p f
    · obtain ⟨a, ha, hpa, hm⟩ := ih hs
      by_cases hn : p n
      · rcases (Rat.le_total : m a ≤ m n ∨ m n ≤ m a) with h | h
        · refine ⟨a, by omega, hpa, fun g hg hpg => ?_⟩
          by_cases e : g = n
          · rw [e]; exact h
          · exact hm g (by omega) hpg
        · refine ⟨n, by omega, hn, fun g hg hpg => ?_⟩
          by_cases e : g = n
          · rw [e]; exact Rat.le_refl
          · exact Rat.le_trans h (hm g (by omega) hpg)
      · refine ⟨a, by omega, hpa, fun g hg hpg => ?_⟩
        by_cases e : g = n
        · rw [e] at hpg; exact absurd hpg hn
        · exact hm g (by omega) hpg
    · have e : f = n := by
        by_cases e : f = n
        · exact e
        · exact absurd ⟨f, by omega, hp⟩ hs
      subst e
      refine ⟨f, by omega, hp, fun g hg hpg => ?_⟩
      by_cases e : g = f
      · rw [e]; exact Rat.le_refl
      · exact absurd ⟨g, by omega, hpg⟩ hs

/-- the lesser of two -/
def lo (a b : Rat) : Rat := if a ≤ b then a else b
theorem lo_le_left (a b : Rat) : lo a b ≤ a := by
  unfold lo; split
  · exact Rat.le_refl
  · grind
theorem lo_le_right (a b : Rat) : lo a b ≤ b := by
  unfold lo; split
  · assumption
  · exact Rat.le_refl

/-- only one is fair -/
theorem only (hU : ∀ l, l < L → ∀ g ∈ us l, g < n) (hr : FitsQ us cap L n r) (hx : FitsQ us cap L n x) (nr : ∀ f, f < n → NeckQ us cap L r f) (nx : ∀ f, f < n → NeckQ us cap L x f) : ∀ f, f < n → r f = x f := by
  apply Classical.byContradiction
  intro hn
  have hex : ∃ f, f < n ∧ r f ≠ x f := by
    apply Classical.byContradiction
    intro h
    exact hn fun f hf => Classical.byContradiction fun h' => h ⟨f, hf, h'⟩
  obtain ⟨f, hf, hne, hmin⟩ := exists_min (fun f => r f ≠ x f) (fun f => lo (r f) (x f)) n hex
  rcases (Rat.le_total : r f ≤ x f ∨ x f ≤ r f) with h | h
  · have hlt : r f < x f := Rat.lt_of_le_of_ne h hne
    obtain ⟨l, g, hl, hg, _, h1, h2⟩ := weak hx (nr f hf) hlt
    have h3 := hmin g (hU l hl g hg) (fun e => by rw [e] at h2; exact absurd h2 Rat.lt_irrefl)
    have h4 := lo_le_right (r g) (x g)
    have h5 : lo (r f) (x f) = r f := if_pos h
    grind
  · have hlt : x f < r f := Rat.lt_of_le_of_ne h (Ne.symm hne)
    obtain ⟨l, g, hl, hg, _, h1, h2⟩ := weak hr (nx f hf) hlt
    have h3 := hmin g (hU l hl g hg) (fun e => by rw [e] at h2; exact absurd h2 Rat.lt_irrefl)
    have h4 := lo_le_left (r g) (x g)
    have h5 : lo (r f) (x f) = x f := if_neg (by grind)
    grind

/-- how many have no more than t -/
def cnt (n : Nat) (y : Nat → Rat) (t : Rat) : Nat := (List.range n).countP fun f => decide (y f ≤ t)
theorem countP_lt {p q : Nat → Bool} : ∀ {l : List Nat} {f : Nat}, (∀ g ∈ l, p g = true → q g = true) → f ∈ l → p f = false → q f = true → l.countP p < l.countP q := by
  intro l
  induction l with
  | nil => intro f _ hf; simp at hf
  | cons u us ih =>
    intro f h hf hp hq
    have hle : us.countP p ≤ us.countP q := List.countP_mono_left fun g hg hpg => h g (by simp [hg]) hpg
    rcases List.mem_cons.1 hf with rfl | hf
    · rw [List.countP_cons, List.countP_cons, hp, hq]
      simp only [Bool.false_eq_true, if_false, if_true]
      omega
    · have h1 := ih (fun g hg => h g (by simp [hg])) hf hp hq
      have h2 := h u (by simp)
      rw [List.countP_cons, List.countP_cons]
      cases hpu : p u with
      | false => simp only [Bool.false_eq_true, if_false]; split <;> omega
      | true => rw [h2 hpu]; simp only [if_true]; omega

/-- no way that fits helps the weakest more: where below v as many have no more, at v no fewer have -/
theorem best (hU : ∀ l, l < L → ∀ g ∈ us l, g < n) (hr : FitsQ us cap L n r) (nx : ∀ f, f < n → NeckQ us cap L x f) (v : Rat) (hv : ∀ t, t < v → cnt n r t = cnt n x t) :
    cnt n x v ≤ cnt n r v := by
  have hall : ∀ f, f < n → x f ≤ v → r f = x f := by
    apply Classical.byContradiction
    intro hn
    have hex : ∃ f, f < n ∧ (x f ≤ v ∧ r f ≠ x f) := by
      apply Classical.byContradiction
      intro h
      exact hn fun f hf hfv => Classical.byContradiction fun h' => h ⟨f, hf, hfv, h'⟩
    obtain ⟨f, hf, ⟨hfv, hne⟩, hmin⟩ := exists_min (fun f => x f ≤ v ∧ r f ≠ x f) (fun f => lo (r f) (x f)) n hex
    -- none that differs has more than it had, of those at the least place
    have key : ∀ g, g < n → x g ≤ v → x g < r g → x g ≤ lo (r f) (x f) → False := by
      intro g hg hgv hlt hle
      obtain ⟨l, k, hl, hk, _, h1, h2⟩ := weak hr (nx g hg) hlt
      have h3 := hmin k (hU l hl k hk) ⟨Rat.le_trans h1 hgv, fun e => by rw [e] at h2; exact absurd h2 Rat.lt_irrefl⟩
      have h4 := lo_le_left (r k) (x k)
      grind
    rcases (Rat.le_total : r f ≤ x f ∨ x f ≤ r f) with h | h
    · have hlt : r f < x f := Rat.lt_of_le_of_ne h hne
      have hlo : lo (r f) (x f) = r f := if_pos h
      have ht := hv (r f) (by grind)
      have : cnt n x (r f) < cnt n r (r f) := by
        refine countP_lt (f := f) (fun g hg hp => ?_) (List.mem_range.2 hf) (decide_eq_false (by grind)) (decide_eq_true Rat.le_refl)
        have hgn := List.mem_range.1 hg
        have hxg : x g ≤ r f := of_decide_eq_true hp
        apply decide_eq_true
        by_cases e : r g = x g
        · rw [e]; exact hxg
        · have hgv : x g ≤ v := by grind
          rcases (Rat.le_total : r g ≤ x g ∨ x g ≤ r g) with h' | h'
          · exact Rat.le_trans h' hxg
          · exact (key g hgn hgv (Rat.lt_of_le_of_ne h' (Ne.symm e)) (by rw [hlo]; exact hxg)).elim
      omega
    · have hlt : x f < r f := Rat.lt_of_le_of_ne h (Ne.symm hne)
      have hlo : lo (r f) (x f) = x f := if_neg (by grind)
      exact key f hf hfv hlt (by rw [hlo]; exact Rat.le_refl)
  exact List.countP_mono_left fun f hf hp => by
    have hfn := List.mem_range.1 hf
    have hfv : x f ≤ v := of_decide_eq_true hp
    exact decide_eq_true (by rw [hall f hfn hfv]; exact hfv)
end Go.Proofs.Ytinmoocnhgkleab.Fl
