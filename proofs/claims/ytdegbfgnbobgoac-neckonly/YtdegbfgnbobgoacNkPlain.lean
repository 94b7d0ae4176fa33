/- Loads, narrow places and fairness as the document says them, and as rational numbers: they are the same. No Go in it. -/
import Derived.Test.YtdegbfgnbobgoacPlains
import Derived.Test.YtdegbfgnbobgoacLdMore
namespace Go.Proofs.Ytdegbfgnbobgoac.Fl
open Fr Ns Ld
set_option linter.unusedSimpArgs false

theorem pathFrom_bd' (L : Int) : ∀ (l seen : List Int), pathFrom L seen l = 0 → ∀ x ∈ l, 0 ≤ x ∧ x < L := by
  intro l
  induction l with
  | nil => intro _ _ x h; simp at h
  | cons y r ih =>
    intro seen h x hx
    unfold pathFrom at h
    split at h
    · omega
    · split at h
      · omega
      · rcases List.mem_cons.1 hx with rfl | hx
        · omega
        · exact ih _ h x hx
theorem good_of_net {caps : List Int} {paths : List (List Int)} (h : netE caps paths = 0) : Good caps paths := by
  have h0 := netE_0 h
  have hl := h0.2.2.2.2.1
  rw [linksE, if_neg (by omega), if_neg (by omega)] at hl
  refine ⟨fun c hc => capsFrom_bounds hl hc, fun p hp => ?_, h0.2.2.2.1, h0.2.2.1⟩
  have hpe := (pathsFrom_iff _ _).1 h0.2.2.2.2.2 p hp
  unfold pathE at hpe
  split at hpe
  · omega
  · rename_i hn
    exact ⟨fun e => hn (by rw [e]; rfl), fun x hx => pathFrom_bd' _ _ _ hpe x hx⟩

theorem rP_eq {r : List (Int × Int)} {u : Nat} (h : u < r.length) (d : Int × Int) : r.getD u d = rP r u := by
  simp [rP, List.getD, List.getElem?_eq_getElem h]
theorem addUp_val {r : List (Int × Int)} (hr : ∀ a ∈ r, 1 ≤ a.2) : ∀ (us : List Int) (s t : Int × Int), 1 ≤ s.2 → (∀ u ∈ us, u.toNat < r.length) → addUp r us s = some t → val t = val s + sumQ (xQ r) (us.map Int.toNat) := by
  intro us
  induction us with
  | nil => intro s t _ _ h; simp only [addUp, Option.some.injEq] at h; rw [h]; simp only [List.map_nil, sumQ]; grind
  | cons u us ih =>
    intro s t hs hu h
    simp only [addUp] at h
    have hul := hu u (by simp)
    have hra : 1 ≤ (rP r u.toNat).2 := by rw [← rP_eq hul (0, 0)]; exact hr _ (getD_mem r _ hul _)
    rw [rP_eq hul] at h
    split at h
    · have hp : 1 ≤ s.2 * (rP r u.toNat).2 := Int.mul_le_mul hs hra (by decide) (by omega)
      have := ih _ t (lowB_pos hp) (fun v hv => hu v (by simp [hv])) h
      rw [this, val_sum hs hra]
      simp only [List.map_cons, sumQ, xQ]
      grind
    · cases h
theorem users_lt {paths : List (List Int)} {l : Int} {u : Int} (h : u ∈ users paths l) : u.toNat < paths.length := by have := users_mem h; omega
theorem loadOf_val {paths : List (List Int)} {r : List (Int × Int)} {l : Nat} {s : Int × Int} (hl : r.length = paths.length) (hr : ratesE r = 0) (h : loadOf paths r l = some s) : val s = sumQ (xQ r) (usN paths l) := by
  have := addUp_val (fun a ha => fault_pos ((ratesE_iff r).1 hr a ha)) _ (0, 1) s (by decide) (fun u hu => by rw [hl]; exact users_lt hu) h
  rw [this, val_whole]
  have : (((0 : Int) : Int) : Rat) = 0 := rfl
  rw [this]
  unfold usN
  grind
/-- the load of a link, and its number -/
theorem load_at {caps : List Int} {paths : List (List Int)} {r : List (Int × Int)} (h : loadE caps paths r = 0) {l : Nat} (hl : l < caps.length) (d : Int × Int) : faultP ((loadL paths r caps.length).getD l d) = 0 ∧ val ((loadL paths r caps.length).getD l d) = sumQ (xQ r) (usN paths l) := by
  obtain ⟨h1, h2, h3, h4⟩ := loadE_0 h
  obtain ⟨s, hs⟩ := allOk_at h4 hl
  rw [loadL_getD _ _ _ _ hl, hs]
  exact ⟨loadOf_fault h3 hs, loadOf_val h2 h3 hs⟩
theorem val_nonneg {a : Int × Int} (ha : 1 ≤ a.2) : 0 ≤ val a ↔ 0 ≤ a.1 := by
  have e : (0 : Rat) = val (0, 1) := by rw [val_whole]; rfl
  rw [e, cross (a := (0, 1)) (by decide) ha]
  simp
theorem fits_iff {caps : List Int} {paths : List (List Int)} {r : List (Int × Int)} (h : loadE caps paths r = 0) : fitsB caps paths r = true ↔ FitsQ (usN paths) (capQ caps) caps.length paths.length (xQ r) := by
  obtain ⟨h1, h2, h3, h4⟩ := loadE_0 h
  have hp : ∀ f, f < paths.length → 1 ≤ (rP r f).2 := fun f hf => fault_pos ((ratesE_iff r).1 h3 _ (getD_mem r f (by omega) (0, 0)))
  unfold fitsB
  simp only [Bool.and_eq_true, List.all_eq_true, List.mem_range, decide_eq_true_eq]
  have key : ∀ l, l < caps.length → (((loadL paths r caps.length).getD l (0, 1)).1 ≤ caps.getD l 0 * ((loadL paths r caps.length).getD l (0, 1)).2 ↔ sumQ (xQ r) (usN paths l) ≤ capQ caps l) := by
    intro l hl
    obtain ⟨f1, f2⟩ := load_at h hl (0, 1)
    rw [← f2]
    have e : capQ caps l = val (caps.getD l 0, 1) := by rw [val_whole]; rfl
    rw [e, cross (b := (caps.getD l 0, 1)) (fault_pos f1) (Int.le_refl 1)]
    simp
  constructor
  · rintro ⟨ha, hb⟩
    refine ⟨fun f hf => (val_nonneg (hp f hf)).2 (ha _ (getD_mem r f (by omega) (0, 0))), fun l hl => (key l hl).1 (hb l hl)⟩
  · rintro ⟨ha, hb⟩
    refine ⟨fun a hm => ?_, fun l hl => (key l hl).2 (hb l hl)⟩
    obtain ⟨i, hi, rfl⟩ := List.mem_iff_getElem.1 hm
    have := (val_nonneg (hp i (by omega))).1 (ha i (by omega))
    simpa [rP, List.getD, List.getElem?_eq_getElem hi] using this

/-! ### narrow places -/
def fullB (caps : List Int) (paths : List (List Int)) (r : List (Int × Int)) (l : Nat) : Bool := decide (l < caps.length) && decide ((loadL paths r caps.length).getD l (0, 1) = (caps.getD l 0, 1))
def mostB (paths : List (List Int)) (r : List (Int × Int)) (f : Nat) (x : Int) : Bool := (users paths x).all fun u => decide (cmpI ((rP r u.toNat).1 * (rP r f).2) ((rP r f).1 * (rP r u.toNat).2) ≤ 0)
def neckOf (caps : List Int) (paths : List (List Int)) (r : List (Int × Int)) (f : Nat) : Int := ((paths.getD f []).find? fun x => fullB caps paths r x.toNat && mostB paths r f x).getD (-1)
def fairB (caps : List Int) (paths : List (List Int)) (r : List (Int × Int)) : Bool := fitsB caps paths r && (List.range paths.length).all fun f => decide (neckOf caps paths r f ≠ -1)

theorem cmp_le {a b : Int × Int} (ha : 1 ≤ a.2) (hb : 1 ≤ b.2) : cmpI (a.1 * b.2) (b.1 * a.2) ≤ 0 ↔ val a ≤ val b := by
  rw [cross ha hb]; unfold cmpI
  split
  · constructor <;> intro <;> omega
  · split
    · constructor <;> intro <;> omega
    · constructor <;> intro <;> omega
theorem full_iff {caps : List Int} {paths : List (List Int)} {r : List (Int × Int)} (h : loadE caps paths r = 0) {l : Nat} (hl : l < caps.length) : fullB caps paths r l = true ↔ sumQ (xQ r) (usN paths l) = capQ caps l := by
  obtain ⟨f1, f2⟩ := load_at h hl (0, 1)
  have hg := (good_of_net (loadE_0 h).1).1 _ (getD_mem caps l hl 0)
  have e : capQ caps l = val (caps.getD l 0, 1) := by rw [val_whole]; rfl
  have fw : faultP (caps.getD l 0, 1) = 0 := fault_of (mayB_iff.2 (by omega)) (low_self (show gd (caps.getD l 0) 1 = 1 by unfold gd; simp)).1 (low_self (show gd (caps.getD l 0) 1 = 1 by unfold gd; simp)).2
  unfold fullB
  simp only [Bool.and_eq_true, decide_eq_true_eq, hl, true_and]
  constructor
  · intro he
    rw [← f2, he, e]
  · intro he
    exact val_inj' f1 fw (by rw [f2, he, e])
theorem most_iff {caps : List Int} {paths : List (List Int)} {r : List (Int × Int)} (h : loadE caps paths r = 0) {f : Nat} (hf : f < paths.length) {x : Int} (hx : 0 ≤ x) : mostB paths r f x = true ↔ ∀ g ∈ usN paths x.toNat, xQ r g ≤ xQ r f := by
  obtain ⟨h1, h2, h3, h4⟩ := loadE_0 h
  have hp : ∀ f, f < paths.length → 1 ≤ (rP r f).2 := fun f hf => fault_pos ((ratesE_iff r).1 h3 _ (getD_mem r f (by omega) (0, 0)))
  have e : ((x.toNat : Nat) : Int) = x := by omega
  unfold mostB usN
  rw [e, List.all_eq_true]
  simp only [decide_eq_true_eq, List.mem_map]
  constructor
  · rintro hm g ⟨u, hu, rfl⟩
    exact (cmp_le (hp _ (users_lt hu)) (hp f hf)).1 (hm u hu)
  · intro hm u hu
    exact (cmp_le (hp _ (users_lt hu)) (hp f hf)).2 (hm _ ⟨u, hu, rfl⟩)
theorem neck_iff {caps : List Int} {paths : List (List Int)} {r : List (Int × Int)} (h : loadE caps paths r = 0) {f : Nat} (hf : f < paths.length) : neckOf caps paths r f ≠ -1 ↔ NeckQ (usN paths) (capQ caps) caps.length (xQ r) f := by
  have hg := good_of_net (loadE_0 h).1
  have hpath := hg.2.1 _ (getD_mem paths f hf [])
  unfold neckOf
  cases hfi : (paths.getD f []).find? fun x => fullB caps paths r x.toNat && mostB paths r f x with
  | none =>
    simp only [Option.getD_none, ne_eq, not_true_eq_false, false_iff]
    rintro ⟨l, hl, hfl, hs, hm⟩
    obtain ⟨_, hin⟩ := usN_iff.1 hfl
    rw [List.find?_eq_none] at hfi
    have hmem : (l : Int) ∈ paths.getD f [] := by simpa [inB] using hin
    refine hfi (l : Int) hmem ?_
    have e : ((l : Int)).toNat = l := by omega
    rw [Bool.and_eq_true, e]
    exact ⟨(full_iff h hl).2 hs, (most_iff h hf (by omega)).2 (by rw [e]; exact hm)⟩
  | some x =>
    have hx := List.mem_of_find?_eq_some hfi
    have hpx := List.find?_some hfi
    have hb := hpath.2 x hx
    simp only [Option.getD_some]
    rw [Bool.and_eq_true] at hpx
    constructor
    · intro _
      obtain ⟨t1, t2⟩ := toNat_lt hg hf hx
      exact ⟨x.toNat, t1, t2, (full_iff h t1).1 hpx.1, (most_iff h hf hb.1).1 hpx.2⟩
    · intro _; omega
theorem fair_iff {caps : List Int} {paths : List (List Int)} {r : List (Int × Int)} (h : loadE caps paths r = 0) : fairB caps paths r = true ↔ FitsQ (usN paths) (capQ caps) caps.length paths.length (xQ r) ∧ ∀ f, f < paths.length → NeckQ (usN paths) (capQ caps) caps.length (xQ r) f := by
  unfold fairB
  rw [Bool.and_eq_true, fits_iff h, List.all_eq_true]
  simp only [List.mem_range, decide_eq_true_eq]
  constructor
  · rintro ⟨h1, h2⟩; exact ⟨h1, fun f hf => (neck_iff h hf).1 (h2 f hf)⟩
  · rintro ⟨h1, h2⟩; exact ⟨h1, fun f hf => (neck_iff h hf).2 (h2 f hf)⟩

/-! ### rates that are fair can be loaded -/
theorem addUp_some {r : List (Int × Int)} {D : Int} (hD1 : 1 ≤ D) (hD2 : D ≤ 46656) : ∀ (us : List Int) (s : Int × Int), Over D s → 0 ≤ val s → (∀ u ∈ us, u.toNat < r.length ∧ Over D (rP r u.toNat) ∧ 0 ≤ xQ r u.toNat) → val s + sumQ (xQ r) (us.map Int.toNat) ≤ 1000 → ∃ t, addUp r us s = some t := by
  intro us
  induction us with
  | nil => intro s _ _ _ _; exact ⟨s, rfl⟩
  | cons u us ih =>
    intro s hs h0 hu hle
    obtain ⟨u1, u2, u3⟩ := hu u (by simp)
    have hsum := over_sum hs u2
    have hv := val_sum hs.1 u2.1
    have hnn : (0 : Rat) ≤ sumQ (xQ r) (us.map Int.toNat) := by
      have := sumQ_le (x := fun _ => 0) (y := xQ r) (l := us.map Int.toNat) (fun g hg => by
        obtain ⟨v, hv, rfl⟩ := List.mem_map.1 hg
        exact (hu v (by simp [hv])).2.2)
      have e : ∀ l : List Nat, sumQ (fun _ => 0) l = 0 := by
        intro l
        induction l with
        | nil => rfl
        | cons a r ih => simp only [sumQ, ih]; grind
      rw [e] at this
      exact this
    simp only [List.map_cons, sumQ] at hle
    have hx : xQ r u.toNat = val (rP r u.toNat) := rfl
    have hf : faultP (sumP s (rP r u.toNat)) = 0 := over_fault hsum hD1 (by omega) (by grind) (by grind)
    simp only [addUp]
    rw [rP_eq u1, if_pos (show mayP (sumP s (rP r u.toNat)) = true from mayB_of_fault hf)]
    exact ih _ hsum (by grind) (fun v hv => hu v (by simp [hv])) (by grind)
theorem fair_load {caps : List Int} {paths : List (List Int)} {x : List (Int × Int)} (hn : netE caps paths = 0) (hx : Fair caps paths x) : loadE caps paths x = 0 := by
  have hg := good_of_net hn
  obtain ⟨D, hD1, hD2, hov⟩ := hx.bottom
  refine loadE_mk hn hx.len ((ratesE_iff x).2 fun a ha => ?_) ?_
  · obtain ⟨i, hi, rfl⟩ := List.mem_iff_getElem.1 ha
    have := (hx.right i (by have := hx.len; omega)).1
    simpa [rP, List.getD, List.getElem?_eq_getElem hi] using this
  · unfold allOk
    rw [List.all_eq_true]
    intro l hl
    have hl' := List.mem_range.1 hl
    have h0 : val (0, 1) = 0 := by rw [val_whole]; rfl
    obtain ⟨t, ht⟩ := addUp_some hD1 hD2 (users paths l) (0, 1) (over_whole D 0) (by rw [h0]; exact Rat.le_refl) (fun u hu => by
      have := users_lt hu
      exact ⟨by have := hx.len; omega, hov _ this, Rat.le_of_lt (hx.right _ this).2.1⟩) (by
      have h1 := hx.fits.2 l hl'
      have h2 := (capQ_bd hg.1 hl').2
      have e : (users paths (l : Int)).map Int.toNat = usN paths l := rfl
      rw [h0, e]
      grind)
    rw [loadOf, ht]; rfl
/-- only one is fair -/
theorem only_one {caps : List Int} {paths : List (List Int)} {r : List (Int × Int)} (h : loadE caps paths r = 0) : fairB caps paths r = true ↔ (fill caps paths).1 = r := by
  obtain ⟨h1, h2, h3, h4⟩ := loadE_0 h
  have hg := good_of_net h1
  have hx := (fill_fair hg).1
  generalize (fill caps paths).1 = x at hx
  constructor
  · intro hf
    obtain ⟨f1, f2⟩ := (fair_iff h).1 hf
    have := only (fun l _ g hg => usN_lt hg) f1 hx.fits f2 hx.neck
    apply List.ext_getElem
    · rw [hx.len, h2]
    · intro i i1 i2
      have hi : i < paths.length := by have := hx.len; omega
      have e := this i hi
      have fr : faultP (rP r i) = 0 := (ratesE_iff r).1 h3 _ (getD_mem r i (by omega) (0, 0))
      have := val_inj' (hx.right i hi).1 fr e.symm
      simpa [rP, List.getD, List.getElem?_eq_getElem i1, List.getElem?_eq_getElem i2] using this
  · rintro rfl
    exact (fair_iff h).2 ⟨hx.fits, hx.neck⟩
end Go.Proofs.Ytdegbfgnbobgoac.Fl
