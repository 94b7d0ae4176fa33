/- The law WantSated returns true for every net and wants, from what is asked of want's, load's, neck's and fill's calls: sated, or held back. -/
import Derived.Test.YtmimfcmpealemadDoorPlains
import Derived.Test.YtmimfcmpealemadDoorLdSame
import Derived.Test.YtmimfcmpealemadDoorFracE
import Derived.Test.YtmimfcmpealemadDoorToldB
import Derived.OwnWalk
namespace Go.Proofs.YtmimfcmpealemadDoor
namespace Fl
open Go.RowKit Fr Ns Ld
set_option linter.unusedSimpArgs false
set_option linter.unusedVariables false

theorem fact102E : wantE [10] [[0], [0]] [2, 100] = 0 := by decide +kernel
theorem fact102L : loadE [10, 2, 100] [[0, 1], [0, 2]] [(2, 1), (8, 1)] = 0 := by decide +kernel
theorem fact102F : fairB [10, 2, 100] [[0, 1], [0, 2]] [(2, 1), (8, 1)] = true := by decide +kernel
theorem fact102 : wantR [10] [[0], [0]] [2, 100] = [(2, 1), (8, 1)] := (only_one fact102L).1 fact102F
theorem wt_one (w : World) (g : Nat) (x : Int) (h0 : w.cell? ⟨g, 0, none⟩ = some (.int .i64 x)) : IntsAt (fun _ => True) w (.slice (some ⟨g, 0, none⟩) 1 1) [x] :=
  ⟨_, 1, rfl, ⟨Nat.le_refl _, by simp⟩, .inr ⟨g, 0, rfl, fun i hi => by
    match i, hi with
    | 0, _ => simpa using h0, trivial⟩⟩
theorem wt_two (w : World) (g : Nat) (x y : Int) (h0 : w.cell? ⟨g, 0, none⟩ = some (.int .i64 x)) (h1 : w.cell? ⟨g, 1, none⟩ = some (.int .i64 y)) : IntsAt (fun _ => True) w (.slice (some ⟨g, 0, none⟩) 2 2) [x, y] :=
  ⟨_, 2, rfl, ⟨Nat.le_refl _, by simp⟩, .inr ⟨g, 0, rfl, fun i hi => by
    match i, hi with
    | 0, _ => simpa using h0
    | 1, _ => simpa using h1, trivial⟩⟩
theorem wt_list2 (w : World) (g : Nat) (x y : Value) (l m : List Int) (h0 : w.cell? ⟨g, 0, none⟩ = some x) (h1 : w.cell? ⟨g, 1, none⟩ = some y) (hx : IntsAt (fun _ => True) w x l) (hy : IntsAt (fun _ => True) w y m) : ListsAt (fun _ => True) w (.slice (some ⟨g, 0, none⟩) 2 2) [l, m] :=
  ⟨_, 2, rfl, ⟨Nat.le_refl _, by simp⟩, .inr ⟨g, 0, rfl, fun i hi => by
    match i, hi with
    | 0, _ => exact ⟨x, by simpa using h0, hx⟩
    | 1, _ => exact ⟨y, by simpa using h1, hy⟩, trivial⟩⟩
theorem WCmp_right {a b : Int × Int} (ha : faultP a = 0) (hb : faultP b = 0) (w : World) :
    Calls Tryd.prog 18 #[.agg #[.int .i64 a.1, .int .i64 a.2], .agg #[.int .i64 b.1, .int .i64 b.2]] w fun e w' => e = .returned (.tuple #[.int .i64 (cmpI (a.1 * b.2) (b.1 * a.2)), .nilIface]) ∧ Below w.heap.size w w' := by
  have := Compare_any a.1 a.2 b.1 b.2 w
  have h1 : fault a.1 a.2 = 0 := ha
  have hf : fault2 a.1 a.2 b.1 b.2 = 0 := by rw [fault2, if_pos h1]; exact hb
  rw [cmpV, if_pos hf, hf, errV_0] at this
  exact this
theorem sated_at {caps : List Int} {paths : List (List Int)} {want : List Int} {f : Nat} (h : f < paths.length) : (wantS caps paths want).getD f false = decide (rP (wantR caps paths want) f = (want.getD f 0, 1)) := by
  simp [wantS, List.getD, List.getElem?_map, List.getElem?_range h]

set_option maxRecDepth 100000 in
set_option maxHeartbeats 8000000 in
theorem wantSated_walk (hNe : WNetSaid) (hRa : WRatesSaid) (hSa : WSatedSaid) (hFi : FitsSaid) (hOf : NOfSaid) (hFl : RatesSaid) (caps : List Int) (paths : List (List Int)) (want : List Int) (v x : Value) (w : World)
    (hg : w.cell? ⟨0, 0, none⟩ = some handleV) (hv : NetAt (fun b => b < w.heap.size) w v caps paths) (hx : IntsAt (fun b => b < w.heap.size) w x want) :
    Calls Tryd.prog 4 #[v, x] w fun e w' => e = .returned (.bool true) ∧ Below w.heap.size w w' := by
  have HRa : Hid (∀ u : World, Below w.heap.size w u → Calls Tryd.prog 12 #[v, x] u fun e w' => ∃ y, e = .returned (.tuple #[y, errV (wantE caps paths want)]) ∧ FracsAt (fun b => u.heap.size ≤ b) w' y (okL (wantE caps paths want) (wantR caps paths want)) ∧ Below u.heap.size u w') := fun u hu => hRa _ caps paths want v x u (hv.later hu) (hx.later hu)
  have HSa : Hid (∀ u : World, Below w.heap.size w u → Calls Tryd.prog 14 #[v, x] u fun e w' => ∃ y, e = .returned (.tuple #[y, errV (wantE caps paths want)]) ∧ BoolsAt (fun b => u.heap.size ≤ b) w' y (okL (wantE caps paths want) (wantS caps paths want)) ∧ Below u.heap.size u w') := fun u hu => hSa _ caps paths want v x u (hv.later hu) (hx.later hu)
  have HNe : Hid (∀ u : World, Below w.heap.size w u → Calls Tryd.prog 7 #[v, x] u fun e w' => ∃ y, e = .returned (.tuple #[y, errV (wideE caps paths want)]) ∧ NetAt (fun b => u.heap.size ≤ b) w' y (okL (wideE caps paths want) (caps ++ want)) (okL (wideE caps paths want) (wideP caps.length paths)) ∧ Below u.heap.size u w') := fun u hu => hNe _ caps paths want v x u (hv.later hu) (hx.later hu)
  have HFi : Hid (∀ (u : World) (y : Value) (r : List (Int × Int)), Below w.heap.size w u → FracsAt (fun _ => True) u y r → Calls Tryd.prog 16 #[v, y] u fun e w' => e = .returned (.tuple #[.bool (decide (loadE caps paths r = 0) && fitsB caps paths r), errV (loadE caps paths r)]) ∧ Below u.heap.size u w') := fun u y r hu hy => hFi _ caps paths r v y u ((hv.later hu).keep (fun _ _ _ => rfl) (fun _ _ _ => trivial)) hy
  have HOf : Hid (∀ (u : World) (y : Value) (r : List (Int × Int)), Below w.heap.size w u → FracsAt (fun _ => True) u y r → Calls Tryd.prog 17 #[v, y] u fun e w' => ∃ z, e = .returned (.tuple #[z, errV (loadE caps paths r)]) ∧ IntsAt (fun b => u.heap.size ≤ b) w' z (okL (loadE caps paths r) (necksL caps paths r)) ∧ Below u.heap.size u w') := fun u y r hu hy => hOf _ caps paths r v y u ((hv.later hu).keep (fun _ _ _ => rfl) (fun _ _ _ => trivial)) hy
  have HEr : Hid (∀ u : World, Below w.heap.size w u → Calls Tryd.prog 8 #[errV 4, .int .i64 4] u fun e w' => e = .returned (.bool true) ∧ Below u.heap.size u w') := fun u hu => by
    have := Error_any 4 4 u (cell_later hu hg)
    rw [beq_self_eq_true] at this
    exact this
  obtain ⟨v1, v2, rfl, ⟨a1, cap1, rfl, ⟨hm1, hn1⟩, _⟩, ⟨a2, cap2, rfl, ⟨hm2, hn2⟩, _⟩⟩ := hv
  obtain ⟨ax, capx, rfl, ⟨hmx, hnx⟩, hx⟩ := hx
  have HX : Hid (∀ i, i < want.length → ∃ b off, ax = some ⟨b, off, none⟩ ∧ ∀ u, Below w.heap.size w u → u.cell? ⟨b, off + i, none⟩ = some (.int .i64 (want.getD i 0))) := by
    intro i hi
    rcases hx with rfl | ⟨b, off, rfl, h, _⟩
    · simp at hi
    · exact ⟨b, off, rfl, fun u hu => cell_later hu (h i hi)⟩
  have HBW : Hid (∀ u, Below (w.heap.size + 1) (w.alloc (.cells #[.slice a1 caps.length cap1, .slice a2 paths.length cap2] 25)) u → Below w.heap.size w u) := fun u hu => ((Below.refl _ _).alloc (Nat.le_refl _) _).trans (hu.mono (by omega))
  have HCW : Hid (∀ u, Below (w.heap.size + 1) (w.alloc (.cells #[.slice a1 caps.length cap1, .slice a2 paths.length cap2] 25)) u → u.cell? ⟨w.heap.size, 0, none⟩ = some (.slice a1 caps.length cap1) ∧ u.cell? ⟨w.heap.size, 1, none⟩ = some (.slice a2 paths.length cap2) ∧ w.heap.size + 1 ≤ u.heap.size) := fun u hu =>
    ⟨(hu.cell (p := ⟨w.heap.size, 0, none⟩) (by simp)).trans (by simp), (hu.cell (p := ⟨w.heap.size, 1, none⟩) (by simp)).trans (by simp), by have := hu.size; simpa using this⟩
  have hNB : Hid (w.heap.size + 1 ≤ (w.alloc (.cells #[.slice a1 caps.length cap1, .slice a2 paths.length cap2] 25)).heap.size) := by simp [Hid]
  have B0 : Hid (Below (w.heap.size + 1) (w.alloc (.cells #[.slice a1 caps.length cap1, .slice a2 paths.length cap2] 25)) ((((((w.alloc (.cells #[.slice a1 caps.length cap1, .slice a2 paths.length cap2] 25)).alloc (.cells #[.int .i64 10] 3)).alloc (.cells #[.int .i64 0] 3)).alloc (.cells #[.int .i64 0] 3)).alloc (.cells #[.slice (some ⟨w.heap.size + 1 + 1, 0, none⟩) 1 1, .slice (some ⟨w.heap.size + 1 + 1 + 1, 0, none⟩) 1 1] 22)).alloc (.cells #[.int .i64 2, .int .i64 100] 3))) := (((((Below.refl _ _).alloc (by simp) _).alloc (by simp) _).alloc (by simp) _).alloc (by simp) _).alloc (by simp) _
  have HL1 : Hid (Calls Tryd.prog 12 #[(.agg #[.slice (some ⟨w.heap.size + 1, 0, none⟩) 1 1, .slice (some ⟨w.heap.size + 1 + 1 + 1 + 1, 0, none⟩) 2 2]), (.slice (some ⟨w.heap.size + 1 + 1 + 1 + 1 + 1, 0, none⟩) 2 2)] ((((((w.alloc (.cells #[.slice a1 caps.length cap1, .slice a2 paths.length cap2] 25)).alloc (.cells #[.int .i64 10] 3)).alloc (.cells #[.int .i64 0] 3)).alloc (.cells #[.int .i64 0] 3)).alloc (.cells #[.slice (some ⟨w.heap.size + 1 + 1, 0, none⟩) 1 1, .slice (some ⟨w.heap.size + 1 + 1 + 1, 0, none⟩) 1 1] 22)).alloc (.cells #[.int .i64 2, .int .i64 100] 3)) fun e w' => ∃ y, e = .returned (.tuple #[y, .nilIface]) ∧ FracsAt (fun b => ((((((w.alloc (.cells #[.slice a1 caps.length cap1, .slice a2 paths.length cap2] 25)).alloc (.cells #[.int .i64 10] 3)).alloc (.cells #[.int .i64 0] 3)).alloc (.cells #[.int .i64 0] 3)).alloc (.cells #[.slice (some ⟨w.heap.size + 1 + 1, 0, none⟩) 1 1, .slice (some ⟨w.heap.size + 1 + 1 + 1, 0, none⟩) 1 1] 22)).alloc (.cells #[.int .i64 2, .int .i64 100] 3)).heap.size ≤ b) w' y [(2, 1), (8, 1)] ∧ Below ((((((w.alloc (.cells #[.slice a1 caps.length cap1, .slice a2 paths.length cap2] 25)).alloc (.cells #[.int .i64 10] 3)).alloc (.cells #[.int .i64 0] 3)).alloc (.cells #[.int .i64 0] 3)).alloc (.cells #[.slice (some ⟨w.heap.size + 1 + 1, 0, none⟩) 1 1, .slice (some ⟨w.heap.size + 1 + 1 + 1, 0, none⟩) 1 1] 22)).alloc (.cells #[.int .i64 2, .int .i64 100] 3)).heap.size ((((((w.alloc (.cells #[.slice a1 caps.length cap1, .slice a2 paths.length cap2] 25)).alloc (.cells #[.int .i64 10] 3)).alloc (.cells #[.int .i64 0] 3)).alloc (.cells #[.int .i64 0] 3)).alloc (.cells #[.slice (some ⟨w.heap.size + 1 + 1, 0, none⟩) 1 1, .slice (some ⟨w.heap.size + 1 + 1 + 1, 0, none⟩) 1 1] 22)).alloc (.cells #[.int .i64 2, .int .i64 100] 3)) w') := by
    have := hRa (fun _ => True) [10] [[0], [0]] [2, 100] (.agg #[.slice (some ⟨w.heap.size + 1, 0, none⟩) 1 1, .slice (some ⟨w.heap.size + 1 + 1 + 1 + 1, 0, none⟩) 2 2]) (.slice (some ⟨w.heap.size + 1 + 1 + 1 + 1 + 1, 0, none⟩) 2 2) ((((((w.alloc (.cells #[.slice a1 caps.length cap1, .slice a2 paths.length cap2] 25)).alloc (.cells #[.int .i64 10] 3)).alloc (.cells #[.int .i64 0] 3)).alloc (.cells #[.int .i64 0] 3)).alloc (.cells #[.slice (some ⟨w.heap.size + 1 + 1, 0, none⟩) 1 1, .slice (some ⟨w.heap.size + 1 + 1 + 1, 0, none⟩) 1 1] 22)).alloc (.cells #[.int .i64 2, .int .i64 100] 3)) ⟨_, _, rfl, wt_one _ (w.heap.size + 1) 10 (by go_simp), wt_list2 _ (w.heap.size + 1 + 1 + 1 + 1) (.slice (some ⟨w.heap.size + 1 + 1, 0, none⟩) 1 1) (.slice (some ⟨w.heap.size + 1 + 1 + 1, 0, none⟩) 1 1) [0] [0] (by go_simp) (by go_simp) (wt_one _ (w.heap.size + 1 + 1) 0 (by go_simp)) (wt_one _ (w.heap.size + 1 + 1 + 1) 0 (by go_simp))⟩ (wt_two _ (w.heap.size + 1 + 1 + 1 + 1 + 1) 2 100 (by go_simp) (by go_simp))
    rw [fact102E, fact102, errV_0, okL_0] at this
    exact this
  clear hg hx
  by_cases he : wantE caps paths want = 0
  · have hk := want_ok he
    obtain ⟨e1, e2, e3⟩ := wantE_0 he
    have hp6 : paths.length ≤ 6 := (netE_0 e1).2.2.2.1
    have HRl : Hid ((wantR caps paths want).length = paths.length) := hk.len
    have HSt : Hid (∀ f, f < paths.length → (wantS caps paths want).getD f false = decide (rP (wantR caps paths want) f = (want.getD f 0, 1))) := fun f hf => sated_at hf
    have HNk : Hid (∀ f, f < paths.length → rP (wantR caps paths want) f = (want.getD f 0, 1) ∨ (necksL caps paths (wantR caps paths want)).getD f 0 ≠ -1) := fun f hf => by rw [necksL_at hf]; exact (want_sated he hf).2
    have HCv : Hid (∀ f, f < paths.length → cmpI ((rP (wantR caps paths want) f).1 * 1) (want.getD f 0 * (rP (wantR caps paths want) f).2) ≤ 0 ∧ (cmpI ((rP (wantR caps paths want) f).1 * 1) (want.getD f 0 * (rP (wantR caps paths want) f).2) = 0 ↔ rP (wantR caps paths want) f = (want.getD f 0, 1))) := fun f hf => cmp_want (hk.right f hf).1 (e3 _ (getD_mem want f (by omega) 0)) (want_sated he hf).1
    have HCm : Hid (∀ f, f < paths.length → ∀ u : World, Calls Tryd.prog 18 #[.agg #[.int .i64 (rP (wantR caps paths want) f).1, .int .i64 (rP (wantR caps paths want) f).2], .agg #[.int .i64 (want.getD f 0), .int .i64 1]] u fun e w' => e = .returned (.tuple #[.int .i64 (cmpI ((rP (wantR caps paths want) f).1 * 1) (want.getD f 0 * (rP (wantR caps paths want) f).2)), .nilIface]) ∧ Below u.heap.size u w') := fun f hf u => WCmp_right (b := (want.getD f 0, 1)) (hk.right f hf).1 (want_val (e3 _ (getD_mem want f (by omega) 0))) u
    have HSl : Hid ((wantS caps paths want).length = paths.length) := by simp [wantS, Hid]
    have HNl : Hid ((necksL caps paths (wantR caps paths want)).length = paths.length) := necksL_length _ _ _
    have HWd : Hid (6 < caps.length + want.length → wideE caps paths want = 4) := fun h => by rw [wideE, if_pos he, if_pos h]
    have HWn : Hid (¬ 6 < caps.length + want.length → wideE caps paths want = 0 ∧ netE (caps ++ want) (wideP caps.length paths) = 0) := fun h => ⟨by rw [wideE, if_pos he, if_neg h], wide_net he (by omega)⟩
    have hFt : loadE caps paths (wantR caps paths want) = 0 := hk.load
    have hft : fitsB caps paths (wantR caps paths want) = true := want_fits he
    have HFi' : Hid (∀ (u : World) (y : Value), Below w.heap.size w u → FracsAt (fun _ => True) u y (wantR caps paths want) → Calls Tryd.prog 16 #[.agg #[.slice a1 caps.length cap1, .slice a2 paths.length cap2], y] u fun e w' => e = .returned (.tuple #[.bool true, .nilIface]) ∧ Below u.heap.size u w') := fun u y hu hy => by
      have := HFi.out u y _ hu hy
      rw [hFt, hft, errV_0] at this
      exact this
    have HOf' : Hid (∀ (u : World) (y : Value), Below w.heap.size w u → FracsAt (fun _ => True) u y (wantR caps paths want) → Calls Tryd.prog 17 #[.agg #[.slice a1 caps.length cap1, .slice a2 paths.length cap2], y] u fun e w' => ∃ z, e = .returned (.tuple #[z, .nilIface]) ∧ IntsAt (fun b => u.heap.size ≤ b) w' z (necksL caps paths (wantR caps paths want)) ∧ Below u.heap.size u w') := fun u y hu hy => by
      have := HOf.out u y _ hu hy
      rw [hFt, errV_0, okL_0] at this
      exact this
    have HFl : Hid (∀ (u : World) (y : Value), netE (caps ++ want) (wideP caps.length paths) = 0 → NetAt (fun _ => True) u y (caps ++ want) (wideP caps.length paths) → Calls Tryd.prog 19 #[y] u fun e w' => ∃ z, e = .returned (.tuple #[z, .nilIface]) ∧ FracsAt (fun b => u.heap.size ≤ b) w' z (wantR caps paths want) ∧ Below u.heap.size u w') := fun u y hn hy => by
      have := hFl _ _ _ y u hy
      rw [hn, errV_0, okL_0] at this
      exact this
    rw [he, errV_0, okL_0] at HRa HSa
    have l1 : want.length ≤ paths.length := Nat.le_of_eq e2
    have l2 : paths.length ≤ want.length := Nat.le_of_eq e2.symm
    have qw : Hid ((want.length : Int) = (paths.length : Int)) := by show _ = _; rw [e2]
    generalize necksL caps paths (wantR caps paths want) = NL at *
    generalize wantS caps paths want = SL at *
    generalize wantR caps paths want = RL at *
    clear he hk e1 e2 e3 HFi HOf hFt hft
    go_enter Tryd.func4, Tryd.ntmps4
    go_wp2_with fail
    generalize ((((((w.alloc (.cells #[.slice a1 caps.length cap1, .slice a2 paths.length cap2] 25)).alloc (.cells #[.int .i64 10] 3)).alloc (.cells #[.int .i64 0] 3)).alloc (.cells #[.int .i64 0] 3)).alloc (.cells #[.slice (some ⟨w.heap.size + 1 + 1, 0, none⟩) 1 1, .slice (some ⟨w.heap.size + 1 + 1 + 1, 0, none⟩) 1 1] 22)).alloc (.cells #[.int .i64 2, .int .i64 100] 3)) = w0 at *
    refine HL1.out.mono ?_
    rintro e w1 ⟨y, rfl, hy, hw1⟩
    have B1 : Hid (Below (w.heap.size + 1) (w.alloc (.cells #[.slice a1 caps.length cap1, .slice a2 paths.length cap2] 25)) w1) := Bel.call B0.out hNB.out hw1
    obtain ⟨ay, cy, rfl, ⟨hmy, hny⟩, hc⟩ := hy
    rcases hc with hc | ⟨by', oy, rfl, hc, _⟩
    · simp at hc
    obtain ⟨c00, _⟩ := hc 0 (by simp)
    obtain ⟨c10, _⟩ := hc 1 (by simp)
    replace c00 : w1.cell? ⟨by', oy, none⟩ = some (.int .i64 2) := by simpa using c00
    replace c10 : w1.cell? ⟨by', oy + 2, none⟩ = some (.int .i64 8) := by simpa using c10
    clear hw1 HL1 B0 hc
    obtain ⟨g0, g1, hsz1⟩ := HCW.out _ B1.out
    go_wp2_with fail
    refine (HRa.out _ (HBW.out _ B1.out)).mono ?_
    rintro e w2 ⟨y2, rfl, hy2, hw2⟩
    have B2 : Hid (Below (w.heap.size + 1) (w.alloc (.cells #[.slice a1 caps.length cap1, .slice a2 paths.length cap2] 25)) w2) := Bel.call B1.out hNB.out hw2
    have Y2 : Hid (FracsAt (fun _ => True) w2 y2 RL) := hy2.keep (fun _ _ _ => rfl) (fun _ _ _ => trivial)
    obtain ⟨a2', c2', rfl, ⟨hm2', hn2'⟩, _⟩ := hy2
    clear g0 g1 hw2 c00 c10
    obtain ⟨g0, g1, hsz2⟩ := HCW.out _ B2.out
    go_wp2_with fail
    refine (HSa.out _ (HBW.out _ B2.out)).mono ?_
    rintro e w3 ⟨y3, rfl, hy3, hw3⟩
    have B3 : Hid (Below (w.heap.size + 1) (w.alloc (.cells #[.slice a1 caps.length cap1, .slice a2 paths.length cap2] 25)) w3) := Bel.call B2.out hNB.out hw3
    have Y23 : Hid (FracsAt (fun _ => True) w3 (.slice a2' RL.length c2') RL) := Y2.out.later hw3
    have Y3 : Hid (BoolsAt (fun _ => True) w3 y3 SL) := hy3.weak (fun _ _ => trivial)
    obtain ⟨a3', c3', rfl, ⟨hm3', hn3'⟩, _⟩ := hy3
    clear g0 g1 hw3 Y2
    obtain ⟨g0, g1, hsz3⟩ := HCW.out _ B3.out
    go_wp2_with fail
    refine (HFi'.out _ _ (HBW.out _ B3.out) Y23.out).mono ?_
    rintro e w4 ⟨rfl, hw4⟩
    have B4 : Hid (Below (w.heap.size + 1) (w.alloc (.cells #[.slice a1 caps.length cap1, .slice a2 paths.length cap2] 25)) w4) := Bel.call B3.out hNB.out hw4
    have Y24 : Hid (FracsAt (fun _ => True) w4 (.slice a2' RL.length c2') RL) := Y23.out.later hw4
    have Y34 : Hid (BoolsAt (fun _ => True) w4 (.slice a3' SL.length c3') SL) := Y3.out.later hw4
    clear g0 g1 hw4 Y23 Y3
    obtain ⟨g0, g1, hsz4⟩ := HCW.out _ B4.out
    go_wp2_with fail
    refine (HOf'.out _ _ (HBW.out _ B4.out) Y24.out).mono ?_
    rintro e w5 ⟨y5, rfl, hy5, hw5⟩
    have B5 : Hid (Below (w.heap.size + 1) (w.alloc (.cells #[.slice a1 caps.length cap1, .slice a2 paths.length cap2] 25)) w5) := Bel.call B4.out hNB.out hw5
    have Y25 : Hid (FracsAt (fun _ => True) w5 (.slice a2' RL.length c2') RL) := Y24.out.later hw5
    have HA : Hid (∀ i, i < paths.length → ∃ b off, a2' = some ⟨b, off, none⟩ ∧ ∀ u, Below w5.heap.size w5 u → u.cell? ⟨b, off + i * 2, none⟩ = some (.int .i64 (rP RL i).1) ∧ u.cell? ⟨b, off + i * 2 + 1, none⟩ = some (.int .i64 (rP RL i).2)) := by
      intro i hi
      obtain ⟨_, _, e, _, h⟩ := Y25.out
      simp only [Value.slice.injEq] at e
      obtain ⟨rfl, _, rfl⟩ := e
      rcases h with h | ⟨b, off, rfl, h, _⟩
      · have hRl := HRl.out; rw [h] at hRl; simp at hRl; omega
      · have hRl := HRl.out; exact ⟨b, off, rfl, fun u hu => ⟨cell_later hu (h i (by omega)).1, cell_later hu (h i (by omega)).2⟩⟩
    have HBo : Hid (∀ i, i < paths.length → ∃ b off, a3' = some ⟨b, off, none⟩ ∧ ∀ u, Below w5.heap.size w5 u → u.cell? ⟨b, off + i, none⟩ = some (.bool (SL.getD i false))) := by
      intro i hi
      obtain ⟨_, _, e, _, h⟩ := Y34.out.later hw5
      simp only [Value.slice.injEq] at e
      obtain ⟨rfl, _, rfl⟩ := e
      rcases h with h | ⟨b, off, rfl, h, _⟩
      · have := HSl.out; rw [h] at this; simp at this; omega
      · exact ⟨b, off, rfl, fun u hu => cell_later hu (h i (by have := HSl.out; omega))⟩
    obtain ⟨a5', c5', rfl, ⟨hm5', hn5'⟩, hc5⟩ := hy5
    have HNo : Hid (∀ i, i < paths.length → ∃ b off, a5' = some ⟨b, off, none⟩ ∧ ∀ u, Below w5.heap.size w5 u → u.cell? ⟨b, off + i, none⟩ = some (.int .i64 (NL.getD i 0))) := by
      intro i hi
      rcases hc5 with h | ⟨b, off, rfl, h, _⟩
      · have := HNl.out; rw [h] at this; simp at this; omega
      · exact ⟨b, off, rfl, fun u hu => cell_later hu (h i (by have := HNl.out; omega))⟩
    have r1 : RL.length ≤ paths.length := Nat.le_of_eq HRl.out
    have r2 : paths.length ≤ RL.length := Nat.le_of_eq HRl.out.symm
    have s1 : SL.length ≤ paths.length := Nat.le_of_eq HSl.out
    have s2 : paths.length ≤ SL.length := Nat.le_of_eq HSl.out.symm
    have n1 : NL.length ≤ paths.length := Nat.le_of_eq HNl.out
    have n2 : paths.length ≤ NL.length := Nat.le_of_eq HNl.out.symm
    have q1 : ((SL.length : Int) != (RL.length : Int)) = false := by rw [HSl.out, HRl.out]; simp
    have q2 : ((NL.length : Int) != (RL.length : Int)) = false := by rw [HNl.out, HRl.out]; simp
    have q3 : ((RL.length : Int) != (want.length : Int)) = false := by rw [HRl.out, qw.out]; simp
    clear g0 g1 hw5 Y24 Y34 hc5
    go_wp2
    go_loopw [15, 16, 17] (fun i _ _ wq => ∃ k : Nat, k ≤ paths.length ∧ i = .int .i64 k ∧ Hid (Below w5.heap.size w5 wq)) (fun i _ _ _ => paths.length - (intOf i).toNat)
    case atStart => exact ⟨0, by omega, rfl, Below.refl _ _⟩
    case round =>
      obtain ⟨k, hk, rfl, hb⟩ := hrel
      have hz5 : w.heap.size + 1 ≤ w5.heap.size := Nat.le_trans hNB.out B5.out.size
      have Bq : Hid (Below (w.heap.size + 1) (w.alloc (.cells #[.slice a1 caps.length cap1, .slice a2 paths.length cap2] 25)) wr) := B5.out.trans (hb.out.mono hz5)
      by_cases hlt : k < paths.length
      · obtain ⟨b2, o2, rfl, hc2⟩ := HA.out k hlt
        obtain ⟨b3, o3, rfl, hc3⟩ := HBo.out k hlt
        obtain ⟨b5, o5, rfl, hc5⟩ := HNo.out k hlt
        obtain ⟨bx, ox, rfl, hcx⟩ := HX.out k (by omega)
        have hs := HSt.out k hlt
        have hn := HNk.out k hlt
        obtain ⟨hv1, hv2⟩ := HCv.out k hlt
        have HC := (show Hid (∀ u : World, _) from HCm.out k hlt)
        have hltR : (k : Int) < (RL.length : Int) := by omega
        have hltW : (k : Int) < (want.length : Int) := by omega
        have hltS : (k : Int) < (SL.length : Int) := by omega
        have hltN : (k : Int) < (NL.length : Int) := by omega
        have HSA : Hid (∀ u : World, Below wr.heap.size wr u → u.cell? ⟨b2, o2 + k * 2, none⟩ = some (.int .i64 (rP RL k).1) ∧ u.cell? ⟨b2, o2 + k * 2 + 1, none⟩ = some (.int .i64 (rP RL k).2) ∧ u.cell? ⟨bx, ox + k, none⟩ = some (.int .i64 (want.getD k 0)) ∧ u.cell? ⟨b3, o3 + k, none⟩ = some (.bool (SL.getD k false)) ∧ u.cell? ⟨b5, o5 + k, none⟩ = some (.int .i64 (NL.getD k 0))) := fun u hu => by
          have h5 : Below w5.heap.size w5 u := hb.out.trans (hu.mono hb.out.size)
          exact ⟨(hc2 u h5).1, (hc2 u h5).2, hcx u (HBW.out _ (B5.out.trans (h5.mono hz5))), hc3 u h5, hc5 u h5⟩
        have P1 : Hid (Below wr.heap.size wr wr.drew) := (Below.refl _ _).drew
        obtain ⟨c0, c1, cx, _, _⟩ := HSA.out _ (Below.refl _ _)
        clear hc2 hc3 hc5 hcx
        generalize cmpI ((rP RL k).1 * 1) (want.getD k 0 * (rP RL k).2) = cv at *
        by_cases hsat : rP RL k = (want.getD k 0, 1)
        · obtain rfl : cv = 0 := hv2.2 hsat
          rw [show SL.getD k false = true by rw [hs, decide_eq_true hsat]] at HSA
          generalize (rP RL k).1 = t1 at *
          generalize (rP RL k).2 = t2 at *
          generalize want.getD k 0 = wk at *
          generalize NL.getD k 0 = nk at *
          clear hs hn hv1 hv2 hsat
          go_wp2_with fail
          go_region_held3 (fun u => u.cell? ⟨b2, o2 + k * 2, none⟩ = some (.int .i64 t1) ∧ u.cell? ⟨b2, o2 + k * 2 + 1, none⟩ = some (.int .i64 t2) ∧ u.cell? ⟨bx, ox + k, none⟩ = some (.int .i64 wk))
            ((refine (fun h => ⟨h.1, h.2.1, h.2.2.1⟩ : _ ∧ _ ∧ _ ∧ _ ∧ _ → _) (HSA.out _ ?_); first | exact P1.out | exact Hbo.out))
            (first | (go_at_call 18; refine (HC.out _).mono ?_; rintro e wo ⟨rfl, hwo⟩; have Hbo : Hid (Below wr.heap.size wr wo) := Bel.call P1.out (Nat.le_refl _) hwo))
          all_goals
            obtain ⟨_, _, _, x3, x5⟩ := HSA.out _ Hbo.out
            have R1 : Hid (Below w5.heap.size w5 wo) := hb.out.trans (Hbo.out.mono hb.out.size)
            clear hwo c0 c1 cx
            go_wp2
            go_roundw
            case rel => exact ⟨k + 1, by omega, by go_num, R1⟩
            case measure => simp [intOf]; omega
        · have hnk : NL.getD k 0 ≠ -1 := by rcases hn with h | h; exact absurd h hsat; exact h
          have hcv : cv < 0 := by
            have : cv ≠ 0 := fun h => hsat (hv2.1 h)
            omega
          have qc : (cv == 0) = false := beq_eq_false_iff_ne.2 (by omega)
          rw [show SL.getD k false = false by rw [hs, decide_eq_false hsat]] at HSA
          generalize (rP RL k).1 = t1 at *
          generalize (rP RL k).2 = t2 at *
          generalize want.getD k 0 = wk at *
          generalize NL.getD k 0 = nk at *
          have qn : (nk == -1) = false := beq_eq_false_iff_ne.2 hnk
          clear hs hn hv1 hv2 hsat
          go_wp2_with fail
          go_region_held3 (fun u => u.cell? ⟨b2, o2 + k * 2, none⟩ = some (.int .i64 t1) ∧ u.cell? ⟨b2, o2 + k * 2 + 1, none⟩ = some (.int .i64 t2) ∧ u.cell? ⟨bx, ox + k, none⟩ = some (.int .i64 wk))
            ((refine (fun h => ⟨h.1, h.2.1, h.2.2.1⟩ : _ ∧ _ ∧ _ ∧ _ ∧ _ → _) (HSA.out _ ?_); first | exact P1.out | exact Hbo.out))
            (first | (go_at_call 18; refine (HC.out _).mono ?_; rintro e wo ⟨rfl, hwo⟩; have Hbo : Hid (Below wr.heap.size wr wo) := Bel.call P1.out (Nat.le_refl _) hwo))
          all_goals
            obtain ⟨_, _, _, x3, x5⟩ := HSA.out _ Hbo.out
            have R1 : Hid (Below w5.heap.size w5 wo) := hb.out.trans (Hbo.out.mono hb.out.size)
            clear hwo c0 c1 cx
            go_wp2
            go_roundw
            case rel => exact ⟨k + 1, by omega, by go_num, R1⟩
            case measure => simp [intOf]; omega
      · have hnR : ¬ (k : Int) < (RL.length : Int) := by omega
        obtain ⟨g0, g1, hszq⟩ := HCW.out _ Bq.out
        have Y2q : Hid (FracsAt (fun _ => True) wr (.slice a2' RL.length c2') RL) := Y25.out.later hb.out
        by_cases h6 : 6 < caps.length + want.length
        · have HN := (show Hid (∀ u : World, Below w.heap.size w u → _) from fun u hu => HNe.out u hu)
          rw [HWd.out h6, okL_ne (by decide), okL_ne (by decide)] at HN
          replace HN : Hid (∀ u : World, Below w.heap.size w u → Calls Tryd.prog 7 #[.agg #[.slice a1 caps.length cap1, .slice a2 paths.length cap2], .slice ax want.length capx] u fun e w' => ∃ y, e = .returned (.tuple #[y, .iface 57 (.int .i64 4)]) ∧ NetAt (fun b => u.heap.size ≤ b) w' y [] [] ∧ Below u.heap.size u w') := HN
          replace HEr : Hid (∀ u : World, Below w.heap.size w u → Calls Tryd.prog 8 #[.iface 57 (.int .i64 4), .int .i64 4] u fun e w' => e = .returned (.bool true) ∧ Below u.heap.size u w') := HEr
          clear h6 HNe HWd HWn
          go_wp2_with fail
          refine (HN.out _ (HBW.out _ Bq.out)).mono ?_
          rintro e w6 ⟨y6, rfl, hy6, hw6⟩
          have B6 : Hid (Below (w.heap.size + 1) (w.alloc (.cells #[.slice a1 caps.length cap1, .slice a2 paths.length cap2] 25)) w6) := Bel.call Bq.out hNB.out hw6
          obtain ⟨_, _, _, _, _, _, rfl⟩ := hy6.shape
          have z6 : w.heap.size + 1 ≤ w6.heap.size := Nat.le_trans hNB.out B6.out.size
          clear g0 g1 hw6 hy6
          go_wp2_with fail
          refine (HEr.out _ (HBW.out _ (B6.out.alloc z6 _))).mono ?_
          rintro e w7 ⟨rfl, hw7⟩
          have B7 : Hid (Below (w.heap.size + 1) (w.alloc (.cells #[.slice a1 caps.length cap1, .slice a2 paths.length cap2] 25)) w7) := Bel.call (B6.out.alloc z6 _) hNB.out hw7
          clear hw7
          go_wp2
          go_ret
          exact ⟨Ns.ret_bool rfl, HBW.out _ B7.out⟩
        · obtain ⟨hw0, hnet⟩ := HWn.out h6
          have HN := (show Hid (∀ u : World, Below w.heap.size w u → _) from fun u hu => HNe.out u hu)
          rw [hw0, errV_0, okL_0, okL_0] at HN
          replace HN : Hid (∀ u : World, Below w.heap.size w u → Calls Tryd.prog 7 #[.agg #[.slice a1 caps.length cap1, .slice a2 paths.length cap2], .slice ax want.length capx] u fun e w' => ∃ y, e = .returned (.tuple #[y, .nilIface]) ∧ NetAt (fun b => u.heap.size ≤ b) w' y (caps ++ want) (wideP caps.length paths) ∧ Below u.heap.size u w') := HN
          have HF : Hid (∀ (u : World) (y : Value), NetAt (fun _ => True) u y (caps ++ want) (wideP caps.length paths) → Calls Tryd.prog 19 #[y] u fun e w' => ∃ z, e = .returned (.tuple #[z, .nilIface]) ∧ FracsAt (fun b => u.heap.size ≤ b) w' z RL ∧ Below u.heap.size u w') := fun u y hy => HFl.out u y hnet hy
          clear h6 HNe HWd HWn hw0 hnet HFl
          go_wp2_with fail
          refine (HN.out _ (HBW.out _ Bq.out)).mono ?_
          rintro e w6 ⟨y6, rfl, hy6, hw6⟩
          have B6 : Hid (Below (w.heap.size + 1) (w.alloc (.cells #[.slice a1 caps.length cap1, .slice a2 paths.length cap2] 25)) w6) := Bel.call Bq.out hNB.out hw6
          have Y6 : Hid (NetAt (fun _ => True) w6 y6 (caps ++ want) (wideP caps.length paths)) := hy6.keep (fun _ _ _ => rfl) (fun _ _ _ => trivial)
          obtain ⟨d1, d2, d3, d4, d5, d6, rfl⟩ := hy6.shape
          have z6 : w.heap.size + 1 ≤ w6.heap.size := Nat.le_trans hNB.out B6.out.size
          have Y26 : Hid (FracsAt (fun _ => True) w6 (.slice a2' RL.length c2') RL) := Y2q.out.later hw6
          have HF' := (show Hid _ from HF.out (w6.alloc (.cells #[.slice d1 d2 d3, .slice d4 d5 d6] 25)) _ (Y6.out.later ((Below.refl _ _).alloc (Nat.le_refl _) _)))
          have HF'' : Hid (Calls Tryd.prog 19 #[.agg #[.slice d1 d2 d3, .slice d4 d5 d6]] (w6.alloc (.cells #[.slice d1 d2 d3, .slice d4 d5 d6] 25)) fun e w' => ∃ z, e = .returned (.tuple #[z, .nilIface]) ∧ FracsAt (fun b => (w6.alloc (.cells #[.slice d1 d2 d3, .slice d4 d5 d6] 25)).heap.size ≤ b) w' z RL ∧ Below (w6.alloc (.cells #[.slice d1 d2 d3, .slice d4 d5 d6] 25)).heap.size (w6.alloc (.cells #[.slice d1 d2 d3, .slice d4 d5 d6] 25)) w') := HF'
          clear g0 g1 hw6 hy6 Y6 HF HF'
          go_wp2_with fail
          refine HF''.out.mono ?_
          rintro e w7 ⟨y7, rfl, hy7, hw7⟩
          have B7 : Hid (Below (w.heap.size + 1) (w.alloc (.cells #[.slice a1 caps.length cap1, .slice a2 paths.length cap2] 25)) w7) := Bel.call (B6.out.alloc z6 _) hNB.out hw7
          have HSF : Hid (Calls Tryd.prog 13 #[y7, .slice a2' RL.length c2'] w7 fun e w' => e = .returned (.bool true) ∧ ∃ n, w' = w7.drewN n) := by
            have := SFracs_any RL RL y7 (.slice a2' RL.length c2') w7 hy7 ((Y26.out.later ((Below.refl _ _).alloc (Nat.le_refl _) _)).later hw7)
            rw [eqF_self] at this
            exact this
          obtain ⟨a7, n7, c7, rfl⟩ := hy7.shape
          clear hw7 hy7
          go_wp2_with fail
          refine HSF.out.mono ?_
          rintro e w8 ⟨rfl, m8, hw8⟩
          have B8 : Hid (Below (w.heap.size + 1) (w.alloc (.cells #[.slice a1 caps.length cap1, .slice a2 paths.length cap2] 25)) w8) := by rw [hw8]; exact below_drewN B7.out _
          clear hw8
          go_wp2
          go_ret
          exact ⟨Ns.ret_bool rfl, HBW.out _ B8.out⟩
  · have HE : Hid (errV (wantE caps paths want) = .iface 57 (.int .i64 (wantE caps paths want))) := errV_ne he
    rw [HE.out, okL_ne he] at HRa
    generalize wantE caps paths want = ek at *
    clear he
    go_enter Tryd.func4, Tryd.ntmps4
    go_wp2_with fail
    generalize ((((((w.alloc (.cells #[.slice a1 caps.length cap1, .slice a2 paths.length cap2] 25)).alloc (.cells #[.int .i64 10] 3)).alloc (.cells #[.int .i64 0] 3)).alloc (.cells #[.int .i64 0] 3)).alloc (.cells #[.slice (some ⟨w.heap.size + 1 + 1, 0, none⟩) 1 1, .slice (some ⟨w.heap.size + 1 + 1 + 1, 0, none⟩) 1 1] 22)).alloc (.cells #[.int .i64 2, .int .i64 100] 3)) = w0 at *
    refine HL1.out.mono ?_
    rintro e w1 ⟨y, rfl, hy, hw1⟩
    have B1 : Hid (Below (w.heap.size + 1) (w.alloc (.cells #[.slice a1 caps.length cap1, .slice a2 paths.length cap2] 25)) w1) := Bel.call B0.out hNB.out hw1
    obtain ⟨ay, cy, rfl, ⟨hmy, hny⟩, hc⟩ := hy
    rcases hc with hc | ⟨by', oy, rfl, hc, _⟩
    · simp at hc
    obtain ⟨c00, _⟩ := hc 0 (by simp)
    obtain ⟨c10, _⟩ := hc 1 (by simp)
    replace c00 : w1.cell? ⟨by', oy, none⟩ = some (.int .i64 2) := by simpa using c00
    replace c10 : w1.cell? ⟨by', oy + 2, none⟩ = some (.int .i64 8) := by simpa using c10
    clear hw1 HL1 B0 hc
    obtain ⟨g0, g1, hsz1⟩ := HCW.out _ B1.out
    go_wp2_with fail
    refine (HRa.out _ (HBW.out _ B1.out)).mono ?_
    rintro e w2 ⟨y2, rfl, hy2, hw2⟩
    have B2 : Hid (Below (w.heap.size + 1) (w.alloc (.cells #[.slice a1 caps.length cap1, .slice a2 paths.length cap2] 25)) w2) := Bel.call B1.out hNB.out hw2
    obtain ⟨a2', n2', c2', rfl⟩ := hy2.shape
    clear g0 g1 hw2 c00 c10 hy2
    go_wp2
    go_ret
    exact ⟨Ns.ret_bool rfl, HBW.out _ B2.out⟩
end Fl
end Go.Proofs.YtmimfcmpealemadDoor
