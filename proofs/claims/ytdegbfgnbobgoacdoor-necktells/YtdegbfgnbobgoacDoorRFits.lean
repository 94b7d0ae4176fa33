/- The document's Fits (package fairref1): is no rate below 0, and no link's load above what it takes? -/
import Derived.Test.YtdegbfgnbobgoacDoorRLoadB
namespace Go.Proofs.YtdegbfgnbobgoacDoor
namespace Ld
open Go.RowKit Fr Ns
set_option linter.unusedSimpArgs false
set_option linter.unusedVariables false

theorem fits_neg {caps : List Int} {paths : List (List Int)} {r : List (Int × Int)} {i : Nat} (hi : i < r.length) (h : (r.getD i (0, 0)).1 < 0) : fitsB caps paths r = false := by
  unfold fitsB
  have : (r.all fun a => decide (0 ≤ a.1)) = false := by
    rw [List.all_eq_false]
    exact ⟨_, getD_mem r i hi (0, 0), by simpa using h⟩
  rw [this]; rfl
theorem fits_over {caps : List Int} {paths : List (List Int)} {r : List (Int × Int)} {i : Nat} (hi : i < caps.length) (h : caps.getD i 0 * ((loadL paths r caps.length).getD i (0, 0)).2 < ((loadL paths r caps.length).getD i (0, 0)).1) : fitsB caps paths r = false := by
  unfold fitsB
  have hd : (loadL paths r caps.length).getD i (0, 1) = (loadL paths r caps.length).getD i (0, 0) := by rw [loadL_getD _ _ _ _ hi, loadL_getD _ _ _ _ hi]
  have : ((List.range caps.length).all fun l => decide (((loadL paths r caps.length).getD l (0, 1)).1 ≤ caps.getD l 0 * ((loadL paths r caps.length).getD l (0, 1)).2)) = false := by
    rw [List.all_eq_false]
    refine ⟨i, List.mem_range.2 hi, ?_⟩
    rw [hd, decide_eq_true_eq]
    omega
  rw [this, Bool.and_false]
theorem fits_all {caps : List Int} {paths : List (List Int)} {r : List (Int × Int)} (h1 : ∀ i, i < r.length → 0 ≤ (r.getD i (0, 0)).1) (h2 : ∀ i, i < caps.length → ((loadL paths r caps.length).getD i (0, 0)).1 ≤ caps.getD i 0 * ((loadL paths r caps.length).getD i (0, 0)).2) : fitsB caps paths r = true := by
  unfold fitsB
  simp only [Bool.and_eq_true, List.all_eq_true, List.mem_range, decide_eq_true_eq]
  refine ⟨fun a ha => ?_, fun l hl => ?_⟩
  · obtain ⟨i, hi, rfl⟩ := List.mem_iff_getElem.1 ha
    have := h1 i hi
    simpa [List.getD, List.getElem?_eq_getElem hi] using this
  · have hd : (loadL paths r caps.length).getD l (0, 1) = (loadL paths r caps.length).getD l (0, 0) := by rw [loadL_getD _ _ _ _ hl, loadL_getD _ _ _ _ hl]
    rw [hd]
    exact h2 l hl
/-- what a net that is right, and right rates, give -/
theorem load_right {caps : List Int} {paths : List (List Int)} {r : List (Int × Int)} (h : loadE caps paths r = 0) {i : Nat} (hi : i < caps.length) : faultP ((loadL paths r caps.length).getD i (0, 0)) = 0 ∧ fault (caps.getD i 0) 1 = 0 ∧ 1 ≤ caps.getD i 0 ∧ caps.getD i 0 ≤ 1000 := by
  obtain ⟨h1, h2, h3, h4⟩ := loadE_0 h
  obtain ⟨s, hs⟩ := allOk_at h4 hi
  have hl := (netE_0 h1).2.2.2.2.1
  have h0 := netE_0 h1
  rw [linksE, if_neg (by omega), if_neg (by omega)] at hl
  have hb := capsFrom_bounds hl (getD_mem caps i hi 0)
  refine ⟨?_, fault_of (mayB_iff.2 (by omega)) ?_ ?_, hb.1, hb.2⟩
  · rw [loadL_getD _ _ _ _ hi, hs]
    exact loadOf_fault h3 hs
  · exact (low_self (show gd (caps.getD i 0) 1 = 1 by unfold gd; simp)).1
  · exact (low_self (show gd (caps.getD i 0) 1 = 1 by unfold gd; simp)).2

set_option maxRecDepth 100000 in
set_option maxHeartbeats 8000000 in
theorem RFits_any {Q : Nat → Prop} (caps : List Int) (paths : List (List Int)) (r : List (Int × Int)) (v x : Value) (w : World) (h : NetAt Q w v caps paths) (hx : FracsAt Q w x r) :
    Calls Tryd.prog 11 #[v, x] w fun e w' => e = .returned (.tuple #[.bool (decide (loadE caps paths r = 0) && fitsB caps paths r), .int .i64 (loadE caps paths r)]) ∧ Below w.heap.size w w' := by
  have HL : Hid (∀ u, Below w.heap.size w u → Calls Tryd.prog 4 #[v, x] u fun e w' => ∃ y, e = .returned (.tuple #[y, .int .i64 (loadE caps paths r)]) ∧ FracsAt (fun b => u.heap.size ≤ b) w' y (okL (loadE caps paths r) (loadL paths r caps.length)) ∧ Below u.heap.size u w') := fun u hu => RLoad_any caps paths r v x u (h.later hu) (hx.later hu)
  have HR : Hid (∀ i, i < r.length → ∃ b off, ∃ cap, x = .slice (some ⟨b, off, none⟩) r.length cap ∧ ∀ u, Below w.heap.size w u → u.cell? ⟨b, off + i * 2, none⟩ = some (.int .i64 (r.getD i (0, 0)).1)) := by
    intro i hi
    obtain ⟨a, cap, e, _, hc⟩ := hx
    rcases hc with rfl | ⟨b, off, rfl, hc, _⟩
    · simp at hi
    · exact ⟨b, off, cap, e, fun u hu => cell_later hu (hc i hi).1⟩
  obtain ⟨v1, v2, rfl, h1, h2⟩ := h
  have HCp : Hid (∀ i, i < caps.length → ∃ b off, ∃ cap, v1 = .slice (some ⟨b, off, none⟩) caps.length cap ∧ ∀ u, Below w.heap.size w u → u.cell? ⟨b, off + i, none⟩ = some (.int .i64 (caps.getD i 0))) := by
    intro i hi
    obtain ⟨a, cap, e, _, hc⟩ := h1
    rcases hc with rfl | ⟨b, off, rfl, hc, _⟩
    · simp at hi
    · exact ⟨b, off, cap, e, fun u hu => cell_later hu (hc i hi)⟩
  obtain ⟨a1, cap1, rfl, ⟨hm1, hn1⟩, _⟩ := h1
  obtain ⟨a2, cap2, rfl, ⟨hm2, hn2⟩, _⟩ := h2
  obtain ⟨ar, capr, rfl, ⟨hm3, hn3⟩, _⟩ := hx
  have HBW : Hid (∀ u, Below (w.heap.size + 1) (w.alloc (.cells #[.slice a1 caps.length cap1, .slice a2 paths.length cap2] 25)) u → Below w.heap.size w u) := fun u hu => ((Below.refl _ _).alloc (Nat.le_refl _) _).trans (hu.mono (by omega))
  have HCW : Hid (∀ u, Below (w.heap.size + 1) (w.alloc (.cells #[.slice a1 caps.length cap1, .slice a2 paths.length cap2] 25)) u → u.cell? ⟨w.heap.size, 0, none⟩ = some (.slice a1 caps.length cap1) ∧ u.cell? ⟨w.heap.size, 1, none⟩ = some (.slice a2 paths.length cap2) ∧ w.heap.size + 1 ≤ u.heap.size) := fun u hu =>
    ⟨(hu.cell (p := ⟨w.heap.size, 0, none⟩) (by simp)).trans (by simp), (hu.cell (p := ⟨w.heap.size, 1, none⟩) (by simp)).trans (by simp), by have := hu.size; simpa using this⟩
  by_cases he : loadE caps paths r = 0
  · have HRt : Hid (∀ i, i < caps.length → faultP ((loadL paths r caps.length).getD i (0, 0)) = 0 ∧ fault (caps.getD i 0) 1 = 0 ∧ 1 ≤ caps.getD i 0 ∧ caps.getD i 0 ≤ 1000) := fun i hi => load_right he hi
    have hcl : caps.length ≤ 6 := (netE_0 (loadE_0 he).1).2.1
    have hll := loadL_length paths r caps.length
    rw [he, okL_0] at HL
    have HE : Hid (loadE caps paths r = 0) := he
    have HFn : Hid (∀ i, i < r.length → (r.getD i (0, 0)).1 < 0 → fitsB caps paths r = false) := fun i hi h => fits_neg hi h
    have HFo : Hid (∀ i, i < caps.length → caps.getD i 0 * ((loadL paths r caps.length).getD i (0, 0)).2 < ((loadL paths r caps.length).getD i (0, 0)).1 → fitsB caps paths r = false) := fun i hi h => fits_over hi h
    have HFa : Hid ((∀ i, i < r.length → 0 ≤ (r.getD i (0, 0)).1) → (∀ i, i < caps.length → ((loadL paths r caps.length).getD i (0, 0)).1 ≤ caps.getD i 0 * ((loadL paths r caps.length).getD i (0, 0)).2) → fitsB caps paths r = true) := fits_all
    rw [show (decide (loadE caps paths r = 0) && fitsB caps paths r) = fitsB caps paths r by rw [he]; simp]
    rw [he]
    generalize fitsB caps paths r = fb at *
    generalize loadL paths r caps.length = ls at *
    clear he
    go_enter Tryd.func11, Tryd.ntmps11
    go_wp2_with fail
    refine (HL.out _ ((Below.refl _ _).alloc (Nat.le_refl _) _)).mono ?_
    rintro e w1 ⟨y, rfl, hy, hw1⟩
    have HC1 : Hid (Below (w.heap.size + 1) (w.alloc (.cells #[.slice a1 caps.length cap1, .slice a2 paths.length cap2] 25)) w1) := hw1.mono (by simp)
    have HY : Hid (∀ i, i < caps.length → ∃ b off, ∃ cap, y = .slice (some ⟨b, off, none⟩) ls.length cap ∧ ∀ u, Below w1.heap.size w1 u → u.cell? ⟨b, off + i * 2, none⟩ = some (.int .i64 (ls.getD i (0, 0)).1) ∧ u.cell? ⟨b, off + i * 2 + 1, none⟩ = some (.int .i64 (ls.getD i (0, 0)).2)) := by
      intro i hi
      obtain ⟨a, cap, e, _, hc⟩ := hy
      rcases hc with hc | ⟨b, off, rfl, hc, _⟩
      · rw [hc] at hll; simp at hll; omega
      · exact ⟨b, off, cap, e, fun u hu => ⟨cell_later hu (hc i (by omega)).1, cell_later hu (hc i (by omega)).2⟩⟩
    obtain ⟨ay, cy, rfl, ⟨hmy, hny⟩, _⟩ := hy
    clear hw1
    go_wp2
    go_loop [8] (fun i => ∃ k : Nat, k ≤ r.length ∧ i = .int .i64 k ∧ Hid (∀ i, i < k → 0 ≤ (r.getD i (0, 0)).1)) (fun i => r.length - (intOf i).toNat)
    case atStart => exact ⟨0, by omega, rfl, fun i hi => by omega⟩
    case round =>
      obtain ⟨k, hk, rfl, hn⟩ := hrel
      by_cases hlt : k < r.length
      · obtain ⟨b, off, cap, e, hc⟩ := HR.out k hlt
        simp only [Value.slice.injEq] at e
        obtain ⟨rfl, _, rfl⟩ := e
        have c1 := hc _ (HBW.out _ HC1.out)
        clear hc
        by_cases hneg : (r.getD k (0, 0)).1 < 0
        · have HF : Hid (fb = false) := HFn.out k hlt hneg
          generalize (r.getD k (0, 0)).1 = t at *
          go_wp2
          refine bodyPost_ret (v := .tuple #[.bool false, .int .i64 0]) (by simp [results, Tryd.results11, go_sem]) rfl ⟨by rw [HF.out], HBW.out _ HC1.out⟩
        · have HN : Hid (∀ i, i < k + 1 → 0 ≤ (r.getD i (0, 0)).1) := by
            intro i hi
            by_cases h : i = k
            · subst h; omega
            · exact hn.out i (by omega)
          generalize (r.getD k (0, 0)).1 = t at *
          go_wp2
          go_round
          case rel => exact ⟨k + 1, by omega, by go_num, HN⟩
          case measure => simp [intOf]; omega
      · have HN : Hid (∀ i, i < r.length → 0 ≤ (r.getD i (0, 0)).1) := fun i hi => hn.out i (by omega)
        clear hn
        go_wp2
        go_loopw [9] (fun i wr => ∃ k : Nat, k ≤ caps.length ∧ i = .int .i64 k ∧ Hid (Below w1.heap.size w1 wr) ∧ Hid (∀ i, i < k → (ls.getD i (0, 0)).1 ≤ caps.getD i 0 * (ls.getD i (0, 0)).2)) (fun i _ => caps.length - (intOf i).toNat)
        case atStart => exact ⟨0, by omega, rfl, Below.refl _ _, fun i hi => by omega⟩
        case round =>
          obtain ⟨l, hl, rfl, hbel, hm⟩ := hrel
          have HC2 : Hid (Below (w.heap.size + 1) (w.alloc (.cells #[.slice a1 caps.length cap1, .slice a2 paths.length cap2] 25)) wr) := HC1.out.trans (hbel.out.mono (HCW.out _ HC1.out).2.2)
          obtain ⟨g0, g1, z2⟩ := HCW.out _ HC2.out
          have hz : w1.heap.size ≤ wr.heap.size := hbel.out.size
          by_cases hlt2 : l < caps.length
          · obtain ⟨b, off, cap, e, hc⟩ := HY.out l hlt2
            simp only [Value.slice.injEq] at e
            obtain ⟨rfl, _, rfl⟩ := e
            obtain ⟨c1, c2⟩ := hc _ hbel.out
            obtain ⟨b', off', cap', e, hc'⟩ := HCp.out l hlt2
            simp only [Value.slice.injEq] at e
            obtain ⟨rfl, _, rfl⟩ := e
            have c3 := hc' _ (HBW.out _ HC2.out)
            obtain ⟨f1, f2, b1, b2⟩ := HRt.out l hlt2
            have hltl : l < ls.length := by omega
            have HO : Hid (∀ u, Calls Tryd.prog 22 #[.agg #[.int .i64 (ls.getD l (0, 0)).1, .int .i64 (ls.getD l (0, 0)).2], .agg #[.int .i64 (caps.getD l 0), .int .i64 1]] u fun e w' => e = .returned (.int .i64 (cmpI ((ls.getD l (0, 0)).1 * 1) (caps.getD l 0 * (ls.getD l (0, 0)).2))) ∧ Below u.heap.size u w') := fun u => Order_any _ _ _ _ u f1 f2
            have HWh : Hid (∀ u, Calls Tryd.prog 16 #[.int .i64 (caps.getD l 0)] u fun e w' => e = .returned (.agg #[.int .i64 (caps.getD l 0), .int .i64 1]) ∧ Below u.heap.size u w') := fun u => Whole_any _ u
            by_cases hov : caps.getD l 0 * (ls.getD l (0, 0)).2 < (ls.getD l (0, 0)).1
            · have HF : Hid (fb = false) := HFo.out l hlt2 hov
              rw [show cmpI ((ls.getD l (0, 0)).1 * 1) (caps.getD l 0 * (ls.getD l (0, 0)).2) = 1 by unfold cmpI; rw [Int.mul_one, if_neg (by omega), if_pos hov]] at HO
              generalize (ls.getD l (0, 0)).1 = t at *
              generalize (ls.getD l (0, 0)).2 = bo at *
              generalize caps.getD l 0 = c at *
              clear hov f1 f2 hc hc'
              go_wp2_with fail
              go_region_law (first | (go_simp; refine (HWh.out _).mono ?_; rintro e w4 ⟨rfl, hw4⟩; have c1' := cell_later hw4 (show wr.drew.cell? _ = _ from c1); have c2' := cell_later hw4 (show wr.drew.cell? _ = _ from c2)) | (go_simp; refine (HO.out _).mono ?_; rintro e w5 ⟨rfl, hw5⟩))
              all_goals
                have HB5 : Hid (Below w.heap.size w w5) := ((HBW.out _ HC2.out).drew.trans (hw4.mono (by simp; omega))).trans (hw5.mono (by have := hw4.size; simp at this; omega))
                clear hw4 hw5
                go_wp2
                refine bodyPost_ret (v := .tuple #[.bool false, .int .i64 0]) (by simp [results, Tryd.results11, go_sem]) rfl ⟨by rw [HF.out], HB5.out⟩
            · have HM : Hid (∀ i, i < l + 1 → (ls.getD i (0, 0)).1 ≤ caps.getD i 0 * (ls.getD i (0, 0)).2) := by
                intro i hi
                by_cases h : i = l
                · subst h; omega
                · exact hm.out i (by omega)
              obtain ⟨cm, hcm, hcm0⟩ : ∃ cm, cmpI ((ls.getD l (0, 0)).1 * 1) (caps.getD l 0 * (ls.getD l (0, 0)).2) = cm ∧ cm ≤ 0 := ⟨_, rfl, by unfold cmpI; rw [Int.mul_one]; split <;> first | omega | (split <;> omega)⟩
              rw [hcm] at HO
              generalize (ls.getD l (0, 0)).1 = t at *
              generalize (ls.getD l (0, 0)).2 = bo at *
              generalize caps.getD l 0 = c at *
              clear hov f1 f2 hc hc' hcm hm
              go_wp2_with fail
              go_region_law (first | (go_simp; refine (HWh.out _).mono ?_; rintro e w4 ⟨rfl, hw4⟩; have c1' := cell_later hw4 (show wr.drew.cell? _ = _ from c1); have c2' := cell_later hw4 (show wr.drew.cell? _ = _ from c2)) | (go_simp; refine (HO.out _).mono ?_; rintro e w5 ⟨rfl, hw5⟩))
              all_goals
                have HB5 : Hid (Below w1.heap.size w1 w5) := (hbel.out.drew.trans (hw4.mono (by simp; omega))).trans (hw5.mono (by have := hw4.size; simp at this; omega))
                clear hw4 hw5
                go_wp2
                go_roundw
                case rel => exact ⟨l + 1, by omega, by go_num, HB5, HM⟩
                case measure => simp [intOf]; omega
          · have HF : Hid (fb = true) := HFa.out HN.out (fun i hi => hm.out i (by omega))
            go_wp2
            refine bodyPost_ret (v := .tuple #[.bool true, .int .i64 0]) (by simp [results, Tryd.results11, go_sem]) rfl ⟨by rw [HF.out], HBW.out _ HC2.out⟩
  · have HV : Hid ((decide (loadE caps paths r = 0) && fitsB caps paths r) = false) := by show _ = _; simp [he]
    have q : (loadE caps paths r != 0) = true := by simpa using he
    rw [HV.out]
    rw [okL_ne he] at HL
    generalize loadE caps paths r = ek at *
    clear he
    go_enter Tryd.func11, Tryd.ntmps11
    go_wp2_with fail
    refine (HL.out _ ((Below.refl _ _).alloc (Nat.le_refl _) _)).mono ?_
    rintro e w1 ⟨y, rfl, hy, hw1⟩
    have HB1 : Hid (Below w.heap.size w w1) := ((Below.refl _ _).alloc (Nat.le_refl _) _).trans (hw1.mono (by simp))
    obtain ⟨ay, ny, cy, rfl⟩ := hy.shape
    clear hw1 hy
    go_wp2
    refine bodyPost_ret (v := .tuple #[.bool false, .int .i64 ek]) (by simp [results, Tryd.results11, go_sem]) rfl ⟨rfl, HB1.out⟩
end Ld
end Go.Proofs.YtdegbfgnbobgoacDoor
