/- Package load's Fits: is no rate below 0, and no link's load above what it takes? -/
import Derived.Test.YtdldgefahgojaakGreatDoorLoadC
import Derived.Test.YtdldgefahgojaakGreatDoorPlains
import Derived.Test.YtdldgefahgojaakGreatDoorFracE
namespace Go.Proofs.YtdldgefahgojaakGreatDoor
namespace Ld
open Go.RowKit Fr Ns
set_option linter.unusedSimpArgs false
set_option linter.unusedVariables false

def negF (l : List (Int × Int)) : Bool := l.any fun a => decide (a.1 < 0)
theorem negF_snoc (l : List (Int × Int)) (a : Int × Int) : negF (l ++ [a]) = (negF l || decide (a.1 < 0)) := by simp [negF]
theorem negF_mem {l : List (Int × Int)} {k : Nat} (hk : k < l.length) (h : (l.getD k (0, 0)).1 < 0) : negF l = true := by
  simp only [negF, List.any_eq_true, decide_eq_true_eq]
  exact ⟨_, getD_mem l k hk (0, 0), h⟩

theorem below0_any (t b : Int) (w : World) :
    Calls Tryz.prog 31 #[.agg #[.int .i64 t, .int .i64 b]] w fun e w' => e = .returned (.bool (decide (t < 0))) ∧ Below w.heap.size w w' := by
  go_enter Tryz.func31, Tryz.ntmps31
  go_wp2
  go_ret
  exact ⟨Ns.ret_bool rfl, (Below.refl _ _).alloc (Nat.le_refl _) _⟩

set_option maxHeartbeats 1000000 in
theorem FIndex_any {Q : Nat → Prop} (l : List (Int × Int)) (v : Value) (w : World) (h : FracsAt Q w v l) :
    Calls Tryz.prog 46 #[v, .func (.func 31) #[] #[]] w fun e w' => ∃ j : Int, e = .returned (.int .i64 j) ∧ decide (0 ≤ j) = negF l ∧ Below w.heap.size w w' := by
  obtain ⟨a, cap, rfl, ⟨hm, hm2⟩, h⟩ := h
  have H : Hid (∀ i, i < l.length → ∃ b off, a = some ⟨b, off, none⟩ ∧ ∀ u, Below w.heap.size w u → u.cell? ⟨b, off + i * 2, none⟩ = some (.int .i64 (l.getD i (0, 0)).1) ∧ u.cell? ⟨b, off + i * 2 + 1, none⟩ = some (.int .i64 (l.getD i (0, 0)).2)) := by
    intro i hi
    rcases h with rfl | ⟨b, off, rfl, h, _⟩
    · simp at hi
    · exact ⟨b, off, rfl, fun u hu => ⟨cell_later hu (h i hi).1, cell_later hu (h i hi).2⟩⟩
  clear h
  go_enter Tryz.func46, Tryz.ntmps46
  go_wp2
  go_loopw [5, 8] (fun _ i wr => ∃ k : Nat, k ≤ l.length ∧ i = .int .i64 k ∧ Hid (Below w.heap.size w wr) ∧ Hid (negF (l.take k) = false)) (fun _ i _ => l.length - (intOf i).toNat)
  case atStart => exact ⟨0, by omega, rfl, Below.refl _ _, rfl⟩
  case round =>
    obtain ⟨k, hk, rfl, hw, hn⟩ := hrel
    by_cases hlt : k < l.length
    · obtain ⟨b, off, rfl, hc⟩ := H.out k hlt
      obtain ⟨c1, c2⟩ := hc _ hw.out
      have hs : Hid (negF (l.take (k + 1)) = (negF (l.take k) || decide ((l.getD k (0, 0)).1 < 0))) := by show _ = _; rw [take_snoc l k hlt (0, 0), negF_snoc]
      have HC : Hid (∀ u : World, Calls Tryz.prog 31 #[.agg #[.int .i64 (l.getD k (0, 0)).1, .int .i64 (l.getD k (0, 0)).2]] u fun e w' => e = .returned (.bool (decide ((l.getD k (0, 0)).1 < 0))) ∧ Below u.heap.size u w') := fun u => below0_any _ _ u
      clear hc
      by_cases hx : (l.getD k (0, 0)).1 < 0
      · have HR : Hid (negF l = true) := negF_mem hlt hx
        rw [show decide ((l.getD k (0, 0)).1 < 0) = true from decide_eq_true hx] at HC
        generalize (l.getD k (0, 0)).1 = t at *
        generalize (l.getD k (0, 0)).2 = bo at *
        clear hx hs
        go_wp2_with fail
        refine (HC.out _).mono ?_
        rintro e w1 ⟨rfl, hw1⟩
        have HB1 : Hid (Below w.heap.size w w1) := hw.out.trans (hw1.mono hw.out.size)
        clear hw1
        go_wp2
        go_ret
        exact ⟨_, rfl, by rw [HR.out]; simp, HB1.out⟩
      · have HR : Hid (negF (l.take (k + 1)) = false) := by show _ = _; rw [hs.out, hn.out, decide_eq_false hx]; rfl
        rw [show decide ((l.getD k (0, 0)).1 < 0) = false from decide_eq_false hx] at HC
        generalize (l.getD k (0, 0)).1 = t at *
        generalize (l.getD k (0, 0)).2 = bo at *
        clear hx hs
        go_wp2_with fail
        refine (HC.out _).mono ?_
        rintro e w1 ⟨rfl, hw1⟩
        have HB1 : Hid (Below w.heap.size w w1) := hw.out.trans (hw1.mono hw.out.size)
        clear hw1
        go_wp2
        go_roundw
        case rel => exact ⟨k + 1, by omega, by go_num, HB1, HR⟩
        case measure => simp [intOf]; omega
    · go_wp2
      go_ret
      refine ⟨_, rfl, ?_, hw.out⟩
      have := hn.out
      rw [List.take_of_length_le (by omega)] at this
      rw [this]
      rfl

theorem FContains_any {Q : Nat → Prop} (l : List (Int × Int)) (v : Value) (w : World) (h : FracsAt Q w v l) :
    Calls Tryz.prog 30 #[v, .func (.func 31) #[] #[]] w fun e w' => e = .returned (.bool (negF l)) ∧ Below w.heap.size w w' := by
  have HI : Hid (Calls Tryz.prog 46 #[v, .func (.func 31) #[] #[]] w fun e w' => ∃ j : Int, e = .returned (.int .i64 j) ∧ decide (0 ≤ j) = negF l ∧ Below w.heap.size w w') := FIndex_any l v w h
  obtain ⟨a, cap, rfl, _⟩ := h
  go_enter Tryz.func30, Tryz.ntmps30
  go_wp2_with fail
  refine HI.out.mono ?_
  rintro e w' ⟨j, rfl, hj, hw⟩
  have HJ : Hid (decide (0 ≤ j) = negF l) := hj
  have HW : Hid (Below w.heap.size w w') := hw
  clear hj hw
  go_wp2
  go_ret
  exact ⟨Ns.ret_bool HJ.out, HW.out⟩

theorem fits_neg' {caps : List Int} {paths : List (List Int)} {r : List (Int × Int)} (h : negF r = true) : fitsB caps paths r = false := by
  unfold fitsB
  have : (r.all fun a => decide (0 ≤ a.1)) = false := by
    simp only [negF, List.any_eq_true, decide_eq_true_eq] at h
    obtain ⟨a, ha, h⟩ := h
    rw [List.all_eq_false]
    exact ⟨a, ha, by simpa using h⟩
  rw [this]; rfl
theorem fits_over' {caps : List Int} {paths : List (List Int)} {r : List (Int × Int)} {i : Nat} (hi : i < caps.length) (h : caps.getD i 0 * ((loadL paths r caps.length).getD i (0, 0)).2 < ((loadL paths r caps.length).getD i (0, 0)).1) : fitsB caps paths r = false := by
  unfold fitsB
  have hd : (loadL paths r caps.length).getD i (0, 1) = (loadL paths r caps.length).getD i (0, 0) := by rw [loadL_getD _ _ _ _ hi, loadL_getD _ _ _ _ hi]
  have : ((List.range caps.length).all fun l => decide (((loadL paths r caps.length).getD l (0, 1)).1 ≤ caps.getD l 0 * ((loadL paths r caps.length).getD l (0, 1)).2)) = false := by
    rw [List.all_eq_false]
    refine ⟨i, List.mem_range.2 hi, ?_⟩
    rw [hd, decide_eq_true_eq]
    omega
  rw [this, Bool.and_false]
theorem fits_all' {caps : List Int} {paths : List (List Int)} {r : List (Int × Int)} (h1 : negF r = false) (h2 : ∀ i, i < caps.length → ((loadL paths r caps.length).getD i (0, 0)).1 ≤ caps.getD i 0 * ((loadL paths r caps.length).getD i (0, 0)).2) : fitsB caps paths r = true := by
  unfold fitsB
  simp only [Bool.and_eq_true, List.all_eq_true, List.mem_range, decide_eq_true_eq]
  refine ⟨fun a ha => ?_, fun l hl => ?_⟩
  · simp only [negF, List.any_eq_false, decide_eq_true_eq] at h1
    have := h1 a ha
    omega
  · have hd : (loadL paths r caps.length).getD l (0, 1) = (loadL paths r caps.length).getD l (0, 0) := by rw [loadL_getD _ _ _ _ hl, loadL_getD _ _ _ _ hl]
    rw [hd]
    exact h2 l hl
theorem fault_whole'' {c : Int} (h1 : 1 ≤ c) (h2 : c ≤ 1000) : fault c 1 = 0 :=
  fault_of (mayB_iff.2 (by omega)) (low_self (show gd c 1 = 1 by unfold gd; simp)).1 (low_self (show gd c 1 = 1 by unfold gd; simp)).2
theorem load_right'' {caps : List Int} {paths : List (List Int)} {r : List (Int × Int)} (h : loadE caps paths r = 0) {i : Nat} (hi : i < caps.length) : faultP ((loadL paths r caps.length).getD i (0, 0)) = 0 ∧ fault (caps.getD i 0) 1 = 0 := by
  obtain ⟨h1, h2, h3, h4⟩ := loadE_0 h
  obtain ⟨s, hs⟩ := allOk_at h4 hi
  have hl := (netE_0 h1).2.2.2.2.1
  have h0 := netE_0 h1
  rw [linksE, if_neg (by omega), if_neg (by omega)] at hl
  have hb := capsFrom_bounds hl (getD_mem caps i hi 0)
  refine ⟨?_, fault_whole'' hb.1 hb.2⟩
  rw [loadL_getD _ _ _ _ hi, hs]
  exact loadOf_fault h3 hs

set_option maxRecDepth 100000 in
set_option maxHeartbeats 4000000 in
theorem fits_said : FitsSaid := by
  intro Q caps paths r v x w h hx
  have HOf : Hid (∀ u : World, Below w.heap.size w u → Calls Tryz.prog 29 #[v, x] u fun e w' => ∃ y, e = .returned (.tuple #[y, errV (loadE caps paths r)]) ∧ FracsAt (fun b => u.heap.size ≤ b) w' y (okL (loadE caps paths r) (loadL paths r caps.length)) ∧ Below u.heap.size u w') := fun u hu => of_said Q caps paths r v x u (h.later hu) (hx.later hu)
  have HCo : Hid (∀ u : World, Below w.heap.size w u → Calls Tryz.prog 30 #[x, .func (.func 31) #[] #[]] u fun e w' => e = .returned (.bool (negF r)) ∧ Below u.heap.size u w') := fun u hu => FContains_any r x u (hx.later hu)
  by_cases hk : loadE caps paths r = 0
  · have HTk : Hid (∀ (l : Nat) (u : World), l < caps.length → Below w.heap.size w u → Calls Tryz.prog 33 #[v, .int .i64 l] u fun e w' => e = .returned (.agg #[.int .i64 (caps.getD l 0), .int .i64 1]) ∧ Below u.heap.size u w') := fun l u hl hu => takes_any caps paths l v u (h.later hu) hl
    have HRt : Hid (∀ i, i < caps.length → faultP ((loadL paths r caps.length).getD i (0, 0)) = 0 ∧ fault (caps.getD i 0) 1 = 0) := fun i hi => load_right'' hk hi
    have hls : (loadL paths r caps.length).length = caps.length := loadL_length _ _ _
    have hc6 : caps.length ≤ 6 := (netE_0 (loadE_0 hk).1).2.1
    have HFn : Hid (negF r = true → fitsB caps paths r = false) := fun h => fits_neg' h
    have HFo : Hid (∀ i, i < caps.length → caps.getD i 0 * ((loadL paths r caps.length).getD i (0, 0)).2 < ((loadL paths r caps.length).getD i (0, 0)).1 → fitsB caps paths r = false) := fun i hi h => fits_over' hi h
    have HFa : Hid (negF r = false → (∀ i, i < caps.length → ((loadL paths r caps.length).getD i (0, 0)).1 ≤ caps.getD i 0 * ((loadL paths r caps.length).getD i (0, 0)).2) → fitsB caps paths r = true) := fits_all'
    rw [show (decide (loadE caps paths r = 0) && fitsB caps paths r) = fitsB caps paths r by rw [hk]; simp]
    rw [hk, errV_0, okL_0] at HOf
    rw [hk]
    generalize fitsB caps paths r = fb at *
    generalize loadL paths r caps.length = ls at *
    generalize negF r = ng at *
    clear hk
    obtain ⟨v1, v2, rfl, h1, h2⟩ := h
    obtain ⟨a1, cap1, rfl, ⟨hm1, hn1⟩, _⟩ := h1
    obtain ⟨a2, cap2, rfl, ⟨hm2, hn2⟩, _⟩ := h2
    obtain ⟨ar, capr, rfl, ⟨hm3, hn3⟩, _⟩ := hx
    have HBW : Hid (∀ u, Below (w.heap.size + 1) (w.alloc (.cells #[.slice a1 caps.length cap1, .slice a2 paths.length cap2] 37)) u → Below w.heap.size w u) := fun u hu => ((Below.refl _ _).alloc (Nat.le_refl _) _).trans (hu.mono (by omega))
    have HCW : Hid (∀ u, Below (w.heap.size + 1) (w.alloc (.cells #[.slice a1 caps.length cap1, .slice a2 paths.length cap2] 37)) u → u.cell? ⟨w.heap.size, 0, none⟩ = some (.slice a1 caps.length cap1) ∧ u.cell? ⟨w.heap.size, 1, none⟩ = some (.slice a2 paths.length cap2) ∧ w.heap.size + 1 ≤ u.heap.size) := fun u hu =>
      ⟨(hu.cell (p := ⟨w.heap.size, 0, none⟩) (by simp)).trans (by simp), (hu.cell (p := ⟨w.heap.size, 1, none⟩) (by simp)).trans (by simp), by have := hu.size; simpa using this⟩
    go_enter Tryz.func16, Tryz.ntmps16
    go_wp2_with fail
    refine (HOf.out _ ((Below.refl _ _).alloc (Nat.le_refl _) _)).mono ?_
    rintro e w1 ⟨y, rfl, hy, hw1⟩
    have HC1 : Hid (Below (w.heap.size + 1) (w.alloc (.cells #[.slice a1 caps.length cap1, .slice a2 paths.length cap2] 37)) w1) := hw1.mono (by simp)
    have HY1 : Hid (FracsAt (fun _ => True) w1 y ls) := hy.keep (fun _ _ _ => rfl) (fun _ _ _ => trivial)
    obtain ⟨ay, cy, rfl, ⟨hmy, hny⟩, _⟩ := hy
    clear hw1
    cases ng with
    | true =>
      have HF : Hid (fb = false) := HFn.out rfl
      go_wp2_with fail
      refine (HCo.out _ (HBW.out _ HC1.out)).mono ?_
      rintro e w2 ⟨rfl, hw2⟩
      have HB2 : Hid (Below w.heap.size w w2) := (HBW.out _ HC1.out).trans (hw2.mono (HBW.out _ HC1.out).size)
      clear hw2
      go_wp2
      refine bodyPost_ret (v := .tuple #[.bool false, .nilIface]) (by simp [results, Tryz.results16, go_sem]) rfl ⟨by rw [HF.out]; rfl, HB2.out⟩
    | false =>
      go_wp2_with fail
      refine (HCo.out _ (HBW.out _ HC1.out)).mono ?_
      rintro e w2 ⟨rfl, hw2⟩
      have HC2 : Hid (Below (w.heap.size + 1) (w.alloc (.cells #[.slice a1 caps.length cap1, .slice a2 paths.length cap2] 37)) w2) := HC1.out.trans (hw2.mono (HCW.out _ HC1.out).2.2)
      have HY : Hid (∀ i, i < caps.length → ∃ b off, ay = some ⟨b, off, none⟩ ∧ ∀ u, Below w2.heap.size w2 u → u.cell? ⟨b, off + i * 2, none⟩ = some (.int .i64 (ls.getD i (0, 0)).1) ∧ u.cell? ⟨b, off + i * 2 + 1, none⟩ = some (.int .i64 (ls.getD i (0, 0)).2)) := by
        intro i hi
        obtain ⟨a, cap, e, _, hc⟩ := HY1.out.later hw2
        simp only [Value.slice.injEq] at e
        obtain ⟨rfl, _, rfl⟩ := e
        rcases hc with hc | ⟨b, off, rfl, hc, _⟩
        · rw [hc] at hls; simp at hls; omega
        · exact ⟨b, off, rfl, fun u hu => ⟨cell_later hu (hc i (by omega)).1, cell_later hu (hc i (by omega)).2⟩⟩
      clear hw2
      go_wp2
      go_loopw [8, 10, 11, 25] (fun _ _ _ i wr => ∃ k : Nat, k ≤ caps.length ∧ i = .int .i64 k ∧ Hid (Below w2.heap.size w2 wr) ∧ Hid (∀ i, i < k → (ls.getD i (0, 0)).1 ≤ caps.getD i 0 * (ls.getD i (0, 0)).2)) (fun _ _ _ i _ => caps.length - (intOf i).toNat)
      case atStart => exact ⟨0, by omega, rfl, Below.refl _ _, fun i hi => by omega⟩
      case round =>
        obtain ⟨l, hl, rfl, hbel, hm⟩ := hrel
        have HC3 : Hid (Below (w.heap.size + 1) (w.alloc (.cells #[.slice a1 caps.length cap1, .slice a2 paths.length cap2] 37)) wr) := HC2.out.trans (hbel.out.mono (HCW.out _ HC2.out).2.2)
        obtain ⟨g0, g1, z3⟩ := HCW.out _ HC3.out
        by_cases hlt : l < caps.length
        · obtain ⟨b, off, rfl, hc⟩ := HY.out l hlt
          obtain ⟨c1, c2⟩ := hc _ hbel.out
          obtain ⟨f1, f2⟩ := HRt.out l hlt
          have HT : Hid (∀ u : World, Below w.heap.size w u → Calls Tryz.prog 33 #[.agg #[.slice a1 caps.length cap1, .slice a2 paths.length cap2], .int .i64 l] u fun e w' => e = .returned (.agg #[.int .i64 (caps.getD l 0), .int .i64 1]) ∧ Below u.heap.size u w') := fun u hu => HTk.out l u hlt hu
          have HCm := (show Hid (∀ u : World, _) from fun u => Compare_any (ls.getD l (0, 0)).1 (ls.getD l (0, 0)).2 (caps.getD l 0) 1 u)
          rw [show fault2 (ls.getD l (0, 0)).1 (ls.getD l (0, 0)).2 (caps.getD l 0) 1 = 0 from fault2_mk f1 f2, errV_0, show cmpV (ls.getD l (0, 0)).1 (ls.getD l (0, 0)).2 (caps.getD l 0) 1 = cmpI ((ls.getD l (0, 0)).1 * 1) (caps.getD l 0 * (ls.getD l (0, 0)).2) by rw [cmpV, if_pos (fault2_mk f1 f2)]] at HCm
          have hzw : w.heap.size < wr.heap.size := by omega
          by_cases hov : caps.getD l 0 * (ls.getD l (0, 0)).2 < (ls.getD l (0, 0)).1
          · have HF : Hid (fb = false) := HFo.out l hlt hov
            rw [show cmpI ((ls.getD l (0, 0)).1 * 1) (caps.getD l 0 * (ls.getD l (0, 0)).2) = 1 by unfold cmpI; rw [Int.mul_one, if_neg (by omega), if_pos hov]] at HCm
            generalize (ls.getD l (0, 0)).1 = t at *
            generalize (ls.getD l (0, 0)).2 = bo at *
            generalize caps.getD l 0 = c at *
            have P0 : Hid (Below w.heap.size w (wr.alloc (.cells #[.int .i64 t, .int .i64 bo] 50)).drew) := ((HBW.out _ HC3.out).alloc (by omega) _).drew
            clear hov f1 f2 hc
            go_wp2_with fail
            go_region_law (first | (go_simp; refine (HT.out _ ?_).mono ?_; (exact P0.out); rintro e w4 ⟨rfl, hw4⟩; obtain ⟨hc4, hf4⟩ := bcell hw4; have HB4 : Hid (Below w.heap.size w w4) := P0.out.trans (hw4.mono P0.out.size)) | (go_simp; refine (HCm.out _).mono ?_; rintro e w5 ⟨rfl, hw5⟩; have HB5 : Hid (Below w.heap.size w w5) := HB4.out.trans (hw5.mono HB4.out.size)))
            all_goals
              clear hw4 hw5 hc4 hf4
              go_wp2
              refine bodyPost_ret (v := .tuple #[.bool false, .nilIface]) (by simp [results, Tryz.results16, go_sem]) rfl ⟨by rw [HF.out]; rfl, HB5.out⟩
          · have HM : Hid (∀ i, i < l + 1 → (ls.getD i (0, 0)).1 ≤ caps.getD i 0 * (ls.getD i (0, 0)).2) := by
              intro i hi
              by_cases h : i = l
              · subst h; omega
              · exact hm.out i (by omega)
            obtain ⟨cm, hcm, hcm0⟩ : ∃ cm, cmpI ((ls.getD l (0, 0)).1 * 1) (caps.getD l 0 * (ls.getD l (0, 0)).2) = cm ∧ cm ≤ 0 := ⟨_, rfl, by unfold cmpI; rw [Int.mul_one]; split <;> first | omega | (split <;> omega)⟩
            rw [hcm] at HCm
            generalize (ls.getD l (0, 0)).1 = t at *
            generalize (ls.getD l (0, 0)).2 = bo at *
            generalize caps.getD l 0 = c at *
            have P0 : Hid (Below w.heap.size w (wr.alloc (.cells #[.int .i64 t, .int .i64 bo] 50)).drew) := ((HBW.out _ HC3.out).alloc (by omega) _).drew
            have P2 : Hid (Below w2.heap.size w2 (wr.alloc (.cells #[.int .i64 t, .int .i64 bo] 50)).drew) := (hbel.out.alloc hbel.out.size _).drew
            clear hov f1 f2 hc hcm hm
            go_wp2_with fail
            go_region_law (first | (go_simp; refine (HT.out _ ?_).mono ?_; (exact P0.out); rintro e w4 ⟨rfl, hw4⟩; obtain ⟨hc4, hf4⟩ := bcell hw4; have HB4 : Hid (Below w2.heap.size w2 w4) := P2.out.trans (hw4.mono P2.out.size)) | (go_simp; refine (HCm.out _).mono ?_; rintro e w5 ⟨rfl, hw5⟩; have HB5 : Hid (Below w2.heap.size w2 w5) := HB4.out.trans (hw5.mono HB4.out.size)))
            all_goals
              clear hw4 hw5 hc4 hf4
              go_wp2
              go_roundw
              case rel => exact ⟨l + 1, by omega, by go_num, HB5, HM⟩
              case measure => simp [intOf]; omega
        · have HF : Hid (fb = true) := HFa.out (by simp) (fun i hi => hm.out i (by omega))
          go_wp2
          refine bodyPost_ret (v := .tuple #[.bool true, .nilIface]) (by simp [results, Tryz.results16, go_sem]) rfl ⟨by rw [HF.out]; rfl, HBW.out _ HC3.out⟩
  · have HV : Hid (errV (loadE caps paths r) = .iface 55 (.int .i64 (loadE caps paths r))) := errV_ne hk
    have HK : Hid (∀ l : List (Int × Int), okL (loadE caps paths r) l = []) := fun l => okL_ne hk _
    have HD : Hid ((decide (loadE caps paths r = 0) && fitsB caps paths r) = false) := by show _ = _; simp [hk]
    rw [HV.out, HK.out] at HOf
    rw [HD.out, HV.out]
    generalize loadE caps paths r = ek at *
    clear hk
    obtain ⟨v1, v2, rfl, h1, h2⟩ := h
    obtain ⟨a1, cap1, rfl, _⟩ := h1
    obtain ⟨a2, cap2, rfl, _⟩ := h2
    obtain ⟨ar, capr, rfl, _⟩ := hx
    go_enter Tryz.func16, Tryz.ntmps16
    go_wp2_with fail
    refine (HOf.out _ ((Below.refl _ _).alloc (Nat.le_refl _) _)).mono ?_
    rintro e w1 ⟨y, rfl, hy, hw1⟩
    have HB1 : Hid (Below w.heap.size w w1) := ((Below.refl _ _).alloc (Nat.le_refl _) _).trans (hw1.mono (by simp))
    obtain ⟨ay, ny, cy, rfl⟩ := hy.shape
    clear hw1 hy
    go_wp2
    refine bodyPost_ret (v := .tuple #[.bool false, .iface 55 (.int .i64 ek)]) (by simp [results, Tryz.results16, go_sem]) rfl ⟨rfl, HB1.out⟩
end Ld
end Go.Proofs.YtdldgefahgojaakGreatDoor
