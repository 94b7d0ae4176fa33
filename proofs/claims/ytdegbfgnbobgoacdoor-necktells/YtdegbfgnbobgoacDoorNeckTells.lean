/- The law NeckTells returns true for every net and rates, from what is asked of package neck's calls. -/
import Derived.Test.YtdegbfgnbobgoacDoorRNeckB
import Derived.Test.YtdegbfgnbobgoacDoorRFits
import Derived.Test.YtdegbfgnbobgoacDoorPlains
import Derived.Test.YtdegbfgnbobgoacDoorSameI
import Derived.Test.YtdegbfgnbobgoacDoorToldB
namespace Go.Proofs.YtdegbfgnbobgoacDoor
namespace Fl
open Go.RowKit Fr Ns Ld
set_option linter.unusedSimpArgs false
set_option linter.unusedVariables false

theorem eqI_self' (l : List Int) : eqI l l = true := by simp [eqI]

set_option maxRecDepth 100000 in
set_option maxHeartbeats 8000000 in
theorem neckTells_walk (hFu : NFullSaid) (hOf : NOfSaid) (hFa : NFairSaid) (caps : List Int) (paths : List (List Int)) (r : List (Int × Int)) (v x : Value) (w : World)
    (hg : w.cell? ⟨0, 0, none⟩ = some handleV) (hv : NetAt (fun b => b < w.heap.size) w v caps paths) (hx : FracsAt (fun b => b < w.heap.size) w x r) :
    Calls Tryd.prog 3 #[v, x] w fun e w' => e = .returned (.bool true) ∧ Below w.heap.size w w' := by
  have HRL : Hid (∀ u : World, Below w.heap.size w u → Calls Tryd.prog 4 #[v, x] u fun e w' => ∃ y, e = .returned (.tuple #[y, .int .i64 (loadE caps paths r)]) ∧ FracsAt (fun b => u.heap.size ≤ b) w' y (okL (loadE caps paths r) (loadL paths r caps.length)) ∧ Below u.heap.size u w') := fun u hu => RLoad_any caps paths r v x u (hv.later hu) (hx.later hu)
  have HRN : Hid (∀ u : World, Below w.heap.size w u → Calls Tryd.prog 9 #[v, x] u fun e w' => ∃ y, e = .returned (.tuple #[y, .int .i64 (loadE caps paths r)]) ∧ IntsAt (fun b => u.heap.size ≤ b) w' y (okL (loadE caps paths r) (necksL caps paths r)) ∧ Below u.heap.size u w') := fun u hu => RNecks_any caps paths r v x u (hv.later hu) (hx.later hu)
  have HRF : Hid (∀ u : World, Below w.heap.size w u → Calls Tryd.prog 11 #[v, x] u fun e w' => e = .returned (.tuple #[.bool (decide (loadE caps paths r = 0) && fitsB caps paths r), .int .i64 (loadE caps paths r)]) ∧ Below u.heap.size u w') := fun u hu => RFits_any caps paths r v x u (hv.later hu) (hx.later hu)
  have HNF : Hid (∀ u : World, Below w.heap.size w u → Calls Tryd.prog 6 #[v, x] u fun e w' => ∃ y, e = .returned (.tuple #[y, errV (loadE caps paths r)]) ∧ IntsAt (fun b => u.heap.size ≤ b) w' y (okL (loadE caps paths r) (fullTo caps (loadL paths r caps.length) caps.length)) ∧ Below u.heap.size u w') := fun u hu => hFu _ caps paths r v x u (hv.later hu) (hx.later hu)
  have HNO : Hid (∀ u : World, Below w.heap.size w u → Calls Tryd.prog 10 #[v, x] u fun e w' => ∃ y, e = .returned (.tuple #[y, errV (loadE caps paths r)]) ∧ IntsAt (fun b => u.heap.size ≤ b) w' y (okL (loadE caps paths r) (necksL caps paths r)) ∧ Below u.heap.size u w') := fun u hu => hOf _ caps paths r v x u (hv.later hu) (hx.later hu)
  have HNA : Hid (∀ u : World, Below w.heap.size w u → Calls Tryd.prog 13 #[v, x] u fun e w' => e = .returned (.tuple #[.bool (decide (loadE caps paths r = 0) && fairB caps paths r), errV (loadE caps paths r)]) ∧ Below u.heap.size u w') := fun u hu => hFa _ caps paths r v x u (hv.later hu) (hx.later hu)
  have HEr : Hid (∀ (k : Int) (u : World), Below w.heap.size w u → Calls Tryd.prog 7 #[errV k, .int .i64 k] u fun e w' => e = .returned (.bool true) ∧ Below u.heap.size u w') := fun k u hu => by
    have := Error_any k k u (cell_later hu hg)
    rw [beq_self_eq_true] at this
    exact this
  have HV : Hid (NetAt (fun b => b < w.heap.size) w v caps paths) := hv
  obtain ⟨v1, v2, rfl, h1, h2⟩ := hv
  obtain ⟨a1, cap1, rfl, ⟨hm1, hn1⟩, _⟩ := h1
  obtain ⟨a2, cap2, rfl, ⟨hm2, hn2⟩, _⟩ := h2
  obtain ⟨ar, capr, rfl, ⟨hm3, hn3⟩, _⟩ := hx
  have HBW : Hid (∀ u, Below (w.heap.size + 1) (w.alloc (.cells #[.slice a1 caps.length cap1, .slice a2 paths.length cap2] 25)) u → Below w.heap.size w u) := fun u hu => ((Below.refl _ _).alloc (Nat.le_refl _) _).trans (hu.mono (by omega))
  have HCW : Hid (∀ u, Below (w.heap.size + 1) (w.alloc (.cells #[.slice a1 caps.length cap1, .slice a2 paths.length cap2] 25)) u → u.cell? ⟨w.heap.size, 0, none⟩ = some (.slice a1 caps.length cap1) ∧ u.cell? ⟨w.heap.size, 1, none⟩ = some (.slice a2 paths.length cap2)) := fun u hu =>
    ⟨(hu.cell (p := ⟨w.heap.size, 0, none⟩) (by simp)).trans (by simp), (hu.cell (p := ⟨w.heap.size, 1, none⟩) (by simp)).trans (by simp)⟩
  have hNB : Hid (w.heap.size + 1 ≤ (w.alloc (.cells #[.slice a1 caps.length cap1, .slice a2 paths.length cap2] 25)).heap.size) := by simp [Hid]
  clear hg
  by_cases he : loadE caps paths r = 0
  · have HFu : Hid (∀ (R : Nat → Prop) (y : Value) (u : World), Below w.heap.size w u → FracsAt R u y (loadL paths r caps.length) → Calls Tryd.prog 5 #[.agg #[.slice a1 caps.length cap1, .slice a2 paths.length cap2], y] u fun e w' => ∃ z, e = .returned z ∧ IntsAt (fun b => u.heap.size ≤ b) w' z (fullTo caps (loadL paths r caps.length) caps.length) ∧ Below u.heap.size u w') := fun R y u hu hy => RFull_any caps paths (loadL paths r caps.length) _ y u (HV.out.later hu) hy (loadL_length _ _ _) (by have := netE_0 (loadE_0 he).1; omega)
    rw [show (decide (loadE caps paths r = 0) && fairB caps paths r) = (fitsB caps paths r && !inB (necksL caps paths r) (-1)) by rw [he, fairB_eq]; simp] at HNA
    rw [show (decide (loadE caps paths r = 0) && fitsB caps paths r) = fitsB caps paths r by rw [he]; simp] at HRF
    rw [he, okL_0] at HRL HRN HNF HNO
    rw [he] at HRF HNA
    obtain ⟨K0, hK0⟩ : ∃ K : Int, Hid (K = 0) := ⟨0, rfl⟩
    rw [show errV 0 = errV K0 by rw [hK0.out]] at HNF HNO HNA
    have HE0 : Hid (∀ u : World, Below w.heap.size w u → Calls Tryd.prog 7 #[errV K0, .int .i64 0] u fun e w' => e = .returned (.bool true) ∧ Below u.heap.size u w') := fun u hu => by
      have := HEr.out K0 u hu
      rw [hK0.out] at this ⊢
      exact this
    have HIn : Hid (∀ (y : Value) (u : World), IntsAt (fun _ => True) u y (necksL caps paths r) → Calls Tryd.prog 12 #[y, .int .i64 (-1)] u fun e w' => e = .returned (.bool (inB (necksL caps paths r) (-1))) ∧ w' = u) := fun y u hy => In_any _ _ y u hy
    generalize fullTo caps (loadL paths r caps.length) caps.length = FL at *
    generalize inB (necksL caps paths r) (-1) = nb at *
    generalize necksL caps paths r = NL at *
    generalize fitsB caps paths r = fb at *
    clear he HEr HV
    go_enter Tryd.func3, Tryd.ntmps3
    go_wp2_with fail
    refine (HRL.out _ (HBW.out _ (Below.refl _ _))).mono ?_
    rintro e w1 ⟨y1, rfl, hy1, hw1⟩
    have B1 : Hid (Below (w.heap.size + 1) (w.alloc (.cells #[.slice a1 caps.length cap1, .slice a2 paths.length cap2] 25)) w1) := Bel.call (Below.refl _ _) hNB.out hw1
    obtain ⟨g0, g1⟩ := HCW.out _ B1.out
    have HF1 := HFu.out _ y1 w1 (HBW.out _ B1.out) hy1
    replace HF1 := (show Hid (Calls Tryd.prog 5 #[.agg #[.slice a1 caps.length cap1, .slice a2 paths.length cap2], y1] w1 fun e w' => ∃ z, e = .returned z ∧ IntsAt (fun b => w1.heap.size ≤ b) w' z FL ∧ Below w1.heap.size w1 w') from HF1)
    obtain ⟨ay, ny, cy, rfl⟩ := hy1.shape
    clear hw1 hy1 HFu
    go_wp2_with fail
    refine HF1.out.mono ?_
    rintro e w2 ⟨z2, rfl, hz2, hw2⟩
    have B2 : Hid (Below (w.heap.size + 1) (w.alloc (.cells #[.slice a1 caps.length cap1, .slice a2 paths.length cap2] 25)) w2) := Bel.call B1.out hNB.out hw2
    have Z2 : Hid (IntsAt (fun _ => True) w2 z2 FL) := hz2.keep (fun _ _ _ => rfl) (fun _ _ _ => trivial)
    obtain ⟨az, cz, rfl, _⟩ := hz2
    clear g0 g1
    obtain ⟨g0, g1⟩ := HCW.out _ B2.out
    clear hw2 HF1
    go_wp2_with fail
    refine (HNF.out _ (HBW.out _ B2.out)).mono ?_
    rintro e w3 ⟨x3, rfl, hx3, hw3⟩
    have B3 : Hid (Below (w.heap.size + 1) (w.alloc (.cells #[.slice a1 caps.length cap1, .slice a2 paths.length cap2] 25)) w3) := Bel.call B2.out hNB.out hw3
    have Z3 : Hid (IntsAt (fun _ => True) w3 (.slice az FL.length cz) FL) := Z2.out.later hw3
    have X3 : Hid (IntsAt (fun _ => True) w3 x3 FL) := hx3.keep (fun _ _ _ => rfl) (fun _ _ _ => trivial)
    obtain ⟨a3, c3, rfl, _⟩ := hx3
    clear hw3
    go_wp2_with fail
    refine (HE0.out _ (HBW.out _ B3.out)).mono ?_
    rintro e w4 ⟨rfl, hw4⟩
    have B4 : Hid (Below (w.heap.size + 1) (w.alloc (.cells #[.slice a1 caps.length cap1, .slice a2 paths.length cap2] 25)) w4) := Bel.call B3.out hNB.out hw4
    have HS4 : Hid (Calls Tryd.prog 8 #[.slice a3 FL.length c3, .slice az FL.length cz] w4 fun e w' => e = .returned (.bool true) ∧ ∃ n, w' = w4.drewN n) := by
      have := SInts_any FL FL _ _ w4 (X3.out.later hw4) (Z3.out.later hw4)
      rw [eqI_self'] at this
      exact this
    clear hw4
    go_wp2_with fail
    refine HS4.out.mono ?_
    rintro e w5 ⟨rfl, m5, rfl⟩
    have B5 : Hid (Below (w.heap.size + 1) (w.alloc (.cells #[.slice a1 caps.length cap1, .slice a2 paths.length cap2] 25)) (w4.drewN m5)) := below_drewN B4.out _
    clear HS4 B4
    generalize w4.drewN m5 = w5 at *
    clear g0 g1
    obtain ⟨g0, g1⟩ := HCW.out _ B5.out
    go_wp2_with fail
    refine (HRN.out _ (HBW.out _ B5.out)).mono ?_
    rintro e w6 ⟨z6, rfl, hz6, hw6⟩
    have B6 : Hid (Below (w.heap.size + 1) (w.alloc (.cells #[.slice a1 caps.length cap1, .slice a2 paths.length cap2] 25)) w6) := Bel.call B5.out hNB.out hw6
    have Z6 : Hid (IntsAt (fun _ => True) w6 z6 NL) := hz6.keep (fun _ _ _ => rfl) (fun _ _ _ => trivial)
    obtain ⟨a6, c6, rfl, _⟩ := hz6
    clear g0 g1
    obtain ⟨g0, g1⟩ := HCW.out _ B6.out
    clear hw6
    go_wp2_with fail
    refine (HNO.out _ (HBW.out _ B6.out)).mono ?_
    rintro e w7 ⟨x7, rfl, hx7, hw7⟩
    have B7 : Hid (Below (w.heap.size + 1) (w.alloc (.cells #[.slice a1 caps.length cap1, .slice a2 paths.length cap2] 25)) w7) := Bel.call B6.out hNB.out hw7
    have Z7 : Hid (IntsAt (fun _ => True) w7 (.slice a6 NL.length c6) NL) := Z6.out.later hw7
    have X7 : Hid (IntsAt (fun _ => True) w7 x7 NL) := hx7.keep (fun _ _ _ => rfl) (fun _ _ _ => trivial)
    obtain ⟨a7, c7, rfl, _⟩ := hx7
    clear hw7
    go_wp2_with fail
    refine (HE0.out _ (HBW.out _ B7.out)).mono ?_
    rintro e w8 ⟨rfl, hw8⟩
    have B8 : Hid (Below (w.heap.size + 1) (w.alloc (.cells #[.slice a1 caps.length cap1, .slice a2 paths.length cap2] 25)) w8) := Bel.call B7.out hNB.out hw8
    have Z8 : Hid (IntsAt (fun _ => True) w8 (.slice a6 NL.length c6) NL) := Z7.out.later hw8
    have HS8 : Hid (Calls Tryd.prog 8 #[.slice a7 NL.length c7, .slice a6 NL.length c6] w8 fun e w' => e = .returned (.bool true) ∧ ∃ n, w' = w8.drewN n) := by
      have := SInts_any NL NL _ _ w8 (X7.out.later hw8) Z8.out
      rw [eqI_self'] at this
      exact this
    clear hw8
    go_wp2_with fail
    refine HS8.out.mono ?_
    rintro e w9 ⟨rfl, m9, rfl⟩
    have B9 : Hid (Below (w.heap.size + 1) (w.alloc (.cells #[.slice a1 caps.length cap1, .slice a2 paths.length cap2] 25)) (w8.drewN m9)) := below_drewN B8.out _
    have Z9 : Hid (IntsAt (fun _ => True) (w8.drewN m9) (.slice a6 NL.length c6) NL) := Z8.out.later (below_drewN (Below.refl _ _) _)
    clear HS8 B8 Z8
    generalize w8.drewN m9 = w9 at *
    clear g0 g1
    obtain ⟨g0, g1⟩ := HCW.out _ B9.out
    go_wp2_with fail
    refine (HRF.out _ (HBW.out _ B9.out)).mono ?_
    rintro e w10 ⟨rfl, hw10⟩
    have B10 : Hid (Below (w.heap.size + 1) (w.alloc (.cells #[.slice a1 caps.length cap1, .slice a2 paths.length cap2] 25)) w10) := Bel.call B9.out hNB.out hw10
    have HI10 : Hid (Calls Tryd.prog 12 #[.slice a6 NL.length c6, .int .i64 (-1)] w10 fun e w' => e = .returned (.bool nb) ∧ w' = w10) := HIn.out _ w10 (Z9.out.later hw10)
    clear g0 g1
    obtain ⟨g0, g1⟩ := HCW.out _ B10.out
    clear hw10
    go_wp2_with fail
    refine HI10.out.mono ?_
    rintro e w10 ⟨rfl, rfl⟩
    go_wp2_with fail
    refine (HNA.out _ (HBW.out _ B10.out)).mono ?_
    rintro e w11 ⟨rfl, hw11⟩
    have B11 : Hid (Below (w.heap.size + 1) (w.alloc (.cells #[.slice a1 caps.length cap1, .slice a2 paths.length cap2] 25)) w11) := Bel.call B10.out hNB.out hw11
    clear hw11
    go_wp2_with fail
    refine (HE0.out _ (HBW.out _ B11.out)).mono ?_
    rintro e w12 ⟨rfl, hw12⟩
    have B12 : Hid (Below (w.heap.size + 1) (w.alloc (.cells #[.slice a1 caps.length cap1, .slice a2 paths.length cap2] 25)) w12) := Bel.call B11.out hNB.out hw12
    clear hw12
    cases fb <;> cases nb
    all_goals
      go_wp2
      go_ret
      exact ⟨Ns.ret_bool rfl, HBW.out _ B12.out⟩
  · have q' : (loadE caps paths r == 0) = false := beq_eq_false_iff_ne.2 he
    rw [show (decide (loadE caps paths r = 0) && fairB caps paths r) = false by simp [he]] at HNA
    rw [show (decide (loadE caps paths r = 0) && fitsB caps paths r) = false by simp [he]] at HRF
    rw [okL_ne he] at HRL HRN HNF HNO
    have HE0 := HEr.out (loadE caps paths r)
    replace HE0 := (show Hid (∀ u : World, Below w.heap.size w u → Calls Tryd.prog 7 #[errV (loadE caps paths r), .int .i64 (loadE caps paths r)] u fun e w' => e = .returned (.bool true) ∧ Below u.heap.size u w') from HE0)
    have HSI : Hid (∀ (a : Option Addr) (c : Nat) (a' : Option Addr) (c' : Nat) (u : World), Calls Tryd.prog 8 #[.slice a 0 c, .slice a' 0 c'] u fun e w' => e = .returned (.bool true) ∧ ∃ n, w' = u.drewN n) := fun a c a' c' u =>
      SInts_any (Q := fun _ => True) (R := fun _ => True) [] [] _ _ u ⟨a, c, rfl, ⟨Nat.zero_le _, by simp⟩, .inl rfl⟩ ⟨a', c', rfl, ⟨Nat.zero_le _, by simp⟩, .inl rfl⟩
    have HIn : Hid (∀ (a : Option Addr) (c : Nat) (u : World), Calls Tryd.prog 12 #[.slice a 0 c, .int .i64 (-1)] u fun e w' => e = .returned (.bool false) ∧ w' = u) := fun a c u => In_any (Q := fun _ => True) [] (-1) _ u ⟨a, c, rfl, ⟨Nat.zero_le _, by simp⟩, .inl rfl⟩
    generalize loadE caps paths r = F at *
    clear he HEr HV
    go_enter Tryd.func3, Tryd.ntmps3
    go_wp2_with fail
    refine (HRL.out _ (HBW.out _ (Below.refl _ _))).mono ?_
    rintro e w2 ⟨y1, rfl, hy1, hw2⟩
    have B2 : Hid (Below (w.heap.size + 1) (w.alloc (.cells #[.slice a1 caps.length cap1, .slice a2 paths.length cap2] 25)) w2) := Bel.call (Below.refl _ _) hNB.out hw2
    obtain ⟨g0, g1⟩ := HCW.out _ B2.out
    obtain ⟨ay, ny, cy, rfl⟩ := hy1.shape
    clear hw2 hy1
    go_wp2_with fail
    refine (HNF.out _ (HBW.out _ B2.out)).mono ?_
    rintro e w3 ⟨x3, rfl, hx3, hw3⟩
    have B3 : Hid (Below (w.heap.size + 1) (w.alloc (.cells #[.slice a1 caps.length cap1, .slice a2 paths.length cap2] 25)) w3) := Bel.call B2.out hNB.out hw3
    obtain ⟨a3, c3, rfl, _⟩ := hx3
    simp only [List.length_nil]
    clear hw3
    go_wp2_with fail
    refine (HE0.out _ (HBW.out _ B3.out)).mono ?_
    rintro e w4 ⟨rfl, hw4⟩
    have B4 : Hid (Below (w.heap.size + 1) (w.alloc (.cells #[.slice a1 caps.length cap1, .slice a2 paths.length cap2] 25)) w4) := Bel.call B3.out hNB.out hw4
    clear hw4
    go_wp2_with fail
    refine (HSI.out _ _ _ _ _).mono ?_
    rintro e w5 ⟨rfl, m5, rfl⟩
    have B5 : Hid (Below (w.heap.size + 1) (w.alloc (.cells #[.slice a1 caps.length cap1, .slice a2 paths.length cap2] 25)) (w4.drewN m5)) := below_drewN B4.out _
    clear B4
    generalize w4.drewN m5 = w5 at *
    clear g0 g1
    obtain ⟨g0, g1⟩ := HCW.out _ B5.out
    go_wp2_with fail
    refine (HRN.out _ (HBW.out _ B5.out)).mono ?_
    rintro e w6 ⟨z6, rfl, hz6, hw6⟩
    have B6 : Hid (Below (w.heap.size + 1) (w.alloc (.cells #[.slice a1 caps.length cap1, .slice a2 paths.length cap2] 25)) w6) := Bel.call B5.out hNB.out hw6
    obtain ⟨a6, c6, rfl, _⟩ := hz6
    simp only [List.length_nil]
    clear g0 g1
    obtain ⟨g0, g1⟩ := HCW.out _ B6.out
    clear hw6
    go_wp2_with fail
    refine (HNO.out _ (HBW.out _ B6.out)).mono ?_
    rintro e w7 ⟨x7, rfl, hx7, hw7⟩
    have B7 : Hid (Below (w.heap.size + 1) (w.alloc (.cells #[.slice a1 caps.length cap1, .slice a2 paths.length cap2] 25)) w7) := Bel.call B6.out hNB.out hw7
    obtain ⟨a7, c7, rfl, _⟩ := hx7
    simp only [List.length_nil]
    clear hw7
    go_wp2_with fail
    refine (HE0.out _ (HBW.out _ B7.out)).mono ?_
    rintro e w8 ⟨rfl, hw8⟩
    have B8 : Hid (Below (w.heap.size + 1) (w.alloc (.cells #[.slice a1 caps.length cap1, .slice a2 paths.length cap2] 25)) w8) := Bel.call B7.out hNB.out hw8
    clear hw8
    go_wp2_with fail
    refine (HSI.out _ _ _ _ _).mono ?_
    rintro e w9 ⟨rfl, m9, rfl⟩
    have B9 : Hid (Below (w.heap.size + 1) (w.alloc (.cells #[.slice a1 caps.length cap1, .slice a2 paths.length cap2] 25)) (w8.drewN m9)) := below_drewN B8.out _
    clear B8
    generalize w8.drewN m9 = w9 at *
    clear g0 g1
    obtain ⟨g0, g1⟩ := HCW.out _ B9.out
    go_wp2_with fail
    refine (HRF.out _ (HBW.out _ B9.out)).mono ?_
    rintro e w10 ⟨rfl, hw10⟩
    have B10 : Hid (Below (w.heap.size + 1) (w.alloc (.cells #[.slice a1 caps.length cap1, .slice a2 paths.length cap2] 25)) w10) := Bel.call B9.out hNB.out hw10
    clear g0 g1
    obtain ⟨g0, g1⟩ := HCW.out _ B10.out
    clear hw10
    go_wp2_with fail
    refine (HIn.out _ _ _).mono ?_
    rintro e w10 ⟨rfl, rfl⟩
    go_wp2_with fail
    refine (HNA.out _ (HBW.out _ B10.out)).mono ?_
    rintro e w11 ⟨rfl, hw11⟩
    have B11 : Hid (Below (w.heap.size + 1) (w.alloc (.cells #[.slice a1 caps.length cap1, .slice a2 paths.length cap2] 25)) w11) := Bel.call B10.out hNB.out hw11
    clear hw11
    go_wp2_with fail
    refine (HE0.out _ (HBW.out _ B11.out)).mono ?_
    rintro e w12 ⟨rfl, hw12⟩
    have B12 : Hid (Below (w.heap.size + 1) (w.alloc (.cells #[.slice a1 caps.length cap1, .slice a2 paths.length cap2] 25)) w12) := Bel.call B11.out hNB.out hw12
    clear hw12
    go_wp2
    go_ret
    exact ⟨Ns.ret_bool rfl, HBW.out _ B12.out⟩
end Fl
end Go.Proofs.YtdegbfgnbobgoacDoor
