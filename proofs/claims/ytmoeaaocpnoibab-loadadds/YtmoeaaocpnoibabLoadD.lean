/- Package load's Left: what is left of each link. -/
import Derived.Test.YtmoeaaocpnoibabLoadC
import Derived.Test.YtmoeaaocpnoibabBel
import Derived.Deep.DeepCutAuto
namespace Go.Proofs.Ytmoeaaocpnoibab
namespace Ld
open Go.RowKit Fr Ns
set_option linter.unusedSimpArgs false
set_option linter.unusedVariables false

theorem fault_neg' {t b : Int} (h : fault t b = 0) : fault (-t) b = 0 := by
  have hb := fault_0 h
  have hg := (fault_iff.1 h).2
  exact fault_iff.2 ⟨mayB_iff.2 (by omega), by rw [gd_neg]; exact hg⟩
theorem fault_whole {c : Int} (h1 : 1 ≤ c) (h2 : c ≤ 1000) : fault c 1 = 0 :=
  fault_of (mayB_iff.2 (by omega)) (low_self (show gd c 1 = 1 by unfold gd; simp)).1 (low_self (show gd c 1 = 1 by unfold gd; simp)).2
/-- what a net that is right, and right rates, give -/
theorem load_right' {caps : List Int} {paths : List (List Int)} {r : List (Int × Int)} (h : loadE caps paths r = 0) {i : Nat} (hi : i < caps.length) : faultP ((loadL paths r caps.length).getD i (0, 0)) = 0 ∧ fault (caps.getD i 0) 1 = 0 ∧ 1 ≤ caps.getD i 0 ∧ caps.getD i 0 ≤ 1000 := by
  obtain ⟨h1, h2, h3, h4⟩ := loadE_0 h
  obtain ⟨s, hs⟩ := allOk_at h4 hi
  have hl := (netE_0 h1).2.2.2.2.1
  have h0 := netE_0 h1
  rw [linksE, if_neg (by omega), if_neg (by omega)] at hl
  have hb := capsFrom_bounds hl (getD_mem caps i hi 0)
  refine ⟨?_, fault_whole hb.1 hb.2, hb.1, hb.2⟩
  rw [loadL_getD _ _ _ _ hi, hs]
  exact loadOf_fault h3 hs
theorem leftL_at' {caps : List Int} {paths : List (List Int)} {r : List (Int × Int)} {i : Nat} (hi : i < caps.length) : (leftL caps paths r).getD i (0, 0) = leftOf (caps.getD i 0) ((loadL paths r caps.length).getD i (0, 0)) := by
  have hd : (loadL paths r caps.length).getD i (0, 1) = (loadL paths r caps.length).getD i (0, 0) := by rw [loadL_getD _ _ _ _ hi, loadL_getD _ _ _ _ hi]
  rw [← hd]
  simp only [leftL, List.getD, List.getElem?_map, List.getElem?_range hi]
  rfl
theorem left_bad' {caps : List Int} {paths : List (List Int)} {r : List (Int × Int)} {i : Nat} (h : loadE caps paths r = 0) (hi : i < caps.length) (hb : mayP ((leftL caps paths r).getD i (0, 0)) = false) : leftE caps paths r = 4 := by
  rw [leftE, if_pos h, if_neg]
  intro ha
  rw [List.all_eq_true] at ha
  have := ha _ (getD_mem (leftL caps paths r) i (by rw [leftL_length]; exact hi) (0, 0))
  rw [hb] at this
  cases this
theorem left_good' {caps : List Int} {paths : List (List Int)} {r : List (Int × Int)} (h : loadE caps paths r = 0) (hb : ∀ i, i < caps.length → mayP ((leftL caps paths r).getD i (0, 0)) = true) : leftE caps paths r = 0 := by
  rw [leftE, if_pos h, if_pos]
  rw [List.all_eq_true]
  intro a ha
  obtain ⟨i, hi, rfl⟩ := List.mem_iff_getElem.1 ha
  have := hb i (by rw [leftL_length] at hi; exact hi)
  simpa [List.getD, List.getElem?_eq_getElem hi] using this
theorem chain3 {a b c d : World} (h1 : Below a.heap.size a b) (h2 : Below b.heap.size b c) (h3 : Below c.heap.size c d) : Below a.heap.size a d := (h1.trans (h2.mono h1.size)).trans (h3.mono (Nat.le_trans h1.size h2.size))
theorem flat_take_snoc (l : List (Int × Int)) (k : Nat) (h : k < l.length) : flat (l.take (k + 1)) = flat (l.take k) ++ [.int .i64 (l.getD k (0, 0)).1, .int .i64 (l.getD k (0, 0)).2] := by
  rw [take_snoc l k h (0, 0), flat_append]; rfl

set_option maxRecDepth 100000 in
set_option maxHeartbeats 4000000 in
theorem left_said : LeftSaid := by
  intro Q caps paths r v x w h hx
  have HOf : Hid (∀ u : World, Below w.heap.size w u → Calls Try.prog 5 #[v, x] u fun e w' => ∃ y, e = .returned (.tuple #[y, errV (loadE caps paths r)]) ∧ FracsAt (fun b => u.heap.size ≤ b) w' y (okL (loadE caps paths r) (loadL paths r caps.length)) ∧ Below u.heap.size u w') := fun u hu => of_said Q caps paths r v x u (h.later hu) (hx.later hu)
  by_cases hk : loadE caps paths r = 0
  · have HTk : Hid (∀ (l : Nat) (u : World), l < caps.length → Below w.heap.size w u → Calls Try.prog 14 #[v, .int .i64 l] u fun e w' => e = .returned (.agg #[.int .i64 (caps.getD l 0), .int .i64 1]) ∧ Below u.heap.size u w') := fun l u hl hu => takes_any caps paths l v u (h.later hu) hl
    have HRt : Hid (∀ i, i < caps.length → faultP ((loadL paths r caps.length).getD i (0, 0)) = 0 ∧ fault (caps.getD i 0) 1 = 0 ∧ 1 ≤ caps.getD i 0 ∧ caps.getD i 0 ≤ 1000) := fun i hi => load_right' hk hi
    have HLa : Hid (∀ i, i < caps.length → (leftL caps paths r).getD i (0, 0) = leftOf (caps.getD i 0) ((loadL paths r caps.length).getD i (0, 0))) := fun i hi => leftL_at' hi
    have HLb : Hid (∀ i, i < caps.length → mayP ((leftL caps paths r).getD i (0, 0)) = false → leftE caps paths r = 4) := fun i hi h => left_bad' hk hi h
    have HLg : Hid ((∀ i, i < caps.length → mayP ((leftL caps paths r).getD i (0, 0)) = true) → leftE caps paths r = 0) := left_good' hk
    have hls : (loadL paths r caps.length).length = caps.length := loadL_length _ _ _
    have hlf : (leftL caps paths r).length = caps.length := leftL_length _ _ _
    have hc6 : caps.length ≤ 6 := (netE_0 (loadE_0 hk).1).2.1
    rw [hk, errV_0, okL_0] at HOf
    generalize leftE caps paths r = E4 at *
    generalize leftL caps paths r = lf at *
    generalize loadL paths r caps.length = ls at *
    clear hk
    obtain ⟨v1, v2, rfl, h1, h2⟩ := h
    obtain ⟨a1, cap1, rfl, ⟨hm1, hn1⟩, _⟩ := h1
    obtain ⟨a2, cap2, rfl, ⟨hm2, hn2⟩, _⟩ := h2
    obtain ⟨ar, capr, rfl, ⟨hm3, hn3⟩, _⟩ := hx
    obtain ⟨i0, hi, hz0, hz1, hz2⟩ := info_parts infoFrac
    go_enter Try.func6, Try.ntmps6
    go_wp2_with fail
    refine (HOf.out _ ((Below.refl _ _).alloc (Nat.le_refl _) _)).mono ?_
    rintro e w1 ⟨y, rfl, hy, hw1⟩
    have g0 : w1.cell? ⟨w.heap.size, 0, none⟩ = some (.slice a1 caps.length cap1) := cell_later hw1 (by simp)
    have g1 : w1.cell? ⟨w.heap.size, 1, none⟩ = some (.slice a2 paths.length cap2) := cell_later hw1 (by simp)
    have hs1 : w.heap.size < w1.heap.size := by have := hw1.size; simp at this; omega
    have HB1 : Hid (Below w.heap.size w w1) := ((Below.refl _ _).alloc (Nat.le_refl _) _).trans (hw1.mono (by simp))
    have HY : Hid (∀ i, i < caps.length → ∃ b off, ∃ cap, y = .slice (some ⟨b, off, none⟩) ls.length cap ∧ ∀ u, Below w1.heap.size w1 u → u.cell? ⟨b, off + i * 2, none⟩ = some (.int .i64 (ls.getD i (0, 0)).1) ∧ u.cell? ⟨b, off + i * 2 + 1, none⟩ = some (.int .i64 (ls.getD i (0, 0)).2)) := by
      intro i hi
      obtain ⟨a, cap, e, _, hc⟩ := hy
      rcases hc with hc | ⟨b, off, rfl, hc, _⟩
      · rw [hc] at hls; simp at hls; omega
      · exact ⟨b, off, cap, e, fun u hu => ⟨cell_later hu (hc i (by omega)).1, cell_later hu (hc i (by omega)).2⟩⟩
    obtain ⟨ay, cy, rfl, ⟨hmy, hny⟩, _⟩ := hy
    clear hw1
    go_wp2_with (at_make; go_must (refine wpList_make_full _ rfl _ _ 26 rfl w1.heap.size 28 i0 (.agg #[.int .i64 0, .int .i64 0]) 2 Try.underlying26 hi hz0 hz1 .i64 .i64 _ _ caps.length rfl rfl rfl rfl ?b2 ?b3 ?b4 ?_))
    case b2 => rw [hz2]; omega
    case b3 => unfold maxLen; omega
    case b4 => simp
    intro w2 hown hgrow
    have HB2 : Hid (Below w1.heap.size w1 w2) := (Below.refl _ _).grown hgrow (by simp) (by intro k hk; cases hk)
    have HO2 : Hid (w2.ownsRow w1.heap.size 28 2 (.slice (some ⟨w1.heap.size, 0, none⟩) caps.length caps.length) caps.length (madeCells #[.int .i64 0, .int .i64 0] (caps.length * 2)).toList) := hown
    generalize (madeCells #[Value.int .i64 0, Value.int .i64 0] (caps.length * 2)).toList = xs0 at HO2
    clear hown hgrow
    go_wp2
    go_loopw [9, 12, 27] (fun _ _ i wr => ∃ (k : Nat) (xs : List Value), k ≤ caps.length ∧ i = .int .i64 k ∧ Hid (wr.ownsRow w1.heap.size 28 2 (.slice (some ⟨w1.heap.size, 0, none⟩) caps.length caps.length) caps.length xs) ∧ Hid (Below w1.heap.size w1 wr) ∧ Hid (xs.take (k * 2) = flat (lf.take k)) ∧ Hid (∀ i, i < k → mayP (lf.getD i (0, 0)) = true)) (fun _ _ i _ => caps.length - (intOf i).toNat)
    case atStart => exact ⟨0, xs0, by omega, rfl, HO2, HB2, by simp [flat, Hid], fun i hi => by omega⟩
    case round =>
      obtain ⟨k, xs, hk, rfl, ho, hb, ht, hok⟩ := hrel
      have HBw : Hid (Below w.heap.size w wr) := HB1.out.trans (hb.out.mono (by omega))
      have d0 : wr.cell? ⟨w.heap.size, 0, none⟩ = some (.slice a1 caps.length cap1) := cell_later hb.out g0
      have d1 : wr.cell? ⟨w.heap.size, 1, none⟩ = some (.slice a2 paths.length cap2) := cell_later hb.out g1
      have hsr : w1.heap.size < wr.heap.size := (ho.out.lt _ rfl).2
      have hxl : xs.length = caps.length * 2 := ho.out.1
      by_cases hlt : k < caps.length
      · obtain ⟨b, off, cap, e, hc⟩ := HY.out k hlt
        simp only [Value.slice.injEq] at e
        obtain ⟨rfl, _, rfl⟩ := e
        obtain ⟨c1, c2⟩ := hc _ hb.out
        obtain ⟨f1, f2, b1, b2⟩ := HRt.out k hlt
        have hltl : k < ls.length := by omega
        have hla := HLa.out k hlt
        have hft := flat_take_snoc lf k (by omega)
        have hneg := fault_neg' f1
        have HNe : Hid (∀ u : World, Calls Try.prog 15 #[.agg #[.int .i64 (ls.getD k (0, 0)).1, .int .i64 (ls.getD k (0, 0)).2]] u fun e w' => e = .returned (.agg #[.int .i64 (-(ls.getD k (0, 0)).1), .int .i64 (ls.getD k (0, 0)).2]) ∧ Below u.heap.size u w') := fun u => negative_any _ _ u f1
        have HTk' : Hid (∀ u : World, Below w.heap.size w u → Calls Try.prog 14 #[.agg #[.slice a1 caps.length cap1, .slice a2 paths.length cap2], .int .i64 k] u fun e w' => e = .returned (.agg #[.int .i64 (caps.getD k 0), .int .i64 1]) ∧ Below u.heap.size u w') := fun u hu => HTk.out k u hlt hu
        have HS0 : Hid (sumP (caps.getD k 0, 1) (-(ls.getD k (0, 0)).1, (ls.getD k (0, 0)).2) = lf.getD k (0, 0)) := hla.symm
        cases hmay : mayP (lf.getD k (0, 0)) with
        | true =>
          have HAdd := (show Hid (∀ u : World, _) from fun u => Add_may (s := (caps.getD k 0, 1)) (a := (-(ls.getD k (0, 0)).1, (ls.getD k (0, 0)).2)) f2 hneg (by rw [HS0.out]; exact hmay) u)
          rw [HS0.out] at HAdd
          have HOk : Hid (∀ i, i < k + 1 → mayP (lf.getD i (0, 0)) = true) := by
            intro i hi
            by_cases hik : i = k
            · rw [hik]; exact hmay
            · exact hok.out i (by omega)
          have HFT : Hid (flat (lf.take (k + 1)) = flat (lf.take k) ++ [.int .i64 (lf.getD k (0, 0)).1, .int .i64 (lf.getD k (0, 0)).2]) := hft
          generalize lf.getD k (0, 0) = s' at *
          generalize (ls.getD k (0, 0)).1 = t at *
          generalize (ls.getD k (0, 0)).2 = bo at *
          generalize caps.getD k 0 = c at *
          obtain ⟨x', y'⟩ := s'
          simp only at *
          have hB0 : Hid (wr.heap.size + 1 ≤ (wr.alloc (.cells #[.int .i64 t, .int .i64 bo] 28)).heap.size) := by simp [Hid]
          have P1 : Hid (Below (wr.heap.size + 1) (wr.alloc (.cells #[.int .i64 t, .int .i64 bo] 28)) (wr.alloc (.cells #[.int .i64 t, .int .i64 bo] 28)).drew) := (Below.refl _ _).drew
          have HWr : Hid (∀ u : World, Below (wr.heap.size + 1) (wr.alloc (.cells #[.int .i64 t, .int .i64 bo] 28)) u → Below wr.heap.size wr u) := fun u hu => ((Below.refl _ wr).alloc (Nat.le_refl _) _).trans (hu.mono (by omega))
          have HWb : Hid (∀ u : World, Below (wr.heap.size + 1) (wr.alloc (.cells #[.int .i64 t, .int .i64 bo] 28)) u → Below w.heap.size w u) := fun u hu => HBw.out.trans ((HWr.out u hu).mono (by omega))
          have HSA : Hid (∀ u : World, Below (wr.heap.size + 1) (wr.alloc (.cells #[.int .i64 t, .int .i64 bo] 28)) u → u.cell? ⟨w.heap.size, 0, none⟩ = some (.slice a1 caps.length cap1) ∧ u.cell? ⟨w.heap.size, 1, none⟩ = some (.slice a2 paths.length cap2) ∧ u.cell? ⟨wr.heap.size, 0, none⟩ = some (.int .i64 t) ∧ u.cell? ⟨wr.heap.size, 1, none⟩ = some (.int .i64 bo)) := fun u hu => ⟨cell_later (HWr.out u hu) d0, cell_later (HWr.out u hu) d1, (hu.cell (p := ⟨wr.heap.size, 0, none⟩) (by simp)).trans (by simp), (hu.cell (p := ⟨wr.heap.size, 1, none⟩) (by simp)).trans (by simp)⟩
          have hsw : w.heap.size < wr.heap.size := by omega
          clear f1 f2 hla hft hneg hmay HS0 hc b1 b2 hok
          go_upto_region 8 with fail
          go_cut [11, 12] (fun s11 s12 wc => ∃ g, s11 = .pointer (some ⟨g, 0, none⟩) ∧ s12 = .nilIface ∧ Hid (wr.heap.size ≤ g) ∧ wc.cell? ⟨g, 0, none⟩ = some (.int .i64 x') ∧ wc.cell? ⟨g, 1, none⟩ = some (.int .i64 y') ∧ Hid (Below wr.heap.size wr wc))
          case first =>
            go_region_held3 (fun u => u.cell? ⟨w.heap.size, 0, none⟩ = some (.slice a1 caps.length cap1) ∧ u.cell? ⟨w.heap.size, 1, none⟩ = some (.slice a2 paths.length cap2) ∧ u.cell? ⟨wr.heap.size, 0, none⟩ = some (.int .i64 t) ∧ u.cell? ⟨wr.heap.size, 1, none⟩ = some (.int .i64 bo))
              ((refine HSA.out _ ?_; first
                | exact P1.out | exact Hbt.out | exact Hbn.out | exact Hba.out
                | exact Bel.more P1.out hB0.out _ | exact Bel.more Hbt.out hB0.out _ | exact Bel.more Hbn.out hB0.out _ | exact Bel.more Hba.out hB0.out _
                | (refine (Hba.out.setCell ?_ _).setCell ?_ _ <;> (simp; try omega))))
              (first
                | (go_at_call 14; refine (HTk'.out _ (HWb.out _ ?_)).mono ?_; (first | exact P1.out | exact Bel.more P1.out hB0.out _ | exact Hbn.out | exact Bel.more Hbn.out hB0.out _); rintro e wt ⟨rfl, hwt⟩; obtain ⟨hct, hft⟩ := bcell hwt; have hzt : ∀ n, n < _ → n < wt.heap.size := fun n h => Nat.lt_of_lt_of_le h hwt.size; (first | (have zz := fun (n : Nat) h => Nat.lt_of_lt_of_le (hzn n h) (Nat.le_trans (by simp) hwt.size)) | skip); have Hbt : Hid (Below (wr.heap.size + 1) (wr.alloc (.cells #[.int .i64 t, .int .i64 bo] 28)) wt) := (by first | exact Bel.call P1.out hB0.out hwt | exact Bel.call (Bel.more P1.out hB0.out _) hB0.out hwt | exact Bel.call Hbn.out hB0.out hwt | exact Bel.call (Bel.more Hbn.out hB0.out _) hB0.out hwt); have yt := Nat.le_trans hB0.out Hbt.out.size)
                | (go_at_call 15; refine (HNe.out _).mono ?_; rintro e wn ⟨rfl, hwn⟩; obtain ⟨hcn, hfn⟩ := bcell hwn; have hzn : ∀ n, n < _ → n < wn.heap.size := fun n h => Nat.lt_of_lt_of_le h hwn.size; (first | (have zz := fun (n : Nat) h => Nat.lt_of_lt_of_le (hzt n h) (Nat.le_trans (by simp) hwn.size)) | skip); have Hbn : Hid (Below (wr.heap.size + 1) (wr.alloc (.cells #[.int .i64 t, .int .i64 bo] 28)) wn) := (by first | exact Bel.call P1.out hB0.out hwn | exact Bel.call (Bel.more P1.out hB0.out _) hB0.out hwn | exact Bel.call Hbt.out hB0.out hwn | exact Bel.call (Bel.more Hbt.out hB0.out _) hB0.out hwn); have yn := Nat.le_trans hB0.out Hbn.out.size)
                | (go_at_call 8; refine (HAdd.out _).mono ?_; rintro e wa ⟨rfl, hwa⟩; obtain ⟨hca, hfa⟩ := bcell hwa; have hza : ∀ n, n < _ → n < wa.heap.size := fun n h => Nat.lt_of_lt_of_le h hwa.size; have Hba : Hid (Below (wr.heap.size + 1) (wr.alloc (.cells #[.int .i64 t, .int .i64 bo] 28)) wa) := (by first | exact Bel.call Hbt.out hB0.out hwa | exact Bel.call (Bel.more Hbt.out hB0.out _) hB0.out hwa | exact Bel.call Hbn.out hB0.out hwa | exact Bel.call (Bel.more Hbn.out hB0.out _) hB0.out hwa); have ya := Nat.le_trans hB0.out Hba.out.size))
            all_goals
              have hbw := HWr.out _ Hba.out
              go_wp2_with fail
              go_meet
              case rel =>
                refine ⟨_, rfl, rfl, ?_, ?_, ?_, ?_⟩
                · show wr.heap.size ≤ _
                  omega
                · first | (go_simp; done) | (refine (cell_set2 (z := .int .i64 0) (z' := .int .i64 0) ?_ ?_).1 <;> (go_simp; done))
                · first | (go_simp; done) | (refine (cell_set2 (z := .int .i64 0) (z' := .int .i64 0) ?_ ?_).2 <;> (go_simp; done))
                · first | exact hbw.alloc hbw.size _ | exact hbw | (refine (hbw.setCell ?_ _).setCell ?_ _ <;> (simp; try omega))
          case rest =>
            obtain ⟨g, rfl, rfl, hg, m0, m1, hba⟩ := hcut
            have ho3 := ownsRow_later hba.out hsr ho.out
            have p0 : ∃ z, wc.cell? ⟨w1.heap.size, k * 2, none⟩ = some z := ⟨xs[k * 2]'(by omega), by rw [ho3.cellAt (k * 2) (by omega)]; simp [List.getElem?_eq_getElem (show k * 2 < xs.length by omega)]⟩
            have p1 : ∃ z, wc.cell? ⟨w1.heap.size, k * 2 + 1, none⟩ = some z := ⟨xs[k * 2 + 1]'(by omega), by rw [ho3.cellAt (k * 2 + 1) (by omega)]; simp [List.getElem?_eq_getElem (show k * 2 + 1 < xs.length by omega)]⟩
            obtain ⟨z0, p0⟩ := p0
            obtain ⟨z1, p1⟩ := p1
            have q0 : wc.frozen? ⟨w1.heap.size, k * 2, none⟩ = false := ho3.frozenAt _
            have q1 : wc.frozen? ⟨w1.heap.size, k * 2 + 1, none⟩ = false := ho3.frozenAt _
            have HO3 : Hid (((wc.setCell ⟨w1.heap.size, k * 2, none⟩ (.int .i64 x')).setCell ⟨w1.heap.size, k * 2 + 1, none⟩ (.int .i64 y')).ownsRow w1.heap.size 28 2 (.slice (some ⟨w1.heap.size, 0, none⟩) caps.length caps.length) caps.length ((xs.set (k * 2) (.int .i64 x')).set (k * 2 + 1) (.int .i64 y'))) := ((ho3.stored (k * 2) (.int .i64 x')).1.stored (k * 2 + 1) (.int .i64 y')).1
            have HB3 : Hid (Below w1.heap.size w1 ((wc.setCell ⟨w1.heap.size, k * 2, none⟩ (.int .i64 x')).setCell ⟨w1.heap.size, k * 2 + 1, none⟩ (.int .i64 y'))) := ((hb.out.trans (hba.out.mono (by omega))).setCell (by simp) _).setCell (by simp) _
            have HT3 : Hid (((xs.set (k * 2) (.int .i64 x')).set (k * 2 + 1) (.int .i64 y')).take ((k + 1) * 2) = flat (lf.take (k + 1))) := by
              show _ = _
              rw [take_set2 hxl hlt, ht.out, HFT.out]
            clear ho3 d0 d1 P1
            go_wp2
            go_roundw
            case rel =>
              exact ⟨k + 1, _, by omega, by go_num, HO3, HB3, HT3, HOk⟩
            case measure => simp [intOf]; omega
        | false =>
          have HAdd := (show Hid (∀ u : World, _) from fun u => Add_big (s := (caps.getD k 0, 1)) (a := (-(ls.getD k (0, 0)).1, (ls.getD k (0, 0)).2)) f2 hneg (by rw [HS0.out]; exact hmay) u)
          have HE4 : Hid (E4 = 4) := HLb.out k hlt hmay
          generalize (ls.getD k (0, 0)).1 = t at *
          generalize (ls.getD k (0, 0)).2 = bo at *
          generalize caps.getD k 0 = c at *
          simp only at HAdd
          have hB0 : Hid (wr.heap.size + 1 ≤ (wr.alloc (.cells #[.int .i64 t, .int .i64 bo] 28)).heap.size) := by simp [Hid]
          have P1 : Hid (Below (wr.heap.size + 1) (wr.alloc (.cells #[.int .i64 t, .int .i64 bo] 28)) (wr.alloc (.cells #[.int .i64 t, .int .i64 bo] 28)).drew) := (Below.refl _ _).drew
          have HWr : Hid (∀ u : World, Below (wr.heap.size + 1) (wr.alloc (.cells #[.int .i64 t, .int .i64 bo] 28)) u → Below wr.heap.size wr u) := fun u hu => ((Below.refl _ wr).alloc (Nat.le_refl _) _).trans (hu.mono (by omega))
          have HWb : Hid (∀ u : World, Below (wr.heap.size + 1) (wr.alloc (.cells #[.int .i64 t, .int .i64 bo] 28)) u → Below w.heap.size w u) := fun u hu => HBw.out.trans ((HWr.out u hu).mono (by omega))
          have HSA : Hid (∀ u : World, Below (wr.heap.size + 1) (wr.alloc (.cells #[.int .i64 t, .int .i64 bo] 28)) u → u.cell? ⟨w.heap.size, 0, none⟩ = some (.slice a1 caps.length cap1) ∧ u.cell? ⟨w.heap.size, 1, none⟩ = some (.slice a2 paths.length cap2) ∧ u.cell? ⟨wr.heap.size, 0, none⟩ = some (.int .i64 t) ∧ u.cell? ⟨wr.heap.size, 1, none⟩ = some (.int .i64 bo)) := fun u hu => ⟨cell_later (HWr.out u hu) d0, cell_later (HWr.out u hu) d1, (hu.cell (p := ⟨wr.heap.size, 0, none⟩) (by simp)).trans (by simp), (hu.cell (p := ⟨wr.heap.size, 1, none⟩) (by simp)).trans (by simp)⟩
          have hsw : w.heap.size < wr.heap.size := by omega
          clear f1 f2 hla hft hneg hmay HS0 hc b1 b2 hok
          go_upto_region 8 with fail
          go_cut [11, 12] (fun s11 s12 wc => ∃ g, s11 = .pointer (some ⟨g, 0, none⟩) ∧ s12 = .iface 53 (.int .i64 4) ∧ Hid (wr.heap.size ≤ g) ∧ wc.cell? ⟨g, 0, none⟩ = some (.int .i64 0) ∧ wc.cell? ⟨g, 1, none⟩ = some (.int .i64 0) ∧ Hid (Below wr.heap.size wr wc))
          case first =>
            go_region_held3 (fun u => u.cell? ⟨w.heap.size, 0, none⟩ = some (.slice a1 caps.length cap1) ∧ u.cell? ⟨w.heap.size, 1, none⟩ = some (.slice a2 paths.length cap2) ∧ u.cell? ⟨wr.heap.size, 0, none⟩ = some (.int .i64 t) ∧ u.cell? ⟨wr.heap.size, 1, none⟩ = some (.int .i64 bo))
              ((refine HSA.out _ ?_; first
                | exact P1.out | exact Hbt.out | exact Hbn.out | exact Hba.out
                | exact Bel.more P1.out hB0.out _ | exact Bel.more Hbt.out hB0.out _ | exact Bel.more Hbn.out hB0.out _ | exact Bel.more Hba.out hB0.out _
                | (refine (Hba.out.setCell ?_ _).setCell ?_ _ <;> (simp; try omega))))
              (first
                | (go_at_call 14; refine (HTk'.out _ (HWb.out _ ?_)).mono ?_; (first | exact P1.out | exact Bel.more P1.out hB0.out _ | exact Hbn.out | exact Bel.more Hbn.out hB0.out _); rintro e wt ⟨rfl, hwt⟩; obtain ⟨hct, hft⟩ := bcell hwt; have hzt : ∀ n, n < _ → n < wt.heap.size := fun n h => Nat.lt_of_lt_of_le h hwt.size; (first | (have zz := fun (n : Nat) h => Nat.lt_of_lt_of_le (hzn n h) (Nat.le_trans (by simp) hwt.size)) | skip); have Hbt : Hid (Below (wr.heap.size + 1) (wr.alloc (.cells #[.int .i64 t, .int .i64 bo] 28)) wt) := (by first | exact Bel.call P1.out hB0.out hwt | exact Bel.call (Bel.more P1.out hB0.out _) hB0.out hwt | exact Bel.call Hbn.out hB0.out hwt | exact Bel.call (Bel.more Hbn.out hB0.out _) hB0.out hwt); have yt := Nat.le_trans hB0.out Hbt.out.size)
                | (go_at_call 15; refine (HNe.out _).mono ?_; rintro e wn ⟨rfl, hwn⟩; obtain ⟨hcn, hfn⟩ := bcell hwn; have hzn : ∀ n, n < _ → n < wn.heap.size := fun n h => Nat.lt_of_lt_of_le h hwn.size; (first | (have zz := fun (n : Nat) h => Nat.lt_of_lt_of_le (hzt n h) (Nat.le_trans (by simp) hwn.size)) | skip); have Hbn : Hid (Below (wr.heap.size + 1) (wr.alloc (.cells #[.int .i64 t, .int .i64 bo] 28)) wn) := (by first | exact Bel.call P1.out hB0.out hwn | exact Bel.call (Bel.more P1.out hB0.out _) hB0.out hwn | exact Bel.call Hbt.out hB0.out hwn | exact Bel.call (Bel.more Hbt.out hB0.out _) hB0.out hwn); have yn := Nat.le_trans hB0.out Hbn.out.size)
                | (go_at_call 8; refine (HAdd.out _).mono ?_; rintro e wa ⟨rfl, hwa⟩; obtain ⟨hca, hfa⟩ := bcell hwa; have hza : ∀ n, n < _ → n < wa.heap.size := fun n h => Nat.lt_of_lt_of_le h hwa.size; have Hba : Hid (Below (wr.heap.size + 1) (wr.alloc (.cells #[.int .i64 t, .int .i64 bo] 28)) wa) := (by first | exact Bel.call Hbt.out hB0.out hwa | exact Bel.call (Bel.more Hbt.out hB0.out _) hB0.out hwa | exact Bel.call Hbn.out hB0.out hwa | exact Bel.call (Bel.more Hbn.out hB0.out _) hB0.out hwa); have ya := Nat.le_trans hB0.out Hba.out.size))
            all_goals
              have hbw := HWr.out _ Hba.out
              go_wp2_with fail
              go_meet
              case rel =>
                refine ⟨_, rfl, rfl, ?_, ?_, ?_, ?_⟩
                · show wr.heap.size ≤ _
                  omega
                · first | (go_simp; done) | (refine (cell_set2 (z := .int .i64 0) (z' := .int .i64 0) ?_ ?_).1 <;> (go_simp; done))
                · first | (go_simp; done) | (refine (cell_set2 (z := .int .i64 0) (z' := .int .i64 0) ?_ ?_).2 <;> (go_simp; done))
                · first | exact hbw.alloc hbw.size _ | exact hbw | (refine (hbw.setCell ?_ _).setCell ?_ _ <;> (simp; try omega))
          case rest =>
            obtain ⟨g, rfl, rfl, hg, m0, m1, hba⟩ := hcut
            have HB3 : Hid (Below w.heap.size w wc) := HBw.out.trans (hba.out.mono (by omega))
            clear d0 d1 P1
            go_wp2
            refine bodyPost_ret (v := .tuple #[.slice none 0 0, .iface 53 (.int .i64 4)]) (by simp [results, Try.results6, go_sem]) rfl ?_
            rw [HE4.out]
            exact ⟨_, rfl, fracs_nil _ _, HB3.out⟩
      · obtain rfl : k = caps.length := by omega
        have HL0 : Hid (E4 = 0) := HLg.out hok.out
        have hxs : xs = flat lf := by
          have := ht.out
          rwa [List.take_of_length_le (by omega), List.take_of_length_le (by omega)] at this
        have HX : Hid (FracsAt (fun b => w.heap.size ≤ b) wr (.slice (some ⟨w1.heap.size, 0, none⟩) caps.length caps.length) lf) := by
          have e : caps.length = lf.length := by omega
          rw [e]
          exact fracs_of_owns (base := w1.heap.size) (by omega) (by rw [← hxs, ← e]; exact ho.out) (fun g hg => by omega)
        clear hxs
        go_wp2
        refine bodyPost_ret (v := .tuple #[.slice (some ⟨w1.heap.size, 0, none⟩) caps.length caps.length, .nilIface]) (by simp [results, Try.results6, go_sem]) rfl ?_
        rw [HL0.out]
        exact ⟨_, rfl, HX.out, HBw.out⟩
  · have HE : Hid (leftE caps paths r = loadE caps paths r) := by show _ = _; rw [leftE, if_neg hk]
    have HV : Hid (errV (loadE caps paths r) = .iface 53 (.int .i64 (loadE caps paths r))) := errV_ne hk
    have HK : Hid (∀ l : List (Int × Int), okL (loadE caps paths r) l = []) := fun l => okL_ne hk _
    rw [HV.out, HK.out] at HOf
    generalize loadE caps paths r = ek at *
    clear hk
    obtain ⟨v1, v2, rfl, h1, h2⟩ := h
    obtain ⟨a1, cap1, rfl, _⟩ := h1
    obtain ⟨a2, cap2, rfl, _⟩ := h2
    obtain ⟨ar, capr, rfl, _⟩ := hx
    go_enter Try.func6, Try.ntmps6
    go_wp2_with fail
    refine (HOf.out _ ((Below.refl _ _).alloc (Nat.le_refl _) _)).mono ?_
    rintro e w1 ⟨y, rfl, hy, hw1⟩
    have HB1 : Hid (Below w.heap.size w w1) := ((Below.refl _ _).alloc (Nat.le_refl _) _).trans (hw1.mono (by simp))
    obtain ⟨ay, ny, cy, rfl⟩ := hy.shape
    clear hw1 hy
    go_wp2
    refine bodyPost_ret (v := .tuple #[.slice none 0 0, .iface 53 (.int .i64 ek)]) (by simp [results, Try.results6, go_sem]) rfl ?_
    rw [HE.out, HK.out, HV.out]
    exact ⟨_, rfl, fracs_nil _ _, HB1.out⟩
end Ld
end Go.Proofs.Ytmoeaaocpnoibab
