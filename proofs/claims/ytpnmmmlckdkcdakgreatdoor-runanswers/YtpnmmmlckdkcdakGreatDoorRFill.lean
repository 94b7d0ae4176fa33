/- The document's Fill (package fairref1): all rise together. -/
import Derived.Test.YtpnmmmlckdkcdakGreatDoorPlains
import Derived.Test.YtpnmmmlckdkcdakGreatDoorRWhole
import Derived.Deep.DeepCutAuto
import Derived.Maps.AppendAt
namespace Go.Proofs.YtpnmmmlckdkcdakGreatDoor
namespace Fl
open Go.RowKit Fr Ns Ld
set_option linter.unusedSimpArgs false
set_option linter.unusedVariables false

theorem RMinus_any (t b : Int) (w : World) (h1 : -1000000000 ≤ t) (h2 : t ≤ 1000000000) :
    Calls Tryz.prog 88 #[.agg #[.int .i64 t, .int .i64 b]] w fun e w' => e = .returned (.agg #[.int .i64 (-t), .int .i64 b]) ∧ Below w.heap.size w w' := by
  have hw : IntKind.i64.wrap (-t) = -t := by rw [IntKind.wrap_i64]; omega
  go_enter Tryz.func88, Tryz.ntmps88
  go_wp2
  refine bodyPost_ret (v := .agg #[.int .i64 (-t), .int .i64 b]) (by simp [results, Tryz.results88, go_sem]) rfl ⟨rfl, ?_⟩
  repeat (first | exact Below.refl _ _ | refine Below.setCell ?_ (by simp) _ | refine Below.alloc ?_ (by simp) _ | refine Below.drew ?_)

set_option maxRecDepth 100000 in
set_option maxHeartbeats 16000000 in
theorem RFill_any {Q : Nat → Prop} (caps : List Int) (paths : List (List Int)) (v : Value) (w : World) (h : NetAt Q w v caps paths) (hg : Good caps paths) (hc12 : caps.length ≤ 12) :
    Calls Tryz.prog 52 #[v] w fun e w' => ∃ y z, e = .returned (.tuple #[y, z]) ∧ FracsAt (fun b => w.heap.size ≤ b) w' y (fill caps paths).1 ∧ ListsAt (fun b => w.heap.size ≤ b) w' z (fill caps paths).2 ∧ Below w.heap.size w w' := by
  have HU : Hid (∀ (l : Nat) (u : World), Below w.heap.size w u → Calls Tryz.prog 86 #[v, .int .i64 l] u fun e w' => ∃ x, e = .returned x ∧ IntsAt (fun b => u.heap.size ≤ b) w' x (users paths l) ∧ Below u.heap.size u w') := fun l u hu => RUsers_any caps paths l v u (h.later hu) (by have := hg.2.2.1; omega)
  obtain ⟨v1, v2, rfl, h1, h2⟩ := h
  have HCp : Hid (∀ i, i < caps.length → ∃ b off, ∃ cap, v1 = .slice (some ⟨b, off, none⟩) caps.length cap ∧ ∀ u, Below w.heap.size w u → u.cell? ⟨b, off + i, none⟩ = some (.int .i64 (caps.getD i 0))) := by
    intro i hi
    obtain ⟨a, cap, e, _, hc⟩ := h1
    rcases hc with rfl | ⟨b, off, rfl, hc, _⟩
    · simp at hi
    · exact ⟨b, off, cap, e, fun u hu => cell_later hu (hc i hi)⟩
  have HPp : Hid (∀ i, i < paths.length → ∃ b off, ∃ cap, ∃ x, v2 = .slice (some ⟨b, off, none⟩) paths.length cap ∧ ∀ u, Below w.heap.size w u → u.cell? ⟨b, off + i, none⟩ = some x ∧ IntsAt Q u x (paths.getD i [])) := by
    intro i hi
    obtain ⟨a, cap, e, _, hc⟩ := h2
    rcases hc with rfl | ⟨b, off, rfl, hc, _⟩
    · simp at hi
    · obtain ⟨x, hx, hxi⟩ := hc i hi
      exact ⟨b, off, cap, x, e, fun u hu => ⟨cell_later hu hx, hxi.later hu⟩⟩
  obtain ⟨a1, cap1, rfl, ⟨hm1, hn1⟩, _⟩ := h1
  obtain ⟨a2, cap2, rfl, ⟨hm2, hn2⟩, _⟩ := h2
  have hp6 : paths.length ≤ 6 := hg.2.2.1
  have HG : Hid (Good caps paths) := hg
  have HBW : Hid (∀ u, Below (w.heap.size + 1) (w.alloc (.cells #[.slice a1 caps.length cap1, .slice a2 paths.length cap2] 37)) u → Below w.heap.size w u) := fun u hu => ((Below.refl _ _).alloc (Nat.le_refl _) _).trans (hu.mono (by omega))
  have HCW : Hid (∀ u, Below (w.heap.size + 1) (w.alloc (.cells #[.slice a1 caps.length cap1, .slice a2 paths.length cap2] 37)) u → u.cell? ⟨w.heap.size, 0, none⟩ = some (.slice a1 caps.length cap1) ∧ u.cell? ⟨w.heap.size, 1, none⟩ = some (.slice a2 paths.length cap2)) := fun u hu =>
    ⟨(hu.cell (p := ⟨w.heap.size, 0, none⟩) (by simp)).trans (by simp), (hu.cell (p := ⟨w.heap.size, 1, none⟩) (by simp)).trans (by simp)⟩
  have hNB : Hid (w.heap.size + 1 ≤ (w.alloc (.cells #[.slice a1 caps.length cap1, .slice a2 paths.length cap2] 37)).heap.size) := by simp [Hid]
  obtain ⟨i0, hi, hz0, hz1, hz2⟩ := info_parts infoFrac
  obtain ⟨j0, hJ, hy0, hy1, hy2⟩ := info_parts infoBool
  obtain ⟨k0, hKI, hx0, hx1, hx2⟩ := info_parts infoInt
  obtain ⟨mI, hMI, hv0, hv1, hv2⟩ := info_parts infoInts
  clear hg
  go_enter Tryz.func52, Tryz.ntmps52
  go_wp2_with (at_make; go_must (refine wpList_make_full _ rfl _ _ 24 rfl (w.heap.size + 1) 58 i0 (.agg #[.int .i64 0, .int .i64 0]) 2 Tryz.underlying24 hi hz0 hz1 .i64 .i64 _ _ paths.length rfl rfl rfl rfl ?b2 ?b3 ?b4 ?_))
  case b2 => rw [hz2]; omega
  case b3 => unfold maxLen; omega
  case b4 => simp
  intro w1 hown1 hgrow1
  have B1 : Hid (Below (w.heap.size + 1) (w.alloc (.cells #[.slice a1 caps.length cap1, .slice a2 paths.length cap2] 37)) w1) := (Below.refl _ _).grown hgrow1 (by simp) (by intro k hk; cases hk)
  have hown1' : w1.ownsRow (w.heap.size + 1) 58 2 (.slice (some ⟨w.heap.size + 1, 0, none⟩) paths.length paths.length) paths.length (madeCells #[.int .i64 0, .int .i64 0] (paths.length * 2)).toList := by simpa using hown1
  rw [made_fracs] at hown1'
  have R1 : Hid (RowAt w1 (w.heap.size + 1) 58 (flat (List.replicate paths.length (0, 0)))) := RowAt.of_owns hown1'
  obtain ⟨g0, g1⟩ := HCW.out _ B1.out
  have hs1 : w.heap.size + 1 < w1.heap.size := R1.out.lt
  clear hown1 hgrow1 hown1'
  go_wp2_with (at_make; go_must (refine wpList_make_full _ rfl _ _ 134 rfl w1.heap.size 4 j0 (.bool false) 1 Tryz.underlying134 hJ hy0 hy1 .i64 .i64 _ _ paths.length rfl rfl rfl rfl ?b2 ?b3 ?b4 ?_))
  case b2 => rw [hy2]; omega
  case b3 => unfold maxLen; omega
  case b4 => simp
  intro w2 hown2 hgrow2
  have B12 : Hid (Below w1.heap.size w1 w2) := (Below.refl _ _).grown hgrow2 (by simp) (by intro k hk; cases hk)
  have B2 : Hid (Below (w.heap.size + 1) (w.alloc (.cells #[.slice a1 caps.length cap1, .slice a2 paths.length cap2] 37)) w2) := B1.out.trans (B12.out.mono (by omega))
  have hown2' : w2.ownsRow w1.heap.size 4 1 (.slice (some ⟨w1.heap.size, 0, none⟩) paths.length paths.length) paths.length (madeCells #[.bool false] paths.length).toList := by simpa using hown2
  rw [made_bools] at hown2'
  have M2 : Hid (FillMem (w.heap.size + 1) w1.heap.size w2 (.slice none 0 0) (List.replicate paths.length (0, 0)) (List.replicate paths.length false) []) :=
    ⟨R1.out.later B12.out hs1, RowAt.of_owns hown2', [], World.ownsRow_nil _ _ _ _, fun i hi => by simp at hi⟩
  have P2 : Hid (FillAt caps paths (List.replicate paths.length (0, 0)) (List.replicate paths.length false) []) := fillAt_start HG.out
  have F2 : Hid (freeN paths (List.replicate paths.length false) = paths.length) := freeN_start paths
  clear hown2 hgrow2 hown2' R1 g0 g1
  obtain ⟨g0, g1⟩ := HCW.out _ B2.out
  go_wp2
  go_loopw [6, 7] (fun v6 lf wr => ∃ (rate : List (Int × Int)) (done : List Bool) (acc : List (List Int)), lf = .int .i64 (freeN paths done : Nat) ∧ Hid (Below (w.heap.size + 1) (w.alloc (.cells #[.slice a1 caps.length cap1, .slice a2 paths.length cap2] 37)) wr) ∧ Hid (FillMem (w.heap.size + 1) w1.heap.size wr v6 rate done acc) ∧ Hid (FillAt caps paths rate done acc)) (fun _ lf _ => (intOf lf).toNat)
  case atStart => exact ⟨_, _, [], by rw [F2.out], B2, M2, P2⟩
  case round =>
    obtain ⟨rate, done, acc, rfl, hB, hM, hP⟩ := hrel
    clear g0 g1
    obtain ⟨g0, g1⟩ := HCW.out _ hB.out
    have hfn : freeN paths done ≤ 6 := Nat.le_trans (freeN_le paths done) hp6
    by_cases hz : freeN paths done = 0
    · have HE : Hid (fill caps paths = (rate, acc)) := fillAt_end hP.out hz
      have hlr : rate.length = paths.length := by obtain ⟨_, _, _, hi, _⟩ := hP.out; exact hi.lr
      have HY : Hid (FracsAt (fun b => w.heap.size ≤ b) wr (.slice (some ⟨w.heap.size + 1, 0, none⟩) paths.length paths.length) rate) := by
        rw [← hlr]
        exact fracs_of_owns (base := w.heap.size + 1) (by omega) (hM.out.1.owns (Nat.le_refl _) (by rw [flat_length]) (by unfold maxLen; omega)) (fun g hg => by omega)
      have HZ : Hid (ListsAt (fun b => w.heap.size ≤ b) wr u6 acc) := by
        obtain ⟨_, _, vs, ho, hv⟩ := hM.out
        have hvl : vs.length = acc.length := by have := ho.1; omega
        exact lists_of_owns (base := w1.heap.size + 1) (Nat.le_trans (acc_length HE.out HG.out) (by omega)) hvl ho (fun i hi => (hv i hi).keep (fun _ _ _ => rfl) (fun b hb _ => by have := hb.1; omega)) (fun g hg => by omega)
      rw [hz]
      clear hz
      go_wp2
      refine bodyPost_ret (v := .tuple #[.slice (some ⟨w.heap.size + 1, 0, none⟩) paths.length paths.length, u6]) (by simp [results, Tryz.results52, go_sem]) rfl ⟨_, _, rfl, ?_, ?_, HBW.out _ hB.out⟩
      · rw [HE.out]; exact HY.out
      · rw [HE.out]; exact HZ.out
    · have hpos : 0 < freeN paths done := by omega
      obtain ⟨hlr, hld, hLS, hRR, hSR, bst, hbst, hbf, hrne, hnext⟩ := fillAt_facts HG.out hP.out hpos
      have HLS : Hid (∀ l, l < caps.length → ∀ j, faultP (linkSum rate done ((users paths l).take j) (caps.getD l 0, 1) 0).1 = 0 ∧ (linkSum rate done ((users paths l).take j) (caps.getD l 0, 1) 0).1.2 ≤ 46656 ∧ (linkSum rate done ((users paths l).take j) (caps.getD l 0, 1) 0).2 ≤ j) := hLS
      have HRR : Hid (∀ f, f < paths.length → dB done f = true → faultP (rP rate f) = 0) := hRR
      have HSR : Hid (∀ l s, l < caps.length → shareOf caps paths rate done l = some s → faultP s = 0 ∧ 0 ≤ s.1) := hSR
      have HSD : Hid (∀ l, shareOf caps paths rate done l = if (linkSum rate done (users paths l) (caps.getD l 0, 1) 0).2 = 0 then none else some (partP (linkSum rate done (users paths l) (caps.getD l 0, 1) 0).1 ((linkSum rate done (users paths l) (caps.getD l 0, 1) 0).2 : Nat))) := fun l => rfl
      have HFS : Hid (freeN paths (setDone done (roundOf paths done (narAt (shareOf caps paths rate done) caps.length))) + (roundOf paths done (narAt (shareOf caps paths rate done) caps.length)).length = freeN paths done) := freeN_step hld
      have HBS : Hid (bestOf (shareOf caps paths rate done) caps.length = some bst) := hbst
      have HNX : Hid (FillAt caps paths (setRate rate (roundOf paths done (narAt (shareOf caps paths rate done) caps.length)) bst) (setDone done (roundOf paths done (narAt (shareOf caps paths rate done) caps.length))) (acc ++ [roundOf paths done (narAt (shareOf caps paths rate done) caps.length)])) := hnext
      have HW1 : Hid (∀ u : World, Calls Tryz.prog 85 #[.int .i64 (-1)] u fun e w' => e = .returned (.agg #[.int .i64 (-1), .int .i64 1]) ∧ Below u.heap.size u w') := fun u => Whole_any (-1) u
      generalize shareOf caps paths rate done = sh at *
      clear hLS hRR hSR hbst hnext hz hP
      have hsr := hM.out.2.1.lt
      go_wp2_with fail
      refine (HW1.out _).mono ?_
      rintro e w3 ⟨rfl, hw3⟩
      have B3 : Hid (Below (w.heap.size + 1) (w.alloc (.cells #[.slice a1 caps.length cap1, .slice a2 paths.length cap2] 37)) w3) := Bel.call hB.out hNB.out hw3
      have hs3 : wr.heap.size ≤ w3.heap.size := hw3.size
      have M3 : Hid (FillMem (w.heap.size + 1) w1.heap.size w3 u6 rate done acc) := mem_later hM.out hw3
      have B34 : Hid (Below (w.heap.size + 1) (w.alloc (.cells #[.slice a1 caps.length cap1, .slice a2 paths.length cap2] 37)) (w3.alloc (.cells #[.int .i64 (-1), .int .i64 1] 58))) := Bel.more B3.out hNB.out _
      obtain ⟨g0', g1'⟩ := HCW.out _ B34.out
      clear hw3 g0 g1
      go_wp2_with (at_make; go_must (refine wpList_make_full _ rfl _ _ 134 rfl (w3.heap.size + 1) 4 j0 (.bool false) 1 Tryz.underlying134 hJ hy0 hy1 .i64 .i64 _ _ caps.length rfl rfl rfl rfl ?b2 ?b3 ?b4 ?_))
      case b2 => rw [hy2]; omega
      case b3 => unfold maxLen; omega
      case b4 => simp
      intro w4 hown4 hgrow4
      have hown4' : w4.ownsRow (w3.heap.size + 1) 4 1 (.slice (some ⟨w3.heap.size + 1, 0, none⟩) caps.length caps.length) caps.length (madeCells #[.bool false] caps.length).toList := by simpa using hown4
      rw [made_bools] at hown4'
      have B44 : Hid (Below (w3.heap.size + 1) (w3.alloc (.cells #[.int .i64 (-1), .int .i64 1] 58)) w4) := (Below.refl _ _).grown hgrow4 (by simp) (by intro k hk; cases hk)
      have R4 : Hid (RowAt w4 (w3.heap.size + 1) 4 (boolsV ((List.range caps.length).map (narAt sh 0)))) := by
        have := RowAt.of_owns hown4'
        rw [nar_start]
        exact this
      have BB4 : Hid (RowAt w4 w3.heap.size 58 [.int .i64 (bestD (bestOf sh 0)).1, .int .i64 (bestD (bestOf sh 0)).2]) := (RowAt.new w3 #[.int .i64 (-1), .int .i64 1] 58).later B44.out (by omega)
      have B34' : Hid (Below w3.heap.size w3 w4) := ((Below.refl _ _).alloc (Nat.le_refl _) _).trans (B44.out.mono (by omega))
      clear hown4 hgrow4 hown4' g0' g1'
      go_wp2
      go_loopw [9, 10] (fun s9 s10 wq => ∃ l gn : Nat, l ≤ caps.length ∧ s9 = .slice (some ⟨gn, 0, none⟩) caps.length caps.length ∧ s10 = .int .i64 l ∧ Hid (w3.heap.size < gn) ∧ Hid (Below w3.heap.size w3 wq) ∧ Hid (RowAt wq w3.heap.size 58 [.int .i64 (bestD (bestOf sh l)).1, .int .i64 (bestD (bestOf sh l)).2]) ∧ Hid (RowAt wq gn 4 (boolsV ((List.range caps.length).map (narAt sh l))))) (fun _ s10 _ => caps.length - (intOf s10).toNat)
      case atStart => exact ⟨0, w3.heap.size + 1, by omega, by simp, rfl, by simp [Hid], B34', BB4, R4⟩
      case round =>
        obtain ⟨l, gn, hl, rfl, rfl, hgn, hq1, hq2, hq3⟩ := hrel
        have BQ : Hid (Below (w.heap.size + 1) (w.alloc (.cells #[.slice a1 caps.length cap1, .slice a2 paths.length cap2] 37)) wr) := Bel.call B3.out hNB.out hq1.out
        have MQ : Hid (FillMem (w.heap.size + 1) w1.heap.size wr u6 rate done acc) := mem_later M3.out hq1.out
        obtain ⟨g0, g1⟩ := HCW.out _ BQ.out
        by_cases hlt : l < caps.length
        · obtain ⟨bc, oc, capc, e, hc⟩ := HCp.out l hlt
          simp only [Value.slice.injEq] at e
          obtain ⟨rfl, _, rfl⟩ := e
          have hus1 : ∀ u ∈ users paths l, 0 ≤ u ∧ u < paths.length := fun u hu => users_mem hu
          have hus2 : (users paths l).length ≤ 6 := by have := users_length (l : Int) 0 paths; unfold users; omega
          have HUl : Hid (∀ u : World, Below w.heap.size w u → Calls Tryz.prog 86 #[.agg #[.slice (some ⟨bc, oc, none⟩) caps.length cap1, .slice a2 paths.length cap2], .int .i64 l] u fun e w' => ∃ x, e = .returned x ∧ IntsAt (fun b => u.heap.size ≤ b) w' x (users paths l) ∧ Below u.heap.size u w') := fun u hu => HU.out l u hu
          have HLl := HLS.out l hlt
          have HSl := HSD.out l
          have HRl : Hid (∀ t, sh l = some t → faultP t = 0 ∧ 0 ≤ t.1) := fun t ht => HSR.out l t hlt ht
          generalize users paths l = us at HUl HLl HSl hus1 hus2
          obtain ⟨LS, hLS⟩ : ∃ LS : Nat → (Int × Int) × Nat, ∀ j, LS j = linkSum rate done (us.take j) (caps.getD l 0, 1) 0 := ⟨_, fun _ => rfl⟩
          have H0 : LS 0 = ((caps.getD l 0, 1), 0) := by rw [hLS]; rfl
          have HSt : Hid (∀ j, j < us.length → LS (j + 1) = if dB done (us.getD j 0).toNat then (sumP (LS j).1 (negP (rP rate (us.getD j 0).toNat)), (LS j).2) else ((LS j).1, (LS j).2 + 1)) := fun j hj => by rw [hLS, hLS]; exact linkSum_step hj
          have HLf : Hid (∀ j, faultP (LS j).1 = 0 ∧ (LS j).1.2 ≤ 46656 ∧ (LS j).2 ≤ j) := fun j => by rw [hLS]; exact HLl j
          have HSe : Hid (sh l = if (LS us.length).2 = 0 then none else some (partP (LS us.length).1 ((LS us.length).2 : Nat))) := by
            show _ = _
            rw [hLS, List.take_of_length_le (Nat.le_refl _)]; exact HSl
          have HUm : Hid (∀ u ∈ us, 0 ≤ u ∧ u < paths.length) := hus1
          have HWc : Hid (∀ u : World, Calls Tryz.prog 85 #[.int .i64 (caps.getD l 0)] u fun e w' => e = .returned (.agg #[.int .i64 (caps.getD l 0), .int .i64 1]) ∧ Below u.heap.size u w') := fun u => Whole_any _ u
          have HHc : Hid (∀ u, Below w.heap.size w u → u.cell? ⟨bc, oc + l, none⟩ = some (.int .i64 (caps.getD l 0))) := hc
          generalize caps.getD l 0 = c at *
          clear hLS HLl HSl hus1 hc
          go_wp2_with fail
          refine (HUl.out _ (HBW.out _ BQ.out)).mono ?_
          rintro e w5 ⟨xu, rfl, hxu, hw5⟩
          have B5 : Hid (Below (w.heap.size + 1) (w.alloc (.cells #[.slice (some ⟨bc, oc, none⟩) caps.length cap1, .slice a2 paths.length cap2] 37)) w5) := Bel.call BQ.out hNB.out hw5
          have B35 : Hid (Below w3.heap.size w3 w5) := Bel.call hq1.out (Nat.le_refl _) hw5
          have X5 : Hid (IntsAt (fun _ => True) w5 xu us) := hxu.keep (fun _ _ _ => rfl) (fun _ _ _ => trivial)
          have Q25 : Hid (RowAt w5 w3.heap.size 58 [.int .i64 (bestD (bestOf sh l)).1, .int .i64 (bestD (bestOf sh l)).2]) := hq2.out.later hw5 hq2.out.lt
          have Q35 : Hid (RowAt w5 gn 4 (boolsV ((List.range caps.length).map (narAt sh l)))) := hq3.out.later hw5 hq3.out.lt
          obtain ⟨au, capu, rfl, ⟨hmu, hnu⟩, _⟩ := hxu
          obtain ⟨g05, g15⟩ := HCW.out _ B5.out
          have cc := HHc.out _ (HBW.out _ B5.out)
          clear hw5 g0 g1
          go_wp2_with fail
          refine (HWc.out _).mono ?_
          rintro e w6 ⟨rfl, hw6⟩
          have B6 : Hid (Below (w.heap.size + 1) (w.alloc (.cells #[.slice (some ⟨bc, oc, none⟩) caps.length cap1, .slice a2 paths.length cap2] 37)) w6) := Bel.call B5.out hNB.out hw6
          have B36 : Hid (Below w3.heap.size w3 w6) := Bel.call B35.out (Nat.le_refl _) hw6
          have M6 : Hid (FillMem (w.heap.size + 1) w1.heap.size w6 u6 rate done acc) := mem_later M3.out B36.out
          have Q26 : Hid (RowAt w6 w3.heap.size 58 [.int .i64 (bestD (bestOf sh l)).1, .int .i64 (bestD (bestOf sh l)).2]) := Q25.out.later hw6 Q25.out.lt
          have Q36 : Hid (RowAt w6 gn 4 (boolsV ((List.range caps.length).map (narAt sh l)))) := Q35.out.later hw6 Q35.out.lt
          have X6 : Hid (∀ i, i < us.length → ∃ b off, au = some ⟨b, off, none⟩ ∧ ∀ u, Below w6.heap.size w6 u → u.cell? ⟨b, off + i, none⟩ = some (.int .i64 (us.getD i 0))) := by
            intro i hi
            obtain ⟨_, _, e, _, hc⟩ := X5.out.later hw6
            simp only [Value.slice.injEq] at e
            obtain ⟨rfl, _, rfl⟩ := e
            rcases hc with rfl | ⟨b, off, rfl, hc, _⟩
            · simp at hi
            · exact ⟨b, off, rfl, fun u hu => cell_later hu (hc i hi)⟩
          have R6 : Hid (RowAt (w6.alloc (.cells #[.int .i64 c, .int .i64 1] 58)) w6.heap.size 58 [.int .i64 (LS 0).1.1, .int .i64 (LS 0).1.2]) := by
            show RowAt _ _ _ _
            rw [H0]; exact RowAt.new w6 #[.int .i64 c, .int .i64 1] 58
          have hls0 : Hid (Value.int .i64 0 = .int .i64 ((LS 0).2 : Nat)) := by show _ = _; rw [H0]; rfl
          have hrl : w.heap.size + 1 < w6.heap.size := M6.out.1.lt
          have hdl : w1.heap.size < w6.heap.size := M6.out.2.1.lt
          clear hw6 g05 g15 cc H0
          go_wp2
          go_loopw [12, 14] (fun s12 s14 wq => ∃ j : Nat, j ≤ us.length ∧ s12 = .int .i64 ((LS j).2 : Nat) ∧ s14 = .int .i64 j ∧ Hid (RowAt wq w6.heap.size 58 [.int .i64 (LS j).1.1, .int .i64 (LS j).1.2]) ∧ Hid (Below w6.heap.size w6 wq)) (fun _ s14 _ => us.length - (intOf s14).toNat)
          case atStart => exact ⟨0, by omega, hls0.out, rfl, R6, (Below.refl _ _).alloc (Nat.le_refl _) _⟩
          case round =>
            obtain ⟨j, hj, rfl, rfl, hr3, hb3⟩ := hrel
            have hgs := hr3.out.lt
            have m0 := hr3.out.cell (i := 0) (by rfl)
            have m1 := hr3.out.cell (i := 1) (by rfl)
            have f0 := hr3.out.frozen 0
            have f1 := hr3.out.frozen 1
            obtain ⟨lf1, lf2, lf3⟩ := HLf.out j
            by_cases hjl : j < us.length
            · have hum := HUm.out _ (getD_mem us j hjl 0)
              obtain ⟨m, hm'⟩ : ∃ m : Nat, us.getD j 0 = m := ⟨(us.getD j 0).toNat, by omega⟩
              obtain ⟨bu, ou, rfl, hcu⟩ := X6.out j hjl
              have cu : wr.cell? ⟨bu, ou + j, none⟩ = some (.int .i64 m) := by rw [hcu _ hb3.out, hm']
              have hmn : m < paths.length := by omega
              have M7 := mem_later M6.out hb3.out
              have cd := M7.2.1.cell (bools_cell (show m < done.length by omega))
              have hst := HSt.out j hjl
              rw [hm', show ((m : Int)).toNat = m by omega] at hst
              cases hd : dB done m with
              | true =>
                rw [hd] at hst cd
                simp only [if_true] at hst
                have HN1 : Hid (LS (j + 1) = (sumP (LS j).1 (negP (rP rate m)), (LS j).2)) := hst
                have fr := HRR.out m hmn hd
                obtain ⟨c1, c2⟩ := flat_cells (rate := rate) (show m < rate.length by omega)
                have d1 := M7.1.cell c1
                have d2 := M7.1.cell c2
                have hfn' : fault (-(rP rate m).1) (rP rate m).2 = 0 := fault_iff.2 ⟨mayB_iff.2 (by have := fault_0 fr; omega), by rw [gd_neg]; exact (fault_iff.1 fr).2⟩
                have hbd := fault_0 fr
                have HMi : Hid (∀ u : World, Calls Tryz.prog 88 #[.agg #[.int .i64 (rP rate m).1, .int .i64 (rP rate m).2]] u fun e w' => e = .returned (.agg #[.int .i64 (-(rP rate m).1), .int .i64 (rP rate m).2]) ∧ Below u.heap.size u w') := fun u => RMinus_any _ _ u hbd.2.2.1 hbd.2.2.2
                have HSu : Hid (∀ u : World, Calls Tryz.prog 87 #[.agg #[.int .i64 (LS j).1.1, .int .i64 (LS j).1.2], .agg #[.int .i64 (-(rP rate m).1), .int .i64 (rP rate m).2]] u fun e w' => e = .returned (.agg #[.int .i64 (LS (j + 1)).1.1, .int .i64 (LS (j + 1)).1.2]) ∧ Below u.heap.size u w') := fun u => by
                  rw [HN1.out]
                  exact Sum_any _ _ _ _ u lf1 hfn'
                have HN2 : Hid ((LS (j + 1)).2 = (LS j).2) := by show _ = _; rw [HN1.out]
                obtain ⟨x', y', HXY⟩ : ∃ x' y', Hid ((LS (j + 1)).1.1 = x' ∧ (LS (j + 1)).1.2 = y') := ⟨_, _, rfl, rfl⟩
                rw [HXY.out.1, HXY.out.2] at HSu
                have hgr : w.heap.size + 1 < wr.heap.size := M7.1.lt
                have hbu : bu < wr.heap.size := World.block_lt_of_cell? _ _ cu
                generalize (rP rate m).1 = t at *
                generalize (rP rate m).2 = bo at *
                generalize (LS j).1.1 = s1 at *
                generalize (LS j).1.2 = s2 at *
                clear hst fr hfn' hbd c1 c2 hcu hum hm' lf1 lf2 hd M7 HN1
                go_wp2_with fail
                go_region_law (first
                  | (go_simp; refine (HMi.out _).mono ?_; rintro e wn ⟨rfl, hwn⟩; have hrn := hr3.out.later (Bel.call (Below.refl _ wr).drew (Nat.le_refl _) hwn) hgs; have q0 := hrn.cell (i := 0) rfl; have q1 := hrn.cell (i := 1) rfl)
                  | (go_simp; refine (HSu.out _).mono ?_; rintro e wa ⟨rfl, hwa⟩; have hba : Below wr.heap.size wr wa := Bel.call (Bel.call (Below.refl _ wr).drew (Nat.le_refl _) hwn) (Nat.le_refl _) hwa; have hrw := hr3.out.later hba hgs; have e0 := hrw.cell (i := 0) rfl; have e1 := hrw.cell (i := 1) rfl; have e2 := hrw.frozen 0; have e3 := hrw.frozen 1))
                all_goals
                  have HR' : Hid (RowAt ((wa.setCell ⟨w6.heap.size, 0, none⟩ (.int .i64 x')).setCell ⟨w6.heap.size, 1, none⟩ (.int .i64 y')) w6.heap.size 58 [.int .i64 x', .int .i64 y']) := (hr3.out.later hba hgs).set2 _ _
                  have HB' : Hid (Below w6.heap.size w6 ((wa.setCell ⟨w6.heap.size, 0, none⟩ (.int .i64 x')).setCell ⟨w6.heap.size, 1, none⟩ (.int .i64 y'))) := ((hb3.out.trans (hba.mono (by omega))).setCell (by simp) _).setCell (by simp) _
                  clear hwn hwa hba hrn q0 q1 hrw e0 e1 e2 e3
                  go_wp2
                  go_roundw
                  case rel => exact ⟨j + 1, by omega, by rw [HN2.out], by go_num, by rw [HXY.out.1, HXY.out.2]; exact HR', HB'⟩
                  case measure => simp [intOf]; omega
              | false =>
                rw [hd] at hst cd
                simp only [Bool.false_eq_true, if_false] at hst
                have HN1 : Hid (LS (j + 1) = ((LS j).1, (LS j).2 + 1)) := hst
                have lf3' : (LS j).2 ≤ 6 := by omega
                clear hst hcu hum hm' lf1 lf2 hd M7
                go_wp2
                go_roundw
                case rel => exact ⟨j + 1, by omega, by rw [HN1.out]; go_num, by go_num, by rw [HN1.out]; exact hr3, hb3⟩
                case measure => simp [intOf]; omega
            · obtain rfl : j = us.length := by omega
              have B3r : Hid (Below w3.heap.size w3 wr) := B36.out.trans (hb3.out.mono B36.out.size)
              have Q2r : Hid (RowAt wr w3.heap.size 58 [.int .i64 (bestD (bestOf sh l)).1, .int .i64 (bestD (bestOf sh l)).2]) := Q26.out.later hb3.out Q26.out.lt
              have Q3r : Hid (RowAt wr gn 4 (boolsV ((List.range caps.length).map (narAt sh l)))) := Q36.out.later hb3.out Q36.out.lt
              by_cases hk0 : (LS us.length).2 = 0
              · have hsn : sh l = none := by rw [HSe.out, if_pos hk0]
                obtain ⟨bs1, bs2⟩ := best_skip hsn
                have HQ2 : Hid (RowAt wr w3.heap.size 58 [.int .i64 (bestD (bestOf sh (l + 1))).1, .int .i64 (bestD (bestOf sh (l + 1))).2]) := by rw [bs1]; exact Q2r
                have HQ3 : Hid (RowAt wr gn 4 (boolsV ((List.range caps.length).map (narAt sh (l + 1))))) := by rw [show narAt sh (l + 1) = narAt sh l from funext bs2]; exact Q3r
                rw [hk0]
                clear hk0 hsn bs1 bs2 m0 m1 f0 f1
                go_wp2
                go_roundw
                case rel => exact ⟨l + 1, gn, by omega, rfl, by go_num, hgn, B3r, HQ2, HQ3⟩
                case measure => simp [intOf]; omega
              · have hk6 : (LS us.length).2 ≤ 6 := by omega
                have hsz : sh l = some (partP (LS us.length).1 ((LS us.length).2 : Nat)) := by rw [HSe.out, if_neg hk0]
                obtain ⟨hpf, hp0⟩ := HRl.out _ hsz
                have hs2 : 1 ≤ (LS us.length).1.2 := (fault_0 lf1).1
                have hs1 := fault_0 lf1
                obtain ⟨kk, hkk⟩ : ∃ kk, (LS us.length).2 = kk := ⟨_, rfl⟩
                rw [hkk] at hk0 hk6 hsz hpf hp0 ⊢
                have hmul1 : 1 ≤ (LS us.length).1.2 * (kk : Int) := Int.mul_le_mul hs2 (show (1 : Int) ≤ (kk : Int) by omega) (by decide) (by omega)
                have hmul2 : (LS us.length).1.2 * (kk : Int) ≤ 46656 * 6 := Int.mul_le_mul lf2 (by omega) (by omega) (by decide)
                have HLw : Hid (∀ u : World, Calls Tryz.prog 25 #[.int .i64 (LS us.length).1.1, .int .i64 ((LS us.length).1.2 * (kk : Int))] u fun e w' => e = .returned (.agg #[.int .i64 (partP (LS us.length).1 (kk : Nat)).1, .int .i64 (partP (LS us.length).1 (kk : Nat)).2]) ∧ Below u.heap.size u w') := fun u => Low_any _ _ u (by omega) (by omega) (by omega) (by omega)
                generalize hpp : partP (LS us.length).1 ((kk : Nat) : Int) = pp at *
                obtain ⟨p1, p2⟩ := pp
                have hsr' : ∀ l' t, l' ≤ l → sh l' = some t → faultP t = 0 := fun l' t hl' ht => (HSR.out l' t (by omega) ht).1
                generalize (LS us.length).1.1 = s1 at *
                generalize (LS us.length).1.2 = s2 at *
                simp only at hp0
                clear hpp lf1 lf2 lf3 hkk
                have hbl := hb3.out.size
                go_wp2_with fail
                refine (HLw.out _).mono ?_
                rintro e w7 ⟨rfl, hw7⟩
                have w7a : RowAt w7 w6.heap.size 58 [.int .i64 s1, .int .i64 s2] := hr3.out.later hw7 hr3.out.lt
                have G7 : Hid (RowAt ((w7.setCell ⟨w6.heap.size, 0, none⟩ (.int .i64 p1)).setCell ⟨w6.heap.size, 1, none⟩ (.int .i64 p2)) w6.heap.size 58 [.int .i64 p1, .int .i64 p2]) := w7a.set2 _ _
                have h36 : w3.heap.size < w6.heap.size := Q26.out.lt
                have P70 : RowAt ((w7.setCell ⟨w6.heap.size, 0, none⟩ (.int .i64 p1)).setCell ⟨w6.heap.size, 1, none⟩ (.int .i64 p2)) w3.heap.size 58 [.int .i64 (bestD (bestOf sh l)).1, .int .i64 (bestD (bestOf sh l)).2] := ((Q2r.out.later hw7 Q2r.out.lt).other (by simp; omega) _).other (by simp; omega) _
                have hgn6 : gn < w6.heap.size := Q36.out.lt
                have N7 : Hid (RowAt ((w7.setCell ⟨w6.heap.size, 0, none⟩ (.int .i64 p1)).setCell ⟨w6.heap.size, 1, none⟩ (.int .i64 p2)) gn 4 (boolsV ((List.range caps.length).map (narAt sh l)))) := ((Q3r.out.later hw7 Q3r.out.lt).other (by simp; omega) _).other (by simp; omega) _
                have C7 : Hid (Below w3.heap.size w3 ((w7.setCell ⟨w6.heap.size, 0, none⟩ (.int .i64 p1)).setCell ⟨w6.heap.size, 1, none⟩ (.int .i64 p2))) := ((Bel.call B3r.out (Nat.le_refl _) hw7).setCell (by simp; omega) _).setCell (by simp; omega) _
                have v0 := w7a.cell (i := 0) rfl
                have v1 := w7a.cell (i := 1) rfl
                have v2 := w7a.frozen 0
                have v3 := w7a.frozen 1
                clear hw7 m0 m1 f0 f1
                cases hbo : bestOf sh l with
                | none =>
                  obtain ⟨bn1, bn2⟩ := best_new hsr' hsz (.inl hbo)
                  replace bn1 := (show Hid (bestOf sh (l + 1) = some (p1, p2)) from bn1)
                  replace bn2 := (show Hid (∀ i, narAt sh (l + 1) i = decide (i = l)) from bn2)
                  have P7 : Hid (RowAt ((w7.setCell ⟨w6.heap.size, 0, none⟩ (.int .i64 p1)).setCell ⟨w6.heap.size, 1, none⟩ (.int .i64 p2)) w3.heap.size 58 [.int .i64 (-1), .int .i64 1]) := by
                    have := P70
                    rw [hbo] at this
                    exact this
                  have b0' := P7.out.cell (i := 0) rfl
                  have b1' := P7.out.cell (i := 1) rfl
                  have HOr : Hid (∀ u : World, Calls Tryz.prog 57 #[.agg #[.int .i64 p1, .int .i64 p2], .agg #[.int .i64 (-1), .int .i64 1]] u fun e w' => e = .returned (.int .i64 (cmpI (p1 * 1) (-1 * p2))) ∧ Below u.heap.size u w') := fun u => Order_any _ _ _ _ u hpf (by decide)
                  generalize cmpI (p1 * 1) (-1 * p2) = o at *
                  clear hbo hsz P70 hsr' hpf hp0 w7a
                  go_wp2_with fail
                  refine (HOr.out _).mono ?_
                  rintro e w8 ⟨rfl, hw8⟩
                  have G8 : RowAt w8 w6.heap.size 58 [.int .i64 p1, .int .i64 p2] := G7.out.later hw8 G7.out.lt
                  have P8 : RowAt w8 w3.heap.size 58 [.int .i64 (-1), .int .i64 1] := P7.out.later hw8 P7.out.lt
                  have C8 : Hid (Below w3.heap.size w3 w8) := Bel.call C7.out (Nat.le_refl _) hw8
                  have a0 := G8.cell (i := 0) rfl
                  have a1' := G8.cell (i := 1) rfl
                  have b0 := P8.cell (i := 0) rfl
                  have b1 := P8.cell (i := 1) rfl
                  have b2 := P8.frozen 0
                  have b3 := P8.frozen 1
                  have HG8 : Hid (RowAt ((w8.setCell ⟨w3.heap.size, 0, none⟩ (.int .i64 p1)).setCell ⟨w3.heap.size, 1, none⟩ (.int .i64 p2)) w3.heap.size 58 [.int .i64 p1, .int .i64 p2]) := P8.set2 _ _
                  have C9 : Hid (Below w3.heap.size w3 ((w8.setCell ⟨w3.heap.size, 0, none⟩ (.int .i64 p1)).setCell ⟨w3.heap.size, 1, none⟩ (.int .i64 p2))) := (C8.out.setCell (by simp) _).setCell (by simp) _
                  have B9 : Hid (Below (w.heap.size + 1) (w.alloc (.cells #[.slice (some ⟨bc, oc, none⟩) caps.length cap1, .slice a2 paths.length cap2] 37)) ((w8.setCell ⟨w3.heap.size, 0, none⟩ (.int .i64 p1)).setCell ⟨w3.heap.size, 1, none⟩ (.int .i64 p2))) := Bel.call B3.out hNB.out C9.out
                  obtain ⟨n0, n1⟩ := HCW.out _ B9.out
                  obtain ⟨n0', n1'⟩ := HCW.out _ (Bel.call B3.out hNB.out C8.out)
                  have hs8 : w3.heap.size < w8.heap.size := P8.lt
                  clear hw8 G8 P8 n0 n1
                  go_wp2_with (at_make; go_must (refine wpList_make_full _ rfl _ _ 134 rfl (w3.heap.size + 1) 4 j0 (.bool false) 1 Tryz.underlying134 hJ hy0 hy1 .i64 .i64 _ _ caps.length rfl rfl rfl rfl ?b2 ?b3 ?b4 ?_))
                  case b2 => rw [hy2]; omega
                  case b3 => unfold maxLen; omega
                  case b4 => simp; omega
                  intro w9 hown9 hgrow9
                  have hown9' : w9.ownsRow (w3.heap.size + 1) 4 1 (.slice (some ⟨w8.heap.size, 0, none⟩) caps.length caps.length) caps.length (madeCells #[.bool false] caps.length).toList := by simpa using hown9
                  rw [made_bools] at hown9'
                  have R9 : RowAt w9 w8.heap.size 4 (boolsV (List.replicate caps.length false)) := RowAt.of_owns hown9'
                  have D9 : Below w8.heap.size ((w8.setCell ⟨w3.heap.size, 0, none⟩ (.int .i64 p1)).setCell ⟨w3.heap.size, 1, none⟩ (.int .i64 p2)) w9 := (Below.refl _ _).grown hgrow9 (by simp) (by intro k hk; cases hk)
                  have r0 := R9.cell (bools_cell (show l < (List.replicate caps.length false).length by simpa using hlt))
                  have r1 := R9.frozen l
                  have HR9 : Hid (RowAt (w9.setCell ⟨w8.heap.size, l, none⟩ (.bool true)) w8.heap.size 4 (boolsV ((List.range caps.length).map (narAt sh (l + 1))))) := by
                    show RowAt _ _ _ _
                    rw [nar_new bn2.out, boolsV_set]
                    exact R9.set l (.bool true)
                  have HB9 : Hid (RowAt (w9.setCell ⟨w8.heap.size, l, none⟩ (.bool true)) w3.heap.size 58 [.int .i64 (bestD (bestOf sh (l + 1))).1, .int .i64 (bestD (bestOf sh (l + 1))).2]) := by
                    show RowAt _ _ _ _
                    rw [bn1.out]
                    exact (HG8.out.later D9 hs8).other (by simp; omega) _
                  have HC9 : Hid (Below w3.heap.size w3 (w9.setCell ⟨w8.heap.size, l, none⟩ (.bool true))) := (C9.out.trans (D9.mono (by omega))).setCell (by simp; omega) _
                  have hg9 : Hid (w3.heap.size < w8.heap.size) := hs8
                  clear hown9 hown9' hgrow9 R9 D9 a0 a1' b0 b1 b2 b3 n0' n1'
                  go_wp2
                  go_roundw
                  case rel => exact ⟨l + 1, w8.heap.size, by omega, rfl, by go_num, hg9, HC9, HB9, HR9⟩
                  case measure => simp [intOf]; omega
                | some bq =>
                  obtain ⟨q1, q2⟩ := bq
                  obtain ⟨lq, hlq, hsq⟩ := best_mem _ _ hbo
                  obtain ⟨hqf, hq0⟩ := HSR.out lq _ (by omega) hsq
                  have P7 : Hid (RowAt ((w7.setCell ⟨w6.heap.size, 0, none⟩ (.int .i64 p1)).setCell ⟨w6.heap.size, 1, none⟩ (.int .i64 p2)) w3.heap.size 58 [.int .i64 q1, .int .i64 q2]) := by
                    have := P70
                    rw [hbo] at this
                    exact this
                  simp only at hq0
                  have b0' := P7.out.cell (i := 0) rfl
                  have b1' := P7.out.cell (i := 1) rfl
                  clear P70 hsq hlq
                  by_cases hc1 : p1 * q2 < q1 * p2
                  · skip
                    have HOr : Hid (∀ u : World, Calls Tryz.prog 57 #[.agg #[.int .i64 p1, .int .i64 p2], .agg #[.int .i64 q1, .int .i64 q2]] u fun e w' => e = .returned (.int .i64 (-1)) ∧ Below u.heap.size u w') := fun u => by
                      have := Order_any p1 p2 q1 q2 u hpf hqf
                      rw [show cmpI (p1 * q2) (q1 * p2) = -1 by unfold cmpI; rw [if_pos hc1]] at this
                      exact this
                    obtain ⟨bn1, bn2⟩ := best_new hsr' hsz (.inr ⟨_, hbo, hc1⟩)
                    replace bn1 := (show Hid (bestOf sh (l + 1) = some (p1, p2)) from bn1)
                    replace bn2 := (show Hid (∀ i, narAt sh (l + 1) i = decide (i = l)) from bn2)
                    clear hbo hsz hsr' hpf hp0 hqf hc1 w7a
                    go_wp2_with fail
                    refine (HOr.out _).mono ?_
                    rintro e w8 ⟨rfl, hw8⟩
                    have G8 : RowAt w8 w6.heap.size 58 [.int .i64 p1, .int .i64 p2] := G7.out.later hw8 G7.out.lt
                    have P8 : RowAt w8 w3.heap.size 58 [.int .i64 q1, .int .i64 q2] := P7.out.later hw8 P7.out.lt
                    have C8 : Hid (Below w3.heap.size w3 w8) := Bel.call C7.out (Nat.le_refl _) hw8
                    have a0 := G8.cell (i := 0) rfl
                    have a1' := G8.cell (i := 1) rfl
                    have b0 := P8.cell (i := 0) rfl
                    have b1 := P8.cell (i := 1) rfl
                    have b2 := P8.frozen 0
                    have b3 := P8.frozen 1
                    have HG8 : Hid (RowAt ((w8.setCell ⟨w3.heap.size, 0, none⟩ (.int .i64 p1)).setCell ⟨w3.heap.size, 1, none⟩ (.int .i64 p2)) w3.heap.size 58 [.int .i64 p1, .int .i64 p2]) := P8.set2 _ _
                    have C9 : Hid (Below w3.heap.size w3 ((w8.setCell ⟨w3.heap.size, 0, none⟩ (.int .i64 p1)).setCell ⟨w3.heap.size, 1, none⟩ (.int .i64 p2))) := (C8.out.setCell (by simp) _).setCell (by simp) _
                    have B9 : Hid (Below (w.heap.size + 1) (w.alloc (.cells #[.slice (some ⟨bc, oc, none⟩) caps.length cap1, .slice a2 paths.length cap2] 37)) ((w8.setCell ⟨w3.heap.size, 0, none⟩ (.int .i64 p1)).setCell ⟨w3.heap.size, 1, none⟩ (.int .i64 p2))) := Bel.call B3.out hNB.out C9.out
                    obtain ⟨n0, n1⟩ := HCW.out _ B9.out
                    obtain ⟨n0', n1'⟩ := HCW.out _ (Bel.call B3.out hNB.out C8.out)
                    have hs8 : w3.heap.size < w8.heap.size := P8.lt
                    clear hw8 G8 P8 n0 n1
                    go_wp2_with (at_make; go_must (refine wpList_make_full _ rfl _ _ 134 rfl (w3.heap.size + 1) 4 j0 (.bool false) 1 Tryz.underlying134 hJ hy0 hy1 .i64 .i64 _ _ caps.length rfl rfl rfl rfl ?b2 ?b3 ?b4 ?_))
                    case b2 => rw [hy2]; omega
                    case b3 => unfold maxLen; omega
                    case b4 => simp; omega
                    intro w9 hown9 hgrow9
                    have hown9' : w9.ownsRow (w3.heap.size + 1) 4 1 (.slice (some ⟨w8.heap.size, 0, none⟩) caps.length caps.length) caps.length (madeCells #[.bool false] caps.length).toList := by simpa using hown9
                    rw [made_bools] at hown9'
                    have R9 : RowAt w9 w8.heap.size 4 (boolsV (List.replicate caps.length false)) := RowAt.of_owns hown9'
                    have D9 : Below w8.heap.size ((w8.setCell ⟨w3.heap.size, 0, none⟩ (.int .i64 p1)).setCell ⟨w3.heap.size, 1, none⟩ (.int .i64 p2)) w9 := (Below.refl _ _).grown hgrow9 (by simp) (by intro k hk; cases hk)
                    have r0 := R9.cell (bools_cell (show l < (List.replicate caps.length false).length by simpa using hlt))
                    have r1 := R9.frozen l
                    have HR9 : Hid (RowAt (w9.setCell ⟨w8.heap.size, l, none⟩ (.bool true)) w8.heap.size 4 (boolsV ((List.range caps.length).map (narAt sh (l + 1))))) := by
                      show RowAt _ _ _ _
                      rw [nar_new bn2.out, boolsV_set]
                      exact R9.set l (.bool true)
                    have HB9 : Hid (RowAt (w9.setCell ⟨w8.heap.size, l, none⟩ (.bool true)) w3.heap.size 58 [.int .i64 (bestD (bestOf sh (l + 1))).1, .int .i64 (bestD (bestOf sh (l + 1))).2]) := by
                      show RowAt _ _ _ _
                      rw [bn1.out]
                      exact (HG8.out.later D9 hs8).other (by simp; omega) _
                    have HC9 : Hid (Below w3.heap.size w3 (w9.setCell ⟨w8.heap.size, l, none⟩ (.bool true))) := (C9.out.trans (D9.mono (by omega))).setCell (by simp; omega) _
                    have hg9 : Hid (w3.heap.size < w8.heap.size) := hs8
                    clear hown9 hown9' hgrow9 R9 D9 a0 a1' b0 b1 b2 b3 n0' n1'
                    go_wp2
                    go_roundw
                    case rel => exact ⟨l + 1, w8.heap.size, by omega, rfl, by go_num, hg9, HC9, HB9, HR9⟩
                    case measure => simp [intOf]; omega
                  · by_cases hc2 : q1 * p2 < p1 * q2
                    · skip
                      have HOr : Hid (∀ u : World, Calls Tryz.prog 57 #[.agg #[.int .i64 p1, .int .i64 p2], .agg #[.int .i64 q1, .int .i64 q2]] u fun e w' => e = .returned (.int .i64 1) ∧ Below u.heap.size u w') := fun u => by
                        have := Order_any p1 p2 q1 q2 u hpf hqf
                        rw [show cmpI (p1 * q2) (q1 * p2) = 1 by unfold cmpI; rw [if_neg hc1, if_pos hc2]] at this
                        exact this
                      obtain ⟨bn1, bn2⟩ := best_more hsz hbo hc2
                      replace bn1 := (show Hid (bestOf sh (l + 1) = some (q1, q2)) from bn1)
                      replace bn2 := (show Hid (∀ i, narAt sh (l + 1) i = narAt sh l i) from bn2)
                      clear hbo hsz hsr' hpf hp0 hqf hc1 hc2 w7a
                      go_wp2_with fail
                      refine (HOr.out _).mono ?_
                      rintro e w8 ⟨rfl, hw8⟩
                      have C8 : Hid (Below w3.heap.size w3 w8) := Bel.call C7.out (Nat.le_refl _) hw8
                      have P8 : RowAt w8 w3.heap.size 58 [.int .i64 q1, .int .i64 q2] := P7.out.later hw8 P7.out.lt
                      have N8 : RowAt w8 gn 4 (boolsV ((List.range caps.length).map (narAt sh l))) := N7.out.later hw8 N7.out.lt
                      have b0 := P8.cell (i := 0) rfl
                      have HR9 : Hid (RowAt w8 gn 4 (boolsV ((List.range caps.length).map (narAt sh (l + 1))))) := by
                        show RowAt _ _ _ _
                        rw [show narAt sh (l + 1) = narAt sh l from funext bn2.out]
                        exact N8
                      have HB9 : Hid (RowAt w8 w3.heap.size 58 [.int .i64 (bestD (bestOf sh (l + 1))).1, .int .i64 (bestD (bestOf sh (l + 1))).2]) := by
                        show RowAt _ _ _ _
                        rw [bn1.out]
                        exact P8
                      clear hw8 P8 N8
                      go_wp2
                      go_roundw
                      case rel => exact ⟨l + 1, gn, by omega, rfl, by go_num, hgn, C8, HB9, HR9⟩
                      case measure => simp [intOf]; omega
                    · skip
                      have HOr : Hid (∀ u : World, Calls Tryz.prog 57 #[.agg #[.int .i64 p1, .int .i64 p2], .agg #[.int .i64 q1, .int .i64 q2]] u fun e w' => e = .returned (.int .i64 0) ∧ Below u.heap.size u w') := fun u => by
                        have := Order_any p1 p2 q1 q2 u hpf hqf
                        rw [show cmpI (p1 * q2) (q1 * p2) = 0 by unfold cmpI; rw [if_neg hc1, if_neg (by omega)]] at this
                        exact this
                      have hpq : (p1, p2) = (q1, q2) := val_inj' hpf hqf (Rat.le_antisymm ((cross (a := (p1, p2)) (b := (q1, q2)) (fault_pos hpf) (fault_pos hqf)).2 (by show p1 * q2 ≤ q1 * p2; omega)) ((cross (a := (q1, q2)) (b := (p1, p2)) (fault_pos hqf) (fault_pos hpf)).2 (by show q1 * p2 ≤ p1 * q2; omega)))
                      obtain ⟨bn1, bn2⟩ := best_same (s := (q1, q2)) (by rw [hsz, hpq]) hbo
                      replace bn1 := (show Hid (bestOf sh (l + 1) = some (q1, q2)) from bn1)
                      replace bn2 := (show Hid (∀ i, narAt sh (l + 1) i = (narAt sh l i || decide (i = l))) from bn2)
                      clear hbo hsz hsr' hpf hp0 hqf hc1 hc2 w7a hpq
                      go_wp2_with fail
                      refine (HOr.out _).mono ?_
                      rintro e w8 ⟨rfl, hw8⟩
                      have C8 : Hid (Below w3.heap.size w3 w8) := Bel.call C7.out (Nat.le_refl _) hw8
                      have P8 : RowAt w8 w3.heap.size 58 [.int .i64 q1, .int .i64 q2] := P7.out.later hw8 P7.out.lt
                      have N8 : RowAt w8 gn 4 (boolsV ((List.range caps.length).map (narAt sh l))) := N7.out.later hw8 N7.out.lt
                      have b0 := P8.cell (i := 0) rfl
                      have r0 := N8.cell (bools_cell (show l < ((List.range caps.length).map (narAt sh l)).length by simpa using hlt))
                      have r1 := N8.frozen l
                      have HR9 : Hid (RowAt (w8.setCell ⟨gn, l, none⟩ (.bool true)) gn 4 (boolsV ((List.range caps.length).map (narAt sh (l + 1))))) := by
                        show RowAt _ _ _ _
                        rw [nar_same bn2.out, boolsV_set]
                        exact N8.set l (.bool true)
                      have HB9 : Hid (RowAt (w8.setCell ⟨gn, l, none⟩ (.bool true)) w3.heap.size 58 [.int .i64 (bestD (bestOf sh (l + 1))).1, .int .i64 (bestD (bestOf sh (l + 1))).2]) := by
                        show RowAt _ _ _ _
                        rw [bn1.out]
                        exact P8.other (by have := hgn.out; simp; omega) _
                      have HC9 : Hid (Below w3.heap.size w3 (w8.setCell ⟨gn, l, none⟩ (.bool true))) := C8.out.setCell (by have := hgn.out; simp; omega) _
                      clear hw8 P8 N8
                      go_wp2
                      go_roundw
                      case rel => exact ⟨l + 1, gn, by omega, rfl, by go_num, hgn, HC9, HB9, HR9⟩
                      case measure => simp [intOf]; omega
        · obtain rfl : l = caps.length := by omega
          have Q2 : Hid (RowAt wr w3.heap.size 58 [.int .i64 bst.1, .int .i64 bst.2]) := by
            have := hq2.out
            rw [HBS.out] at this
            exact this
          have HNR : Hid (∀ f, f < paths.length → ∀ x ∈ paths.getD f [], 0 ≤ x ∧ x < caps.length) := fun f hf x hx => (HG.out.2.1 _ (getD_mem paths f hf [])).2 x hx
          have HRE : Hid (roundTo paths done (narAt sh caps.length) paths.length = roundOf paths done (narAt sh caps.length)) := roundTo_all _ _ _
          have HR0 : Hid (roundTo paths done (narAt sh caps.length) 0 = []) := rfl
          have HRS : Hid (∀ k, roundTo paths done (narAt sh caps.length) (k + 1) = roundTo paths done (narAt sh caps.length) k ++ (if (!dB done k && (paths.getD k []).any fun x => narAt sh caps.length x.toNat) = true then [(k : Int)] else [])) := fun k => round_step paths done _ k
          have HRL : Hid (∀ k, (roundTo paths done (narAt sh caps.length) k).length ≤ k) := fun k => roundTo_length _ _ _ k
          have HRM : Hid (∀ u ∈ roundOf paths done (narAt sh caps.length), ∃ f : Nat, u = f ∧ f < paths.length) := fun u hu => round_nat hu
          generalize roundOf paths done (narAt sh caps.length) = rd at *
          generalize roundTo paths done (narAt sh caps.length) = rt at *
          generalize narAt sh caps.length = nar at *
          have B10 : Hid (Below w.heap.size w wr) := HBW.out _ BQ.out
          have hs10 : w3.heap.size < wr.heap.size := hq2.out.lt
          have hdw3 : w1.heap.size < w3.heap.size := M3.out.2.1.lt
          have hrw3 : w.heap.size + 1 < w3.heap.size := M3.out.1.lt
          have hgnl : gn < wr.heap.size := hq3.out.lt
          obtain ⟨w10, rfl⟩ : ∃ w10, w10 = wr := ⟨_, rfl⟩
          go_wp2
          go_loopw [16, 17] (fun s16 s17 wq => ∃ f : Nat, f ≤ paths.length ∧ s17 = .int .i64 f ∧ Hid (wq.ownsRow w10.heap.size 3 1 s16 (rt f).length ((rt f).map (Value.int .i64))) ∧ Hid (Below w10.heap.size w10 wq)) (fun _ s17 _ => paths.length - (intOf s17).toNat)
          case atStart => exact ⟨0, by omega, rfl, by rw [HR0.out]; exact World.ownsRow_nil _ _ _ _, Below.refl _ _⟩
          case round =>
            obtain ⟨f, hf, rfl, ho, hb⟩ := hrel
            have BF : Hid (Below (w.heap.size + 1) (w.alloc (.cells #[.slice a1 caps.length cap1, .slice a2 paths.length cap2] 37)) wr) := Bel.call BQ.out hNB.out hb.out
            clear g0 g1
            obtain ⟨g0, g1⟩ := HCW.out _ BF.out
            have hsf : w10.heap.size ≤ wr.heap.size := hb.out.size
            by_cases hfl : f < paths.length
            · obtain ⟨bp, op, capp, x, e, hcp⟩ := HPp.out f hfl
              simp only [Value.slice.injEq] at e
              obtain ⟨rfl, _, rfl⟩ := e
              obtain ⟨cx, hxi⟩ := hcp _ (HBW.out _ BF.out)
              have HPB := HNR.out f hfl
              have hst := HRS.out f
              have hrl := HRL.out f
              generalize paths.getD f [] = pf at *
              obtain ⟨ax, capx, rfl, ⟨hmx, hnx⟩, hxi⟩ := hxi
              have HXC : Hid (∀ i, i < pf.length → ∃ b off, ax = some ⟨b, off, none⟩ ∧ wr.cell? ⟨b, off + i, none⟩ = some (.int .i64 (pf.getD i 0))) := by
                intro i hi
                rcases hxi with rfl | ⟨b, off, rfl, hc, _⟩
                · simp at hi
                · exact ⟨b, off, rfl, hc i hi⟩
              have HNC : Hid (∀ y : Nat, y < caps.length → wr.cell? ⟨gn, y, none⟩ = some (.bool (nar y))) := fun y hy => by
                have := (hq3.out.later hb.out hgnl).cell (bools_cell (show y < ((List.range caps.length).map nar).length by simpa using hy))
                rw [dB_map nar hy] at this
                exact this
              have HST : Hid (rt (f + 1) = rt f ++ (if (!dB done f && pf.any fun x => nar x.toNat) = true then [(f : Int)] else [])) := hst
              have HPb : Hid (∀ x ∈ pf, 0 ≤ x ∧ x < caps.length) := HPB
              have cdn := ((mem_later M3.out (Bel.call hq1.out (Nat.le_refl _) hb.out)).2.1).cell (bools_cell (show f < done.length by omega))
              generalize dB done f = df at *
              clear hcp hxi hst HPB
              go_wp2
              go_loop [18, 19] (fun s18 s19 => ∃ i : Nat, i ≤ pf.length ∧ s19 = .int .i64 i ∧ s18 = .bool ((pf.take i).any fun x => nar x.toNat)) (fun _ s19 => pf.length - (intOf s19).toNat)
              case atStart => exact ⟨0, by omega, rfl, rfl⟩
              case round =>
                obtain ⟨i, hi5, rfl, rfl⟩ := hrel
                by_cases hil : i < pf.length
                · obtain ⟨bx, ox, rfl, cxi⟩ := HXC.out i hil
                  have hpb := HPb.out _ (getD_mem pf i hil 0)
                  obtain ⟨y, hy⟩ : ∃ y : Nat, pf.getD i 0 = y := ⟨(pf.getD i 0).toNat, by omega⟩
                  have hyl : y < caps.length := by omega
                  have cn := HNC.out y hyl
                  have hat : Hid ((pf.take (i + 1)).any (fun x => nar x.toNat) = ((pf.take i).any (fun x => nar x.toNat) || nar y)) := by
                    show _ = _
                    rw [any_take pf _ i hil, hy]; simp
                  rw [hy] at cxi
                  generalize hov : (pf.take i).any (fun x => nar x.toNat) = ov at *
                  clear hpb hy hov
                  cases ov with
                  | true =>
                    go_wp2
                    go_round
                    case rel => exact ⟨i + 1, by omega, by go_num, by rw [hat.out]; rfl⟩
                    case measure => simp [intOf]; omega
                  | false =>
                    go_wp2
                    go_round
                    case rel => exact ⟨i + 1, by omega, by go_num, by rw [hat.out]; rfl⟩
                    case measure => simp [intOf]; omega
                · obtain rfl : i = pf.length := by omega
                  rw [List.take_of_length_le (Nat.le_refl _)]
                  generalize pf.any (fun x => nar x.toNat) = ov at *
                  by_cases hap : ov = true ∧ df = false
                  · obtain ⟨rfl, rfl⟩ := hap
                    have HS2 : Hid (rt (f + 1) = rt f ++ [(f : Int)]) := HST.out
                    clear HST
                    go_wp2_with (at_builtin; go_must (refine wpList_append_own _ rfl (.tmp 148) (.tmp 150) 22 rfl w10.heap.size 3 k0 (.int .i64 0) 1 8 Tryz.underlying22 hKI hx0 hx1 hx2 rfl (by decide) _ _ _ rfl (ho.out.alloc _) ⟨wr.heap.size, 0, none⟩ 1 1 [.int .i64 f] rfl rfl (cell_one_new _ _ _) (by intro u hu; simp at hu; subst hu; rfl) (by unfold maxLen; omega) (by omega) (by simp; omega) ?_))
                    intro v' wg hown' hgrow _
                    have R1 : Hid (Below w10.heap.size w10 wg) := rel_append hb.out hsf ho.out hgrow
                    have R2 : Hid (wg.ownsRow w10.heap.size 3 1 v' (rt (f + 1)).length ((rt (f + 1)).map (Value.int .i64))) := by
                      show World.ownsRow _ _ _ _ _ _ _
                      rw [HS2.out]
                      simpa using hown'
                    clear hown' hgrow
                    go_wp2
                    go_roundw
                    case rel => exact ⟨f + 1, by omega, by go_num, R2, R1⟩
                    case measure => simp [intOf]; omega
                  · have HS2 : Hid (rt (f + 1) = rt f) := by
                      show _ = _
                      rw [HST.out]
                      cases ov <;> cases df <;> simp_all
                    clear HST
                    cases ov with
                    | false =>
                      go_wp2
                      go_roundw
                      case rel => exact ⟨f + 1, by omega, by go_num, by rw [HS2.out]; exact ho, hb⟩
                      case measure => simp [intOf]; omega
                    | true =>
                      obtain rfl : df = true := by
                        cases df with
                        | true => rfl
                        | false => exact absurd ⟨rfl, rfl⟩ hap
                      clear hap
                      go_wp2
                      go_roundw
                      case rel => exact ⟨f + 1, by omega, by go_num, by rw [HS2.out]; exact ho, hb⟩
                      case measure => simp [intOf]; omega
            · obtain rfl : f = paths.length := by omega
              have HO : Hid (wr.ownsRow w10.heap.size 3 1 u16 rd.length (rd.map (Value.int .i64))) := by
                have := ho.out
                rw [HRE.out] at this
                exact this
              have hrdl : rd.length ≤ 6 := by
                have := HRL.out paths.length
                rw [HRE.out] at this
                omega
              obtain ⟨gR, capR, rfl, hgR⟩ : ∃ gR capR, u16 = .slice (some ⟨gR, 0, none⟩) rd.length capR ∧ w10.heap.size ≤ gR := by
                rcases HO.out.2 with ⟨_, h0⟩ | ⟨g, cap, cur, e, hb', _⟩
                · exact absurd (List.eq_nil_of_length_eq_zero h0) hrne
                · exact ⟨g, cap, e, hb'⟩
              have XR : Hid (IntsAt (fun b => w10.heap.size ≤ b) wr (.slice (some ⟨gR, 0, none⟩) rd.length capR) rd) := ints_of_owns (by omega) HO.out (fun g hg => hg)
              have HRC : Hid (∀ i, i < rd.length → wr.cell? ⟨gR, i, none⟩ = some (.int .i64 (rd.getD i 0))) := by
                intro i hi
                obtain ⟨a, cap, e, _, hc⟩ := XR.out
                simp only [Value.slice.injEq] at e
                obtain ⟨rfl, _, rfl⟩ := e
                rcases hc with hc | ⟨b, off, e, hc, _⟩
                · rw [hc] at hi; simp at hi
                · simp only [Option.some.injEq, Addr.mk.injEq, and_true] at e
                  obtain ⟨rfl, rfl⟩ := e
                  have := hc i hi
                  simpa using this
              have M11 : Hid (FillMem (w.heap.size + 1) w1.heap.size wr u6 rate done acc) := mem_later M3.out (Bel.call hq1.out (Nat.le_refl _) hb.out)
              have Q11 : Hid (RowAt wr w3.heap.size 58 [.int .i64 bst.1, .int .i64 bst.2]) := Q2.out.later hb.out hs10
              have hs11 : w10.heap.size ≤ wr.heap.size := hb.out.size
              have RT0 : Hid (RowAt wr (w.heap.size + 1) 58 (flat (setRate rate (rd.take 0) bst))) := by
                show RowAt _ _ _ _
                rw [List.take_zero, setRate_nil]; exact M11.out.1
              have DN0 : Hid (RowAt wr w1.heap.size 4 (boolsV (setDone done (rd.take 0)))) := by
                show RowAt _ _ _ _
                rw [List.take_zero, setDone_nil]; exact M11.out.2.1
              obtain ⟨w11, rfl⟩ : ∃ w11, w11 = wr := ⟨_, rfl⟩
              obtain ⟨bt1, bt2⟩ := bst
              clear ho
              go_wp2
              go_loopw [20] (fun s20 wq => ∃ i : Nat, i ≤ rd.length ∧ s20 = .int .i64 i ∧ Hid (RowAt wq (w.heap.size + 1) 58 (flat (setRate rate (rd.take i) (bt1, bt2)))) ∧ Hid (RowAt wq w1.heap.size 4 (boolsV (setDone done (rd.take i)))) ∧ Hid (wq.heap.size = w11.heap.size ∧ ∀ g, g ≠ w.heap.size + 1 → g ≠ w1.heap.size → wq.heap[g]? = w11.heap[g]?) ∧ Hid (Below (w.heap.size + 1) (w.alloc (.cells #[.slice a1 caps.length cap1, .slice a2 paths.length cap2] 37)) wq)) (fun s20 _ => rd.length - (intOf s20).toNat)
              case atStart => exact ⟨0, by omega, rfl, RT0, DN0, ⟨rfl, fun _ _ _ => rfl⟩, BF⟩
              case round =>
                obtain ⟨i, hi6, rfl, hrt, hdn, hke, hbw⟩ := hrel
                by_cases hil : i < rd.length
                · obtain ⟨m, hm1', hm2'⟩ := HRM.out _ (getD_mem rd i hil 0)
                  have cR : wr.cell? ⟨gR, i, none⟩ = some (.int .i64 m) := by
                    rw [World.cell?_of_block (w := w11) (a := ⟨gR, i, none⟩) (hke.out.2 gR (by omega) (by omega)), HRC.out i hil, hm1']
                  have Q12 := Q11.out.keep (hke.out.2 w3.heap.size (by omega) (by omega))
                  have cb0 := Q12.cell (i := 0) rfl
                  have cb1 := Q12.cell (i := 1) rfl
                  have cd0 := hdn.out.cell (bools_cell (show m < (setDone done (rd.take i)).length by simp [setDone]; omega))
                  have cd1 := hdn.out.frozen m
                  obtain ⟨e1, e2⟩ := flat_cells (rate := setRate rate (rd.take i) (bt1, bt2)) (show m < (setRate rate (rd.take i) (bt1, bt2)).length by simp [setRate]; omega)
                  have cr0 := hrt.out.cell e1
                  have cr1 := hrt.out.cell e2
                  have cr2 := hrt.out.frozen (m * 2)
                  have cr3 := hrt.out.frozen (m * 2 + 1)
                  have n1 : ¬ w1.heap.size = gR := by omega
                  have n2 : ¬ w1.heap.size = w3.heap.size := by omega
                  have n3 : ¬ w1.heap.size = w.heap.size + 1 := by omega
                  have n4 : ¬ w.heap.size + 1 = gR := by omega
                  have n5 : ¬ w.heap.size + 1 = w3.heap.size := by omega
                  clear e1 e2 Q12
                  go_wp2_with fail
                  go_region
                  have HRT' : Hid (RowAt ((((wr.setCell ⟨w1.heap.size, m, none⟩ (.bool true)).setCell ⟨w.heap.size + 1, m * 2, none⟩ (.int .i64 bt1)).setCell ⟨w.heap.size + 1, m * 2 + 1, none⟩ (.int .i64 bt2)).drew) (w.heap.size + 1) 58 (flat (setRate rate (rd.take (i + 1)) (bt1, bt2)))) := by
                    show RowAt _ _ _ _
                    rw [setRate_step hil hm1' (by omega), flat_set]
                    exact (((hrt.out.other (a := ⟨w1.heap.size, m, none⟩) n3 (.bool true)).set (m * 2) (.int .i64 bt1)).set (m * 2 + 1) (.int .i64 bt2))
                  have HDN' : Hid (RowAt ((((wr.setCell ⟨w1.heap.size, m, none⟩ (.bool true)).setCell ⟨w.heap.size + 1, m * 2, none⟩ (.int .i64 bt1)).setCell ⟨w.heap.size + 1, m * 2 + 1, none⟩ (.int .i64 bt2)).drew) w1.heap.size 4 (boolsV (setDone done (rd.take (i + 1))))) := by
                    show RowAt _ _ _ _
                    rw [setDone_step hil hm1' (by omega), boolsV_set]
                    exact (((hdn.out.set m (.bool true)).other (a := ⟨w.heap.size + 1, m * 2, none⟩) (fun e => n3 e.symm) (.int .i64 bt1)).other (a := ⟨w.heap.size + 1, m * 2 + 1, none⟩) (fun e => n3 e.symm) (.int .i64 bt2))
                  have HKE' : Hid (((((wr.setCell ⟨w1.heap.size, m, none⟩ (.bool true)).setCell ⟨w.heap.size + 1, m * 2, none⟩ (.int .i64 bt1)).setCell ⟨w.heap.size + 1, m * 2 + 1, none⟩ (.int .i64 bt2)).drew).heap.size = w11.heap.size ∧ ∀ g, g ≠ w.heap.size + 1 → g ≠ w1.heap.size → ((((wr.setCell ⟨w1.heap.size, m, none⟩ (.bool true)).setCell ⟨w.heap.size + 1, m * 2, none⟩ (.int .i64 bt1)).setCell ⟨w.heap.size + 1, m * 2 + 1, none⟩ (.int .i64 bt2)).drew).heap[g]? = w11.heap[g]?) := by
                    refine ⟨by have := hke.out.1; simpa using this, fun g h1 h2 => ?_⟩
                    rw [← hke.out.2 g h1 h2]
                    exact ((Below.heap_setCell _ ⟨w.heap.size + 1, m * 2 + 1, none⟩ (.int .i64 bt2) g h1).trans (Below.heap_setCell _ ⟨w.heap.size + 1, m * 2, none⟩ (.int .i64 bt1) g h1)).trans (Below.heap_setCell _ ⟨w1.heap.size, m, none⟩ (.bool true) g h2)
                  have HBW' : Hid (Below (w.heap.size + 1) (w.alloc (.cells #[.slice a1 caps.length cap1, .slice a2 paths.length cap2] 37)) ((((wr.setCell ⟨w1.heap.size, m, none⟩ (.bool true)).setCell ⟨w.heap.size + 1, m * 2, none⟩ (.int .i64 bt1)).setCell ⟨w.heap.size + 1, m * 2 + 1, none⟩ (.int .i64 bt2)).drew)) := (((hbw.out.setCell (by simp; omega) _).setCell (by simp) _).setCell (by simp) _).drew
                  clear cR cb0 cb1 cd0 cd1 cr0 cr1 cr2 cr3
                  go_wp2
                  go_roundw
                  case rel => exact ⟨i + 1, by omega, by go_num, HRT', HDN', HKE', HBW'⟩
                  case measure => simp [intOf]; omega
                · obtain rfl : i = rd.length := by omega
                  have RTe : Hid (RowAt wr (w.heap.size + 1) 58 (flat (setRate rate rd (bt1, bt2)))) := by
                    have := hrt.out
                    rw [List.take_of_length_le (Nat.le_refl _)] at this
                    exact this
                  have DNe : Hid (RowAt wr w1.heap.size 4 (boolsV (setDone done rd))) := by
                    have := hdn.out
                    rw [List.take_of_length_le (Nat.le_refl _)] at this
                    exact this
                  obtain ⟨_, _, vs, hov, hvv⟩ := M11.out
                  have hvs : vs.length = acc.length := by have := hov.1; omega
                  have HV6 : Hid (∀ b, w3.heap.size ≤ b → Value.ownBlock u6 ≠ some b) := by
                    intro b hb' e
                    obtain ⟨_, _, vs3, ho3, _⟩ := M3.out
                    have := (ho3.lt b e).2
                    omega
                  have HOv : Hid (wr.ownsRow (w1.heap.size + 1) 22 1 u6 acc.length vs) := owns_keep (fun g h1 h2 => hke.out.2 g (by omega) (by omega)) hov
                  have HVv : Hid (∀ i, i < acc.length → IntsAt (fun b => w1.heap.size < b ∧ Value.ownBlock u6 ≠ some b) wr (vs.getD i undef) (acc.getD i [])) := fun i hi => (hvv i hi).keep (fun b hb' _ => hke.out.2 b (by omega) (by omega)) (fun b hb' _ => hb')
                  have HNw : Hid (IntsAt (fun b => w1.heap.size < b ∧ Value.ownBlock u6 ≠ some b) wr (.slice (some ⟨gR, 0, none⟩) rd.length capR) rd) := XR.out.keep (fun b hb' _ => hke.out.2 b (by omega) (by omega)) (fun b hb' _ => ⟨by omega, HV6.out b (by omega)⟩)
                  have hacc : acc.length + 1 ≤ 6 := by
                    have := fillAt_acc HG.out HNX.out
                    simp only [List.length_append, List.length_cons, List.length_nil] at this
                    omega
                  have hszr : w1.heap.size + 1 ≤ wr.heap.size := by have := hke.out.1; omega
                  clear hov hvv
                  go_wp2_with (at_builtin; go_must (refine wpList_append_own_at _ rfl (.tmp 171) (.tmp 173) 23 rfl (w1.heap.size + 1) 22 mI (.slice none 0 0) 1 24 Tryz.underlying23 hMI hv0 hv1 hv2 rfl (by decide) _ _ _ rfl (HOv.out.alloc _) ⟨wr.heap.size, 0, none⟩ 1 1 [.slice (some ⟨gR, 0, none⟩) rd.length capR] rfl rfl (cell_one_new _ _ _) (by intro u hu; simp at hu; subst hu; rfl) (by unfold maxLen; omega) (by omega) (by simp; omega) ?_))
                  intro v' w13 hown' hgrow _ hat
                  have HB13 : Below (w1.heap.size + 1) wr w13 := rel_append (Below.refl _ _) hszr HOv.out hgrow
                  have HM13 : Hid (FillMem (w.heap.size + 1) w1.heap.size w13 v' (setRate rate rd (bt1, bt2)) (setDone done rd) (acc ++ [rd])) := mem_append RTe.out DNe.out (by omega) HVv.out HNw.out hvs hown' hgrow (by simpa using hat) HB13
                  have HW13 : Hid (Below (w.heap.size + 1) (w.alloc (.cells #[.slice a1 caps.length cap1, .slice a2 paths.length cap2] 37)) w13) := hbw.out.trans (HB13.mono (by omega))
                  have HF13 : Hid (freeN paths (setDone done rd) + rd.length = freeN paths done) := HFS
                  have hfr : rd.length ≤ freeN paths done := by have := HFS.out; omega
                  have hrd0 : 0 < rd.length := List.length_pos_iff.2 hrne
                  clear hown' hgrow hat HB13
                  go_wp2
                  go_roundw
                  case rel => exact ⟨_, _, _, by have := HF13.out; congr 1; omega, HW13, HM13, HNX⟩
                  case measure => simp [intOf]; omega
end Fl
end Go.Proofs.YtpnmmmlckdkcdakGreatDoor
