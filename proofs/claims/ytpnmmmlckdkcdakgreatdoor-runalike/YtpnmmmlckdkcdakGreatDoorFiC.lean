/- Package fill's share: what a link takes, less the rates of those over it that are not free, by how many are. -/
import Derived.Test.YtpnmmmlckdkcdakGreatDoorFiB
import Derived.Test.YtpnmmmlckdkcdakGreatDoorFracAll
import Derived.Deep.DeepCutAuto
namespace Go.Proofs.YtpnmmmlckdkcdakGreatDoor
namespace Fl
open Go.RowKit Fr Ns Ld
set_option linter.unusedSimpArgs false
set_option linter.unusedVariables false

set_option maxRecDepth 100000 in
set_option maxHeartbeats 4000000 in
theorem share_any (caps : List Int) (paths : List (List Int)) (rate : List (Int × Int)) (done : List Bool) (gF gf gr : Nat) (v : Value) (w : World) (l kk : Nat) (h : FillW caps paths rate done gF gf gr v w) (hld : done.length = paths.length) (hlr : rate.length = paths.length) (h6 : paths.length ≤ 6)
    (hl : l < caps.length) (hLf : ∀ k, k ≤ paths.length → faultP (linkTo caps paths rate done l k).1 = 0) (hRR : ∀ f, f < paths.length → dB done f = true → faultP (rP rate f) = 0) (hk1 : 1 ≤ kk) (hk6 : kk ≤ 6) (hp : faultP (partP (linkTo caps paths rate done l paths.length).1 (kk : Int)) = 0) :
    Calls Tryz.prog 154 #[.pointer (some ⟨gF, 0, none⟩), .int .i64 l, .int .i64 kk] w fun e w' => e = .returned (.tuple #[.agg #[.int .i64 (partP (linkTo caps paths rate done l paths.length).1 (kk : Int)).1, .int .i64 (partP (linkTo caps paths rate done l paths.length).1 (kk : Int)).2], .nilIface]) ∧ Below w.heap.size w w' := by
  obtain ⟨a1, cap1, a2, cap2, rfl, ⟨hm1, hn1⟩, ⟨hm2, hn2⟩, ⟨z1, z2, z3⟩, HF, Hf, Hr, HC, HP⟩ := h.facts hld hlr
  have HS : Hid (∀ k, k < paths.length → (linkTo caps paths rate done l (k + 1)).1 = if inB (paths.getD k []) l = true then (if dB done k = true then sumP (linkTo caps paths rate done l k).1 (negP (rP rate k)) else (linkTo caps paths rate done l k).1) else (linkTo caps paths rate done l k).1) := fun k hk => by
    rw [linkTo_step hk]
    split
    · split <;> rfl
    · rfl
  have HLf : Hid (∀ k, k ≤ paths.length → faultP (linkTo caps paths rate done l k).1 = 0) := hLf
  have HRR : Hid (∀ f, f < paths.length → dB done f = true → faultP (rP rate f) = 0) := hRR
  have H0 : (linkTo caps paths rate done l 0).1 = (caps.getD l 0, 1) := rfl
  have HB : Hid (∀ u, Calls Tryz.prog 175 #[.agg #[.int .i64 (linkTo caps paths rate done l paths.length).1.1, .int .i64 (linkTo caps paths rate done l paths.length).1.2], .int .i64 kk] u fun e w' => e = .returned (.tuple #[.agg #[.int .i64 (partP (linkTo caps paths rate done l paths.length).1 (kk : Int)).1, .int .i64 (partP (linkTo caps paths rate done l paths.length).1 (kk : Int)).2], .nilIface]) ∧ Below u.heap.size u w') := fun u => FBy_may (hLf _ (Nat.le_refl _)) (by omega) (by omega) hp u
  generalize partP (linkTo caps paths rate done l paths.length).1 (kk : Int) = pp at *
  obtain ⟨p1, p2⟩ := pp
  obtain ⟨LS, hLS⟩ : ∃ LS : Nat → Int × Int, ∀ k, (linkTo caps paths rate done l k).1 = LS k := ⟨_, fun _ => rfl⟩
  simp only [hLS] at HS HLf H0 HB
  obtain ⟨bc, oc, rfl, hcc⟩ := HC.out l hl
  have cc := hcc w (Below.refl _ _)
  have hbc : bc < w.heap.size := World.block_lt_of_cell? _ _ cc
  have R0 : Hid (RowAt ((w.alloc (.cells #[.int .i64 0, .int .i64 0] 58)).alloc (.cells #[.int .i64 (caps.getD l 0), .int .i64 1] 58)) (w.heap.size + 1) 58 [.int .i64 (LS 0).1, .int .i64 (LS 0).2]) := by
    rw [H0]
    have := RowAt.new (w.alloc (.cells #[.int .i64 0, .int .i64 0] 58)) #[.int .i64 (caps.getD l 0), .int .i64 1] 58
    simpa [Hid] using this
  have R1 : Hid (RowAt ((w.alloc (.cells #[.int .i64 0, .int .i64 0] 58)).alloc (.cells #[.int .i64 (caps.getD l 0), .int .i64 1] 58)) w.heap.size 58 [.int .i64 0, .int .i64 0]) := (RowAt.new w #[.int .i64 0, .int .i64 0] 58).alloc _
  have B0 : Hid (Below w.heap.size w ((w.alloc (.cells #[.int .i64 0, .int .i64 0] 58)).alloc (.cells #[.int .i64 (caps.getD l 0), .int .i64 1] 58))) := ((Below.refl _ _).alloc (Nat.le_refl _) _).alloc (by simp) _
  generalize caps.getD l 0 = c at *
  obtain ⟨c0, c1, c2, c3⟩ := HF.out w (Below.refl _ _)
  clear hLS h hcc hp hLf hRR H0
  go_enter Tryz.func154, Tryz.ntmps154
  go_wp2
  go_loopw [9, 10, 11, 12, 28] (fun _ _ _ _ i wr => ∃ k : Nat, k ≤ paths.length ∧ i = .int .i64 k ∧ Hid (RowAt wr (w.heap.size + 1) 58 [.int .i64 (LS k).1, .int .i64 (LS k).2]) ∧ Hid (RowAt wr w.heap.size 58 [.int .i64 0, .int .i64 0]) ∧ Hid (Below w.heap.size w wr)) (fun _ _ _ _ i _ => paths.length - (intOf i).toNat)
  case atStart => exact ⟨0, by omega, rfl, R0, R1, B0⟩
  case round =>
    obtain ⟨k, hk, rfl, hr0, hr1, hb⟩ := hrel
    have hz : w.heap.size + 1 < wr.heap.size := hr0.out.lt
    clear c0 c1 c2 c3 cc
    obtain ⟨c0, c1, c2, c3⟩ := HF.out wr hb.out
    have m0 := hr0.out.cell (i := 0) rfl
    have m1 := hr0.out.cell (i := 1) rfl
    have f0 := hr0.out.frozen 0
    have f1 := hr0.out.frozen 1
    by_cases hlt : k < paths.length
    · obtain ⟨b, off, x, rfl, hx⟩ := HP.out k hlt
      obtain ⟨cx, hxi⟩ := hx wr hb.out
      have cf := Hf.out k hlt wr hb.out
      have hs := HS.out k hlt
      have HCo : Hid (Calls Tryz.prog 69 #[x, .int .i64 l] wr fun e w' => e = .returned (.bool (inB (paths.getD k []) l)) ∧ w' = wr) := Contains_any _ _ _ wr hxi
      clear hx
      generalize paths.getD k [] = pf at *
      obtain ⟨ax, capx, rfl, _⟩ := hxi
      generalize inB pf l = ib at *
      cases hd : dB done k with
      | false =>
        rw [hd] at cf hs
        have HN : Hid (LS (k + 1) = LS k) := by
          show _ = _
          rw [hs]
          simp
        clear hs hd
        go_wp2
        go_roundw
        case rel => exact ⟨k + 1, by omega, by go_num, by rw [HN.out]; exact hr0, hr1, hb⟩
        case measure => simp [intOf]; omega
      | true =>
        have fr := HRR.out k hlt hd
        rw [hd] at cf hs
        cases ib with
        | false =>
          have HN : Hid (LS (k + 1) = LS k) := by
            show _ = _
            rw [hs]
            simp
          clear hs hd
          go_wp2_with fail
          refine HCo.out.mono ?_
          rintro e wr ⟨rfl, rfl⟩
          go_wp2
          go_roundw
          case rel => exact ⟨k + 1, by omega, by go_num, by rw [HN.out]; exact hr0, hr1, hb⟩
          case measure => simp [intOf]; omega
        | true =>
          have HN : LS (k + 1) = sumP (LS k) (negP (rP rate k)) := by rw [hs]; simp
          have HNe : Hid (∀ u : World, Calls Tryz.prog 174 #[.agg #[.int .i64 (rP rate k).1, .int .i64 (rP rate k).2]] u fun e w' => e = .returned (.agg #[.int .i64 (-(rP rate k).1), .int .i64 (rP rate k).2]) ∧ Below u.heap.size u w') := fun u => FNeg_any _ _ u fr
          have HAdd : Hid (∀ u : World, Calls Tryz.prog 101 #[.agg #[.int .i64 (LS k).1, .int .i64 (LS k).2], .agg #[.int .i64 (-(rP rate k).1), .int .i64 (rP rate k).2]] u fun e w' => e = .returned (.tuple #[.agg #[.int .i64 (LS (k + 1)).1, .int .i64 (LS (k + 1)).2], .nilIface]) ∧ Below u.heap.size u w') := fun u => by
            have h1 := HLf.out (k + 1) (by omega)
            rw [HN] at h1 ⊢
            exact FAdd_may (s := LS k) (a := negP (rP rate k)) (HLf.out k hk) (neg_right fr) h1 u
          obtain ⟨x', y', HXY⟩ : ∃ x' y', Hid ((LS (k + 1)).1 = x' ∧ (LS (k + 1)).2 = y') := ⟨_, _, rfl, rfl⟩
          rw [HXY.out.1, HXY.out.2] at HAdd
          have HSA : Hid (∀ u : World, Below wr.heap.size wr u → u.cell? ⟨w.heap.size + 1, 0, none⟩ = some (.int .i64 (LS k).1) ∧ u.cell? ⟨w.heap.size + 1, 1, none⟩ = some (.int .i64 (LS k).2) ∧ u.cell? ⟨gF, 3, none⟩ = some (.slice (some ⟨gr, 0, none⟩) paths.length paths.length) ∧ u.cell? ⟨gr, k * 2, none⟩ = some (.int .i64 (rP rate k).1) ∧ u.cell? ⟨gr, k * 2 + 1, none⟩ = some (.int .i64 (rP rate k).2)) := fun u hu =>
            ⟨cell_later hu m0, cell_later hu m1, cell_later hu c3, (Hr.out k hlt u (hb.out.trans (hu.mono (by omega)))).1, (Hr.out k hlt u (hb.out.trans (hu.mono (by omega)))).2⟩
          have P1 : Hid (Below wr.heap.size wr wr.drew) := (Below.refl _ _).drew
          generalize (rP rate k).1 = t at *
          generalize (rP rate k).2 = bo at *
          clear hs hd fr HN
          generalize (LS k).1 = s1 at *
          generalize (LS k).2 = s2 at *
          go_upto_region 6 with (go_at_call 69; refine HCo.out.mono ?_; rintro e wr ⟨rfl, rfl⟩)
          go_cut [11, 12] (fun s11 s12 wc => ∃ g, s11 = .pointer (some ⟨g, 0, none⟩) ∧ s12 = .nilIface ∧ Hid (wr.heap.size ≤ g) ∧ wc.cell? ⟨g, 0, none⟩ = some (.int .i64 x') ∧ wc.cell? ⟨g, 1, none⟩ = some (.int .i64 y') ∧ Hid (Below wr.heap.size wr wc))
          case first =>
            go_region_held3 (fun u => u.cell? ⟨w.heap.size + 1, 0, none⟩ = some (.int .i64 s1) ∧ u.cell? ⟨w.heap.size + 1, 1, none⟩ = some (.int .i64 s2) ∧ u.cell? ⟨gF, 3, none⟩ = some (.slice (some ⟨gr, 0, none⟩) paths.length paths.length) ∧ u.cell? ⟨gr, k * 2, none⟩ = some (.int .i64 t) ∧ u.cell? ⟨gr, k * 2 + 1, none⟩ = some (.int .i64 bo))
              ((refine HSA.out _ ?_; first
                | exact P1.out | exact Hbn.out | exact Hba.out
                | exact Bel.more P1.out (Nat.le_refl _) _ | exact Bel.more Hbn.out (Nat.le_refl _) _ | exact Bel.more Hba.out (Nat.le_refl _) _
                | (refine (Hba.out.setCell ?_ _).setCell ?_ _ <;> (simp; try omega))))
              (first
                | (go_at_call 174; refine (HNe.out _).mono ?_; rintro e wn ⟨rfl, hwn⟩; obtain ⟨hcn, hfn⟩ := bcell hwn; have hzn : ∀ n, n < _ → n < wn.heap.size := fun n h => Nat.lt_of_lt_of_le h hwn.size; have Hbn : Hid (Below wr.heap.size wr wn) := (by first | exact Bel.call P1.out (Nat.le_refl _) hwn | exact Bel.call (Bel.more P1.out (Nat.le_refl _) _) (Nat.le_refl _) hwn); have yn := Hbn.out.size)
                | (go_at_call 101; refine (HAdd.out _).mono ?_; rintro e wa ⟨rfl, hwa⟩; obtain ⟨hca, hfa⟩ := bcell hwa; have hza : ∀ n, n < _ → n < wa.heap.size := fun n h => Nat.lt_of_lt_of_le h hwa.size; (first | (have zz := fun (n : Nat) h => Nat.lt_of_lt_of_le (hzn n h) (Nat.le_trans (by simp) hwa.size)) | skip); have Hba : Hid (Below wr.heap.size wr wa) := (by first | exact Bel.call Hbn.out (Nat.le_refl _) hwa | exact Bel.call (Bel.more Hbn.out (Nat.le_refl _) _) (Nat.le_refl _) hwa); have ya := Hba.out.size))
            all_goals
              have hbw := Hba.out
              go_wp2_with fail
              go_meet
              case rel =>
                refine ⟨_, rfl, rfl, ?_, ?_, ?_, ?_⟩
                · show wr.heap.size ≤ _
                  omega
                · first | (go_simp; done) | (refine (cell_set2 (z := .int .i64 0) (z' := .int .i64 0) ?_ ?_).1 <;> (go_simp; done))
                · first | (go_simp; done) | (refine (cell_set2 (z := .int .i64 0) (z' := .int .i64 0) ?_ ?_).2 <;> (go_simp; done))
                · first | exact hbw.alloc hbw.size _ | exact hbw | (refine (hbw.setCell ?_ _).setCell ?_ _ <;> (simp; try omega))
          case rest =>
            obtain ⟨g, rfl, rfl, hg, q0, q1, hba⟩ := hcut
            have hrr := hr0.out.later hba.out hz
            have n0 := hrr.cell (i := 0) rfl
            have n1 := hrr.cell (i := 1) rfl
            have n2 := hrr.frozen 0
            have n3 := hrr.frozen 1
            have HR' : Hid (RowAt ((wc.setCell ⟨w.heap.size + 1, 0, none⟩ (.int .i64 x')).setCell ⟨w.heap.size + 1, 1, none⟩ (.int .i64 y')) (w.heap.size + 1) 58 [.int .i64 (LS (k + 1)).1, .int .i64 (LS (k + 1)).2]) := by
              rw [HXY.out.1, HXY.out.2]
              exact hrr.set2 _ _
            have HR1 : Hid (RowAt ((wc.setCell ⟨w.heap.size + 1, 0, none⟩ (.int .i64 x')).setCell ⟨w.heap.size + 1, 1, none⟩ (.int .i64 y')) w.heap.size 58 [.int .i64 0, .int .i64 0]) := ((hr1.out.later hba.out hr1.out.lt).other (by simp) _).other (by simp) _
            have HB' : Hid (Below w.heap.size w ((wc.setCell ⟨w.heap.size + 1, 0, none⟩ (.int .i64 x')).setCell ⟨w.heap.size + 1, 1, none⟩ (.int .i64 y'))) := ((hb.out.trans (hba.out.mono (by omega))).setCell (by simp) _).setCell (by simp) _
            clear hrr P1
            go_wp2
            go_roundw
            case rel => exact ⟨k + 1, by omega, by go_num, HR', HR1, HB'⟩
            case measure => simp [intOf]; omega
    · obtain rfl : k = paths.length := by omega
      have hr0' := hr0
      generalize (LS paths.length).1 = s1 at *
      generalize (LS paths.length).2 = s2 at *
      go_wp2_with fail
      refine (HB.out _).mono ?_
      rintro e w1 ⟨rfl, hw1⟩
      have hq := hr1.out.later hw1 hr1.out.lt
      have q0 := hq.cell (i := 0) rfl
      have q1 := hq.cell (i := 1) rfl
      have q2 := hq.frozen 0
      have q3 := hq.frozen 1
      have hq' := hq.set2 (.int .i64 p1) (.int .i64 p2)
      have t0 := hq'.cell (i := 0) rfl
      have t1 := hq'.cell (i := 1) rfl
      have HB1 : Hid (Below w.heap.size w ((w1.setCell ⟨w.heap.size, 0, none⟩ (.int .i64 p1)).setCell ⟨w.heap.size, 1, none⟩ (.int .i64 p2))) := ((hb.out.trans (hw1.mono (by omega))).setCell (by simp) _).setCell (by simp) _
      clear hw1 hq hq'
      go_wp2
      refine bodyPost_ret (v := .tuple #[.agg #[.int .i64 p1, .int .i64 p2], .nilIface]) (by simp [results, Tryz.results154, go_sem, t0, t1]) rfl ⟨rfl, HB1.out⟩
end Fl
end Go.Proofs.YtpnmmmlckdkcdakGreatDoor
