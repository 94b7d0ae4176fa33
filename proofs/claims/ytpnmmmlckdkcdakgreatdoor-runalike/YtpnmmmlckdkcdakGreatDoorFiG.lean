/- Package fill's rise: round by round, till no flow is free. -/
import Derived.Test.YtpnmmmlckdkcdakGreatDoorFiF
import Derived.Test.YtpnmmmlckdkcdakGreatDoorNetB
import Derived.Test.YtpnmmmlckdkcdakGreatDoorPlains
import Derived.Maps.AppendAt
namespace Go.Proofs.YtpnmmmlckdkcdakGreatDoor
namespace Fl
open Go.RowKit Fr Ns Ld
set_option linter.unusedSimpArgs false
set_option linter.unusedVariables false

theorem row_new (w : World) (a : Array Value) (T : TypeId) (g : Nat) (xs : List Value) (hg : g = w.heap.size) (hx : a.toList = xs) : RowAt (w.alloc (.cells a T (0, 0))) g T xs := by
  subst hg; subst hx; exact RowAt.new w a T
theorem RowAt.more {w w' : World} {g : Nat} {T : TypeId} {xs : List Value} (hb : Below w.heap.size w w') (h : RowAt w g T xs) : RowAt w' g T xs := h.later hb h.lt
theorem RowAt.drew {w : World} {g : Nat} {T : TypeId} {xs : List Value} (h : RowAt w g T xs) : RowAt w.drew g T xs := h
theorem RowAt.set4 {w : World} {g : Nat} {T : TypeId} {a b c d : Value} (h : RowAt w g T [a, b, c, d]) (x y z u : Value) : RowAt ((((w.setCell ⟨g, 0, none⟩ x).setCell ⟨g, 1, none⟩ y).setCell ⟨g, 2, none⟩ z).setCell ⟨g, 3, none⟩ u) g T [x, y, z, u] := by
  have := (((h.set 0 x).set 1 y).set 2 z).set 3 u
  simpa using this
theorem rounds_append {base : Nat} {w3 w13 : World} {v8 v' y : Value} {o : Obj} {acc : List (List Int)} {rd : List Int} {vs : List Value} (hv : ∀ i, i < acc.length → IntsAt (fun b => base ≤ b ∧ v8.ownBlock ≠ some b) w3 (vs.getD i undef) (acc.getD i [])) (hnew : IntsAt (fun b => base ≤ b ∧ v8.ownBlock ≠ some b) w3 y rd) (hvs : vs.length = acc.length)
    (hgrow : (w3.alloc o).grownBy w13 v8.ownBlock) (hat : v'.ownBlock = v8.ownBlock ∨ v'.ownBlock = some (w3.alloc o).heap.size) :
    ∀ i, i < (acc ++ [rd]).length → IntsAt (fun b => base ≤ b ∧ v'.ownBlock ≠ some b) w13 ((vs ++ [y]).getD i undef) ((acc ++ [rd]).getD i []) := by
  have hkeep : ∀ b, (base ≤ b ∧ v8.ownBlock ≠ some b) → b < w3.heap.size → w13.heap[b]? = w3.heap[b]? := by
    intro b hb' hlt
    have h1 := hgrow.block b (by simp; omega) (fun e => hb'.2 e.symm)
    rw [h1]
    exact ((Below.refl w3.heap.size w3).alloc (Nat.le_refl _) o).block b hlt
  have hQ : ∀ b, (base ≤ b ∧ v8.ownBlock ≠ some b) → b < w3.heap.size → (base ≤ b ∧ v'.ownBlock ≠ some b) := by
    intro b hb' hlt
    refine ⟨hb'.1, ?_⟩
    rcases hat with h | h
    · rw [h]; exact hb'.2
    · rw [h]
      simp
      omega
  exact ints_snoc hvs (fun i hi => (hv i hi).keep hkeep hQ) (hnew.keep hkeep hQ)
def lenV : Value → Nat
  | .slice _ n _ => n
  | _ => 0

set_option maxRecDepth 100000 in
set_option maxHeartbeats 8000000 in
/-- what Rise hands back: of a net that is right but may have more links -/
theorem rise_any (Q : Nat → Prop) (caps : List Int) (paths : List (List Int)) (v : Value) (w : World) (h : NetAt Q w v caps paths) (hg : Good caps paths) (hc6 : caps.length ≤ 12) :
  Calls Tryz.prog 66 #[v] w fun e w' => ∃ y z, e = .returned (.tuple #[y, z, .nilIface]) ∧
    FracsAt (fun b => w.heap.size ≤ b) w' y (fill caps paths).1 ∧ ListsAt (fun b => w.heap.size ≤ b) w' z (fill caps paths).2 ∧ Below w.heap.size w w' := by
  have HG : Hid (Good caps paths) := hg
  have hp6 : paths.length ≤ 6 := HG.out.2.2.1
  have hp1 : 1 ≤ paths.length := HG.out.2.2.2
  have HN0 : Hid (∀ u, Below w.heap.size w u → NetAt (fun b => b < w.heap.size) u v caps paths) := fun u hu => h.keep (fun b _ hlt => hu.block b hlt) (fun b _ hlt => hlt)
  obtain ⟨v1, v2, rfl, h1, h2⟩ := h
  obtain ⟨a1, cap1, rfl, ⟨hm1, hn1⟩, _⟩ := h1
  obtain ⟨a2, cap2, rfl, ⟨hm2, hn2⟩, _⟩ := h2
  have HMk : Hid (∀ (gF gf gr : Nat) (u : World) (rate : List (Int × Int)) (done : List Bool), w.heap.size ≤ gF → w.heap.size ≤ gf → w.heap.size ≤ gr → Below w.heap.size w u →
      RowAt u gF 153 [.slice a1 caps.length cap1, .slice a2 paths.length cap2, .slice (some ⟨gf, 0, none⟩) paths.length paths.length, .slice (some ⟨gr, 0, none⟩) paths.length paths.length] → RowAt u gf 4 (boolsV (freeL done)) → RowAt u gr 58 (flat rate) →
      FillW caps paths rate done gF gf gr (.agg #[.slice a1 caps.length cap1, .slice a2 paths.length cap2]) u) := fun gF gf gr u rate done x1 x2 x3 hu r1 r2 r3 =>
    ⟨a1, cap1, a2, cap2, rfl, r1, (HN0.out u hu).keep (fun _ _ _ => rfl) (fun b hb _ => by have : b < w.heap.size := hb; omega), r2, r3⟩
  obtain ⟨i0, hi, hz0, hz1, hz2⟩ := info_parts infoFrac
  obtain ⟨mI, hMI, hv0, hv1, hv2⟩ := info_parts infoInts
  obtain ⟨RC, hRC, hmk⟩ : ∃ RC : Array Value, Hid (RC.toList = flat (List.replicate paths.length (0, 0))) ∧ ∀ u : World, (Instr.makeSlice 24 (.int .i64 (paths.length : Int)) (.int .i64 (paths.length : Int))).run Tryz.prog u = .ok (.slice (some ⟨u.heap.size, 0, none⟩) paths.length paths.length) (u.alloc (.cells RC 58)) := by
    refine ⟨madeCells #[.int .i64 0, .int .i64 0] (paths.length * 2), made_fracs _, fun u => ?_⟩
    have hr := run_make (P := Tryz.prog) u 24 58 i0 (.agg #[.int .i64 0, .int .i64 0]) Tryz.underlying24 hi hz0 .i64 .i64 paths.length paths.length (by omega) (Int.le_refl _) (by rw [hz2]; omega) (by omega)
    simp only [Int.toNat_natCast, hz1] at hr
    exact hr
  have HRp : Hid (∀ (g : Nat) (u : World), RowAt u g 4 [.bool true] → Calls Tryz.prog 95 #[.slice (some ⟨g, 0, none⟩) 1 1, .int .i64 paths.length] u fun e w' => ∃ k, e = .returned (.slice (some ⟨k, 0, none⟩) paths.length paths.length) ∧ u.heap.size ≤ k ∧ RowAt w' k 4 (boolsV (List.replicate paths.length true)) ∧ Below u.heap.size u w') := fun g u hg => Repeat_any paths.length g u hp1 hp6 hg
  go_enter Tryz.func66, Tryz.ntmps66
  go_upto_region 2 with fail
  obtain ⟨w1, hw1⟩ : ∃ w1, w1 = w.alloc (.cells #[.slice a1 caps.length cap1, .slice a2 paths.length cap2] 37) := ⟨_, rfl⟩
  have g0 : w1.cell? ⟨w.heap.size, 0, none⟩ = some (.slice a1 caps.length cap1) := by rw [hw1]; simp
  have g1 : w1.cell? ⟨w.heap.size, 1, none⟩ = some (.slice a2 paths.length cap2) := by rw [hw1]; simp
  have hs1 : w.heap.size < w1.heap.size := by rw [hw1]; simp
  have HB1 : Hid (Below w.heap.size w w1) := by rw [hw1]; exact (Below.refl _ _).alloc (Nat.le_refl _) _
  have HSA : Hid (∀ u : World, Below w1.heap.size w1 u → u.cell? ⟨w.heap.size, 0, none⟩ = some (.slice a1 caps.length cap1) ∧ u.cell? ⟨w.heap.size, 1, none⟩ = some (.slice a2 paths.length cap2)) := fun u hu => ⟨cell_later hu g0, cell_later hu g1⟩
  have P1 : Hid (Below w1.heap.size w1 w1.drew) := (Below.refl _ _).drew
  rw [← hw1]
  clear hw1
  go_cut [6] (fun s7 wc => ∃ gF gf gr : Nat, s7 = .pointer (some ⟨gF, 0, none⟩) ∧
    Hid (RowAt wc gF 153 [.slice a1 caps.length cap1, .slice a2 paths.length cap2, .slice (some ⟨gf, 0, none⟩) paths.length paths.length, .slice (some ⟨gr, 0, none⟩) paths.length paths.length]) ∧ Hid (RowAt wc gf 4 (boolsV (List.replicate paths.length true))) ∧ Hid (RowAt wc gr 58 RC.toList) ∧ (gF ≠ gf ∧ gF ≠ gr ∧ gf ≠ gr) ∧ (w1.heap.size ≤ gF ∧ w1.heap.size ≤ gf ∧ w1.heap.size ≤ gr) ∧ Hid (Below w1.heap.size w1 wc))
  case first =>
    go_region_held3 (fun u => u.cell? ⟨w.heap.size, 0, none⟩ = some (.slice a1 caps.length cap1) ∧ u.cell? ⟨w.heap.size, 1, none⟩ = some (.slice a2 paths.length cap2))
      ((refine HSA.out _ ?_; repeat (first | with_reducible exact P1.out | with_reducible exact Hbr.out | with_reducible exact Below.refl _ _ | with_reducible refine Below.drew ?_ | with_reducible refine Bel.more ?_ (Nat.le_refl _) _ | with_reducible refine Below.setCell ?_ (by simp; try omega) _)))
      (first
        | (go_at_call 95; refine (HRp.out _ _ ?_).mono ?_; (repeat (first | ((with_reducible refine row_new _ _ _ _ _ ?_ ?_); (focus (simp; done)); (focus rfl)) | with_reducible refine RowAt.drew ?_ | with_reducible refine RowAt.alloc ?_ _)); rintro e wp ⟨k, rfl, hk1, hrk, hwp⟩; obtain ⟨hcp, hfp⟩ := bcell hwp; have hzp : ∀ n, n < _ → n < wp.heap.size := fun n h => Nat.lt_of_lt_of_le h hwp.size; have Hbr : Hid (Below w1.heap.size w1 wp) := (by refine Bel.call ?_ (Nat.le_refl _) hwp; repeat (first | with_reducible exact P1.out | with_reducible exact Below.refl _ _ | with_reducible refine Below.drew ?_ | with_reducible refine Bel.more ?_ (Nat.le_refl _) _)); have Hrk : Hid (RowAt wp k 4 (boolsV (List.replicate paths.length true))) := hrk; have hk2 := hrk.lt; have Hwp : Hid _ := hwp; have hsp := hwp.size; simp at hk1 hsp; clear hrk hwp; (first | (rcases Nat.lt_or_ge w1.heap.size wp.heap.size with y0 | y0; rotate_left; (exfalso; omega)) | skip); (first | (rcases Nat.lt_or_ge (w1.heap.size + 1) wp.heap.size with y1 | y1; rotate_left; (exfalso; omega)) | skip); (first | (rcases Nat.lt_or_ge (w1.heap.size + 1 + 1) wp.heap.size with y2 | y2; rotate_left; (exfalso; omega)) | skip)))
    all_goals
      go_wp2_with fail
      go_meet
      case rel =>
        apply Exists.intro
        refine ⟨k, ?_⟩
        apply Exists.intro
        refine ⟨rfl, ?_, ?_, ?_, ?_, ?_, ?_⟩
        · show RowAt _ _ _ _
          repeat (first | ((with_reducible refine row_new _ _ _ _ _ ?_ ?_); (focus (simp; done)); (focus rfl)) | with_reducible refine RowAt.set4 (a := .slice none 0 0) (b := .slice none 0 0) (c := .slice none 0 0) (d := .slice none 0 0) ?_ _ _ _ _ | with_reducible refine RowAt.drew ?_ | with_reducible refine RowAt.alloc ?_ _ | with_reducible refine RowAt.more Hwp.out ?_)
        · show RowAt _ _ _ _
          repeat (first | with_reducible exact Hrk.out | with_reducible refine RowAt.drew ?_ | with_reducible refine RowAt.alloc ?_ _ | with_reducible refine RowAt.other ?_ (by first | (simp; done) | (simp; omega)) _)
        · show RowAt _ _ _ _
          repeat (first | ((with_reducible refine row_new _ _ _ _ _ ?_ ?_); (focus (simp; done)); (focus rfl)) | with_reducible refine RowAt.other ?_ (by first | (simp; done) | (simp; omega)) _ | with_reducible refine RowAt.drew ?_ | with_reducible refine RowAt.alloc ?_ _ | with_reducible refine RowAt.more Hwp.out ?_)
        · refine ⟨?_, ?_, ?_⟩ <;> omega
        · refine ⟨?_, ?_, ?_⟩ <;> omega
        · show Below _ _ _
          repeat (first | with_reducible exact P1.out | with_reducible exact Hbr.out | with_reducible exact Below.refl _ _ | with_reducible refine Below.drew ?_ | with_reducible refine Bel.more ?_ (Nat.le_refl _) _ | with_reducible refine Below.setCell ?_ (by simp; try omega) _)
  case rest =>
    obtain ⟨gF, gf, gr, rfl, RF, Rf, Rr, ⟨n1, n2, n3⟩, ⟨l1, l2, l3⟩, hbc⟩ := hcut
    have Rr' : Hid (RowAt wc gr 58 (flat (List.replicate paths.length (0, 0)))) := by rw [← hRC.out]; exact Rr
    have Rf' : Hid (RowAt wc gf 4 (boolsV (freeL (List.replicate paths.length false)))) := by rw [freeL_start]; exact Rf
    have hzF : gF < wc.heap.size := RF.out.lt
    have hzf : gf < wc.heap.size := Rf.out.lt
    have hzr : gr < wc.heap.size := Rr.out.lt
    have HBc : Hid (Below w.heap.size w wc) := HB1.out.trans (hbc.out.mono (by omega))
    have P2 : Hid (FillAt caps paths (List.replicate paths.length (0, 0)) (List.replicate paths.length false) []) := fillAt_start HG.out
    have HRd : Hid (∀ (u : World) (rate : List (Int × Int)) (done : List Bool) (acc : List (List Int)), FillAt caps paths rate done acc → 0 < freeN paths done → Below w.heap.size w u →
        RowAt u gF 153 [.slice a1 caps.length cap1, .slice a2 paths.length cap2, .slice (some ⟨gf, 0, none⟩) paths.length paths.length, .slice (some ⟨gr, 0, none⟩) paths.length paths.length] → RowAt u gf 4 (boolsV (freeL done)) → RowAt u gr 58 (flat rate) →
        ∃ (rd : List Int) (rate' : List (Int × Int)) (done' : List Bool), FillAt caps paths rate' done' (acc ++ [rd]) ∧ rd.length ≤ 6 ∧
          Calls Tryz.prog 97 #[.pointer (some ⟨gF, 0, none⟩)] u fun e w' => ∃ y, e = .returned (.tuple #[y, .nilIface]) ∧ IntsAt (fun b => u.heap.size ≤ b) w' y rd ∧ RowAt w' gf 4 (boolsV (freeL done')) ∧ RowAt w' gr 58 (flat rate') ∧ KeptBut gf gr u w' ∧ Below w.heap.size u w') := by
      intro u rate done acc hP hz hu r1 r2 r3
      obtain ⟨hlr, hld, hLS, hRR, hSR, bst, hbst, hbf, hrne, hnext⟩ := fillAt_facts HG.out hP hz
      refine ⟨_, _, _, hnext, Nat.le_trans (roundTo_length _ _ _ paths.length) hp6, ?_⟩
      have hW := HMk.out gF gf gr u rate done (by omega) (by omega) (by omega) hu r1 r2 r3
      have hc := round_any caps paths rate done gF gf gr w.heap.size _ u bst hW ⟨n1, n2⟩ n3 ⟨by omega, by omega⟩ hld hlr hp6 (by omega) (fun p hp x hx => ((HG.out.2.1 p hp).2 x hx).1) (fun l hl k hk => by
        obtain ⟨j, _, e⟩ := linkTo_part caps paths rate done l k
        rw [e]
        exact (hLS l hl j).1) hRR (fun l s hl hs => (hSR l s hl hs).1) hbst
      refine hc.mono ?_
      rintro e w' ⟨y, rfl, hy, hw, hk, hb⟩
      obtain ⟨_, _, _, _, _, _, _, h3, h4⟩ := hw
      exact ⟨y, rfl, hy, h3, h4, hk, hb⟩
    have HCt : Hid (∀ (u : World) (done : List Bool), done.length = paths.length → RowAt u gf 4 (boolsV (freeL done)) → Calls Tryz.prog 96 #[.slice (some ⟨gf, 0, none⟩) paths.length paths.length, .bool true] u fun e w' => e = .returned (.bool (decide (freeN paths done ≠ 0))) ∧ w' = u) := fun u done hd hr => by
      have := ContainsB_any (freeL done) gf u hr (by rw [freeL_length]; omega)
      rw [free_any hd, freeL_length, hd] at this
      exact this
    have HEnd : Hid (∀ (rate : List (Int × Int)) (done : List Bool) (acc : List (List Int)), FillAt caps paths rate done acc → rate.length = paths.length ∧ done.length = paths.length ∧ acc.length ≤ paths.length ∧ (freeN paths done = 0 → fill caps paths = (rate, acc))) := fun rate done acc hP => by
      have hP' := hP
      obtain ⟨_, _, _, hi', _⟩ := hP'
      exact ⟨hi'.lr, hi'.ld, fillAt_acc HG.out hP, fun hz => fillAt_end hP hz⟩
    have x1 := RF.out.cell (i := 1) rfl
    have x2 := RF.out.cell (i := 2) rfl
    have x3 := RF.out.cell (i := 3) rfl
    obtain ⟨w2, rfl⟩ : ∃ w2, w2 = wc := ⟨_, rfl⟩
    clear Rr Rf hmk hRC HRp HN0 HSA P1 g0 g1
    go_wp2
    go_loopw [7, 8, 9] (fun s8 _ _ wr => ∃ (rate : List (Int × Int)) (done : List Bool) (acc : List (List Int)) (vs : List Value), lenV s8 = acc.length ∧ Hid (FillAt caps paths rate done acc) ∧ Hid (RowAt wr gF 153 [.slice a1 caps.length cap1, .slice a2 paths.length cap2, .slice (some ⟨gf, 0, none⟩) paths.length paths.length, .slice (some ⟨gr, 0, none⟩) paths.length paths.length]) ∧ Hid (RowAt wr gf 4 (boolsV (freeL done))) ∧ Hid (RowAt wr gr 58 (flat rate)) ∧
      Hid (wr.ownsRow w2.heap.size 22 1 s8 acc.length vs) ∧ Hid (∀ i, i < acc.length → IntsAt (fun b => w2.heap.size ≤ b ∧ Value.ownBlock s8 ≠ some b) wr (vs.getD i undef) (acc.getD i [])) ∧ Hid (Below w.heap.size w wr) ∧ Hid (w2.heap.size ≤ wr.heap.size)) (fun s8 _ _ _ => paths.length - lenV s8)
    case atStart => exact ⟨_, _, [], [], rfl, P2, RF, Rf', Rr', World.ownsRow_nil _ _ _ _, fun i hi => by simp at hi, HBc, Nat.le_refl _⟩
    case round =>
      obtain ⟨rate, done, acc, vs, hlen, hP, rF, rf, rr, ho, hv, hb, hsz⟩ := hrel
      obtain ⟨hlr, hld, hla, hend⟩ := HEnd.out _ _ _ hP.out
      clear x1 x2 x3
      have x1 := rF.out.cell (i := 1) rfl
      have x2 := rF.out.cell (i := 2) rfl
      have x3 := rF.out.cell (i := 3) rfl
      have HC1 : Hid (Calls Tryz.prog 96 #[.slice (some ⟨gf, 0, none⟩) paths.length paths.length, .bool true] wr fun e w' => e = .returned (.bool (decide (freeN paths done ≠ 0))) ∧ w' = wr) := HCt.out wr done hld rf.out
      obtain ⟨a8, cap8, rfl⟩ := owns_shape ho.out
      by_cases hz : freeN paths done = 0
      · have HE : Hid (fill caps paths = (rate, acc)) := hend hz
        have HY : Hid (FracsAt (fun b => w.heap.size ≤ b) wr (.slice (some ⟨gr, 0, none⟩) paths.length paths.length) rate) := by
          rw [← hlr]
          exact fracs_of_owns (base := gr) (by omega) (rr.out.owns (Nat.le_refl _) (by rw [flat_length]) (by unfold maxLen; omega)) (fun g hg => by omega)
        have hvl : vs.length = acc.length := by have := ho.out.1; omega
        have HZ : Hid (ListsAt (fun b => w.heap.size ≤ b) wr (.slice a8 acc.length cap8) acc) := lists_of_owns (base := w2.heap.size) (by omega) hvl ho.out (fun i hi => (hv.out i hi).keep (fun _ _ _ => rfl) (fun b hb' _ => by have := hb'.1; omega)) (fun g hg => by omega)
        rw [show decide (freeN paths done ≠ 0) = false by simp [hz]] at HC1
        clear hz hend
        go_wp2_with fail
        refine HC1.out.mono ?_
        rintro e wr ⟨rfl, rfl⟩
        go_wp2
        refine bodyPost_ret (v := .tuple #[.slice (some ⟨gr, 0, none⟩) paths.length paths.length, .slice a8 acc.length cap8, .nilIface]) (by simp [results, Tryz.results66, go_sem]) rfl ⟨_, _, rfl, ?_, ?_, hb.out⟩
        · rw [HE.out]; exact HY.out
        · rw [HE.out]; exact HZ.out
      · obtain ⟨rd, rate', done', hP', hrd6, hrc⟩ := HRd.out wr rate done acc hP.out (by omega) hb.out rF.out rf.out rr.out
        have HP' : Hid (FillAt caps paths rate' done' (acc ++ [rd])) := hP'
        have hla' : acc.length + 1 ≤ paths.length := by have := (HEnd.out _ _ _ hP').2.2.1; simpa using this
        have HRc : Hid (Calls Tryz.prog 97 #[.pointer (some ⟨gF, 0, none⟩)] wr fun e w' => ∃ y, e = .returned (.tuple #[y, .nilIface]) ∧ IntsAt (fun b => wr.heap.size ≤ b) w' y rd ∧ RowAt w' gf 4 (boolsV (freeL done')) ∧ RowAt w' gr 58 (flat rate') ∧ KeptBut gf gr wr w' ∧ Below w.heap.size wr w') := hrc
        rw [show decide (freeN paths done ≠ 0) = true by simp [hz]] at HC1
        clear hz hend hP' hrc
        go_wp2_with fail
        refine HC1.out.mono ?_
        rintro e wr ⟨rfl, rfl⟩
        go_wp2_with fail
        refine HRc.out.mono ?_
        rintro e w3 ⟨y, rfl, hy, r2, r3, hk, hb3⟩
        have hszr := hsz.out
        have hs3 := hk.1
        have R1 : RowAt w3 gF 153 [.slice a1 caps.length cap1, .slice a2 paths.length cap2, .slice (some ⟨gf, 0, none⟩) paths.length paths.length, .slice (some ⟨gr, 0, none⟩) paths.length paths.length] := rF.out.keep (hk.2 gF (by omega) n1 n2)
        have HO3 : Hid (w3.ownsRow w2.heap.size 22 1 (.slice a8 acc.length cap8) acc.length vs) := owns_keep (fun g h1 h2 => hk.2 g h2 (by omega) (by omega)) ho.out
        have hv3 : ∀ i, i < acc.length → IntsAt (fun b => w2.heap.size ≤ b ∧ Value.ownBlock (.slice a8 acc.length cap8) ≠ some b) w3 (vs.getD i undef) (acc.getD i []) := fun i hi => (hv.out i hi).keep (fun b hb' hlt => hk.2 b hlt (by have := hb'.1; omega) (by have := hb'.1; omega)) (fun b hb' _ => hb')
        have hy3 : IntsAt (fun b => w2.heap.size ≤ b ∧ Value.ownBlock (.slice a8 acc.length cap8) ≠ some b) w3 y rd := hy.keep (fun _ _ _ => rfl) (fun b hb' _ => ⟨by omega, fun e => by have := (ho.out.lt b e).2; omega⟩)
        have hvl : vs.length = acc.length := by have := ho.out.1; omega
        obtain ⟨ay, capy, hye, _⟩ := hy
        subst hye
        have hb3' : Below w.heap.size w w3 := hb.out.trans hb3
        clear hk hb3 x1 x2 x3
        go_wp2_with (at_builtin; go_must (refine wpList_append_own_at _ rfl (.tmp 30) (.tmp 32) 23 rfl w2.heap.size 22 mI (.slice none 0 0) 1 24 Tryz.underlying23 hMI hv0 hv1 hv2 rfl (by decide) _ _ _ rfl (HO3.out.alloc _) ⟨_, 0, none⟩ 1 1 [.slice ay rd.length capy] rfl rfl (one_new _ _ _ _ ?c1) (by intro u hu; simp at hu; subst hu; rfl) (by unfold maxLen; omega) (by omega) ?c2 ?_))
        case c1 => simp
        case c2 => simp; omega
        intro v' wg hown' hgrow _ hat
        have hG := grown1 (B := w2.heap.size) (by omega) hgrow (fun k hk => (HO3.out.lt k hk).1)
        have HV : Hid (∀ i, i < (acc ++ [rd]).length → IntsAt (fun b => w2.heap.size ≤ b ∧ Value.ownBlock v' ≠ some b) wg ((vs ++ [Value.slice ay rd.length capy]).getD i undef) ((acc ++ [rd]).getD i [])) := rounds_append hv3 hy3 hvl hgrow (by simpa using hat)
        have HOw : Hid (wg.ownsRow w2.heap.size 22 1 v' (acc ++ [rd]).length (vs ++ [Value.slice ay rd.length capy])) := by simpa [Hid] using hown'
        have HRF : Hid (RowAt wg gF 153 [.slice a1 caps.length cap1, .slice a2 paths.length cap2, .slice (some ⟨gf, 0, none⟩) paths.length paths.length, .slice (some ⟨gr, 0, none⟩) paths.length paths.length]) := R1.later hG hzF
        have HRf : Hid (RowAt wg gf 4 (boolsV (freeL done'))) := r2.later hG hzf
        have HRr : Hid (RowAt wg gr 58 (flat rate')) := r3.later hG hzr
        have HBg : Hid (Below w.heap.size w wg) := hb3'.trans (hG.mono (by omega))
        have HSg : Hid (w2.heap.size ≤ wg.heap.size) := by have := hG.size; show _ ≤ _; omega
        obtain ⟨a', c', rfl⟩ := owns_shape HOw.out
        clear hG hown' hgrow hat R1 r2 r3 hv3 hy3 hb3'
        go_wp2
        go_roundw
        case rel => exact ⟨rate', done', acc ++ [rd], vs ++ [Value.slice ay rd.length capy], rfl, HP', HRF, HRf, HRr, HOw, HV, HBg, HSg⟩
        case measure => simp [lenV]; omega
end Fl
end Go.Proofs.YtpnmmmlckdkcdakGreatDoor
