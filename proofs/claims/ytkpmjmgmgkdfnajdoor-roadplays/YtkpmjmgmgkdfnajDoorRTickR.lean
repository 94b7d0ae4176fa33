/- The document's Tick of a road (package fairref2). -/
import Derived.Test.YtkpmjmgmgkdfnajDoorPlains
import Derived.Test.YtkpmjmgmgkdfnajDoorRSrc
import Derived.Test.YtkpmjmgmgkdfnajDoorRPol
import Derived.Deep.RegionHeld3
import Derived.Deep.QuietTactic
import Derived.BigQuiet
import Derived.Deep.DeepCutAuto
import Derived.Deep.RegionLaw
namespace Go.Proofs.YtkpmjmgmgkdfnajDoor
namespace Ev
open Go.RowKit Fr Ns Ld Fl
set_option linter.unusedSimpArgs false
set_option linter.unusedVariables false

theorem half_room {x : Int} (h : 0 ≤ x) : x.tdiv 2 = x / 2 := Int.tdiv_eq_ediv_of_nonneg h
/-- the cells of the document's road -/
theorem RefAt.five {w : World} {g gs cs : Nat} {sp : List Value} {rv : Value} {S : List Src} {room cap wait : Int} {row : List Nat} (h : RefAt w g gs cs sp rv S room cap wait row) :
    w.cell? ⟨g, 0, none⟩ = some (.slice (some ⟨gs, 0, none⟩) S.length cs) ∧ w.cell? ⟨g, 1, none⟩ = some (.int .i64 room) ∧ w.cell? ⟨g, 2, none⟩ = some (.int .i64 cap) ∧ w.cell? ⟨g, 3, none⟩ = some (.int .i64 wait) ∧ w.cell? ⟨g, 4, none⟩ = some rv ∧ (∀ i, w.frozen? ⟨g, i, none⟩ = false) ∧ (∀ i, w.frozen? ⟨gs, i, none⟩ = false) ∧ g < w.heap.size ∧ gs < w.heap.size ∧ ∃ a c, rv = .slice a row.length c :=
  ⟨h.cells.cell rfl, h.cells.cell rfl, h.cells.cell rfl, h.cells.cell rfl, h.cells.cell rfl, fun i => h.cells.frozen i, fun i => h.srcs.frozen i, h.cells.lt, h.srcs.lt, own_slice h.rows⟩

theorem went0 {R : Road} {n : Int} (h : 0 ≤ R.cap) (hn : 0 ≤ n) : 0 ≤ wentR R n := by unfold wentR; split <;> omega
theorem wait0 {R : Road} {n : Int} (h : 0 ≤ R.room) (hn : 0 ≤ n) : 0 ≤ waitR R n := by unfold waitR wentR; split <;> split at * <;> omega
theorem went_le (R : Road) (n : Int) : wentR R n ≤ R.cap := by unfold wentR; split <;> omega
theorem wait_le (R : Road) (n : Int) : waitR R n ≤ R.room := by unfold waitR; split <;> omega
theorem lostP_R (R : Road) (n : Int) : lostP R.room R.cap n = lostR R n := by
  have e : wentP R.cap n = wentR R n := rfl
  unfold lostP lostR waitR
  rw [e]
  split <;> omega
set_option maxRecDepth 100000 in
set_option maxHeartbeats 16000000 in
theorem RTickR_any (w : World) (g gs cs : Nat) (sp : List Value) (rv : Value) (R : Road) (hat : RefAt w g gs cs sp rv R.S R.room R.cap R.wait R.row) (hr : RightR R) :
    Calls Tryd.prog 7 #[.pointer (some ⟨g, 0, none⟩)] w fun e w' => e = .returned (goneV R) ∧ ∃ wv, ButIn (refF g gs rv) w w' ∧ RefAt w' g gs cs sp wv (tickR R).S R.room R.cap (tickR R).wait (tickR R).row ∧ ∀ b, wv.ownBlock = some b → w.heap.size ≤ b := by
  obtain ⟨L, hn6, hL, hinv⟩ := hr
  have hok0 : ∀ i, i < R.S.length → okS (sAt R.S i) := fun i hi => (hinv.has.2 i hi).1
  have hpool := poolE_0.1 hinv.pool
  have HWt : Hid (R.wait = R.row.length) := hinv.waits
  have HSd : Hid (∀ (i : Nat) (u : World), i < R.S.length → Calls Tryd.prog 19 #[.agg #[.int .i64 (sAt R.S i).1, .int .i64 (sAt R.S i).2.1, .int .i64 (sAt R.S i).2.2.1, .int .i64 (sAt R.S i).2.2.2]] u fun e w' => e = .returned (.tuple #[.agg #[.int .i64 (sentS (sAt R.S i)).1, .int .i64 (sentS (sAt R.S i)).2.1, .int .i64 (sentS (sAt R.S i)).2.2.1, .int .i64 (sentS (sAt R.S i)).2.2.2], .int .i64 (goS (sAt R.S i))]) ∧ Below u.heap.size u w') := fun i u hi => RSendS_any _ _ _ _ u (hok0 i hi)
  have HGo : Hid (∀ i, i < R.S.length → 0 ≤ goS (sAt R.S i) ∧ goS (sAt R.S i) ≤ 10000) := fun i hi => by
    have := go_bd (hok0 i hi); have := srcE_0.1 (hok0 i hi); omega
  have HRS : Hid (∀ i, i < R.S.length → rowSI R (i + 1) = rowSI R i ++ List.replicate (goS (sAt R.S i)).toNat i) := fun i hi => rowSI_step R hi
  have HSI : Hid (∀ i, i < R.S.length → (sentI R.S i).set i (sentS (sAt R.S i)) = sentI R.S (i + 1)) := fun i hi => sentI_set hi
  have HSA : Hid (∀ i, i < R.S.length → sAt (sentI R.S i) i = sAt R.S i) := fun i hi => sentI_at hi
  have HSL : Hid (∀ i, (sentI R.S i).length = R.S.length) := fun i => sentI_length R.S i
  have HRB : Hid (∀ i, i ≤ R.S.length → (rowSI R i).length ≤ R.row.length + 1000 * i ∧ R.row.length ≤ (rowSI R i).length) := rowSI_bd hok0
  have HST : Hid (InT w (w.alloc (.cells #[.int .i64 0, .int .i64 0, .int .i64 0] 37)) g gs cs sp rv rv (sentI R.S 0) R.room R.cap R.wait (rowSI R 0)) := by rw [sentI_0, rowSI_0]; exact InT.start hat
  have hq := half_room hpool.1
  have hrl : R.row.length ≤ 10000 := by have := HWt.out; omega
  obtain ⟨i0, hi0, hz0, hz1, hz2⟩ := info_parts infoInt
  obtain ⟨c0, c1, c2, c3, c4, f0, f1, gl, sl, a4, e4, hrv⟩ := HST.out.ref.five
  have HFl : Hid (∀ u : World, Calls Tryd.prog 20 #[.agg #[.int .i64 R.room, .int .i64 R.cap, .int .i64 R.wait], .int .i64 (((rowR R).length : Int) - R.row.length)] u fun e w' => e = .returned (.tuple #[.agg #[.int .i64 R.room, .int .i64 R.cap, .int .i64 (waitR R (rowR R).length)], .agg #[.int .i64 (wentR R (rowR R).length), .int .i64 (lostR R (rowR R).length), .int .i64 (waitR R (rowR R).length)]]) ∧ Below u.heap.size u w') := fun u => by
    have hb := HRB.out _ (Nat.le_refl _)
    rw [rowSI_all] at hb
    have hwt := HWt.out
    have := RFlow_any R.room R.cap R.wait (((rowR R).length : Int) - R.row.length) u hinv.pool (by omega) (by omega)
    rw [show R.wait + (((rowR R).length : Int) - R.row.length) = (rowR R).length by omega, lostP_R] at this
    exact this
  clear hat hok0
  go_enter Tryd.func7, Tryd.ntmps7
  go_wp2_with fail
  go_quiet (fail)
  have HS1 : Hid (InT w ((w.alloc (.cells #[.int .i64 0, .int .i64 0, .int .i64 0] 37)).drewN nq) g gs cs sp rv rv (sentI R.S 0) R.room R.cap R.wait (rowSI R 0)) := HST.out.later (below_drewN (Below.refl _ _) _)
  generalize (w.alloc (.cells #[.int .i64 0, .int .i64 0, .int .i64 0] 37)).drewN nq = w1 at *
  clear c0 c1 c2 c3 c4 f0 f1 gl sl
  go_wp2
  go_loopw [4, 5, 6, 7, 8] (fun s4 s5 _ _ _ wr => ∃ (i : Nat) (rv' : Value), i ≤ R.S.length ∧ s5 = .int .i64 i ∧ s4 = .int .i64 (((rowSI R i).length : Int) - R.row.length) ∧ Hid (InT w wr g gs cs sp rv rv' (sentI R.S i) R.room R.cap R.wait (rowSI R i))) (fun _ s5 _ _ _ _ => R.S.length - (intOf s5).toNat)
  case atStart => exact ⟨0, rv, by omega, rfl, by rw [rowSI_0, Int.sub_self], HS1⟩
  case round =>
    clear HS1 HST
    obtain ⟨i, rv', hi, rfl, rfl, hT⟩ := hrel
    obtain ⟨c0, c1, c2, c3, c4, f0, f1, gl, sl, a4', e4', hrv'⟩ := hT.out.ref.five
    rw [HSL.out i] at c0
    by_cases hlt : i < R.S.length
    · have hsr := row_src hT.out.ref.srcs (i := i) (by rw [HSL.out]; exact hlt)
      rw [HSA.out i hlt] at hsr
      obtain ⟨s0, s1, s2, s3⟩ := hsr
      have HSd1 : Hid (∀ u : World, Calls Tryd.prog 19 #[.agg #[.int .i64 (sAt R.S i).1, .int .i64 (sAt R.S i).2.1, .int .i64 (sAt R.S i).2.2.1, .int .i64 (sAt R.S i).2.2.2]] u fun e w' => e = .returned (.tuple #[.agg #[.int .i64 (sentS (sAt R.S i)).1, .int .i64 (sentS (sAt R.S i)).2.1, .int .i64 (sentS (sAt R.S i)).2.2.1, .int .i64 (sentS (sAt R.S i)).2.2.2], .int .i64 (goS (sAt R.S i))]) ∧ Below u.heap.size u w') := fun u => HSd.out i u hlt
      obtain ⟨go0, go1⟩ := HGo.out i hlt
      have HR1 := HRS.out i hlt
      have HI1 := HSI.out i hlt
      obtain ⟨rb1, rb2⟩ := HRB.out i hi
      have HSl : Hid ((sentI R.S i).length = R.S.length) := HSL.out i
      generalize sAt R.S i = s at *
      obtain ⟨q, hq4⟩ : ∃ q, sentS s = q := ⟨_, rfl⟩
      rw [hq4] at HSd1 HI1
      clear hq4
      generalize goS s = gn at *
      go_wp2_with fail
      refine (HSd1.out _).mono ?_
      rintro e w2 ⟨rfl, hw2⟩
      have T2 : Hid (InT w (w2.alloc (.cells #[.int .i64 q.1, .int .i64 q.2.1, .int .i64 q.2.2.1, .int .i64 q.2.2.2] 43)) g gs cs sp rv rv' (sentI R.S i) R.room R.cap R.wait (rowSI R i)) := hT.out.later (hw2.alloc (hw2.size) _)
      have z2 : wr.heap.size ≤ w2.heap.size := hw2.size
      clear hw2 c0 c1 c2 c3 c4 f0 f1 s0 s1 s2 s3
      obtain ⟨c0, c1, c2, c3, c4, f0, f1, gl2, sl2, _⟩ := T2.out.ref.five
      rw [HSl.out] at c0
      have hsr := row_src T2.out.ref.srcs (i := i) (by rw [HSl.out]; exact hlt)
      obtain ⟨s0, s1, s2, s3⟩ := hsr
      have n0 : (w2.alloc (.cells #[.int .i64 q.1, .int .i64 q.2.1, .int .i64 q.2.2.1, .int .i64 q.2.2.2] 43)).cell? ⟨w2.heap.size, 0, none⟩ = some (.int .i64 q.1) := by simp
      have T3 : Hid (InT w ((((((w2.alloc (.cells #[.int .i64 q.1, .int .i64 q.2.1, .int .i64 q.2.2.1, .int .i64 q.2.2.2] 43)).setCell ⟨gs, i * 4, none⟩ (.int .i64 q.1)).setCell ⟨gs, i * 4 + 1, none⟩ (.int .i64 q.2.1)).setCell ⟨gs, i * 4 + 2, none⟩ (.int .i64 q.2.2.1)).setCell ⟨gs, i * 4 + 3, none⟩ (.int .i64 q.2.2.2)).drew) g gs cs sp rv rv' (sentI R.S (i + 1)) R.room R.cap R.wait (rowSI R i)) := (T2.out.setS (by rw [HSl.out]; exact hlt) q HI1.symm).later (Below.refl _ _).drew
      go_wp2_with fail
      go_region
      generalize ((((((w2.alloc (.cells #[.int .i64 q.1, .int .i64 q.2.1, .int .i64 q.2.2.1, .int .i64 q.2.2.2] 43)).setCell ⟨gs, i * 4, none⟩ (.int .i64 q.1)).setCell ⟨gs, i * 4 + 1, none⟩ (.int .i64 q.2.1)).setCell ⟨gs, i * 4 + 2, none⟩ (.int .i64 q.2.2.1)).setCell ⟨gs, i * 4 + 3, none⟩ (.int .i64 q.2.2.2)).drew) = w3 at *
      clear c0 c1 c2 c3 c4 f0 f1 gl2 sl2 s0 s1 s2 s3 n0 T2 hT z2
      obtain ⟨m, rfl⟩ : ∃ m : Nat, gn = m := ⟨gn.toNat, by omega⟩
      rw [Int.toNat_natCast] at HR1
      go_wp2
      go_loopw [8] (fun s8 wr => ∃ (k : Nat) (rv' : Value), k ≤ m ∧ s8 = .int .i64 k ∧ Hid (InT w wr g gs cs sp rv rv' (sentI R.S (i + 1)) R.room R.cap R.wait (rowSI R i ++ List.replicate k i))) (fun s8 _ => m - (intOf s8).toNat)
      case atStart => exact ⟨0, rv', by omega, rfl, by simpa [Hid] using T3.out⟩
      case round =>
        clear T3
        obtain ⟨k, rv2, hk, rfl, hT⟩ := hrel
        obtain ⟨c0, c1, c2, c3, c4, f0, f1, gl, sl, a5, e5, hrv2⟩ := hT.out.ref.five
        by_cases hkl : k < m
        · have hln : (rowSI R i ++ List.replicate k i).length = (rowSI R i).length + k := by simp
          rw [hln] at hrv2
          subst hrv2
          have ho := hT.out.ref.rows
          rw [hln] at ho
          have HO : Hid (World.ownsRow wr 0 3 1 (.slice a5 ((rowSI R i).length + k) e5) ((rowSI R i).length + k) (natsV (rowSI R i ++ List.replicate k i))) := ho
          clear ho hln
          go_wp2_with (at_builtin; go_must (refine wpList_append_own_at _ rfl (.tmp 62) (.tmp 64) 33 rfl 0 3 i0 (.int .i64 0) 1 8 Tryd.underlying33 hi0 hz0 hz1 hz2 rfl (by decide) _ _ _ rfl (HO.out.alloc _) ⟨_, 0, none⟩ 1 1 [.int .i64 i] rfl rfl (new1 _ _ _ _ ?c1) (by intro u hu; simp at hu; subst hu; rfl) (by unfold maxLen; omega) (by omega) ?c2 ?_))
          case c1 => simp
          case c2 => exact Nat.zero_le _
          intro v' wg hown' hgrow _ hat'
          have T4 : Hid (InT w (wg.setCell ⟨g, 4, none⟩ v') g gs cs sp rv v' (sentI R.S (i + 1)) R.room R.cap R.wait (rowSI R i ++ List.replicate (k + 1) i)) := by
            have e : rowSI R i ++ List.replicate (k + 1) i = (rowSI R i ++ List.replicate k i) ++ [i] := by rw [List.replicate_succ', List.append_assoc]
            rw [e]
            refine hT.out.snoc (by simpa [Nat.add_assoc] using hown') hgrow (by simpa using hat')
          have G4 := hT.out.grown hgrow
          have g4 := G4.cell (i := 4) rfl
          have h4 := G4.frozen 4
          have l4 := G4.lt
          obtain ⟨a6, e6, rfl⟩ := own_slice hown'
          clear hown' hgrow hat' c0 c1 c2 c3 c4 f0 f1 sl gl G4 HO
          go_wp2
          go_roundw
          case rel => exact ⟨k + 1, _, by omega, by go_num, T4⟩
          case measure => simp [intOf]; omega
        · obtain rfl : k = m := by omega
          have hln : (rowSI R i ++ List.replicate k i) = rowSI R (i + 1) := HR1.symm
          have T5 : Hid (InT w wr g gs cs sp rv rv2 (sentI R.S (i + 1)) R.room R.cap R.wait (rowSI R (i + 1))) := by rw [← hln]; exact hT.out
          have hc := congrArg List.length HR1
          simp only [List.length_append, List.length_replicate] at hc
          have HCm : Hid (((rowSI R (i + 1)).length : Int) - R.row.length = ((rowSI R i).length : Int) - R.row.length + k) := by show _ = _; omega
          clear c0 c1 c2 c3 c4 f0 f1 hT hln hc hrv2
          go_wp2
          go_roundw
          case rel => exact ⟨i + 1, rv2, by omega, by go_num, by rw [HCm.out], T5⟩
          case measure => simp [intOf]; omega
    · obtain rfl : i = R.S.length := by omega
      have TA : Hid (InT w wr g gs cs sp rv rv' (handK R 0) R.room R.cap R.wait (rowR R)) := by
        have := hT.out
        rw [sentI_all, rowSI_all] at this
        exact this
      rw [rowSI_all]
      have hNb : (rowR R).length ≤ 20000 := by
        have hb := HRB.out _ (Nat.le_refl _)
        rw [rowSI_all] at hb
        omega
      clear hT HSd HGo HRS HSI HSA HRB
      clear HSL
      obtain ⟨N, hN⟩ : ∃ N, (rowR R).length = N := ⟨_, rfl⟩
      rw [hN] at hNb
      rw [hN] at HFl ⊢
      go_wp2_with fail
      refine (HFl.out _).mono ?_
      rintro e w2 ⟨rfl, hw2⟩
      have TB : Hid (InT w w2 g gs cs sp rv rv' (handK R 0) R.room R.cap R.wait (rowR R)) := TA.out.later hw2
      have z2 : wr.heap.size ≤ w2.heap.size := hw2.size
      clear hw2 c0 c1 c2 c3 c4 f0 f1 gl sl
      obtain ⟨c0, c1, c2, c3, c4, f0, f1, gl2, sl2, _⟩ := TB.out.ref.five
      have hk0 := handK_length R 0
      rw [hk0] at c0
      clear hk0
      obtain ⟨wn, hwn⟩ : ∃ wn : Nat, wentR R N = wn := ⟨(wentR R N).toNat, (Int.toNat_of_nonneg (went0 (by omega) (by omega))).symm⟩
      obtain ⟨wt, hwt⟩ : ∃ wt : Nat, waitR R N = wt := ⟨(waitR R N).toNat, (Int.toNat_of_nonneg (wait0 (by omega) (by omega))).symm⟩
      have hwnb : (wn : Int) ≤ 1000 := by have := went_le R N; omega
      have hwtb : (wt : Int) ≤ 10000 := by have := wait_le R N; omega
      have HSt : Hid (∀ k, k < N → ∃ i : Nat, (rowR R).getD k 0 = i ∧ i < R.S.length ∧ okS (sAt (handK R k) i) ∧
          (k < wn → handK R (k + 1) = (handK R k).set i (ackS (sAt (handK R k) i) (fastR R)) ∧ waitK R (k + 1) = waitK R k) ∧
          (¬ k < wn → k < wn + wt → handK R (k + 1) = handK R k ∧ waitK R (k + 1) = waitK R k ++ [i]) ∧
          (¬ k < wn → ¬ k < wn + wt → handK R (k + 1) = (handK R k).set i (losS (sAt (handK R k) i)) ∧ waitK R (k + 1) = waitK R k)) := fun k hk => by
        have hk' : k < (rowR R).length := by omega
        obtain ⟨o1, o2⟩ := handK_ok hL hinv k
        have h1 := handK_step R hk'
        have h2 := waitK_step R hk'
        rw [hN, hwn, hwt, Int.toNat_natCast, Int.toNat_natCast] at h1 h2
        refine ⟨_, rfl, o2 k hk', o1 _ (o2 k hk'), fun a => ?_, fun a b => ?_, fun a b => ?_⟩
        · rw [if_pos a] at h1; rw [if_neg (by omega)] at h2; exact ⟨h1, h2⟩
        · rw [if_neg a, if_pos b] at h1; rw [if_pos (by omega)] at h2; exact ⟨h1, h2⟩
        · rw [if_neg a, if_neg b] at h1; rw [if_neg (by omega)] at h2; exact ⟨h1, h2⟩
      have HLn : Hid (∀ k, (handK R k).length = R.S.length) := fun k => handK_length R k
      have HFin : Hid (handK R N = (tickR R).S ∧ waitK R N = (tickR R).row ∧ (tickR R).wait = (wt : Int)) := by
        refine ⟨by rw [← hN]; exact handK_all R, by rw [← hN]; exact waitK_all R, ?_⟩
        show waitR R (rowR R).length = _
        rw [hN, hwt]
      have HGv : Hid (goneV R = .agg #[.int .i64 wn, .int .i64 (lostR R N), .int .i64 wt]) := by show _ = _; rw [goneV, hN, hwn, hwt]
      have hfast : decide (R.wait ≤ R.room / 2) = fastR R := rfl
      rw [hwn, hwt]
      have TC : Hid (InT w ((((((w2.setCell ⟨g, 1, none⟩ (.int .i64 R.room)).setCell ⟨g, 2, none⟩ (.int .i64 R.cap)).setCell ⟨g, 3, none⟩ (.int .i64 wt)).alloc (.cells #[.int .i64 R.room, .int .i64 R.cap, .int .i64 wt] 24)).alloc (.cells #[.int .i64 wn, .int .i64 (lostR R N), .int .i64 wt] 37))) g gs cs sp rv rv' (handK R 0) R.room R.cap wt (rowR R)) :=
        (((TB.out.setP R.room R.cap wt).later ((Below.refl _ _).alloc (Nat.le_refl _) _)).later ((Below.refl _ _).alloc (Nat.le_refl _) _))
      have RG : Hid (RowAt ((((((w2.setCell ⟨g, 1, none⟩ (.int .i64 R.room)).setCell ⟨g, 2, none⟩ (.int .i64 R.cap)).setCell ⟨g, 3, none⟩ (.int .i64 wt)).alloc (.cells #[.int .i64 R.room, .int .i64 R.cap, .int .i64 wt] 24)).alloc (.cells #[.int .i64 wn, .int .i64 (lostR R N), .int .i64 wt] 37))) (w2.heap.size + 1) 37 [.int .i64 wn, .int .i64 (lostR R N), .int .i64 wt]) := row_made _ _ _ _ _ (by simp) rfl
      have hz3 : ((((((w2.setCell ⟨g, 1, none⟩ (.int .i64 R.room)).setCell ⟨g, 2, none⟩ (.int .i64 R.cap)).setCell ⟨g, 3, none⟩ (.int .i64 wt)).alloc (.cells #[.int .i64 R.room, .int .i64 R.cap, .int .i64 wt] 24)).alloc (.cells #[.int .i64 wn, .int .i64 (lostR R N), .int .i64 wt] 37))).heap.size = w2.heap.size + 2 := by simp
      have hzw : w.heap.size < w2.heap.size := TB.out.size
      have HOb : Hid (∀ b, rv'.ownBlock = some b → b < w2.heap.size + 2) := fun b hb => by have := owns_lt TB.out.ref.rows hb; omega
      clear hwn hwt TA TB HFl HWt hL hinv z2
      go_wp2_with fail
      generalize ((((((w2.setCell ⟨g, 1, none⟩ (.int .i64 R.room)).setCell ⟨g, 2, none⟩ (.int .i64 R.cap)).setCell ⟨g, 3, none⟩ (.int .i64 wt)).alloc (.cells #[.int .i64 R.room, .int .i64 R.cap, .int .i64 wt] 24)).alloc (.cells #[.int .i64 wn, .int .i64 (lostR R N), .int .i64 wt] 37))) = w3 at *
      clear c0 c1 c2 c3 c4 f0 f1 gl2 sl2
      go_loopw [11, 12, 13] (fun s11 s12 _ wr => ∃ k : Nat, k ≤ N ∧ s12 = .int .i64 k ∧ Hid (wr.ownsRow (w2.heap.size + 2) 3 1 s11 (waitK R k).length (natsV (waitK R k))) ∧ Hid (InT w wr g gs cs sp rv rv' (handK R k) R.room R.cap wt (rowR R)) ∧ Hid (RowAt wr (w2.heap.size + 1) 37 [.int .i64 wn, .int .i64 (lostR R N), .int .i64 wt]) ∧ Hid (w2.heap.size + 2 ≤ wr.heap.size)) (fun _ s12 _ _ => N - (intOf s12).toNat)
      case atStart => exact ⟨0, by omega, rfl, by rw [waitK_0]; exact World.ownsRow_nil _ _ _ _, TC, RG, by show _ ≤ _; omega⟩
      case round =>
        clear TC RG
        obtain ⟨k, hk, rfl, hO, hT, hG, hZ⟩ := hrel
        obtain ⟨c0, c1, c2, c3, c4, f0, f1, gl, sl, a5, e5, hrv2⟩ := hT.out.ref.five
        rw [HLn.out] at c0
        rw [hN] at hrv2
        obtain ⟨d0, d1, d2, _, _, _, dl⟩ := hG.out.three
        obtain ⟨aw, cw, hwv⟩ := own_slice hO.out
        by_cases hlt : k < N
        · obtain ⟨i, hrow, hin, hok, hA, hWm, hLm⟩ := HSt.out k hlt
          have hcl : ∃ gr, a5 = some ⟨gr, 0, none⟩ ∧ wr.cell? ⟨gr, k, none⟩ = some (.int .i64 i) := by
            have ho := hT.out.ref.rows
            rw [hrv2, hN] at ho
            exact owns_cell ho hlt (by rw [natsV_at _ _ (by omega), hrow])
          obtain ⟨gr, rfl, cr⟩ := hcl
          have hsr := row_src hT.out.ref.srcs (i := i) (by rw [HLn.out]; exact hin)
          obtain ⟨s0, s1, s2, s3⟩ := hsr
          rw [hrv2] at c4
          by_cases h1 : k < wn
          · obtain ⟨hA1, hA2⟩ := hA h1
            have HAk : Hid (∀ u : World, Calls Tryd.prog 21 #[.agg #[.int .i64 (sAt (handK R k) i).1, .int .i64 (sAt (handK R k) i).2.1, .int .i64 (sAt (handK R k) i).2.2.1, .int .i64 (sAt (handK R k) i).2.2.2], .bool (decide (R.wait ≤ R.room / 2))] u fun e w' => e = .returned (.agg #[.int .i64 (ackS (sAt (handK R k) i) (fastR R)).1, .int .i64 (ackS (sAt (handK R k) i) (fastR R)).2.1, .int .i64 (ackS (sAt (handK R k) i) (fastR R)).2.2.1, .int .i64 (ackS (sAt (handK R k) i) (fastR R)).2.2.2]) ∧ Below u.heap.size u w') := fun u => RAckS_any _ _ _ _ _ u hok
            have HCs : Hid (∀ u, Below wr.heap.size wr u → u.cell? ⟨g, 0, none⟩ = some (.slice (some ⟨gs, 0, none⟩) R.S.length cs) ∧ SrcAt u gs (i * 4) (sAt (handK R k) i) ∧ (∀ j, u.frozen? ⟨gs, j, none⟩ = false) ∧ g < u.heap.size ∧ gs < u.heap.size) := fun u hu => by
              have hT' := hT.out.later hu
              obtain ⟨x0, _, _, _, _, _, x1, x2, x3, _⟩ := hT'.ref.five
              rw [HLn.out] at x0
              exact ⟨x0, row_src hT'.ref.srcs (i := i) (by rw [HLn.out]; exact hin), x1, x2, x3⟩
            have HNx : Hid (∀ u, Below wr.heap.size wr u → InT w ((((u.setCell ⟨gs, i * 4, none⟩ (.int .i64 (ackS (sAt (handK R k) i) (fastR R)).1)).setCell ⟨gs, i * 4 + 1, none⟩ (.int .i64 (ackS (sAt (handK R k) i) (fastR R)).2.1)).setCell ⟨gs, i * 4 + 2, none⟩ (.int .i64 (ackS (sAt (handK R k) i) (fastR R)).2.2.1)).setCell ⟨gs, i * 4 + 3, none⟩ (.int .i64 (ackS (sAt (handK R k) i) (fastR R)).2.2.2)) g gs cs sp rv rv' (handK R (k + 1)) R.room R.cap wt (rowR R) ∧ World.ownsRow ((((u.setCell ⟨gs, i * 4, none⟩ (.int .i64 (ackS (sAt (handK R k) i) (fastR R)).1)).setCell ⟨gs, i * 4 + 1, none⟩ (.int .i64 (ackS (sAt (handK R k) i) (fastR R)).2.1)).setCell ⟨gs, i * 4 + 2, none⟩ (.int .i64 (ackS (sAt (handK R k) i) (fastR R)).2.2.1)).setCell ⟨gs, i * 4 + 3, none⟩ (.int .i64 (ackS (sAt (handK R k) i) (fastR R)).2.2.2)) (w2.heap.size + 2) 3 1 (.slice aw (waitK R k).length cw) (waitK R (k + 1)).length (natsV (waitK R (k + 1))) ∧ RowAt ((((u.setCell ⟨gs, i * 4, none⟩ (.int .i64 (ackS (sAt (handK R k) i) (fastR R)).1)).setCell ⟨gs, i * 4 + 1, none⟩ (.int .i64 (ackS (sAt (handK R k) i) (fastR R)).2.1)).setCell ⟨gs, i * 4 + 2, none⟩ (.int .i64 (ackS (sAt (handK R k) i) (fastR R)).2.2.1)).setCell ⟨gs, i * 4 + 3, none⟩ (.int .i64 (ackS (sAt (handK R k) i) (fastR R)).2.2.2)) (w2.heap.size + 1) 37 [.int .i64 wn, .int .i64 (lostR R N), .int .i64 wt] ∧ w2.heap.size + 2 ≤ ((((u.setCell ⟨gs, i * 4, none⟩ (.int .i64 (ackS (sAt (handK R k) i) (fastR R)).1)).setCell ⟨gs, i * 4 + 1, none⟩ (.int .i64 (ackS (sAt (handK R k) i) (fastR R)).2.1)).setCell ⟨gs, i * 4 + 2, none⟩ (.int .i64 (ackS (sAt (handK R k) i) (fastR R)).2.2.1)).setCell ⟨gs, i * 4 + 3, none⟩ (.int .i64 (ackS (sAt (handK R k) i) (fastR R)).2.2.2)).heap.size) := fun u hu => by
              have hgs : gs < w.heap.size := hT.out.old.2.1
              refine ⟨(hT.out.later hu).setS (by rw [HLn.out]; exact hin) (ackS (sAt (handK R k) i) (fastR R)) hA1, ?_, ?_, ?_⟩
              · rw [hA2]
                have ho := hO.out
                rw [hwv] at ho
                refine own_keeps (fun b h1 h2 => ?_) ho
                rw [stay_set _ _ _ _ _ (by omega), stay_set _ _ _ _ _ (by omega), stay_set _ _ _ _ _ (by omega), stay_set _ _ _ _ _ (by omega)]
                exact hu.block b h2
              · have h0 := hG.out.later hu hG.out.lt
                have hne : gs ≠ w2.heap.size + 1 := by omega
                exact (((h0.other (a := ⟨gs, i * 4, none⟩) hne _).other (a := ⟨gs, i * 4 + 1, none⟩) hne _).other (a := ⟨gs, i * 4 + 2, none⟩) hne _).other (a := ⟨gs, i * 4 + 3, none⟩) hne _
              · have := hu.size; have := hZ.out; simp; omega
            have P1 : Hid (Below wr.heap.size wr wr.drew) := (Below.refl _ _).drew
            subst hwv
            clear hA hWm hLm hA1 hA2 hok
            generalize hsq : sAt (handK R k) i = s at *
            clear hsq
            generalize (ackS s (fastR R)) = q at *
            go_wp2_with fail
            go_region_law (first | (go_simp; refine (HAk.out _).mono ?_; rintro e w4 ⟨rfl, hw4⟩; have Hb4 : Hid (Below wr.heap.size wr w4) := Bel.call P1.out (Nat.le_refl _) hw4; obtain ⟨y0, ⟨y1, y2, y3, y4⟩, y5, y6, y7⟩ := HCs.out _ Hb4.out))
            all_goals
              obtain ⟨N1, N2, N3, N4⟩ := HNx.out _ Hb4.out
              have M1 : Hid _ := N1
              have M2 : Hid _ := N2
              have M3 : Hid _ := N3
              have M4 : Hid _ := N4
              clear N1 N2 N3 N4 y0 y1 y2 y3 y4 y5 y6 y7 hw4 Hb4
              go_wp2
              go_roundw
              case rel => exact ⟨k + 1, by omega, by go_num, M2, M1, M3, M4⟩
              case measure => simp [intOf]; omega
          · by_cases h2 : k < wn + wt
            · obtain ⟨hA1, hA2⟩ := hWm h1 h2
              have hwl : (waitK R k).length ≤ 20000 := by
                have : (waitK R k).length ≤ ((rowR R).take k).length := by unfold waitK; simp only [List.length_take, List.length_drop]; omega
                rw [List.length_take] at this; omega
              have ho := hO.out
              rw [hwv] at ho
              have HO : Hid (wr.ownsRow (w2.heap.size + 2) 3 1 (.slice aw (waitK R k).length cw) (waitK R k).length (natsV (waitK R k))) := ho
              subst hwv
              clear ho hA hWm hLm hok hO s0 s1 s2 s3
              go_wp2_with (at_builtin; go_must (refine wpList_append_own _ rfl (.tmp 126) (.tmp 128) 33 rfl (w2.heap.size + 2) 3 i0 (.int .i64 0) 1 8 Tryd.underlying33 hi0 hz0 hz1 hz2 rfl (by decide) _ _ _ rfl (HO.out.alloc _) ⟨_, 0, none⟩ 1 1 [.int .i64 i] rfl rfl (new1 _ _ _ _ ?c1) (by intro u hu; simp at hu; subst hu; rfl) (by unfold maxLen; omega) (by omega) ?c2 ?_))
              case c1 => simp
              case c2 => have := hZ.out; simp; omega
              intro v' wg hown' hgrow _
              have hB := grew1 (B := w2.heap.size + 2) hZ.out hgrow (fun b hb => (HO.out.lt b hb).1)
              have M1 : Hid (InT w wg g gs cs sp rv rv' (handK R (k + 1)) R.room R.cap wt (rowR R)) := by rw [hA1]; exact hT.out.above hB (by omega) HOb.out
              have M2 : Hid (wg.ownsRow (w2.heap.size + 2) 3 1 v' (waitK R (k + 1)).length (natsV (waitK R (k + 1)))) := by
                show World.ownsRow _ _ _ _ _ _ _
                rw [hA2, natsV_snoc]
                simpa using hown'
              have M3 : Hid (RowAt wg (w2.heap.size + 1) 37 [.int .i64 wn, .int .i64 (lostR R N), .int .i64 wt]) := hG.out.later hB (by omega)
              have M4 : Hid (w2.heap.size + 2 ≤ wg.heap.size) := Nat.le_trans hZ.out hB.size
              clear hown' hgrow hB hA1 hA2 c0 c1 c2 c3 c4 f0 f1 cr d0 d1 d2
              go_wp2
              go_roundw
              case rel => exact ⟨k + 1, by omega, by go_num, M2, M1, M3, M4⟩
              case measure => simp [intOf]; omega
            · obtain ⟨hA1, hA2⟩ := hLm h1 h2
              have HAk : Hid (∀ u : World, Calls Tryd.prog 22 #[.agg #[.int .i64 (sAt (handK R k) i).1, .int .i64 (sAt (handK R k) i).2.1, .int .i64 (sAt (handK R k) i).2.2.1, .int .i64 (sAt (handK R k) i).2.2.2]] u fun e w' => e = .returned (.agg #[.int .i64 (losS (sAt (handK R k) i)).1, .int .i64 (losS (sAt (handK R k) i)).2.1, .int .i64 (losS (sAt (handK R k) i)).2.2.1, .int .i64 (losS (sAt (handK R k) i)).2.2.2]) ∧ Below u.heap.size u w') := fun u => RLostS_any _ _ _ _ u hok
              have HCs : Hid (∀ u, Below wr.heap.size wr u → u.cell? ⟨g, 0, none⟩ = some (.slice (some ⟨gs, 0, none⟩) R.S.length cs) ∧ SrcAt u gs (i * 4) (sAt (handK R k) i) ∧ (∀ j, u.frozen? ⟨gs, j, none⟩ = false) ∧ g < u.heap.size ∧ gs < u.heap.size) := fun u hu => by
                have hT' := hT.out.later hu
                obtain ⟨x0, _, _, _, _, _, x1, x2, x3, _⟩ := hT'.ref.five
                rw [HLn.out] at x0
                exact ⟨x0, row_src hT'.ref.srcs (i := i) (by rw [HLn.out]; exact hin), x1, x2, x3⟩
              have HNx : Hid (∀ u, Below wr.heap.size wr u → InT w ((((u.setCell ⟨gs, i * 4, none⟩ (.int .i64 (losS (sAt (handK R k) i)).1)).setCell ⟨gs, i * 4 + 1, none⟩ (.int .i64 (losS (sAt (handK R k) i)).2.1)).setCell ⟨gs, i * 4 + 2, none⟩ (.int .i64 (losS (sAt (handK R k) i)).2.2.1)).setCell ⟨gs, i * 4 + 3, none⟩ (.int .i64 (losS (sAt (handK R k) i)).2.2.2)) g gs cs sp rv rv' (handK R (k + 1)) R.room R.cap wt (rowR R) ∧ World.ownsRow ((((u.setCell ⟨gs, i * 4, none⟩ (.int .i64 (losS (sAt (handK R k) i)).1)).setCell ⟨gs, i * 4 + 1, none⟩ (.int .i64 (losS (sAt (handK R k) i)).2.1)).setCell ⟨gs, i * 4 + 2, none⟩ (.int .i64 (losS (sAt (handK R k) i)).2.2.1)).setCell ⟨gs, i * 4 + 3, none⟩ (.int .i64 (losS (sAt (handK R k) i)).2.2.2)) (w2.heap.size + 2) 3 1 (.slice aw (waitK R k).length cw) (waitK R (k + 1)).length (natsV (waitK R (k + 1))) ∧ RowAt ((((u.setCell ⟨gs, i * 4, none⟩ (.int .i64 (losS (sAt (handK R k) i)).1)).setCell ⟨gs, i * 4 + 1, none⟩ (.int .i64 (losS (sAt (handK R k) i)).2.1)).setCell ⟨gs, i * 4 + 2, none⟩ (.int .i64 (losS (sAt (handK R k) i)).2.2.1)).setCell ⟨gs, i * 4 + 3, none⟩ (.int .i64 (losS (sAt (handK R k) i)).2.2.2)) (w2.heap.size + 1) 37 [.int .i64 wn, .int .i64 (lostR R N), .int .i64 wt] ∧ w2.heap.size + 2 ≤ ((((u.setCell ⟨gs, i * 4, none⟩ (.int .i64 (losS (sAt (handK R k) i)).1)).setCell ⟨gs, i * 4 + 1, none⟩ (.int .i64 (losS (sAt (handK R k) i)).2.1)).setCell ⟨gs, i * 4 + 2, none⟩ (.int .i64 (losS (sAt (handK R k) i)).2.2.1)).setCell ⟨gs, i * 4 + 3, none⟩ (.int .i64 (losS (sAt (handK R k) i)).2.2.2)).heap.size) := fun u hu => by
                have hgs : gs < w.heap.size := hT.out.old.2.1
                refine ⟨(hT.out.later hu).setS (by rw [HLn.out]; exact hin) (losS (sAt (handK R k) i)) hA1, ?_, ?_, ?_⟩
                · rw [hA2]
                  have ho := hO.out
                  rw [hwv] at ho
                  refine own_keeps (fun b h1 h2 => ?_) ho
                  rw [stay_set _ _ _ _ _ (by omega), stay_set _ _ _ _ _ (by omega), stay_set _ _ _ _ _ (by omega), stay_set _ _ _ _ _ (by omega)]
                  exact hu.block b h2
                · have h0 := hG.out.later hu hG.out.lt
                  have hne : gs ≠ w2.heap.size + 1 := by omega
                  exact (((h0.other (a := ⟨gs, i * 4, none⟩) hne _).other (a := ⟨gs, i * 4 + 1, none⟩) hne _).other (a := ⟨gs, i * 4 + 2, none⟩) hne _).other (a := ⟨gs, i * 4 + 3, none⟩) hne _
                · have := hu.size; have := hZ.out; simp; omega
              have P1 : Hid (Below wr.heap.size wr wr.drew) := (Below.refl _ _).drew
              subst hwv
              clear hA hWm hLm hA1 hA2 hok
              generalize hsq : sAt (handK R k) i = s at *
              clear hsq
              generalize (losS s) = q at *
              go_wp2_with fail
              go_region_law (first | (go_simp; refine (HAk.out _).mono ?_; rintro e w4 ⟨rfl, hw4⟩; have Hb4 : Hid (Below wr.heap.size wr w4) := Bel.call P1.out (Nat.le_refl _) hw4; obtain ⟨y0, ⟨y1, y2, y3, y4⟩, y5, y6, y7⟩ := HCs.out _ Hb4.out))
              all_goals
                obtain ⟨N1, N2, N3, N4⟩ := HNx.out _ Hb4.out
                have M1 : Hid _ := N1
                have M2 : Hid _ := N2
                have M3 : Hid _ := N3
                have M4 : Hid _ := N4
                clear N1 N2 N3 N4 y0 y1 y2 y3 y4 y5 y6 y7 hw4 Hb4
                go_wp2
                go_roundw
                case rel => exact ⟨k + 1, by omega, by go_num, M2, M1, M3, M4⟩
                case measure => simp [intOf]; omega
        · obtain rfl : k = N := by omega
          obtain ⟨F1, F2, F3⟩ := HFin.out
          have ho := hO.out
          rw [hwv, F2] at ho
          have hT2 := hT.out
          rw [F1] at hT2
          obtain ⟨X1, X2, X3⟩ := hT2.fin (B := w2.heap.size + 2) (by omega) (row' := (tickR R).row) (by rw [← F2] at ho ⊢; exact ho) wn (lostR R k) wt
          have Y1 : Hid _ := X1
          have Y2 : Hid _ := X2
          have Y3 : Hid _ := X3
          have rr := hT2.res
          obtain ⟨r0, r1, r2, rf0, rf1, rf2, rl⟩ := rr.three
          rw [hrv2] at c4
          have HGo2 : Hid ((tickR R).wait = (wt : Int)) := F3
          have hgw : g ≠ w.heap.size := by have := hT2.old.1; omega
          have hW1 : w2.heap.size + 1 ≠ w.heap.size := by omega
          have hW2 : w2.heap.size + 1 ≠ g := by have := hT2.old.1; omega
          subst hwv
          clear X1 X2 X3 hT2 ho F1 F2 F3 HFin hT hO hG HSt
          go_wp2
          refine bodyPost_ret (v := .agg #[.int .i64 wn, .int .i64 (lostR R k), .int .i64 wt]) (by simp [results, Tryd.results7, go_sem, *]) rfl ⟨by rw [HGv.out], _, Y1.out, ?_, Y3.out⟩
          rw [HGo2.out]
          exact Y2.out
/-- the document's road keeps what is asked of a road's Tick -/
theorem RTickR_said (p : Value) (F : Nat → Prop) (R : Road) (w : World) (hi : RefInv w p F R) (hr : RightR R) :
    Calls Tryd.prog 7 #[p] w fun e w' => e = .returned (goneV R) ∧ Ticked RefX p F R w w' := by
  obtain ⟨g, gs, cs, sp, rv, rfl, hat, hF⟩ := hi
  refine (RTickR_any w g gs cs sp rv R hat hr).mono ?_
  rintro e w' ⟨he, wv, hb, ha, hn⟩
  have hbF : ButIn F w w' := ⟨hb.1, fun b h1 h2 => hb.2 b h1 (fun h => h2 ((hF b).2 h))⟩
  refine ⟨he, refF g gs wv, ⟨g, gs, cs, sp, wv, rfl, ha, fun b => Iff.rfl⟩, ?_, hbF⟩
  rintro b (rfl | rfl | h)
  · exact .inl ((hF _).2 (.inl rfl))
  · exact .inl ((hF _).2 (.inr (.inl rfl)))
  · exact .inr (hn b h)
end Ev
end Go.Proofs.YtkpmjmgmgkdfnajDoor
