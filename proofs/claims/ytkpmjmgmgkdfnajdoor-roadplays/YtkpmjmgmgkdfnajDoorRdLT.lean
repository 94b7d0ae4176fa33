/- Package road's Tick does what is asked of it. -/
import Derived.Test.YtkpmjmgmgkdfnajDoorPlains
import Derived.Test.YtkpmjmgmgkdfnajDoorRdLS
import Derived.Test.YtkpmjmgmgkdfnajDoorSoK
import Derived.Test.YtkpmjmgmgkdfnajDoorSoL
import Derived.Test.YtkpmjmgmgkdfnajDoorPoT
import Derived.Deep.RegionHeld3
import Derived.Deep.QuietTactic
import Derived.BigQuiet
import Derived.Deep.DeepCutAuto
import Derived.Deep.RegionLaw
namespace Go.Proofs.YtkpmjmgmgkdfnajDoor
namespace Ev
open Go.RowKit Fr Ns Ld Fl
set_option linter.unusedSimpArgs false
set_option linter.unusedVariables false

set_option maxRecDepth 100000 in
set_option maxHeartbeats 16000000 in
theorem ltick_any (w : World) (g gs cs : Nat) (sp : List Value) (rv : Value) (R : Road) (hat : LandAt w g gs cs sp rv R.S R.room R.cap R.wait R.row) (hr : RightR R) :
    Calls Tryd.prog 8 #[.pointer (some ⟨g, 0, none⟩)] w fun e w' => e = .returned (goneV R) ∧ ∃ wv, ButIn (refF g gs rv) w w' ∧ LandAt w' g gs cs sp wv (tickR R).S R.room R.cap (tickR R).wait (tickR R).row ∧ ∀ b, wv.ownBlock = some b → rv.ownBlock = some b ∨ w.heap.size ≤ b := by
  obtain ⟨L, hn6, hL, hinv⟩ := id hr
  have hpool := poolE_0.1 hinv.pool
  have HWt : Hid (R.wait = R.row.length) := hinv.waits
  have hrl : R.row.length ≤ 10000 := by have := HWt.out; omega
  have HSt : Hid (∀ u : World, LandAt u g gs cs sp rv R.S R.room R.cap R.wait R.row → Calls Tryd.prog 23 #[.pointer (some ⟨g, 0, none⟩)] u fun e w' => ∃ qv, e = .returned qv ∧ InL u w' g gs cs sp rv qv (R.S.map sentS) R.room R.cap R.wait (rowR R)) := fun u hu => lsent_any u g gs cs sp rv R hu hr
  have hN0 : (rowR R).length ≤ R.row.length + 6000 ∧ R.row.length ≤ (rowR R).length := by
    have := rowSI_bd (fun i hi => (hinv.has.2 i hi).1) R.S.length (Nat.le_refl _)
    rw [rowSI_all] at this
    omega
  obtain ⟨N, hN⟩ : ∃ N, N = (rowR R).length := ⟨_, rfl⟩
  obtain ⟨w1', w2', w3'⟩ := wentL (R := R) (n := (N : Int)) (by omega) (by omega)
  obtain ⟨v1', v2', v3'⟩ := waitL (R := R) (n := (N : Int)) (by omega) (by omega) (by omega)
  obtain ⟨wn, hwn⟩ : ∃ wn : Nat, wentR R (N : Int) = wn := ⟨(wentR R (N : Int)).toNat, by omega⟩
  obtain ⟨wt, hwt⟩ : ∃ wt : Nat, waitR R (N : Int) = wt := ⟨(waitR R (N : Int)).toNat, by omega⟩
  obtain ⟨ls, hls⟩ : ∃ ls : Int, lostR R (N : Int) = ls := ⟨_, rfl⟩
  have HTk : Hid (∀ u : World, Calls Tryd.prog 24 #[.agg #[.int .i64 R.room, .int .i64 R.cap, .int .i64 R.wait], .int .i64 ((N : Int) - R.row.length)] u fun e w' => e = .returned (.tuple #[.agg #[.int .i64 R.room, .int .i64 R.cap, .int .i64 wt], .agg #[.int .i64 wn, .int .i64 ls, .int .i64 wt], .nilIface]) ∧ Below u.heap.size u w') := fun u => by
    have hw0 := HWt.out
    have := ptick_said R.room R.cap R.wait ((N : Int) - R.row.length) u
    have he : ptickE R.room R.cap R.wait ((N : Int) - R.row.length) = 0 := by rw [ptickE, if_pos hinv.pool, if_neg (by omega)]
    rw [he, errV_0, show R.wait + ((N : Int) - R.row.length) = N by omega, lostL, hls] at this
    rw [← hwn, ← hwt]
    exact this
  have HAk : Hid (∀ k, k < N → ∃ i, (rowR R).getD k 0 = i ∧ i < R.S.length ∧ (∀ (f : Bool) (u : World), Calls Tryd.prog 25 #[.agg #[.int .i64 (sAt (handK R k) i).1, .int .i64 (sAt (handK R k) i).2.1, .int .i64 (sAt (handK R k) i).2.2.1, .int .i64 (sAt (handK R k) i).2.2.2], .bool f] u fun e w' => e = .returned (.tuple #[.agg #[.int .i64 (ackS (sAt (handK R k) i) f).1, .int .i64 (ackS (sAt (handK R k) i) f).2.1, .int .i64 (ackS (sAt (handK R k) i) f).2.2.1, .int .i64 (ackS (sAt (handK R k) i) f).2.2.2], .nilIface]) ∧ Below u.heap.size u w') ∧ (∀ u : World, Calls Tryd.prog 26 #[.agg #[.int .i64 (sAt (handK R k) i).1, .int .i64 (sAt (handK R k) i).2.1, .int .i64 (sAt (handK R k) i).2.2.1, .int .i64 (sAt (handK R k) i).2.2.2]] u fun e w' => e = .returned (.tuple #[.agg #[.int .i64 (losS (sAt (handK R k) i)).1, .int .i64 (losS (sAt (handK R k) i)).2.1, .int .i64 (losS (sAt (handK R k) i)).2.2.1, .int .i64 (losS (sAt (handK R k) i)).2.2.2], .nilIface]) ∧ Below u.heap.size u w') ∧ (k < wn → handK R (k + 1) = (handK R k).set i (ackS (sAt (handK R k) i) (fastR R))) ∧ (wn + wt ≤ k → handK R (k + 1) = (handK R k).set i (losS (sAt (handK R k) i)))) := fun k hk => by
    obtain ⟨h1, h2, h3, h4, h5⟩ := handK_has hL hinv (k := k) (by omega)
    have hst := handK_step R (k := k) (by omega)
    rw [← hN, hwn, hwt] at hst
    simp only [Int.toNat_natCast] at hst
    refine ⟨_, rfl, h1, fun f u => ?_, fun u => ?_, fun hk1 => ?_, fun hk1 => ?_⟩
    · generalize sAt (handK R k) ((rowR R).getD k 0) = s at *
      unfold okS at h2
      have := sack_said s.1 s.2.1 s.2.2.1 s.2.2.2 f u
      rw [show ackE s.1 s.2.1 s.2.2.1 s.2.2.2 = 0 from by rw [ackE, if_pos h2, if_neg (by omega), if_neg (by omega)], errV_0] at this
      exact this
    · generalize sAt (handK R k) ((rowR R).getD k 0) = s at *
      unfold okS at h2
      have := slost_said s.1 s.2.1 s.2.2.1 s.2.2.2 u
      rw [show losE s.1 s.2.1 s.2.2.1 s.2.2.2 = 0 from by rw [losE, if_pos h2, if_neg (by omega), if_neg (by omega)], errV_0] at this
      exact this
    · rw [hst, if_pos hk1]
    · rw [hst, if_neg (by omega), if_neg (by omega)]
  have HLn : Hid (∀ k, (handK R k).length = R.S.length) := handK_length R
  have HBd : Hid (handK R (wn + wt) = handK R wn) := by
    have := handK_wait R wt
    rw [← hN, hwn, hwt] at this
    simp only [Int.toNat_natCast] at this
    exact this (by omega) (Nat.le_refl _)
  have HFin : Hid (handK R N = (tickR R).S ∧ ((natsV (rowR R)).drop wn).take (wn + wt - wn) = natsV (tickR R).row ∧ (tickR R).wait = (wt : Int) ∧ (tickR R).row.length = wt) := by
    have e1 := handK_all R
    have e3 : (tickR R).wait = waitR R (rowR R).length := rfl
    have e2 : (tickR R).row = ((rowR R).drop (wentR R (rowR R).length).toNat).take (waitR R (rowR R).length).toNat := rfl
    rw [← hN] at e1 e2 e3
    rw [hwn, hwt] at e2
    rw [hwt] at e3
    simp only [Int.toNat_natCast] at e2
    refine ⟨e1, ?_, e3, ?_⟩
    · rw [e2, Nat.add_sub_cancel_left]
      simp [natsV, List.map_take, List.map_drop]
    · rw [e2, List.length_take, List.length_drop, ← hN]; omega
  have HGv : Hid (goneV R = .agg #[.int .i64 wn, .int .i64 ls, .int .i64 wt]) := by
    show goneV R = _
    unfold goneV
    rw [← hN, hwn, hwt, hls]
  have HRN : Hid ((natsV (rowR R)).length = N) := by show _ = _; rw [hN]; simp [natsV]
  have HRA : Hid (∀ k i, k < N → (rowR R).getD k 0 = i → (natsV (rowR R))[k]? = some (.int .i64 (i : Int))) := fun k i hk he => by
    rw [hN] at hk
    rw [← he]; simp [natsV, List.getD, List.getElem?_eq_getElem hk]
  have hq := halfL hpool.1
  have HF : Hid (decide (R.wait ≤ R.room / 2) = fastR R) := rfl
  have B0 : Below w.heap.size w (w.alloc (.cells #[.int .i64 0, .int .i64 0, .int .i64 0] 37)) := (Below.refl _ _).alloc (Nat.le_refl _) _
  have HS0 : LandAt (w.alloc (.cells #[.int .i64 0, .int .i64 0, .int .i64 0] 37)) g gs cs sp rv R.S R.room R.cap R.wait R.row := hat.keep (fun b hb => B0.block b (hat.lt b hb))
  have HR0 : RowAt (w.alloc (.cells #[.int .i64 0, .int .i64 0, .int .i64 0] 37)) w.heap.size 37 [.int .i64 0, .int .i64 0, .int .i64 0] := row_made w _ _ _ _ rfl rfl
  have HOl : Hid (∀ b, refF g gs rv b → b < w.heap.size) := hat.lt
  obtain ⟨c0, c1, c2, c3, c4, f0, f1, gl, sl, -⟩ := (InL.start HS0).five
  have P0 : Hid (∀ n, LandAt ((w.alloc (.cells #[.int .i64 0, .int .i64 0, .int .i64 0] 37)).drewN n) g gs cs sp rv R.S R.room R.cap R.wait R.row ∧ RowAt ((w.alloc (.cells #[.int .i64 0, .int .i64 0, .int .i64 0] 37)).drewN n) w.heap.size 37 [.int .i64 0, .int .i64 0, .int .i64 0] ∧ Below w.heap.size w ((w.alloc (.cells #[.int .i64 0, .int .i64 0, .int .i64 0] 37)).drewN n)) := fun n => by
    have hb : Below (w.alloc (.cells #[.int .i64 0, .int .i64 0, .int .i64 0] 37)).heap.size _ _ := below_drewN (Below.refl _ (w.alloc (.cells #[.int .i64 0, .int .i64 0, .int .i64 0] 37))) n
    exact ⟨HS0.keep (fun b hb' => hb.block b (HS0.lt b hb')), HR0.later hb HR0.lt, B0.trans (hb.mono (by simp))⟩
  obtain ⟨ar, cr, hrv⟩ := hat.rows.shape
  have Hrv : Hid (rv = .slice ar R.row.length cr) := hrv
  clear hat HS0 HR0 B0 hrv hr hinv
  go_enter Tryd.func8, Tryd.ntmps8
  go_wp2_with fail
  go_quiet (fail)
  obtain ⟨hl1, hr1, hb1⟩ := P0.out nq
  have HL1 : Hid (LandAt ((w.alloc (.cells #[.int .i64 0, .int .i64 0, .int .i64 0] 37)).drewN nq) g gs cs sp rv R.S R.room R.cap R.wait R.row) := hl1
  have HR1 : Hid (RowAt ((w.alloc (.cells #[.int .i64 0, .int .i64 0, .int .i64 0] 37)).drewN nq) w.heap.size 37 [.int .i64 0, .int .i64 0, .int .i64 0]) := hr1
  have HB1 : Hid (Below w.heap.size w ((w.alloc (.cells #[.int .i64 0, .int .i64 0, .int .i64 0] 37)).drewN nq)) := hb1
  clear hl1 hr1 hb1 P0
  generalize (w.alloc (.cells #[.int .i64 0, .int .i64 0, .int .i64 0] 37)).drewN nq = w1 at *
  clear c0 c1 c2 c3 c4 f0 f1 gl sl
  go_wp2_with fail
  refine (HSt.out w1 HL1.out).mono ?_
  rintro e w2 ⟨qv, rfl, hT⟩
  rw [← handK_0] at hT
  have T2 : Hid (InL w1 w2 g gs cs sp rv qv (handK R 0) R.room R.cap R.wait (rowR R)) := hT
  obtain ⟨aq, cq, hqv⟩ := hT.rows.shape
  rw [← hN] at hqv
  subst hqv
  obtain ⟨c0, c1, c2, c3, c4, f0, f1, gl, sl, -⟩ := hT.five
  rw [HLn.out] at c0
  rw [Hrv.out] at c4
  clear hT HSt HL1
  have HSA : Hid (∀ u : World, Below w2.heap.size w2 u → u.cell? ⟨g, 1, none⟩ = some (.int .i64 R.room) ∧ u.cell? ⟨g, 2, none⟩ = some (.int .i64 R.cap) ∧ u.cell? ⟨g, 3, none⟩ = some (.int .i64 R.wait) ∧ u.cell? ⟨g, 4, none⟩ = some (.slice ar R.row.length cr)) := fun u hu => ⟨cell_later hu c1, cell_later hu c2, cell_later hu c3, cell_later hu c4⟩
  have hB0 : Hid (w2.heap.size ≤ w2.heap.size) := Nat.le_refl _
  have P1 : Hid (Below w2.heap.size w2 w2.drew) := (Below.refl _ _).drew
  have qs : IntKind.i64.wrap ((N : Int) - R.row.length) = (N : Int) - R.row.length := by rw [IntKind.wrap_i64]; omega
  have HNw : Hid (N = (rowR R).length) := hN
  clear hN
  go_upto_region 3 with fail
  go_cut [5, 6, 7] (fun s5 s6 _ wc => ∃ g5 g6, s5 = .pointer (some ⟨g5, 0, none⟩) ∧ s6 = .pointer (some ⟨g6, 0, none⟩) ∧ Hid (w2.heap.size ≤ g5) ∧ (wc.cell? ⟨g5, 0, none⟩ = some (.int .i64 R.room) ∧ wc.cell? ⟨g5, 1, none⟩ = some (.int .i64 R.cap) ∧ wc.cell? ⟨g5, 2, none⟩ = some (.int .i64 wt)) ∧ Hid (w2.heap.size ≤ g6) ∧ (wc.cell? ⟨g6, 0, none⟩ = some (.int .i64 wn) ∧ wc.cell? ⟨g6, 1, none⟩ = some (.int .i64 ls) ∧ wc.cell? ⟨g6, 2, none⟩ = some (.int .i64 wt)) ∧ Hid (Below w2.heap.size w2 wc))
  case first =>
    as_aux_lemma =>
      clear HAk HLn HBd HFin HGv HRN HRA HF HOl HR1 HB1 T2 Hrv HNw HWt
      go_region_held3 (fun u => u.cell? ⟨g, 1, none⟩ = some (.int .i64 R.room) ∧ u.cell? ⟨g, 2, none⟩ = some (.int .i64 R.cap) ∧ u.cell? ⟨g, 3, none⟩ = some (.int .i64 R.wait) ∧ u.cell? ⟨g, 4, none⟩ = some (.slice ar R.row.length cr))
        ((refine HSA.out _ ?_; (repeat (first | (with_reducible exact P1.out) | (with_reducible exact Hbo.out) | (with_reducible refine Below.setCell ?_ (by first | omega | (simp <;> omega)) _) | (with_reducible refine Below.alloc ?_ (by first | omega | (simp <;> omega)) _) | (with_reducible refine Below.drew ?_) | (with_reducible exact Below.refl _ _))); done))
        (first | (go_at_call 24; refine (HTk.out _).mono ?_; rintro e wo ⟨rfl, hwo⟩; obtain ⟨hco, hfo⟩ := bcell hwo; have hzo : ∀ n, n < _ → n < wo.heap.size := fun n h => Nat.lt_of_lt_of_le h hwo.size; have Hbo : Hid (Below w2.heap.size w2 wo) := Bel.call (by (repeat (first | (with_reducible exact P1.out) | (with_reducible refine Below.setCell ?_ (by first | omega | (simp <;> omega)) _) | (with_reducible refine Below.alloc ?_ (by first | omega | (simp <;> omega)) _) | (with_reducible refine Below.drew ?_) | (with_reducible exact Below.refl _ _)))) hB0.out hwo; have yo := Nat.le_trans hB0.out Hbo.out.size))
      all_goals
        have hbw := Hbo.out
        go_wp2_with fail
        go_meet
        case rel =>
          refine ⟨_, _, rfl, rfl, ?_, ⟨?_, ?_, ?_⟩, ?_, ⟨?_, ?_, ?_⟩, ?_⟩
          · show w2.heap.size ≤ _
            first | omega | (simp <;> omega)
          · first | (go_simp; done) | (have q0 : wo.cell? ⟨w2.heap.size, 0, none⟩ = some (.int .i64 0) := (hco _ _ (by simp <;> omega)).trans (by go_simp); have q1 : wo.cell? ⟨w2.heap.size, 1, none⟩ = some (.int .i64 0) := (hco _ _ (by simp <;> omega)).trans (by go_simp); have q2 : wo.cell? ⟨w2.heap.size, 2, none⟩ = some (.int .i64 0) := (hco _ _ (by simp <;> omega)).trans (by go_simp); go_simp; done) | (have q0 : wo.cell? ⟨w2.heap.size + 1, 0, none⟩ = some (.int .i64 0) := (hco _ _ (by simp <;> omega)).trans (by go_simp); have q1 : wo.cell? ⟨w2.heap.size + 1, 1, none⟩ = some (.int .i64 0) := (hco _ _ (by simp <;> omega)).trans (by go_simp); have q2 : wo.cell? ⟨w2.heap.size + 1, 2, none⟩ = some (.int .i64 0) := (hco _ _ (by simp <;> omega)).trans (by go_simp); go_simp; done)
          · first | (go_simp; done) | (have q0 : wo.cell? ⟨w2.heap.size, 0, none⟩ = some (.int .i64 0) := (hco _ _ (by simp <;> omega)).trans (by go_simp); have q1 : wo.cell? ⟨w2.heap.size, 1, none⟩ = some (.int .i64 0) := (hco _ _ (by simp <;> omega)).trans (by go_simp); have q2 : wo.cell? ⟨w2.heap.size, 2, none⟩ = some (.int .i64 0) := (hco _ _ (by simp <;> omega)).trans (by go_simp); go_simp; done) | (have q0 : wo.cell? ⟨w2.heap.size + 1, 0, none⟩ = some (.int .i64 0) := (hco _ _ (by simp <;> omega)).trans (by go_simp); have q1 : wo.cell? ⟨w2.heap.size + 1, 1, none⟩ = some (.int .i64 0) := (hco _ _ (by simp <;> omega)).trans (by go_simp); have q2 : wo.cell? ⟨w2.heap.size + 1, 2, none⟩ = some (.int .i64 0) := (hco _ _ (by simp <;> omega)).trans (by go_simp); go_simp; done)
          · first | (go_simp; done) | (have q0 : wo.cell? ⟨w2.heap.size, 0, none⟩ = some (.int .i64 0) := (hco _ _ (by simp <;> omega)).trans (by go_simp); have q1 : wo.cell? ⟨w2.heap.size, 1, none⟩ = some (.int .i64 0) := (hco _ _ (by simp <;> omega)).trans (by go_simp); have q2 : wo.cell? ⟨w2.heap.size, 2, none⟩ = some (.int .i64 0) := (hco _ _ (by simp <;> omega)).trans (by go_simp); go_simp; done) | (have q0 : wo.cell? ⟨w2.heap.size + 1, 0, none⟩ = some (.int .i64 0) := (hco _ _ (by simp <;> omega)).trans (by go_simp); have q1 : wo.cell? ⟨w2.heap.size + 1, 1, none⟩ = some (.int .i64 0) := (hco _ _ (by simp <;> omega)).trans (by go_simp); have q2 : wo.cell? ⟨w2.heap.size + 1, 2, none⟩ = some (.int .i64 0) := (hco _ _ (by simp <;> omega)).trans (by go_simp); go_simp; done)
          · show w2.heap.size ≤ _
            first | omega | (simp <;> omega)
          · first | (go_simp; done) | (have q0 : wo.cell? ⟨w2.heap.size, 0, none⟩ = some (.int .i64 0) := (hco _ _ (by simp <;> omega)).trans (by go_simp); have q1 : wo.cell? ⟨w2.heap.size, 1, none⟩ = some (.int .i64 0) := (hco _ _ (by simp <;> omega)).trans (by go_simp); have q2 : wo.cell? ⟨w2.heap.size, 2, none⟩ = some (.int .i64 0) := (hco _ _ (by simp <;> omega)).trans (by go_simp); go_simp; done) | (have q0 : wo.cell? ⟨w2.heap.size + 1, 0, none⟩ = some (.int .i64 0) := (hco _ _ (by simp <;> omega)).trans (by go_simp); have q1 : wo.cell? ⟨w2.heap.size + 1, 1, none⟩ = some (.int .i64 0) := (hco _ _ (by simp <;> omega)).trans (by go_simp); have q2 : wo.cell? ⟨w2.heap.size + 1, 2, none⟩ = some (.int .i64 0) := (hco _ _ (by simp <;> omega)).trans (by go_simp); go_simp; done)
          · first | (go_simp; done) | (have q0 : wo.cell? ⟨w2.heap.size, 0, none⟩ = some (.int .i64 0) := (hco _ _ (by simp <;> omega)).trans (by go_simp); have q1 : wo.cell? ⟨w2.heap.size, 1, none⟩ = some (.int .i64 0) := (hco _ _ (by simp <;> omega)).trans (by go_simp); have q2 : wo.cell? ⟨w2.heap.size, 2, none⟩ = some (.int .i64 0) := (hco _ _ (by simp <;> omega)).trans (by go_simp); go_simp; done) | (have q0 : wo.cell? ⟨w2.heap.size + 1, 0, none⟩ = some (.int .i64 0) := (hco _ _ (by simp <;> omega)).trans (by go_simp); have q1 : wo.cell? ⟨w2.heap.size + 1, 1, none⟩ = some (.int .i64 0) := (hco _ _ (by simp <;> omega)).trans (by go_simp); have q2 : wo.cell? ⟨w2.heap.size + 1, 2, none⟩ = some (.int .i64 0) := (hco _ _ (by simp <;> omega)).trans (by go_simp); go_simp; done)
          · first | (go_simp; done) | (have q0 : wo.cell? ⟨w2.heap.size, 0, none⟩ = some (.int .i64 0) := (hco _ _ (by simp <;> omega)).trans (by go_simp); have q1 : wo.cell? ⟨w2.heap.size, 1, none⟩ = some (.int .i64 0) := (hco _ _ (by simp <;> omega)).trans (by go_simp); have q2 : wo.cell? ⟨w2.heap.size, 2, none⟩ = some (.int .i64 0) := (hco _ _ (by simp <;> omega)).trans (by go_simp); go_simp; done) | (have q0 : wo.cell? ⟨w2.heap.size + 1, 0, none⟩ = some (.int .i64 0) := (hco _ _ (by simp <;> omega)).trans (by go_simp); have q1 : wo.cell? ⟨w2.heap.size + 1, 1, none⟩ = some (.int .i64 0) := (hco _ _ (by simp <;> omega)).trans (by go_simp); have q2 : wo.cell? ⟨w2.heap.size + 1, 2, none⟩ = some (.int .i64 0) := (hco _ _ (by simp <;> omega)).trans (by go_simp); go_simp; done)
          · show Below _ _ _
            repeat (first | (with_reducible exact hbw) | (with_reducible refine Below.setCell ?_ (by first | omega | (simp <;> omega)) _) | (with_reducible refine Below.alloc ?_ (by first | omega | (simp <;> omega)) _) | (with_reducible refine Below.drew ?_))
  case rest =>
    obtain ⟨g5, g6, rfl, rfl, hg5, b5, hg6, b6, hba⟩ := hcut
    have hb2 : N ≤ cq ∧ cq ≤ maxLen := by
      have := T2.out.rows
      rw [← HNw.out] at this
      exact this.bound
    have hcq := hb2.1
    have hcm : cq ≤ 9223372036854775807 := by have := hb2.2; unfold maxLen at this; omega
    have hwt1 : wn + wt ≤ N := by omega
    obtain ⟨bh, hbh⟩ : ∃ bh, bh = wn + wt := ⟨_, rfl⟩
    have q1 : IntKind.i64.wrap ((wn : Int) + wt) = (bh : Int) := by rw [IntKind.wrap_i64]; omega
    have HBh : Hid (bh = wn + wt) := hbh
    have hbN : bh ≤ N := by omega
    have hbw : wn ≤ bh := by omega
    rw [← hbh] at HBd HFin
    clear hbh hwt1
    have TC : Hid (InL w1 wc g gs cs sp rv (.slice aq N cq) (handK R 0) R.room R.cap R.wait (rowR R)) := T2.out.later hba.out
    have X5 : Hid (BoxAt wc g5 R.room R.cap wt) := b5
    have X6 : Hid (BoxAt wc g6 wn ls wt) := b6
    have hgs2 : gs < w2.heap.size := T2.out.srcs.lt
    have hgl2 : g < w2.heap.size := T2.out.cells.lt
    have n5 : ¬ g5 = gs := by have := hg5.out; omega
    have n6 : ¬ g6 = gs := by have := hg6.out; omega
    have n5' : ¬ g5 = g := by have := hg5.out; omega
    have n6' : ¬ g6 = g := by have := hg6.out; omega
    have HGs : Hid (gs < w2.heap.size ∧ g < w2.heap.size) := ⟨hgs2, hgl2⟩
    obtain ⟨m0, m1, m2⟩ := b6
    clear hb2 b5 hba T2 HSA P1 hB0 HTk c0 c1 c2 c3 c4 f0 f1 gl sl hgs2 hgl2
    go_wp2
    go_loopw [10, 54] (fun _ s54 wr => ∃ k : Nat, k ≤ wn ∧ s54 = .int .i64 k ∧ Hid (InL w1 wr g gs cs sp rv (.slice aq N cq) (handK R k) R.room R.cap R.wait (rowR R)) ∧ Hid (BoxAt wr g5 R.room R.cap wt) ∧ Hid (BoxAt wr g6 wn ls wt)) (fun _ s54 _ => wn - (intOf s54).toNat)
    case atStart => exact ⟨0, by omega, rfl, TC, X5, X6⟩
    case round =>
      clear TC X5 X6 m0 m1 m2
      obtain ⟨k, hk, rfl, hT, hX5, hX6⟩ := hrel
      have ho := hT.out.rows
      rw [← HNw.out] at ho
      obtain ⟨c0, c1, c2, c3, c4, f0, f1, gl, sl, -⟩ := hT.out.five
      rw [HLn.out] at c0
      by_cases hlt : k < wn
      · obtain ⟨i, hrow, hin, hAc, -, hst, -⟩ := HAk.out k (by omega)
        have hcl : ∃ gq off, aq = some ⟨gq, off, none⟩ ∧ wr.cell? ⟨gq, off + k, none⟩ = some (.int .i64 i) := by
          rcases ho.cell with ⟨h0, _, _⟩ | ⟨gq, off, e, hc⟩
          · omega
          · exact ⟨gq, off, e, hc k _ (HRA.out k i (by omega) hrow)⟩
        clear ho
        obtain ⟨gq, off, rfl, cr⟩ := hcl
        obtain ⟨s0, s1, s2, s3⟩ := row_src hT.out.srcs (i := i) (by rw [HLn.out]; exact hin)
        have HAc : Hid (∀ u : World, Calls Tryd.prog 25 #[.agg #[.int .i64 (sAt (handK R k) i).1, .int .i64 (sAt (handK R k) i).2.1, .int .i64 (sAt (handK R k) i).2.2.1, .int .i64 (sAt (handK R k) i).2.2.2], .bool (decide (R.wait ≤ R.room / 2))] u fun e w' => e = .returned (.tuple #[.agg #[.int .i64 (ackS (sAt (handK R k) i) (fastR R)).1, .int .i64 (ackS (sAt (handK R k) i) (fastR R)).2.1, .int .i64 (ackS (sAt (handK R k) i) (fastR R)).2.2.1, .int .i64 (ackS (sAt (handK R k) i) (fastR R)).2.2.2], .nilIface]) ∧ Below u.heap.size u w') := fun u => hAc (fastR R) u
        have HCs : Hid (∀ u, Below wr.heap.size wr u → u.cell? ⟨g, 0, none⟩ = some (.slice (some ⟨gs, 0, none⟩) R.S.length cs) ∧ SrcAt u gs (i * 4) (sAt (handK R k) i) ∧ (∀ j, u.frozen? ⟨gs, j, none⟩ = false) ∧ g < u.heap.size ∧ gs < u.heap.size) := fun u hu => by
          have hT' := hT.out.later hu
          obtain ⟨x0, _, _, _, _, _, x1, x2, x3, _⟩ := hT'.five
          rw [HLn.out] at x0
          exact ⟨x0, row_src hT'.srcs (i := i) (by rw [HLn.out]; exact hin), x1, x2, x3⟩
        have HNx : Hid (∀ u, Below wr.heap.size wr u → InL w1 ((((u.setCell ⟨gs, i * 4, none⟩ (.int .i64 (ackS (sAt (handK R k) i) (fastR R)).1)).setCell ⟨gs, i * 4 + 1, none⟩ (.int .i64 (ackS (sAt (handK R k) i) (fastR R)).2.1)).setCell ⟨gs, i * 4 + 2, none⟩ (.int .i64 (ackS (sAt (handK R k) i) (fastR R)).2.2.1)).setCell ⟨gs, i * 4 + 3, none⟩ (.int .i64 (ackS (sAt (handK R k) i) (fastR R)).2.2.2)) g gs cs sp rv (.slice (some ⟨gq, off, none⟩) N cq) (handK R (k + 1)) R.room R.cap R.wait (rowR R) ∧ BoxAt ((((u.setCell ⟨gs, i * 4, none⟩ (.int .i64 (ackS (sAt (handK R k) i) (fastR R)).1)).setCell ⟨gs, i * 4 + 1, none⟩ (.int .i64 (ackS (sAt (handK R k) i) (fastR R)).2.1)).setCell ⟨gs, i * 4 + 2, none⟩ (.int .i64 (ackS (sAt (handK R k) i) (fastR R)).2.2.1)).setCell ⟨gs, i * 4 + 3, none⟩ (.int .i64 (ackS (sAt (handK R k) i) (fastR R)).2.2.2)) g5 R.room R.cap wt ∧ BoxAt ((((u.setCell ⟨gs, i * 4, none⟩ (.int .i64 (ackS (sAt (handK R k) i) (fastR R)).1)).setCell ⟨gs, i * 4 + 1, none⟩ (.int .i64 (ackS (sAt (handK R k) i) (fastR R)).2.1)).setCell ⟨gs, i * 4 + 2, none⟩ (.int .i64 (ackS (sAt (handK R k) i) (fastR R)).2.2.1)).setCell ⟨gs, i * 4 + 3, none⟩ (.int .i64 (ackS (sAt (handK R k) i) (fastR R)).2.2.2)) g6 wn ls wt) := fun u hu =>
          ⟨(hT.out.later hu).setS (by rw [HLn.out]; exact hin) (ackS (sAt (handK R k) i) (fastR R)) (hst hlt), (hX5.out.later hu).setS n5, (hX6.out.later hu).setS n6⟩
        have P1 : Hid (Below wr.heap.size wr wr.drew) := (Below.refl _ _).drew
        clear hst hAc hrow
        generalize hsq : sAt (handK R k) i = s at *
        clear hsq
        generalize (ackS s (fastR R)) = q at *
        go_wp2_with fail
        go_region_law (first | (go_simp; refine (HAc.out _).mono ?_; rintro e w4 ⟨rfl, hw4⟩; have Hb4 : Hid (Below wr.heap.size wr w4) := Bel.call P1.out (Nat.le_refl _) hw4; obtain ⟨y0, ⟨y1, y2, y3, y4⟩, y5, y6, y7⟩ := HCs.out _ Hb4.out))
        all_goals
          obtain ⟨N1, N2, N3⟩ := HNx.out _ Hb4.out
          have M1 : Hid _ := N1
          have M2 : Hid _ := N2
          have M3 : Hid _ := N3
          clear N1 N2 N3 y0 y1 y2 y3 y4 y5 y6 y7 hw4 Hb4
          go_wp2
          go_roundw
          case rel => exact ⟨k + 1, by omega, by go_num, M1, M2, M3⟩
          case measure => simp [intOf]; omega
      · obtain rfl : wn = k := by omega
        have TB : Hid (InL w1 wr g gs cs sp rv (.slice aq N cq) (handK R bh) R.room R.cap R.wait (rowR R)) := by rw [HBd.out]; exact hT.out
        clear hT hlt hk c0 c1 c2 c3 c4 f0 f1 gl sl
        obtain ⟨w5, hw5⟩ : ∃ u : World, u = wr := ⟨_, rfl⟩
        rw [← hw5]
        rw [← hw5] at TB hX5 hX6 ho
        clear hw5
        have HCl : Hid ((N = 0 ∧ cq = 0 ∧ aq = none) ∨ ∃ gq off, aq = some ⟨gq, off, none⟩) := by
          rcases ho.cell with h | ⟨gq, off, e, _⟩
          · exact .inl h
          · exact .inr ⟨gq, off, e⟩
        clear ho
        go_upto_region 10 with fail
        go_cut [79, 80, 81] (fun s79 s80 s81 wc => ∃ a3 c3, s79 = .slice a3 (N - bh) c3 ∧ s80 = .int .i64 ((N - bh : Nat) : Int) ∧ s81 = .int .i64 0 ∧ wc = w5 ∧ Hid (∀ j, j < N - bh → ∃ gq off, aq = some ⟨gq, off, none⟩ ∧ a3 = some ⟨gq, off + bh, none⟩))
        case first =>
          clear HAk HLn HBd HFin HGv HRN HRA HF HOl HR1 HB1 Hrv HNw HWt TB hX5 hX6
          by_cases hcb : cq = bh
          · subst hcb
            have HZ : Hid (∀ j, j < N - cq → ∃ gq off, aq = some ⟨gq, off, none⟩ ∧ aq = some ⟨gq, off + cq, none⟩) := fun j hj => by omega
            have HE : Hid (N - cq = 0) := by show _ = _; omega
            clear HCl
            go_wp2_with fail
            go_meet
            case rel => exact ⟨aq, 0, by rw [HE.out], by rw [HE.out]; rfl, rfl, rfl, HZ⟩
          · rcases HCl.out with ⟨h1, h2, h3⟩ | ⟨gq, off, rfl⟩
            · omega
            · have HZ : Hid (∀ j, j < N - bh → ∃ gq' off', (some (⟨gq, off, none⟩ : Addr)) = some ⟨gq', off', none⟩ ∧ (some (⟨gq, off + bh, none⟩ : Addr)) = some ⟨gq', off' + bh, none⟩) := fun j hj => ⟨gq, off, rfl, rfl⟩
              clear HCl
              go_wp2_with fail
              go_meet
              case rel => exact ⟨_, _, rfl, rfl, rfl, rfl, HZ⟩
        case rest =>
          obtain ⟨a3, c3, rfl, rfl, rfl, rfl, hA3⟩ := hcut
          go_wp2_with fail
          go_loopw [12, 81] (fun _ s81 wr => ∃ j : Nat, j ≤ N - bh ∧ s81 = .int .i64 j ∧ Hid (InL w1 wr g gs cs sp rv (.slice aq N cq) (handK R (bh + j)) R.room R.cap R.wait (rowR R)) ∧ Hid (BoxAt wr g5 R.room R.cap wt) ∧ Hid (BoxAt wr g6 wn ls wt)) (fun _ s81 _ => (N - bh) - (intOf s81).toNat)
          case atStart => exact ⟨0, by omega, rfl, TB, hX5, hX6⟩
          case round =>
            clear TB hX5 hX6
            obtain ⟨j, hj, rfl, hT, hX5, hX6⟩ := hrel
            have ho := hT.out.rows
            rw [← HNw.out] at ho
            obtain ⟨c0, c1, c2, c3, c4, f0, f1, gl, sl, -⟩ := hT.out.five
            rw [HLn.out] at c0
            by_cases hlt : j < N - bh
            · obtain ⟨i, hrow, hin, -, hAc, -, hst⟩ := HAk.out (bh + j) (by omega)
              obtain ⟨gq, off, rfl, rfl⟩ := hA3.out j hlt
              have cr : wr.cell? ⟨gq, off + bh + j, none⟩ = some (.int .i64 i) := by
                rcases ho.cell with ⟨h0, _, _⟩ | ⟨gq', off', e, hc⟩
                · omega
                · simp only [Option.some.injEq, Addr.mk.injEq, and_true] at e
                  obtain ⟨rfl, rfl⟩ := e
                  have := hc (bh + j) _ (HRA.out (bh + j) i (by omega) hrow)
                  rwa [← Nat.add_assoc] at this
              clear ho
              obtain ⟨s0, s1, s2, s3⟩ := row_src hT.out.srcs (i := i) (by rw [HLn.out]; exact hin)
              have HAc : Hid (∀ u : World, Calls Tryd.prog 26 #[.agg #[.int .i64 (sAt (handK R (bh + j)) i).1, .int .i64 (sAt (handK R (bh + j)) i).2.1, .int .i64 (sAt (handK R (bh + j)) i).2.2.1, .int .i64 (sAt (handK R (bh + j)) i).2.2.2]] u fun e w' => e = .returned (.tuple #[.agg #[.int .i64 (losS (sAt (handK R (bh + j)) i)).1, .int .i64 (losS (sAt (handK R (bh + j)) i)).2.1, .int .i64 (losS (sAt (handK R (bh + j)) i)).2.2.1, .int .i64 (losS (sAt (handK R (bh + j)) i)).2.2.2], .nilIface]) ∧ Below u.heap.size u w') := hAc
              have HCs : Hid (∀ u, Below wr.heap.size wr u → u.cell? ⟨g, 0, none⟩ = some (.slice (some ⟨gs, 0, none⟩) R.S.length cs) ∧ SrcAt u gs (i * 4) (sAt (handK R (bh + j)) i) ∧ (∀ j, u.frozen? ⟨gs, j, none⟩ = false) ∧ g < u.heap.size ∧ gs < u.heap.size) := fun u hu => by
                have hT' := hT.out.later hu
                obtain ⟨x0, _, _, _, _, _, x1, x2, x3, _⟩ := hT'.five
                rw [HLn.out] at x0
                exact ⟨x0, row_src hT'.srcs (i := i) (by rw [HLn.out]; exact hin), x1, x2, x3⟩
              have HNx : Hid (∀ u, Below wr.heap.size wr u → InL w1 ((((u.setCell ⟨gs, i * 4, none⟩ (.int .i64 (losS (sAt (handK R (bh + j)) i)).1)).setCell ⟨gs, i * 4 + 1, none⟩ (.int .i64 (losS (sAt (handK R (bh + j)) i)).2.1)).setCell ⟨gs, i * 4 + 2, none⟩ (.int .i64 (losS (sAt (handK R (bh + j)) i)).2.2.1)).setCell ⟨gs, i * 4 + 3, none⟩ (.int .i64 (losS (sAt (handK R (bh + j)) i)).2.2.2)) g gs cs sp rv (.slice (some ⟨gq, off, none⟩) N cq) (handK R (bh + (j + 1))) R.room R.cap R.wait (rowR R) ∧ BoxAt ((((u.setCell ⟨gs, i * 4, none⟩ (.int .i64 (losS (sAt (handK R (bh + j)) i)).1)).setCell ⟨gs, i * 4 + 1, none⟩ (.int .i64 (losS (sAt (handK R (bh + j)) i)).2.1)).setCell ⟨gs, i * 4 + 2, none⟩ (.int .i64 (losS (sAt (handK R (bh + j)) i)).2.2.1)).setCell ⟨gs, i * 4 + 3, none⟩ (.int .i64 (losS (sAt (handK R (bh + j)) i)).2.2.2)) g5 R.room R.cap wt ∧ BoxAt ((((u.setCell ⟨gs, i * 4, none⟩ (.int .i64 (losS (sAt (handK R (bh + j)) i)).1)).setCell ⟨gs, i * 4 + 1, none⟩ (.int .i64 (losS (sAt (handK R (bh + j)) i)).2.1)).setCell ⟨gs, i * 4 + 2, none⟩ (.int .i64 (losS (sAt (handK R (bh + j)) i)).2.2.1)).setCell ⟨gs, i * 4 + 3, none⟩ (.int .i64 (losS (sAt (handK R (bh + j)) i)).2.2.2)) g6 wn ls wt) := fun u hu =>
                ⟨(hT.out.later hu).setS (by rw [HLn.out]; exact hin) (losS (sAt (handK R (bh + j)) i)) (by rw [← Nat.add_assoc]; exact hst (by have := HBh.out; omega)), (hX5.out.later hu).setS n5, (hX6.out.later hu).setS n6⟩
              have P1 : Hid (Below wr.heap.size wr wr.drew) := (Below.refl _ _).drew
              clear hst hAc hrow
              generalize hsq : sAt (handK R (bh + j)) i = s at *
              clear hsq
              generalize (losS s) = q at *
              go_wp2_with fail
              go_region_law (first | (go_simp; refine (HAc.out _).mono ?_; rintro e w4 ⟨rfl, hw4⟩; have Hb4 : Hid (Below wr.heap.size wr w4) := Bel.call P1.out (Nat.le_refl _) hw4; obtain ⟨y0, ⟨y1, y2, y3, y4⟩, y5, y6, y7⟩ := HCs.out _ Hb4.out))
              all_goals
                obtain ⟨N1, N2, N3⟩ := HNx.out _ Hb4.out
                have M1 : Hid _ := N1
                have M2 : Hid _ := N2
                have M3 : Hid _ := N3
                clear N1 N2 N3 y0 y1 y2 y3 y4 y5 y6 y7 hw4 Hb4
                go_wp2
                go_roundw
                case rel => exact ⟨j + 1, by omega, by go_num, M1, M2, M3⟩
                case measure => simp [intOf]; omega
            · obtain rfl : j = N - bh := by omega
              have TE : Hid (InL w1 wr g gs cs sp rv (.slice aq N cq) (tickR R).S R.room R.cap R.wait (rowR R)) := by
                rw [← HFin.out.1]
                have := hT.out
                rwa [show bh + (N - bh) = N by omega] at this
              obtain ⟨x0, x1, x2⟩ := hX5.out
              obtain ⟨y0, y1, y2⟩ := hX6.out
              clear hT hlt hj HAk HLn HBd HRA HWt
              have HRes := TE.out.oldRow HR1.out (fun h => by have := HOl.out _ h; omega)
              obtain ⟨r0, r1, r2, rf0, rf1, rf2, rl⟩ := HRes.three
              have HB2 := HBh.out
              have HRl : (tickR R).row.length = bh - wn := by rw [HFin.out.2.2.2]; omega
              go_upto_region 15 with fail
              go_cut [110] (fun _ wc => ∃ wv : Value, Hid (BoxAt wc g6 wn ls wt) ∧ Hid (RowAt wc w.heap.size 37 [.int .i64 0, .int .i64 0, .int .i64 0]) ∧ Hid (∀ W', Below 0 wc W' → (∀ k, k ≠ w.heap.size → W'.heap[k]? = wc.heap[k]?) → ButIn (refF g gs rv) w W' ∧ LandAt W' g gs cs sp wv (tickR R).S R.room R.cap wt (tickR R).row ∧ ∀ b, wv.ownBlock = some b → rv.ownBlock = some b ∨ w.heap.size ≤ b))
              case first =>
                as_aux_lemma =>
                  rcases HCl.out with ⟨h1, h2, h3⟩ | ⟨gq, off, rfl⟩
                  · have TL : TailAt wr 3 (Value.slice none (bh - wn) 0) (tickR R).row.length (natsV (tickR R).row) := by
                      have e : bh - wn = 0 := by omega
                      rw [HRl, e]
                      rw [e] at HRl
                      rw [List.eq_nil_of_length_eq_zero HRl]
                      exact TailAt.nil _ _
                    have HOw : ∀ b, (Value.slice none (bh - wn) 0).ownBlock = some b → (Value.slice aq N cq).ownBlock = some b := fun b hb => by simp [Value.ownBlock] at hb
                    clear HRl HB2 HCl
                    have MM : Hid (BoxAt (((((wr.setCell ⟨g, 1, none⟩ (.int .i64 R.room)).setCell ⟨g, 2, none⟩ (.int .i64 R.cap)).setCell ⟨g, 3, none⟩ (.int .i64 wt)).setCell ⟨g, 4, none⟩ (Value.slice none (bh - wn) 0)).drew) g6 wn ls wt ∧ RowAt (((((wr.setCell ⟨g, 1, none⟩ (.int .i64 R.room)).setCell ⟨g, 2, none⟩ (.int .i64 R.cap)).setCell ⟨g, 3, none⟩ (.int .i64 wt)).setCell ⟨g, 4, none⟩ (Value.slice none (bh - wn) 0)).drew) w.heap.size 37 [.int .i64 0, .int .i64 0, .int .i64 0] ∧ ∀ W', Below 0 (((((wr.setCell ⟨g, 1, none⟩ (.int .i64 R.room)).setCell ⟨g, 2, none⟩ (.int .i64 R.cap)).setCell ⟨g, 3, none⟩ (.int .i64 wt)).setCell ⟨g, 4, none⟩ (Value.slice none (bh - wn) 0)).drew) W' → (∀ k, k ≠ w.heap.size → W'.heap[k]? = (((((wr.setCell ⟨g, 1, none⟩ (.int .i64 R.room)).setCell ⟨g, 2, none⟩ (.int .i64 R.cap)).setCell ⟨g, 3, none⟩ (.int .i64 wt)).setCell ⟨g, 4, none⟩ (Value.slice none (bh - wn) 0)).drew).heap[k]?) → ButIn (refF g gs rv) w W' ∧ LandAt W' g gs cs sp (Value.slice none (bh - wn) 0) (tickR R).S R.room R.cap wt (tickR R).row ∧ ∀ b, (Value.slice none (bh - wn) 0).ownBlock = some b → rv.ownBlock = some b ∨ w.heap.size ≤ b) := TE.out.endT HR1.out HB1.out HOl.out hX6.out n6' TL HOw (x := R.room) (y := R.cap) (z := wt) rfl
                    clear TL HOw TE hX5 hX6 ho HR1 HB1 HOl HFin HBh HGv HRN HF HNw Hrv HGs hg5 hg6
                    go_wp2_with fail
                    go_region
                    go_wp2_with fail
                    go_meet
                    case rel => exact ⟨_, MM.out.1, MM.out.2.1, MM.out.2.2⟩
                  · by_cases hcw : cq = wn
                    · have TL : TailAt wr 3 (Value.slice (some ⟨gq, off, none⟩) (bh - wn) 0) (tickR R).row.length (natsV (tickR R).row) := by
                        have := ho.cut (i := wn) (j := bh) (by omega) (by omega)
                        rw [if_pos hcw, show cq - wn = 0 by omega, HFin.out.2.1] at this
                        rw [HRl]; exact this
                      have HOw : ∀ b, (Value.slice (some ⟨gq, off, none⟩) (bh - wn) 0).ownBlock = some b → (Value.slice (some ⟨gq, off, none⟩) N cq).ownBlock = some b := fun b hb => hb
                      clear HRl HB2 HCl
                      have MM : Hid (BoxAt (((((wr.setCell ⟨g, 1, none⟩ (.int .i64 R.room)).setCell ⟨g, 2, none⟩ (.int .i64 R.cap)).setCell ⟨g, 3, none⟩ (.int .i64 wt)).setCell ⟨g, 4, none⟩ (Value.slice (some ⟨gq, off, none⟩) (bh - wn) 0)).drew) g6 wn ls wt ∧ RowAt (((((wr.setCell ⟨g, 1, none⟩ (.int .i64 R.room)).setCell ⟨g, 2, none⟩ (.int .i64 R.cap)).setCell ⟨g, 3, none⟩ (.int .i64 wt)).setCell ⟨g, 4, none⟩ (Value.slice (some ⟨gq, off, none⟩) (bh - wn) 0)).drew) w.heap.size 37 [.int .i64 0, .int .i64 0, .int .i64 0] ∧ ∀ W', Below 0 (((((wr.setCell ⟨g, 1, none⟩ (.int .i64 R.room)).setCell ⟨g, 2, none⟩ (.int .i64 R.cap)).setCell ⟨g, 3, none⟩ (.int .i64 wt)).setCell ⟨g, 4, none⟩ (Value.slice (some ⟨gq, off, none⟩) (bh - wn) 0)).drew) W' → (∀ k, k ≠ w.heap.size → W'.heap[k]? = (((((wr.setCell ⟨g, 1, none⟩ (.int .i64 R.room)).setCell ⟨g, 2, none⟩ (.int .i64 R.cap)).setCell ⟨g, 3, none⟩ (.int .i64 wt)).setCell ⟨g, 4, none⟩ (Value.slice (some ⟨gq, off, none⟩) (bh - wn) 0)).drew).heap[k]?) → ButIn (refF g gs rv) w W' ∧ LandAt W' g gs cs sp (Value.slice (some ⟨gq, off, none⟩) (bh - wn) 0) (tickR R).S R.room R.cap wt (tickR R).row ∧ ∀ b, (Value.slice (some ⟨gq, off, none⟩) (bh - wn) 0).ownBlock = some b → rv.ownBlock = some b ∨ w.heap.size ≤ b) := TE.out.endT HR1.out HB1.out HOl.out hX6.out n6' TL HOw (x := R.room) (y := R.cap) (z := wt) rfl
                      clear TL HOw TE hX5 hX6 ho HR1 HB1 HOl HFin HBh HGv HRN HF HNw Hrv HGs hg5 hg6
                      go_wp2_with fail
                      go_region
                      go_wp2_with fail
                      go_meet
                      case rel => exact ⟨_, MM.out.1, MM.out.2.1, MM.out.2.2⟩
                    · have TL : TailAt wr 3 (Value.slice (some ⟨gq, off + wn, none⟩) (bh - wn) (cq - wn)) (tickR R).row.length (natsV (tickR R).row) := by
                        have := ho.cut (i := wn) (j := bh) (by omega) (by omega)
                        rw [if_neg hcw, HFin.out.2.1] at this
                        rw [HRl]; exact this
                      have HOw : ∀ b, (Value.slice (some ⟨gq, off + wn, none⟩) (bh - wn) (cq - wn)).ownBlock = some b → (Value.slice (some ⟨gq, off, none⟩) N cq).ownBlock = some b := fun b hb => hb
                      clear HRl HB2 HCl
                      have MM : Hid (BoxAt (((((wr.setCell ⟨g, 1, none⟩ (.int .i64 R.room)).setCell ⟨g, 2, none⟩ (.int .i64 R.cap)).setCell ⟨g, 3, none⟩ (.int .i64 wt)).setCell ⟨g, 4, none⟩ (Value.slice (some ⟨gq, off + wn, none⟩) (bh - wn) (cq - wn))).drew) g6 wn ls wt ∧ RowAt (((((wr.setCell ⟨g, 1, none⟩ (.int .i64 R.room)).setCell ⟨g, 2, none⟩ (.int .i64 R.cap)).setCell ⟨g, 3, none⟩ (.int .i64 wt)).setCell ⟨g, 4, none⟩ (Value.slice (some ⟨gq, off + wn, none⟩) (bh - wn) (cq - wn))).drew) w.heap.size 37 [.int .i64 0, .int .i64 0, .int .i64 0] ∧ ∀ W', Below 0 (((((wr.setCell ⟨g, 1, none⟩ (.int .i64 R.room)).setCell ⟨g, 2, none⟩ (.int .i64 R.cap)).setCell ⟨g, 3, none⟩ (.int .i64 wt)).setCell ⟨g, 4, none⟩ (Value.slice (some ⟨gq, off + wn, none⟩) (bh - wn) (cq - wn))).drew) W' → (∀ k, k ≠ w.heap.size → W'.heap[k]? = (((((wr.setCell ⟨g, 1, none⟩ (.int .i64 R.room)).setCell ⟨g, 2, none⟩ (.int .i64 R.cap)).setCell ⟨g, 3, none⟩ (.int .i64 wt)).setCell ⟨g, 4, none⟩ (Value.slice (some ⟨gq, off + wn, none⟩) (bh - wn) (cq - wn))).drew).heap[k]?) → ButIn (refF g gs rv) w W' ∧ LandAt W' g gs cs sp (Value.slice (some ⟨gq, off + wn, none⟩) (bh - wn) (cq - wn)) (tickR R).S R.room R.cap wt (tickR R).row ∧ ∀ b, (Value.slice (some ⟨gq, off + wn, none⟩) (bh - wn) (cq - wn)).ownBlock = some b → rv.ownBlock = some b ∨ w.heap.size ≤ b) := TE.out.endT HR1.out HB1.out HOl.out hX6.out n6' TL HOw (x := R.room) (y := R.cap) (z := wt) rfl
                      clear TL HOw TE hX5 hX6 ho HR1 HB1 HOl HFin HBh HGv HRN HF HNw Hrv HGs hg5 hg6
                      go_wp2_with fail
                      go_region
                      go_wp2_with fail
                      go_meet
                      case rel => exact ⟨_, MM.out.1, MM.out.2.1, MM.out.2.2⟩
              case rest =>
                as_aux_lemma =>
                  obtain ⟨wv, M6, MR, ME⟩ := hcut
                  have HFw : Hid ((tickR R).wait = (wt : Int)) := HFin.out.2.2.1
                  clear HRl HB2 HCl c0 c1 c2 c3 c4 f0 f1 gl sl x0 x1 x2 y0 y1 y2 r0 r1 r2 rf0 rf1 rf2 rl TE hX5 hX6 HRes ho HR1 HB1 HOl HFin HBh HRN HF HNw Hrv HGs hg5 hg6 hq q1 n5 n6 n5' n6' hA3
                  obtain ⟨y0, y1, y2⟩ := M6.out
                  obtain ⟨r0, r1, r2, rf0, rf1, rf2, rl⟩ := MR.out.three
                  clear M6 MR
                  go_wp2
                  refine bodyPost_ret (v := .agg #[.int .i64 wn, .int .i64 ls, .int .i64 wt]) (by simp [results, Tryd.results8, go_sem, r0, r1, r2, rf0, rf1, rf2, rl]) rfl ⟨by rw [HGv.out], wv, ?_⟩
                  rw [HFw.out]
                  exact ME.out _ ((((Below.refl 0 wc).setCell (Nat.zero_le _) _).setCell (Nat.zero_le _) _).setCell (Nat.zero_le _) _) (fun k hk => by rw [stay_set _ _ _ _ _ hk, stay_set _ _ _ _ _ hk, stay_set _ _ _ _ _ hk])
/-- the landed road keeps what is asked of a road's Tick -/
theorem rtick_said : RTickSaid roadX := by
  rintro p F R w ⟨g, gs, cs, sp, rv, rfl, hat, hF⟩ hr
  refine (ltick_any w g gs cs sp rv R hat hr).mono ?_
  rintro e w' ⟨he, wv, hb, ha, hn⟩
  have hbF : ButIn F w w' := ⟨hb.1, fun b h1 h2 => hb.2 b h1 (fun h => h2 ((hF b).2 h))⟩
  refine ⟨he, refF g gs wv, ⟨g, gs, cs, sp, wv, rfl, ha, fun b => Iff.rfl⟩, ?_, hbF⟩
  rintro b (rfl | rfl | h)
  · exact .inl ((hF _).2 (.inl rfl))
  · exact .inl ((hF _).2 (.inr (.inl rfl)))
  · rcases hn b h with h1 | h1
    · exact .inl ((hF _).2 (.inr (.inr h1)))
    · exact .inr h1
end Ev
end Go.Proofs.YtkpmjmgmgkdfnajDoor
