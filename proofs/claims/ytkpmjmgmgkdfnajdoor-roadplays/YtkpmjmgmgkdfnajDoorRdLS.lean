/- Package road's sent: each source sends, and these wait. -/
import Derived.Test.YtkpmjmgmgkdfnajDoorPlains
import Derived.Test.YtkpmjmgmgkdfnajDoorSoS
import Derived.Deep.RegionHeld3
import Derived.Deep.QuietTactic
import Derived.BigQuiet
import Derived.Deep.DeepCutAuto
import Derived.Deep.RegionLaw
namespace Go.Proofs.YtkpmjmgmgkdfnajDoor
namespace Ev
open Go.RowKit Fr Ns Ld Fl
set_option linter.unusedSimpArgs false
set_option linter.unusedVariables false

set_option maxRecDepth 100000 in
set_option maxHeartbeats 16000000 in
theorem lsent_any (w : World) (g gs cs : Nat) (sp : List Value) (rv : Value) (R : Road) (hat : LandAt w g gs cs sp rv R.S R.room R.cap R.wait R.row) (hr : RightR R) :
    Calls Tryd.prog 23 #[.pointer (some ⟨g, 0, none⟩)] w fun e w' => ∃ qv, e = .returned qv ∧ InL w w' g gs cs sp rv qv (R.S.map sentS) R.room R.cap R.wait (rowR R) := by
  obtain ⟨L, hn6, hL, hinv⟩ := hr
  have hok0 : ∀ i, i < R.S.length → okS (sAt R.S i) := fun i hi => (hinv.has.2 i hi).1
  have hpool := poolE_0.1 hinv.pool
  have HWt : Hid (R.wait = R.row.length) := hinv.waits
  have HSd : Hid (∀ (i : Nat) (u : World), i < R.S.length → Calls Tryd.prog 30 #[.agg #[.int .i64 (sAt R.S i).1, .int .i64 (sAt R.S i).2.1, .int .i64 (sAt R.S i).2.2.1, .int .i64 (sAt R.S i).2.2.2]] u fun e w' => e = .returned (.tuple #[.agg #[.int .i64 (sentS (sAt R.S i)).1, .int .i64 (sentS (sAt R.S i)).2.1, .int .i64 (sentS (sAt R.S i)).2.2.1, .int .i64 (sentS (sAt R.S i)).2.2.2], .int .i64 (goS (sAt R.S i)), .nilIface]) ∧ Below u.heap.size u w') := fun i u hi => by
    have := ssend_said (sAt R.S i).1 (sAt R.S i).2.1 (sAt R.S i).2.2.1 (sAt R.S i).2.2.2 u
    rw [show srcE (sAt R.S i).1 (sAt R.S i).2.1 (sAt R.S i).2.2.1 (sAt R.S i).2.2.2 = 0 from hok0 i hi, errV_0] at this
    exact this
  have HGo : Hid (∀ i, i < R.S.length → 0 ≤ goS (sAt R.S i) ∧ goS (sAt R.S i) ≤ 10000) := fun i hi => by
    have := go_bd (hok0 i hi); have := srcE_0.1 (hok0 i hi); omega
  have HRS : Hid (∀ i, i < R.S.length → rowSI R (i + 1) = rowSI R i ++ List.replicate (goS (sAt R.S i)).toNat i) := fun i hi => rowSI_step R hi
  have HSI : Hid (∀ i, i < R.S.length → (sentI R.S i).set i (sentS (sAt R.S i)) = sentI R.S (i + 1)) := fun i hi => sentI_set hi
  have HSA : Hid (∀ i, i < R.S.length → sAt (sentI R.S i) i = sAt R.S i) := fun i hi => sentI_at hi
  have HSL : Hid (∀ i, (sentI R.S i).length = R.S.length) := fun i => sentI_length R.S i
  have HRB : Hid (∀ i, i ≤ R.S.length → (rowSI R i).length ≤ R.row.length + 1000 * i ∧ R.row.length ≤ (rowSI R i).length) := rowSI_bd hok0
  have HS0 : Hid (InL w w g gs cs sp rv rv (sentI R.S 0) R.room R.cap R.wait (rowSI R 0)) := by rw [sentI_0, rowSI_0]; exact InL.start hat
  have hrl : R.row.length ≤ 10000 := by have := HWt.out; omega
  obtain ⟨i0, hi0, hz0, hz1, hz2⟩ := info_parts infoInt
  obtain ⟨c0, c1, c2, c3, c4, f0, f1, gl, sl, -⟩ := HS0.out.five
  rw [HSL.out 0] at c0
  clear hat hok0
  go_enter Tryd.func23, Tryd.ntmps23
  go_wp2
  go_loopw [3, 4, 5, 6, 7, 8, 18] (fun s3 _ _ _ _ _ s18 wr => ∃ (i : Nat) (qv : Value), i ≤ R.S.length ∧ s18 = .int .i64 i ∧ qv = s3 ∧ Hid (InL w wr g gs cs sp rv qv (sentI R.S i) R.room R.cap R.wait (rowSI R i))) (fun _ _ _ _ _ _ s18 _ => R.S.length - (intOf s18).toNat)
  case atStart => exact ⟨0, rv, by omega, rfl, rfl, HS0⟩
  case round =>
    clear HS0 c0 c1 c2 c3 c4 f0 f1 gl sl
    obtain ⟨i, qv, hi, rfl, rfl, hT⟩ := hrel
    obtain ⟨c0, c1, c2, c3, c4, f0, f1, gl, sl, -⟩ := hT.out.five
    rw [HSL.out i] at c0
    by_cases hlt : i < R.S.length
    · have hsr := row_src hT.out.srcs (i := i) (by rw [HSL.out]; exact hlt)
      rw [HSA.out i hlt] at hsr
      obtain ⟨s0, s1, s2, s3⟩ := hsr
      have HSd1 : Hid (∀ u : World, Calls Tryd.prog 30 #[.agg #[.int .i64 (sAt R.S i).1, .int .i64 (sAt R.S i).2.1, .int .i64 (sAt R.S i).2.2.1, .int .i64 (sAt R.S i).2.2.2]] u fun e w' => e = .returned (.tuple #[.agg #[.int .i64 (sentS (sAt R.S i)).1, .int .i64 (sentS (sAt R.S i)).2.1, .int .i64 (sentS (sAt R.S i)).2.2.1, .int .i64 (sentS (sAt R.S i)).2.2.2], .int .i64 (goS (sAt R.S i)), .nilIface]) ∧ Below u.heap.size u w') := fun u => HSd.out i u hlt
      obtain ⟨go0, go1⟩ := HGo.out i hlt
      have HR1 := HRS.out i hlt
      have HI1 := HSI.out i hlt
      obtain ⟨rb1, rb2⟩ := HRB.out i hi
      have HSl : Hid ((sentI R.S i).length = R.S.length) := HSL.out i
      generalize sAt R.S i = s at *
      obtain ⟨q, hq4⟩ : ∃ q, sentS s = q := ⟨_, rfl⟩
      rw [hq4] at HSd1 HI1
      clear hq4
      generalize goS s = gn at *
      go_wp2_with fail
      refine (HSd1.out _).mono ?_
      rintro e w2 ⟨rfl, hw2⟩
      have hwb : Below wr.heap.size wr w2 := ((Below.refl wr.heap.size wr).alloc (Nat.le_refl _) _).trans (hw2.mono (by simp))
      have T2 : Hid (InL w (w2.alloc (.cells #[.int .i64 q.1, .int .i64 q.2.1, .int .i64 q.2.2.1, .int .i64 q.2.2.2] 43)) g gs cs sp rv qv (sentI R.S i) R.room R.cap R.wait (rowSI R i)) := hT.out.later (hwb.alloc (hwb.size) _)
      have z2 : wr.heap.size ≤ w2.heap.size := hwb.size
      clear hw2 hwb c0 c1 c2 c3 c4 f0 f1 s0 s1 s2 s3
      obtain ⟨c0, c1, c2, c3, c4, f0, f1, gl2, sl2, _⟩ := T2.out.five
      rw [HSl.out] at c0
      have hsr := row_src T2.out.srcs (i := i) (by rw [HSl.out]; exact hlt)
      obtain ⟨s0, s1, s2, s3⟩ := hsr
      have n0 : (w2.alloc (.cells #[.int .i64 q.1, .int .i64 q.2.1, .int .i64 q.2.2.1, .int .i64 q.2.2.2] 43)).cell? ⟨w2.heap.size, 0, none⟩ = some (.int .i64 q.1) := by simp
      have T3 : Hid (InL w ((((((w2.alloc (.cells #[.int .i64 q.1, .int .i64 q.2.1, .int .i64 q.2.2.1, .int .i64 q.2.2.2] 43)).setCell ⟨gs, i * 4, none⟩ (.int .i64 q.1)).setCell ⟨gs, i * 4 + 1, none⟩ (.int .i64 q.2.1)).setCell ⟨gs, i * 4 + 2, none⟩ (.int .i64 q.2.2.1)).setCell ⟨gs, i * 4 + 3, none⟩ (.int .i64 q.2.2.2)).drew) g gs cs sp rv qv (sentI R.S (i + 1)) R.room R.cap R.wait (rowSI R i)) := (T2.out.setS (by rw [HSl.out]; exact hlt) q HI1.symm).later (Below.refl _ _).drew
      go_wp2_with fail
      go_region
      generalize ((((((w2.alloc (.cells #[.int .i64 q.1, .int .i64 q.2.1, .int .i64 q.2.2.1, .int .i64 q.2.2.2] 43)).setCell ⟨gs, i * 4, none⟩ (.int .i64 q.1)).setCell ⟨gs, i * 4 + 1, none⟩ (.int .i64 q.2.1)).setCell ⟨gs, i * 4 + 2, none⟩ (.int .i64 q.2.2.1)).setCell ⟨gs, i * 4 + 3, none⟩ (.int .i64 q.2.2.2)).drew) = w3 at *
      clear c0 c1 c2 c3 c4 f0 f1 gl2 sl2 s0 s1 s2 s3 n0 T2 hT z2
      obtain ⟨m, rfl⟩ : ∃ m : Nat, gn = m := ⟨gn.toNat, by omega⟩
      rw [Int.toNat_natCast] at HR1
      go_wp2
      go_loopw [3, 37] (fun s3 s37 wr => ∃ (k : Nat) (qv : Value), k ≤ m ∧ s37 = .int .i64 k ∧ qv = s3 ∧ Hid (InL w wr g gs cs sp rv qv (sentI R.S (i + 1)) R.room R.cap R.wait (rowSI R i ++ List.replicate k i))) (fun _ s37 _ => m - (intOf s37).toNat)
      case atStart => exact ⟨0, qv, by omega, rfl, rfl, by simpa [Hid] using T3.out⟩
      case round =>
        clear T3
        obtain ⟨k, qv2, hk, rfl, rfl, hT⟩ := hrel
        by_cases hkl : k < m
        · have hln : (rowSI R i ++ List.replicate k i).length = (rowSI R i).length + k := by simp
          have ho := hT.out.rows
          rw [hln] at ho
          have HO : Hid (TailAt wr 3 qv2 ((rowSI R i).length + k) (natsV (rowSI R i ++ List.replicate k i))) := ho
          obtain ⟨a6, e6, hq2⟩ := ho.shape
          clear ho hln
          subst hq2
          go_wp2_with (at_builtin; go_must (refine wpList_append_tail _ rfl (.tmp 39) (.tmp 41) 33 rfl 3 i0 (.int .i64 0) 8 Tryd.underlying33 hi0 hz0 hz1 hz2 rfl _ _ _ rfl (HO.out.alloc _) ⟨_, 0, none⟩ 1 (.int .i64 i) rfl (new1 _ _ _ _ ?c1) rfl (by unfold maxLen; omega) (by omega) ?_))
          case c1 => simp
          intro v' wg hown' hgrow hat'
          have T4 : Hid (InL w wg g gs cs sp rv v' (sentI R.S (i + 1)) R.room R.cap R.wait (rowSI R i ++ List.replicate (k + 1) i)) := by
            have e : rowSI R i ++ List.replicate (k + 1) i = (rowSI R i ++ List.replicate k i) ++ [i] := by rw [List.replicate_succ', List.append_assoc]
            rw [e]
            refine hT.out.snoc (by simpa [Nat.add_assoc] using hown') hgrow (by simpa using hat')
          obtain ⟨a7, e7, rfl⟩ := hown'.shape
          clear hown' hgrow hat' HO
          go_wp2
          go_roundw
          case rel => exact ⟨k + 1, _, by omega, by go_num, rfl, T4⟩
          case measure => simp [intOf]; omega
        · obtain rfl : k = m := by omega
          have T5 : Hid (InL w wr g gs cs sp rv qv2 (sentI R.S (i + 1)) R.room R.cap R.wait (rowSI R (i + 1))) := by rw [HR1]; exact hT.out
          clear hT
          go_wp2
          go_roundw
          case rel => exact ⟨i + 1, _, by omega, by go_num, rfl, T5⟩
          case measure => simp [intOf]; omega
    · obtain rfl : i = R.S.length := by omega
      have T6 : Hid (InL w wr g gs cs sp rv qv (R.S.map sentS) R.room R.cap R.wait (rowR R)) := by rw [← sentI_all, ← rowSI_all]; exact hT.out
      clear hT
      go_wp2
      go_ret
      exact ⟨_, rfl, T6.out⟩
end Ev
end Go.Proofs.YtkpmjmgmgkdfnajDoor
