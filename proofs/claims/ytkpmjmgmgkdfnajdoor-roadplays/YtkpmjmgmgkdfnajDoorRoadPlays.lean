/- The law RoadPlays returns true for every input, from what is asked of package road's calls: tick by tick it is the document's road. -/
import Derived.Test.YtkpmjmgmgkdfnajDoorRdPlay
import Derived.Test.YtkpmjmgmgkdfnajDoorRNewRd
import Derived.Test.YtkpmjmgmgkdfnajDoorToldB
import Derived.Test.YtkpmjmgmgkdfnajDoorSameI
namespace Go.Proofs.YtkpmjmgmgkdfnajDoor
namespace Ev
open Go.RowKit Fr Ns Ld Fl
set_option linter.unusedSimpArgs false
set_option linter.unusedVariables false

theorem drawn' {f : Nat} {args : Array Value} {u : World} {R : Ending → Prop} (h : Calls Tryd.prog f args u fun e w' => R e ∧ ∃ m, w' = u.drewN m) : Calls Tryd.prog f args u fun e w' => R e ∧ Below u.heap.size u w' := by
  refine h.mono ?_
  rintro e w' ⟨he, m, rfl⟩
  exact ⟨he, below_drewN (Below.refl _ _) _⟩

set_option maxRecDepth 100000 in
set_option maxHeartbeats 16000000 in
theorem roadPlays_walk (X : RoadFace) (hN : RNewSaid X) (hT : RTickSaid X) (hSo : RSourceSaid X) (hP : RPoolSaid X) (hW : RWaitsSaid X) (S : List Src) (room cap wait ticks : Int) (v : Value) (w : World)
    (hg : w.cell? ⟨0, 0, none⟩ = some handleV) (hv : SrcsAt (fun b => b < w.heap.size) w v S) :
    Calls Tryd.prog 3 #[v, .agg #[.int .i64 room, .int .i64 cap, .int .i64 wait], .int .i64 ticks] w fun e w' => e = .returned (.bool true) ∧ Below w.heap.size w w' := by
  have HNR : Hid (∀ u, Below w.heap.size w u → Calls Tryd.prog 4 #[v, .agg #[.int .i64 room, .int .i64 cap, .int .i64 wait]] u fun e w' => e = .returned (.int .i64 (newE S room cap wait)) ∧ Below u.heap.size u w') := fun u hu => RNewRoad_any S room cap wait v u (hv.later hu)
  have HN : Hid (∀ u, Below w.heap.size w u → Calls Tryd.prog 5 #[v, .agg #[.int .i64 room, .int .i64 cap, .int .i64 wait]] u fun e w' => Made X S room cap wait u w' e) := fun u hu => hN _ S room cap wait v u (hv.later hu)
  have HEr : Hid (∀ (k : Int) (u : World), Below w.heap.size w u → Calls Tryd.prog 6 #[errV k, .int .i64 k] u fun e w' => e = .returned (.bool true) ∧ Below u.heap.size u w') := fun k u hu => by
    have := Error_any k k u (cell_later hu hg)
    rw [beq_self_eq_true] at this
    exact this
  obtain ⟨W, HWd⟩ : ∃ W, Hid (w.alloc (.cells #[.int .i64 room, .int .i64 cap, .int .i64 wait] 24) = W) := ⟨_, rfl⟩
  have HKp : Hid (∀ u, Below W.heap.size W u → Below w.heap.size w u ∧ RowAt u w.heap.size 24 [.int .i64 room, .int .i64 cap, .int .i64 wait] ∧ w.heap.size + 1 ≤ u.heap.size) := fun u hu => by
    have z : W.heap.size = w.heap.size + 1 := by rw [← HWd.out]; simp
    have b : Below w.heap.size w W := by rw [← HWd.out]; exact (Below.refl _ _).alloc (Nat.le_refl _) _
    refine ⟨b.trans (hu.mono (by omega)), RowAt.later hu (by omega) ?_, by have := hu.size; omega⟩
    rw [← HWd.out]; exact row_made w _ _ _ _ rfl rfl
  obtain ⟨ar, caps, rfl, ⟨hm1, hm2⟩, hc⟩ := hv
  by_cases he : newE S room cap wait = 0
  · obtain ⟨R00, hR00⟩ : ∃ R, Hid (road0 S room cap wait = R) := ⟨_, rfl⟩
    have HMd : Hid (∀ W e w', Made X S room cap wait W w' e → ∃ a F, e = .returned (.tuple #[.pointer (some a), .nilIface]) ∧ X.Inv w' (.pointer (some a)) F (ticksR R00 0) ∧ (∀ b, F b → W.heap.size ≤ b) ∧ Below W.heap.size W w') := fun W => by rw [← hR00.out]; exact made_good he
    have hall := road_all he
    rw [hR00.out] at hall
    have hn := hall.few
    have hrm : R00.room = room ∧ R00.cap = cap := by rw [← hR00.out]; exact ⟨rfl, rfl⟩
    have HLen : Hid (∀ k, (ticksR R00 k).S.length = S.length) := fun k => (hall.inv k).has.1
    have HRf : Hid (∀ (a : Addr) (g gs cs : Nat) (sp : List Value) (i k : Nat) (rv : Value) (u : World), Side X w a g gs cs sp R00 i k rv u → Calls Tryd.prog 7 #[.pointer (some ⟨g, 0, none⟩)] u fun e w' => e = .returned (.agg #[.int .i64 (goneK R00 k).1, .int .i64 (goneK R00 k).2.1, .int .i64 (goneK R00 k).2.2]) ∧ ∃ rv', Side X w a g gs cs sp R00 i (k + 1) rv' w') := fun a g gs cs sp i k rv u h => side_ref hall.right h
    have HTk : Hid (∀ (a : Addr) (g gs cs : Nat) (sp : List Value) (i k : Nat) (rv : Value) (gw : Nat) (xs : List Value) (u : World), SideW X w a g gs cs sp R00 i k rv gw xs u → Calls Tryd.prog 8 #[.pointer (some a)] u fun e w' => e = .returned (.agg #[.int .i64 (goneK R00 i).1, .int .i64 (goneK R00 i).2.1, .int .i64 (goneK R00 i).2.2]) ∧ SideW X w a g gs cs sp R00 (i + 1) k rv gw xs w') := fun a g gs cs sp i k rv gw xs u h => side_tick hT hall.right h
    have HPo : Hid (∀ (a : Addr) (g gs cs : Nat) (sp : List Value) (i k : Nat) (rv : Value) (gw : Nat) (xs : List Value) (u : World), SideW X w a g gs cs sp R00 i k rv gw xs u → Calls Tryd.prog 9 #[.pointer (some a)] u fun e w' => e = .returned (.agg #[.int .i64 room, .int .i64 cap, .int .i64 (ticksR R00 i).wait]) ∧ Below u.heap.size u w') := fun a g gs cs sp i k rv gw xs u ⟨F, h1, _⟩ => by
      have := pool_of hP hall.right i a F u h1
      rw [(ticks_room R00 i).1, (ticks_room R00 i).2, hrm.1, hrm.2] at this
      exact this
    have HWa : Hid (∀ (a : Addr) (g gs cs : Nat) (sp : List Value) (i k : Nat) (rv : Value) (gw : Nat) (xs : List Value) (u : World), SideW X w a g gs cs sp R00 i k rv gw xs u → Calls Tryd.prog 11 #[.pointer (some a)] u fun e w' => ∃ y, e = .returned y ∧ IntsAt (fun b => u.heap.size ≤ b) w' y ((ticksR R00 i).row.map Int.ofNat) ∧ Below u.heap.size u w') := fun a g gs cs sp i k rv gw xs u ⟨F, h1, _⟩ => waits_of hW hall.right i a F u h1
    have HSr : Hid (∀ (a : Addr) (g gs cs : Nat) (sp : List Value) (i k : Nat) (rv : Value) (u : World), Side X w a g gs cs sp R00 i k rv u → (∀ j : Nat, j < S.length → Calls Tryd.prog 12 #[.pointer (some a), .int .i64 j] u fun e w' => e = .returned (.tuple #[.agg #[.int .i64 (sAt (ticksR R00 i).S j).1, .int .i64 (sAt (ticksR R00 i).S j).2.1, .int .i64 (sAt (ticksR R00 i).S j).2.2.1, .int .i64 (sAt (ticksR R00 i).S j).2.2.2], .nilIface]) ∧ Below u.heap.size u w') ∧ ∀ j : Int, j < 0 ∨ (S.length : Int) ≤ j → Calls Tryd.prog 12 #[.pointer (some a), .int .i64 j] u fun e w' => e = .returned (.tuple #[.agg #[.int .i64 0, .int .i64 0, .int .i64 0, .int .i64 0], .iface 54 (.int .i64 1)]) ∧ Below u.heap.size u w') := fun a g gs cs sp i k rv u ⟨F, h1, _⟩ => by
      refine ⟨fun j hj => source_of hSo hall.right S.length HLen.out i a F j u h1 hj, fun j hj => ?_⟩
      have := hSo _ F _ j u h1 (hall.right i)
      rw [HLen.out, atI, if_pos hj, okS4, if_neg (by decide), errV_ne (by decide)] at this
      exact this
    have HIn : Hid (∀ (x y : Value) (g : List Int) (u : World), IntsAt (fun _ => True) u x g → IntsAt (fun _ => True) u y g → Calls Tryd.prog 10 #[x, y] u fun e w' => e = .returned (.bool true) ∧ Below u.heap.size u w') := fun x y g u hx hy => by
      have := SInts_any g g x y u hx hy
      rw [show eqI g g = true by simp [eqI]] at this
      exact drawn' this
    have HRm : Hid (R00.room = room ∧ R00.cap = cap) := hrm
    have HE1 : Hid (∀ u : World, Below w.heap.size w u → Calls Tryd.prog 6 #[.iface 54 (.int .i64 1), .int .i64 1] u fun e w' => e = .returned (.bool true) ∧ Below u.heap.size u w') := fun u hu => HEr.out 1 u hu
    have HRows : Hid (∀ (a : Addr) (g gs cs : Nat) (sp : List Value) (i k : Nat) (rv : Value) (u : World), Side X w a g gs cs sp R00 i k rv u → IntsAt (fun _ => True) u rv ((ticksR R00 k).row.map Int.ofNat)) := fun a g gs cs sp i k rv u h => by
      have ho := h.ref.rows
      rw [natsV_ints] at ho
      have hb : (ticksR R00 k).row.length ≤ 10000 := by
        have h1 := (hall.inv k).waits
        have h2 := poolE_0.1 (hall.inv k).pool
        omega
      refine ints_of_owns (base := 0) (by simp; omega) (by simpa using ho) (fun _ _ => trivial)
    obtain ⟨bs, off, rfl, hc, _⟩ : ∃ b off, ar = some ⟨b, off, none⟩ ∧ (∀ i, i < S.length → SrcAt w b (off + i * 4) (sAt S i)) ∧ b < w.heap.size := by
      rcases hc with h | h
      · rw [h] at hn; simp at hn
      · exact h
    rw [he] at HNR
    have HE0 : Hid (∀ u : World, Below w.heap.size w u → Calls Tryd.prog 6 #[.nilIface, .int .i64 0] u fun e w' => e = .returned (.bool true) ∧ Below u.heap.size u w') := fun u hu => HEr.out 0 u hu
    go_enter Tryd.func3, Tryd.ntmps3
    go_upto_region 1 with fail
    rw [HWd.out]
    have K0 : Hid (Below W.heap.size W W) := Below.refl _ _
    obtain ⟨b0, R0, s0⟩ := HKp.out _ K0.out
    obtain ⟨d0, d1, d2, z0, z1, z2, hgz⟩ := R0.three
    go_wp2_with fail
    refine (HNR.out _ b0).mono ?_
    rintro e w1 ⟨rfl, hw1⟩
    have K1 : Hid (Below W.heap.size W w1) := Bel.call K0.out (Nat.le_refl _) hw1
    clear hw1 d0 d1 d2 z0 z1 z2 hgz R0 b0 s0
    obtain ⟨b1, R1, s1⟩ := HKp.out _ K1.out
    obtain ⟨d0, d1, d2, z0, z1, z2, hgz⟩ := R1.three
    go_wp2_with fail
    refine (HN.out _ b1).mono ?_
    intro e w2 hmade
    obtain ⟨a, F, rfl, hi2, hF, hw2⟩ := HMd.out _ _ _ hmade
    have K2 : Hid (Below W.heap.size W w2) := Bel.call K1.out (Nat.le_refl _) hw2
    have I2 : Hid (X.Inv w2 (.pointer (some a)) F (ticksR R00 0)) := hi2
    have F2 : Hid (∀ b, F b → w.heap.size + 1 ≤ b) := fun b hb => Nat.le_trans s1 (hF b hb)
    clear hw2 d0 d1 d2 z0 z1 z2 hgz R1 b1 s1 hmade hi2 hF
    obtain ⟨b2, R2, s2⟩ := HKp.out _ K2.out
    go_wp2_with fail
    refine (HE0.out _ b2).mono ?_
    rintro e w3 ⟨rfl, hw3⟩
    have K3 : Hid (Below W.heap.size W w3) := Bel.call K2.out (Nat.le_refl _) hw3
    have I3 : Hid (X.Inv w3 (.pointer (some a)) F (ticksR R00 0)) := X.later hw3 I2.out
    clear hw3 R2 b2 s2 I2
    obtain ⟨b3, R3, s3⟩ := HKp.out _ K3.out
    have B3 : Hid (Below w.heap.size w w3) := b3
    obtain ⟨d0, d1, d2, z0, z1, z2, hgz⟩ := R3.three
    clear b3 R3
    have HNews : Hid (∀ u, Below w.heap.size w u → ∀ j x, (flatS S)[j]? = some x → u.cell? ((⟨bs, off, none⟩ : Addr).add j) = some x) := fun u hu => flatS_cell (fun i hi => (hc i hi).later hu)
    have HNil : Hid (∀ u : World, u.ownsRow (w3.heap.size + 1) 43 4 (.slice none 0 0) 0 []) := fun u => World.ownsRow_nil _ _ _ _
    have BA : Hid (Below w.heap.size w (w3.alloc (.cells #[.slice none 0 0, .int .i64 room, .int .i64 cap, .int .i64 wait, .slice none 0 0] 35))) := Bel.more B3.out (Nat.le_refl _) _
    obtain ⟨i0, hi0, hz0, hz1, hz2⟩ := info_parts infoSrc
    go_wp2_with (at_builtin; go_must (refine wpList_append_own _ rfl (.tmp 43) (.tmp 44) 22 rfl (w3.heap.size + 1) 43 i0 _ 4 32 Tryd.underlying22 hi0 hz0 hz1 hz2 rfl (by decide) _ _ _ rfl (HNil.out _) ⟨bs, off, none⟩ S.length caps (flatS S) rfl (flatS_length S) (HNews.out _ BA.out) (flatS_one S) (by unfold maxLen; omega) (by omega) ?c2 ?_))
    case c2 => simp
    intro v' wg hown hgrow _
    obtain ⟨av, cs, hvs⟩ := own_slice hown
    subst hvs
    obtain ⟨gs, sp, rfl, hgs, hcs, hrow⟩ := owns_rowN hn.1 hown
    have hGb : Below (w3.heap.size + 1) (w3.alloc (.cells #[.slice none 0 0, .int .i64 room, .int .i64 cap, .int .i64 wait, .slice none 0 0] 35)) wg := (Below.refl _ _).grown hgrow (by simp) (by intro k hk; cases hk)
    have hRg : RowAt wg w3.heap.size 35 [.slice none 0 0, .int .i64 room, .int .i64 cap, .int .i64 wait, .slice none 0 0] := (row_made w3 _ _ _ _ rfl rfl).later hGb (by omega)
    have I4 : Hid (Side X w a w3.heap.size gs cs sp R00 0 0 (.slice none 0 0) (wg.setCell ⟨w3.heap.size, 0, none⟩ (.slice (some ⟨gs, 0, none⟩) S.length cs))) := by
      have hs3 := s3
      have hI3 := I3.out
      rw [← hR00.out] at hI3 ⊢
      have hBg : Below w.heap.size w wg := BA.out.trans (hGb.mono (by omega))
      refine ⟨F, X.keep hI3 (fun b hb => ?_), ⟨hRg.set 0 _, ?_, World.ownsRow_nil _ _ _ _, ⟨by omega, by simp [Value.ownBlock], by simp [Value.ownBlock]⟩, hcs⟩, fun b hb hF => ?_, fun b hb => by have := F2.out b hb; omega, ?_, hBg.setCell (by show w.heap.size ≤ w3.heap.size; omega) _⟩
      · have hlt := X.lt hI3 b hb
        rw [stay_set _ _ _ _ _ (by omega), hGb.block b (by omega)]
        exact ((Below.refl w3.heap.size w3).alloc (Nat.le_refl _) _).block b hlt
      · exact hrow.other (a := ⟨w3.heap.size, 0, none⟩) (by show w3.heap.size ≠ gs; omega) _
      · have hlt := X.lt hI3 b hb
        rcases hF with rfl | rfl | hF
        · omega
        · omega
        · simp [Value.ownBlock] at hF
      · rintro b (rfl | rfl | hF)
        · omega
        · omega
        · simp [Value.ownBlock] at hF
    have g0 := hRg.cell (i := 0) rfl
    have g1 := hRg.frozen 0
    have g2 := hRg.lt
    clear hown hgrow hrow hGb hRg d0 d1 d2 z0 z1 z2 hgz BA HNews HNil I3 K3 B3 F2 HKp HN HNR HMd K0 K1 K2 hgs
    have hn6 := hn.2
    clear hc hall hn hrm hR00 HEr hg he
    generalize hgr : w3.heap.size = g at *
    go_wp2
    generalize wg.setCell ⟨g, 0, none⟩ (.slice (some ⟨gs, 0, none⟩) S.length cs) = w4 at *
    clear hgr g0 g1 g2 s3 hcs
    go_loopw [12, 13, 14, 15, 16] (fun s12 _ _ _ _ wr => ∃ (k : Nat) (rv : Value), k ≤ 40 ∧ s12 = .int .i64 k ∧ Hid (Side X w a g gs cs sp R00 k k rv wr)) (fun s12 _ _ _ _ _ => 40 - (intOf s12).toNat)
    case atStart => exact ⟨0, _, by omega, rfl, I4⟩
    case round =>
      clear I4
      obtain ⟨k, rv, hk, rfl, hS⟩ := hrel
      have BR : Hid (Below w.heap.size w wr) := hS.out.below
      by_cases h1 : (k : Int) < ticks
      · by_cases h2 : k < 40
        · have h2' : (k : Int) < 40 := by omega
          go_wp2_with fail
          refine (HRf.out _ _ _ _ _ _ _ _ _ hS.out).mono ?_
          rintro e w5 ⟨rfl, rv', hS5⟩
          have hT0 : SideW X w a g gs cs sp R00 k (k + 1) rv' w5.heap.size [.int .i64 (goneK R00 k).1, .int .i64 (goneK R00 k).2.1, .int .i64 (goneK R00 k).2.2] (w5.alloc (.cells #[.int .i64 (goneK R00 k).1, .int .i64 (goneK R00 k).2.1, .int .i64 (goneK R00 k).2.2] 37)) := hS5.told _ _ _
          have P0 : Hid (SideW X w a g gs cs sp R00 k (k + 1) rv' w5.heap.size [.int .i64 (goneK R00 k).1, .int .i64 (goneK R00 k).2.1, .int .i64 (goneK R00 k).2.2] (w5.alloc (.cells #[.int .i64 (goneK R00 k).1, .int .i64 (goneK R00 k).2.1, .int .i64 (goneK R00 k).2.2] 37))) := hT0
          have P1 : Hid (SideW X w a g gs cs sp R00 k (k + 1) rv' w5.heap.size [.int .i64 (goneK R00 k).1, .int .i64 (goneK R00 k).2.1, .int .i64 (goneK R00 k).2.2] (w5.alloc (.cells #[.int .i64 (goneK R00 k).1, .int .i64 (goneK R00 k).2.1, .int .i64 (goneK R00 k).2.2] 37)).drew) := hT0.later (Below.refl _ _).drew
          obtain ⟨ar', cr', hrv⟩ := own_slice hS5.ref.rows
          have HSA : Hid (∀ i u, SideW X w a g gs cs sp R00 i (k + 1) rv' w5.heap.size [.int .i64 (goneK R00 k).1, .int .i64 (goneK R00 k).2.1, .int .i64 (goneK R00 k).2.2] u → u.cell? ⟨w5.heap.size, 0, none⟩ = some (.int .i64 (goneK R00 k).1) ∧ u.cell? ⟨w5.heap.size, 1, none⟩ = some (.int .i64 (goneK R00 k).2.1) ∧ u.cell? ⟨w5.heap.size, 2, none⟩ = some (.int .i64 (goneK R00 k).2.2) ∧ u.cell? ⟨g, 1, none⟩ = some (.int .i64 room) ∧ u.cell? ⟨g, 2, none⟩ = some (.int .i64 cap) ∧ u.cell? ⟨g, 3, none⟩ = some (.int .i64 (ticksR R00 (k + 1)).wait) ∧ u.cell? ⟨g, 4, none⟩ = some rv') := fun i u hu => by
            obtain ⟨c0, c1, c2, c3, c4, _⟩ := hu.side.ref.five
            obtain ⟨d0, d1, d2, _⟩ := hu.row.three
            rw [HRm.out.1] at c1
            rw [HRm.out.2] at c2
            exact ⟨d0, d1, d2, c1, c2, c3, c4⟩
          have HTk1 : Hid (∀ u, SideW X w a g gs cs sp R00 k (k + 1) rv' w5.heap.size [.int .i64 (goneK R00 k).1, .int .i64 (goneK R00 k).2.1, .int .i64 (goneK R00 k).2.2] u → Calls Tryd.prog 8 #[.pointer (some a)] u fun e w' => e = .returned (.agg #[.int .i64 (goneK R00 k).1, .int .i64 (goneK R00 k).2.1, .int .i64 (goneK R00 k).2.2]) ∧ SideW X w a g gs cs sp R00 (k + 1) (k + 1) rv' w5.heap.size [.int .i64 (goneK R00 k).1, .int .i64 (goneK R00 k).2.1, .int .i64 (goneK R00 k).2.2] w') := fun u hu => HTk.out _ _ _ _ _ _ _ _ _ _ _ hu
          have HPo1 : Hid (∀ u, SideW X w a g gs cs sp R00 (k + 1) (k + 1) rv' w5.heap.size [.int .i64 (goneK R00 k).1, .int .i64 (goneK R00 k).2.1, .int .i64 (goneK R00 k).2.2] u → Calls Tryd.prog 9 #[.pointer (some a)] u fun e w' => e = .returned (.agg #[.int .i64 room, .int .i64 cap, .int .i64 (ticksR R00 (k + 1)).wait]) ∧ Below u.heap.size u w') := fun u hu => HPo.out _ _ _ _ _ _ _ _ _ _ _ hu
          have HWa1 : Hid (∀ u, SideW X w a g gs cs sp R00 (k + 1) (k + 1) rv' w5.heap.size [.int .i64 (goneK R00 k).1, .int .i64 (goneK R00 k).2.1, .int .i64 (goneK R00 k).2.2] u → Calls Tryd.prog 11 #[.pointer (some a)] u fun e w' => ∃ y, e = .returned y ∧ IntsAt (fun b => u.heap.size ≤ b) w' y ((ticksR R00 (k + 1)).row.map Int.ofNat) ∧ Below u.heap.size u w') := fun u hu => HWa.out _ _ _ _ _ _ _ _ _ _ _ hu
          have HRw1 : Hid (∀ u, SideW X w a g gs cs sp R00 (k + 1) (k + 1) rv' w5.heap.size [.int .i64 (goneK R00 k).1, .int .i64 (goneK R00 k).2.1, .int .i64 (goneK R00 k).2.2] u → IntsAt (fun _ => True) u rv' ((ticksR R00 (k + 1)).row.map Int.ofNat)) := fun u hu => HRows.out _ _ _ _ _ _ _ _ _ hu.side
          subst hrv
          clear hT0 hS5 hS
          generalize (ticksR R00 (k + 1)).wait = wk at *
          generalize (goneK R00 k).1 = x1 at *
          generalize (goneK R00 k).2.1 = x2 at *
          generalize (goneK R00 k).2.2 = x3 at *
          generalize hrl : (ticksR R00 (k + 1)).row.length = rn at *
          clear hrl
          go_upto_region 12 with fail
          go_cut [81] (fun s81 wc => s81 = .bool false ∧ Hid (Side X w a g gs cs sp R00 (k + 1) (k + 1) (.slice ar' rn cr') wc))
          case first =>
            as_aux_lemma =>
              clear HRf HTk HPo HWa HSr HRows HE0 HE1 HLen HRm BR
              go_region_held3 (fun u => u.cell? ⟨w5.heap.size, 0, none⟩ = some (.int .i64 x1) ∧ u.cell? ⟨w5.heap.size, 1, none⟩ = some (.int .i64 x2) ∧ u.cell? ⟨w5.heap.size, 2, none⟩ = some (.int .i64 x3) ∧ u.cell? ⟨g, 1, none⟩ = some (.int .i64 room) ∧ u.cell? ⟨g, 2, none⟩ = some (.int .i64 cap) ∧ u.cell? ⟨g, 3, none⟩ = some (.int .i64 wk) ∧ u.cell? ⟨g, 4, none⟩ = some (.slice ar' rn cr'))
                (first | exact HSA.out _ _ P1.out | exact HSA.out _ _ P0.out | exact HSA.out _ _ Ht.out | exact HSA.out _ _ Hp.out | exact HSA.out _ _ Hw.out | exact HSA.out _ _ Hi.out)
                (first
                  | (go_at_call 8; refine (HTk1.out _ P1.out).mono ?_; rintro e wt ⟨rfl, hwt⟩; have Ht : Hid (SideW X w a g gs cs sp R00 (k + 1) (k + 1) (.slice ar' rn cr') w5.heap.size [.int .i64 x1, .int .i64 x2, .int .i64 x3] wt) := hwt; clear hwt)
                  | (go_at_call 9; refine (HPo1.out _ Ht.out).mono ?_; rintro e wp ⟨rfl, hwp⟩; have Hp : Hid (SideW X w a g gs cs sp R00 (k + 1) (k + 1) (.slice ar' rn cr') w5.heap.size [.int .i64 x1, .int .i64 x2, .int .i64 x3] wp) := Ht.out.later hwp; clear hwp)
                  | (go_at_call 11; refine (HWa1.out _ Hp.out).mono ?_; rintro e ww ⟨y, rfl, hy, hww⟩; have Hw : Hid (SideW X w a g gs cs sp R00 (k + 1) (k + 1) (.slice ar' rn cr') w5.heap.size [.int .i64 x1, .int .i64 x2, .int .i64 x3] ww) := Hp.out.later hww; have Hy : Hid (IntsAt (fun _ => True) ww y ((ticksR R00 (k + 1)).row.map Int.ofNat)) := hy.keep (fun _ _ _ => rfl) (fun _ _ _ => trivial); obtain ⟨ay, ny, cy, rfl⟩ : ∃ a n c, y = .slice a n c := (by obtain ⟨a, c, e, _⟩ := hy; exact ⟨_, _, _, e⟩); clear hy hww)
                  | (go_at_call 10; refine (HIn.out _ _ _ _ Hy.out (HRw1.out _ Hw.out)).mono ?_; rintro e wi ⟨rfl, hwi⟩; have Hi : Hid (SideW X w a g gs cs sp R00 (k + 1) (k + 1) (.slice ar' rn cr') w5.heap.size [.int .i64 x1, .int .i64 x2, .int .i64 x3] wi) := Hw.out.later hwi; clear hwi))
              all_goals
                go_wp2_with fail
                go_meet
                case rel => exact ⟨rfl, Hi.out.side⟩
          case rest =>
            as_aux_lemma =>
              clear P0 P1 HSA HTk1 HPo1 HWa1 HRw1 HTk HPo HWa HRows HRf HIn
              obtain ⟨rfl, hSc⟩ := hcut
              go_wp2
              go_loopw [14, 15, 16] (fun s14 _ _ wr => ∃ j : Int, -1 ≤ j ∧ j ≤ S.length + 1 ∧ s14 = .int .i64 j ∧ Hid (Side X w a g gs cs sp R00 (k + 1) (k + 1) (.slice ar' rn cr') wr)) (fun s14 _ _ _ => (S.length + 1 - intOf s14).toNat)
              case atStart => exact ⟨-1, by omega, by omega, rfl, hSc⟩
              case round =>
                clear hSc
                obtain ⟨j, hj0, hj1, rfl, hS⟩ := hrel
                by_cases hle : j ≤ S.length
                · by_cases hbad : j < 0 ∨ (S.length : Int) ≤ j
                  · have HSb : Hid (Calls Tryd.prog 12 #[.pointer (some a), .int .i64 j] wr fun e w' => e = .returned (.tuple #[.agg #[.int .i64 0, .int .i64 0, .int .i64 0, .int .i64 0], .iface 54 (.int .i64 1)]) ∧ Below wr.heap.size wr w') := (HSr.out _ _ _ _ _ _ _ _ _ hS.out).2 j hbad
                    have hwj : IntKind.i64.wrap (j + 1) = j + 1 := by rw [IntKind.wrap_i64]; omega
                    rcases (show j < 0 ∨ (¬ j < 0 ∧ (S.length : Int) ≤ j) by omega) with hb1 | ⟨hb1, hb2⟩
                    all_goals
                      clear hbad
                      go_wp2_with fail
                      refine HSb.out.mono ?_
                      rintro e w6 ⟨rfl, hw6⟩
                      have S7 : Hid (Side X w a g gs cs sp R00 (k + 1) (k + 1) (.slice ar' rn cr') (w6.alloc (.cells #[.int .i64 0, .int .i64 0, .int .i64 0, .int .i64 0] 43))) := hS.out.later (hw6.alloc hw6.size _)
                      clear hw6
                      go_wp2_with fail
                      refine (HE1.out _ S7.out.below).mono ?_
                      rintro e w7 ⟨rfl, hw7⟩
                      have S8 : Hid (Side X w a g gs cs sp R00 (k + 1) (k + 1) (.slice ar' rn cr') w7) := S7.out.later hw7
                      clear hw7
                      go_wp2
                      go_roundw
                      case rel => exact ⟨j + 1, by omega, by omega, rfl, S8⟩
                      case measure => simp [intOf]; omega
                  · obtain ⟨m, rfl⟩ : ∃ m : Nat, j = m := ⟨j.toNat, by omega⟩
                    have hm : m < S.length := by omega
                    have HSb : Hid (Calls Tryd.prog 12 #[.pointer (some a), .int .i64 m] wr fun e w' => e = .returned (.tuple #[.agg #[.int .i64 (sAt (ticksR R00 (k + 1)).S m).1, .int .i64 (sAt (ticksR R00 (k + 1)).S m).2.1, .int .i64 (sAt (ticksR R00 (k + 1)).S m).2.2.1, .int .i64 (sAt (ticksR R00 (k + 1)).S m).2.2.2], .nilIface]) ∧ Below wr.heap.size wr w') := (HSr.out _ _ _ _ _ _ _ _ _ hS.out).1 m hm
                    have hb1 : ¬ (m : Int) < 0 := by omega
                    have hb2 : ¬ (S.length : Int) ≤ (m : Int) := by omega
                    have HFc : Hid (∀ u, Side X w a g gs cs sp R00 (k + 1) (k + 1) (.slice ar' rn cr') u → u.cell? ⟨g, 0, none⟩ = some (.slice (some ⟨gs, 0, none⟩) S.length cs) ∧ SrcAt u gs (m * 4) (sAt (ticksR R00 (k + 1)).S m) ∧ S.length ≤ cs) := fun u hu => by
                      obtain ⟨c0, _⟩ := hu.ref.five
                      have hr := hu.ref.room
                      rw [HLen.out] at c0 hr
                      exact ⟨c0, row_src hu.ref.srcs (i := m) (by rw [HLen.out]; exact hm), hr⟩
                    clear hbad
                    generalize sAt (ticksR R00 (k + 1)).S m = q at *
                    go_wp2_with fail
                    refine HSb.out.mono ?_
                    rintro e w6 ⟨rfl, hw6⟩
                    have S7 : Hid (Side X w a g gs cs sp R00 (k + 1) (k + 1) (.slice ar' rn cr') (w6.alloc (.cells #[.int .i64 q.1, .int .i64 q.2.1, .int .i64 q.2.2.1, .int .i64 q.2.2.2] 43))) := hS.out.later (hw6.alloc hw6.size _)
                    clear hw6
                    obtain ⟨c0, ⟨c1, c2, c3, c4⟩, hcs⟩ := HFc.out _ S7.out
                    go_wp2_with fail
                    go_quiet (fail)
                    have S8 : Hid (Side X w a g gs cs sp R00 (k + 1) (k + 1) (.slice ar' rn cr') ((w6.alloc (.cells #[.int .i64 q.1, .int .i64 q.2.1, .int .i64 q.2.2.1, .int .i64 q.2.2.2] 43)).drewN nq)) := S7.out.later (below_drewN (Below.refl _ _) _)
                    generalize (w6.alloc (.cells #[.int .i64 q.1, .int .i64 q.2.1, .int .i64 q.2.2.1, .int .i64 q.2.2.2] 43)).drewN nq = w8 at *
                    clear c0 c1 c2 c3 c4 S7
                    go_wp2
                    go_roundw
                    case rel => exact ⟨(m : Int) + 1, by omega, by omega, by go_num, S8⟩
                    case measure => simp [intOf]; omega
                · go_wp2
                  go_roundw
                  case rel => exact ⟨k + 1, _, by omega, by go_num, hS⟩
                  case measure => simp [intOf]; omega
        · have h2' : ¬ (k : Int) < 40 := by omega
          go_wp2
          go_ret
          exact ⟨rfl, BR.out⟩
      · go_wp2
        go_ret
        exact ⟨rfl, BR.out⟩
  · have HMd : Hid (∀ W e w', Made X S room cap wait W w' e → ∃ a, e = .returned (.tuple #[.pointer a, .iface 54 (.int .i64 (newE S room cap wait))]) ∧ Below W.heap.size W w') := fun W => made_bad he
    have HE0 : Hid (∀ u : World, Below w.heap.size w u → Calls Tryd.prog 6 #[.iface 54 (.int .i64 (newE S room cap wait)), .int .i64 (newE S room cap wait)] u fun e w' => e = .returned (.bool true) ∧ Below u.heap.size u w') := fun u hu => by
      have := HEr.out (newE S room cap wait) u hu
      rw [errV_ne he] at this
      exact this
    generalize newE S room cap wait = ne at *
    have q : (ne == 0) = false := beq_eq_false_iff_ne.2 he
    go_enter Tryd.func3, Tryd.ntmps3
    go_upto_region 1 with fail
    rw [HWd.out]
    have K0 : Hid (Below W.heap.size W W) := Below.refl _ _
    obtain ⟨b0, R0, s0⟩ := HKp.out _ K0.out
    obtain ⟨d0, d1, d2, z0, z1, z2, hgz⟩ := R0.three
    go_wp2_with fail
    refine (HNR.out _ b0).mono ?_
    rintro e w1 ⟨rfl, hw1⟩
    have K1 : Hid (Below W.heap.size W w1) := Bel.call K0.out (Nat.le_refl _) hw1
    clear hw1 d0 d1 d2 z0 z1 z2 hgz R0 b0 s0
    obtain ⟨b1, R1, s1⟩ := HKp.out _ K1.out
    obtain ⟨d0, d1, d2, z0, z1, z2, hgz⟩ := R1.three
    go_wp2_with fail
    refine (HN.out _ b1).mono ?_
    intro e w2 hmade
    obtain ⟨a, rfl, hw2⟩ := HMd.out _ _ _ hmade
    have K2 : Hid (Below W.heap.size W w2) := Bel.call K1.out (Nat.le_refl _) hw2
    clear hw2 d0 d1 d2 z0 z1 z2 hgz R1 b1 s1 hmade
    obtain ⟨b2, R2, s2⟩ := HKp.out _ K2.out
    go_wp2_with fail
    refine (HE0.out _ b2).mono ?_
    rintro e w3 ⟨rfl, hw3⟩
    have B3 : Hid (Below w.heap.size w w3) := Bel.call b2 (Nat.le_refl _) hw3
    clear hw3 R2 b2 s2
    go_wp2
    go_ret
    exact ⟨rfl, B3.out⟩
end Ev
end Go.Proofs.YtkpmjmgmgkdfnajDoor
