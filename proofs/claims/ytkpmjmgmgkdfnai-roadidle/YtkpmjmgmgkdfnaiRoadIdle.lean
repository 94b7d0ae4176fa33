/- The law RoadIdle returns true for every input, from what is asked of package road's calls: without anything to send nothing happens. -/
import Derived.Test.YtkpmjmgmgkdfnaiPlains
import Derived.Deep.RegionHeld3
import Derived.Deep.QuietTactic
namespace Go.Proofs.Ytkpmjmgmgkdfnai
namespace Ev
open Go.RowKit Fr Ns Ld Fl
set_option linter.unusedSimpArgs false
set_option linter.unusedVariables false

theorem idle_go (win : Int) : goS (win, 0, 0, 0) = 0 := by
  unfold goS goN
  simp only
  split
  · split <;> omega
  · rfl
theorem idle_sent (win : Int) : sentS (win, 0, 0, 0) = (win, 0, 0, 0) := by
  have h := idle_go win
  unfold goS at h
  simp only at h
  simp only [sentS, sent4, h]
  rfl
theorem idle_row (win room cap : Int) : rowR (road0 [(win, 0, 0, 0)] room cap 0) = [] := by
  simp [rowR, road0, sendFrom, idle_go]
theorem idle_went {win room cap : Int} (h : poolE room cap 0 = 0) : wentR (road0 [(win, 0, 0, 0)] room cap 0) 0 = 0 ∧ waitR (road0 [(win, 0, 0, 0)] room cap 0) 0 = 0 ∧ lostR (road0 [(win, 0, 0, 0)] room cap 0) 0 = 0 := by
  have hp := poolE_0.1 h
  have h1 : wentR (road0 [(win, 0, 0, 0)] room cap 0) 0 = 0 := by
    unfold wentR; show (if cap < 0 then cap else 0) = 0
    rw [if_neg (by omega)]
  have h2 : waitR (road0 [(win, 0, 0, 0)] room cap 0) 0 = 0 := by
    unfold waitR; rw [h1]; show (if room < 0 - 0 then room else 0 - 0) = 0
    rw [if_neg (by omega)]; rfl
  refine ⟨h1, h2, ?_⟩
  unfold lostR
  rw [h1, h2]; rfl
theorem idle_tick {win room cap : Int} (h : poolE room cap 0 = 0) : tickR (road0 [(win, 0, 0, 0)] room cap 0) = road0 [(win, 0, 0, 0)] room cap 0 ∧ goneV (road0 [(win, 0, 0, 0)] room cap 0) = .agg #[.int .i64 0, .int .i64 0, .int .i64 0] := by
  have hr := idle_row win room cap
  obtain ⟨h1, h2, h3⟩ := idle_went (win := win) h
  constructor
  · unfold tickR
    rw [hr]
    simp only [List.length_nil, Int.natCast_zero, Int.ofNat_zero, h1, h2, hand, List.drop_nil, List.take_nil]
    simp only [road0, List.map_cons, List.map_nil, idle_sent]
  · unfold goneV
    rw [hr]
    simp only [List.length_nil, Int.natCast_zero, Int.ofNat_zero, h1, h2, h3]
theorem src_one (w : World) (g : Nat) (s : Src) (h : SrcAt w g 0 s) : SrcsAt (fun _ => True) w (.slice (some ⟨g, 0, none⟩) 1 1) [s] :=
  ⟨_, 1, rfl, ⟨Nat.le_refl _, by simp⟩, .inr ⟨g, 0, rfl, fun i hi => by
    match i, hi with
    | 0, _ => exact h, trivial⟩⟩

set_option maxRecDepth 100000 in
set_option maxHeartbeats 4000000 in
theorem roadIdle_walk (X : RoadFace) (hN : RNewSaid X) (hT : RTickSaid X) (hS : RSourceSaid X) (hP : RPoolSaid X) (hW : RWaitsSaid X) (win room cap wait many : Int) (w : World) :
    Calls Try.prog 7 #[.int .i64 win, .agg #[.int .i64 room, .int .i64 cap, .int .i64 wait], .int .i64 many] w fun e w' => e = .returned (.bool true) ∧ Below w.heap.size w w' := by
  obtain ⟨W, hWd⟩ : ∃ W, W = (w.alloc (.cells #[.int .i64 room, .int .i64 cap, .int .i64 wait] 42)).alloc (.cells #[.int .i64 win, .int .i64 0, .int .i64 0, .int .i64 0] 47) := ⟨_, rfl⟩
  have RP : Hid (RowAt W w.heap.size 42 [.int .i64 room, .int .i64 cap, .int .i64 wait]) := by rw [hWd]; exact (row_made w _ _ _ _ rfl rfl).alloc _
  have RS : Hid (RowAt W (w.heap.size + 1) 47 [.int .i64 win, .int .i64 0, .int .i64 0, .int .i64 0]) := by rw [hWd]; exact row_made _ _ _ _ _ (by simp) rfl
  have SW : Hid (W.heap.size = w.heap.size + 1 + 1) := by show _ = _; rw [hWd]; simp
  have BW : Hid (Below w.heap.size w W) := by rw [hWd]; exact ((Below.refl _ _).alloc (Nat.le_refl _) _).alloc (by simp) _
  have HN : Hid (Calls Try.prog 16 #[.slice (some ⟨w.heap.size + 1, 0, none⟩) 1 1, .agg #[.int .i64 room, .int .i64 cap, .int .i64 wait]] W fun e w' => Made X [(win, 0, 0, 0)] room cap wait W w' e) :=
    hN (fun _ => True) [(win, 0, 0, 0)] room cap wait _ W (src_one _ _ _ ⟨RS.out.cell (i := 0) rfl, RS.out.cell (i := 1) rfl, RS.out.cell (i := 2) rfl, RS.out.cell (i := 3) rfl⟩)
  by_cases he : newE [(win, 0, 0, 0)] room cap wait = 0
  · obtain ⟨_, _, hpl, rfl, _⟩ := newE_0 he
    obtain ⟨ht1, ht2⟩ := idle_tick (win := win) hpl
    obtain ⟨hri, hrl, _⟩ := road0_inv he
    have hright : RightR (road0 [(win, 0, 0, 0)] room cap 0) := ⟨_, by simp [road0], hrl, hri⟩
    have HM : Hid (∀ e w', Made X [(win, 0, 0, 0)] room cap 0 W w' e → ∃ a F, e = .returned (.tuple #[.pointer (some a), .nilIface]) ∧ X.Inv w' (.pointer (some a)) F (road0 [(win, 0, 0, 0)] room cap 0) ∧ (∀ b, F b → W.heap.size ≤ b) ∧ Below W.heap.size W w') := fun e w' ⟨p, h1, _, h2, h3⟩ => by
      obtain ⟨F, hi, hF⟩ := h2 he
      obtain ⟨a, rfl⟩ := X.ptr hi
      rw [he, errV_0] at h1
      exact ⟨a, F, h1, hi, hF, h3⟩
    generalize hR : road0 [(win, 0, 0, 0)] room cap 0 = R at *
    have HT : Hid (∀ a F u, X.Inv u (.pointer (some a)) F R → (∀ b, F b → W.heap.size ≤ b) → Below W.heap.size W u → Calls Try.prog 17 #[.pointer (some a)] u fun e w' => e = .returned (.agg #[.int .i64 0, .int .i64 0, .int .i64 0]) ∧ (∃ F', X.Inv w' (.pointer (some a)) F' R ∧ (∀ b, F' b → W.heap.size ≤ b)) ∧ Below W.heap.size W w') := fun a F u hi hF hb => by
      refine (hT _ F R u hi hright).mono ?_
      rintro e w' ⟨rfl, F', hi', hF', hbut⟩
      rw [ht1] at hi'
      refine ⟨by rw [ht2], ⟨F', hi', fun b hb' => ?_⟩, hb.trans (hbut.below hF hb.size)⟩
      rcases hF' b hb' with h | h
      · exact hF b h
      · exact Nat.le_trans hb.size h
    have HSo : Hid (∀ a F u, X.Inv u (.pointer (some a)) F R → Calls Try.prog 20 #[.pointer (some a), .int .i64 0] u fun e w' => e = .returned (.tuple #[.agg #[.int .i64 win, .int .i64 0, .int .i64 0, .int .i64 0], .nilIface]) ∧ Below u.heap.size u w') := fun a F u hi => by
      have := hS _ F R 0 u hi hright
      rw [← hR] at this
      exact this
    have HPo : Hid (∀ a F u, X.Inv u (.pointer (some a)) F R → Calls Try.prog 19 #[.pointer (some a)] u fun e w' => e = .returned (.agg #[.int .i64 room, .int .i64 cap, .int .i64 0]) ∧ Below u.heap.size u w') := fun a F u hi => by
      have := pool_below hP _ F R u hi hright
      rw [← hR] at this
      exact this
    have HWa : Hid (∀ a F u, X.Inv u (.pointer (some a)) F R → Calls Try.prog 18 #[.pointer (some a)] u fun e w' => (∃ x c, e = .returned (.slice x 0 c)) ∧ Below u.heap.size u w') := fun a F u hi => by
      refine (hW _ F R u hi hright).mono ?_
      rintro e w' ⟨y, rfl, hy, hb⟩
      rw [← hR] at hy
      obtain ⟨x, c, rfl, _⟩ := hy
      exact ⟨⟨x, c, rfl⟩, hb⟩
    have HI : Hid (∀ a F u u', X.Inv u (.pointer (some a)) F R → Below u.heap.size u u' → X.Inv u' (.pointer (some a)) F R) := fun a F u u' hi hb => X.later hb hi
    have HK : Hid (∀ u, Below W.heap.size W u → RowAt u w.heap.size 42 [.int .i64 room, .int .i64 cap, .int .i64 0] ∧ RowAt u (w.heap.size + 1) 47 [.int .i64 win, .int .i64 0, .int .i64 0, .int .i64 0] ∧ w.heap.size + 1 < u.heap.size ∧ Below w.heap.size w u) := fun u hu => by
      have := SW.out
      have hs := hu.size
      exact ⟨RP.out.later hu (by omega), RS.out.later hu (by omega), by omega, BW.out.trans (hu.mono (by omega))⟩
    have HGo : Hid (∀ u : World, Below W.heap.size W u → ∀ o, Below W.heap.size W (u.alloc o)) := fun u hu o => hu.alloc hu.size o
    clear hN hT hS hP hW he hpl ht1 ht2 hri hrl hright
    have HN' : Hid (Calls Try.prog 16 #[.slice (some ⟨w.heap.size + 1, 0, none⟩) 1 1, .agg #[.int .i64 room, .int .i64 cap, .int .i64 0]] ((w.alloc (.cells #[.int .i64 room, .int .i64 cap, .int .i64 0] 42)).alloc (.cells #[.int .i64 win, .int .i64 0, .int .i64 0, .int .i64 0] 47)) fun e w' => Made X [(win, 0, 0, 0)] room cap 0 W w' e) := by
      have := HN.out
      rw [hWd] at this
      rw [hWd]
      exact this
    clear hWd HN
    go_enter Try.func7, Try.ntmps7
    go_wp2_with fail
    refine HN'.out.mono ?_
    intro e w3 hmade
    obtain ⟨a, F, rfl, hi, hF, hb3⟩ := HM.out _ _ hmade
    have I3 : Hid (X.Inv w3 (.pointer (some a)) F R) := hi
    have F3 : Hid (∀ b, F b → W.heap.size ≤ b) := hF
    have B3 : Hid (Below W.heap.size W w3) := hb3
    clear hmade hi hF hb3
    go_wp2
    go_loopw [10, 11] (fun s10 _ wr => ∃ (k : Nat) (G : Nat → Prop), (k : Int) ≤ 20 ∧ s10 = .int .i64 k ∧ Hid (X.Inv wr (.pointer (some a)) G R) ∧ Hid (∀ b, G b → W.heap.size ≤ b) ∧ Hid (Below W.heap.size W wr)) (fun s10 _ _ => 20 - (intOf s10).toNat)
    case atStart => exact ⟨0, F, by omega, rfl, I3, F3, B3⟩
    case round =>
      clear I3 F3 B3
      obtain ⟨k, G, hk, rfl, hi, hG, hb⟩ := hrel
      obtain ⟨RP1, RS1, z1, BL1⟩ := HK.out _ hb.out
      by_cases hlt : (k : Int) < many ∧ (k : Int) < 20
      · obtain ⟨l1, l2⟩ := hlt
        clear RP1 RS1 BL1
        go_wp2_with fail
        refine (HT.out a G _ hi.out hG.out hb.out).mono ?_
        rintro e w4 ⟨rfl, ⟨G', hi', hG'⟩, hb'⟩
        have I4 : Hid (∀ o, X.Inv (w4.alloc o) (.pointer (some a)) G' R) := fun o => HI.out _ _ _ _ hi' ((Below.refl _ _).alloc (Nat.le_refl _) _)
        have G4 : Hid (∀ b, G' b → W.heap.size ≤ b) := hG'
        have B4 : Hid (∀ o, Below W.heap.size W (w4.alloc o)) := fun o => HGo.out _ hb' o
        clear hi' hG' hb'
        go_wp2
        go_roundw
        case rel => exact ⟨k + 1, G', by omega, by go_num, I4.out _, G4, B4.out _⟩
        case measure => simp [intOf]; omega
      · have q : (decide ((k : Int) < many) && decide ((k : Int) < 20)) = false := by
          rw [Bool.and_eq_false_iff, decide_eq_false_iff_not, decide_eq_false_iff_not]
          omega
        have hcases : ¬ (k : Int) < many ∨ ((k : Int) < many ∧ ¬ (k : Int) < 20) := by omega
        clear hlt q
        rcases hcases with c1 | ⟨c1, c2⟩
        all_goals
          go_wp2_with fail
          refine (HSo.out a G _ hi.out).mono ?_
          rintro e w5 ⟨rfl, hw5⟩
          have I5 : Hid (X.Inv w5 (.pointer (some a)) G R) := HI.out _ _ _ _ hi.out hw5
          have B5 : Hid (Below W.heap.size W w5) := Bel.call hb.out (Nat.le_refl _) hw5
          clear hw5
          clear RP1 RS1 z1 BL1
          obtain ⟨RP5, RS5, z5, BL5⟩ := HK.out _ B5.out
          go_wp2_with fail
          obtain ⟨w6, hw6⟩ : ∃ u : World, u = w5.alloc (.cells #[.int .i64 win, .int .i64 0, .int .i64 0, .int .i64 0] 47) := ⟨_, rfl⟩
          have P6 : Hid (Below w5.heap.size w5 w6) := by rw [hw6]; exact (Below.refl _ _).alloc (Nat.le_refl _) _
          have RX6 : RowAt w6 w5.heap.size 47 [.int .i64 win, .int .i64 0, .int .i64 0, .int .i64 0] := by rw [hw6]; exact row_made _ _ _ _ _ rfl rfl
          have RP6 := RP5.later P6.out (by omega)
          have RS6 := RS5.later P6.out (by omega)
          have I6 : Hid (X.Inv w6 (.pointer (some a)) G R) := HI.out _ _ _ _ I5.out P6.out
          have B6 : Hid (Below W.heap.size W w6) := Bel.call B5.out (Nat.le_refl _) P6.out
          have HSA : Hid (∀ u : World, Below w6.heap.size w6 u → (u.cell? ⟨w.heap.size, 0, none⟩ = some (.int .i64 room) ∧ u.cell? ⟨w.heap.size, 1, none⟩ = some (.int .i64 cap) ∧ u.cell? ⟨w.heap.size, 2, none⟩ = some (.int .i64 0)) ∧ (u.cell? ⟨w.heap.size + 1, 0, none⟩ = some (.int .i64 win) ∧ u.cell? ⟨w.heap.size + 1, 1, none⟩ = some (.int .i64 0) ∧ u.cell? ⟨w.heap.size + 1, 2, none⟩ = some (.int .i64 0) ∧ u.cell? ⟨w.heap.size + 1, 3, none⟩ = some (.int .i64 0)) ∧ (u.cell? ⟨w5.heap.size, 0, none⟩ = some (.int .i64 win) ∧ u.cell? ⟨w5.heap.size, 1, none⟩ = some (.int .i64 0) ∧ u.cell? ⟨w5.heap.size, 2, none⟩ = some (.int .i64 0) ∧ u.cell? ⟨w5.heap.size, 3, none⟩ = some (.int .i64 0))) := fun u hu => by
            have r1 := RP6.later hu RP6.lt
            have r2 := RS6.later hu RS6.lt
            have r3 := RX6.later hu RX6.lt
            exact ⟨⟨r1.cell (i := 0) rfl, r1.cell (i := 1) rfl, r1.cell (i := 2) rfl⟩, ⟨r2.cell (i := 0) rfl, r2.cell (i := 1) rfl, r2.cell (i := 2) rfl, r2.cell (i := 3) rfl⟩, ⟨r3.cell (i := 0) rfl, r3.cell (i := 1) rfl, r3.cell (i := 2) rfl, r3.cell (i := 3) rfl⟩⟩
          rw [← hw6]
          clear hw6 RP5 RS5 z5 BL5 RX6 RP6 RS6 I5 B5 P6
          have P1 : Hid (Below w6.heap.size w6 w6.drew) := (Below.refl _ _).drew
          go_region_held3 (fun u => (u.cell? ⟨w.heap.size, 0, none⟩ = some (.int .i64 room) ∧ u.cell? ⟨w.heap.size, 1, none⟩ = some (.int .i64 cap) ∧ u.cell? ⟨w.heap.size, 2, none⟩ = some (.int .i64 0)) ∧ (u.cell? ⟨w.heap.size + 1, 0, none⟩ = some (.int .i64 win) ∧ u.cell? ⟨w.heap.size + 1, 1, none⟩ = some (.int .i64 0) ∧ u.cell? ⟨w.heap.size + 1, 2, none⟩ = some (.int .i64 0) ∧ u.cell? ⟨w.heap.size + 1, 3, none⟩ = some (.int .i64 0)) ∧ (u.cell? ⟨w5.heap.size, 0, none⟩ = some (.int .i64 win) ∧ u.cell? ⟨w5.heap.size, 1, none⟩ = some (.int .i64 0) ∧ u.cell? ⟨w5.heap.size, 2, none⟩ = some (.int .i64 0) ∧ u.cell? ⟨w5.heap.size, 3, none⟩ = some (.int .i64 0)))
            ((refine HSA.out _ ?_; first | exact P1.out | exact Hbo.out | exact Hbq.out))
            (first | (go_at_call 19; refine (HPo.out a G _ (HI.out _ _ _ _ I6.out P1.out)).mono ?_; rintro e wo ⟨rfl, hwo⟩; have Hbo : Hid (Below w6.heap.size w6 wo) := Bel.call P1.out (Nat.le_refl _) hwo) | (go_at_call 18; refine (HWa.out a G _ (HI.out _ _ _ _ I6.out Hbo.out)).mono ?_; rintro e wq ⟨⟨x, c, rfl⟩, hwq⟩; have Hbq : Hid (Below w6.heap.size w6 wq) := Bel.call Hbo.out (Nat.le_refl _) hwq))
          all_goals
            have BF : Hid (Below w.heap.size w wq) := (HK.out _ (Bel.call B6.out (Nat.le_refl _) Hbq.out)).2.2.2
            clear hwo hwq Hbo HSA P1
            go_wp2
            go_ret
            exact ⟨Ns.ret_bool rfl, BF.out⟩
  · have HM : Hid (∀ e w', Made X [(win, 0, 0, 0)] room cap wait W w' e → ∃ a, e = .returned (.tuple #[.pointer a, .iface 86 (.int .i64 (newE [(win, 0, 0, 0)] room cap wait))]) ∧ Below W.heap.size W w') := fun e w' ⟨p, h1, ⟨a, h2⟩, _, h3⟩ => by
      rw [errV_ne he, h2] at h1
      exact ⟨a, h1, h3⟩
    have HN' : Hid (Calls Try.prog 16 #[.slice (some ⟨w.heap.size + 1, 0, none⟩) 1 1, .agg #[.int .i64 room, .int .i64 cap, .int .i64 wait]] ((w.alloc (.cells #[.int .i64 room, .int .i64 cap, .int .i64 wait] 42)).alloc (.cells #[.int .i64 win, .int .i64 0, .int .i64 0, .int .i64 0] 47)) fun e w' => Made X [(win, 0, 0, 0)] room cap wait W w' e) := by
      have := HN.out
      rw [hWd] at this
      rw [hWd]
      exact this
    have HBl : Hid (∀ u, Below W.heap.size W u → Below w.heap.size w u) := fun u hu => BW.out.trans (hu.mono BW.out.size)
    clear hWd HN hN hT hS hP hW
    generalize newE [(win, 0, 0, 0)] room cap wait = ek at *
    go_enter Try.func7, Try.ntmps7
    go_wp2_with fail
    refine HN'.out.mono ?_
    intro e w3 hmade
    obtain ⟨a, rfl, hb3⟩ := HM.out _ _ hmade
    have BF : Hid (Below w.heap.size w w3) := HBl.out _ hb3
    clear hmade hb3
    go_wp2
    go_ret
    exact ⟨Ns.ret_bool rfl, BF.out⟩
end Ev
end Go.Proofs.Ytkpmjmgmgkdfnai
