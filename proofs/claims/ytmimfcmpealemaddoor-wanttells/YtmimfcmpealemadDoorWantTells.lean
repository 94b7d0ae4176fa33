/- The law WantTells returns true for every net and wants, from what is asked of package want's calls. -/
import Derived.Test.YtmimfcmpealemadDoorRWants
import Derived.Test.YtmimfcmpealemadDoorRWide
import Derived.Test.YtmimfcmpealemadDoorRFill
import Derived.Test.YtmimfcmpealemadDoorPlains
import Derived.Test.YtmimfcmpealemadDoorSameN
import Derived.Test.YtmimfcmpealemadDoorSameB
import Derived.Test.YtmimfcmpealemadDoorLdSame
import Derived.Test.YtmimfcmpealemadDoorToldB
namespace Go.Proofs.YtmimfcmpealemadDoor
namespace Fl
open Go.RowKit Fr Ns Ld
set_option linter.unusedSimpArgs false
set_option linter.unusedVariables false

theorem wants_at {caps : List Int} {paths : List (List Int)} {want : List Int} {f : Nat} (h : f < paths.length) : (wantS caps paths want).getD f false = decide (rP (wantR caps paths want) f = (want.getD f 0, 1)) := by
  simp [wantS, List.getD, List.getElem?_map, List.getElem?_range h]
theorem netN (Q : Nat → Prop) (w : World) : NetAt Q w (.agg #[.slice none 0 0, .slice none 0 0]) [] [] := ⟨_, _, rfl, ints_nil _ _, lists_nil _ _⟩

set_option maxRecDepth 100000 in
set_option maxHeartbeats 8000000 in
theorem wantTells_walk (hNe : WNetSaid) (hRa : WRatesSaid) (hSa : WSatedSaid) (caps : List Int) (paths : List (List Int)) (want : List Int) (v x : Value) (w : World)
    (hg : w.cell? ⟨0, 0, none⟩ = some handleV) (hv : NetAt (fun b => b < w.heap.size) w v caps paths) (hx : IntsAt (fun b => b < w.heap.size) w x want) :
    Calls Tryd.prog 3 #[v, x] w fun e w' => e = .returned (.bool true) ∧ Below w.heap.size w w' := by
  have HRa : Hid (∀ u : World, Below w.heap.size w u → Calls Tryd.prog 12 #[v, x] u fun e w' => ∃ y, e = .returned (.tuple #[y, errV (wantE caps paths want)]) ∧ FracsAt (fun b => u.heap.size ≤ b) w' y (okL (wantE caps paths want) (wantR caps paths want)) ∧ Below u.heap.size u w') := fun u hu => hRa _ caps paths want v x u (hv.later hu) (hx.later hu)
  have HSa : Hid (∀ u : World, Below w.heap.size w u → Calls Tryd.prog 14 #[v, x] u fun e w' => ∃ y, e = .returned (.tuple #[y, errV (wantE caps paths want)]) ∧ BoolsAt (fun b => u.heap.size ≤ b) w' y (okL (wantE caps paths want) (wantS caps paths want)) ∧ Below u.heap.size u w') := fun u hu => hSa _ caps paths want v x u (hv.later hu) (hx.later hu)
  have HNe : Hid (∀ u : World, Below w.heap.size w u → Calls Tryd.prog 7 #[v, x] u fun e w' => ∃ y, e = .returned (.tuple #[y, errV (wideE caps paths want)]) ∧ NetAt (fun b => u.heap.size ≤ b) w' y (okL (wideE caps paths want) (caps ++ want)) (okL (wideE caps paths want) (wideP caps.length paths)) ∧ Below u.heap.size u w') := fun u hu => hNe _ caps paths want v x u (hv.later hu) (hx.later hu)
  have HRW : Hid (∀ u : World, Below w.heap.size w u → Calls Tryd.prog 5 #[v, x] u fun e w' => e = .returned (.int .i64 (wantE caps paths want)) ∧ Below u.heap.size u w') := fun u hu => RWants_any caps paths want v x u (hv.later hu) (hx.later hu)
  have HEr : Hid (∀ (k : Int) (u : World), Below w.heap.size w u → Calls Tryd.prog 8 #[errV k, .int .i64 k] u fun e w' => e = .returned (.bool true) ∧ Below u.heap.size u w') := fun k u hu => by
    have := Error_any k k u (cell_later hu hg)
    rw [beq_self_eq_true] at this
    exact this
  have HRD : Hid (wantE caps paths want = 0 → ∀ u : World, Below w.heap.size w u → Calls Tryd.prog 6 #[v, x] u fun e w' => ∃ y, e = .returned y ∧ NetAt (fun b => u.heap.size ≤ b) w' y (caps ++ want) (wideP caps.length paths) ∧ Below u.heap.size u w') := fun he u hu => RWide_any caps paths want v x u (hv.later hu) (hx.later hu) he
  obtain ⟨v1, v2, rfl, ⟨a1, cap1, rfl, ⟨hm1, hn1⟩, _⟩, ⟨a2, cap2, rfl, ⟨hm2, hn2⟩, _⟩⟩ := hv
  obtain ⟨ax, capx, rfl, ⟨hmx, hnx⟩, hx⟩ := hx
  have HX : Hid (∀ i, i < want.length → ∃ b off, ax = some ⟨b, off, none⟩ ∧ ∀ u, Below w.heap.size w u → u.cell? ⟨b, off + i, none⟩ = some (.int .i64 (want.getD i 0))) := by
    intro i hi
    rcases hx with rfl | ⟨b, off, rfl, h, _⟩
    · simp at hi
    · exact ⟨b, off, rfl, fun u hu => cell_later hu (h i hi)⟩
  have HBW : Hid (∀ u, Below (w.heap.size + 1) (w.alloc (.cells #[.slice a1 caps.length cap1, .slice a2 paths.length cap2] 25)) u → Below w.heap.size w u) := fun u hu => ((Below.refl _ _).alloc (Nat.le_refl _) _).trans (hu.mono (by omega))
  have HCW : Hid (∀ u, Below (w.heap.size + 1) (w.alloc (.cells #[.slice a1 caps.length cap1, .slice a2 paths.length cap2] 25)) u → u.cell? ⟨w.heap.size, 0, none⟩ = some (.slice a1 caps.length cap1) ∧ u.cell? ⟨w.heap.size, 1, none⟩ = some (.slice a2 paths.length cap2) ∧ w.heap.size + 1 ≤ u.heap.size) := fun u hu =>
    ⟨(hu.cell (p := ⟨w.heap.size, 0, none⟩) (by simp)).trans (by simp), (hu.cell (p := ⟨w.heap.size, 1, none⟩) (by simp)).trans (by simp), by have := hu.size; simpa using this⟩
  have hNB : Hid (w.heap.size + 1 ≤ (w.alloc (.cells #[.slice a1 caps.length cap1, .slice a2 paths.length cap2] 25)).heap.size) := by simp [Hid]
  clear hg hx
  by_cases he : wantE caps paths want = 0
  · have hk := want_ok he
    obtain ⟨e1, e2, e3⟩ := wantE_0 he
    have hp6 : paths.length ≤ 6 := (netE_0 e1).2.2.2.1
    have hc6 : caps.length ≤ 6 := (netE_0 e1).2.1
    have hw6 : want.length ≤ 6 := by omega
    have HRl : Hid ((wantR caps paths want).length = paths.length) := hk.len
    have HWl : Hid (want.length = paths.length) := e2
    have HSt : Hid (∀ f, f < paths.length → (wantS caps paths want).getD f false = decide (rP (wantR caps paths want) f = (want.getD f 0, 1))) := fun f hf => wants_at hf
    have HSl : Hid ((wantS caps paths want).length = paths.length) := by simp [wantS, Hid]
    have HWd : Hid (6 < caps.length + want.length → wideE caps paths want = 4) := fun h => by rw [wideE, if_pos he, if_pos h]
    have HWn : Hid (¬ 6 < caps.length + want.length → wideE caps paths want = 0) := fun h => by rw [wideE, if_pos he, if_neg h]
    have HRi : Hid (∀ u : World, Below w.heap.size w u → Calls Tryd.prog 6 #[.agg #[.slice a1 caps.length cap1, .slice a2 paths.length cap2], .slice ax want.length capx] u fun e w' => ∃ y, e = .returned y ∧ NetAt (fun b => u.heap.size ≤ b) w' y (caps ++ want) (wideP caps.length paths) ∧ Below u.heap.size u w') := HRD.out he
    have HRf : Hid (∀ (R : Nat → Prop) (u : World) (y : Value), NetAt R u y (caps ++ want) (wideP caps.length paths) → Calls Tryd.prog 10 #[y] u fun e w' => ∃ y z, e = .returned (.tuple #[y, z]) ∧ FracsAt (fun b => u.heap.size ≤ b) w' y (wantR caps paths want) ∧ ListsAt (fun b => u.heap.size ≤ b) w' z (fill (caps ++ want) (wideP caps.length paths)).2 ∧ Below u.heap.size u w') := fun R u y hy => RFill_any _ _ y u hy (wide_good (good_of_net e1) e2 e3) (by rw [List.length_append]; omega)
    rw [he, errV_0, okL_0] at HRa HSa
    rw [he] at HRW
    have HE0 : Hid (∀ u : World, Below w.heap.size w u → Calls Tryd.prog 8 #[.nilIface, .int .i64 0] u fun e w' => e = .returned (.bool true) ∧ Below u.heap.size u w') := HEr.out 0
    have HE4 : Hid (∀ u : World, Below w.heap.size w u → Calls Tryd.prog 8 #[.iface 57 (.int .i64 4), .int .i64 4] u fun e w' => e = .returned (.bool true) ∧ Below u.heap.size u w') := HEr.out 4
    obtain ⟨j0, hJ, hy0, hy1, hy2⟩ := info_parts infoBool
    generalize (fill (caps ++ want) (wideP caps.length paths)).2 = ZL at *
    generalize wantS caps paths want = SL at *
    generalize wantR caps paths want = RL at *
    generalize wideP caps.length paths = WP at *
    clear he hk e1 e2 e3 HEr HRD
    by_cases h6 : 6 < caps.length + want.length
    · have HN := (show Hid (∀ u : World, Below w.heap.size w u → _) from fun u hu => HNe.out u hu)
      rw [HWd.out h6, okL_ne (by decide), okL_ne (by decide)] at HN
      replace HN : Hid (∀ u : World, Below w.heap.size w u → Calls Tryd.prog 7 #[.agg #[.slice a1 caps.length cap1, .slice a2 paths.length cap2], .slice ax want.length capx] u fun e w' => ∃ y, e = .returned (.tuple #[y, .iface 57 (.int .i64 4)]) ∧ NetAt (fun b => u.heap.size ≤ b) w' y [] [] ∧ Below u.heap.size u w') := HN
      have q6 : (6 : Int) < (caps.length : Int) + (want.length : Int) := by omega
      go_enter Tryd.func3, Tryd.ntmps3
      go_wp2_with fail
      refine (HRW.out _ (HBW.out _ (Below.refl _ _))).mono ?_
      rintro e w1 ⟨rfl, hw1⟩
      have B1 : Hid (Below (w.heap.size + 1) (w.alloc (.cells #[.slice a1 caps.length cap1, .slice a2 paths.length cap2] 25)) w1) := Bel.call (Below.refl _ _) hNB.out hw1
      obtain ⟨g0, g1, z1⟩ := HCW.out _ B1.out
      have B1' : Hid (Below (w.heap.size + 1) (w.alloc (.cells #[.slice a1 caps.length cap1, .slice a2 paths.length cap2] 25)) (w1.alloc (.cells #[.slice none 0 0, .slice none 0 0] 25))) := B1.out.alloc z1 _
      clear hw1
      clear g0 g1
      obtain ⟨g0, g1, z1'⟩ := HCW.out _ B1'.out
      have HWv : Hid (NetAt (fun _ => True) (w1.alloc (.cells #[.slice none 0 0, .slice none 0 0] 25)) (.agg #[.slice none 0 0, .slice none 0 0]) [] []) := netN _ _
      have Ha := B1'
      have x0 : (w1.alloc (.cells #[.slice none 0 0, .slice none 0 0] 25)).cell? ⟨w1.heap.size, 0, none⟩ = some (.slice none 0 0) := by simp
      have x1 : (w1.alloc (.cells #[.slice none 0 0, .slice none 0 0] 25)).cell? ⟨w1.heap.size, 1, none⟩ = some (.slice none 0 0) := by simp
      go_wp2_with fail
      refine (HN.out _ (HBW.out _ Ha.out)).mono ?_
      rintro e w3 ⟨y3, rfl, hy3, hw3⟩
      have B3 : Hid (Below (w.heap.size + 1) (w.alloc (.cells #[.slice a1 caps.length cap1, .slice a2 paths.length cap2] 25)) w3) := Bel.call Ha.out hNB.out hw3
      have Y3 : Hid (NetAt (fun _ => True) w3 y3 [] []) := hy3.keep (fun _ _ _ => rfl) (fun _ _ _ => trivial)
      have W3 : Hid (NetAt (fun _ => True) w3 (.agg #[.slice none 0 0, .slice none 0 0]) [] []) := HWv.out.later hw3
      have k0 := cell_later hw3 x0
      have k1 := cell_later hw3 x1
      obtain ⟨f1, f2, f3, f4, f5, f6, rfl⟩ := hy3.shape
      have z3 : w.heap.size + 1 ≤ w3.heap.size := Nat.le_trans hNB.out B3.out.size
      have B3' : Hid (Below (w.heap.size + 1) (w.alloc (.cells #[.slice a1 caps.length cap1, .slice a2 paths.length cap2] 25)) (w3.alloc (.cells #[.slice f1 f2 f3, .slice f4 f5 f6] 25))) := B3.out.alloc z3 _
      have BA3 : Hid (Below w3.heap.size w3 (w3.alloc (.cells #[.slice f1 f2 f3, .slice f4 f5 f6] 25))) := (Below.refl _ _).alloc (Nat.le_refl _) _
      clear g0 g1 hw3 hy3
      go_wp2_with fail
      refine (HE4.out _ (HBW.out _ B3'.out)).mono ?_
      rintro e w4 ⟨rfl, hw4⟩
      have B4 : Hid (Below (w.heap.size + 1) (w.alloc (.cells #[.slice a1 caps.length cap1, .slice a2 paths.length cap2] 25)) w4) := Bel.call B3'.out hNB.out hw4
      have m0 : w4.cell? ⟨w3.heap.size, 0, none⟩ = some (.slice f1 f2 f3) := cell_later hw4 (by simp)
      have m1 : w4.cell? ⟨w3.heap.size, 1, none⟩ = some (.slice f4 f5 f6) := cell_later hw4 (by simp)
      have k0' := cell_later hw4 (cell_later BA3.out k0)
      have k1' := cell_later hw4 (cell_later BA3.out k1)
      have HS4 : Hid (Calls Tryd.prog 9 #[.agg #[.slice f1 f2 f3, .slice f4 f5 f6], .agg #[.slice none 0 0, .slice none 0 0]] w4 fun e w' => e = .returned (.bool true) ∧ Below w4.heap.size w4 w') := by
        have := SNet_any [] [] [] [] _ _ w4 ((Y3.out.later BA3.out).later hw4) ((W3.out.later BA3.out).later hw4)
        rw [eqN_self] at this
        exact this
      clear hw4 k0 k1
      go_wp2_with fail
      refine HS4.out.mono ?_
      rintro e wb ⟨rfl, hwb⟩
      have Hb : Hid (Below (w.heap.size + 1) (w.alloc (.cells #[.slice a1 caps.length cap1, .slice a2 paths.length cap2] 25)) wb) := Bel.call B4.out hNB.out hwb
      clear hwb m0 m1 k0' k1'
      obtain ⟨g0, g1, zb⟩ := HCW.out _ Hb.out
      go_wp2_with fail
      refine (HRi.out _ (HBW.out _ Hb.out)).mono ?_
      rintro e w6 ⟨y6, rfl, hy6, hw6⟩
      have B6 : Hid (Below (w.heap.size + 1) (w.alloc (.cells #[.slice a1 caps.length cap1, .slice a2 paths.length cap2] 25)) w6) := Bel.call Hb.out hNB.out hw6
      have HF6 := (show Hid _ from HRf.out _ w6 y6 hy6)
      obtain ⟨d1, d2, d3, d4, d5, d6, rfl⟩ := hy6.shape
      have HF7 : Hid (Calls Tryd.prog 10 #[.agg #[.slice d1 d2 d3, .slice d4 d5 d6]] w6 fun e w' => ∃ y z, e = .returned (.tuple #[y, z]) ∧ FracsAt (fun b => w6.heap.size ≤ b) w' y RL ∧ ListsAt (fun b => w6.heap.size ≤ b) w' z ZL ∧ Below w6.heap.size w6 w') := HF6
      clear g0 g1 hw6 hy6 HF6
      go_wp2_with fail
      refine HF7.out.mono ?_
      rintro e w7 ⟨y7, q7, rfl, hy7, hq7, hw7⟩
      have B7 : Hid (Below (w.heap.size + 1) (w.alloc (.cells #[.slice a1 caps.length cap1, .slice a2 paths.length cap2] 25)) w7) := Bel.call B6.out hNB.out hw7
      have Y7 : Hid (FracsAt (fun _ => True) w7 y7 RL) := hy7.keep (fun _ _ _ => rfl) (fun _ _ _ => trivial)
      obtain ⟨_, _, rfl, _⟩ := hq7
      obtain ⟨a7, c7, rfl, ⟨hm7, hn7⟩, hc7⟩ := hy7
      have HA : Hid (∀ i, i < paths.length → ∃ b off, a7 = some ⟨b, off, none⟩ ∧ ∀ u, Below w7.heap.size w7 u → u.cell? ⟨b, off + i * 2, none⟩ = some (.int .i64 (rP RL i).1) ∧ u.cell? ⟨b, off + i * 2 + 1, none⟩ = some (.int .i64 (rP RL i).2)) := by
        intro i hi
        rcases hc7 with h | ⟨b, off, rfl, h, _⟩
        · have := HRl.out; rw [h] at this; simp at this; omega
        · exact ⟨b, off, rfl, fun u hu => ⟨cell_later hu (h i (by have := HRl.out; omega)).1, cell_later hu (h i (by have := HRl.out; omega)).2⟩⟩
      have r1 : RL.length ≤ paths.length := Nat.le_of_eq HRl.out
      have r2 : paths.length ≤ RL.length := Nat.le_of_eq HRl.out.symm
      have l1 : want.length ≤ paths.length := Nat.le_of_eq HWl.out
      have l2 : paths.length ≤ want.length := Nat.le_of_eq HWl.out.symm
      clear hw7 hc7 HF7
      go_wp2
      go_loopw [12, 13] (fun o i wq => ∃ k : Nat, k ≤ paths.length ∧ i = .int .i64 k ∧ Hid (wq.ownsRow w7.heap.size 4 1 o k ((SL.take k).map Value.bool)) ∧ Hid (Below w7.heap.size w7 wq)) (fun _ i _ => paths.length - (intOf i).toNat)
      case atStart => exact ⟨0, by omega, rfl, World.ownsRow_nil _ _ _ _, Below.refl _ _⟩
      case round =>
        obtain ⟨k, hk, rfl, hown, hb⟩ := hrel
        have z7 : w.heap.size + 1 ≤ w7.heap.size := Nat.le_trans hNB.out B7.out.size
        have hsr : w7.heap.size ≤ wr.heap.size := hb.out.size
        have Bq : Hid (Below (w.heap.size + 1) (w.alloc (.cells #[.slice a1 caps.length cap1, .slice a2 paths.length cap2] 25)) wr) := B7.out.trans (hb.out.mono z7)
        by_cases hlt : k < paths.length
        · obtain ⟨b2, o2, rfl, hc2⟩ := HA.out k hlt
          obtain ⟨bx, ox, rfl, hcx⟩ := HX.out k (by omega)
          have hs := HSt.out k hlt
          have HSs : Hid ((SL.take (k + 1)).map Value.bool = (SL.take k).map Value.bool ++ [.bool (SL.getD k false)]) := by
            show _ = _
            rw [take_snoc SL k (by have := HSl.out; omega) false, List.map_append]
            rfl
          have hltR : (k : Int) < (RL.length : Int) := by omega
          have hltW : (k : Int) < (want.length : Int) := by omega
          have HWh : Hid (∀ u : World, Calls Tryd.prog 11 #[.int .i64 (want.getD k 0)] u fun e w' => e = .returned (.agg #[.int .i64 (want.getD k 0), .int .i64 1]) ∧ Below u.heap.size u w') := fun u => Ld.Whole_any _ u
          have HSA : Hid (∀ u : World, Below wr.heap.size wr u → u.cell? ⟨b2, o2 + k * 2, none⟩ = some (.int .i64 (rP RL k).1) ∧ u.cell? ⟨b2, o2 + k * 2 + 1, none⟩ = some (.int .i64 (rP RL k).2) ∧ u.cell? ⟨bx, ox + k, none⟩ = some (.int .i64 (want.getD k 0))) := fun u hu => by
            have h5 : Below w7.heap.size w7 u := hb.out.trans (hu.mono hb.out.size)
            exact ⟨(hc2 u h5).1, (hc2 u h5).2, hcx u (HBW.out _ (B7.out.trans (h5.mono z7)))⟩
          have P1 : Hid (Below wr.heap.size wr wr.drew) := (Below.refl _ _).drew
          obtain ⟨c0, c1, cx⟩ := HSA.out _ (Below.refl _ _)
          have hcase : (SL.getD k false = true ∧ (rP RL k).1 = want.getD k 0 ∧ (rP RL k).2 = 1) ∨ (SL.getD k false = false ∧ (((rP RL k).1 == want.getD k 0) = false ∨ (((rP RL k).1 == want.getD k 0) = true ∧ ((rP RL k).2 == 1) = false))) := by
            by_cases hsat : rP RL k = (want.getD k 0, 1)
            · exact .inl ⟨by rw [hs, decide_eq_true hsat], by rw [hsat], by rw [hsat]⟩
            · refine .inr ⟨by rw [hs, decide_eq_false hsat], ?_⟩
              by_cases h1 : (rP RL k).1 = want.getD k 0
              · exact .inr ⟨by simp [h1], beq_eq_false_iff_ne.2 (fun h => hsat (Prod.ext h1 h))⟩
              · exact .inl (beq_eq_false_iff_ne.2 h1)
          clear hc2 hcx hs
          generalize (rP RL k).1 = t1 at *
          generalize (rP RL k).2 = t2 at *
          generalize want.getD k 0 = wk at *
          generalize SL.getD k false = sk at *
          rcases hcase with ⟨rfl, rfl, rfl⟩ | ⟨rfl, q1 | ⟨q0, q1⟩⟩
          all_goals
            go_wp2_with fail
            go_region_law (first
              | (go_simp; refine (HWh.out _).mono ?_; rintro e wt ⟨rfl, hwt⟩; have Hbt : Hid (Below wr.heap.size wr wt) := Bel.call P1.out (Nat.le_refl _) hwt; obtain ⟨x0, x1, xx⟩ := HSA.out wt Hbt.out; have Ot : Hid (wt.ownsRow w7.heap.size 4 1 _ k ((SL.take k).map Value.bool)) := owns_grow Hbt.out hown.out; have hst : w7.heap.size ≤ wt.heap.size := Nat.le_trans hsr Hbt.out.size)
              | (refine step_append_own rfl (.tmp 67) (.tmp 78) 35 rfl w7.heap.size 4 j0 (.bool false) 1 1 Tryd.underlying35 hJ hy0 hy1 hy2 rfl (by decide) _ _ _ (by simp [Act.eval, Act.put]) (Ot.out.alloc _) ⟨wt.heap.size, 0, none⟩ 1 1 _ (by simp [Act.eval, Act.put]) rfl (wide_new _ _ _) (by intro u hu; simp at hu; subst hu; rfl) (by unfold maxLen; omega) (by omega) (by simp; omega) ?_; intro a8 n8 c8 w8 hown8 hgrow8))
            all_goals
              have R1 : Hid (Below w7.heap.size w7 w8) := rel_append (hb.out.trans (Hbt.out.mono hsr)) hst Ot.out hgrow8
              have R2 : Hid (w8.ownsRow w7.heap.size 4 1 (.slice a8 n8 c8) (k + 1) ((SL.take (k + 1)).map Value.bool)) := by
                show World.ownsRow _ _ _ _ _ _ _
                rw [HSs.out]
                exact hown8
              clear hown8 hgrow8 hwt
              go_wp2
              go_roundw
              case rel => exact ⟨k + 1, by omega, by go_num, R2, R1⟩
              case measure => simp [intOf]; omega
        · obtain rfl : k = paths.length := by omega
          have hnR : ¬ (paths.length : Int) < (RL.length : Int) := by omega
          have HBl : Hid (BoolsAt (fun _ => True) wr u12 SL) := bools_of_owns (base := w7.heap.size) (by have := HSl.out; omega) (by have := hown.out; rw [List.take_of_length_le (by have := HSl.out; omega)] at this; rw [HSl.out]; exact this) (fun _ _ => trivial)
          obtain ⟨au, nu, cu, rfl⟩ := HBl.out.shape
          have Y7q : Hid (FracsAt (fun _ => True) wr (.slice a7 RL.length c7) RL) := Y7.out.later hb.out
          obtain ⟨g0, g1, zq⟩ := HCW.out _ Bq.out
          go_wp2_with fail
          refine (HRa.out _ (HBW.out _ Bq.out)).mono ?_
          rintro e w9 ⟨y9, rfl, hy9, hw9⟩
          have B9 : Hid (Below (w.heap.size + 1) (w.alloc (.cells #[.slice a1 caps.length cap1, .slice a2 paths.length cap2] 25)) w9) := Bel.call Bq.out hNB.out hw9
          have Y9 : Hid (FracsAt (fun _ => True) w9 y9 RL) := hy9.keep (fun _ _ _ => rfl) (fun _ _ _ => trivial)
          have Y79 : Hid (FracsAt (fun _ => True) w9 (.slice a7 RL.length c7) RL) := Y7q.out.later hw9
          have Z9 : Hid (BoolsAt (fun _ => True) w9 (.slice au nu cu) SL) := HBl.out.later hw9
          obtain ⟨a9, n9, c9, rfl⟩ := hy9.shape
          clear g0 g1 hw9 hy9
          go_wp2_with fail
          refine (HE0.out _ (HBW.out _ B9.out)).mono ?_
          rintro e w10 ⟨rfl, hw10⟩
          have B10 : Hid (Below (w.heap.size + 1) (w.alloc (.cells #[.slice a1 caps.length cap1, .slice a2 paths.length cap2] 25)) w10) := Bel.call B9.out hNB.out hw10
          have HS10 : Hid (Calls Tryd.prog 13 #[.slice a9 n9 c9, .slice a7 RL.length c7] w10 fun e w' => e = .returned (.bool true) ∧ ∃ n, w' = w10.drewN n) := by
            have := SFracs_any RL RL _ _ w10 (Y9.out.later hw10) (Y79.out.later hw10)
            rw [eqF_self] at this
            exact this
          have Z10 : Hid (BoolsAt (fun _ => True) w10 (.slice au nu cu) SL) := Z9.out.later hw10
          clear hw10
          go_wp2_with fail
          refine HS10.out.mono ?_
          rintro e w11 ⟨rfl, m11, hw11⟩
          have B11 : Hid (Below (w.heap.size + 1) (w.alloc (.cells #[.slice a1 caps.length cap1, .slice a2 paths.length cap2] 25)) w11) := by rw [hw11]; exact below_drewN B10.out _
          have Z11 : Hid (BoolsAt (fun _ => True) w11 (.slice au nu cu) SL) := by rw [hw11]; exact Z10.out.later (below_drewN (Below.refl _ _) _)
          clear hw11
          obtain ⟨g0, g1, z11⟩ := HCW.out _ B11.out
          go_wp2_with fail
          refine (HSa.out _ (HBW.out _ B11.out)).mono ?_
          rintro e w12 ⟨y12, rfl, hy12, hw12⟩
          have B12 : Hid (Below (w.heap.size + 1) (w.alloc (.cells #[.slice a1 caps.length cap1, .slice a2 paths.length cap2] 25)) w12) := Bel.call B11.out hNB.out hw12
          have Z12 : Hid (BoolsAt (fun _ => True) w12 (.slice au nu cu) SL) := Z11.out.later hw12
          have Y12 : Hid (BoolsAt (fun _ => True) w12 y12 SL) := hy12.weak (fun _ _ => trivial)
          obtain ⟨a12, n12, c12, rfl⟩ := hy12.shape
          clear g0 g1 hw12 hy12
          go_wp2_with fail
          refine (HE0.out _ (HBW.out _ B12.out)).mono ?_
          rintro e w13 ⟨rfl, hw13⟩
          have B13 : Hid (Below (w.heap.size + 1) (w.alloc (.cells #[.slice a1 caps.length cap1, .slice a2 paths.length cap2] 25)) w13) := Bel.call B12.out hNB.out hw13
          have HS13 : Hid (Calls Tryd.prog 15 #[.slice a12 n12 c12, .slice au nu cu] w13 fun e w' => e = .returned (.bool true) ∧ ∃ n, w' = w13.drewN n) := by
            have := SBools_any SL SL _ _ w13 (Y12.out.later hw13) (Z12.out.later hw13)
            rw [eqB_self] at this
            exact this
          clear hw13
          go_wp2_with fail
          refine HS13.out.mono ?_
          rintro e w14 ⟨rfl, m14, hw14⟩
          have B14 : Hid (Below (w.heap.size + 1) (w.alloc (.cells #[.slice a1 caps.length cap1, .slice a2 paths.length cap2] 25)) w14) := by rw [hw14]; exact below_drewN B13.out _
          clear hw14
          go_wp2
          go_ret
          exact ⟨Ns.ret_bool rfl, HBW.out _ B14.out⟩
    · have HN := (show Hid (∀ u : World, Below w.heap.size w u → _) from fun u hu => HNe.out u hu)
      rw [HWn.out h6, errV_0, okL_0, okL_0] at HN
      replace HN : Hid (∀ u : World, Below w.heap.size w u → Calls Tryd.prog 7 #[.agg #[.slice a1 caps.length cap1, .slice a2 paths.length cap2], .slice ax want.length capx] u fun e w' => ∃ y, e = .returned (.tuple #[y, .nilIface]) ∧ NetAt (fun b => u.heap.size ≤ b) w' y (caps ++ want) WP ∧ Below u.heap.size u w') := HN
      have q6 : ¬ (6 : Int) < (caps.length : Int) + (want.length : Int) := by omega
      go_enter Tryd.func3, Tryd.ntmps3
      go_wp2_with fail
      refine (HRW.out _ (HBW.out _ (Below.refl _ _))).mono ?_
      rintro e w1 ⟨rfl, hw1⟩
      have B1 : Hid (Below (w.heap.size + 1) (w.alloc (.cells #[.slice a1 caps.length cap1, .slice a2 paths.length cap2] 25)) w1) := Bel.call (Below.refl _ _) hNB.out hw1
      obtain ⟨g0, g1, z1⟩ := HCW.out _ B1.out
      have B1' : Hid (Below (w.heap.size + 1) (w.alloc (.cells #[.slice a1 caps.length cap1, .slice a2 paths.length cap2] 25)) (w1.alloc (.cells #[.slice none 0 0, .slice none 0 0] 25))) := B1.out.alloc z1 _
      clear hw1
      clear g0 g1
      obtain ⟨g0, g1, z1'⟩ := HCW.out _ B1'.out
      go_wp2_with fail
      refine (HRi.out _ (HBW.out _ B1'.out)).mono ?_
      rintro e w2 ⟨y2, rfl, hy2, hw2⟩
      have B2 : Hid (Below (w.heap.size + 1) (w.alloc (.cells #[.slice a1 caps.length cap1, .slice a2 paths.length cap2] 25)) w2) := Bel.call B1'.out hNB.out hw2
      have R2 : RowAt w2 w1.heap.size 25 [.slice none 0 0, .slice none 0 0] := by
        have := (RowAt.new w1 #[.slice none 0 0, .slice none 0 0] 25).later hw2 (by simp)
        simpa using this
      have j0' := R2.cell (i := 0) rfl
      have j1' := R2.cell (i := 1) rfl
      have i0' := R2.frozen 0
      have i1' := R2.frozen 1
      obtain ⟨p1, p2, p3, p4, p5, p6, rfl⟩ := hy2.shape
      have HWv : Hid (NetAt (fun _ => True) ((w2.setCell ⟨w1.heap.size, 0, none⟩ (.slice p1 p2 p3)).setCell ⟨w1.heap.size, 1, none⟩ (.slice p4 p5 p6)) (.agg #[.slice p1 p2 p3, .slice p4 p5 p6]) (caps ++ want) WP) := ((hy2.setCell (by simp) _).setCell (by simp) _).keep (fun _ _ _ => rfl) (fun _ _ _ => trivial)
      have Ha : Hid (Below (w.heap.size + 1) (w.alloc (.cells #[.slice a1 caps.length cap1, .slice a2 paths.length cap2] 25)) ((w2.setCell ⟨w1.heap.size, 0, none⟩ (.slice p1 p2 p3)).setCell ⟨w1.heap.size, 1, none⟩ (.slice p4 p5 p6))) := (B2.out.setCell (by simpa using z1) _).setCell (by simpa using z1) _
      have RR : RowAt ((w2.setCell ⟨w1.heap.size, 0, none⟩ (.slice p1 p2 p3)).setCell ⟨w1.heap.size, 1, none⟩ (.slice p4 p5 p6)) w1.heap.size 25 [.slice p1 p2 p3, .slice p4 p5 p6] := by
        simpa using (R2.set 0 (.slice p1 p2 p3)).set 1 (.slice p4 p5 p6)
      have x0 := RR.cell (i := 0) rfl
      have x1 := RR.cell (i := 1) rfl
      clear g0 g1 hw2 hy2 R2 RR
      obtain ⟨g0, g1, z2⟩ := HCW.out _ Ha.out
      go_wp2_with fail
      refine (HN.out _ (HBW.out _ Ha.out)).mono ?_
      rintro e w3 ⟨y3, rfl, hy3, hw3⟩
      have B3 : Hid (Below (w.heap.size + 1) (w.alloc (.cells #[.slice a1 caps.length cap1, .slice a2 paths.length cap2] 25)) w3) := Bel.call Ha.out hNB.out hw3
      have Y3 : Hid (NetAt (fun _ => True) w3 y3 (caps ++ want) WP) := hy3.keep (fun _ _ _ => rfl) (fun _ _ _ => trivial)
      have W3 : Hid (NetAt (fun _ => True) w3 (.agg #[.slice p1 p2 p3, .slice p4 p5 p6]) (caps ++ want) WP) := HWv.out.later hw3
      have k0 := cell_later hw3 x0
      have k1 := cell_later hw3 x1
      obtain ⟨f1, f2, f3, f4, f5, f6, rfl⟩ := hy3.shape
      have z3 : w.heap.size + 1 ≤ w3.heap.size := Nat.le_trans hNB.out B3.out.size
      have B3' : Hid (Below (w.heap.size + 1) (w.alloc (.cells #[.slice a1 caps.length cap1, .slice a2 paths.length cap2] 25)) (w3.alloc (.cells #[.slice f1 f2 f3, .slice f4 f5 f6] 25))) := B3.out.alloc z3 _
      have BA3 : Hid (Below w3.heap.size w3 (w3.alloc (.cells #[.slice f1 f2 f3, .slice f4 f5 f6] 25))) := (Below.refl _ _).alloc (Nat.le_refl _) _
      clear g0 g1 hw3 hy3
      go_wp2_with fail
      refine (HE0.out _ (HBW.out _ B3'.out)).mono ?_
      rintro e w4 ⟨rfl, hw4⟩
      have B4 : Hid (Below (w.heap.size + 1) (w.alloc (.cells #[.slice a1 caps.length cap1, .slice a2 paths.length cap2] 25)) w4) := Bel.call B3'.out hNB.out hw4
      have m0 : w4.cell? ⟨w3.heap.size, 0, none⟩ = some (.slice f1 f2 f3) := cell_later hw4 (by simp)
      have m1 : w4.cell? ⟨w3.heap.size, 1, none⟩ = some (.slice f4 f5 f6) := cell_later hw4 (by simp)
      have k0' := cell_later hw4 (cell_later BA3.out k0)
      have k1' := cell_later hw4 (cell_later BA3.out k1)
      have HS4 : Hid (Calls Tryd.prog 9 #[.agg #[.slice f1 f2 f3, .slice f4 f5 f6], .agg #[.slice p1 p2 p3, .slice p4 p5 p6]] w4 fun e w' => e = .returned (.bool true) ∧ Below w4.heap.size w4 w') := by
        have := SNet_any (caps ++ want) (caps ++ want) WP WP _ _ w4 ((Y3.out.later BA3.out).later hw4) ((W3.out.later BA3.out).later hw4)
        rw [eqN_self] at this
        exact this
      clear hw4 k0 k1
      go_wp2_with fail
      refine HS4.out.mono ?_
      rintro e wb ⟨rfl, hwb⟩
      have Hb : Hid (Below (w.heap.size + 1) (w.alloc (.cells #[.slice a1 caps.length cap1, .slice a2 paths.length cap2] 25)) wb) := Bel.call B4.out hNB.out hwb
      clear hwb m0 m1 k0' k1'
      obtain ⟨g0, g1, zb⟩ := HCW.out _ Hb.out
      go_wp2_with fail
      refine (HRi.out _ (HBW.out _ Hb.out)).mono ?_
      rintro e w6 ⟨y6, rfl, hy6, hw6⟩
      have B6 : Hid (Below (w.heap.size + 1) (w.alloc (.cells #[.slice a1 caps.length cap1, .slice a2 paths.length cap2] 25)) w6) := Bel.call Hb.out hNB.out hw6
      have HF6 := (show Hid _ from HRf.out _ w6 y6 hy6)
      obtain ⟨d1, d2, d3, d4, d5, d6, rfl⟩ := hy6.shape
      have HF7 : Hid (Calls Tryd.prog 10 #[.agg #[.slice d1 d2 d3, .slice d4 d5 d6]] w6 fun e w' => ∃ y z, e = .returned (.tuple #[y, z]) ∧ FracsAt (fun b => w6.heap.size ≤ b) w' y RL ∧ ListsAt (fun b => w6.heap.size ≤ b) w' z ZL ∧ Below w6.heap.size w6 w') := HF6
      clear g0 g1 hw6 hy6 HF6
      go_wp2_with fail
      refine HF7.out.mono ?_
      rintro e w7 ⟨y7, q7, rfl, hy7, hq7, hw7⟩
      have B7 : Hid (Below (w.heap.size + 1) (w.alloc (.cells #[.slice a1 caps.length cap1, .slice a2 paths.length cap2] 25)) w7) := Bel.call B6.out hNB.out hw7
      have Y7 : Hid (FracsAt (fun _ => True) w7 y7 RL) := hy7.keep (fun _ _ _ => rfl) (fun _ _ _ => trivial)
      obtain ⟨_, _, rfl, _⟩ := hq7
      obtain ⟨a7, c7, rfl, ⟨hm7, hn7⟩, hc7⟩ := hy7
      have HA : Hid (∀ i, i < paths.length → ∃ b off, a7 = some ⟨b, off, none⟩ ∧ ∀ u, Below w7.heap.size w7 u → u.cell? ⟨b, off + i * 2, none⟩ = some (.int .i64 (rP RL i).1) ∧ u.cell? ⟨b, off + i * 2 + 1, none⟩ = some (.int .i64 (rP RL i).2)) := by
        intro i hi
        rcases hc7 with h | ⟨b, off, rfl, h, _⟩
        · have := HRl.out; rw [h] at this; simp at this; omega
        · exact ⟨b, off, rfl, fun u hu => ⟨cell_later hu (h i (by have := HRl.out; omega)).1, cell_later hu (h i (by have := HRl.out; omega)).2⟩⟩
      have r1 : RL.length ≤ paths.length := Nat.le_of_eq HRl.out
      have r2 : paths.length ≤ RL.length := Nat.le_of_eq HRl.out.symm
      have l1 : want.length ≤ paths.length := Nat.le_of_eq HWl.out
      have l2 : paths.length ≤ want.length := Nat.le_of_eq HWl.out.symm
      clear hw7 hc7 HF7
      go_wp2
      go_loopw [12, 13] (fun o i wq => ∃ k : Nat, k ≤ paths.length ∧ i = .int .i64 k ∧ Hid (wq.ownsRow w7.heap.size 4 1 o k ((SL.take k).map Value.bool)) ∧ Hid (Below w7.heap.size w7 wq)) (fun _ i _ => paths.length - (intOf i).toNat)
      case atStart => exact ⟨0, by omega, rfl, World.ownsRow_nil _ _ _ _, Below.refl _ _⟩
      case round =>
        obtain ⟨k, hk, rfl, hown, hb⟩ := hrel
        have z7 : w.heap.size + 1 ≤ w7.heap.size := Nat.le_trans hNB.out B7.out.size
        have hsr : w7.heap.size ≤ wr.heap.size := hb.out.size
        have Bq : Hid (Below (w.heap.size + 1) (w.alloc (.cells #[.slice a1 caps.length cap1, .slice a2 paths.length cap2] 25)) wr) := B7.out.trans (hb.out.mono z7)
        by_cases hlt : k < paths.length
        · obtain ⟨b2, o2, rfl, hc2⟩ := HA.out k hlt
          obtain ⟨bx, ox, rfl, hcx⟩ := HX.out k (by omega)
          have hs := HSt.out k hlt
          have HSs : Hid ((SL.take (k + 1)).map Value.bool = (SL.take k).map Value.bool ++ [.bool (SL.getD k false)]) := by
            show _ = _
            rw [take_snoc SL k (by have := HSl.out; omega) false, List.map_append]
            rfl
          have hltR : (k : Int) < (RL.length : Int) := by omega
          have hltW : (k : Int) < (want.length : Int) := by omega
          have HWh : Hid (∀ u : World, Calls Tryd.prog 11 #[.int .i64 (want.getD k 0)] u fun e w' => e = .returned (.agg #[.int .i64 (want.getD k 0), .int .i64 1]) ∧ Below u.heap.size u w') := fun u => Ld.Whole_any _ u
          have HSA : Hid (∀ u : World, Below wr.heap.size wr u → u.cell? ⟨b2, o2 + k * 2, none⟩ = some (.int .i64 (rP RL k).1) ∧ u.cell? ⟨b2, o2 + k * 2 + 1, none⟩ = some (.int .i64 (rP RL k).2) ∧ u.cell? ⟨bx, ox + k, none⟩ = some (.int .i64 (want.getD k 0))) := fun u hu => by
            have h5 : Below w7.heap.size w7 u := hb.out.trans (hu.mono hb.out.size)
            exact ⟨(hc2 u h5).1, (hc2 u h5).2, hcx u (HBW.out _ (B7.out.trans (h5.mono z7)))⟩
          have P1 : Hid (Below wr.heap.size wr wr.drew) := (Below.refl _ _).drew
          obtain ⟨c0, c1, cx⟩ := HSA.out _ (Below.refl _ _)
          have hcase : (SL.getD k false = true ∧ (rP RL k).1 = want.getD k 0 ∧ (rP RL k).2 = 1) ∨ (SL.getD k false = false ∧ (((rP RL k).1 == want.getD k 0) = false ∨ (((rP RL k).1 == want.getD k 0) = true ∧ ((rP RL k).2 == 1) = false))) := by
            by_cases hsat : rP RL k = (want.getD k 0, 1)
            · exact .inl ⟨by rw [hs, decide_eq_true hsat], by rw [hsat], by rw [hsat]⟩
            · refine .inr ⟨by rw [hs, decide_eq_false hsat], ?_⟩
              by_cases h1 : (rP RL k).1 = want.getD k 0
              · exact .inr ⟨by simp [h1], beq_eq_false_iff_ne.2 (fun h => hsat (Prod.ext h1 h))⟩
              · exact .inl (beq_eq_false_iff_ne.2 h1)
          clear hc2 hcx hs
          generalize (rP RL k).1 = t1 at *
          generalize (rP RL k).2 = t2 at *
          generalize want.getD k 0 = wk at *
          generalize SL.getD k false = sk at *
          rcases hcase with ⟨rfl, rfl, rfl⟩ | ⟨rfl, q1 | ⟨q0, q1⟩⟩
          all_goals
            go_wp2_with fail
            go_region_law (first
              | (go_simp; refine (HWh.out _).mono ?_; rintro e wt ⟨rfl, hwt⟩; have Hbt : Hid (Below wr.heap.size wr wt) := Bel.call P1.out (Nat.le_refl _) hwt; obtain ⟨x0, x1, xx⟩ := HSA.out wt Hbt.out; have Ot : Hid (wt.ownsRow w7.heap.size 4 1 _ k ((SL.take k).map Value.bool)) := owns_grow Hbt.out hown.out; have hst : w7.heap.size ≤ wt.heap.size := Nat.le_trans hsr Hbt.out.size)
              | (refine step_append_own rfl (.tmp 67) (.tmp 78) 35 rfl w7.heap.size 4 j0 (.bool false) 1 1 Tryd.underlying35 hJ hy0 hy1 hy2 rfl (by decide) _ _ _ (by simp [Act.eval, Act.put]) (Ot.out.alloc _) ⟨wt.heap.size, 0, none⟩ 1 1 _ (by simp [Act.eval, Act.put]) rfl (wide_new _ _ _) (by intro u hu; simp at hu; subst hu; rfl) (by unfold maxLen; omega) (by omega) (by simp; omega) ?_; intro a8 n8 c8 w8 hown8 hgrow8))
            all_goals
              have R1 : Hid (Below w7.heap.size w7 w8) := rel_append (hb.out.trans (Hbt.out.mono hsr)) hst Ot.out hgrow8
              have R2 : Hid (w8.ownsRow w7.heap.size 4 1 (.slice a8 n8 c8) (k + 1) ((SL.take (k + 1)).map Value.bool)) := by
                show World.ownsRow _ _ _ _ _ _ _
                rw [HSs.out]
                exact hown8
              clear hown8 hgrow8 hwt
              go_wp2
              go_roundw
              case rel => exact ⟨k + 1, by omega, by go_num, R2, R1⟩
              case measure => simp [intOf]; omega
        · obtain rfl : k = paths.length := by omega
          have hnR : ¬ (paths.length : Int) < (RL.length : Int) := by omega
          have HBl : Hid (BoolsAt (fun _ => True) wr u12 SL) := bools_of_owns (base := w7.heap.size) (by have := HSl.out; omega) (by have := hown.out; rw [List.take_of_length_le (by have := HSl.out; omega)] at this; rw [HSl.out]; exact this) (fun _ _ => trivial)
          obtain ⟨au, nu, cu, rfl⟩ := HBl.out.shape
          have Y7q : Hid (FracsAt (fun _ => True) wr (.slice a7 RL.length c7) RL) := Y7.out.later hb.out
          obtain ⟨g0, g1, zq⟩ := HCW.out _ Bq.out
          go_wp2_with fail
          refine (HRa.out _ (HBW.out _ Bq.out)).mono ?_
          rintro e w9 ⟨y9, rfl, hy9, hw9⟩
          have B9 : Hid (Below (w.heap.size + 1) (w.alloc (.cells #[.slice a1 caps.length cap1, .slice a2 paths.length cap2] 25)) w9) := Bel.call Bq.out hNB.out hw9
          have Y9 : Hid (FracsAt (fun _ => True) w9 y9 RL) := hy9.keep (fun _ _ _ => rfl) (fun _ _ _ => trivial)
          have Y79 : Hid (FracsAt (fun _ => True) w9 (.slice a7 RL.length c7) RL) := Y7q.out.later hw9
          have Z9 : Hid (BoolsAt (fun _ => True) w9 (.slice au nu cu) SL) := HBl.out.later hw9
          obtain ⟨a9, n9, c9, rfl⟩ := hy9.shape
          clear g0 g1 hw9 hy9
          go_wp2_with fail
          refine (HE0.out _ (HBW.out _ B9.out)).mono ?_
          rintro e w10 ⟨rfl, hw10⟩
          have B10 : Hid (Below (w.heap.size + 1) (w.alloc (.cells #[.slice a1 caps.length cap1, .slice a2 paths.length cap2] 25)) w10) := Bel.call B9.out hNB.out hw10
          have HS10 : Hid (Calls Tryd.prog 13 #[.slice a9 n9 c9, .slice a7 RL.length c7] w10 fun e w' => e = .returned (.bool true) ∧ ∃ n, w' = w10.drewN n) := by
            have := SFracs_any RL RL _ _ w10 (Y9.out.later hw10) (Y79.out.later hw10)
            rw [eqF_self] at this
            exact this
          have Z10 : Hid (BoolsAt (fun _ => True) w10 (.slice au nu cu) SL) := Z9.out.later hw10
          clear hw10
          go_wp2_with fail
          refine HS10.out.mono ?_
          rintro e w11 ⟨rfl, m11, hw11⟩
          have B11 : Hid (Below (w.heap.size + 1) (w.alloc (.cells #[.slice a1 caps.length cap1, .slice a2 paths.length cap2] 25)) w11) := by rw [hw11]; exact below_drewN B10.out _
          have Z11 : Hid (BoolsAt (fun _ => True) w11 (.slice au nu cu) SL) := by rw [hw11]; exact Z10.out.later (below_drewN (Below.refl _ _) _)
          clear hw11
          obtain ⟨g0, g1, z11⟩ := HCW.out _ B11.out
          go_wp2_with fail
          refine (HSa.out _ (HBW.out _ B11.out)).mono ?_
          rintro e w12 ⟨y12, rfl, hy12, hw12⟩
          have B12 : Hid (Below (w.heap.size + 1) (w.alloc (.cells #[.slice a1 caps.length cap1, .slice a2 paths.length cap2] 25)) w12) := Bel.call B11.out hNB.out hw12
          have Z12 : Hid (BoolsAt (fun _ => True) w12 (.slice au nu cu) SL) := Z11.out.later hw12
          have Y12 : Hid (BoolsAt (fun _ => True) w12 y12 SL) := hy12.weak (fun _ _ => trivial)
          obtain ⟨a12, n12, c12, rfl⟩ := hy12.shape
          clear g0 g1 hw12 hy12
          go_wp2_with fail
          refine (HE0.out _ (HBW.out _ B12.out)).mono ?_
          rintro e w13 ⟨rfl, hw13⟩
          have B13 : Hid (Below (w.heap.size + 1) (w.alloc (.cells #[.slice a1 caps.length cap1, .slice a2 paths.length cap2] 25)) w13) := Bel.call B12.out hNB.out hw13
          have HS13 : Hid (Calls Tryd.prog 15 #[.slice a12 n12 c12, .slice au nu cu] w13 fun e w' => e = .returned (.bool true) ∧ ∃ n, w' = w13.drewN n) := by
            have := SBools_any SL SL _ _ w13 (Y12.out.later hw13) (Z12.out.later hw13)
            rw [eqB_self] at this
            exact this
          clear hw13
          go_wp2_with fail
          refine HS13.out.mono ?_
          rintro e w14 ⟨rfl, m14, hw14⟩
          have B14 : Hid (Below (w.heap.size + 1) (w.alloc (.cells #[.slice a1 caps.length cap1, .slice a2 paths.length cap2] 25)) w14) := by rw [hw14]; exact below_drewN B13.out _
          clear hw14
          go_wp2
          go_ret
          exact ⟨Ns.ret_bool rfl, HBW.out _ B14.out⟩
  · have HE : Hid (errV (wantE caps paths want) = .iface 57 (.int .i64 (wantE caps paths want))) := errV_ne he
    have HWe : Hid (wideE caps paths want = wantE caps paths want) := by show _ = _; rw [wideE, if_neg he]
    have HN := (show Hid (∀ u : World, Below w.heap.size w u → _) from fun u hu => HNe.out u hu)
    rw [HWe.out, HE.out, okL_ne he, okL_ne he] at HN
    rw [HE.out, okL_ne he] at HRa HSa
    have HEk := (show Hid (∀ u : World, Below w.heap.size w u → _) from HEr.out (wantE caps paths want))
    rw [HE.out] at HEk
    have qe : (wantE caps paths want == 0) = false := beq_eq_false_iff_ne.2 he
    generalize wantE caps paths want = ek at *
    replace HN : Hid (∀ u : World, Below w.heap.size w u → Calls Tryd.prog 7 #[.agg #[.slice a1 caps.length cap1, .slice a2 paths.length cap2], .slice ax want.length capx] u fun e w' => ∃ y, e = .returned (.tuple #[y, .iface 57 (.int .i64 ek)]) ∧ NetAt (fun b => u.heap.size ≤ b) w' y [] [] ∧ Below u.heap.size u w') := HN
    clear he HEr HRD HE HWe
    go_enter Tryd.func3, Tryd.ntmps3
    go_wp2_with fail
    refine (HRW.out _ (HBW.out _ (Below.refl _ _))).mono ?_
    rintro e w1 ⟨rfl, hw1⟩
    have B1 : Hid (Below (w.heap.size + 1) (w.alloc (.cells #[.slice a1 caps.length cap1, .slice a2 paths.length cap2] 25)) w1) := Bel.call (Below.refl _ _) hNB.out hw1
    obtain ⟨g0, g1, z1⟩ := HCW.out _ B1.out
    have B1' : Hid (Below (w.heap.size + 1) (w.alloc (.cells #[.slice a1 caps.length cap1, .slice a2 paths.length cap2] 25)) (w1.alloc (.cells #[.slice none 0 0, .slice none 0 0] 25))) := B1.out.alloc z1 _
    clear hw1
    clear g0 g1
    obtain ⟨g0, g1, z1'⟩ := HCW.out _ B1'.out
    have HWv : Hid (NetAt (fun _ => True) (w1.alloc (.cells #[.slice none 0 0, .slice none 0 0] 25)) (.agg #[.slice none 0 0, .slice none 0 0]) [] []) := netN _ _
    have Ha := B1'
    have x0 : (w1.alloc (.cells #[.slice none 0 0, .slice none 0 0] 25)).cell? ⟨w1.heap.size, 0, none⟩ = some (.slice none 0 0) := by simp
    have x1 : (w1.alloc (.cells #[.slice none 0 0, .slice none 0 0] 25)).cell? ⟨w1.heap.size, 1, none⟩ = some (.slice none 0 0) := by simp
    go_wp2_with fail
    refine (HN.out _ (HBW.out _ Ha.out)).mono ?_
    rintro e w3 ⟨y3, rfl, hy3, hw3⟩
    have B3 : Hid (Below (w.heap.size + 1) (w.alloc (.cells #[.slice a1 caps.length cap1, .slice a2 paths.length cap2] 25)) w3) := Bel.call Ha.out hNB.out hw3
    have Y3 : Hid (NetAt (fun _ => True) w3 y3 [] []) := hy3.keep (fun _ _ _ => rfl) (fun _ _ _ => trivial)
    have W3 : Hid (NetAt (fun _ => True) w3 (.agg #[.slice none 0 0, .slice none 0 0]) [] []) := HWv.out.later hw3
    have k0 := cell_later hw3 x0
    have k1 := cell_later hw3 x1
    obtain ⟨f1, f2, f3, f4, f5, f6, rfl⟩ := hy3.shape
    have z3 : w.heap.size + 1 ≤ w3.heap.size := Nat.le_trans hNB.out B3.out.size
    have B3' : Hid (Below (w.heap.size + 1) (w.alloc (.cells #[.slice a1 caps.length cap1, .slice a2 paths.length cap2] 25)) (w3.alloc (.cells #[.slice f1 f2 f3, .slice f4 f5 f6] 25))) := B3.out.alloc z3 _
    have BA3 : Hid (Below w3.heap.size w3 (w3.alloc (.cells #[.slice f1 f2 f3, .slice f4 f5 f6] 25))) := (Below.refl _ _).alloc (Nat.le_refl _) _
    clear g0 g1 hw3 hy3
    go_wp2_with fail
    refine (HEk.out _ (HBW.out _ B3'.out)).mono ?_
    rintro e w4 ⟨rfl, hw4⟩
    have B4 : Hid (Below (w.heap.size + 1) (w.alloc (.cells #[.slice a1 caps.length cap1, .slice a2 paths.length cap2] 25)) w4) := Bel.call B3'.out hNB.out hw4
    have m0 : w4.cell? ⟨w3.heap.size, 0, none⟩ = some (.slice f1 f2 f3) := cell_later hw4 (by simp)
    have m1 : w4.cell? ⟨w3.heap.size, 1, none⟩ = some (.slice f4 f5 f6) := cell_later hw4 (by simp)
    have k0' := cell_later hw4 (cell_later BA3.out k0)
    have k1' := cell_later hw4 (cell_later BA3.out k1)
    have HS4 : Hid (Calls Tryd.prog 9 #[.agg #[.slice f1 f2 f3, .slice f4 f5 f6], .agg #[.slice none 0 0, .slice none 0 0]] w4 fun e w' => e = .returned (.bool true) ∧ Below w4.heap.size w4 w') := by
      have := SNet_any [] [] [] [] _ _ w4 ((Y3.out.later BA3.out).later hw4) ((W3.out.later BA3.out).later hw4)
      rw [eqN_self] at this
      exact this
    clear hw4 k0 k1
    go_wp2_with fail
    refine HS4.out.mono ?_
    rintro e wb ⟨rfl, hwb⟩
    have Hb : Hid (Below (w.heap.size + 1) (w.alloc (.cells #[.slice a1 caps.length cap1, .slice a2 paths.length cap2] 25)) wb) := Bel.call B4.out hNB.out hwb
    clear hwb m0 m1 k0' k1'
    obtain ⟨g0, g1, zb⟩ := HCW.out _ Hb.out
    go_wp2
    go_loop [12, 13] (fun o i => o = .slice none 0 0 ∧ i = .int .i64 0) (fun _ _ => 0)
    case atStart => exact ⟨rfl, rfl⟩
    case round =>
      obtain ⟨rfl, rfl⟩ := hrel
      go_wp2_with fail
      refine (HRa.out _ (HBW.out _ Hb.out)).mono ?_
      rintro e w9 ⟨y9, rfl, hy9, hw9⟩
      have B9 : Hid (Below (w.heap.size + 1) (w.alloc (.cells #[.slice a1 caps.length cap1, .slice a2 paths.length cap2] 25)) w9) := Bel.call Hb.out hNB.out hw9
      have Y9 : Hid (FracsAt (fun _ => True) w9 y9 []) := hy9.keep (fun _ _ _ => rfl) (fun _ _ _ => trivial)
      obtain ⟨a9, n9, c9, rfl⟩ := hy9.shape
      clear g0 g1 hw9 hy9
      go_wp2_with fail
      refine (HEk.out _ (HBW.out _ B9.out)).mono ?_
      rintro e w10 ⟨rfl, hw10⟩
      have B10 : Hid (Below (w.heap.size + 1) (w.alloc (.cells #[.slice a1 caps.length cap1, .slice a2 paths.length cap2] 25)) w10) := Bel.call B9.out hNB.out hw10
      have HS10 : Hid (Calls Tryd.prog 13 #[.slice a9 n9 c9, .slice none 0 0] w10 fun e w' => e = .returned (.bool true) ∧ ∃ n, w' = w10.drewN n) := by
        have := SFracs_any [] [] _ _ w10 (Y9.out.later hw10) (fracs_nil (fun _ => True) w10)
        rw [eqF_self] at this
        exact this
      clear hw10
      go_wp2_with fail
      refine HS10.out.mono ?_
      rintro e w11 ⟨rfl, m11, hw11⟩
      have B11 : Hid (Below (w.heap.size + 1) (w.alloc (.cells #[.slice a1 caps.length cap1, .slice a2 paths.length cap2] 25)) w11) := by rw [hw11]; exact below_drewN B10.out _
      clear hw11
      obtain ⟨g0, g1, z11⟩ := HCW.out _ B11.out
      go_wp2_with fail
      refine (HSa.out _ (HBW.out _ B11.out)).mono ?_
      rintro e w12 ⟨y12, rfl, hy12, hw12⟩
      have B12 : Hid (Below (w.heap.size + 1) (w.alloc (.cells #[.slice a1 caps.length cap1, .slice a2 paths.length cap2] 25)) w12) := Bel.call B11.out hNB.out hw12
      have Y12 : Hid (BoolsAt (fun _ => True) w12 y12 []) := hy12.weak (fun _ _ => trivial)
      obtain ⟨a12, n12, c12, rfl⟩ := hy12.shape
      clear g0 g1 hw12 hy12
      go_wp2_with fail
      refine (HEk.out _ (HBW.out _ B12.out)).mono ?_
      rintro e w13 ⟨rfl, hw13⟩
      have B13 : Hid (Below (w.heap.size + 1) (w.alloc (.cells #[.slice a1 caps.length cap1, .slice a2 paths.length cap2] 25)) w13) := Bel.call B12.out hNB.out hw13
      have HS13 : Hid (Calls Tryd.prog 15 #[.slice a12 n12 c12, .slice none 0 0] w13 fun e w' => e = .returned (.bool true) ∧ ∃ n, w' = w13.drewN n) := by
        have := SBools_any [] [] _ _ w13 (Y12.out.later hw13) (bools_nil (fun _ => True) w13)
        rw [eqB_self] at this
        exact this
      clear hw13
      go_wp2_with fail
      refine HS13.out.mono ?_
      rintro e w14 ⟨rfl, m14, hw14⟩
      have B14 : Hid (Below (w.heap.size + 1) (w.alloc (.cells #[.slice a1 caps.length cap1, .slice a2 paths.length cap2] 25)) w14) := by rw [hw14]; exact below_drewN B13.out _
      clear hw14
      go_wp2
      go_ret
      exact ⟨Ns.ret_bool rfl, HBW.out _ B14.out⟩
end Fl
end Go.Proofs.YtmimfcmpealemadDoor
