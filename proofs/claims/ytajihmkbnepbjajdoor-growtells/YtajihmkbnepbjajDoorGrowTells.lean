/- The law GrowTells returns true for every input, from what is asked of package grow's calls: the rates of any net with a flow more, one fewer, or a wider link. -/
import Derived.Test.YtajihmkbnepbjajDoorPlains
import Derived.Test.YtajihmkbnepbjajDoorRFill
import Derived.Test.YtajihmkbnepbjajDoorWith
import Derived.Test.YtajihmkbnepbjajDoorWithout
import Derived.Test.YtajihmkbnepbjajDoorIntsC
import Derived.Test.YtajihmkbnepbjajDoorLdSame
import Derived.Test.YtajihmkbnepbjajDoorToldB
import Derived.Test.YtajihmkbnepbjajDoorNetC0
import Derived.Deep.DeepCutAuto
namespace Go.Proofs.YtajihmkbnepbjajDoor
namespace Fl
open Go.RowKit Fr Ns Ld
set_option linter.unusedSimpArgs false
set_option linter.unusedVariables false

theorem gt_same {R R' : Nat → Prop} {y z : Value} {x : List (Int × Int)} {u : World} (hy : FracsAt R u y x) (hz : FracsAt R' u z x) : Calls Tryd.prog 19 #[y, z] u fun e w' => e = .returned (.bool true) ∧ Below u.heap.size u w' := by
  refine (SFracs_any x x y z u hy hz).mono ?_
  rintro e w' ⟨rfl, n, rfl⟩
  exact ⟨by rw [eqF_self], below_drewN (Below.refl _ _) _⟩
theorem gt_err {u : World} (k : Int) (hg : u.cell? ⟨0, 0, none⟩ = some handleV) : Calls Tryd.prog 7 #[errV k, .int .i64 k] u fun e w' => e = .returned (.bool true) ∧ Below u.heap.size u w' := by
  have := Error_any k k u hg
  rw [beq_self_eq_true] at this
  exact this

set_option maxRecDepth 100000 in
set_option maxHeartbeats 8000000 in
theorem growTells_walk (hM : GMoreSaid) (hF : GFewerSaid) (hWi : GWiderSaid) (caps path : List Int) (paths : List (List Int)) (flow link more : Int) (v p : Value) (w : World)
    (hg : w.cell? ⟨0, 0, none⟩ = some handleV) (hv : NetAt (fun b => b < w.heap.size) w v caps paths) (hp : IntsAt (fun b => b < w.heap.size) w p path) :
    Calls Tryd.prog 4 #[v, p, .int .i64 flow, .int .i64 link, .int .i64 more] w fun e w' => e = .returned (.bool true) ∧ Below w.heap.size w w' := by
  have HV : Hid (NetAt (fun b => b < w.heap.size) w v caps paths) := hv
  have HP : Hid (IntsAt (fun b => b < w.heap.size) w p path) := hp
  have HG : Hid (w.cell? ⟨0, 0, none⟩ = some handleV) := hg
  obtain ⟨_, _, rfl, ⟨a1, cap1, rfl, ⟨hm1, hn1⟩, _⟩, ⟨a2, cap2, rfl, ⟨hm2, hn2⟩, _⟩⟩ := hv
  obtain ⟨a3, cap3, rfl, _⟩ := hp
  obtain ⟨E, HE⟩ : ∃ E, Hid (netE caps paths = E) := ⟨_, rfl⟩
  obtain ⟨xm, Hxm⟩ : ∃ x, Hid ((fill caps (paths ++ [path])).1 = x) := ⟨_, rfl⟩
  obtain ⟨xf, Hxf⟩ : ∃ x, Hid ((fill caps (less paths flow)).1 = x) := ⟨_, rfl⟩
  obtain ⟨xw, Hxw⟩ : ∃ x, Hid ((fill (widerC caps link more) paths).1 = x) := ⟨_, rfl⟩
  have HK : Hid (∀ wc, Below (w.heap.size + 1) (w.alloc (.cells #[.slice a1 caps.length cap1, .slice a2 paths.length cap2] 49)) wc →
      wc.cell? ⟨w.heap.size, 0, none⟩ = some (.slice a1 caps.length cap1) ∧ wc.cell? ⟨w.heap.size, 1, none⟩ = some (.slice a2 paths.length cap2) ∧ w.heap.size < wc.heap.size ∧ Hid (w.heap.size + 1 ≤ wc.heap.size) ∧
      Hid (wc.cell? ⟨0, 0, none⟩ = some handleV) ∧ Hid (Below w.heap.size w wc) ∧
      Hid (NetAt (fun b => b < w.heap.size) wc (.agg #[.slice a1 caps.length cap1, .slice a2 paths.length cap2]) caps paths) ∧ Hid (IntsAt (fun b => b < w.heap.size) wc (.slice a3 path.length cap3) path)) := by
    intro wc hb
    have hb' : Below w.heap.size w wc := ((Below.refl _ _).alloc (Nat.le_refl _) _).trans (hb.mono (by omega))
    have hb2 : Below (w.alloc (.cells #[.slice a1 caps.length cap1, .slice a2 paths.length cap2] 49)).heap.size (w.alloc (.cells #[.slice a1 caps.length cap1, .slice a2 paths.length cap2] 49)) wc := by simpa using hb
    have c0 : wc.cell? ⟨w.heap.size, 0, none⟩ = some (.slice a1 caps.length cap1) := cell_later hb2 (by go_simp)
    have hz := World.block_lt_of_cell? _ _ c0
    exact ⟨c0, cell_later hb2 (by go_simp), hz, hz, cell_later hb' HG.out, hb', HV.out.later hb', HP.out.later hb'⟩
  have B0 : Hid (Below (w.heap.size + 1) (w.alloc (.cells #[.slice a1 caps.length cap1, .slice a2 paths.length cap2] 49)) (w.alloc (.cells #[.slice a1 caps.length cap1, .slice a2 paths.length cap2] 49))) := Below.refl _ _
  obtain ⟨c0, c1, z, Z0, G0, L0, N0, P0⟩ := HK.out _ B0.out
  clear hg c0 c1 z
  obtain ⟨c0, c1, z⟩ : True ∧ True ∧ True := ⟨trivial, trivial, trivial⟩
  go_enter Tryd.func4, Tryd.ntmps4
  go_wp2_with fail
  refine (RNet_any caps paths _ _ N0.out).mono ?_
  rintro e w1 ⟨rfl, hb⟩
  rw [HE.out]
  have B1 : Hid (Below (w.heap.size + 1) (w.alloc (.cells #[.slice a1 caps.length cap1, .slice a2 paths.length cap2] 49)) w1) := B0.out.trans (hb.mono Z0.out)
  clear hb B0 c0 c1 z Z0 G0 L0 N0 P0
  obtain ⟨c0, c1, z, Z1, G1, L1, N1, P1⟩ := HK.out _ B1.out
  obtain ⟨o1, HO1⟩ : ∃ o : Bool, Hid (o = decide (E = 0 ∧ paths.length = 6)) := ⟨_, rfl⟩
  go_upto_region 3 with fail
  go_cut [30] (fun s30 wc => s30 = .bool o1 ∧ Hid (Below (w.heap.size + 1) (w.alloc (.cells #[.slice a1 caps.length cap1, .slice a2 paths.length cap2] 49)) wc))
  case first =>
    as_aux_lemma =>
      by_cases h0 : E = 0
      · subst h0
        by_cases h1 : paths.length = 6
        · obtain rfl : o1 = true := by rw [HO1.out]; simp [h1]
          have q1 : ((paths.length : Int) == 6) = true := beq_iff_eq.2 (by omega)
          clear HO1 h1
          go_wp2
          go_meet
          case rel => exact ⟨rfl, B1⟩
        · obtain rfl : o1 = false := by rw [HO1.out]; simp [h1]
          have q1 : ((paths.length : Int) == 6) = false := beq_eq_false_iff_ne.2 (by omega)
          clear HO1 h1
          go_wp2
          go_meet
          case rel => exact ⟨rfl, B1⟩
      · obtain rfl : o1 = false := by rw [HO1.out]; simp [h0]
        have q : (E == 0) = false := beq_eq_false_iff_ne.2 h0
        clear h0 HO1
        go_wp2
        go_meet
        case rel => exact ⟨rfl, B1⟩
  case rest =>
    as_aux_lemma =>
      obtain ⟨w2, rfl⟩ : ∃ x : World, x = wc := ⟨_, rfl⟩
      obtain ⟨rfl, B2⟩ := hcut
      clear B1 c0 c1 z Z1 G1 L1 N1 P1
      obtain ⟨c0, c1, z, Z2, G2, L2, N2, P2⟩ := HK.out _ B2.out
      obtain ⟨F1, HF1⟩ : ∃ F, Hid (addE caps paths path = F) := ⟨_, rfl⟩
      go_upto_if 30 with fail
      go_cut [12] (fun s12 wc => s12 = .int .i64 F1 ∧ Hid (Below (w.heap.size + 1) (w.alloc (.cells #[.slice a1 caps.length cap1, .slice a2 paths.length cap2] 49)) wc))
      case first =>
        as_aux_lemma =>
          by_cases h0 : E = 0
          · by_cases h1 : paths.length = 6
            · obtain rfl : o1 = true := by rw [HO1.out]; simp [h0, h1]
              obtain rfl : F1 = 4 := by rw [← HF1.out, addE, if_pos (HE.out.trans h0), if_pos h1]
              clear HO1 h1 HF1
              go_wp2
              go_meet
              case rel => exact ⟨rfl, B2⟩
            · obtain rfl : o1 = false := by rw [HO1.out]; simp [h1]
              have HF1' : Hid (pathE caps.length path = F1) := by rw [← HF1.out, addE, if_pos (HE.out.trans h0), if_neg h1]; rfl
              subst h0
              clear HO1 h1 HF1
              go_wp2_with fail
              refine (Path_any (caps.length : Int) path _ _ P2.out).mono ?_
              rintro e w3 ⟨rfl, n3, hw3⟩
              rw [HF1'.out]
              have B3 : Hid (Below (w.heap.size + 1) (w.alloc (.cells #[.slice a1 caps.length cap1, .slice a2 paths.length cap2] 49)) w3) := by rw [hw3]; exact below_drewN B2.out _
              clear hw3
              go_wp2
              go_meet
              case rel => exact ⟨rfl, B3⟩
          · obtain rfl : o1 = false := by rw [HO1.out]; simp [h0]
            obtain rfl : F1 = E := by rw [← HF1.out, addE, if_neg (by rw [HE.out]; exact h0), HE.out]
            have q : (F1 == 0) = false := beq_eq_false_iff_ne.2 h0
            clear h0 HO1 HF1
            go_wp2
            go_meet
            case rel => exact ⟨rfl, B2⟩
      case rest =>
        as_aux_lemma =>
          obtain ⟨w4, rfl⟩ : ∃ x : World, x = wc := ⟨_, rfl⟩
          obtain ⟨rfl, B4⟩ := hcut
          clear B2 c0 c1 z Z2 G2 L2 N2 P2 HO1
          obtain ⟨c0, c1, z, Z4, G4, L4, N4, P4⟩ := HK.out _ B4.out
          go_upto_if 39 with fail
          go_cut [13] (fun s13 wc => (∃ a n k, s13 = .slice a n k) ∧ Hid (FracsAt (fun _ => True) wc s13 (okL F1 xm)) ∧ Hid (Below (w.heap.size + 1) (w.alloc (.cells #[.slice a1 caps.length cap1, .slice a2 paths.length cap2] 49)) wc))
          case first =>
            as_aux_lemma =>
              by_cases h0 : F1 = 0
              · obtain ⟨ha1, ha2, ha3, ha4⟩ := netE_add (HF1.out.trans h0)
                have hn0 := netE_0 ha1
                have HW : Hid (Calls Tryd.prog 17 #[.agg #[.slice a1 caps.length cap1, .slice a2 paths.length cap2], .slice a3 path.length cap3] w4 fun e w' => ∃ x, e = .returned x ∧ NetAt (fun b => b < w.heap.size ∨ w4.heap.size ≤ b) w' x caps (paths ++ [path]) ∧ Below w4.heap.size w4 w') := RWith_any caps paths path _ _ w4 N4.out P4.out (fun e => by rw [e] at hn0; simp at hn0) (by omega)
                have HFi : Hid (∀ (R : Nat → Prop) (y : Value) (u : World), NetAt R u y caps (paths ++ [path]) → Calls Tryd.prog 16 #[y] u fun e w' => ∃ y z, e = .returned (.tuple #[y, z]) ∧ FracsAt (fun b => u.heap.size ≤ b) w' y xm ∧ ListsAt (fun b => u.heap.size ≤ b) w' z (fill caps (paths ++ [path])).2 ∧ Below u.heap.size u w') := fun R y u hy => by
                  have := RFill_any caps _ y u hy (good_of_net ha4) (by omega)
                  rw [Hxm.out] at this
                  exact this
                subst h0
                clear ha1 ha2 ha3 ha4 hn0
                generalize (fill caps (paths ++ [path])).2 = xr at *
                go_wp2_with fail
                refine HW.out.mono ?_
                rintro e w5 ⟨y5, rfl, hy5, hb⟩
                have B5 : Hid (Below (w.heap.size + 1) (w.alloc (.cells #[.slice a1 caps.length cap1, .slice a2 paths.length cap2] 49)) w5) := B4.out.trans (hb.mono Z4.out)
                have N5 : Hid (NetAt (fun b => b < w.heap.size ∨ w4.heap.size ≤ b) w5 y5 caps (paths ++ [path])) := hy5
                obtain ⟨_, _, rfl, ⟨a5, c5, rfl, _⟩, ⟨a6, c6, rfl, _⟩⟩ := hy5
                have HF5 : Hid (Calls Tryd.prog 16 #[.agg #[.slice a5 caps.length c5, .slice a6 (paths.length + 1) c6]] w5 fun e w' => ∃ y z, e = .returned (.tuple #[y, z]) ∧ FracsAt (fun b => w5.heap.size ≤ b) w' y xm ∧ ListsAt (fun b => w5.heap.size ≤ b) w' z xr ∧ Below w5.heap.size w5 w') := by
                  have := HFi.out _ _ w5 N5.out
                  rw [show (paths ++ [path]).length = paths.length + 1 by simp] at this
                  exact this
                have Z5 : Hid (w.heap.size + 1 ≤ w5.heap.size) := (HK.out _ B5.out).2.2.2.1
                rw [show (paths ++ [path]).length = paths.length + 1 by simp]
                clear hb
                go_wp2_with fail
                refine HF5.out.mono ?_
                rintro e w6 ⟨y6, z6, rfl, hy6, hz6, hb⟩
                have B6 : Hid (Below (w.heap.size + 1) (w.alloc (.cells #[.slice a1 caps.length cap1, .slice a2 paths.length cap2] 49)) w6) := B5.out.trans (hb.mono Z5.out)
                have Y6 : Hid (FracsAt (fun _ => True) w6 y6 xm) := hy6.keep (fun _ _ _ => rfl) (fun _ _ _ => trivial)
                obtain ⟨a7, c7, rfl, _⟩ := hy6
                obtain ⟨a8, c8, rfl, _⟩ := hz6
                clear hb
                go_wp2
                go_meet
                case rel => exact ⟨⟨_, _, _, rfl⟩, Y6, B6⟩
              · have HI : Hid (∀ W : World, FracsAt (fun _ => True) W (.slice none 0 0) (okL F1 xm)) := fun W => by
                  rw [okL_ne h0]
                  exact fracs_nil _ _
                have q : (F1 == 0) = false := beq_eq_false_iff_ne.2 h0
                clear h0
                go_wp2
                go_meet
                case rel => exact ⟨⟨_, _, _, rfl⟩, HI.out _, B4⟩
          case rest =>
            as_aux_lemma =>
              obtain ⟨w6, rfl⟩ : ∃ x : World, x = wc := ⟨_, rfl⟩
              obtain ⟨⟨ua, un, uk, rfl⟩, HU, B6⟩ := hcut
              clear B4 c0 c1 z Z4 G4 L4 N4 P4
              obtain ⟨c0, c1, z, Z6, G6, L6, N6, P6⟩ := HK.out _ B6.out
              go_wp2_with fail
              refine (hM _ caps paths path _ _ w6 N6.out P6.out).mono ?_
              rintro e w7 ⟨x, rfl, hx, hb⟩
              rw [HF1.out]
              rw [HF1.out, Hxm.out] at hx
              have HU7 : Hid (FracsAt (fun _ => True) w7 (.slice ua un uk) (okL F1 xm)) := HU.out.later hb
              have HX7 : Hid (FracsAt (fun _ => True) w7 x (okL F1 xm)) := hx.keep (fun _ _ _ => rfl) (fun _ _ _ => trivial)
              have B7 : Hid (Below (w.heap.size + 1) (w.alloc (.cells #[.slice a1 caps.length cap1, .slice a2 paths.length cap2] 49)) w7) := B6.out.trans (hb.mono Z6.out)
              obtain ⟨xa, xk, rfl, _⟩ := hx
              clear hb HU B6 c0 c1 z Z6 G6 L6 N6 P6
              obtain ⟨c0, c1, z, Z7, G7, L7, N7, P7⟩ := HK.out _ B7.out
              generalize (okL F1 xm) = xx at *
              go_wp2_with fail
              refine (gt_err F1 G7.out).mono ?_
              rintro e w8 ⟨rfl, hb⟩
              have HU8 : Hid (FracsAt (fun _ => True) w8 (.slice ua un uk) xx) := HU7.out.later hb
              have HX8 : Hid (FracsAt (fun _ => True) w8 (.slice xa xx.length xk) xx) := HX7.out.later hb
              have B8 : Hid (Below (w.heap.size + 1) (w.alloc (.cells #[.slice a1 caps.length cap1, .slice a2 paths.length cap2] 49)) w8) := B7.out.trans (hb.mono Z7.out)
              clear hb HU7 HX7 B7 c0 c1 z Z7 G7 L7 N7 P7
              obtain ⟨c0, c1, z, Z8, G8, L8, N8, P8⟩ := HK.out _ B8.out
              have HS8 : Hid (Calls Tryd.prog 19 #[.slice xa xx.length xk, .slice ua un uk] w8 fun e w' => e = .returned (.bool true) ∧ Below w8.heap.size w8 w') := gt_same HX8.out HU8.out
              go_wp2_with fail
              refine HS8.out.mono ?_
              rintro e w9 ⟨rfl, hb⟩
              have B9 : Hid (Below (w.heap.size + 1) (w.alloc (.cells #[.slice a1 caps.length cap1, .slice a2 paths.length cap2] 49)) w9) := B8.out.trans (hb.mono Z8.out)
              clear hb HU8 HX8 HS8 B8 c0 c1 z Z8 G8 L8 N8 P8
              obtain ⟨c0, c1, z, Z9, G9, L9, N9, P9⟩ := HK.out _ B9.out
              clear HF1
              obtain ⟨o2, HO2⟩ : ∃ o : Bool, Hid (o = decide (E = 0 ∧ (flow < 0 ∨ (paths.length : Int) ≤ flow))) := ⟨_, rfl⟩
              go_upto_region 14 with fail
              go_cut [74] (fun s74 wc => s74 = .bool o2 ∧ Hid (Below (w.heap.size + 1) (w.alloc (.cells #[.slice a1 caps.length cap1, .slice a2 paths.length cap2] 49)) wc))
              case first =>
                as_aux_lemma =>
                  by_cases h0 : E = 0
                  · subst h0
                    by_cases h1 : flow < 0
                    · obtain rfl : o2 = true := by rw [HO2.out]; simp [h1]
                      clear HO2
                      go_wp2
                      go_meet
                      case rel => exact ⟨rfl, B9⟩
                    · by_cases h2 : (paths.length : Int) ≤ flow
                      · obtain rfl : o2 = true := by rw [HO2.out]; simp [h2]
                        clear HO2
                        go_wp2
                        go_meet
                        case rel => exact ⟨rfl, B9⟩
                      · obtain rfl : o2 = false := by rw [HO2.out]; simp [h1, h2]
                        clear HO2
                        go_wp2
                        go_meet
                        case rel => exact ⟨rfl, B9⟩
                  · obtain rfl : o2 = false := by rw [HO2.out]; simp [h0]
                    have q : (E == 0) = false := beq_eq_false_iff_ne.2 h0
                    clear h0 HO2
                    go_wp2
                    go_meet
                    case rel => exact ⟨rfl, B9⟩
              case rest =>
                as_aux_lemma =>
                  obtain ⟨w10, rfl⟩ : ∃ x : World, x = wc := ⟨_, rfl⟩
                  obtain ⟨rfl, B10⟩ := hcut
                  clear B9 c0 c1 z Z9 G9 L9 N9 P9
                  obtain ⟨c0, c1, z, Z10, G10, L10, N10, P10⟩ := HK.out _ B10.out
                  obtain ⟨F2, HF2⟩ : ∃ F, Hid (dropE caps paths flow = F) := ⟨_, rfl⟩
                  go_upto_if 74 with fail
                  go_cut [12, 13] (fun s12 s13 wc => s12 = .int .i64 F2 ∧ (∃ a n k, s13 = .slice a n k) ∧ Hid (FracsAt (fun _ => True) wc s13 (okL F2 xf)) ∧ Hid (Below (w.heap.size + 1) (w.alloc (.cells #[.slice a1 caps.length cap1, .slice a2 paths.length cap2] 49)) wc))
                  case first =>
                    as_aux_lemma =>
                      by_cases h0 : E = 0
                      · have hne := HE.out.trans h0
                        have hn0 := netE_0 hne
                        by_cases h1 : flow < 0 ∨ (paths.length : Int) ≤ flow
                        · obtain rfl : o2 = true := by rw [HO2.out]; simp [h0, h1]
                          obtain rfl : F2 = 1 := by rw [← HF2.out, dropE, if_pos hne, if_pos h1]
                          have HI : Hid (∀ W : World, FracsAt (fun _ => True) W (.slice none 0 0) (okL 1 xf)) := fun W => by
                            rw [okL_ne (by decide)]
                            exact fracs_nil _ _
                          clear HO2 h1 HF2 hne hn0
                          go_wp2
                          go_meet
                          case rel => exact ⟨rfl, ⟨_, _, _, rfl⟩, HI.out _, B10⟩
                        · obtain rfl : o2 = false := by rw [HO2.out]; simp [h1]
                          by_cases h2 : paths.length = 1
                          · obtain rfl : F2 = 5 := by rw [← HF2.out, dropE, if_pos hne, if_neg h1, if_pos h2]
                            have HI : Hid (∀ W : World, FracsAt (fun _ => True) W (.slice none 0 0) (okL 5 xf)) := fun W => by
                              rw [okL_ne (by decide)]
                              exact fracs_nil _ _
                            have q1 : ((paths.length : Int) == 1) = true := beq_iff_eq.2 (by omega)
                            subst h0
                            clear HO2 h1 h2 HF2 hne hn0
                            go_wp2
                            go_meet
                            case rel => exact ⟨rfl, ⟨_, _, _, rfl⟩, HI.out _, B10⟩
                          · have hF2 : F2 = 0 := by rw [← HF2.out, dropE, if_pos hne, if_neg h1, if_neg h2]
                            obtain ⟨_, hd1, hd2, hd3⟩ := drop_net (HF2.out.trans hF2)
                            obtain ⟨k, rfl⟩ : ∃ k : Nat, flow = (k : Int) := ⟨flow.toNat, by omega⟩
                            rw [Int.toNat_natCast] at hd2
                            have q1 : ((paths.length : Int) == 1) = false := beq_eq_false_iff_ne.2 (by omega)
                            have HW : Hid (Calls Tryd.prog 20 #[.agg #[.slice a1 caps.length cap1, .slice a2 paths.length cap2], .int .i64 k] w10 fun e w' => ∃ x, e = .returned x ∧ NetAt (fun b => b < w.heap.size ∨ w10.heap.size ≤ b) w' x caps (less paths k) ∧ Below w10.heap.size w10 w') := by
                              have := RWithout_any caps paths k _ w10 N10.out hd2 (by omega)
                              unfold less
                              rw [Int.toNat_natCast]
                              exact this
                            have HFi : Hid (∀ (R : Nat → Prop) (y : Value) (u : World), NetAt R u y caps (less paths k) → Calls Tryd.prog 16 #[y] u fun e w' => ∃ y z, e = .returned (.tuple #[y, z]) ∧ FracsAt (fun b => u.heap.size ≤ b) w' y xf ∧ ListsAt (fun b => u.heap.size ≤ b) w' z (fill caps (less paths k)).2 ∧ Below u.heap.size u w') := fun R y u hy => by
                                have := RFill_any caps _ y u hy (good_of_net hd3) (by omega)
                                rw [Hxf.out] at this
                                exact this
                            subst hF2
                            subst h0
                            generalize (fill caps (less paths k)).2 = xr at *
                            generalize less paths k = lp at *
                            clear HO2 h1 h2 HF2 hne hn0 hd1 hd2 hd3
                            go_wp2_with fail
                            refine HW.out.mono ?_
                            rintro e w11 ⟨y5, rfl, hy5, hb⟩
                            have B11 : Hid (Below (w.heap.size + 1) (w.alloc (.cells #[.slice a1 caps.length cap1, .slice a2 paths.length cap2] 49)) w11) := B10.out.trans (hb.mono Z10.out)
                            have N5 : Hid (NetAt (fun b => b < w.heap.size ∨ w10.heap.size ≤ b) w11 y5 caps lp) := hy5
                            obtain ⟨_, _, rfl, ⟨a5, c5, rfl, _⟩, ⟨a6, c6, rfl, _⟩⟩ := hy5
                            have HF5 : Hid (Calls Tryd.prog 16 #[.agg #[.slice a5 caps.length c5, .slice a6 lp.length c6]] w11 fun e w' => ∃ y z, e = .returned (.tuple #[y, z]) ∧ FracsAt (fun b => w11.heap.size ≤ b) w' y xf ∧ ListsAt (fun b => w11.heap.size ≤ b) w' z xr ∧ Below w11.heap.size w11 w') := HFi.out _ _ w11 N5.out
                            have Z11 : Hid (w.heap.size + 1 ≤ w11.heap.size) := (HK.out _ B11.out).2.2.2.1
                            clear hb
                            go_wp2_with fail
                            refine HF5.out.mono ?_
                            rintro e w12 ⟨y6, z6, rfl, hy6, hz6, hb⟩
                            have B12 : Hid (Below (w.heap.size + 1) (w.alloc (.cells #[.slice a1 caps.length cap1, .slice a2 paths.length cap2] 49)) w12) := B11.out.trans (hb.mono Z11.out)
                            have Y6 : Hid (FracsAt (fun _ => True) w12 y6 xf) := hy6.keep (fun _ _ _ => rfl) (fun _ _ _ => trivial)
                            obtain ⟨a7, c7, rfl, _⟩ := hy6
                            obtain ⟨a8, c8, rfl, _⟩ := hz6
                            clear hb
                            go_wp2
                            go_meet
                            case rel => exact ⟨rfl, ⟨_, _, _, rfl⟩, Y6, B12⟩
                      · obtain rfl : o2 = false := by rw [HO2.out]; simp [h0]
                        obtain rfl : F2 = E := by rw [← HF2.out, dropE, if_neg (by rw [HE.out]; exact h0), HE.out]
                        have HI : Hid (∀ W : World, FracsAt (fun _ => True) W (.slice none 0 0) (okL F2 xf)) := fun W => by
                          rw [okL_ne h0]
                          exact fracs_nil _ _
                        have q : (F2 == 0) = false := beq_eq_false_iff_ne.2 h0
                        clear h0 HO2 HF2
                        go_wp2
                        go_meet
                        case rel => exact ⟨rfl, ⟨_, _, _, rfl⟩, HI.out _, B10⟩
                  case rest =>
                    as_aux_lemma =>
                      obtain ⟨w13, rfl⟩ : ∃ x : World, x = wc := ⟨_, rfl⟩
                      obtain ⟨rfl, ⟨ua, un, uk, rfl⟩, HU, B13⟩ := hcut
                      clear B10 c0 c1 z Z10 G10 L10 N10 P10 HO2
                      obtain ⟨c0, c1, z, Z13, G13, L13, N13, P13⟩ := HK.out _ B13.out
                      go_wp2_with fail
                      refine (hF _ caps paths flow _ w13 N13.out).mono ?_
                      rintro e w14 ⟨x, rfl, hx, hb⟩
                      rw [HF2.out]
                      rw [HF2.out, Hxf.out] at hx
                      have HU14 : Hid (FracsAt (fun _ => True) w14 (.slice ua un uk) (okL F2 xf)) := HU.out.later hb
                      have HX14 : Hid (FracsAt (fun _ => True) w14 x (okL F2 xf)) := hx.keep (fun _ _ _ => rfl) (fun _ _ _ => trivial)
                      have B14 : Hid (Below (w.heap.size + 1) (w.alloc (.cells #[.slice a1 caps.length cap1, .slice a2 paths.length cap2] 49)) w14) := B13.out.trans (hb.mono Z13.out)
                      obtain ⟨xa, xk, rfl, _⟩ := hx
                      clear hb HU B13 c0 c1 z Z13 G13 L13 N13 P13
                      obtain ⟨c0, c1, z, Z14, G14, L14, N14, P14⟩ := HK.out _ B14.out
                      generalize (okL F2 xf) = xx at *
                      go_wp2_with fail
                      refine (gt_err F2 G14.out).mono ?_
                      rintro e w15 ⟨rfl, hb⟩
                      have HU15 : Hid (FracsAt (fun _ => True) w15 (.slice ua un uk) xx) := HU14.out.later hb
                      have HX15 : Hid (FracsAt (fun _ => True) w15 (.slice xa xx.length xk) xx) := HX14.out.later hb
                      have B15 : Hid (Below (w.heap.size + 1) (w.alloc (.cells #[.slice a1 caps.length cap1, .slice a2 paths.length cap2] 49)) w15) := B14.out.trans (hb.mono Z14.out)
                      clear hb HU14 HX14 B14 c0 c1 z Z14 G14 L14 N14 P14
                      obtain ⟨c0, c1, z, Z15, G15, L15, N15, P15⟩ := HK.out _ B15.out
                      have HS15 : Hid (Calls Tryd.prog 19 #[.slice xa xx.length xk, .slice ua un uk] w15 fun e w' => e = .returned (.bool true) ∧ Below w15.heap.size w15 w') := gt_same HX15.out HU15.out
                      go_wp2_with fail
                      refine HS15.out.mono ?_
                      rintro e w16 ⟨rfl, hb⟩
                      have B16 : Hid (Below (w.heap.size + 1) (w.alloc (.cells #[.slice a1 caps.length cap1, .slice a2 paths.length cap2] 49)) w16) := B15.out.trans (hb.mono Z15.out)
                      clear hb HU15 HX15 HS15 B15 c0 c1 z Z15 G15 L15 N15 P15
                      obtain ⟨c0, c1, z, Z16, G16, L16, N16, P16⟩ := HK.out _ B16.out
                      clear HF2
                      obtain ⟨o3, HO3⟩ : ∃ o : Bool, Hid (o = decide (E = 0 ∧ (link < 0 ∨ (caps.length : Int) ≤ link ∨ more < 0 ∨ 1000 < more))) := ⟨_, rfl⟩
                      go_upto_region 23 with fail
                      go_cut [126] (fun s126 wc => s126 = .bool o3 ∧ Hid (Below (w.heap.size + 1) (w.alloc (.cells #[.slice a1 caps.length cap1, .slice a2 paths.length cap2] 49)) wc))
                      case first =>
                        as_aux_lemma =>
                          by_cases h0 : E = 0
                          · subst h0
                            have hor : link < 0 ∨ (¬ link < 0 ∧ (caps.length : Int) ≤ link) ∨ (¬ link < 0 ∧ ¬ (caps.length : Int) ≤ link ∧ more < 0) ∨ (¬ link < 0 ∧ ¬ (caps.length : Int) ≤ link ∧ ¬ more < 0 ∧ 1000 < more) ∨ (¬ link < 0 ∧ ¬ (caps.length : Int) ≤ link ∧ ¬ more < 0 ∧ ¬ 1000 < more) := by omega
                            rcases hor with h1 | ⟨h1, h2⟩ | ⟨h1, h2, h3⟩ | ⟨h1, h2, h3, h4⟩ | ⟨h1, h2, h3, h4⟩
                            · obtain rfl : o3 = true := by rw [HO3.out]; simp [h1]
                              clear HO3
                              go_wp2
                              go_meet
                              case rel => exact ⟨rfl, B16⟩
                            · obtain rfl : o3 = true := by rw [HO3.out]; simp [h2]
                              clear HO3
                              go_wp2
                              go_meet
                              case rel => exact ⟨rfl, B16⟩
                            · obtain rfl : o3 = true := by rw [HO3.out]; simp [h3]
                              clear HO3
                              go_wp2
                              go_meet
                              case rel => exact ⟨rfl, B16⟩
                            · obtain rfl : o3 = true := by rw [HO3.out]; simp [h4]
                              clear HO3
                              go_wp2
                              go_meet
                              case rel => exact ⟨rfl, B16⟩
                            · obtain rfl : o3 = false := by rw [HO3.out]; simp [h1, h2, h3, h4]
                              clear HO3
                              go_wp2
                              go_meet
                              case rel => exact ⟨rfl, B16⟩
                          · obtain rfl : o3 = false := by rw [HO3.out]; simp [h0]
                            have q : (E == 0) = false := beq_eq_false_iff_ne.2 h0
                            clear h0 HO3
                            go_wp2
                            go_meet
                            case rel => exact ⟨rfl, B16⟩
                      case rest =>
                        as_aux_lemma =>
                          obtain ⟨w17, rfl⟩ : ∃ x : World, x = wc := ⟨_, rfl⟩
                          obtain ⟨rfl, B17⟩ := hcut
                          clear B16 c0 c1 z Z16 G16 L16 N16 P16
                          obtain ⟨c0, c1, z, Z17, G17, L17, N17, P17⟩ := HK.out _ B17.out
                          obtain ⟨F3, HF3⟩ : ∃ F, Hid (widerE caps paths link more = F) := ⟨_, rfl⟩
                          go_upto_if 126 with fail
                          go_cut [11, 13, 18] (fun s11 s13 _ wc => s11 = .int .i64 F3 ∧ (∃ a n k, s13 = .slice a n k) ∧ Hid (FracsAt (fun _ => True) wc s13 (okL F3 xw)) ∧ Hid (Below (w.heap.size + 1) (w.alloc (.cells #[.slice a1 caps.length cap1, .slice a2 paths.length cap2] 49)) wc))
                          case first =>
                            as_aux_lemma =>
                              by_cases h0 : E = 0
                              · have hne := HE.out.trans h0
                                have hn0 := netE_0 hne
                                by_cases h1 : link < 0 ∨ (caps.length : Int) ≤ link ∨ more < 0 ∨ 1000 < more
                                · obtain rfl : o3 = true := by rw [HO3.out]; simp [h0, h1]
                                  obtain rfl : F3 = 1 := by rw [← HF3.out, widerE, if_pos hne, if_pos h1]
                                  have HI : Hid (∀ W : World, FracsAt (fun _ => True) W (.slice none 0 0) (okL 1 xw)) := fun W => by
                                    rw [okL_ne (by decide)]
                                    exact fracs_nil _ _
                                  clear HO3 h1 HF3 hne hn0
                                  go_wp2
                                  go_meet
                                  case rel => exact ⟨rfl, ⟨_, _, _, rfl⟩, HI.out _, B17⟩
                                · obtain rfl : o3 = false := by rw [HO3.out]; simp [h1]
                                  obtain ⟨k, rfl⟩ : ∃ k : Nat, link = (k : Int) := ⟨link.toNat, by omega⟩
                                  have hk : k < caps.length := by omega
                                  have m0 : 0 ≤ more := by omega
                                  have m1 : more ≤ 1000 := by omega
                                  have hcb := (good_of_net hne).1 _ (getD_mem caps k hk 0)
                                  obtain ⟨b, off, hab, hcell⟩ : ∃ b off, a1 = some ⟨b, off, none⟩ ∧ ∀ i, i < caps.length → w17.cell? ⟨b, off + i, none⟩ = some (.int .i64 (caps.getD i 0)) := by
                                    obtain ⟨_, _, e, ⟨_, _, e2, _, hc⟩, _⟩ := N17.out
                                    simp only [Value.agg.injEq, Array.mk.injEq, List.cons.injEq, and_true] at e
                                    obtain ⟨rfl, rfl⟩ := e
                                    simp only [Value.slice.injEq] at e2
                                    obtain ⟨rfl, _, _⟩ := e2
                                    rcases hc with h | ⟨b, off, rfl, h, _⟩
                                    · rw [h] at hk; simp at hk
                                    · exact ⟨b, off, rfl, h⟩
                                  subst hab
                                  have ck := hcell k hk
                                  have HA : Hid (∀ j u, (caps.map (Value.int .i64))[j]? = some u → w17.cell? ((⟨b, off, none⟩ : Addr).add j) = some u) := cells_ints hcell
                                  by_cases h2 : 1000 < caps.getD k 0 + more
                                  · obtain rfl : F3 = 4 := by rw [← HF3.out, widerE, if_pos hne, if_neg h1, if_pos (by rw [Int.toNat_natCast]; exact h2)]
                                    have HI : Hid (∀ W : World, FracsAt (fun _ => True) W (.slice none 0 0) (okL 4 xw)) := fun W => by
                                      rw [okL_ne (by decide)]
                                      exact fracs_nil _ _
                                    generalize caps.getD k 0 = cv at *
                                    have qw : IntKind.i64.wrap (cv + more) = cv + more := by rw [IntKind.wrap_i64]; omega
                                    have q1 : decide (cv + more > 1000) = true := by simp; omega
                                    subst h0
                                    clear HO3 h1 HF3 hne hn0 hcell HA
                                    go_wp2
                                    go_meet
                                    case rel => exact ⟨rfl, ⟨_, _, _, rfl⟩, HI.out _, B17⟩
                                  · have hF3 : F3 = 0 := by rw [← HF3.out, widerE, if_pos hne, if_neg h1, if_neg (by rw [Int.toNat_natCast]; exact h2)]
                                    have hwn := wider_net (HF3.out.trans hF3)
                                    have HFi : Hid (∀ (R : Nat → Prop) (y : Value) (u : World), NetAt R u y (widerC caps k more) paths → Calls Tryd.prog 16 #[y] u fun e w' => ∃ y z, e = .returned (.tuple #[y, z]) ∧ FracsAt (fun b => u.heap.size ≤ b) w' y xw ∧ ListsAt (fun b => u.heap.size ≤ b) w' z (fill (widerC caps k more) paths).2 ∧ Below u.heap.size u w') := fun R y u hy => by
                                      have := RFill_any _ _ y u hy (good_of_net hwn) (by rw [widerC_length]; omega)
                                      rw [Hxw.out] at this
                                      exact this
                                    have HWC : Hid (widerC caps k more = caps.set k (caps.getD k 0 + more)) := by
                                      show _ = _
                                      unfold widerC
                                      rw [Int.toNat_natCast]
                                    have hl6 : caps.length ≤ 6 := hn0.2.1
                                    obtain ⟨k0, hKI, hx0, hx1, hx2⟩ := info_parts infoInt
                                    generalize (fill (widerC caps k more) paths).2 = xr at *
                                    subst hF3
                                    subst h0
                                    generalize hcv : caps.getD k 0 = cv at *
                                    have qw : IntKind.i64.wrap (cv + more) = cv + more := by rw [IntKind.wrap_i64]; omega
                                    have q1 : decide (cv + more > 1000) = false := by simp; omega
                                    clear HO3 h1 h2 HF3 hne hn0 hcell hwn
                                    go_wp2_with (at_builtin; go_must (refine wpList_append_own _ rfl _ _ 33 rfl (w17.heap.size + 1) 3 k0 (.int .i64 0) 1 8 Tryd.underlying33 hKI hx0 hx1 hx2 rfl (by decide) _ _ _ rfl (World.ownsRow_nil _ _ _ _) ⟨b, off, none⟩ caps.length cap1 (caps.map (Value.int .i64)) rfl (by simp) ?d1 (ones_ints caps) (by unfold maxLen; omega) (by omega) ?d2 ?_))
                                    case d1 => exact fun j u hj => cell_later ((Below.refl _ _).alloc (Nat.le_refl _) _) (HA.out j u hj)
                                    case d2 => simp
                                    intro v' wg hown hgrow _
                                    have hown' : wg.ownsRow (w17.heap.size + 1) 3 1 v' caps.length (caps.map (Value.int .i64)) := by simpa using hown
                                    have RM0 : RowAt (w17.alloc (.cells #[.slice none 0 0, .slice a2 paths.length cap2] 49)) w17.heap.size 49 [.slice none 0 0, .slice a2 paths.length cap2] := RowAt.new w17 #[.slice none 0 0, .slice a2 paths.length cap2] 49
                                    have RM : RowAt wg w17.heap.size 49 [.slice none 0 0, .slice a2 paths.length cap2] := RM0.keep (hgrow.block _ RM0.lt (by intro e; cases e))
                                    have Bg : Hid (Below w17.heap.size w17 wg) := ((Below.refl _ _).alloc (Nat.le_refl _) _).grown hgrow (by simp) (by intro j hj; cases hj)
                                    obtain ⟨av, cv', rfl⟩ := own_slice hown'
                                    obtain ⟨g, sp, rfl, hgb, hgc, hrow⟩ := Ev.owns_row (by omega) hown'
                                    have e0 := RM.cell (i := 0) rfl
                                    have e1 := RM.cell (i := 1) rfl
                                    have e2 := RM.frozen 0
                                    have e3 := hrow.cell (Ev.intsCell (l := caps) (sp := sp) (i := k) hk)
                                    rw [hcv] at e3
                                    have e4 := hrow.frozen k
                                    have hne : ¬ g = w17.heap.size := by omega
                                    have hne' : ¬ w17.heap.size = g := by omega
                                    have hgl : g < wg.heap.size := hrow.lt
                                    have HRW : Hid (RowAt (((wg.setCell ⟨w17.heap.size, 0, none⟩ (.slice (some ⟨g, 0, none⟩) caps.length cv')).setCell ⟨g, k, none⟩ (.int .i64 (cv + more))).drew) g 3 ((caps.set k (cv + more)).map (Value.int .i64) ++ sp)) := by
                                      show RowAt _ _ _ _
                                      rw [← Ev.intsSet hk]
                                      exact (hrow.other (a := ⟨w17.heap.size, 0, none⟩) (by simpa using hne') _).set k _
                                    have BN : Hid (Below w17.heap.size w17 (((wg.setCell ⟨w17.heap.size, 0, none⟩ (.slice (some ⟨g, 0, none⟩) caps.length cv')).setCell ⟨g, k, none⟩ (.int .i64 (cv + more))).drew)) := ((Bg.out.setCell (by simp) _).setCell (by simp; omega) _).drew
                                    have HNW : Hid (NetAt (fun _ => True) (((wg.setCell ⟨w17.heap.size, 0, none⟩ (.slice (some ⟨g, 0, none⟩) caps.length cv')).setCell ⟨g, k, none⟩ (.int .i64 (cv + more))).drew) (.agg #[.slice (some ⟨g, 0, none⟩) caps.length cv', .slice a2 paths.length cap2]) (widerC caps k more) paths) := by
                                      rw [HWC.out]
                                      have hi := Ev.intsRow (Q := fun _ => True) (c := cv') HRW.out (by rw [List.length_set]; exact hgc) (by rw [List.length_set]; omega) trivial
                                      rw [List.length_set] at hi
                                      obtain ⟨_, _, e, _, hl⟩ := N17.out
                                      simp only [Value.agg.injEq, Array.mk.injEq, List.cons.injEq, and_true] at e
                                      obtain ⟨rfl, rfl⟩ := e
                                      exact ⟨_, _, rfl, hi, (hl.later BN.out).keep (fun _ _ _ => rfl) (fun _ _ _ => trivial)⟩
                                    have HF9 : Hid (Calls Tryd.prog 16 #[.agg #[.slice (some ⟨g, 0, none⟩) caps.length cv', .slice a2 paths.length cap2]] (((wg.setCell ⟨w17.heap.size, 0, none⟩ (.slice (some ⟨g, 0, none⟩) caps.length cv')).setCell ⟨g, k, none⟩ (.int .i64 (cv + more))).drew) fun e w' => ∃ y z, e = .returned (.tuple #[y, z]) ∧ FracsAt (fun b => wg.heap.size ≤ b) w' y xw ∧ ListsAt (fun b => wg.heap.size ≤ b) w' z xr ∧ Below wg.heap.size (((wg.setCell ⟨w17.heap.size, 0, none⟩ (.slice (some ⟨g, 0, none⟩) caps.length cv')).setCell ⟨g, k, none⟩ (.int .i64 (cv + more))).drew) w') := by
                                      have := HFi.out _ _ _ HNW.out
                                      simpa [Hid] using this
                                    have hcl : ∀ u : World, u = wg.setCell ⟨w17.heap.size, 0, none⟩ (.slice (some ⟨g, 0, none⟩) caps.length cv') → u.cell? ⟨w17.heap.size, 0, none⟩ = some (.slice (some ⟨g, 0, none⟩) caps.length cv') ∧ u.cell? ⟨w17.heap.size, 1, none⟩ = some (.slice a2 paths.length cap2) ∧ u.cell? ⟨g, k, none⟩ = some (.int .i64 cv) ∧ u.frozen? ⟨g, k, none⟩ = false ∧ u.frozen? ⟨w17.heap.size, 0, none⟩ = false ∧ g < u.heap.size := by
                                      rintro u rfl
                                      have r1 := (RM.set 0 (.slice (some ⟨g, 0, none⟩) caps.length cv'))
                                      have r2 := (hrow.other (a := ⟨w17.heap.size, 0, none⟩) (by simpa using hne') (.slice (some ⟨g, 0, none⟩) caps.length cv'))
                                      have e5 := r2.cell (Ev.intsCell (l := caps) (sp := sp) (i := k) hk)
                                      rw [hcv] at e5
                                      exact ⟨r1.cell (i := 0) rfl, r1.cell (i := 1) rfl, e5, r2.frozen k, r1.frozen 0, r2.lt⟩
                                    clear hown hown' hgrow RM RM0 hrow HFi HA HRW HNW
                                    go_wp2_with fail
                                    clear e0 e1 e2 e3 e4 c0 c1
                                    obtain ⟨wu, hwu⟩ : ∃ u : World, u = wg.setCell ⟨w17.heap.size, 0, none⟩ (.slice (some ⟨g, 0, none⟩) caps.length cv') := ⟨_, rfl⟩
                                    obtain ⟨e0, e1, e3, e4, e5, e6⟩ := hcl _ hwu
                                    rw [← hwu] at HF9 BN
                                    rw [← hwu]
                                    clear hcl hwu

                                    go_big_region
                                    go_wp2_with fail

                                    refine HF9.out.mono ?_
                                    rintro e w19 ⟨y9, z9, rfl, hy9, hz9, hb⟩
                                    have B19 : Hid (Below (w.heap.size + 1) (w.alloc (.cells #[.slice (some ⟨b, off, none⟩) caps.length cap1, .slice a2 paths.length cap2] 49)) w19) := B17.out.trans ((BN.out.trans (hb.mono (by have := Bg.out.size; omega))).mono Z17.out)
                                    have Y9 : Hid (FracsAt (fun _ => True) w19 y9 xw) := hy9.keep (fun _ _ _ => rfl) (fun _ _ _ => trivial)
                                    obtain ⟨a7, c7, rfl, _⟩ := hy9
                                    obtain ⟨a8, c8, rfl, _⟩ := hz9
                                    clear hb
                                    go_wp2
                                    go_meet
                                    case rel => exact ⟨rfl, ⟨_, _, _, rfl⟩, Y9, B19⟩
                              · obtain rfl : o3 = false := by rw [HO3.out]; simp [h0]
                                obtain rfl : F3 = E := by rw [← HF3.out, widerE, if_neg (by rw [HE.out]; exact h0), HE.out]
                                have HI : Hid (∀ W : World, FracsAt (fun _ => True) W (.slice none 0 0) (okL F3 xw)) := fun W => by
                                  rw [okL_ne h0]
                                  exact fracs_nil _ _
                                have q : (F3 == 0) = false := beq_eq_false_iff_ne.2 h0
                                clear h0 HO3 HF3
                                go_wp2
                                go_meet
                                case rel => exact ⟨rfl, ⟨_, _, _, rfl⟩, HI.out _, B17⟩
                          case rest =>
                            as_aux_lemma =>
                              obtain ⟨w18, rfl⟩ : ∃ x : World, x = wc := ⟨_, rfl⟩
                              obtain ⟨rfl, ⟨ua, un, uk, rfl⟩, HU, B18⟩ := hcut
                              clear B17 c0 c1 z Z17 G17 L17 N17 P17 HO3
                              obtain ⟨c0, c1, z, Z18, G18, L18, N18, P18⟩ := HK.out _ B18.out
                              go_wp2_with fail
                              refine (hWi _ caps paths link more _ w18 N18.out).mono ?_
                              rintro e w19 ⟨x, rfl, hx, hb⟩
                              rw [HF3.out]
                              rw [HF3.out, Hxw.out] at hx
                              have HU19 : Hid (FracsAt (fun _ => True) w19 (.slice ua un uk) (okL F3 xw)) := HU.out.later hb
                              have HX19 : Hid (FracsAt (fun _ => True) w19 x (okL F3 xw)) := hx.keep (fun _ _ _ => rfl) (fun _ _ _ => trivial)
                              have B19 : Hid (Below (w.heap.size + 1) (w.alloc (.cells #[.slice a1 caps.length cap1, .slice a2 paths.length cap2] 49)) w19) := B18.out.trans (hb.mono Z18.out)
                              obtain ⟨xa, xk, rfl, _⟩ := hx
                              clear hb HU B18 c0 c1 z Z18 G18 L18 N18 P18
                              obtain ⟨c0, c1, z, Z19, G19, L19, N19, P19⟩ := HK.out _ B19.out
                              generalize (okL F3 xw) = xx at *
                              go_wp2_with fail
                              refine (gt_err F3 G19.out).mono ?_
                              rintro e w20 ⟨rfl, hb⟩
                              have HU20 : Hid (FracsAt (fun _ => True) w20 (.slice ua un uk) xx) := HU19.out.later hb
                              have HX20 : Hid (FracsAt (fun _ => True) w20 (.slice xa xx.length xk) xx) := HX19.out.later hb
                              have B20 : Hid (Below (w.heap.size + 1) (w.alloc (.cells #[.slice a1 caps.length cap1, .slice a2 paths.length cap2] 49)) w20) := B19.out.trans (hb.mono Z19.out)
                              clear hb HU19 HX19 B19 c0 c1 z Z19 G19 L19 N19 P19
                              obtain ⟨c0, c1, z, Z20, G20, L20, N20, P20⟩ := HK.out _ B20.out
                              have HS20 : Hid (Calls Tryd.prog 19 #[.slice xa xx.length xk, .slice ua un uk] w20 fun e w' => e = .returned (.bool true) ∧ Below w20.heap.size w20 w') := gt_same HX20.out HU20.out
                              go_wp2_with fail
                              refine HS20.out.mono ?_
                              rintro e w21 ⟨rfl, hb⟩
                              have B21 : Hid (Below (w.heap.size + 1) (w.alloc (.cells #[.slice a1 caps.length cap1, .slice a2 paths.length cap2] 49)) w21) := B20.out.trans (hb.mono Z20.out)
                              clear hb HU20 HX20 HS20 B20 c0 c1 z Z20 G20 L20 N20 P20
                              obtain ⟨c0, c1, z, Z21, G21, L21, N21, P21⟩ := HK.out _ B21.out
                              go_wp2
                              go_ret
                              exact ⟨Ns.ret_bool rfl, L21.out⟩
end Fl
end Go.Proofs.YtajihmkbnepbjajDoor
