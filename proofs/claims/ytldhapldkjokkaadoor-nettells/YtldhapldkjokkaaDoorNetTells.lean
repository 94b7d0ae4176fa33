/- The law NetTells returns true for every net, link, path and flow, from what is asked of package net's calls. -/
import Derived.Test.YtldhapldkjokkaaDoorNetUsers
import Derived.Test.YtldhapldkjokkaaDoorSame
import Derived.Test.YtldhapldkjokkaaDoorToldB
import Derived.Test.YtldhapldkjokkaaDoorOpen
import Derived.Test.YtldhapldkjokkaaDoorWithout
import Derived.Deep.DeepCutAuto
namespace Go.Proofs.YtldhapldkjokkaaDoor
namespace Ns
open Go.RowKit Fr
set_option linter.unusedSimpArgs false
set_option linter.unusedVariables false

theorem IntsAt.shape {Q : Nat → Prop} {w : World} {v : Value} {l : List Int} (h : IntsAt Q w v l) : ∃ a n k, v = .slice a n k := by
  obtain ⟨_, _, rfl, _⟩ := h
  exact ⟨_, _, _, rfl⟩
theorem eqI_self (l : List Int) : eqI l l = true := by simp [eqI]
theorem pathE_bd (L : Int) (p : List Int) : 0 ≤ pathE L p := by
  unfold pathE; split
  · omega
  · exact (pathFrom_bd _ _ _).1

set_option maxRecDepth 100000 in
set_option maxHeartbeats 4000000 in
theorem netTells_walk (hCheck : CheckSaid) (hUsers : UsersSaid) (hAdd : AddSaid) (hDrop : DropSaid) (caps path : List Int) (paths : List (List Int)) (link flow : Int) (v p : Value) (w : World)
    (hg : w.cell? ⟨0, 0, none⟩ = some handleV)
    (hv : NetAt (fun b => b < w.heap.size) w v caps paths) (hp : IntsAt (fun b => b < w.heap.size) w p path) :
    Calls Tryd.prog 4 #[v, .int .i64 link, p, .int .i64 flow] w fun e w' => e = .returned (.bool true) ∧ Below w.heap.size w w' := by
  have HV : Hid (NetAt (fun b => b < w.heap.size) w v caps paths) := hv
  have HP : Hid (IntsAt (fun b => b < w.heap.size) w p path) := hp
  have HG : Hid (w.cell? ⟨0, 0, none⟩ = some handleV) := hg
  have hlt : 0 < w.heap.size := World.block_lt_of_cell? _ _ hg
  obtain ⟨_, _, rfl, ⟨a1, cap1, rfl, ⟨hm1, hn1⟩, _⟩, ⟨a2, cap2, rfl, ⟨hm2, hn2⟩, _⟩⟩ := hv
  obtain ⟨a3, cap3, rfl, _⟩ := hp
  obtain ⟨E, HE⟩ : ∃ E, Hid (netE caps paths = E) := ⟨_, rfl⟩
  have HK : Hid (∀ wc, Below (w.heap.size + 1) (w.alloc (.cells #[.slice a1 caps.length cap1, .slice a2 paths.length cap2] 43)) wc →
      wc.cell? ⟨w.heap.size, 0, none⟩ = some (.slice a1 caps.length cap1) ∧ wc.cell? ⟨w.heap.size, 1, none⟩ = some (.slice a2 paths.length cap2) ∧ w.heap.size < wc.heap.size ∧ Hid (w.heap.size + 1 ≤ wc.heap.size) ∧
      Hid (wc.cell? ⟨0, 0, none⟩ = some handleV) ∧ Hid (Below w.heap.size w wc) ∧
      Hid (NetAt (fun b => b < w.heap.size) wc (.agg #[.slice a1 caps.length cap1, .slice a2 paths.length cap2]) caps paths) ∧ Hid (IntsAt (fun b => b < w.heap.size) wc (.slice a3 path.length cap3) path)) := by
    intro wc hb
    have hb' : Below w.heap.size w wc := ((Below.refl _ _).alloc (Nat.le_refl _) _).trans (hb.mono (by omega))
    have hb2 : Below (w.alloc (.cells #[.slice a1 caps.length cap1, .slice a2 paths.length cap2] 43)).heap.size (w.alloc (.cells #[.slice a1 caps.length cap1, .slice a2 paths.length cap2] 43)) wc := by simpa using hb
    have c0 : wc.cell? ⟨w.heap.size, 0, none⟩ = some (.slice a1 caps.length cap1) := cell_later hb2 (by go_simp)
    have hz := World.block_lt_of_cell? _ _ c0
    exact ⟨c0, cell_later hb2 (by go_simp), hz, hz, cell_later hb' HG.out, hb', HV.out.later hb', HP.out.later hb'⟩
  have B0 : Hid (Below (w.heap.size + 1) (w.alloc (.cells #[.slice a1 caps.length cap1, .slice a2 paths.length cap2] 43)) (w.alloc (.cells #[.slice a1 caps.length cap1, .slice a2 paths.length cap2] 43))) := Below.refl _ _
  obtain ⟨c0, c1, z, Z0, G0, L0, N0, P0⟩ := HK.out _ B0.out
  clear hg c0 c1 z
  obtain ⟨c0, c1, z⟩ : True ∧ True ∧ True := ⟨trivial, trivial, trivial⟩
  go_enter Tryd.func4, Tryd.ntmps4
  go_wp2_with fail
  refine (RNet_any caps paths _ _ N0.out).mono ?_
  rintro e w1 ⟨rfl, hb⟩
  rw [HE.out]
  have B1 : Hid (Below (w.heap.size + 1) (w.alloc (.cells #[.slice a1 caps.length cap1, .slice a2 paths.length cap2] 43)) w1) := B0.out.trans (hb.mono Z0.out)
  clear hb B0 c0 c1 z Z0 G0 L0 N0 P0
  obtain ⟨c0, c1, z, Z1, G1, L1, N1, P1⟩ := HK.out _ B1.out
  go_wp2_with fail
  refine (hCheck _ caps paths _ _ N1.out).mono ?_
  rintro e w2 ⟨rfl, hb⟩
  rw [HE.out]
  have B2 : Hid (Below (w.heap.size + 1) (w.alloc (.cells #[.slice a1 caps.length cap1, .slice a2 paths.length cap2] 43)) w2) := B1.out.trans (hb.mono Z1.out)
  clear hb B1 c0 c1 z Z1 G1 L1 N1 P1
  obtain ⟨c0, c1, z, Z2, G2, L2, N2, P2⟩ := HK.out _ B2.out
  go_wp2_with fail
  have hE := Error_any E E w2 G2.out
  rw [beq_self_eq_true] at hE
  refine hE.mono ?_
  rintro e w3 ⟨rfl, hb⟩
  clear hE
  have B3 : Hid (Below (w.heap.size + 1) (w.alloc (.cells #[.slice a1 caps.length cap1, .slice a2 paths.length cap2] 43)) w3) := B2.out.trans (hb.mono Z2.out)
  clear hb B2 c0 c1 z Z2 G2 L2 N2 P2
  obtain ⟨c0, c1, z, Z3, G3, L3, N3, P3⟩ := HK.out _ B3.out
  obtain ⟨o1, HO1⟩ : ∃ o : Bool, Hid (o = decide (E = 0 ∧ (link < 0 ∨ (caps.length : Int) ≤ link))) := ⟨_, rfl⟩
  go_upto_region 5 with fail
  go_cut [39] (fun s39 wc => s39 = .bool o1 ∧ Hid (Below (w.heap.size + 1) (w.alloc (.cells #[.slice a1 caps.length cap1, .slice a2 paths.length cap2] 43)) wc))
  case first =>
    as_aux_lemma =>
      by_cases h0 : E = 0
      · subst h0
        by_cases h1 : link < 0
        · obtain rfl : o1 = true := by rw [HO1.out]; simp [h1]
          clear HO1
          go_wp2
          go_meet
          case rel => exact ⟨rfl, B3⟩
        · by_cases h2 : (caps.length : Int) ≤ link
          · obtain rfl : o1 = true := by rw [HO1.out]; simp [h2]
            clear HO1
            go_wp2
            go_meet
            case rel => exact ⟨rfl, B3⟩
          · obtain rfl : o1 = false := by rw [HO1.out]; simp [h1, h2]
            clear HO1
            go_wp2
            go_meet
            case rel => exact ⟨rfl, B3⟩
      · obtain rfl : o1 = false := by rw [HO1.out]; simp [h0]
        have q : (E == 0) = false := beq_eq_false_iff_ne.2 h0
        clear h0 HO1
        go_wp2
        go_meet
        case rel => exact ⟨rfl, B3⟩
  case rest =>
    as_aux_lemma =>
      obtain ⟨w4, rfl⟩ : ∃ x : World, x = wc := ⟨_, rfl⟩
      obtain ⟨rfl, B4⟩ := hcut
      clear B3 c0 c1 z Z3 G3 L3 N3 P3
      obtain ⟨c0, c1, z, Z4, G4, L4, N4, P4⟩ := HK.out _ B4.out
      obtain ⟨F1, HF1⟩ : ∃ F, Hid (usersE caps paths link = F) := ⟨_, rfl⟩
      go_upto_if 39 with fail
      go_cut [11, 12] (fun s11 s12 wc => s11 = .int .i64 F1 ∧ (∃ a n k, s12 = .slice a n k) ∧ Hid (IntsAt (fun _ => True) wc s12 (okL F1 (users paths link))) ∧ Hid (Below (w.heap.size + 1) (w.alloc (.cells #[.slice a1 caps.length cap1, .slice a2 paths.length cap2] 43)) wc))
      case first =>
        as_aux_lemma =>
          by_cases h0 : E = 0
          · by_cases h1 : link < 0 ∨ (caps.length : Int) ≤ link
            · obtain rfl : o1 = true := by rw [HO1.out]; simp [h0, h1]
              obtain rfl : F1 = 1 := by rw [← HF1.out, usersE, if_pos (HE.out.trans h0), if_pos h1]
              have HI : Hid (∀ W : World, IntsAt (fun _ => True) W (.slice none 0 0) (okL 1 (users paths link))) := fun W => ⟨_, _, rfl, ⟨Nat.le_refl _, by simp [okL]⟩, .inl rfl⟩
              clear HO1 h1 HF1
              go_wp2
              go_meet
              case rel => exact ⟨rfl, ⟨_, _, _, rfl⟩, HI.out _, B4⟩
            · obtain rfl : o1 = false := by rw [HO1.out]; simp [h1]
              obtain rfl : F1 = 0 := by rw [← HF1.out, usersE, if_pos (HE.out.trans h0), if_neg h1]
              have HL : Hid (paths.length ≤ 1000000) := by have := netE_0 (HE.out.trans h0); show _ ≤ _; omega
              subst h0
              clear HO1 h1 HF1
              go_wp2_with fail
              refine (RUsers_any caps paths link _ _ N4.out HL.out).mono ?_
              rintro e w5 ⟨x, rfl, hx, hb⟩
              have B5 : Hid (Below (w.heap.size + 1) (w.alloc (.cells #[.slice a1 caps.length cap1, .slice a2 paths.length cap2] 43)) w5) := B4.out.trans (hb.mono Z4.out)
              clear hb B4 c0 c1 z Z4 G4 L4 N4 P4
              obtain ⟨c0, c1, z, Z5, G5, L5, N5, P5⟩ := HK.out _ B5.out
              have HX : Hid (IntsAt (fun _ => True) w5 x (okL 0 (users paths link))) := hx.keep (fun _ _ _ => rfl) (fun _ _ _ => trivial)
              obtain ⟨_, _, rfl, _⟩ := hx
              go_wp2
              go_meet
              case rel => exact ⟨rfl, ⟨_, _, _, rfl⟩, HX.out, B5⟩
          · obtain rfl : o1 = false := by rw [HO1.out]; simp [h0]
            obtain rfl : F1 = E := by rw [← HF1.out, usersE, if_neg (by rw [HE.out]; exact h0), HE.out]
            have q : (F1 == 0) = false := beq_eq_false_iff_ne.2 h0
            have HI : Hid (∀ W : World, IntsAt (fun _ => True) W (.slice none 0 0) (okL F1 (users paths link))) := fun W => by
              rw [okL_ne h0]
              exact ⟨_, _, rfl, ⟨Nat.le_refl _, by simp⟩, .inl rfl⟩
            clear h0 HO1 HF1
            go_wp2
            go_meet
            case rel => exact ⟨rfl, ⟨_, _, _, rfl⟩, HI.out _, B4⟩
      case rest =>
        as_aux_lemma =>
          obtain ⟨w6, rfl⟩ : ∃ x : World, x = wc := ⟨_, rfl⟩
          obtain ⟨rfl, ⟨ua, un, uk, rfl⟩, HU, B6⟩ := hcut
          clear B4 c0 c1 z Z4 G4 L4 N4 P4
          obtain ⟨c0, c1, z, Z6, G6, L6, N6, P6⟩ := HK.out _ B6.out
          clear HO1
          go_wp2_with fail
          refine (hUsers _ caps paths link _ _ N6.out).mono ?_
          rintro e w7 ⟨x, rfl, hx, hb⟩
          rw [HF1.out]
          rw [HF1.out] at hx
          have HU7 : Hid (IntsAt (fun _ => True) w7 (.slice ua un uk) (okL F1 (users paths link))) := HU.out.later hb
          clear HU
          have B7 : Hid (Below (w.heap.size + 1) (w.alloc (.cells #[.slice a1 caps.length cap1, .slice a2 paths.length cap2] 43)) w7) := B6.out.trans (hb.mono Z6.out)
          clear hb B6 c0 c1 z Z6 G6 L6 N6 P6
          obtain ⟨c0, c1, z, Z7, G7, L7, N7, P7⟩ := HK.out _ B7.out
          obtain ⟨xa, xn, xk, rfl⟩ := hx.shape
          have HX7 : Hid (IntsAt (fun _ => True) w7 (.slice xa xn xk) (okL F1 (users paths link))) := hx.keep (fun _ _ _ => rfl) (fun _ _ _ => trivial)
          clear hx
          go_wp2_with fail
          have hE := Error_any F1 F1 w7 G7.out
          rw [beq_self_eq_true] at hE
          refine hE.mono ?_
          rintro e w8 ⟨rfl, hb⟩
          clear hE
          have HU8 : Hid (IntsAt (fun _ => True) w8 (.slice ua un uk) (okL F1 (users paths link))) := HU7.out.later hb
          have HX8 : Hid (IntsAt (fun _ => True) w8 (.slice xa xn xk) (okL F1 (users paths link))) := HX7.out.later hb
          clear HU7 HX7
          have B8 : Hid (Below (w.heap.size + 1) (w.alloc (.cells #[.slice a1 caps.length cap1, .slice a2 paths.length cap2] 43)) w8) := B7.out.trans (hb.mono Z7.out)
          clear hb B7 c0 c1 z Z7 G7 L7 N7 P7
          obtain ⟨c0, c1, z, Z8, G8, L8, N8, P8⟩ := HK.out _ B8.out
          go_wp2_with fail
          have hS := SInts_any (okL F1 (users paths link)) (okL F1 (users paths link)) _ _ _ HX8.out HU8.out
          rw [eqI_self] at hS
          refine hS.mono ?_
          rintro e w9 ⟨rfl, n9, hw9⟩
          clear hS
          have hb : Below w8.heap.size w8 w9 := by rw [hw9]; exact below_drewN (Below.refl _ _) _
          clear HU8 HX8 hw9 HF1
          have B9 : Hid (Below (w.heap.size + 1) (w.alloc (.cells #[.slice a1 caps.length cap1, .slice a2 paths.length cap2] 43)) w9) := B8.out.trans (hb.mono Z8.out)
          clear hb B8 c0 c1 z Z8 G8 L8 N8 P8
          obtain ⟨c0, c1, z, Z9, G9, L9, N9, P9⟩ := HK.out _ B9.out
          have zw : w.heap.size < w9.heap.size := z
          have HZW : Hid (w.heap.size + 1 ≤ w9.heap.size) := Z9
          obtain ⟨o2, HO2⟩ : ∃ o : Bool, Hid (o = decide (E = 0 ∧ paths.length = 6)) := ⟨_, rfl⟩
          go_upto_region 13 with fail
          go_cut [67] (fun s67 wc => s67 = .bool o2 ∧ wc.cell? ⟨w9.heap.size, 0, none⟩ = some (.slice none 0 0) ∧ wc.cell? ⟨w9.heap.size, 1, none⟩ = some (.slice none 0 0) ∧ wc.frozen? ⟨w9.heap.size, 0, none⟩ = false ∧ wc.frozen? ⟨w9.heap.size, 1, none⟩ = false ∧ Hid (Below (w.heap.size + 1) (w.alloc (.cells #[.slice a1 caps.length cap1, .slice a2 paths.length cap2] 43)) wc))
          case first =>
            as_aux_lemma =>
              have HB : Hid (Below (w.heap.size + 1) (w.alloc (.cells #[.slice a1 caps.length cap1, .slice a2 paths.length cap2] 43)) (w9.alloc (.cells #[.slice none 0 0, .slice none 0 0] 43))) := B9.out.alloc Z9.out _
              by_cases h0 : E = 0
              · by_cases h1 : paths.length = 6
                · obtain rfl : o2 = true := by rw [HO2.out]; simp [h0, h1]
                  have q1 : ((paths.length : Int) == 6) = true := beq_iff_eq.2 (by omega)
                  subst h0
                  clear HO2 h1
                  go_wp2
                  go_meet
                  case rel => exact ⟨rfl, by go_simp, by go_simp, by go_simp, by go_simp, HB⟩
                · obtain rfl : o2 = false := by rw [HO2.out]; simp [h1]
                  have q1 : ((paths.length : Int) == 6) = false := beq_eq_false_iff_ne.2 (by omega)
                  subst h0
                  clear HO2 h1
                  go_wp2
                  go_meet
                  case rel => exact ⟨rfl, by go_simp, by go_simp, by go_simp, by go_simp, HB⟩
              · obtain rfl : o2 = false := by rw [HO2.out]; simp [h0]
                have q : (E == 0) = false := beq_eq_false_iff_ne.2 h0
                clear h0 HO2
                go_wp2
                go_meet
                case rel => exact ⟨rfl, by go_simp, by go_simp, by go_simp, by go_simp, HB⟩
          case rest =>
            as_aux_lemma =>
              obtain ⟨w10, rfl⟩ : ∃ x : World, x = wc := ⟨_, rfl⟩
              obtain ⟨rfl, d0, d1, f0, f1, B10⟩ := hcut
              clear B9 c0 c1 z Z9 G9 L9 N9 P9
              obtain ⟨c0, c1, z, Z10, G10, L10, N10, P10⟩ := HK.out _ B10.out
              have zd : w9.heap.size < w10.heap.size := World.block_lt_of_cell? _ ⟨w9.heap.size, 0, none⟩ d0
              obtain ⟨F2, HF2⟩ : ∃ F, Hid (addE caps paths path = F) := ⟨_, rfl⟩
              go_upto_if 67 with fail
              go_cut [11] (fun s11 wc => s11 = .int .i64 F2 ∧ wc.cell? ⟨w9.heap.size, 0, none⟩ = some (.slice none 0 0) ∧ wc.cell? ⟨w9.heap.size, 1, none⟩ = some (.slice none 0 0) ∧ wc.frozen? ⟨w9.heap.size, 0, none⟩ = false ∧ wc.frozen? ⟨w9.heap.size, 1, none⟩ = false ∧ Hid (Below (w.heap.size + 1) (w.alloc (.cells #[.slice a1 caps.length cap1, .slice a2 paths.length cap2] 43)) wc))
              case first =>
                as_aux_lemma =>
                  by_cases h0 : E = 0
                  · by_cases h1 : paths.length = 6
                    · obtain rfl : o2 = true := by rw [HO2.out]; simp [h0, h1]
                      obtain rfl : F2 = 4 := by rw [← HF2.out, addE, if_pos (HE.out.trans h0), if_pos h1]
                      clear HO2 h1 HF2 h0
                      go_wp2
                      go_meet
                      case rel => exact ⟨rfl, d0, d1, f0, f1, B10⟩
                    · obtain rfl : o2 = false := by rw [HO2.out]; simp [h1]
                      have HF : Hid (pathE caps.length path = F2) := by show _ = _; rw [← HF2.out, addE, if_pos (HE.out.trans h0), if_neg h1]
                      subst h0
                      clear HO2 h1 HF2
                      go_wp2_with fail
                      refine (Path_any caps.length path _ _ P10.out).mono ?_
                      rintro e w11 ⟨rfl, n11, hw11⟩
                      rw [HF.out]
                      have HB : Hid (Below (w.heap.size + 1) (w.alloc (.cells #[.slice a1 caps.length cap1, .slice a2 paths.length cap2] 43)) w11) := by show Below _ _ _; rw [hw11]; exact below_drewN B10.out _
                      have d0' : w11.cell? ⟨w9.heap.size, 0, none⟩ = some (.slice none 0 0) := by rw [hw11]; simpa using d0
                      have d1' : w11.cell? ⟨w9.heap.size, 1, none⟩ = some (.slice none 0 0) := by rw [hw11]; simpa using d1
                      have f0' : w11.frozen? ⟨w9.heap.size, 0, none⟩ = false := by rw [hw11]; simpa using f0
                      have f1' : w11.frozen? ⟨w9.heap.size, 1, none⟩ = false := by rw [hw11]; simpa using f1
                      clear d0 d1 f0 f1 hw11 HF
                      go_wp2
                      go_meet
                      case rel => exact ⟨rfl, d0', d1', f0', f1', HB⟩
                  · obtain rfl : o2 = false := by rw [HO2.out]; simp [h0]
                    obtain rfl : F2 = E := by rw [← HF2.out, addE, if_neg (by rw [HE.out]; exact h0), HE.out]
                    have q : (F2 == 0) = false := beq_eq_false_iff_ne.2 h0
                    clear h0 HO2 HF2
                    go_wp2
                    go_meet
                    case rel => exact ⟨rfl, d0, d1, f0, f1, B10⟩
              case rest =>
                as_aux_lemma =>
                  obtain ⟨w12, rfl⟩ : ∃ x : World, x = wc := ⟨_, rfl⟩
                  obtain ⟨rfl, d0, d1, f0, f1, B12⟩ := hcut
                  clear B10 c0 c1 z Z10 G10 L10 N10 P10 zd HO2
                  obtain ⟨c0, c1, z, Z12, G12, L12, N12, P12⟩ := HK.out _ B12.out
                  have zd : w9.heap.size < w12.heap.size := World.block_lt_of_cell? _ ⟨w9.heap.size, 0, none⟩ d0
                  go_upto_if 76 with fail
                  go_cut [11] (fun s11 wc => s11 = .int .i64 F2 ∧ (∃ wa wn wk xa xn xk, wc.cell? ⟨w9.heap.size, 0, none⟩ = some (.slice wa wn wk) ∧ wc.cell? ⟨w9.heap.size, 1, none⟩ = some (.slice xa xn xk) ∧ wc.frozen? ⟨w9.heap.size, 0, none⟩ = false ∧ wc.frozen? ⟨w9.heap.size, 1, none⟩ = false ∧ Hid (NetAt (fun _ => True) wc (.agg #[.slice wa wn wk, .slice xa xn xk]) (okL F2 caps) (okL F2 (paths ++ [path])))) ∧ Hid (Below (w.heap.size + 1) (w.alloc (.cells #[.slice a1 caps.length cap1, .slice a2 paths.length cap2] 43)) wc))
                  case first =>
                    as_aux_lemma =>
                      by_cases h0 : F2 = 0
                      · subst h0
                        have HQ : Hid (paths ≠ [] ∧ paths.length ≤ 1000) := by
                          have := netE_0 (netE_add HF2.out).1
                          exact ⟨by intro e; rw [e] at this; simp at this, by omega⟩
                        clear HF2
                        go_wp2_with fail
                        refine (RWith_any caps paths path _ _ _ N12.out P12.out HQ.out.1 HQ.out.2).mono ?_
                        rintro e w13 ⟨x, rfl, hx, hb⟩
                        obtain ⟨wa, wn, wk, xa, xn, xk, hx'⟩ := hx.shape
                        subst hx'
                        have HX : Hid (NetAt (fun _ => True) ((w13.setCell ⟨w9.heap.size, 0, none⟩ (.slice wa wn wk)).setCell ⟨w9.heap.size, 1, none⟩ (.slice xa xn xk)) (.agg #[.slice wa wn wk, .slice xa xn xk]) (okL 0 caps) (okL 0 (paths ++ [path]))) :=
                          ((hx.setCell (a := ⟨w9.heap.size, 0, none⟩) (by simp; omega) _).setCell (a := ⟨w9.heap.size, 1, none⟩) (by simp; omega) _).keep (fun _ _ _ => rfl) (fun _ _ _ => trivial)
                        clear hx
                        replace d0 := cell_later hb d0
                        replace d1 := cell_later hb d1
                        replace f0 := (hb.frozen (p := ⟨w9.heap.size, 0, none⟩) zd).trans f0
                        replace f1 := (hb.frozen (p := ⟨w9.heap.size, 1, none⟩) zd).trans f1
                        clear zd
                        have B13 : Hid (Below (w.heap.size + 1) (w.alloc (.cells #[.slice a1 caps.length cap1, .slice a2 paths.length cap2] 43)) w13) := B12.out.trans (hb.mono Z12.out)
                        clear hb B12 c0 c1 z Z12 G12 L12 N12 P12
                        obtain ⟨c0, c1, z, Z13, G13, L13, N13, P13⟩ := HK.out _ B13.out
                        have zd : w9.heap.size < w13.heap.size := World.block_lt_of_cell? _ ⟨w9.heap.size, 0, none⟩ d0
                        have HB : Hid (Below (w.heap.size + 1) (w.alloc (.cells #[.slice a1 caps.length cap1, .slice a2 paths.length cap2] 43)) ((w13.setCell ⟨w9.heap.size, 0, none⟩ (.slice wa wn wk)).setCell ⟨w9.heap.size, 1, none⟩ (.slice xa xn xk))) := (B13.out.setCell HZW.out _).setCell HZW.out _
                        go_wp2
                        go_meet
                        case rel => exact ⟨rfl, ⟨_, _, _, _, _, _, by go_simp, by go_simp, by go_simp, by go_simp, HX⟩, HB⟩
                      · have q : (F2 == 0) = false := beq_eq_false_iff_ne.2 h0
                        have HX : Hid (NetAt (fun _ => True) w12 (.agg #[.slice none 0 0, .slice none 0 0]) (okL F2 caps) (okL F2 (paths ++ [path]))) := by
                          show NetAt _ _ _ _ _
                          rw [okL_ne h0, okL_ne h0]
                          exact ⟨_, _, rfl, ⟨_, _, rfl, ⟨Nat.le_refl _, by simp⟩, .inl rfl⟩, ⟨_, _, rfl, ⟨Nat.le_refl _, by simp⟩, .inl rfl⟩⟩
                        clear h0 HF2
                        go_wp2
                        go_meet
                        case rel => exact ⟨rfl, ⟨_, _, _, _, _, _, d0, d1, f0, f1, HX⟩, B12⟩
                  case rest =>
                    as_aux_lemma =>
                      obtain ⟨w14, rfl⟩ : ∃ x : World, x = wc := ⟨_, rfl⟩
                      clear B12 c0 c1 z Z12 G12 L12 N12 P12 zd d0 d1 f0 f1
                      obtain ⟨rfl, ⟨wa, wn, wk, xa, xn, xk, d0, d1, f0, f1, HW⟩, B14⟩ := hcut
                      obtain ⟨c0, c1, z, Z14, G14, L14, N14, P14⟩ := HK.out _ B14.out
                      have zd : w9.heap.size < w14.heap.size := World.block_lt_of_cell? _ ⟨w9.heap.size, 0, none⟩ d0
                      go_wp2_with fail
                      refine (hAdd _ caps paths path _ _ _ N14.out P14.out).mono ?_
                      rintro e w15 ⟨y, rfl, hy, hb⟩
                      rw [HF2.out]
                      rw [HF2.out] at hy
                      have HW15 : Hid (NetAt (fun _ => True) w15 (.agg #[.slice wa wn wk, .slice xa xn xk]) (okL F2 caps) (okL F2 (paths ++ [path]))) := HW.out.later hb
                      replace d0 := cell_later hb d0
                      replace d1 := cell_later hb d1
                      replace f0 := (hb.frozen (p := ⟨w9.heap.size, 0, none⟩) zd).trans f0
                      replace f1 := (hb.frozen (p := ⟨w9.heap.size, 1, none⟩) zd).trans f1
                      clear zd HW HF2
                      obtain ⟨ya, yn, yk, za, zn, zk, hy'⟩ := hy.shape
                      subst hy'
                      have HY15 : Hid (NetAt (fun _ => True) w15 (.agg #[.slice ya yn yk, .slice za zn zk]) (okL F2 caps) (okL F2 (paths ++ [path]))) := hy.keep (fun _ _ _ => rfl) (fun _ _ _ => trivial)
                      clear hy
                      have B15 : Hid (Below (w.heap.size + 1) (w.alloc (.cells #[.slice a1 caps.length cap1, .slice a2 paths.length cap2] 43)) w15) := B14.out.trans (hb.mono Z14.out)
                      clear hb B14 c0 c1 z Z14 G14 L14 N14 P14
                      obtain ⟨c0, c1, z, Z15, G15, L15, N15, P15⟩ := HK.out _ B15.out
                      have zd : w9.heap.size < w15.heap.size := World.block_lt_of_cell? _ ⟨w9.heap.size, 0, none⟩ d0
                      have B16 : Hid (Below (w.heap.size + 1) (w.alloc (.cells #[.slice a1 caps.length cap1, .slice a2 paths.length cap2] 43)) (w15.alloc (.cells #[.slice ya yn yk, .slice za zn zk] 43))) := B15.out.alloc Z15.out _
                      obtain ⟨_, _, _, Z16, G16, _, _, _⟩ := HK.out _ B16.out
                      go_wp2_with fail
                      have hE := Error_any F2 F2 _ G16.out
                      rw [beq_self_eq_true] at hE
                      refine hE.mono ?_
                      rintro e w17 ⟨rfl, hb⟩
                      have HY17 : Hid (NetAt (fun _ => True) w17 (.agg #[.slice ya yn yk, .slice za zn zk]) (okL F2 caps) (okL F2 (paths ++ [path]))) := (HY15.out.later ((Below.refl _ _).alloc (Nat.le_refl _) _)).later hb
                      have HW17 : Hid (NetAt (fun _ => True) w17 (.agg #[.slice wa wn wk, .slice xa xn xk]) (okL F2 caps) (okL F2 (paths ++ [path]))) := (HW15.out.later ((Below.refl _ _).alloc (Nat.le_refl _) _)).later hb
                      replace d0 : w17.cell? ⟨w9.heap.size, 0, none⟩ = some (.slice wa wn wk) := cell_later hb (by go_simp)
                      replace d1 : w17.cell? ⟨w9.heap.size, 1, none⟩ = some (.slice xa xn xk) := cell_later hb (by go_simp)
                      replace f0 : w17.frozen? ⟨w9.heap.size, 0, none⟩ = false := (hb.frozen (p := ⟨w9.heap.size, 0, none⟩) (by simp; omega)).trans (by go_simp)
                      replace f1 : w17.frozen? ⟨w9.heap.size, 1, none⟩ = false := (hb.frozen (p := ⟨w9.heap.size, 1, none⟩) (by simp; omega)).trans (by go_simp)
                      have g0 : w17.cell? ⟨w15.heap.size, 0, none⟩ = some (.slice ya yn yk) := cell_later hb (by go_simp)
                      have g1 : w17.cell? ⟨w15.heap.size, 1, none⟩ = some (.slice za zn zk) := cell_later hb (by go_simp)
                      have k0 : w17.frozen? ⟨w15.heap.size, 0, none⟩ = false := (hb.frozen (p := ⟨w15.heap.size, 0, none⟩) (by simp)).trans (by go_simp)
                      have k1 : w17.frozen? ⟨w15.heap.size, 1, none⟩ = false := (hb.frozen (p := ⟨w15.heap.size, 1, none⟩) (by simp)).trans (by go_simp)
                      have zx : w9.heap.size < w15.heap.size := zd
                      have zy : w.heap.size < w15.heap.size := z
                      have HZX : Hid (w.heap.size + 1 ≤ w15.heap.size) := Z15
                      have B17 : Hid (Below (w.heap.size + 1) (w.alloc (.cells #[.slice a1 caps.length cap1, .slice a2 paths.length cap2] 43)) w17) := B16.out.trans (hb.mono Z16.out)
                      clear hE hb HY15 HW15 c0 c1 z zd B15 Z15 G15 L15 N15 P15 B16 Z16 G16
                      obtain ⟨c0, c1, z, Z17, G17, L17, N17, P17⟩ := HK.out _ B17.out
                      go_wp2_with fail
                      have hS := SNet_any (okL F2 caps) (okL F2 caps) (okL F2 (paths ++ [path])) (okL F2 (paths ++ [path])) _ _ _ HY17.out HW17.out
                      rw [eqN_self] at hS
                      refine hS.mono ?_
                      rintro e w18 ⟨rfl, hb⟩
                      clear hS HY17 HW17
                      have zd : w9.heap.size < w17.heap.size := World.block_lt_of_cell? _ ⟨w9.heap.size, 0, none⟩ d0
                      have zg : w15.heap.size < w17.heap.size := World.block_lt_of_cell? _ ⟨w15.heap.size, 0, none⟩ g0
                      replace d0 := cell_later hb d0
                      replace d1 := cell_later hb d1
                      replace f0 := (hb.frozen (p := ⟨w9.heap.size, 0, none⟩) zd).trans f0
                      replace f1 := (hb.frozen (p := ⟨w9.heap.size, 1, none⟩) zd).trans f1
                      replace g0 := cell_later hb g0
                      replace g1 := cell_later hb g1
                      replace k0 := (hb.frozen (p := ⟨w15.heap.size, 0, none⟩) zg).trans k0
                      replace k1 := (hb.frozen (p := ⟨w15.heap.size, 1, none⟩) zg).trans k1
                      clear zd zg
                      have B18 : Hid (Below (w.heap.size + 1) (w.alloc (.cells #[.slice a1 caps.length cap1, .slice a2 paths.length cap2] 43)) w18) := B17.out.trans (hb.mono Z17.out)
                      clear hb B17 c0 c1 z Z17 G17 L17 N17 P17
                      obtain ⟨c0, c1, z, Z18, G18, L18, N18, P18⟩ := HK.out _ B18.out
                      have zd : w9.heap.size < w18.heap.size := World.block_lt_of_cell? _ ⟨w9.heap.size, 0, none⟩ d0
                      have zg : w15.heap.size < w18.heap.size := World.block_lt_of_cell? _ ⟨w15.heap.size, 0, none⟩ g0
                      obtain ⟨o3, HO3⟩ : ∃ o : Bool, Hid (o = decide (E = 0 ∧ (flow < 0 ∨ (paths.length : Int) ≤ flow))) := ⟨_, rfl⟩
                      go_upto_region 22 with fail
                      go_cut [107] (fun s107 wc => s107 = .bool o3 ∧ wc.cell? ⟨w9.heap.size, 0, none⟩ = some (.slice none 0 0) ∧ wc.cell? ⟨w9.heap.size, 1, none⟩ = some (.slice none 0 0) ∧ wc.frozen? ⟨w9.heap.size, 0, none⟩ = false ∧ wc.frozen? ⟨w9.heap.size, 1, none⟩ = false ∧ wc.cell? ⟨w15.heap.size, 0, none⟩ = some (.slice ya yn yk) ∧ wc.cell? ⟨w15.heap.size, 1, none⟩ = some (.slice za zn zk) ∧ wc.frozen? ⟨w15.heap.size, 0, none⟩ = false ∧ wc.frozen? ⟨w15.heap.size, 1, none⟩ = false ∧ Hid (Below (w.heap.size + 1) (w.alloc (.cells #[.slice a1 caps.length cap1, .slice a2 paths.length cap2] 43)) wc))
                      case first =>
                        as_aux_lemma =>
                          have HB : Hid (Below (w.heap.size + 1) (w.alloc (.cells #[.slice a1 caps.length cap1, .slice a2 paths.length cap2] 43)) ((w18.setCell ⟨w9.heap.size, 0, none⟩ (.slice none 0 0)).setCell ⟨w9.heap.size, 1, none⟩ (.slice none 0 0))) := (B18.out.setCell HZW.out _).setCell HZW.out _
                          by_cases h0 : E = 0
                          · subst h0
                            by_cases h1 : flow < 0
                            · obtain rfl : o3 = true := by rw [HO3.out]; simp [h1]
                              clear HO3
                              go_wp2
                              go_meet
                              case rel => exact ⟨rfl, by go_simp, by go_simp, by go_simp, by go_simp, by go_simp, by go_simp, by go_simp, by go_simp, HB⟩
                            · by_cases h2 : (paths.length : Int) ≤ flow
                              · obtain rfl : o3 = true := by rw [HO3.out]; simp [h2]
                                clear HO3
                                go_wp2
                                go_meet
                                case rel => exact ⟨rfl, by go_simp, by go_simp, by go_simp, by go_simp, by go_simp, by go_simp, by go_simp, by go_simp, HB⟩
                              · obtain rfl : o3 = false := by rw [HO3.out]; simp [h1, h2]
                                clear HO3
                                go_wp2
                                go_meet
                                case rel => exact ⟨rfl, by go_simp, by go_simp, by go_simp, by go_simp, by go_simp, by go_simp, by go_simp, by go_simp, HB⟩
                          · obtain rfl : o3 = false := by rw [HO3.out]; simp [h0]
                            have q : (E == 0) = false := beq_eq_false_iff_ne.2 h0
                            clear h0 HO3
                            go_wp2
                            go_meet
                            case rel => exact ⟨rfl, by go_simp, by go_simp, by go_simp, by go_simp, by go_simp, by go_simp, by go_simp, by go_simp, HB⟩
                      case rest =>
                        as_aux_lemma =>
                          obtain ⟨w20, rfl⟩ : ∃ x : World, x = wc := ⟨_, rfl⟩
                          clear B18 c0 c1 z Z18 G18 L18 N18 P18 d0 d1 f0 f1 g0 g1 k0 k1 zd zg
                          obtain ⟨rfl, d0, d1, f0, f1, g0, g1, k0, k1, B20⟩ := hcut
                          obtain ⟨c0, c1, z, Z20, G20, L20, N20, P20⟩ := HK.out _ B20.out
                          have zd : w9.heap.size < w20.heap.size := World.block_lt_of_cell? _ ⟨w9.heap.size, 0, none⟩ d0
                          have zg : w15.heap.size < w20.heap.size := World.block_lt_of_cell? _ ⟨w15.heap.size, 0, none⟩ g0
                          obtain ⟨F3, HF3⟩ : ∃ F, Hid (dropE caps paths flow = F) := ⟨_, rfl⟩
                          go_upto_if 107 with fail
                          go_cut [9] (fun s9 wc => s9 = .int .i64 F3 ∧ (∃ wa wn wk xa xn xk, wc.cell? ⟨w9.heap.size, 0, none⟩ = some (.slice wa wn wk) ∧ wc.cell? ⟨w9.heap.size, 1, none⟩ = some (.slice xa xn xk) ∧ wc.frozen? ⟨w9.heap.size, 0, none⟩ = false ∧ wc.frozen? ⟨w9.heap.size, 1, none⟩ = false ∧ Hid (NetAt (fun b => b ≠ w15.heap.size) wc (.agg #[.slice wa wn wk, .slice xa xn xk]) (okL F3 caps) (okL F3 (less paths flow)))) ∧ wc.cell? ⟨w15.heap.size, 0, none⟩ = some (.slice ya yn yk) ∧ wc.cell? ⟨w15.heap.size, 1, none⟩ = some (.slice za zn zk) ∧ wc.frozen? ⟨w15.heap.size, 0, none⟩ = false ∧ wc.frozen? ⟨w15.heap.size, 1, none⟩ = false ∧ Hid (Below (w.heap.size + 1) (w.alloc (.cells #[.slice a1 caps.length cap1, .slice a2 paths.length cap2] 43)) wc))
                          case first =>
                            as_aux_lemma =>
                              have HX0 : Hid (∀ F : Int, F ≠ 0 → NetAt (fun b => b ≠ w15.heap.size) w20 (.agg #[.slice none 0 0, .slice none 0 0]) (okL F caps) (okL F (less paths flow))) := by
                                intro F hF
                                rw [okL_ne hF, okL_ne hF]
                                exact ⟨_, _, rfl, ⟨_, _, rfl, ⟨Nat.le_refl _, by simp⟩, .inl rfl⟩, ⟨_, _, rfl, ⟨Nat.le_refl _, by simp⟩, .inl rfl⟩⟩
                              by_cases h0 : E = 0
                              · by_cases h1 : flow < 0 ∨ (paths.length : Int) ≤ flow
                                · obtain rfl : o3 = true := by rw [HO3.out]; simp [h0, h1]
                                  obtain rfl : F3 = 1 := by rw [← HF3.out, dropE, if_pos (HE.out.trans h0), if_pos h1]
                                  clear HO3 h1 HF3 h0
                                  go_wp2
                                  go_meet
                                  case rel => exact ⟨rfl, ⟨_, _, _, _, _, _, d0, d1, f0, f1, HX0.out 1 (by decide)⟩, g0, g1, k0, k1, B20⟩
                                · obtain rfl : o3 = false := by rw [HO3.out]; simp [h1]
                                  by_cases h2 : paths.length = 1
                                  · obtain rfl : F3 = 5 := by rw [← HF3.out, dropE, if_pos (HE.out.trans h0), if_neg h1, if_pos h2]
                                    have q1 : ((paths.length : Int) == 1) = true := beq_iff_eq.2 (by omega)
                                    subst h0
                                    clear HO3 h1 HF3 h2
                                    go_wp2
                                    go_meet
                                    case rel => exact ⟨rfl, ⟨_, _, _, _, _, _, d0, d1, f0, f1, HX0.out 5 (by decide)⟩, g0, g1, k0, k1, B20⟩
                                  · obtain rfl : F3 = 0 := by rw [← HF3.out, dropE, if_pos (HE.out.trans h0), if_neg h1, if_neg h2]
                                    have q1 : ((paths.length : Int) == 1) = false := beq_eq_false_iff_ne.2 (by omega)
                                    obtain ⟨k, rfl⟩ := Int.eq_ofNat_of_zero_le (show 0 ≤ flow by omega)
                                    have HL : Hid (k < paths.length ∧ paths.length ≤ 1000) := by
                                      have := netE_0 (HE.out.trans h0)
                                      exact ⟨by omega, by omega⟩
                                    subst h0
                                    clear HO3 h1 HF3 h2 HX0
                                    go_wp2_with fail
                                    refine (RWithout_any caps paths k _ _ N20.out HL.out.1 HL.out.2).mono ?_
                                    rintro e w21 ⟨x, rfl, hx, hb⟩
                                    obtain ⟨wa, wn, wk, xa, xn, xk, hx'⟩ := hx.shape
                                    subst hx'
                                    have HX : Hid (NetAt (fun b => b ≠ w15.heap.size) ((w21.setCell ⟨w9.heap.size, 0, none⟩ (.slice wa wn wk)).setCell ⟨w9.heap.size, 1, none⟩ (.slice xa xn xk)) (.agg #[.slice wa wn wk, .slice xa xn xk]) (okL 0 caps) (okL 0 (less paths (k : Int)))) :=
                                      ((hx.setCell (a := ⟨w9.heap.size, 0, none⟩) (by simp; omega) _).setCell (a := ⟨w9.heap.size, 1, none⟩) (by simp; omega) _).keep (fun _ _ _ => rfl) (fun b hb _ => by rcases hb with hb | hb <;> omega)
                                    clear hx
                                    replace d0 := cell_later hb d0
                                    replace d1 := cell_later hb d1
                                    replace f0 := (hb.frozen (p := ⟨w9.heap.size, 0, none⟩) zd).trans f0
                                    replace f1 := (hb.frozen (p := ⟨w9.heap.size, 1, none⟩) zd).trans f1
                                    replace g0 := cell_later hb g0
                                    replace g1 := cell_later hb g1
                                    replace k0 := (hb.frozen (p := ⟨w15.heap.size, 0, none⟩) zg).trans k0
                                    replace k1 := (hb.frozen (p := ⟨w15.heap.size, 1, none⟩) zg).trans k1
                                    clear zd zg
                                    have B21 : Hid (Below (w.heap.size + 1) (w.alloc (.cells #[.slice a1 caps.length cap1, .slice a2 paths.length cap2] 43)) w21) := B20.out.trans (hb.mono Z20.out)
                                    clear hb B20 c0 c1 z Z20 G20 L20 N20 P20
                                    obtain ⟨c0, c1, z, Z21, G21, L21, N21, P21⟩ := HK.out _ B21.out
                                    have zd : w9.heap.size < w21.heap.size := World.block_lt_of_cell? _ ⟨w9.heap.size, 0, none⟩ d0
                                    have zg : w15.heap.size < w21.heap.size := World.block_lt_of_cell? _ ⟨w15.heap.size, 0, none⟩ g0
                                    have HB : Hid (Below (w.heap.size + 1) (w.alloc (.cells #[.slice a1 caps.length cap1, .slice a2 paths.length cap2] 43)) ((w21.setCell ⟨w9.heap.size, 0, none⟩ (.slice wa wn wk)).setCell ⟨w9.heap.size, 1, none⟩ (.slice xa xn xk))) := (B21.out.setCell HZW.out _).setCell HZW.out _
                                    go_wp2
                                    go_meet
                                    case rel => exact ⟨rfl, ⟨_, _, _, _, _, _, by go_simp, by go_simp, by go_simp, by go_simp, HX⟩, by go_simp, by go_simp, by go_simp, by go_simp, HB⟩
                              · obtain rfl : o3 = false := by rw [HO3.out]; simp [h0]
                                obtain rfl : F3 = E := by rw [← HF3.out, dropE, if_neg (by rw [HE.out]; exact h0), HE.out]
                                have q : (F3 == 0) = false := beq_eq_false_iff_ne.2 h0
                                have HX := HX0.out F3 h0
                                have HX' : Hid (NetAt (fun b => b ≠ w15.heap.size) w20 (.agg #[.slice none 0 0, .slice none 0 0]) (okL F3 caps) (okL F3 (less paths flow))) := HX
                                clear h0 HO3 HF3 HX HX0
                                go_wp2
                                go_meet
                                case rel => exact ⟨rfl, ⟨_, _, _, _, _, _, d0, d1, f0, f1, HX'⟩, g0, g1, k0, k1, B20⟩
                          case rest =>
                            as_aux_lemma =>
                              obtain ⟨w22, rfl⟩ : ∃ x : World, x = wc := ⟨_, rfl⟩
                              clear B20 c0 c1 z Z20 G20 L20 N20 P20 d0 d1 f0 f1 g0 g1 k0 k1 zd zg HO3
                              obtain ⟨rfl, ⟨wa, wn, wk, xa, xn, xk, d0, d1, f0, f1, HW⟩, g0, g1, k0, k1, B22⟩ := hcut
                              obtain ⟨c0, c1, z, Z22, G22, L22, N22, P22⟩ := HK.out _ B22.out
                              have zd : w9.heap.size < w22.heap.size := World.block_lt_of_cell? _ ⟨w9.heap.size, 0, none⟩ d0
                              have zg : w15.heap.size < w22.heap.size := World.block_lt_of_cell? _ ⟨w15.heap.size, 0, none⟩ g0
                              go_wp2_with fail
                              refine (hDrop _ caps paths flow _ _ N22.out).mono ?_
                              rintro e w23 ⟨y, rfl, hy, hb⟩
                              rw [HF3.out]
                              rw [HF3.out] at hy
                              obtain ⟨va, vn, vk, ta, tn, tk, hy'⟩ := hy.shape
                              subst hy'
                              have HY : Hid (NetAt (fun _ => True) ((w23.setCell ⟨w15.heap.size, 0, none⟩ (.slice va vn vk)).setCell ⟨w15.heap.size, 1, none⟩ (.slice ta tn tk)) (.agg #[.slice va vn vk, .slice ta tn tk]) (okL F3 caps) (okL F3 (less paths flow))) :=
                                ((hy.setCell (a := ⟨w15.heap.size, 0, none⟩) (by simp; omega) _).setCell (a := ⟨w15.heap.size, 1, none⟩) (by simp; omega) _).keep (fun _ _ _ => rfl) (fun _ _ _ => trivial)
                              have HW23 : Hid (NetAt (fun _ => True) ((w23.setCell ⟨w15.heap.size, 0, none⟩ (.slice va vn vk)).setCell ⟨w15.heap.size, 1, none⟩ (.slice ta tn tk)) (.agg #[.slice wa wn wk, .slice xa xn xk]) (okL F3 caps) (okL F3 (less paths flow))) :=
                                (((HW.out.later hb).setCell (a := ⟨w15.heap.size, 0, none⟩) (by simp) _).setCell (a := ⟨w15.heap.size, 1, none⟩) (by simp) _).keep (fun _ _ _ => rfl) (fun _ _ _ => trivial)
                              replace d0 := cell_later hb d0
                              replace d1 := cell_later hb d1
                              replace g0 := cell_later hb g0
                              replace g1 := cell_later hb g1
                              replace k0 := (hb.frozen (p := ⟨w15.heap.size, 0, none⟩) zg).trans k0
                              replace k1 := (hb.frozen (p := ⟨w15.heap.size, 1, none⟩) zg).trans k1
                              clear zd zg hy HW HF3
                              have B23 : Hid (Below (w.heap.size + 1) (w.alloc (.cells #[.slice a1 caps.length cap1, .slice a2 paths.length cap2] 43)) w23) := B22.out.trans (hb.mono Z22.out)
                              clear hb B22 c0 c1 z Z22 G22 L22 N22 P22
                              obtain ⟨c0, c1, z, Z23, G23, L23, N23, P23⟩ := HK.out _ B23.out
                              have zd : w9.heap.size < w23.heap.size := World.block_lt_of_cell? _ ⟨w9.heap.size, 0, none⟩ d0
                              have zg : w15.heap.size < w23.heap.size := World.block_lt_of_cell? _ ⟨w15.heap.size, 0, none⟩ g0
                              have B24 : Hid (Below (w.heap.size + 1) (w.alloc (.cells #[.slice a1 caps.length cap1, .slice a2 paths.length cap2] 43)) ((w23.setCell ⟨w15.heap.size, 0, none⟩ (.slice va vn vk)).setCell ⟨w15.heap.size, 1, none⟩ (.slice ta tn tk))) := (B23.out.setCell HZX.out _).setCell HZX.out _
                              obtain ⟨_, _, _, Z24, G24, _, _, _⟩ := HK.out _ B24.out
                              go_wp2_with fail
                              have hE := Error_any F3 F3 _ G24.out
                              rw [beq_self_eq_true] at hE
                              refine hE.mono ?_
                              rintro e w25 ⟨rfl, hb⟩
                              have HY25 : Hid (NetAt (fun _ => True) w25 (.agg #[.slice va vn vk, .slice ta tn tk]) (okL F3 caps) (okL F3 (less paths flow))) := HY.out.later hb
                              have HW25 : Hid (NetAt (fun _ => True) w25 (.agg #[.slice wa wn wk, .slice xa xn xk]) (okL F3 caps) (okL F3 (less paths flow))) := HW23.out.later hb
                              replace d0 : w25.cell? ⟨w9.heap.size, 0, none⟩ = some (.slice wa wn wk) := cell_later hb (by go_simp)
                              replace d1 : w25.cell? ⟨w9.heap.size, 1, none⟩ = some (.slice xa xn xk) := cell_later hb (by go_simp)
                              replace g0 : w25.cell? ⟨w15.heap.size, 0, none⟩ = some (.slice va vn vk) := cell_later hb (by go_simp)
                              replace g1 : w25.cell? ⟨w15.heap.size, 1, none⟩ = some (.slice ta tn tk) := cell_later hb (by go_simp)
                              have B25 : Hid (Below (w.heap.size + 1) (w.alloc (.cells #[.slice a1 caps.length cap1, .slice a2 paths.length cap2] 43)) w25) := B24.out.trans (hb.mono Z24.out)
                              clear hE hb HY HW23 c0 c1 z zd zg B23 Z23 G23 L23 N23 P23 B24 Z24 G24
                              obtain ⟨c0, c1, z, Z25, G25, L25, N25, P25⟩ := HK.out _ B25.out
                              go_wp2_with fail
                              have hS := SNet_any (okL F3 caps) (okL F3 caps) (okL F3 (less paths flow)) (okL F3 (less paths flow)) _ _ _ HY25.out HW25.out
                              rw [eqN_self] at hS
                              refine hS.mono ?_
                              rintro e w26 ⟨rfl, hb⟩
                              clear hS HY25 HW25
                              have B26 : Hid (Below (w.heap.size + 1) (w.alloc (.cells #[.slice a1 caps.length cap1, .slice a2 paths.length cap2] 43)) w26) := B25.out.trans (hb.mono Z25.out)
                              clear hb B25 c0 c1 z Z25 G25 L25 N25 P25 d0 d1 g0 g1
                              obtain ⟨c0, c1, z, Z26, G26, L26, N26, P26⟩ := HK.out _ B26.out
                              go_wp2
                              go_ret
                              exact ⟨rfl, L26.out⟩
end Ns
end Go.Proofs.YtldhapldkjokkaaDoor
