/- The law SourceTells returns true for every input, from what is asked of package source's calls. -/
import Derived.Test.YtkmkofnfiiibdagDoorPlains
import Derived.Test.YtkmkofnfiiibdagDoorRSrc
import Derived.Test.YtkmkofnfiiibdagDoorToldB
import Derived.Deep.DeepCutAuto
namespace Go.Proofs.YtkmkofnfiiibdagDoor
namespace Ev
open Go.RowKit Fr Ns Ld Fl
set_option linter.unusedSimpArgs false
set_option linter.unusedVariables false

theorem okS_0 (n : Int) : okN 0 n = n := if_pos rfl
theorem okS_ne {k : Int} (h : k ≠ 0) (n : Int) : okN k n = 0 := if_neg h
theorem srcE_or (a b c d : Int) : srcE a b c d = 0 ∨ srcE a b c d = 1 := by
  unfold srcE
  split
  · exact .inr rfl
  · exact .inl rfl

set_option maxRecDepth 100000 in
set_option maxHeartbeats 8000000 in
theorem sourceTells_walk (hC : SCheckSaid) (hS : SSendSaid) (hA : SAckSaid) (hL : SLostSaid) (a b c d : Int) (f : Bool) (w : World) (hg : w.cell? ⟨0, 0, none⟩ = some handleV) :
    Calls Tryd.prog 4 #[.agg #[.int .i64 a, .int .i64 b, .int .i64 c, .int .i64 d], .bool f] w fun e w' => e = .returned (.bool true) ∧ Below w.heap.size w w' := by
  have HKp : Hid (∀ u : World, Below (w.heap.size + 1) (w.alloc (.cells #[.int .i64 a, .int .i64 b, .int .i64 c, .int .i64 d] 35)) u → Below w.heap.size w u ∧ RowAt u w.heap.size 35 [.int .i64 a, .int .i64 b, .int .i64 c, .int .i64 d] ∧ w.heap.size + 1 ≤ u.heap.size) := fun u hu => by
    have hs := hu.size
    simp at hs
    exact ⟨((Below.refl _ _).alloc (Nat.le_refl _) _).trans (hu.mono (by omega)), (row_made w _ _ _ _ rfl rfl).later hu (by omega), hs⟩
  have HRS : Hid (∀ u : World, Calls Tryd.prog 11 #[.agg #[.int .i64 a, .int .i64 b, .int .i64 c, .int .i64 d]] u fun e w' => e = .returned (.int .i64 (srcE a b c d)) ∧ Below u.heap.size u w') := fun u => RSource_any a b c d u
  have HCh : Hid (∀ u : World, Calls Tryd.prog 12 #[.agg #[.int .i64 a, .int .i64 b, .int .i64 c, .int .i64 d]] u fun e w' => e = .returned (errV (srcE a b c d)) ∧ Below u.heap.size u w') := fun u => hC a b c d u
  have HRe : Hid (srcE a b c d = 0 → ∀ u : World, Calls Tryd.prog 13 #[.agg #[.int .i64 a, .int .i64 b, .int .i64 c, .int .i64 d]] u fun e w' => e = .returned (.tuple #[.agg #[.int .i64 a, .int .i64 (b + goN a b c), .int .i64 (c - goN a b c), .int .i64 d], .int .i64 (goN a b c)]) ∧ Below u.heap.size u w') := fun h0 u => RSendS_any a b c d u h0
  have HRa : Hid (srcE a b c d = 0 → ∀ u : World, Calls Tryd.prog 15 #[.agg #[.int .i64 a, .int .i64 b, .int .i64 c, .int .i64 d], .bool f] u fun e w' => e = .returned (.agg #[.int .i64 (ackW a f), .int .i64 (b - 1), .int .i64 c, .int .i64 (d + 1)]) ∧ Below u.heap.size u w') := fun h0 u => RAckS_any a b c d f u h0
  have HRl : Hid (srcE a b c d = 0 → ∀ u : World, Calls Tryd.prog 17 #[.agg #[.int .i64 a, .int .i64 b, .int .i64 c, .int .i64 d]] u fun e w' => e = .returned (.agg #[.int .i64 (lostW a), .int .i64 (b - 1), .int .i64 (c + 1), .int .i64 d]) ∧ Below u.heap.size u w') := fun h0 u => RLostS_any a b c d u h0
  have HSe : Hid (∀ u : World, Calls Tryd.prog 14 #[.agg #[.int .i64 a, .int .i64 b, .int .i64 c, .int .i64 d]] u fun e w' => e = .returned (.tuple #[.agg #[.int .i64 (okN (srcE a b c d) a), .int .i64 (okN (srcE a b c d) (b + goN a b c)), .int .i64 (okN (srcE a b c d) (c - goN a b c)), .int .i64 (okN (srcE a b c d) d)], .int .i64 (okN (srcE a b c d) (goN a b c)), errV (srcE a b c d)]) ∧ Below u.heap.size u w') := fun u => hS a b c d u
  have HAc : Hid (∀ u : World, Calls Tryd.prog 16 #[.agg #[.int .i64 a, .int .i64 b, .int .i64 c, .int .i64 d], .bool f] u fun e w' => e = .returned (.tuple #[.agg #[.int .i64 (okN (ackE a b c d) (ackW a f)), .int .i64 (okN (ackE a b c d) (b - 1)), .int .i64 (okN (ackE a b c d) c), .int .i64 (okN (ackE a b c d) (d + 1))], errV (ackE a b c d)]) ∧ Below u.heap.size u w') := fun u => hA a b c d f u
  have HLo : Hid (∀ u : World, Calls Tryd.prog 18 #[.agg #[.int .i64 a, .int .i64 b, .int .i64 c, .int .i64 d]] u fun e w' => e = .returned (.tuple #[.agg #[.int .i64 (okN (losE a b c d) (lostW a)), .int .i64 (okN (losE a b c d) (b - 1)), .int .i64 (okN (losE a b c d) (c + 1)), .int .i64 (okN (losE a b c d) d)], errV (losE a b c d)]) ∧ Below u.heap.size u w') := fun u => hL a b c d u
  have HEr : Hid (∀ (k : Int) (u : World), Below w.heap.size w u → Calls Tryd.prog 8 #[errV k, .int .i64 k] u fun e w' => e = .returned (.bool true) ∧ Below u.heap.size u w') := fun k u hu => by
    have := Error_any k k u (cell_later hu hg)
    rw [beq_self_eq_true] at this
    exact this
  have HAE : Hid (ackE a b c d = if srcE a b c d = 0 then (if b = 0 then 8 else if d = 10000 then 4 else 0) else srcE a b c d) := rfl
  have HLE : Hid (losE a b c d = if srcE a b c d = 0 then (if b = 0 then 8 else if c = 10000 then 4 else 0) else srcE a b c d) := rfl
  have HOr := srcE_or a b c d
  generalize ackE a b c d = ae at *
  generalize losE a b c d = le at *
  generalize srcE a b c d = e0 at *
  generalize goN a b c = G at *
  generalize ackW a f = aw at *
  generalize lostW a = lw at *
  have HE1 : Hid (∀ u : World, Below w.heap.size w u → Calls Tryd.prog 8 #[errV e0, .int .i64 e0] u fun e w' => e = .returned (.bool true) ∧ Below u.heap.size u w') := HEr.out e0
  have HE2 : Hid (∀ u : World, Below w.heap.size w u → Calls Tryd.prog 8 #[errV ae, .int .i64 ae] u fun e w' => e = .returned (.bool true) ∧ Below u.heap.size u w') := HEr.out ae
  have HE3 : Hid (∀ u : World, Below w.heap.size w u → Calls Tryd.prog 8 #[errV le, .int .i64 le] u fun e w' => e = .returned (.bool true) ∧ Below u.heap.size u w') := HEr.out le
  clear hC hS hA hL hg HEr
  obtain ⟨W0, HW0⟩ : ∃ W0, Hid (w.alloc (.cells #[.int .i64 a, .int .i64 b, .int .i64 c, .int .i64 d] 35) = W0) := ⟨_, rfl⟩
  rw [HW0.out] at HKp
  have K0 : Hid (Below (w.heap.size + 1) W0 W0) := Below.refl _ _
  go_enter Tryd.func4, Tryd.ntmps4
  go_upto_region 1 with fail
  rw [HW0.out]
  obtain ⟨B0, R0, S0⟩ := HKp.out _ K0.out
  obtain ⟨d0, d1, d2, d3, z0, z1, z2, z3, hgz⟩ := R0.four
  go_wp2_with fail
  refine (HRS.out _).mono ?_
  rintro e w1 ⟨rfl, hw1⟩
  have K1 : Hid (Below (w.heap.size + 1) W0 w1) := Bel.call K0.out S0 hw1
  clear hw1 d0 d1 d2 d3 z0 z1 z2 z3 hgz R0 B0
  obtain ⟨B1, R1, S1⟩ := HKp.out _ K1.out
  obtain ⟨d0, d1, d2, d3, z0, z1, z2, z3, hgz⟩ := R1.four
  go_wp2_with fail
  refine (HCh.out _).mono ?_
  rintro e w2 ⟨rfl, hw2⟩
  have K2 : Hid (Below (w.heap.size + 1) W0 w2) := Bel.call K1.out S0 hw2
  clear hw2 d0 d1 d2 d3 z0 z1 z2 z3 hgz R1 B1
  obtain ⟨B2, R2, S2⟩ := HKp.out _ K2.out
  go_wp2_with fail
  refine (HE1.out _ B2).mono ?_
  rintro e w3 ⟨rfl, hw3⟩
  have K3 : Hid (Below (w.heap.size + 1) W0 w3) := Bel.call K2.out S0 hw3
  clear hw3 R2 B2
  obtain ⟨B3, R3, S3⟩ := HKp.out _ K3.out
  obtain ⟨d0, d1, d2, d3, z0, z1, z2, z3, hgz⟩ := R3.four
  have HZ7 : Hid (RowAt (w3.alloc (.cells #[.int .i64 0, .int .i64 0, .int .i64 0, .int .i64 0] 35)) w3.heap.size 35 [.int .i64 0, .int .i64 0, .int .i64 0, .int .i64 0]) := row_made w3 _ _ _ _ rfl rfl
  have K3' : Hid (Below (w.heap.size + 1) W0 (w3.alloc (.cells #[.int .i64 0, .int .i64 0, .int .i64 0, .int .i64 0] 35))) := K3.out.alloc S3 _
  go_upto_if 23 with fail
  go_cut [8] (fun s8 wc => s8 = .int .i64 (okN e0 G) ∧ Hid (RowAt wc w3.heap.size 35 [.int .i64 (okN e0 a), .int .i64 (okN e0 (b + G)), .int .i64 (okN e0 (c - G)), .int .i64 (okN e0 d)]) ∧ Hid (Below (w.heap.size + 1) W0 wc))
  case first =>
    as_aux_lemma =>
      rcases HOr with rfl | rfl
      · have HR' : Hid (∀ u : World, Calls Tryd.prog 13 #[.agg #[.int .i64 a, .int .i64 b, .int .i64 c, .int .i64 d]] u fun e w' => e = .returned (.tuple #[.agg #[.int .i64 a, .int .i64 (b + G), .int .i64 (c - G), .int .i64 d], .int .i64 G]) ∧ Below u.heap.size u w') := HRe.out rfl
        go_wp2_with fail
        refine (HR'.out _).mono ?_
        rintro e w4 ⟨rfl, hw4⟩
        have R7 : Hid (RowAt w4 w3.heap.size 35 [.int .i64 0, .int .i64 0, .int .i64 0, .int .i64 0]) := HZ7.out.later hw4 (by simp)
        have K4 : Hid (Below (w.heap.size + 1) W0 w4) := Bel.call K3'.out S0 hw4
        have R7' : Hid (RowAt ((((w4.setCell ⟨w3.heap.size, 0, none⟩ (.int .i64 a)).setCell ⟨w3.heap.size, 1, none⟩ (.int .i64 (b + G))).setCell ⟨w3.heap.size, 2, none⟩ (.int .i64 (c - G))).setCell ⟨w3.heap.size, 3, none⟩ (.int .i64 d)) w3.heap.size 35 [.int .i64 a, .int .i64 (b + G), .int .i64 (c - G), .int .i64 d]) := R7.out.put4 _ _ _ _
        have K4' : Hid (Below (w.heap.size + 1) W0 ((((w4.setCell ⟨w3.heap.size, 0, none⟩ (.int .i64 a)).setCell ⟨w3.heap.size, 1, none⟩ (.int .i64 (b + G))).setCell ⟨w3.heap.size, 2, none⟩ (.int .i64 (c - G))).setCell ⟨w3.heap.size, 3, none⟩ (.int .i64 d))) := (((K4.out.setCell S3 _).setCell S3 _).setCell S3 _).setCell S3 _
        clear hw4 d0 d1 d2 d3 z0 z1 z2 z3 hgz
        obtain ⟨d0, d1, d2, d3, z0, z1, z2, z3, hgz⟩ := R7.out.four
        go_wp2
        go_meet
        case rel => exact ⟨by rw [okS_0], by rw [okS_0, okS_0, okS_0, okS_0]; exact R7', K4'⟩
      · go_wp2
        go_meet
        case rel => exact ⟨rfl, HZ7, K3'⟩
  case rest =>
    as_aux_lemma =>
      obtain ⟨w5, rfl⟩ : ∃ x : World, x = wc := ⟨_, rfl⟩
      obtain ⟨rfl, R7, K5⟩ := hcut
      obtain ⟨g7, hg7⟩ : ∃ g, g = w3.heap.size := ⟨_, rfl⟩
      have S7 : w.heap.size + 1 ≤ g7 := by omega
      rw [← hg7] at R7
      rw [← hg7]
      clear hg7 HZ7 K3' K3 K2 K1 K0 R3 B3 d0 d1 d2 d3 z0 z1 z2 z3 hgz HRe HRS HCh
      obtain ⟨B5, R5, S5⟩ := HKp.out _ K5.out
      obtain ⟨d0, d1, d2, d3, z0, z1, z2, z3, hgz⟩ := R5.four
      obtain ⟨p1, hp1⟩ : ∃ p, Hid (okN e0 a = p) := ⟨_, rfl⟩
      obtain ⟨p2, hp2⟩ : ∃ p, Hid (okN e0 (b + G) = p) := ⟨_, rfl⟩
      obtain ⟨p3, hp3⟩ : ∃ p, Hid (okN e0 (c - G) = p) := ⟨_, rfl⟩
      obtain ⟨p4, hp4⟩ : ∃ p, Hid (okN e0 d = p) := ⟨_, rfl⟩
      obtain ⟨p5, hp5⟩ : ∃ p, Hid (okN e0 G = p) := ⟨_, rfl⟩
      rw [hp1.out, hp2.out, hp3.out, hp4.out] at R7
      rw [hp1.out, hp2.out, hp3.out, hp4.out, hp5.out] at HSe
      rw [hp5.out]
      clear hp1 hp2 hp3 hp4 hp5
      go_wp2_with fail
      refine (HSe.out _).mono ?_
      rintro e w6 ⟨rfl, hw6⟩
      have K6 : Hid (Below (w.heap.size + 1) W0 w6) := Bel.call K5.out S0 hw6
      have S6 : w.heap.size + 1 ≤ w6.heap.size := by have := hw6.size; omega
      have Z7 : g7 < w6.heap.size := Nat.lt_of_lt_of_le R7.out.lt hw6.size
      have R7b : Hid (RowAt (w6.alloc (.cells #[.int .i64 p1, .int .i64 p2, .int .i64 p3, .int .i64 p4] 35)) g7 35 [.int .i64 p1, .int .i64 p2, .int .i64 p3, .int .i64 p4]) := (R7.out.later hw6 R7.out.lt).alloc _
      have R9 : Hid (RowAt (w6.alloc (.cells #[.int .i64 p1, .int .i64 p2, .int .i64 p3, .int .i64 p4] 35)) w6.heap.size 35 [.int .i64 p1, .int .i64 p2, .int .i64 p3, .int .i64 p4]) := row_made w6 _ _ _ _ rfl rfl
      have K6' : Hid (Below (w.heap.size + 1) W0 (w6.alloc (.cells #[.int .i64 p1, .int .i64 p2, .int .i64 p3, .int .i64 p4] 35))) := K6.out.alloc S6 _
      have B6' : Hid (Below w.heap.size w (w6.alloc (.cells #[.int .i64 p1, .int .i64 p2, .int .i64 p3, .int .i64 p4] 35))) := (HKp.out _ K6'.out).1
      clear hw6 d0 d1 d2 d3 z0 z1 z2 z3 hgz R5 B5
      go_wp2_with fail
      refine (HE1.out _ B6'.out).mono ?_
      rintro e w7 ⟨rfl, hw7⟩
      have K7 : Hid (Below (w.heap.size + 1) W0 w7) := Bel.call K6'.out S0 hw7
      have R7c : Hid (RowAt w7 g7 35 [.int .i64 p1, .int .i64 p2, .int .i64 p3, .int .i64 p4]) := R7b.out.later hw7 R7b.out.lt
      have R9c : Hid (RowAt w7 w6.heap.size 35 [.int .i64 p1, .int .i64 p2, .int .i64 p3, .int .i64 p4]) := R9.out.later hw7 R9.out.lt
      clear hw7
      obtain ⟨g9, hg9⟩ : ∃ g, Hid (w6.heap.size = g) := ⟨_, rfl⟩
      have N7 : ¬ g7 = g9 := by have := hg9.out; omega
      have N9 : ¬ g9 = g7 := fun e => N7 e.symm
      have S9 : w.heap.size + 1 ≤ g9 := by have := hg9.out; omega
      rw [hg9.out] at R9c
      rw [hg9.out]
      clear hg9 Z7 S6 R7 R7b R9 K6 K6' B6' K5 S5 HSe
      obtain ⟨d0, d1, d2, d3, z0, z1, z2, z3, hgz⟩ := R7c.out.four
      obtain ⟨f0, f1, f2, f3, y0, y1, y2, y3, hgy⟩ := R9c.out.four
      have q5 : (p5 == p5) = true := by simp
      go_upto_region 9 with fail
      clear d0 d1 d2 d3 z0 z1 z2 z3 hgz f0 f1 f2 f3 y0 y1 y2 y3 hgy q5
      obtain ⟨o1, ho1⟩ : ∃ o, Hid ((decide (e0 = 0) && decide (b = 0)) = o) := ⟨_, rfl⟩
      obtain ⟨e1, he1⟩ : ∃ e, Hid ((if e0 = 0 then (if b = 0 then 8 else 0) else e0) = e) := ⟨_, rfl⟩
      obtain ⟨B7, R7p, S7p⟩ := HKp.out _ K7.out
      obtain ⟨d0, d1, d2, d3, z0, z1, z2, z3, hgz⟩ := R7p.four
      go_cut [54] (fun s54 wc => s54 = .bool o1 ∧ Hid (wc = w7))
      case first =>
        as_aux_lemma =>
          rcases HOr with rfl | rfl
          · by_cases hb : b = 0
            · obtain rfl : o1 = true := by rw [← ho1.out]; simp [hb]
              have q : (b == 0) = true := by simp [hb]
              clear ho1 he1 hb
              go_wp2
              go_meet
              case rel => exact ⟨rfl, rfl⟩
            · obtain rfl : o1 = false := by rw [← ho1.out]; simp [hb]
              have q : (b == 0) = false := beq_eq_false_iff_ne.2 hb
              clear ho1 he1
              go_wp2
              go_meet
              case rel => exact ⟨rfl, rfl⟩
          · obtain rfl : o1 = false := by rw [← ho1.out]; rfl
            clear ho1 he1
            go_wp2
            go_meet
            case rel => exact ⟨rfl, rfl⟩
      case rest =>
        as_aux_lemma =>
          obtain ⟨rfl, hw0⟩ := hcut
          rw [hw0.out]
          clear hw0
          go_upto_if 54 with fail
          go_cut [5] (fun s5 wc => s5 = .int .i64 e1 ∧ Hid (wc = w7))
          case first =>
            as_aux_lemma =>
              rcases HOr with rfl | rfl
              · by_cases hb : b = 0
                · obtain rfl : o1 = true := by rw [← ho1.out]; simp [hb]
                  obtain rfl : e1 = 8 := by rw [← he1.out, if_pos rfl, if_pos hb]
                  clear ho1 he1 hb
                  go_wp2
                  go_meet
                  case rel => exact ⟨rfl, rfl⟩
                · obtain rfl : o1 = false := by rw [← ho1.out]; simp [hb]
                  obtain rfl : e1 = 0 := by rw [← he1.out, if_pos rfl, if_neg hb]
                  clear ho1 he1
                  go_wp2
                  go_meet
                  case rel => exact ⟨rfl, rfl⟩
              · obtain rfl : o1 = false := by rw [← ho1.out]; rfl
                obtain rfl : e1 = 1 := by rw [← he1.out, if_neg (by decide)]
                clear ho1 he1
                go_wp2
                go_meet
                case rel => exact ⟨rfl, rfl⟩
          case rest =>
            as_aux_lemma =>
              obtain ⟨rfl, hw0⟩ := hcut
              rw [hw0.out]
              clear hw0 ho1 d0 d1 d2 d3 z0 z1 z2 z3 hgz R7p B7 S7p
              have HK : Hid ((e1 = 0 ∧ e0 = 0 ∧ b ≠ 0) ∨ (e1 ≠ 0 ∧ ae = e1 ∧ le = e1)) := by
                show _ ∨ _
                rcases HOr with rfl | rfl
                · by_cases hb : b = 0
                  · right
                    rw [if_pos rfl, if_pos hb] at he1
                    exact ⟨by rw [← he1.out]; decide, by rw [HAE.out, if_pos rfl, if_pos hb]; exact he1.out, by rw [HLE.out, if_pos rfl, if_pos hb]; exact he1.out⟩
                  · left
                    exact ⟨by rw [← he1.out, if_pos rfl, if_neg hb], rfl, hb⟩
                · right
                  rw [if_neg (by decide)] at he1
                  exact ⟨by rw [← he1.out]; decide, by rw [HAE.out, if_neg (by decide)]; exact he1.out, by rw [HLE.out, if_neg (by decide)]; exact he1.out⟩
              clear he1
              obtain ⟨d0, d1, d2, d3, z0, z1, z2, z3, hgz⟩ := R7c.out.four
              have R7d : Hid (RowAt ((((w7.setCell ⟨g7, 0, none⟩ (.int .i64 0)).setCell ⟨g7, 1, none⟩ (.int .i64 0)).setCell ⟨g7, 2, none⟩ (.int .i64 0)).setCell ⟨g7, 3, none⟩ (.int .i64 0)) g7 35 [.int .i64 0, .int .i64 0, .int .i64 0, .int .i64 0]) := R7c.out.put4 _ _ _ _
              have R9d : Hid (RowAt ((((w7.setCell ⟨g7, 0, none⟩ (.int .i64 0)).setCell ⟨g7, 1, none⟩ (.int .i64 0)).setCell ⟨g7, 2, none⟩ (.int .i64 0)).setCell ⟨g7, 3, none⟩ (.int .i64 0)) g9 35 [.int .i64 p1, .int .i64 p2, .int .i64 p3, .int .i64 p4]) := (((R9c.out.other (a := ⟨g7, 0, none⟩) N7 _).other (a := ⟨g7, 1, none⟩) N7 _).other (a := ⟨g7, 2, none⟩) N7 _).other (a := ⟨g7, 3, none⟩) N7 _
              have K8 : Hid (Below (w.heap.size + 1) W0 ((((w7.setCell ⟨g7, 0, none⟩ (.int .i64 0)).setCell ⟨g7, 1, none⟩ (.int .i64 0)).setCell ⟨g7, 2, none⟩ (.int .i64 0)).setCell ⟨g7, 3, none⟩ (.int .i64 0))) := (((K7.out.setCell S7 _).setCell S7 _).setCell S7 _).setCell S7 _
              go_upto_region 13 with fail
              clear d0 d1 d2 d3 z0 z1 z2 z3 hgz R7c R9c K7
              generalize ((((w7.setCell ⟨g7, 0, none⟩ (.int .i64 0)).setCell ⟨g7, 1, none⟩ (.int .i64 0)).setCell ⟨g7, 2, none⟩ (.int .i64 0)).setCell ⟨g7, 3, none⟩ (.int .i64 0)) = w8 at *
              have R9x8 := R9d
              clear R9d
              obtain ⟨o8, ho8⟩ : ∃ o, Hid ((decide (e1 = 0) && decide (d = 10000)) = o) := ⟨_, rfl⟩
              obtain ⟨Bq, Rq, Sq⟩ := HKp.out _ K8.out
              obtain ⟨d0, d1, d2, d3, z0, z1, z2, z3, hgz⟩ := Rq.four
              go_cut [63] (fun sc wc => sc = .bool o8 ∧ Hid (wc = w8))
              case first =>
                as_aux_lemma =>
                  by_cases h1 : e1 = 0
                  · subst h1
                    by_cases hd : d = 10000
                    · obtain rfl : o8 = true := by rw [← ho8.out]; simp [hd]
                      have q : (d == 10000) = true := by simp [hd]
                      clear ho8 hd HK
                      go_wp2
                      go_meet
                      case rel => exact ⟨rfl, rfl⟩
                    · obtain rfl : o8 = false := by rw [← ho8.out]; simp [hd]
                      have q : (d == 10000) = false := beq_eq_false_iff_ne.2 hd
                      clear ho8 hd HK
                      go_wp2
                      go_meet
                      case rel => exact ⟨rfl, rfl⟩
                  · obtain rfl : o8 = false := by rw [← ho8.out]; simp [h1]
                    have q : (e1 == 0) = false := beq_eq_false_iff_ne.2 h1
                    clear ho8 HK
                    go_wp2
                    go_meet
                    case rel => exact ⟨rfl, rfl⟩
              case rest =>
                as_aux_lemma =>
                  obtain ⟨rfl, hw0⟩ := hcut
                  rw [hw0.out]
                  clear hw0
                  go_upto_if 63 with fail
                  go_cut [13] (fun sE wc => sE = .int .i64 ae ∧ Hid (RowAt wc g7 35 [.int .i64 (okN ae aw), .int .i64 (okN ae (b - 1)), .int .i64 (okN ae c), .int .i64 (okN ae (d + 1))]) ∧ Hid (RowAt wc g9 35 [.int .i64 p1, .int .i64 p2, .int .i64 p3, .int .i64 p4]) ∧ Hid (Below (w.heap.size + 1) W0 wc))
                  case first =>
                    as_aux_lemma =>
                      rcases HK.out with ⟨h1, h2, hb⟩ | ⟨h1, h2, h3⟩
                      · subst h1
                        by_cases hd : d = 10000
                        · obtain rfl : o8 = true := by rw [← ho8.out]; simp [hd]
                          obtain rfl : ae = 4 := by rw [HAE.out, if_pos h2, if_neg hb, if_pos hd]
                          clear ho8 hd HK h2 hb
                          go_wp2
                          go_meet
                          case rel => exact ⟨rfl, R7d, R9x8, K8⟩
                        · obtain rfl : o8 = false := by rw [← ho8.out]; simp [hd]
                          obtain rfl : ae = 0 := by rw [HAE.out, if_pos h2, if_neg hb, if_neg hd]
                          have HR' : Hid (∀ u : World, Calls Tryd.prog 15 #[.agg #[.int .i64 a, .int .i64 b, .int .i64 c, .int .i64 d], .bool f] u fun e w' => e = .returned (.agg #[.int .i64 aw, .int .i64 (b - 1), .int .i64 c, .int .i64 (d + 1)]) ∧ Below u.heap.size u w') := HRa.out h2
                          clear ho8 hd HK h2 hb
                          go_wp2_with fail
                          refine (HR'.out _).mono ?_
                          rintro e wq ⟨rfl, hwq⟩
                          have Q7 : Hid (RowAt wq g7 35 [.int .i64 0, .int .i64 0, .int .i64 0, .int .i64 0]) := R7d.out.later hwq R7d.out.lt
                          have Q9 : Hid (RowAt wq g9 35 [.int .i64 p1, .int .i64 p2, .int .i64 p3, .int .i64 p4]) := R9x8.out.later hwq R9x8.out.lt
                          have QK : Hid (Below (w.heap.size + 1) W0 wq) := Bel.call K8.out S0 hwq
                          have Q7' : Hid (RowAt ((((wq.setCell ⟨g7, 0, none⟩ (.int .i64 aw)).setCell ⟨g7, 1, none⟩ (.int .i64 (b - 1))).setCell ⟨g7, 2, none⟩ (.int .i64 c)).setCell ⟨g7, 3, none⟩ (.int .i64 (d + 1))) g7 35 [.int .i64 aw, .int .i64 (b - 1), .int .i64 c, .int .i64 (d + 1)]) := Q7.out.put4 _ _ _ _
                          have Q9' : Hid (RowAt ((((wq.setCell ⟨g7, 0, none⟩ (.int .i64 aw)).setCell ⟨g7, 1, none⟩ (.int .i64 (b - 1))).setCell ⟨g7, 2, none⟩ (.int .i64 c)).setCell ⟨g7, 3, none⟩ (.int .i64 (d + 1))) g9 35 [.int .i64 p1, .int .i64 p2, .int .i64 p3, .int .i64 p4]) := (((Q9.out.other (a := ⟨g7, 0, none⟩) N7 _).other (a := ⟨g7, 1, none⟩) N7 _).other (a := ⟨g7, 2, none⟩) N7 _).other (a := ⟨g7, 3, none⟩) N7 _
                          have QK' : Hid (Below (w.heap.size + 1) W0 ((((wq.setCell ⟨g7, 0, none⟩ (.int .i64 aw)).setCell ⟨g7, 1, none⟩ (.int .i64 (b - 1))).setCell ⟨g7, 2, none⟩ (.int .i64 c)).setCell ⟨g7, 3, none⟩ (.int .i64 (d + 1)))) := (((QK.out.setCell S7 _).setCell S7 _).setCell S7 _).setCell S7 _
                          clear hwq d0 d1 d2 d3 z0 z1 z2 z3 hgz
                          obtain ⟨d0, d1, d2, d3, z0, z1, z2, z3, hgz⟩ := Q7.out.four
                          go_wp2
                          go_meet
                          case rel => exact ⟨rfl, by rw [okS_0, okS_0, okS_0, okS_0]; exact Q7', Q9', QK'⟩
                      · obtain rfl : o8 = false := by rw [← ho8.out]; simp [h1]
                        have hne : ae ≠ 0 := by rw [h2]; exact h1
                        have q : (e1 == 0) = false := beq_eq_false_iff_ne.2 h1
                        have HV : Hid (ae = e1) := h2
                        clear ho8 HK h2 h3
                        go_wp2
                        go_meet
                        case rel => exact ⟨by rw [HV.out], by rw [okS_ne hne, okS_ne hne, okS_ne hne, okS_ne hne]; exact R7d, R9x8, K8⟩
                  case rest =>
                    as_aux_lemma =>
                      clear d0 d1 d2 d3 z0 z1 z2 z3 hgz R7d R9x8 K8 Bq Rq Sq ho8 HAE HRa
                      obtain ⟨w9, rfl⟩ : ∃ x : World, x = wc := ⟨_, rfl⟩
                      obtain ⟨rfl, T7, T9, TK⟩ := hcut
                      obtain ⟨Bt, Rt, St⟩ := HKp.out _ TK.out
                      obtain ⟨d0, d1, d2, d3, z0, z1, z2, z3, hgz⟩ := Rt.four
                      go_wp2_with fail
                      refine (HAc.out _).mono ?_
                      rintro e w10 ⟨rfl, hwa⟩
                      have U7 : Hid (RowAt w10 g7 35 [.int .i64 (okN ae aw), .int .i64 (okN ae (b - 1)), .int .i64 (okN ae c), .int .i64 (okN ae (d + 1))]) := T7.out.later hwa T7.out.lt
                      have U9 : Hid (RowAt w10 g9 35 [.int .i64 p1, .int .i64 p2, .int .i64 p3, .int .i64 p4]) := T9.out.later hwa T9.out.lt
                      have UK : Hid (Below (w.heap.size + 1) W0 w10) := Bel.call TK.out S0 hwa
                      clear hwa d0 d1 d2 d3 z0 z1 z2 z3 hgz T7 T9 TK Bt Rt St
                      have V9 : Hid (RowAt ((((w10.setCell ⟨g9, 0, none⟩ (.int .i64 (okN ae aw))).setCell ⟨g9, 1, none⟩ (.int .i64 (okN ae (b - 1)))).setCell ⟨g9, 2, none⟩ (.int .i64 (okN ae c))).setCell ⟨g9, 3, none⟩ (.int .i64 (okN ae (d + 1)))) g9 35 [.int .i64 (okN ae aw), .int .i64 (okN ae (b - 1)), .int .i64 (okN ae c), .int .i64 (okN ae (d + 1))]) := U9.out.put4 _ _ _ _
                      have V7 : Hid (RowAt ((((w10.setCell ⟨g9, 0, none⟩ (.int .i64 (okN ae aw))).setCell ⟨g9, 1, none⟩ (.int .i64 (okN ae (b - 1)))).setCell ⟨g9, 2, none⟩ (.int .i64 (okN ae c))).setCell ⟨g9, 3, none⟩ (.int .i64 (okN ae (d + 1)))) g7 35 [.int .i64 (okN ae aw), .int .i64 (okN ae (b - 1)), .int .i64 (okN ae c), .int .i64 (okN ae (d + 1))]) := (((U7.out.other (a := ⟨g9, 0, none⟩) N9 _).other (a := ⟨g9, 1, none⟩) N9 _).other (a := ⟨g9, 2, none⟩) N9 _).other (a := ⟨g9, 3, none⟩) N9 _
                      have VK : Hid (Below (w.heap.size + 1) W0 ((((w10.setCell ⟨g9, 0, none⟩ (.int .i64 (okN ae aw))).setCell ⟨g9, 1, none⟩ (.int .i64 (okN ae (b - 1)))).setCell ⟨g9, 2, none⟩ (.int .i64 (okN ae c))).setCell ⟨g9, 3, none⟩ (.int .i64 (okN ae (d + 1))))) := (((UK.out.setCell S9 _).setCell S9 _).setCell S9 _).setCell S9 _
                      have VB : Hid (Below w.heap.size w ((((w10.setCell ⟨g9, 0, none⟩ (.int .i64 (okN ae aw))).setCell ⟨g9, 1, none⟩ (.int .i64 (okN ae (b - 1)))).setCell ⟨g9, 2, none⟩ (.int .i64 (okN ae c))).setCell ⟨g9, 3, none⟩ (.int .i64 (okN ae (d + 1))))) := (HKp.out _ VK.out).1
                      obtain ⟨f0, f1, f2, f3, y0, y1, y2, y3, hgy⟩ := U9.out.four
                      go_wp2_with fail
                      refine (HE2.out _ VB.out).mono ?_
                      rintro e w11 ⟨rfl, hwb⟩
                      have X7 : Hid (RowAt w11 g7 35 [.int .i64 (okN ae aw), .int .i64 (okN ae (b - 1)), .int .i64 (okN ae c), .int .i64 (okN ae (d + 1))]) := V7.out.later hwb V7.out.lt
                      have X9 : Hid (RowAt w11 g9 35 [.int .i64 (okN ae aw), .int .i64 (okN ae (b - 1)), .int .i64 (okN ae c), .int .i64 (okN ae (d + 1))]) := V9.out.later hwb V9.out.lt
                      have XK : Hid (Below (w.heap.size + 1) W0 w11) := Bel.call VK.out S0 hwb
                      have XB : Hid (Below w.heap.size w w11) := (HKp.out _ XK.out).1
                      clear hwb f0 f1 f2 f3 y0 y1 y2 y3 hgy U7 U9 UK V7 V9 VK VB
                      obtain ⟨d0, d1, d2, d3, z0, z1, z2, z3, hgz⟩ := X7.out.four
                      obtain ⟨f0, f1, f2, f3, y0, y1, y2, y3, hgy⟩ := X9.out.four
                      have R7y0 : Hid (RowAt ((((w11.setCell ⟨g7, 0, none⟩ (.int .i64 0)).setCell ⟨g7, 1, none⟩ (.int .i64 0)).setCell ⟨g7, 2, none⟩ (.int .i64 0)).setCell ⟨g7, 3, none⟩ (.int .i64 0)) g7 35 [.int .i64 0, .int .i64 0, .int .i64 0, .int .i64 0]) := X7.out.put4 _ _ _ _
                      have R9x12 : Hid (RowAt ((((w11.setCell ⟨g7, 0, none⟩ (.int .i64 0)).setCell ⟨g7, 1, none⟩ (.int .i64 0)).setCell ⟨g7, 2, none⟩ (.int .i64 0)).setCell ⟨g7, 3, none⟩ (.int .i64 0)) g9 35 [.int .i64 (okN ae aw), .int .i64 (okN ae (b - 1)), .int .i64 (okN ae c), .int .i64 (okN ae (d + 1))]) := (((X9.out.other (a := ⟨g7, 0, none⟩) N7 _).other (a := ⟨g7, 1, none⟩) N7 _).other (a := ⟨g7, 2, none⟩) N7 _).other (a := ⟨g7, 3, none⟩) N7 _
                      have KY : Hid (Below (w.heap.size + 1) W0 ((((w11.setCell ⟨g7, 0, none⟩ (.int .i64 0)).setCell ⟨g7, 1, none⟩ (.int .i64 0)).setCell ⟨g7, 2, none⟩ (.int .i64 0)).setCell ⟨g7, 3, none⟩ (.int .i64 0))) := (((XK.out.setCell S7 _).setCell S7 _).setCell S7 _).setCell S7 _
                      go_upto_region 20 with fail
                      clear d0 d1 d2 d3 z0 z1 z2 z3 hgz f0 f1 f2 f3 y0 y1 y2 y3 hgy X7 X9 XK XB
                      have R7y := R7y0
                      clear R7y0
                      generalize ((((w11.setCell ⟨g7, 0, none⟩ (.int .i64 0)).setCell ⟨g7, 1, none⟩ (.int .i64 0)).setCell ⟨g7, 2, none⟩ (.int .i64 0)).setCell ⟨g7, 3, none⟩ (.int .i64 0)) = w12 at *
                      obtain ⟨o12, ho12⟩ : ∃ o, Hid ((decide (e1 = 0) && decide (c = 10000)) = o) := ⟨_, rfl⟩
                      obtain ⟨Bq, Rq, Sq⟩ := HKp.out _ KY.out
                      obtain ⟨d0, d1, d2, d3, z0, z1, z2, z3, hgz⟩ := Rq.four
                      go_cut [90] (fun sc wc => sc = .bool o12 ∧ Hid (wc = w12))
                      case first =>
                        as_aux_lemma =>
                          by_cases h1 : e1 = 0
                          · subst h1
                            by_cases hd : c = 10000
                            · obtain rfl : o12 = true := by rw [← ho12.out]; simp [hd]
                              have q : (c == 10000) = true := by simp [hd]
                              clear ho12 hd HK
                              go_wp2
                              go_meet
                              case rel => exact ⟨rfl, rfl⟩
                            · obtain rfl : o12 = false := by rw [← ho12.out]; simp [hd]
                              have q : (c == 10000) = false := beq_eq_false_iff_ne.2 hd
                              clear ho12 hd HK
                              go_wp2
                              go_meet
                              case rel => exact ⟨rfl, rfl⟩
                          · obtain rfl : o12 = false := by rw [← ho12.out]; simp [h1]
                            have q : (e1 == 0) = false := beq_eq_false_iff_ne.2 h1
                            clear ho12 HK
                            go_wp2
                            go_meet
                            case rel => exact ⟨rfl, rfl⟩
                      case rest =>
                        as_aux_lemma =>
                          obtain ⟨rfl, hw0⟩ := hcut
                          rw [hw0.out]
                          clear hw0
                          go_upto_if 90 with fail
                          go_cut [5] (fun sE wc => sE = .int .i64 le ∧ Hid (RowAt wc g7 35 [.int .i64 (okN le lw), .int .i64 (okN le (b - 1)), .int .i64 (okN le (c + 1)), .int .i64 (okN le d)]) ∧ Hid (RowAt wc g9 35 [.int .i64 (okN ae aw), .int .i64 (okN ae (b - 1)), .int .i64 (okN ae c), .int .i64 (okN ae (d + 1))]) ∧ Hid (Below (w.heap.size + 1) W0 wc))
                          case first =>
                            as_aux_lemma =>
                              rcases HK.out with ⟨h1, h2, hb⟩ | ⟨h1, h2, h3⟩
                              · subst h1
                                by_cases hd : c = 10000
                                · obtain rfl : o12 = true := by rw [← ho12.out]; simp [hd]
                                  obtain rfl : le = 4 := by rw [HLE.out, if_pos h2, if_neg hb, if_pos hd]
                                  clear ho12 hd HK h2 hb
                                  go_wp2
                                  go_meet
                                  case rel => exact ⟨rfl, R7y, R9x12, KY⟩
                                · obtain rfl : o12 = false := by rw [← ho12.out]; simp [hd]
                                  obtain rfl : le = 0 := by rw [HLE.out, if_pos h2, if_neg hb, if_neg hd]
                                  have HR' : Hid (∀ u : World, Calls Tryd.prog 17 #[.agg #[.int .i64 a, .int .i64 b, .int .i64 c, .int .i64 d]] u fun e w' => e = .returned (.agg #[.int .i64 lw, .int .i64 (b - 1), .int .i64 (c + 1), .int .i64 d]) ∧ Below u.heap.size u w') := HRl.out h2
                                  clear ho12 hd HK h2 hb
                                  go_wp2_with fail
                                  refine (HR'.out _).mono ?_
                                  rintro e wq ⟨rfl, hwq⟩
                                  have Q7 : Hid (RowAt wq g7 35 [.int .i64 0, .int .i64 0, .int .i64 0, .int .i64 0]) := R7y.out.later hwq R7y.out.lt
                                  have Q9 : Hid (RowAt wq g9 35 [.int .i64 (okN ae aw), .int .i64 (okN ae (b - 1)), .int .i64 (okN ae c), .int .i64 (okN ae (d + 1))]) := R9x12.out.later hwq R9x12.out.lt
                                  have QK : Hid (Below (w.heap.size + 1) W0 wq) := Bel.call KY.out S0 hwq
                                  have Q7' : Hid (RowAt ((((wq.setCell ⟨g7, 0, none⟩ (.int .i64 lw)).setCell ⟨g7, 1, none⟩ (.int .i64 (b - 1))).setCell ⟨g7, 2, none⟩ (.int .i64 (c + 1))).setCell ⟨g7, 3, none⟩ (.int .i64 d)) g7 35 [.int .i64 lw, .int .i64 (b - 1), .int .i64 (c + 1), .int .i64 d]) := Q7.out.put4 _ _ _ _
                                  have Q9' : Hid (RowAt ((((wq.setCell ⟨g7, 0, none⟩ (.int .i64 lw)).setCell ⟨g7, 1, none⟩ (.int .i64 (b - 1))).setCell ⟨g7, 2, none⟩ (.int .i64 (c + 1))).setCell ⟨g7, 3, none⟩ (.int .i64 d)) g9 35 [.int .i64 (okN ae aw), .int .i64 (okN ae (b - 1)), .int .i64 (okN ae c), .int .i64 (okN ae (d + 1))]) := (((Q9.out.other (a := ⟨g7, 0, none⟩) N7 _).other (a := ⟨g7, 1, none⟩) N7 _).other (a := ⟨g7, 2, none⟩) N7 _).other (a := ⟨g7, 3, none⟩) N7 _
                                  have QK' : Hid (Below (w.heap.size + 1) W0 ((((wq.setCell ⟨g7, 0, none⟩ (.int .i64 lw)).setCell ⟨g7, 1, none⟩ (.int .i64 (b - 1))).setCell ⟨g7, 2, none⟩ (.int .i64 (c + 1))).setCell ⟨g7, 3, none⟩ (.int .i64 d))) := (((QK.out.setCell S7 _).setCell S7 _).setCell S7 _).setCell S7 _
                                  clear hwq d0 d1 d2 d3 z0 z1 z2 z3 hgz
                                  obtain ⟨d0, d1, d2, d3, z0, z1, z2, z3, hgz⟩ := Q7.out.four
                                  go_wp2
                                  go_meet
                                  case rel => exact ⟨rfl, by rw [okS_0, okS_0, okS_0, okS_0]; exact Q7', Q9', QK'⟩
                              · obtain rfl : o12 = false := by rw [← ho12.out]; simp [h1]
                                have hne : le ≠ 0 := by rw [h3]; exact h1
                                have q : (e1 == 0) = false := beq_eq_false_iff_ne.2 h1
                                have HV : Hid (le = e1) := h3
                                clear ho12 HK h2 h3
                                go_wp2
                                go_meet
                                case rel => exact ⟨by rw [HV.out], by rw [okS_ne hne, okS_ne hne, okS_ne hne, okS_ne hne]; exact R7y, R9x12, KY⟩
                          case rest =>
                            as_aux_lemma =>
                              clear d0 d1 d2 d3 z0 z1 z2 z3 hgz R7y R9x12 KY Bq Rq Sq ho12 HLE HRl
                              obtain ⟨w13, rfl⟩ : ∃ x : World, x = wc := ⟨_, rfl⟩
                              obtain ⟨rfl, T7, T9, TK⟩ := hcut
                              obtain ⟨Bt, Rt, St⟩ := HKp.out _ TK.out
                              obtain ⟨d0, d1, d2, d3, z0, z1, z2, z3, hgz⟩ := Rt.four
                              go_wp2_with fail
                              refine (HLo.out _).mono ?_
                              rintro e w14 ⟨rfl, hwa⟩
                              have U7 : Hid (RowAt w14 g7 35 [.int .i64 (okN le lw), .int .i64 (okN le (b - 1)), .int .i64 (okN le (c + 1)), .int .i64 (okN le d)]) := T7.out.later hwa T7.out.lt
                              have U9 : Hid (RowAt w14 g9 35 [.int .i64 (okN ae aw), .int .i64 (okN ae (b - 1)), .int .i64 (okN ae c), .int .i64 (okN ae (d + 1))]) := T9.out.later hwa T9.out.lt
                              have UK : Hid (Below (w.heap.size + 1) W0 w14) := Bel.call TK.out S0 hwa
                              clear hwa d0 d1 d2 d3 z0 z1 z2 z3 hgz T7 T9 TK Bt Rt St
                              have V9 : Hid (RowAt ((((w14.setCell ⟨g9, 0, none⟩ (.int .i64 (okN le lw))).setCell ⟨g9, 1, none⟩ (.int .i64 (okN le (b - 1)))).setCell ⟨g9, 2, none⟩ (.int .i64 (okN le (c + 1)))).setCell ⟨g9, 3, none⟩ (.int .i64 (okN le d))) g9 35 [.int .i64 (okN le lw), .int .i64 (okN le (b - 1)), .int .i64 (okN le (c + 1)), .int .i64 (okN le d)]) := U9.out.put4 _ _ _ _
                              have V7 : Hid (RowAt ((((w14.setCell ⟨g9, 0, none⟩ (.int .i64 (okN le lw))).setCell ⟨g9, 1, none⟩ (.int .i64 (okN le (b - 1)))).setCell ⟨g9, 2, none⟩ (.int .i64 (okN le (c + 1)))).setCell ⟨g9, 3, none⟩ (.int .i64 (okN le d))) g7 35 [.int .i64 (okN le lw), .int .i64 (okN le (b - 1)), .int .i64 (okN le (c + 1)), .int .i64 (okN le d)]) := (((U7.out.other (a := ⟨g9, 0, none⟩) N9 _).other (a := ⟨g9, 1, none⟩) N9 _).other (a := ⟨g9, 2, none⟩) N9 _).other (a := ⟨g9, 3, none⟩) N9 _
                              have VK : Hid (Below (w.heap.size + 1) W0 ((((w14.setCell ⟨g9, 0, none⟩ (.int .i64 (okN le lw))).setCell ⟨g9, 1, none⟩ (.int .i64 (okN le (b - 1)))).setCell ⟨g9, 2, none⟩ (.int .i64 (okN le (c + 1)))).setCell ⟨g9, 3, none⟩ (.int .i64 (okN le d)))) := (((UK.out.setCell S9 _).setCell S9 _).setCell S9 _).setCell S9 _
                              have VB : Hid (Below w.heap.size w ((((w14.setCell ⟨g9, 0, none⟩ (.int .i64 (okN le lw))).setCell ⟨g9, 1, none⟩ (.int .i64 (okN le (b - 1)))).setCell ⟨g9, 2, none⟩ (.int .i64 (okN le (c + 1)))).setCell ⟨g9, 3, none⟩ (.int .i64 (okN le d)))) := (HKp.out _ VK.out).1
                              obtain ⟨f0, f1, f2, f3, y0, y1, y2, y3, hgy⟩ := U9.out.four
                              go_wp2_with fail
                              refine (HE3.out _ VB.out).mono ?_
                              rintro e w15 ⟨rfl, hwb⟩
                              have X7 : Hid (RowAt w15 g7 35 [.int .i64 (okN le lw), .int .i64 (okN le (b - 1)), .int .i64 (okN le (c + 1)), .int .i64 (okN le d)]) := V7.out.later hwb V7.out.lt
                              have X9 : Hid (RowAt w15 g9 35 [.int .i64 (okN le lw), .int .i64 (okN le (b - 1)), .int .i64 (okN le (c + 1)), .int .i64 (okN le d)]) := V9.out.later hwb V9.out.lt
                              have XK : Hid (Below (w.heap.size + 1) W0 w15) := Bel.call VK.out S0 hwb
                              have XB : Hid (Below w.heap.size w w15) := (HKp.out _ XK.out).1
                              clear hwb f0 f1 f2 f3 y0 y1 y2 y3 hgy U7 U9 UK V7 V9 VK VB
                              obtain ⟨d0, d1, d2, d3, z0, z1, z2, z3, hgz⟩ := X7.out.four
                              obtain ⟨f0, f1, f2, f3, y0, y1, y2, y3, hgy⟩ := X9.out.four
                              go_wp2
                              go_ret
                              exact ⟨Ns.ret_bool rfl, XB.out⟩
end Ev
end Go.Proofs.YtkmkofnfiiibdagDoor
