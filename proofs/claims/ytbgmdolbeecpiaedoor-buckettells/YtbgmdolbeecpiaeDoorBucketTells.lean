/- The law BucketTells returns true for every input, from what is asked of package bucket's calls. -/
import Derived.Test.YtbgmdolbeecpiaeDoorPlains
import Derived.Test.YtbgmdolbeecpiaeDoorRSent
import Derived.Test.YtbgmdolbeecpiaeDoorRTicks
import Derived.Test.YtbgmdolbeecpiaeDoorSameI
import Derived.Test.YtbgmdolbeecpiaeDoorToldB
import Derived.Deep.DeepCutAuto
namespace Go.Proofs.YtbgmdolbeecpiaeDoor
namespace Ev
open Go.RowKit Fr Ns Ld Fl
set_option linter.unusedSimpArgs false
set_option linter.unusedVariables false

theorem okN_0 (n : Int) : okN 0 n = n := if_pos rfl
theorem okN_ne {k : Int} (h : k ≠ 0) (n : Int) : okN k n = 0 := if_neg h
theorem bktE_or (s r h : Int) : bktE s r h = 0 ∨ bktE s r h = 1 := by
  unfold bktE
  split
  · exact .inr rfl
  · exact .inl rfl

set_option maxRecDepth 100000 in
set_option maxHeartbeats 8000000 in
theorem bucketTells_walk (hC : BCheckSaid) (hT : BTickSaid) (hK : BTakeSaid) (hS : BSendSaid) (s r h m : Int) (l : List Int) (v : Value) (w : World)
    (hg : w.cell? ⟨0, 0, none⟩ = some handleV) (hv : IntsAt (fun b => b < w.heap.size) w v l) :
    Calls Tryd.prog 5 #[.agg #[.int .i64 s, .int .i64 r, .int .i64 h], .int .i64 m, v] w fun e w' => e = .returned (.bool true) ∧ Below w.heap.size w w' := by
  have HKp : Hid (∀ u : World, Below (w.heap.size + 1) (w.alloc (.cells #[.int .i64 s, .int .i64 r, .int .i64 h] 44)) u → Below w.heap.size w u ∧ RowAt u w.heap.size 44 [.int .i64 s, .int .i64 r, .int .i64 h] ∧ w.heap.size + 1 ≤ u.heap.size) := fun u hu => by
    have hs := hu.size
    simp at hs
    exact ⟨((Below.refl _ _).alloc (Nat.le_refl _) _).trans (hu.mono (by omega)), (row_made w _ _ _ _ rfl rfl).later hu (by omega), hs⟩
  have HRB : Hid (∀ u : World, Calls Tryd.prog 15 #[.agg #[.int .i64 s, .int .i64 r, .int .i64 h]] u fun e w' => e = .returned (.int .i64 (bktE s r h)) ∧ Below u.heap.size u w') := fun u => RBucket_any s r h u
  have HCh : Hid (∀ u : World, Calls Tryd.prog 16 #[.agg #[.int .i64 s, .int .i64 r, .int .i64 h]] u fun e w' => e = .returned (errV (bktE s r h)) ∧ Below u.heap.size u w') := fun u => hC s r h u
  have HFi : Hid (bktE s r h = 0 → ∀ u : World, Calls Tryd.prog 17 #[.agg #[.int .i64 s, .int .i64 r, .int .i64 h]] u fun e w' => e = .returned (.agg #[.int .i64 s, .int .i64 r, .int .i64 (fillH s r h)]) ∧ Below u.heap.size u w') := fun h0 u => RFillB_any s r h u h0
  have HTi : Hid (∀ u : World, Calls Tryd.prog 18 #[.agg #[.int .i64 s, .int .i64 r, .int .i64 h]] u fun e w' => e = .returned (.tuple #[.agg #[.int .i64 (okN (bktE s r h) s), .int .i64 (okN (bktE s r h) r), .int .i64 (okN (bktE s r h) (fillH s r h))], errV (bktE s r h)]) ∧ Below u.heap.size u w') := fun u => hT s r h u
  have HTa : Hid (∀ u : World, Calls Tryd.prog 19 #[.agg #[.int .i64 s, .int .i64 r, .int .i64 h], .int .i64 m] u fun e w' => e = .returned (.tuple #[.agg #[.int .i64 (okN (takeE s r h m) s), .int .i64 (okN (takeE s r h m) r), .int .i64 (okN (takeE s r h m) (h - m))], errV (takeE s r h m)]) ∧ Below u.heap.size u w') := fun u => hK s r h m u
  have HTk : Hid (∀ u : World, Below w.heap.size w u → Calls Tryd.prog 20 #[v] u fun e w' => e = .returned (.int .i64 (ticksE l)) ∧ w' = u) := fun u hu => RTicks_any l v u (hv.later hu)
  have HSe : Hid (bktE s r h = 0 → ticksE l = 0 → ∀ u : World, Below w.heap.size w u → Calls Tryd.prog 21 #[.agg #[.int .i64 s, .int .i64 r, .int .i64 h], v] u fun e w' => ∃ y, e = .returned y ∧ IntsAt (fun b => u.heap.size ≤ b) w' y (sentL s r h l) ∧ Below u.heap.size u w') := fun h1 h2 u hu => RSent_any s r h l v u (hv.later hu) h1 h2
  have HSn : Hid (∀ u : World, Below w.heap.size w u → Calls Tryd.prog 22 #[.agg #[.int .i64 s, .int .i64 r, .int .i64 h], v] u fun e w' => ∃ y, e = .returned (.tuple #[y, errV (sendE s r h l)]) ∧ IntsAt (fun b => u.heap.size ≤ b) w' y (okL (sendE s r h l) (sentL s r h l)) ∧ Below u.heap.size u w') := fun u hu => hS _ s r h l v u (hv.later hu)
  have HEr : Hid (∀ (k : Int) (u : World), Below w.heap.size w u → Calls Tryd.prog 7 #[errV k, .int .i64 k] u fun e w' => e = .returned (.bool true) ∧ Below u.heap.size u w') := fun k u hu => by
    have := Error_any k k u (cell_later hu hg)
    rw [beq_self_eq_true] at this
    exact this
  have HIn : Hid (∀ (x y : Value) (g : List Int) (u : World), IntsAt (fun _ => True) u x g → IntsAt (fun _ => True) u y g → Calls Tryd.prog 11 #[x, y] u fun e w' => e = .returned (.bool true) ∧ ∃ n, w' = u.drewN n) := fun x y g u hx hy => by
    have := SInts_any g g x y u hx hy
    rw [show eqI g g = true by simp [eqI]] at this
    exact this
  have HSE : Hid (sendE s r h l = if bktE s r h = 0 then ticksE l else bktE s r h) := rfl
  have HTE : Hid (takeE s r h m = if bktE s r h = 0 then (if m < 0 ∨ 10000 < m then 1 else if h < m then 8 else 0) else bktE s r h) := rfl
  have HOr := bktE_or s r h
  have HB0 : Hid (bktE s r h = 0 → 0 ≤ h ∧ h ≤ 10000) := fun h0 => by have := bktE_0.1 h0; omega
  obtain ⟨a, cap, rfl, _⟩ := hv
  generalize sentL s r h l = SL at *
  generalize sendE s r h l = se at *
  generalize takeE s r h m = te at *
  generalize ticksE l = tk at *
  generalize fillH s r h = fh at *
  generalize bktE s r h = e0 at *
  have HE1 : Hid (∀ u : World, Below w.heap.size w u → Calls Tryd.prog 7 #[errV e0, .int .i64 e0] u fun e w' => e = .returned (.bool true) ∧ Below u.heap.size u w') := HEr.out e0
  have HE2 : Hid (∀ u : World, Below w.heap.size w u → Calls Tryd.prog 7 #[errV te, .int .i64 te] u fun e w' => e = .returned (.bool true) ∧ Below u.heap.size u w') := HEr.out te
  have HE3 : Hid (∀ u : World, Below w.heap.size w u → Calls Tryd.prog 7 #[errV se, .int .i64 se] u fun e w' => e = .returned (.bool true) ∧ Below u.heap.size u w') := HEr.out se
  clear hC hT hK hS hg HEr
  obtain ⟨W0, HW0⟩ : ∃ W0, Hid (w.alloc (.cells #[.int .i64 s, .int .i64 r, .int .i64 h] 44) = W0) := ⟨_, rfl⟩
  rw [HW0.out] at HKp
  have K0 : Hid (Below (w.heap.size + 1) W0 W0) := Below.refl _ _
  go_enter Tryd.func5, Tryd.ntmps5
  go_upto_region 1 with fail
  rw [HW0.out]
  obtain ⟨B0, R0, S0⟩ := HKp.out _ K0.out
  obtain ⟨d0, d1, d2, z0, z1, z2, hgz⟩ := R0.three
  go_wp2_with fail
  refine (HRB.out _).mono ?_
  rintro e w1 ⟨rfl, hw1⟩
  have K1 : Hid (Below (w.heap.size + 1) W0 w1) := Bel.call K0.out S0 hw1
  clear hw1 d0 d1 d2 z0 z1 z2 hgz R0 B0
  obtain ⟨B1, R1, S1⟩ := HKp.out _ K1.out
  obtain ⟨d0, d1, d2, z0, z1, z2, hgz⟩ := R1.three
  go_wp2_with fail
  refine (HCh.out _).mono ?_
  rintro e w2 ⟨rfl, hw2⟩
  have K2 : Hid (Below (w.heap.size + 1) W0 w2) := Bel.call K1.out S0 hw2
  clear hw2 d0 d1 d2 z0 z1 z2 hgz R1 B1
  obtain ⟨B2, R2, S2⟩ := HKp.out _ K2.out
  go_wp2_with fail
  refine (HE1.out _ B2).mono ?_
  rintro e w3 ⟨rfl, hw3⟩
  have K3 : Hid (Below (w.heap.size + 1) W0 w3) := Bel.call K2.out S0 hw3
  clear hw3 R2 B2
  obtain ⟨B3, R3, S3⟩ := HKp.out _ K3.out
  obtain ⟨d0, d1, d2, z0, z1, z2, hgz⟩ := R3.three
  have HZ9 : Hid (RowAt (w3.alloc (.cells #[.int .i64 0, .int .i64 0, .int .i64 0] 44)) w3.heap.size 44 [.int .i64 0, .int .i64 0, .int .i64 0]) := row_made w3 _ _ _ _ rfl rfl
  have K3' : Hid (Below (w.heap.size + 1) W0 (w3.alloc (.cells #[.int .i64 0, .int .i64 0, .int .i64 0] 44))) := K3.out.alloc S3 _
  go_upto_if 25 with fail
  go_cut [9] (fun s9 wc => s9 = .pointer (some ⟨w3.heap.size, 0, none⟩) ∧ Hid (RowAt wc w3.heap.size 44 [.int .i64 (okN e0 s), .int .i64 (okN e0 r), .int .i64 (okN e0 fh)]) ∧ Hid (Below (w.heap.size + 1) W0 wc))
  case first =>
    as_aux_lemma =>
      rcases HOr with rfl | rfl
      · have HF := (show Hid _ from HFi.out rfl)
        go_wp2_with fail
        refine (HF.out _).mono ?_
        rintro e w4 ⟨rfl, hw4⟩
        have R9 : Hid (RowAt w4 w3.heap.size 44 [.int .i64 0, .int .i64 0, .int .i64 0]) := HZ9.out.later hw4 (by simp)
        have K4 : Hid (Below (w.heap.size + 1) W0 w4) := Bel.call K3'.out S0 hw4
        have R9' : Hid (RowAt (((w4.setCell ⟨w3.heap.size, 0, none⟩ (.int .i64 s)).setCell ⟨w3.heap.size, 1, none⟩ (.int .i64 r)).setCell ⟨w3.heap.size, 2, none⟩ (.int .i64 fh)) w3.heap.size 44 [.int .i64 s, .int .i64 r, .int .i64 fh]) := R9.out.set3 _ _ _
        have K4' : Hid (Below (w.heap.size + 1) W0 (((w4.setCell ⟨w3.heap.size, 0, none⟩ (.int .i64 s)).setCell ⟨w3.heap.size, 1, none⟩ (.int .i64 r)).setCell ⟨w3.heap.size, 2, none⟩ (.int .i64 fh))) := ((K4.out.setCell S3 _).setCell S3 _).setCell S3 _
        clear hw4 d0 d1 d2 z0 z1 z2
        obtain ⟨d0, d1, d2, z0, z1, z2, hgz9⟩ := R9.out.three
        go_wp2
        go_meet
        case rel => exact ⟨rfl, by rw [okN_0, okN_0, okN_0]; exact R9', K4'⟩
      · go_wp2
        go_meet
        case rel => exact ⟨rfl, by rw [okN_ne (by decide), okN_ne (by decide), okN_ne (by decide)]; exact HZ9, K3'⟩
  case rest =>
    as_aux_lemma =>
      obtain ⟨w5, rfl⟩ : ∃ x : World, x = wc := ⟨_, rfl⟩
      obtain ⟨rfl, R9, K5⟩ := hcut
      obtain ⟨g9, hg9⟩ : ∃ g, g = w3.heap.size := ⟨_, rfl⟩
      have S9 : w.heap.size + 1 ≤ g9 := by omega
      rw [← hg9] at R9
      rw [← hg9]
      clear hg9 HZ9 K3' K3 K2 K1 K0 R3 B3 d0 d1 d2 z0 z1 z2 hgz HFi
      obtain ⟨B5, R5, S5⟩ := HKp.out _ K5.out
      obtain ⟨d0, d1, d2, z0, z1, z2, hgz⟩ := R5.three
      go_wp2_with fail
      refine (HTi.out _).mono ?_
      rintro e w6 ⟨rfl, hw6⟩
      have K6 : Hid (Below (w.heap.size + 1) W0 w6) := Bel.call K5.out S0 hw6
      have S6 : w.heap.size + 1 ≤ w6.heap.size := by have := hw6.size; omega
      have Z9 : g9 < w6.heap.size := Nat.lt_of_lt_of_le R9.out.lt hw6.size
      have R9a : Hid (RowAt w6 g9 44 [.int .i64 (okN e0 s), .int .i64 (okN e0 r), .int .i64 (okN e0 fh)]) := R9.out.later hw6 R9.out.lt
      have K6' : Hid (Below (w.heap.size + 1) W0 (w6.alloc (.cells #[.int .i64 (okN e0 s), .int .i64 (okN e0 r), .int .i64 (okN e0 fh)] 44))) := K6.out.alloc S6 _
      have R10 : Hid (RowAt (w6.alloc (.cells #[.int .i64 (okN e0 s), .int .i64 (okN e0 r), .int .i64 (okN e0 fh)] 44)) w6.heap.size 44 [.int .i64 (okN e0 s), .int .i64 (okN e0 r), .int .i64 (okN e0 fh)]) := row_made w6 _ _ _ _ rfl rfl
      have R9b : Hid (RowAt (w6.alloc (.cells #[.int .i64 (okN e0 s), .int .i64 (okN e0 r), .int .i64 (okN e0 fh)] 44)) g9 44 [.int .i64 (okN e0 s), .int .i64 (okN e0 r), .int .i64 (okN e0 fh)]) := R9a.out.alloc _
      have B6' : Hid (Below w.heap.size w (w6.alloc (.cells #[.int .i64 (okN e0 s), .int .i64 (okN e0 r), .int .i64 (okN e0 fh)] 44))) := (HKp.out _ K6'.out).1
      clear hw6 d0 d1 d2 z0 z1 z2 hgz R5 B5
      go_wp2_with fail
      refine (HE1.out _ B6'.out).mono ?_
      rintro e w7 ⟨rfl, hw7⟩
      have K7 : Hid (Below (w.heap.size + 1) W0 w7) := Bel.call K6'.out S0 hw7
      have R9c : Hid (RowAt w7 g9 44 [.int .i64 (okN e0 s), .int .i64 (okN e0 r), .int .i64 (okN e0 fh)]) := R9b.out.later hw7 R9b.out.lt
      have R10c : Hid (RowAt w7 w6.heap.size 44 [.int .i64 (okN e0 s), .int .i64 (okN e0 r), .int .i64 (okN e0 fh)]) := R10.out.later hw7 R10.out.lt
      clear hw7
      obtain ⟨g10, hg10⟩ : ∃ g, Hid (w6.heap.size = g) := ⟨_, rfl⟩
      have N9 : ¬ g9 = g10 := by have := hg10.out; omega
      have S10 : w.heap.size + 1 ≤ g10 := by have := hg10.out; omega
      rw [hg10.out] at R10c
      rw [hg10.out]
      clear hg10 Z9 S6 R9 R9a R9b R10 K6 K6' B6' K5 S5
      obtain ⟨d0, d1, d2, z0, z1, z2, hgz9⟩ := R9c.out.three
      obtain ⟨f0, f1, f2, y0, y1, y2, hgz10⟩ := R10c.out.three
      obtain ⟨p1, hp1⟩ : ∃ p, Hid (okN e0 s = p) := ⟨_, rfl⟩
      obtain ⟨p2, hp2⟩ : ∃ p, Hid (okN e0 r = p) := ⟨_, rfl⟩
      obtain ⟨p3, hp3⟩ : ∃ p, Hid (okN e0 fh = p) := ⟨_, rfl⟩
      rw [hp1.out, hp2.out, hp3.out] at R9c R10c
      rw [hp1.out] at d0 f0
      rw [hp2.out] at d1 f1
      rw [hp3.out] at d2 f2
      go_upto_region 9 with fail
      have N10 : ¬ g10 = g9 := fun e => N9 e.symm
      have R9d : Hid (RowAt (((w7.setCell ⟨g9, 0, none⟩ (.int .i64 0)).setCell ⟨g9, 1, none⟩ (.int .i64 0)).setCell ⟨g9, 2, none⟩ (.int .i64 0)) g9 44 [.int .i64 0, .int .i64 0, .int .i64 0]) := R9c.out.set3 _ _ _
      have R10d : Hid (RowAt (((w7.setCell ⟨g9, 0, none⟩ (.int .i64 0)).setCell ⟨g9, 1, none⟩ (.int .i64 0)).setCell ⟨g9, 2, none⟩ (.int .i64 0)) g10 44 [.int .i64 p1, .int .i64 p2, .int .i64 p3]) := ((R10c.out.other (a := ⟨g9, 0, none⟩) N9 _).other (a := ⟨g9, 1, none⟩) N9 _).other (a := ⟨g9, 2, none⟩) N9 _
      have K8 : Hid (Below (w.heap.size + 1) W0 (((w7.setCell ⟨g9, 0, none⟩ (.int .i64 0)).setCell ⟨g9, 1, none⟩ (.int .i64 0)).setCell ⟨g9, 2, none⟩ (.int .i64 0))) := ((K7.out.setCell S9 _).setCell S9 _).setCell S9 _
      go_upto_region 10 with fail
      clear d0 d1 d2 z0 z1 z2 hgz9 f0 f1 f2 y0 y1 y2 hgz10 R9c R10c K7
      generalize (((w7.setCell ⟨g9, 0, none⟩ (.int .i64 0)).setCell ⟨g9, 1, none⟩ (.int .i64 0)).setCell ⟨g9, 2, none⟩ (.int .i64 0)) = w8 at *
      obtain ⟨o1, ho1⟩ : ∃ o, Hid ((decide (e0 = 0) && decide (m < 0 ∨ 10000 < m)) = o) := ⟨_, rfl⟩
      go_cut [52] (fun s52 wc => s52 = .bool o1 ∧ Hid (wc = w8))
      case first =>
        as_aux_lemma =>
          rcases HOr with rfl | rfl
          · by_cases c1 : m < 0
            · obtain rfl : o1 = true := by rw [← ho1.out]; simp; omega
              clear ho1
              go_wp2
              go_meet
              case rel => exact ⟨rfl, rfl⟩
            · by_cases c2 : 10000 < m
              · obtain rfl : o1 = true := by rw [← ho1.out]; simp; omega
                clear ho1
                go_wp2
                go_meet
                case rel => exact ⟨rfl, rfl⟩
              · obtain rfl : o1 = false := by rw [← ho1.out]; simp; omega
                clear ho1
                go_wp2
                go_meet
                case rel => exact ⟨rfl, rfl⟩
          · obtain rfl : o1 = false := by rw [← ho1.out]; rfl
            clear ho1
            go_wp2
            go_meet
            case rel => exact ⟨rfl, rfl⟩
      case rest =>
        as_aux_lemma =>
          obtain ⟨rfl, hw8⟩ := hcut
          obtain rfl := hw8.out
          obtain ⟨B8, R8, S8⟩ := HKp.out _ K8.out
          obtain ⟨d0, d1, d2, z0, z1, z2, hgz⟩ := R8.three
          obtain ⟨f0, f1, f2, y0, y1, y2, hgz9⟩ := R9d.out.three
          obtain ⟨w8, rfl⟩ : ∃ x : World, x = wc := ⟨_, rfl⟩
          go_upto_if 52 with fail
          go_cut [13] (fun s13 wc => s13 = .int .i64 te ∧ Hid (RowAt wc g9 44 [.int .i64 (okN te s), .int .i64 (okN te r), .int .i64 (okN te (h - m))]) ∧ Hid (RowAt wc g10 44 [.int .i64 p1, .int .i64 p2, .int .i64 p3]) ∧ Hid (Below (w.heap.size + 1) W0 wc))
          case first =>
            as_aux_lemma =>
              rcases HOr with rfl | rfl
              · obtain ⟨hh1, hh2⟩ := HB0.out rfl
                by_cases c1 : m < 0 ∨ 10000 < m
                · obtain rfl : o1 = true := by rw [← ho1.out]; simpa using c1
                  obtain rfl : te = 1 := by rw [HTE.out, if_pos rfl, if_pos c1]
                  clear ho1 HTE c1
                  go_wp2
                  go_meet
                  case rel => exact ⟨rfl, R9d, R10d, K8⟩
                · obtain rfl : o1 = false := by rw [← ho1.out]; simp; omega
                  by_cases c2 : h < m
                  · obtain rfl : te = 8 := by rw [HTE.out, if_pos rfl, if_neg c1, if_pos c2]
                    clear ho1 HTE c1
                    go_wp2
                    go_meet
                    case rel => exact ⟨rfl, R9d, R10d, K8⟩
                  · obtain rfl : te = 0 := by rw [HTE.out, if_pos rfl, if_neg c1, if_neg c2]
                    have hwp : IntKind.i64.wrap (h - m) = h - m := by rw [IntKind.wrap_i64]; omega
                    have N0 : ¬ g9 = w.heap.size := by omega
                    have R9e : Hid (RowAt ((((w8.setCell ⟨g9, 0, none⟩ (.int .i64 s)).setCell ⟨g9, 1, none⟩ (.int .i64 r)).setCell ⟨g9, 2, none⟩ (.int .i64 h)).setCell ⟨g9, 2, none⟩ (.int .i64 (h - m))) g9 44 [.int .i64 s, .int .i64 r, .int .i64 (h - m)]) := (R9d.out.set3 _ _ _).set 2 _
                    have R10e : Hid (RowAt ((((w8.setCell ⟨g9, 0, none⟩ (.int .i64 s)).setCell ⟨g9, 1, none⟩ (.int .i64 r)).setCell ⟨g9, 2, none⟩ (.int .i64 h)).setCell ⟨g9, 2, none⟩ (.int .i64 (h - m))) g10 44 [.int .i64 p1, .int .i64 p2, .int .i64 p3]) := (((R10d.out.other (a := ⟨g9, 0, none⟩) N9 _).other (a := ⟨g9, 1, none⟩) N9 _).other (a := ⟨g9, 2, none⟩) N9 _).other (a := ⟨g9, 2, none⟩) N9 _
                    have K9 : Hid (Below (w.heap.size + 1) W0 ((((w8.setCell ⟨g9, 0, none⟩ (.int .i64 s)).setCell ⟨g9, 1, none⟩ (.int .i64 r)).setCell ⟨g9, 2, none⟩ (.int .i64 h)).setCell ⟨g9, 2, none⟩ (.int .i64 (h - m)))) := (((K8.out.setCell S9 _).setCell S9 _).setCell S9 _).setCell S9 _
                    clear ho1 HTE c1
                    go_wp2
                    go_meet
                    case rel => exact ⟨rfl, by rw [okN_0, okN_0, okN_0]; exact R9e, R10e, K9⟩
              · obtain rfl : o1 = false := by rw [← ho1.out]; rfl
                obtain rfl : te = 1 := by rw [HTE.out, if_neg (by decide)]
                clear ho1 HTE
                go_wp2
                go_meet
                case rel => exact ⟨rfl, R9d, R10d, K8⟩
          case rest =>
            as_aux_lemma =>
              clear d0 d1 d2 z0 z1 z2 hgz f0 f1 f2 y0 y1 y2 hgz9 R9d R10d K8 B8 R8 S8 ho1 HTE
              obtain ⟨w10, rfl⟩ : ∃ x : World, x = wc := ⟨_, rfl⟩
              obtain ⟨rfl, R9f, R10f, K10⟩ := hcut
              obtain ⟨B10, R0a, S10a⟩ := HKp.out _ K10.out
              obtain ⟨d0, d1, d2, z0, z1, z2, hgz⟩ := R0a.three
              go_wp2_with fail
              refine (HTa.out _).mono ?_
              rintro e w11 ⟨rfl, hw11⟩
              have K11 : Hid (Below (w.heap.size + 1) W0 w11) := Bel.call K10.out S0 hw11
              have R9g : Hid (RowAt w11 g9 44 [.int .i64 (okN te s), .int .i64 (okN te r), .int .i64 (okN te (h - m))]) := R9f.out.later hw11 R9f.out.lt
              have R10g : Hid (RowAt w11 g10 44 [.int .i64 p1, .int .i64 p2, .int .i64 p3]) := R10f.out.later hw11 R10f.out.lt
              clear hw11 d0 d1 d2 z0 z1 z2 hgz R9f R10f K10 B10 R0a S10a
              have R10h : Hid (RowAt (((w11.setCell ⟨g10, 0, none⟩ (.int .i64 (okN te s))).setCell ⟨g10, 1, none⟩ (.int .i64 (okN te r))).setCell ⟨g10, 2, none⟩ (.int .i64 (okN te (h - m)))) g10 44 [.int .i64 (okN te s), .int .i64 (okN te r), .int .i64 (okN te (h - m))]) := R10g.out.set3 _ _ _
              have R9h : Hid (RowAt (((w11.setCell ⟨g10, 0, none⟩ (.int .i64 (okN te s))).setCell ⟨g10, 1, none⟩ (.int .i64 (okN te r))).setCell ⟨g10, 2, none⟩ (.int .i64 (okN te (h - m)))) g9 44 [.int .i64 (okN te s), .int .i64 (okN te r), .int .i64 (okN te (h - m))]) := ((R9g.out.other (a := ⟨g10, 0, none⟩) N10 _).other (a := ⟨g10, 1, none⟩) N10 _).other (a := ⟨g10, 2, none⟩) N10 _
              have K12 : Hid (Below (w.heap.size + 1) W0 (((w11.setCell ⟨g10, 0, none⟩ (.int .i64 (okN te s))).setCell ⟨g10, 1, none⟩ (.int .i64 (okN te r))).setCell ⟨g10, 2, none⟩ (.int .i64 (okN te (h - m))))) := ((K11.out.setCell S10 _).setCell S10 _).setCell S10 _
              have B12 : Hid (Below w.heap.size w (((w11.setCell ⟨g10, 0, none⟩ (.int .i64 (okN te s))).setCell ⟨g10, 1, none⟩ (.int .i64 (okN te r))).setCell ⟨g10, 2, none⟩ (.int .i64 (okN te (h - m))))) := (HKp.out _ K12.out).1
              obtain ⟨f0, f1, f2, y0, y1, y2, hgz10⟩ := R10g.out.three
              go_wp2_with fail
              refine (HE2.out _ B12.out).mono ?_
              rintro e w13 ⟨rfl, hw13⟩
              have K13 : Hid (Below (w.heap.size + 1) W0 w13) := Bel.call K12.out S0 hw13
              have R9i : Hid (RowAt w13 g9 44 [.int .i64 (okN te s), .int .i64 (okN te r), .int .i64 (okN te (h - m))]) := R9h.out.later hw13 R9h.out.lt
              have R10i : Hid (RowAt w13 g10 44 [.int .i64 (okN te s), .int .i64 (okN te r), .int .i64 (okN te (h - m))]) := R10h.out.later hw13 R10h.out.lt
              clear hw13 f0 f1 f2 y0 y1 y2 hgz10 R9g R10g R10h R9h K11 K12 B12
              obtain ⟨d0, d1, d2, z0, z1, z2, hgz9⟩ := R9i.out.three
              obtain ⟨f0, f1, f2, y0, y1, y2, hgz10⟩ := R10i.out.three
              obtain ⟨B13, R0b, S13⟩ := HKp.out _ K13.out
              go_upto_if 84 with fail
              go_cut [7] (fun s7 wc => s7 = .int .i64 se ∧ Hid (wc = w13))
              case first =>
                as_aux_lemma =>
                  rcases HOr with rfl | rfl
                  · obtain rfl : se = tk := by rw [HSE.out, if_pos rfl]
                    clear HSE
                    go_wp2_with fail
                    refine (HTk.out _ B13).mono ?_
                    rintro e w14 ⟨rfl, rfl⟩
                    go_wp2
                    go_meet
                    case rel => exact ⟨rfl, rfl⟩
                  · obtain rfl : se = 1 := by rw [HSE.out, if_neg (by decide)]
                    clear HSE
                    go_wp2
                    go_meet
                    case rel => exact ⟨rfl, rfl⟩
              case rest =>
                as_aux_lemma =>
                  obtain ⟨rfl, hw13⟩ := hcut
                  obtain rfl := hw13.out
                  obtain ⟨w13, rfl⟩ : ∃ x : World, x = wc := ⟨_, rfl⟩
                  clear d0 d1 d2 z0 z1 z2 hgz9 f0 f1 f2 y0 y1 y2 hgz10 R9i R10i
                  obtain ⟨d0, d1, d2, z0, z1, z2, hgz⟩ := R0b.three
                  have HNil : Hid (∀ u : World, IntsAt (fun _ => True) u (.slice none 0 0) []) := fun u => ⟨none, 0, rfl, ⟨Nat.le_refl _, by simp⟩, .inl rfl⟩
                  go_upto_if 88 with fail
                  go_cut [15] (fun s15 wc => (∃ a n k, s15 = .slice a n k) ∧ Hid (IntsAt (fun _ => True) wc s15 (okL se SL)) ∧ Hid (Below (w.heap.size + 1) W0 wc))
                  case first =>
                    as_aux_lemma =>
                      by_cases hse : se = 0
                      · have hee : e0 = 0 ∧ tk = 0 := by
                          rcases HOr with rfl | rfl
                          · rw [HSE.out, if_pos rfl] at hse; exact ⟨rfl, hse⟩
                          · rw [HSE.out, if_neg (by decide)] at hse; cases hse
                        obtain ⟨hee1, hee2⟩ := hee
                        have HEE : Hid (e0 = 0 ∧ tk = 0) := ⟨hee1, hee2⟩
                        have HOk : Hid (okL se SL = SL) := by rw [hse]; exact if_pos rfl
                        subst hse
                        clear hee1 hee2 HSE
                        go_wp2_with fail
                        refine (HSe.out HEE.out.1 HEE.out.2 _ B13).mono ?_
                        rintro e w14 ⟨y, rfl, hy, hw14⟩
                        have K14 : Hid (Below (w.heap.size + 1) W0 w14) := Bel.call K13.out S0 hw14
                        have Y14 : Hid (IntsAt (fun _ => True) w14 y SL) := hy.keep (fun _ _ _ => rfl) (fun _ _ _ => trivial)
                        obtain ⟨ay, cy, rfl, _⟩ := hy
                        clear hw14
                        go_wp2
                        go_meet
                        case rel => exact ⟨⟨_, _, _, rfl⟩, by rw [HOk.out]; exact Y14, K14⟩
                      · have HOk : Hid (okL se SL = []) := if_neg hse
                        have q : (se == 0) = false := beq_eq_false_iff_ne.2 hse
                        clear hse HSE
                        go_wp2
                        go_meet
                        case rel => exact ⟨⟨_, _, _, rfl⟩, by rw [HOk.out]; exact HNil.out _, K13⟩
                  case rest =>
                    as_aux_lemma =>
                      clear d0 d1 d2 z0 z1 z2 hgz R0b B13 K13
                      obtain ⟨w15, rfl⟩ : ∃ x : World, x = wc := ⟨_, rfl⟩
                      obtain ⟨⟨a1, n1, c1, rfl⟩, Y15, K15⟩ := hcut
                      obtain ⟨B15, R0c, S15⟩ := HKp.out _ K15.out
                      obtain ⟨d0, d1, d2, z0, z1, z2, hgz⟩ := R0c.three
                      go_wp2_with fail
                      refine (HSn.out _ B15).mono ?_
                      rintro e w16 ⟨y, rfl, hy, hw16⟩
                      have B16 : Hid (Below w.heap.size w w16) := Bel.call B15 (Nat.le_refl _) hw16
                      have X16 : Hid (IntsAt (fun _ => True) w16 (.slice a1 n1 c1) (okL se SL)) := Y15.out.later hw16
                      have Y16 : Hid (IntsAt (fun _ => True) w16 y (okL se SL)) := hy.keep (fun _ _ _ => rfl) (fun _ _ _ => trivial)
                      obtain ⟨a2, n2, c2, rfl⟩ : ∃ a n c, y = .slice a n c := by obtain ⟨a, c, e, _⟩ := hy; exact ⟨_, _, _, e⟩
                      clear hw16 hy d0 d1 d2 z0 z1 z2 hgz R0c B15 S15
                      go_wp2_with fail
                      refine (HE3.out _ B16.out).mono ?_
                      rintro e w17 ⟨rfl, hw17⟩
                      have B17 : Hid (Below w.heap.size w w17) := Bel.call B16.out (Nat.le_refl _) hw17
                      have HI17 : Hid (Calls Tryd.prog 11 #[.slice a2 n2 c2, .slice a1 n1 c1] w17 fun e w' => e = .returned (.bool true) ∧ ∃ n, w' = w17.drewN n) := HIn.out _ _ (okL se SL) w17 (Y16.out.later hw17) (X16.out.later hw17)
                      clear hw17
                      go_wp2_with fail
                      refine HI17.out.mono ?_
                      rintro e w18 ⟨rfl, n18, hw18⟩
                      have B18 : Hid (Below w.heap.size w w18) := by rw [hw18]; exact below_drewN B17.out _
                      clear hw18
                      go_wp2
                      go_ret
                      exact ⟨Ns.ret_bool rfl, B18.out⟩
end Ev
end Go.Proofs.YtbgmdolbeecpiaeDoor
