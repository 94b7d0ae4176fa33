/- The law MarkTells returns true for every input, from what is asked of package mark's calls. -/
import Derived.Test.YtedplgkohppakagDoorPlains
import Derived.Test.YtedplgkohppakagDoorRMrk
import Derived.Test.YtedplgkohppakagDoorToldB
import Derived.Deep.DeepCutAuto
import Derived.Deep.CutBlock
namespace Go.Proofs.YtedplgkohppakagDoor
namespace Ev
open Go.RowKit Fr Ns Ld Fl
set_option linter.unusedSimpArgs false
set_option linter.unusedVariables false

theorem cnt_bd (f a : Int) : ∀ m : Nat, 0 ≤ cntM f a m ∧ cntM f a m ≤ m := by
  intro m
  induction m with
  | zero => simp [cntM]
  | succ m ih =>
    unfold cntM
    split <;> omega
theorem bools_cells {Q : Nat → Prop} {w : World} {a : Option Addr} {n cap : Nat} {l : List Bool} (h : BoolsAt Q w (.slice a n cap) l) : ∀ i, i < l.length → ∃ b off, a = some ⟨b, off, none⟩ ∧ ∀ u, Below w.heap.size w u → u.cell? ⟨b, off + i, none⟩ = some (.bool (l.getD i false)) := by
  intro i hi
  obtain ⟨_, _, e, _, hc⟩ := h
  simp only [Value.slice.injEq] at e
  obtain ⟨rfl, _, _⟩ := e
  rcases hc with h | ⟨b, off, rfl, h, _⟩
  · rw [h] at hi; simp at hi
  · exact ⟨b, off, rfl, fun u hu => cell_later hu (h i hi)⟩

set_option maxRecDepth 100000 in
set_option maxHeartbeats 8000000 in
theorem markTells_walk (hI : MIsSaid) (hC : MCountSaid) (hL : MListSaid) (f i a m : Int) (w : World) (hg : w.cell? ⟨0, 0, none⟩ = some handleV) :
    Calls Tryd.prog 3 #[.int .i64 f, .int .i64 i, .int .i64 a, .int .i64 m] w fun e w' => e = .returned (.bool true) ∧ Below w.heap.size w w' := by
  have HM : Hid (∀ j : Int, 0 ≤ f → f ≤ 1000 → 0 ≤ j → j ≤ 1000000000 → ∀ u : World, Calls Tryd.prog 4 #[.int .i64 f, .int .i64 j] u fun e w' => e = .returned (.bool (markB f j)) ∧ w' = u) := fun j h1 h2 h3 h4 u => RMarked_any f j u h1 h2 h3 h4
  have HI : Hid (∀ u : World, Calls Tryd.prog 5 #[.int .i64 f, .int .i64 i] u fun e w' => e = .returned (.tuple #[.bool (okB (misE f i) (markB f i)), errV (misE f i)]) ∧ Below u.heap.size u w') := fun u => hI f i u
  have HC : Hid (∀ u : World, Calls Tryd.prog 7 #[.int .i64 f, .int .i64 a, .int .i64 m] u fun e w' => e = .returned (.tuple #[.int .i64 (okN (mcntE f a m) (cntM f a m.toNat)), errV (mcntE f a m)]) ∧ Below u.heap.size u w') := fun u => hC f a m u
  have HL : Hid (∀ u : World, Calls Tryd.prog 8 #[.int .i64 f, .int .i64 m] u fun e w' => ∃ y, e = .returned (.tuple #[y, errV (mlstE f m)]) ∧ BoolsAt (fun b => u.heap.size ≤ b) w' y (okL (mlstE f m) (markL f m.toNat)) ∧ Below u.heap.size u w') := fun u => hL f m u
  have HEr : Hid (∀ (k : Int) (u : World), Below w.heap.size w u → Calls Tryd.prog 6 #[errV k, .int .i64 k] u fun e w' => e = .returned (.bool true) ∧ Below u.heap.size u w') := fun k u hu => by
    have := Error_any k k u (cell_later hu hg)
    rw [beq_self_eq_true] at this
    exact this
  have E1 : Hid (misE f i = if f < 0 ∨ 1000 < f ∨ i < 0 ∨ 1000000000 < i then 1 else 0) := rfl
  have E2 : Hid (mcntE f a m = if f < 0 ∨ 1000 < f ∨ a < 0 ∨ 10000 < a ∨ m < 0 ∨ 10000 < m then 1 else 0) := rfl
  have E3 : Hid (mlstE f m = if f < 0 ∨ 1000 < f ∨ m < 0 ∨ 60 < m then 1 else 0) := rfl
  obtain ⟨ob, hob⟩ : ∃ o, Hid (okB (misE f i) (markB f i) = o) := ⟨_, rfl⟩
  rw [hob.out] at HI
  generalize misE f i = k1 at *
  generalize mcntE f a m = k2 at *
  generalize mlstE f m = k3 at *
  have HE1 : Hid (∀ u : World, Below w.heap.size w u → Calls Tryd.prog 6 #[errV k1, .int .i64 k1] u fun e w' => e = .returned (.bool true) ∧ Below u.heap.size u w') := HEr.out k1
  have HE2 : Hid (∀ u : World, Below w.heap.size w u → Calls Tryd.prog 6 #[errV k2, .int .i64 k2] u fun e w' => e = .returned (.bool true) ∧ Below u.heap.size u w') := HEr.out k2
  have HE3 : Hid (∀ u : World, Below w.heap.size w u → Calls Tryd.prog 6 #[errV k3, .int .i64 k3] u fun e w' => e = .returned (.bool true) ∧ Below u.heap.size u w') := HEr.out k3
  clear hI hC hL hg HEr
  obtain ⟨o1, ho1⟩ : ∃ o, Hid (decide (f < 0 ∨ 1000 < f ∨ i < 0 ∨ 1000000000 < i) = o) := ⟨_, rfl⟩
  go_enter Tryd.func3, Tryd.ntmps3
  go_upto_region 3 with fail
  go_cut [35] (fun s35 wc => s35 = .bool o1 ∧ Hid (wc = w))
  case first =>
    as_aux_lemma =>
      by_cases hr : f < 0 ∨ 1000 < f ∨ i < 0 ∨ 1000000000 < i
      · obtain rfl : o1 = true := by rw [← ho1.out]; exact decide_eq_true hr
        have hor : (f < 0) ∨ (¬ f < 0 ∧ 1000 < f) ∨ (¬ f < 0 ∧ ¬ 1000 < f ∧ i < 0) ∨ (¬ f < 0 ∧ ¬ 1000 < f ∧ ¬ i < 0 ∧ 1000000000 < i) := by omega
        clear ho1 hr
        rcases hor with c1 | ⟨c1, c2⟩ | ⟨c1, c2, c3⟩ | ⟨c1, c2, c3, c4⟩
        all_goals
          go_wp2
          go_meet
          case rel => exact ⟨rfl, rfl⟩
      · obtain rfl : o1 = false := by rw [← ho1.out]; exact decide_eq_false hr
        have c1 : ¬ f < 0 := by omega
        have c2 : ¬ 1000 < f := by omega
        have c3 : ¬ i < 0 := by omega
        have c4 : ¬ 1000000000 < i := by omega
        clear ho1 hr
        go_wp2
        go_meet
        case rel => exact ⟨rfl, rfl⟩
  case rest =>
    as_aux_lemma =>
      obtain ⟨rfl, hw0⟩ := hcut
      rw [hw0.out]
      clear hw0
      go_upto_if 35 with fail
      go_cut [9, 10] (fun s9 s10 wd => s9 = .int .i64 k1 ∧ s10 = .bool ob ∧ Hid (wd = w))
      case first =>
        as_aux_lemma =>
          by_cases hr : f < 0 ∨ 1000 < f ∨ i < 0 ∨ 1000000000 < i
          · obtain rfl : o1 = true := by rw [← ho1.out]; exact decide_eq_true hr
            obtain rfl : k1 = 1 := by rw [E1.out, if_pos hr]
            obtain rfl : ob = false := by rw [← hob.out]; rfl
            clear ho1 hr hob
            go_wp2
            go_meet
            case rel => exact ⟨rfl, rfl, rfl⟩
          · obtain rfl : o1 = false := by rw [← ho1.out]; exact decide_eq_false hr
            obtain rfl : k1 = 0 := by rw [E1.out, if_neg hr]
            have HM1 : Hid (∀ u : World, Calls Tryd.prog 4 #[.int .i64 f, .int .i64 i] u fun e w' => e = .returned (.bool (markB f i)) ∧ w' = u) := HM.out i (by omega) (by omega) (by omega) (by omega)
            obtain rfl : ob = markB f i := by rw [← hob.out]; simp [okB]
            clear ho1 hr hob
            go_wp2_with fail
            refine (HM1.out _).mono ?_
            rintro e w1 ⟨rfl, rfl⟩
            go_wp2
            go_meet
            case rel => exact ⟨rfl, rfl, rfl⟩
      case rest =>
        as_aux_lemma =>
          clear ho1 hob E1
          obtain ⟨rfl, rfl, hw1⟩ := hcut
          rw [hw1.out]
          clear hw1
          go_wp2_with fail
          refine (HI.out _).mono ?_
          rintro e w1 ⟨rfl, hw1⟩
          have B1 : Hid (Below w.heap.size w w1) := hw1
          clear hw1
          go_wp2_with fail
          refine (HE1.out _ B1.out).mono ?_
          rintro e w2 ⟨rfl, hw2⟩
          have B2 : Hid (Below w.heap.size w w2) := Bel.call B1.out (Nat.le_refl _) hw2
          clear hw2 HI HE1 B1
          have qb : (ob == ob) = true := by simp
          obtain ⟨o2, ho2⟩ : ∃ o, Hid (decide (f < 0 ∨ 1000 < f ∨ a < 0 ∨ 10000 < a ∨ m < 0 ∨ 10000 < m) = o) := ⟨_, rfl⟩
          go_upto_region 10 with fail
          go_cut [74] (fun s74 wc => s74 = .bool o2 ∧ Hid (wc = w2))
          case first =>
            as_aux_lemma =>
              by_cases hr : f < 0 ∨ 1000 < f ∨ a < 0 ∨ 10000 < a ∨ m < 0 ∨ 10000 < m
              · obtain rfl : o2 = true := by rw [← ho2.out]; exact decide_eq_true hr
                have hor : (f < 0) ∨ (¬ f < 0 ∧ 1000 < f) ∨ (¬ f < 0 ∧ ¬ 1000 < f ∧ a < 0) ∨ (¬ f < 0 ∧ ¬ 1000 < f ∧ ¬ a < 0 ∧ 10000 < a) ∨ (¬ f < 0 ∧ ¬ 1000 < f ∧ ¬ a < 0 ∧ ¬ 10000 < a ∧ m < 0) ∨ (¬ f < 0 ∧ ¬ 1000 < f ∧ ¬ a < 0 ∧ ¬ 10000 < a ∧ ¬ m < 0 ∧ 10000 < m) := by omega
                clear ho2 hr
                rcases hor with c1 | ⟨c1, c2⟩ | ⟨c1, c2, c3⟩ | ⟨c1, c2, c3, c4⟩ | ⟨c1, c2, c3, c4, c5⟩ | ⟨c1, c2, c3, c4, c5, c6⟩
                all_goals
                  go_wp2
                  go_meet
                  case rel => exact ⟨rfl, rfl⟩
              · obtain rfl : o2 = false := by rw [← ho2.out]; exact decide_eq_false hr
                have c1 : ¬ f < 0 := by omega
                have c2 : ¬ 1000 < f := by omega
                have c3 : ¬ a < 0 := by omega
                have c4 : ¬ 10000 < a := by omega
                have c5 : ¬ m < 0 := by omega
                have c6 : ¬ 10000 < m := by omega
                clear ho2 hr
                go_wp2
                go_meet
                case rel => exact ⟨rfl, rfl⟩
          case rest =>
            as_aux_lemma =>
              obtain ⟨rfl, hw0⟩ := hcut
              rw [hw0.out]
              clear hw0
              go_upto_if 74 with fail
              go_cut [9] (fun s9 wd => s9 = .int .i64 k2 ∧ Hid (wd = w2))
              case first =>
                as_aux_lemma =>
                  by_cases hr : f < 0 ∨ 1000 < f ∨ a < 0 ∨ 10000 < a ∨ m < 0 ∨ 10000 < m
                  · obtain rfl : o2 = true := by rw [← ho2.out]; exact decide_eq_true hr
                    obtain rfl : k2 = 1 := by rw [E2.out, if_pos hr]
                    clear ho2 hr
                    go_wp2
                    go_meet
                    case rel => exact ⟨rfl, rfl⟩
                  · obtain rfl : o2 = false := by rw [← ho2.out]; exact decide_eq_false hr
                    obtain rfl : k2 = 0 := by rw [E2.out, if_neg hr]
                    clear ho2 hr
                    go_wp2
                    go_meet
                    case rel => exact ⟨rfl, rfl⟩
              case rest =>
                as_aux_lemma =>
                  clear ho2
                  obtain ⟨rfl, hw0⟩ := hcut
                  rw [hw0.out]
                  clear hw0
                  obtain ⟨T2, hT2⟩ : ∃ x, Hid (okN k2 (cntM f a m.toNat) = x) := ⟨_, rfl⟩
                  rw [hT2.out] at HC
                  go_upto_block 0 with fail
                  go_cut [14, 15, 16] from 75 to 91 (fun s14 _ _ wc => s14 = .int .i64 T2 ∧ Hid (wc = w2))
                  case first =>
                    as_aux_lemma =>
                      go_wp2_with fail
                      go_loopw [14, 15, 16] (fun s14 s15 _ wr => ∃ k : Nat, (k2 = 0 → (k : Int) ≤ m) ∧ (k2 ≠ 0 → k = 0) ∧ s15 = .int .i64 k ∧ s14 = .int .i64 (cntM f a k) ∧ Hid (wr = w2)) (fun _ s15 _ _ => m.toNat - (intOf s15).toNat)
                      case atStart => exact ⟨0, fun h0 => by
                        have : ¬ (f < 0 ∨ 1000 < f ∨ a < 0 ∨ 10000 < a ∨ m < 0 ∨ 10000 < m) := fun hr => by rw [E2.out, if_pos hr] at h0; cases h0
                        omega, fun _ => rfl, rfl, rfl, rfl⟩
                      case round =>
                        obtain ⟨k, hk, hk0, rfl, rfl, hwr⟩ := hrel
                        rw [hwr.out]
                        by_cases h0 : k2 = 0
                        · have hn : ¬ (f < 0 ∨ 1000 < f ∨ a < 0 ∨ 10000 < a ∨ m < 0 ∨ 10000 < m) := fun hr => by rw [E2.out, if_pos hr] at h0; cases h0
                          have hkm := hk h0
                          obtain ⟨b1, b2⟩ := cnt_bd f a k
                          subst h0
                          by_cases hlt : (k : Int) < m
                          · have HM1 : Hid (∀ u : World, Calls Tryd.prog 4 #[.int .i64 f, .int .i64 (a + k)] u fun e w' => e = .returned (.bool (markB f (a + k))) ∧ w' = u) := HM.out (a + k) (by omega) (by omega) (by omega) (by omega)
                            have HS : Hid (cntM f a (k + 1) = cntM f a k + if markB f (a + k) then 1 else 0) := rfl
                            have hwk : IntKind.i64.wrap (a + (k : Int)) = a + k := by rw [IntKind.wrap_i64]; omega
                            have hwc : IntKind.i64.wrap (cntM f a k + 1) = cntM f a k + 1 := by rw [IntKind.wrap_i64]; omega
                            have N1 : Hid ((0 : Int) = 0 → ((k + 1 : Nat) : Int) ≤ m) := fun _ => by omega
                            have N2 : Hid (m.toNat - (k + 1) < m.toNat - k) := by show _ < _; omega
                            have hkb : k < 10000 := by omega
                            clear hn hkm b1 b2 hk hk0
                            generalize cntM f a k = c at *
                            cases hmb : markB f (a + k) with
                            | true =>
                              rw [hmb] at HM1 HS
                              have HS' : Hid (cntM f a (k + 1) = c + 1) := HS.out
                              clear hmb HS
                              go_wp2_with fail
                              refine (HM1.out _).mono ?_
                              rintro e w3 ⟨rfl, rfl⟩
                              go_wp2
                              go_roundw
                              case rel => exact ⟨k + 1, N1.out, fun h => absurd rfl h, by go_num, by rw [HS'.out], by first | exact rfl | exact trivial⟩
                              case measure => have := N2.out; simp [intOf]; omega
                            | false =>
                              rw [hmb] at HM1 HS
                              have HS' : Hid (cntM f a (k + 1) = c) := by show _ = _; rw [HS.out]; simp
                              clear hmb HS
                              go_wp2_with fail
                              refine (HM1.out _).mono ?_
                              rintro e w3 ⟨rfl, rfl⟩
                              go_wp2
                              go_roundw
                              case rel => exact ⟨k + 1, N1.out, fun h => absurd rfl h, by go_num, by rw [HS'.out], by first | exact rfl | exact trivial⟩
                              case measure => have := N2.out; simp [intOf]; omega
                          · have hT : Hid (cntM f a k = T2) := by
                              show _ = _
                              rw [← hT2.out, show m.toNat = k by omega]
                              exact (if_pos rfl).symm
                            rw [hT.out]
                            clear hk hk0 hn b1 b2
                            go_wp2
                            go_meet
                            case rel => exact ⟨rfl, by first | exact rfl | exact trivial⟩
                        · obtain rfl := hk0 h0
                          have hT : Hid (cntM f a 0 = T2) := by
                            show _ = _
                            rw [← hT2.out, okN, if_neg h0]
                            rfl
                          have q : (k2 == 0) = false := beq_eq_false_iff_ne.2 h0
                          rw [hT.out]
                          clear hk hk0
                          by_cases hm0 : (0 : Int) < m
                          all_goals
                            go_wp2
                            go_meet
                            case rel => exact ⟨rfl, by first | exact rfl | exact trivial⟩
                  case rest =>
                    as_aux_lemma =>
                      obtain ⟨rfl, hw0⟩ := hcut
                      rw [hw0.out]
                      clear hw0 hT2 E2
                      go_wp2_with fail
                      refine (HC.out _).mono ?_
                      rintro e w3 ⟨rfl, hw3⟩
                      have B3 : Hid (Below w.heap.size w w3) := Bel.call B2.out (Nat.le_refl _) hw3
                      clear hw3
                      go_wp2_with fail
                      refine (HE2.out _ B3.out).mono ?_
                      rintro e w4 ⟨rfl, hw4⟩
                      have B4 : Hid (Below w.heap.size w w4) := Bel.call B3.out (Nat.le_refl _) hw4
                      clear hw4 HC HE2 B3 B2
                      have qt : (T2 == T2) = true := by simp
                      obtain ⟨o3, ho3⟩ : ∃ o, Hid (decide (f < 0 ∨ 1000 < f ∨ m < 0 ∨ 60 < m) = o) := ⟨_, rfl⟩
                      go_upto_region 21 with fail
                      go_cut [120] (fun s120 wc => s120 = .bool o3 ∧ Hid (wc = w4))
                      case first =>
                        as_aux_lemma =>
                          by_cases hr : f < 0 ∨ 1000 < f ∨ m < 0 ∨ 60 < m
                          · obtain rfl : o3 = true := by rw [← ho3.out]; exact decide_eq_true hr
                            have hor : (f < 0) ∨ (¬ f < 0 ∧ 1000 < f) ∨ (¬ f < 0 ∧ ¬ 1000 < f ∧ m < 0) ∨ (¬ f < 0 ∧ ¬ 1000 < f ∧ ¬ m < 0 ∧ 60 < m) := by omega
                            clear ho3 hr
                            rcases hor with c1 | ⟨c1, c2⟩ | ⟨c1, c2, c3⟩ | ⟨c1, c2, c3, c4⟩
                            all_goals
                              go_wp2
                              go_meet
                              case rel => exact ⟨rfl, rfl⟩
                          · obtain rfl : o3 = false := by rw [← ho3.out]; exact decide_eq_false hr
                            have c1 : ¬ f < 0 := by omega
                            have c2 : ¬ 1000 < f := by omega
                            have c3 : ¬ m < 0 := by omega
                            have c4 : ¬ 60 < m := by omega
                            clear ho3 hr
                            go_wp2
                            go_meet
                            case rel => exact ⟨rfl, rfl⟩
                      case rest =>
                        as_aux_lemma =>
                          obtain ⟨rfl, hw0⟩ := hcut
                          rw [hw0.out]
                          clear hw0
                          go_upto_if 120 with fail
                          go_cut [9] (fun s9 wd => s9 = .int .i64 k3 ∧ Hid (wd = w4))
                          case first =>
                            as_aux_lemma =>
                              by_cases hr : f < 0 ∨ 1000 < f ∨ m < 0 ∨ 60 < m
                              · obtain rfl : o3 = true := by rw [← ho3.out]; exact decide_eq_true hr
                                obtain rfl : k3 = 1 := by rw [E3.out, if_pos hr]
                                clear ho3 hr
                                go_wp2
                                go_meet
                                case rel => exact ⟨rfl, rfl⟩
                              · obtain rfl : o3 = false := by rw [← ho3.out]; exact decide_eq_false hr
                                obtain rfl : k3 = 0 := by rw [E3.out, if_neg hr]
                                clear ho3 hr
                                go_wp2
                                go_meet
                                case rel => exact ⟨rfl, rfl⟩
                          case rest =>
                            as_aux_lemma =>
                              clear ho3
                              obtain ⟨rfl, hw0⟩ := hcut
                              rw [hw0.out]
                              clear hw0
                              go_wp2_with fail
                              refine (HL.out _).mono ?_
                              rintro e w5 ⟨y, rfl, hy, hw5⟩
                              have B5 : Hid (Below w.heap.size w w5) := Bel.call B4.out (Nat.le_refl _) hw5
                              clear hw5
                              by_cases h0 : k3 = 0
                              · have hn : ¬ (f < 0 ∨ 1000 < f ∨ m < 0 ∨ 60 < m) := fun hr => by rw [E3.out, if_pos hr] at h0; cases h0
                                obtain ⟨n, rfl⟩ : ∃ n : Nat, m = n := ⟨m.toNat, by omega⟩
                                have hok : okL k3 (markL f (n : Int).toNat) = markL f n := by rw [h0, Int.toNat_natCast]; exact if_pos rfl
                                rw [hok] at hy
                                obtain ⟨ay, cy, rfl, ⟨hn1, hn2⟩, _⟩ := id hy
                                have HX := (show Hid (∀ i, i < (markL f n).length → _) from bools_cells hy)
                                rw [markL_length] at HX hn1 hn2
                                rw [markL_length]
                                have HMa : Hid (∀ k, k < n → (markL f n).getD k false = markB f k) := fun k hk => markL_at f n k hk
                                have HMk : Hid (∀ k : Nat, k < n → ∀ u : World, Calls Tryd.prog 4 #[.int .i64 f, .int .i64 k] u fun e w' => e = .returned (.bool (markB f k)) ∧ w' = u) := fun k hk u => HM.out k (by omega) (by omega) (by omega) (by omega) u
                                have hn60 : n ≤ 60 := by omega
                                subst h0
                                clear hn hy hok E3 HL HM
                                go_wp2_with fail
                                refine (HE3.out _ B5.out).mono ?_
                                rintro e w6 ⟨rfl, hw6⟩
                                have B6 : Hid (Below w.heap.size w w6) := Bel.call B5.out (Nat.le_refl _) hw6
                                have HX6 : Hid (∀ i, i < n → ∃ b off, ay = some ⟨b, off, none⟩ ∧ ∀ u, Below w6.heap.size w6 u → u.cell? ⟨b, off + i, none⟩ = some (.bool ((markL f n).getD i false))) := fun i hi => by
                                  obtain ⟨b, off, e, hc⟩ := HX.out i hi
                                  exact ⟨b, off, e, fun u hu => hc u (hw6.trans (hu.mono hw6.size))⟩
                                clear hw6 HX
                                have qn : ((n : Int) == (n : Int)) = true := by simp
                                go_wp2
                                go_loopw [20, 21] (fun s20 s21 wr => ∃ k : Nat, k ≤ n ∧ s21 = .int .i64 k ∧ s20 = .bool true ∧ Hid (Below w6.heap.size w6 wr)) (fun _ s21 _ => n - (intOf s21).toNat)
                                case atStart => exact ⟨0, by omega, rfl, rfl, Below.refl _ _⟩
                                case round =>
                                  obtain ⟨k, hk, rfl, rfl, hwr⟩ := hrel
                                  by_cases hlt : k < n
                                  · obtain ⟨b, off, rfl, hc⟩ := HX6.out k hlt
                                    have c0 := hc _ hwr.out
                                    rw [HMa.out k hlt] at c0
                                    have HMk' : Hid (∀ u : World, Calls Tryd.prog 4 #[.int .i64 f, .int .i64 k] u fun e w' => e = .returned (.bool (markB f k)) ∧ w' = u) := HMk.out k hlt
                                    generalize markB f k = mb at *
                                    have qm : (mb == mb) = true := by simp
                                    have HBr : Hid (∀ q, Below w6.heap.size w6 (wr.drewN q)) := fun q => below_drewN hwr.out _
                                    clear hc
                                    go_wp2_with fail
                                    go_quiet ((go_at_call 4; exact Calls.quiet_of_same (HMk'.out _)))
                                    have HB2 : Hid (Below w6.heap.size w6 (wr.drewN nq)) := HBr.out nq
                                    generalize wr.drewN nq = wz at *
                                    go_wp2
                                    go_roundw
                                    case rel => exact ⟨k + 1, by omega, by go_num, rfl, HB2⟩
                                    case measure => simp [intOf]; omega
                                  · obtain rfl : k = n := by omega
                                    have BF : Hid (Below w.heap.size w wr) := Bel.call B6.out (Nat.le_refl _) hwr.out
                                    go_wp2
                                    go_ret
                                    exact ⟨Ns.ret_bool rfl, BF.out⟩
                              · have hok : okL k3 (markL f m.toNat) = [] := if_neg h0
                                rw [hok] at hy
                                obtain ⟨ay, cy, rfl, ⟨hn1, hn2⟩, _⟩ := hy
                                have q1 : (k3 != 0) = true := by simp [h0]
                                have q2 : (k3 == 0) = false := beq_eq_false_iff_ne.2 h0
                                simp only [List.length_nil]
                                go_wp2_with fail
                                refine (HE3.out _ B5.out).mono ?_
                                rintro e w6 ⟨rfl, hw6⟩
                                have B6 : Hid (Below w.heap.size w w6) := Bel.call B5.out (Nat.le_refl _) hw6
                                clear hw6
                                go_wp2
                                go_loopw [20, 21] (fun s20 s21 wr => s21 = .int .i64 0 ∧ s20 = .bool true ∧ Hid (wr = w6)) (fun _ _ _ => 0)
                                case atStart => exact ⟨rfl, rfl, rfl⟩
                                case round =>
                                  obtain ⟨rfl, rfl, hwr⟩ := hrel
                                  rw [hwr.out]
                                  go_wp2
                                  go_ret
                                  exact ⟨Ns.ret_bool rfl, B6.out⟩
end Ev
end Go.Proofs.YtedplgkohppakagDoor
