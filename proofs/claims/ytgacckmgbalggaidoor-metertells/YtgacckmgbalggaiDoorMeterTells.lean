/- The law MeterTells returns true for every input, from what is asked of package meter's calls. -/
import Derived.Test.YtgacckmgbalggaiDoorPlains
import Derived.Test.YtgacckmgbalggaiDoorRMet
import Derived.Test.YtgacckmgbalggaiDoorRTicks
import Derived.Test.YtgacckmgbalggaiDoorSameI
import Derived.Test.YtgacckmgbalggaiDoorToldB
import Derived.Deep.DeepCutAuto
import Derived.Deep.CutBlock
namespace Go.Proofs.YtgacckmgbalggaiDoor
namespace Ev
open Go.RowKit Fr Ns Ld Fl
set_option linter.unusedSimpArgs false
set_option linter.unusedVariables false

theorem okM_0 (n : Int) : okN 0 n = n := if_pos rfl
theorem okM_ne {k : Int} (h : k ≠ 0) (n : Int) : okN k n = 0 := if_neg h
theorem metE_or (s r h : Int) : metE s r h = 0 ∨ metE s r h = 1 := by
  unfold metE
  split
  · exact .inr rfl
  · exact .inl rfl
theorem waitM_bd (s x c : Int) : 0 ≤ waitM s x c ∧ waitM s x c ≤ 10000 := by
  unfold waitM
  split
  · omega
  · split <;> omega
/-- the meter's state, tick by tick -/
theorem mt_at {s r h q : Int} {l : List Int} (he : mnxE s r h q = 0) (k : Nat) (hk : k ≤ l.length) :
    0 ≤ (mtSt s h q (l.take k)).1 ∧ (mtSt s h q (l.take k)).1 ≤ 10000 ∧ 1 ≤ (mtSt s h q (l.take k)).2.1 ∧ (mtSt s h q (l.take k)).2.1 ≤ 1000 ∧ (mtSt s h q (l.take k)).2.2.length = k := by
  obtain ⟨h0, q1, q2⟩ := mnxE_0.1 he
  obtain ⟨s1, s2, r1, r2, h1, h2⟩ := metE_0.1 h0
  induction k with
  | zero => simp [mtSt]; omega
  | succ k ih =>
    have i := ih (by omega)
    rw [mtSt_step s h q l k (by omega)]
    have b := waitM_bd s (mtSt s h q (l.take k)).1 (l.getD k 0)
    have c := next_bd (cap := s) (came := l.getD k 0) (wait := waitM s (mtSt s h q (l.take k)).1 (l.getD k 0)) (rate := (mtSt s h q (l.take k)).2.1) s1
    simp only [stepM, List.length_append, List.length_cons, List.length_nil]
    omega

set_option maxRecDepth 100000 in
set_option maxHeartbeats 8000000 in
theorem meterTells_walk (hC : MtCheckSaid) (hN : MtNextSaid) (hR : MtRunSaid) (s r h q : Int) (l : List Int) (v : Value) (w : World)
    (hg : w.cell? ⟨0, 0, none⟩ = some handleV) (hv : IntsAt (fun b => b < w.heap.size) w v l) :
    Calls Tryd.prog 3 #[.agg #[.int .i64 s, .int .i64 r, .int .i64 h], .int .i64 q, v] w fun e w' => e = .returned (.bool true) ∧ Below w.heap.size w w' := by
  have HKp : Hid (∀ u : World, Below (w.heap.size + 1) (w.alloc (.cells #[.int .i64 s, .int .i64 r, .int .i64 h] 23)) u → Below w.heap.size w u ∧ RowAt u w.heap.size 23 [.int .i64 s, .int .i64 r, .int .i64 h] ∧ w.heap.size + 1 ≤ u.heap.size) := fun u hu => by
    have hs := hu.size
    simp at hs
    exact ⟨((Below.refl _ _).alloc (Nat.le_refl _) _).trans (hu.mono (by omega)), (row_made w _ _ _ _ rfl rfl).later hu (by omega), hs⟩
  have HRM : Hid (∀ u : World, Calls Tryd.prog 4 #[.agg #[.int .i64 s, .int .i64 r, .int .i64 h]] u fun e w' => e = .returned (.int .i64 (metE s r h)) ∧ Below u.heap.size u w') := fun u => RMeter_any s r h u
  have HCh : Hid (∀ u : World, Calls Tryd.prog 6 #[.agg #[.int .i64 s, .int .i64 r, .int .i64 h]] u fun e w' => e = .returned (errV (metE s r h)) ∧ Below u.heap.size u w') := fun u => hC s r h u
  have HRN : Hid (∀ a b c : Int, metE s a b = 0 → 1 ≤ c → c ≤ 1000 → ∀ u : World, Calls Tryd.prog 7 #[.agg #[.int .i64 s, .int .i64 a, .int .i64 b], .int .i64 c] u fun e w' => e = .returned (.int .i64 (nextM s a b c)) ∧ Below u.heap.size u w') := fun a b c h1 h2 h3 u => RNext_any s a b c u h1 h2 h3
  have HNx : Hid (∀ u : World, Calls Tryd.prog 8 #[.agg #[.int .i64 s, .int .i64 r, .int .i64 h], .int .i64 q] u fun e w' => e = .returned (.tuple #[.int .i64 (okN (mnxE s r h q) (nextM s r h q)), errV (mnxE s r h q)]) ∧ Below u.heap.size u w') := fun u => hN s r h q u
  have HTk : Hid (∀ u : World, Below w.heap.size w u → Calls Tryd.prog 9 #[v] u fun e w' => e = .returned (.int .i64 (ticksE l)) ∧ w' = u) := fun u hu => RTicks_any l v u (hv.later hu)
  have HRn : Hid (∀ u : World, Below w.heap.size w u → Calls Tryd.prog 10 #[.agg #[.int .i64 s, .int .i64 r, .int .i64 h], .int .i64 q, v] u fun e w' => ∃ y, e = .returned (.tuple #[y, errV (mrnE s r h q l)]) ∧ IntsAt (fun b => u.heap.size ≤ b) w' y (okL (mrnE s r h q l) (runM s h q l)) ∧ Below u.heap.size u w') := fun u hu => hR _ s r h q l v u (hv.later hu)
  have HEr : Hid (∀ (k : Int) (u : World), Below w.heap.size w u → Calls Tryd.prog 5 #[errV k, .int .i64 k] u fun e w' => e = .returned (.bool true) ∧ Below u.heap.size u w') := fun k u hu => by
    have := Error_any k k u (cell_later hu hg)
    rw [beq_self_eq_true] at this
    exact this
  have HIn : Hid (∀ (x y : Value) (g : List Int) (u : World), IntsAt (fun _ => True) u x g → IntsAt (fun _ => True) u y g → Calls Tryd.prog 11 #[x, y] u fun e w' => e = .returned (.bool true) ∧ ∃ n, w' = u.drewN n) := fun x y g u hx hy => by
    have := SInts_any g g x y u hx hy
    rw [show eqI g g = true by simp [eqI]] at this
    exact this
  have HCl : Hid (∀ i, i < l.length → ∃ a c b off, v = .slice a l.length c ∧ a = some ⟨b, off, none⟩ ∧ ∀ u, Below w.heap.size w u → u.cell? ⟨b, off + i, none⟩ = some (.int .i64 (l.getD i 0))) := fun i hi => by
    obtain ⟨a, cap, rfl, h1, h2⟩ := id hv
    obtain ⟨b, off, e, hc⟩ := ints_cells hv i hi
    exact ⟨a, cap, b, off, rfl, e, hc⟩
  have HNE : Hid (mnxE s r h q = if metE s r h = 0 then (if q < 1 ∨ 1000 < q then 1 else 0) else metE s r h) := rfl
  have HRE : Hid (mrnE s r h q l = if mnxE s r h q = 0 then ticksE l else mnxE s r h q) := rfl
  have HNb : Hid (mnxE s r h q = 0 → metE s r h = 0 ∧ 1 ≤ q ∧ q ≤ 1000 ∧ 1 ≤ s ∧ s ≤ 1000) := fun he => by
    obtain ⟨h0, q1, q2⟩ := mnxE_0.1 he
    obtain ⟨s1, s2, _⟩ := metE_0.1 h0
    exact ⟨h0, q1, q2, s1, s2⟩
  have HAt := (show Hid (mnxE s r h q = 0 → ∀ k, k ≤ l.length → _) from fun he k hk => mt_at he k hk)
  have HLe : Hid (ticksE l = 0 → l.length ≤ 60 ∧ ∀ k, k < l.length → 0 ≤ l.getD k 0 ∧ l.getD k 0 ≤ 10000) := fun h1 => ⟨(ticksE_0.1 h1).1, fun k hk => (ticksE_0.1 h1).2 _ (getD_mem l k hk 0)⟩
  have HSt : Hid (∀ k, k < l.length → mtSt s h q (l.take (k + 1)) = stepM s (mtSt s h q (l.take k)) (l.getD k 0)) := fun k hk => mtSt_step s h q l k hk
  have HS0 : Hid (mtSt s h q (l.take 0) = (h, q, [])) := rfl
  have HSl : Hid ((mtSt s h q (l.take l.length)).2.2 = runM s h q l) := by show _ = _; rw [take_all (Nat.le_refl _)]; rfl
  have HOr := metE_or s r h
  obtain ⟨a, cap, rfl, ⟨hm1, hm2⟩, _⟩ := hv
  obtain ⟨T, hT'⟩ : ∃ T : Nat → Int × Int × List Int, ∀ k, mtSt s h q (l.take k) = T k := ⟨_, fun _ => rfl⟩
  simp only [hT'] at HAt HSt HS0 HSl
  clear hT'
  generalize runM s h q l = RL at *
  generalize mrnE s r h q l = re at *
  generalize mnxE s r h q = ne at *
  generalize ticksE l = tk at *
  obtain ⟨e0, he0⟩ : ∃ e, Hid (metE s r h = e) := ⟨_, rfl⟩
  have HRq : Hid (ne = 0 → ∀ u : World, Calls Tryd.prog 7 #[.agg #[.int .i64 s, .int .i64 r, .int .i64 h], .int .i64 q] u fun e w' => e = .returned (.int .i64 (nextM s r h q)) ∧ Below u.heap.size u w') := fun h1 u => by
    obtain ⟨x1, x2, x3, _⟩ := HNb.out h1
    exact HRN.out r h q x1 x2 x3 u
  rw [he0.out] at HRM HCh HNE HOr
  generalize nextM s r h q = nx at *
  have HE1 : Hid (∀ u : World, Below w.heap.size w u → Calls Tryd.prog 5 #[errV e0, .int .i64 e0] u fun e w' => e = .returned (.bool true) ∧ Below u.heap.size u w') := HEr.out e0
  have HE2 : Hid (∀ u : World, Below w.heap.size w u → Calls Tryd.prog 5 #[errV ne, .int .i64 ne] u fun e w' => e = .returned (.bool true) ∧ Below u.heap.size u w') := HEr.out ne
  have HE3 : Hid (∀ u : World, Below w.heap.size w u → Calls Tryd.prog 5 #[errV re, .int .i64 re] u fun e w' => e = .returned (.bool true) ∧ Below u.heap.size u w') := HEr.out re
  clear hC hN hR hg HEr
  obtain ⟨W0, HW0⟩ : ∃ W0, Hid (w.alloc (.cells #[.int .i64 s, .int .i64 r, .int .i64 h] 23) = W0) := ⟨_, rfl⟩
  rw [HW0.out] at HKp
  have K0 : Hid (Below (w.heap.size + 1) W0 W0) := Below.refl _ _
  go_enter Tryd.func3, Tryd.ntmps3
  go_upto_region 1 with fail
  rw [HW0.out]
  obtain ⟨B0, R0, S0⟩ := HKp.out _ K0.out
  obtain ⟨d0, d1, d2, z0, z1, z2, hgz⟩ := R0.three
  go_wp2_with fail
  refine (HRM.out _).mono ?_
  rintro e w1 ⟨rfl, hw1⟩
  have K1 : Hid (Below (w.heap.size + 1) W0 w1) := Bel.call K0.out S0 hw1
  clear hw1 d0 d1 d2 z0 z1 z2 hgz R0 B0
  obtain ⟨B1, R1, S1⟩ := HKp.out _ K1.out
  obtain ⟨d0, d1, d2, z0, z1, z2, hgz⟩ := R1.three
  go_wp2_with fail
  refine (HCh.out _).mono ?_
  rintro e w2 ⟨rfl, hw2⟩
  have K2 : Hid (Below (w.heap.size + 1) W0 w2) := Bel.call K1.out S0 hw2
  clear hw2 d0 d1 d2 z0 z1 z2 hgz R1 B1
  obtain ⟨B2, R2, S2⟩ := HKp.out _ K2.out
  go_wp2_with fail
  refine (HE1.out _ B2).mono ?_
  rintro e w3 ⟨rfl, hw3⟩
  have K3 : Hid (Below (w.heap.size + 1) W0 w3) := Bel.call K2.out S0 hw3
  clear hw3 R2 B2 S2 S1 K2 K1 K0 HRM HCh HE1
  obtain ⟨o1, ho1⟩ : ∃ o, Hid ((decide (e0 = 0) && decide (q < 1 ∨ 1000 < q)) = o) := ⟨_, rfl⟩
  go_upto_region 3 with fail
  go_cut [34] (fun s34 wc => s34 = .bool o1 ∧ Hid (wc = w3))
  case first =>
    as_aux_lemma =>
      rcases HOr with rfl | rfl
      · by_cases c1 : q < 1
        · obtain rfl : o1 = true := by rw [← ho1.out]; simp; omega
          clear ho1
          go_wp2
          go_meet
          case rel => exact ⟨rfl, rfl⟩
        · by_cases c2 : 1000 < q
          · obtain rfl : o1 = true := by rw [← ho1.out]; simp; omega
            clear ho1
            go_wp2
            go_meet
            case rel => exact ⟨rfl, rfl⟩
          · obtain rfl : o1 = false := by rw [← ho1.out]; simp; omega
            clear ho1
            go_wp2
            go_meet
            case rel => exact ⟨rfl, rfl⟩
      · obtain rfl : o1 = false := by rw [← ho1.out]; rfl
        clear ho1
        go_wp2
        go_meet
        case rel => exact ⟨rfl, rfl⟩
  case rest =>
    as_aux_lemma =>
      obtain ⟨rfl, hw0⟩ := hcut
      rw [hw0.out]
      clear hw0
      go_upto_if 34 with fail
      go_cut [7] (fun s7 wc => s7 = .int .i64 ne ∧ Hid (wc = w3))
      case first =>
        as_aux_lemma =>
          rcases HOr with rfl | rfl
          · by_cases c1 : q < 1 ∨ 1000 < q
            · obtain rfl : o1 = true := by rw [← ho1.out]; simpa using c1
              obtain rfl : ne = 1 := by rw [HNE.out, if_pos rfl, if_pos c1]
              clear ho1 c1
              go_wp2
              go_meet
              case rel => exact ⟨rfl, rfl⟩
            · obtain rfl : o1 = false := by rw [← ho1.out]; simp; omega
              obtain rfl : ne = 0 := by rw [HNE.out, if_pos rfl, if_neg c1]
              clear ho1 c1
              go_wp2
              go_meet
              case rel => exact ⟨rfl, rfl⟩
          · obtain rfl : o1 = false := by rw [← ho1.out]; rfl
            obtain rfl : ne = 1 := by rw [HNE.out, if_neg (by decide)]
            clear ho1
            go_wp2
            go_meet
            case rel => exact ⟨rfl, rfl⟩
      case rest =>
        as_aux_lemma =>
          obtain ⟨rfl, hw0⟩ := hcut
          rw [hw0.out]
          clear hw0 ho1 HOr HNE he0
          obtain ⟨B3, R3, S3⟩ := HKp.out _ K3.out
          obtain ⟨d0, d1, d2, z0, z1, z2, hgz⟩ := R3.three
          go_upto_if 36 with fail
          go_cut [9] (fun s9 wc => s9 = .int .i64 (okN ne nx) ∧ Hid (Below (w.heap.size + 1) W0 wc))
          case first =>
            as_aux_lemma =>
              by_cases h0 : ne = 0
              · have HR' : Hid (∀ u : World, Calls Tryd.prog 7 #[.agg #[.int .i64 s, .int .i64 r, .int .i64 h], .int .i64 q] u fun e w' => e = .returned (.int .i64 nx) ∧ Below u.heap.size u w') := HRq.out h0
                subst h0
                go_wp2_with fail
                refine (HR'.out _).mono ?_
                rintro e w4 ⟨rfl, hw4⟩
                have K4 : Hid (Below (w.heap.size + 1) W0 w4) := Bel.call K3.out S0 hw4
                clear hw4 d0 d1 d2 z0 z1 z2 hgz
                go_wp2
                go_meet
                case rel => exact ⟨by rw [okM_0], K4⟩
              · have qn : (ne == 0) = false := beq_eq_false_iff_ne.2 h0
                go_wp2
                go_meet
                case rel => exact ⟨by rw [okM_ne h0], K3⟩
          case rest =>
            as_aux_lemma =>
              clear d0 d1 d2 z0 z1 z2 hgz R3 B3 S3 K3
              obtain ⟨w5, rfl⟩ : ∃ x : World, x = wc := ⟨_, rfl⟩
              obtain ⟨rfl, K5⟩ := hcut
              obtain ⟨B5, R5, S5⟩ := HKp.out _ K5.out
              obtain ⟨d0, d1, d2, z0, z1, z2, hgz⟩ := R5.three
              generalize okN ne nx = on at *
              go_wp2_with fail
              refine (HNx.out _).mono ?_
              rintro e w6 ⟨rfl, hw6⟩
              have K6 : Hid (Below (w.heap.size + 1) W0 w6) := Bel.call K5.out S0 hw6
              clear hw6 d0 d1 d2 z0 z1 z2 hgz R5 B5 S5 K5
              obtain ⟨B6, R6, S6⟩ := HKp.out _ K6.out
              go_wp2_with fail
              refine (HE2.out _ B6).mono ?_
              rintro e w7 ⟨rfl, hw7⟩
              have K7 : Hid (Below (w.heap.size + 1) W0 w7) := Bel.call K6.out S0 hw7
              clear hw7 B6 R6 S6 K6 HNx HE2 HRq
              obtain ⟨B7, R7, S7⟩ := HKp.out _ K7.out
              have qo : (on == on) = true := by simp
              go_upto_if 55 with fail
              go_cut [7] (fun s7 wc => s7 = .int .i64 re ∧ Hid (wc = w7))
              case first =>
                as_aux_lemma =>
                  by_cases h0 : ne = 0
                  · obtain rfl : re = tk := by rw [HRE.out, if_pos h0]
                    subst h0
                    clear HRE
                    go_wp2_with fail
                    refine (HTk.out _ B7).mono ?_
                    rintro e w8 ⟨rfl, rfl⟩
                    go_wp2
                    go_meet
                    case rel => exact ⟨rfl, rfl⟩
                  · have HV : Hid (re = ne) := by show _ = _; rw [HRE.out, if_neg h0]
                    have qn : (ne == 0) = false := beq_eq_false_iff_ne.2 h0
                    clear HRE
                    go_wp2
                    go_meet
                    case rel => exact ⟨by rw [HV.out], rfl⟩
              case rest =>
                as_aux_lemma =>
                  obtain ⟨rfl, hw0⟩ := hcut
                  rw [hw0.out]
                  clear hw0 qo
                  obtain ⟨d0, d1, d2, z0, z1, z2, hgz⟩ := R7.three
                  have EX : Hid (RowAt (w7.alloc (.cells #[.int .i64 s, .int .i64 r, .int .i64 h] 23)) w7.heap.size 23 [.int .i64 s, .int .i64 r, .int .i64 h]) := row_made w7 _ _ _ _ rfl rfl
                  have KX : Hid (Below (w.heap.size + 1) W0 (w7.alloc (.cells #[.int .i64 s, .int .i64 r, .int .i64 h] 23))) := K7.out.alloc S7 _
                  have ZX : Hid ((w7.alloc (.cells #[.int .i64 s, .int .i64 r, .int .i64 h] 23)).heap.size = w7.heap.size + 1) := by simp [Hid]
                  go_upto_block 0 with fail
                  clear d0 d1 d2 z0 z1 z2 hgz R7 B7 K7 HTk
                  generalize (w7.alloc (.cells #[.int .i64 s, .int .i64 r, .int .i64 h] 23)) = w8 at *
                  obtain ⟨gx, hgx⟩ : ∃ g, Hid (w7.heap.size = g) := ⟨_, rfl⟩
                  rw [hgx.out] at EX ZX
                  rw [hgx.out]
                  have Sx : w.heap.size + 1 ≤ gx := by have := hgx.out; omega
                  clear hgx S7
                  obtain ⟨i0, hi, hz0, hz1, hz2⟩ := info_parts infoInt
                  go_cut [13, 15, 16] from 60 to 100 (fun s13 _ _ wc => (∃ a n k, s13 = .slice a n k) ∧ Hid (IntsAt (fun _ => True) wc s13 (okL re RL)) ∧ Hid (Below (w.heap.size + 1) W0 wc))
                  case first =>
                    as_aux_lemma =>
                      clear HRn HE3 HIn
                      have HNil : Hid (∀ u : World, IntsAt (fun _ => True) u (.slice none 0 0) []) := fun u => ⟨none, 0, rfl, ⟨Nat.le_refl _, by simp⟩, .inl rfl⟩
                      by_cases hre : re = 0
                      · have hne : ne = 0 ∧ tk = 0 := by
                          by_cases h0 : ne = 0
                          · rw [HRE.out, if_pos h0] at hre; exact ⟨h0, hre⟩
                          · rw [HRE.out, if_neg h0] at hre; exact absurd hre h0
                        obtain ⟨hne1, hne2⟩ := hne
                        have HAt' := (show Hid (∀ k, k ≤ l.length → _) from HAt.out hne1)
                        obtain ⟨h60, hLe⟩ := HLe.out hne2
                        have HLe' : Hid (∀ k, k < l.length → 0 ≤ l.getD k 0 ∧ l.getD k 0 ≤ 10000) := hLe
                        obtain ⟨_, _, _, s1, s2⟩ := HNb.out hne1
                        have HOk : Hid (okL re RL = RL) := by rw [hre]; exact if_pos rfl
                        subst hre
                        clear HRE HAt HLe HNb hne1 hne2 hLe
                        go_wp2_with fail
                        go_loopw [13, 15, 16] (fun s13 s15 s16 wr => ∃ (k : Nat) (cm : Int), k ≤ l.length ∧ s16 = .int .i64 k ∧ s15 = .int .i64 (T k).2.1 ∧ Hid (wr.ownsRow (gx + 1) 3 1 s13 k ((T k).2.2.map (Value.int .i64))) ∧ Hid (RowAt wr gx 23 [.int .i64 s, .int .i64 cm, .int .i64 ((T k).1)]) ∧ Hid (Below (w.heap.size + 1) W0 wr)) (fun _ _ s16 _ => l.length - (intOf s16).toNat)
                        case atStart => exact ⟨0, r, by omega, rfl, by rw [HS0.out], by rw [HS0.out]; exact World.ownsRow_nil _ _ _ _, by rw [HS0.out]; exact EX, KX⟩
                        case round =>
                          obtain ⟨k, cm, hk, rfl, rfl, hown, hrow, hK⟩ := hrel
                          obtain ⟨Bk, Rk, Sk⟩ := HKp.out _ hK.out
                          by_cases hlt : k < l.length
                          · obtain ⟨_, _, bl, off, e1, rfl, hc⟩ := HCl.out k hlt
                            simp only [Value.slice.injEq] at e1
                            obtain ⟨rfl, -, rfl⟩ := e1
                            obtain ⟨x1, x2, x3, x4, x5⟩ := HAt'.out k hk
                            obtain ⟨y1', y2'⟩ := HLe'.out k hlt
                            have hst := HSt.out k hlt
                            have e1 : (T (k + 1)).1 = waitM s (T k).1 (l.getD k 0) := by rw [hst]; rfl
                            have e2 : (T (k + 1)).2.1 = nextM s (l.getD k 0) (waitM s (T k).1 (l.getD k 0)) (T k).2.1 := by rw [hst]; rfl
                            have e3 : (T (k + 1)).2.2 = (T k).2.2 ++ [nextM s (l.getD k 0) (waitM s (T k).1 (l.getD k 0)) (T k).2.1] := by rw [hst]; rfl
                            have hwb := waitM_bd s (T k).1 (l.getD k 0)
                            have HQ : Hid (∀ u : World, Calls Tryd.prog 7 #[.agg #[.int .i64 s, .int .i64 (l.getD k 0), .int .i64 (waitM s (T k).1 (l.getD k 0))], .int .i64 (T k).2.1] u fun e w' => e = .returned (.int .i64 (nextM s (l.getD k 0) (waitM s (T k).1 (l.getD k 0)) (T k).2.1)) ∧ Below u.heap.size u w') := HRN.out _ _ _ (metE_0.2 (by omega)) x3 x4
                            have hwm : waitM s (T k).1 (l.getD k 0) = if (T k).1 + l.getD k 0 - s < 0 then 0 else if 10000 < (T k).1 + l.getD k 0 - s then 10000 else (T k).1 + l.getD k 0 - s := rfl
                            generalize nextM s (l.getD k 0) (waitM s (T k).1 (l.getD k 0)) (T k).2.1 = nn at *
                            generalize waitM s (T k).1 (l.getD k 0) = wt at *
                            have Hc : Hid (∀ u, Below w.heap.size w u → u.cell? ⟨bl, off + k, none⟩ = some (.int .i64 (l.getD k 0))) := fun u hu => hc u hu
                            have E1 : Hid ((T (k + 1)).1 = wt) := e1
                            have E2 : Hid ((T (k + 1)).2.1 = nn) := e2
                            have E3 : Hid ((T (k + 1)).2.2 = (T k).2.2 ++ [nn]) := e3
                            clear e1 e2 e3 hst hc
                            generalize l.getD k 0 = y at *
                            generalize (T k).1 = X at *
                            generalize (T k).2.1 = Rt at *
                            generalize (T k).2.2 = so at *
                            have v1 : IntKind.i64.wrap (X + y) = X + y := by rw [IntKind.wrap_i64]; omega
                            have v2 : IntKind.i64.wrap (X + y - s) = X + y - s := by rw [IntKind.wrap_i64]; omega
                            have Sx0 : w.heap.size ≤ gx := by omega
                            have c0 := Hc.out _ Bk
                            obtain ⟨d0, d1, d2, z0, z1, z2, hgz⟩ := hrow.out.three
                            have RA : Hid (RowAt (wr.setCell ⟨gx, 1, none⟩ (.int .i64 y)) gx 23 [.int .i64 s, .int .i64 y, .int .i64 X]) := hrow.out.set 1 _
                            have KA : Hid (Below (w.heap.size + 1) W0 (wr.setCell ⟨gx, 1, none⟩ (.int .i64 y))) := hK.out.setCell Sx _
                            have OA : Hid ((wr.setCell ⟨gx, 1, none⟩ (.int .i64 y)).ownsRow (gx + 1) 3 1 u13 k (so.map (Value.int .i64))) := own_keeps (fun g hg1 hg2 => stay_set _ _ _ _ _ (by omega)) hown.out
                            have CA : Hid ((wr.setCell ⟨gx, 1, none⟩ (.int .i64 y)).cell? ⟨bl, off + k, none⟩ = some (.int .i64 y)) := Hc.out _ (HKp.out _ KA.out).1
                            go_upto_region 19 with fail
                            clear d0 d1 d2 z0 z1 z2 hgz c0 hrow hK hown Bk Rk Sk
                            generalize (wr.setCell ⟨gx, 1, none⟩ (.int .i64 y)) = wA at *
                            have c0 := CA.out
                            obtain ⟨d0, d1, d2, z0, z1, z2, hgz⟩ := RA.out.three
                            have RB : Hid (RowAt ((wA.setCell ⟨gx, 2, none⟩ (.int .i64 (X + y - s))).drew) gx 23 [.int .i64 s, .int .i64 y, .int .i64 (X + y - s)]) := RA.out.set 2 _
                            have KB : Hid (Below (w.heap.size + 1) W0 ((wA.setCell ⟨gx, 2, none⟩ (.int .i64 (X + y - s))).drew)) := (KA.out.setCell Sx _).drew
                            have OB : Hid (((wA.setCell ⟨gx, 2, none⟩ (.int .i64 (X + y - s))).drew).ownsRow (gx + 1) 3 1 u13 k (so.map (Value.int .i64))) := own_keeps (fun g hg1 hg2 => stay_set _ _ _ _ _ (by omega)) OA.out
                            go_region
                            clear d0 d1 d2 z0 z1 z2 hgz c0 CA RA KA OA
                            generalize ((wA.setCell ⟨gx, 2, none⟩ (.int .i64 (X + y - s))).drew) = wB at *
                            obtain ⟨d0, d1, d2, z0, z1, z2, hgz⟩ := RB.out.three
                            have hways : (X + y - s < 0 ∧ wt = 0) ∨ (¬ X + y - s < 0 ∧ 10000 < X + y - s ∧ wt = 10000) ∨ (¬ X + y - s < 0 ∧ ¬ 10000 < X + y - s ∧ wt = X + y - s) := by
                              by_cases a1 : X + y - s < 0
                              · exact .inl ⟨a1, by rw [hwm, if_pos a1]⟩
                              · by_cases a2 : 10000 < X + y - s
                                · exact .inr (.inl ⟨a1, a2, by rw [hwm, if_neg a1, if_pos a2]⟩)
                                · exact .inr (.inr ⟨a1, a2, by rw [hwm, if_neg a1, if_neg a2]⟩)
                            clear hwm hwb v1 v2 x1 x2 x3 x4 y1' y2'
                            rcases hways with ⟨a1, rfl⟩ | ⟨a1, a2, rfl⟩ | ⟨a1, a2, rfl⟩
                            · have RC : Hid (RowAt (wB.setCell ⟨gx, 2, none⟩ (.int .i64 0)) gx 23 [.int .i64 s, .int .i64 y, .int .i64 0]) := RB.out.set 2 _
                              have KC : Hid (Below (w.heap.size + 1) W0 (wB.setCell ⟨gx, 2, none⟩ (.int .i64 0))) := KB.out.setCell Sx _
                              have OC : Hid ((wB.setCell ⟨gx, 2, none⟩ (.int .i64 0)).ownsRow (gx + 1) 3 1 u13 k (so.map (Value.int .i64))) := own_keeps (fun g hg1 hg2 => stay_set _ _ _ _ _ (by omega)) OB.out
                              go_upto_region 24 with fail
                              clear d0 d1 d2 z0 z1 z2 hgz RB KB OB
                              generalize (wB.setCell ⟨gx, 2, none⟩ (.int .i64 0)) = wC at *
                              obtain ⟨d0, d1, d2, z0, z1, z2, hgz⟩ := RC.out.three
                              go_wp2_with fail
                              refine (HQ.out _).mono ?_
                              rintro e wD ⟨rfl, hwD⟩
                              have RD : Hid (RowAt wD gx 23 [.int .i64 s, .int .i64 y, .int .i64 0]) := RC.out.later hwD RC.out.lt
                              have KD : Hid (Below (w.heap.size + 1) W0 wD) := Bel.call KC.out S0 hwD
                              have OD : Hid (wD.ownsRow (gx + 1) 3 1 u13 k (so.map (Value.int .i64))) := own_keeps (fun g hg1 hg2 => hwD.block g hg2) OC.out
                              have SD : Hid (gx + 1 ≤ wD.heap.size) := RD.out.lt
                              obtain ⟨a6, c6, rfl⟩ := own_slice OD.out
                              clear hwD d0 d1 d2 z0 z1 z2 hgz RC KC OC
                              go_wp2_with (at_builtin; go_must (refine wpList_append_own _ rfl (.tmp 97) (.tmp 99) 24 rfl (gx + 1) 3 i0 (.int .i64 0) 1 8 Tryd.underlying24 hi hz0 hz1 hz2 rfl (by decide) _ _ _ rfl (OD.out.alloc _) ⟨_, 0, none⟩ 1 1 [.int .i64 nn] rfl rfl (new1 _ _ _ _ ?c1) (by intro u hu; simp at hu; subst hu; rfl) (by unfold maxLen; omega) (by omega) ?c2 ?_))
                              case c1 => simp
                              case c2 => have := SD.out; simp; omega
                              intro v' wg hown' hgrow _
                              have hG := grew1 (B := gx + 1) SD.out hgrow (fun k hk => (OD.out.lt k hk).1)
                              have OE : Hid (wg.ownsRow (gx + 1) 3 1 v' (k + 1) ((T (k + 1)).2.2.map (Value.int .i64))) := by
                                show World.ownsRow _ _ _ _ _ _ _
                                rw [E3.out, List.map_append]
                                simpa using hown'
                              have RE : Hid (RowAt wg gx 23 [.int .i64 s, .int .i64 y, .int .i64 ((T (k + 1)).1)]) := by
                                rw [E1.out]
                                exact RD.out.later hG (by omega)
                              have KE : Hid (Below (w.heap.size + 1) W0 wg) := KD.out.trans (hG.mono (by omega))
                              clear hown' hgrow hG
                              go_wp2
                              go_roundw
                              case rel => exact ⟨k + 1, y, by omega, by go_num, by rw [E2.out], OE, RE, KE⟩
                              case measure => simp [intOf]; omega
                            · have RC : Hid (RowAt (wB.setCell ⟨gx, 2, none⟩ (.int .i64 10000)) gx 23 [.int .i64 s, .int .i64 y, .int .i64 10000]) := RB.out.set 2 _
                              have KC : Hid (Below (w.heap.size + 1) W0 (wB.setCell ⟨gx, 2, none⟩ (.int .i64 10000))) := KB.out.setCell Sx _
                              have OC : Hid ((wB.setCell ⟨gx, 2, none⟩ (.int .i64 10000)).ownsRow (gx + 1) 3 1 u13 k (so.map (Value.int .i64))) := own_keeps (fun g hg1 hg2 => stay_set _ _ _ _ _ (by omega)) OB.out
                              go_upto_region 24 with fail
                              clear d0 d1 d2 z0 z1 z2 hgz RB KB OB
                              generalize (wB.setCell ⟨gx, 2, none⟩ (.int .i64 10000)) = wC at *
                              obtain ⟨d0, d1, d2, z0, z1, z2, hgz⟩ := RC.out.three
                              go_wp2_with fail
                              refine (HQ.out _).mono ?_
                              rintro e wD ⟨rfl, hwD⟩
                              have RD : Hid (RowAt wD gx 23 [.int .i64 s, .int .i64 y, .int .i64 10000]) := RC.out.later hwD RC.out.lt
                              have KD : Hid (Below (w.heap.size + 1) W0 wD) := Bel.call KC.out S0 hwD
                              have OD : Hid (wD.ownsRow (gx + 1) 3 1 u13 k (so.map (Value.int .i64))) := own_keeps (fun g hg1 hg2 => hwD.block g hg2) OC.out
                              have SD : Hid (gx + 1 ≤ wD.heap.size) := RD.out.lt
                              obtain ⟨a6, c6, rfl⟩ := own_slice OD.out
                              clear hwD d0 d1 d2 z0 z1 z2 hgz RC KC OC
                              go_wp2_with (at_builtin; go_must (refine wpList_append_own _ rfl (.tmp 97) (.tmp 99) 24 rfl (gx + 1) 3 i0 (.int .i64 0) 1 8 Tryd.underlying24 hi hz0 hz1 hz2 rfl (by decide) _ _ _ rfl (OD.out.alloc _) ⟨_, 0, none⟩ 1 1 [.int .i64 nn] rfl rfl (new1 _ _ _ _ ?c1) (by intro u hu; simp at hu; subst hu; rfl) (by unfold maxLen; omega) (by omega) ?c2 ?_))
                              case c1 => simp
                              case c2 => have := SD.out; simp; omega
                              intro v' wg hown' hgrow _
                              have hG := grew1 (B := gx + 1) SD.out hgrow (fun k hk => (OD.out.lt k hk).1)
                              have OE : Hid (wg.ownsRow (gx + 1) 3 1 v' (k + 1) ((T (k + 1)).2.2.map (Value.int .i64))) := by
                                show World.ownsRow _ _ _ _ _ _ _
                                rw [E3.out, List.map_append]
                                simpa using hown'
                              have RE : Hid (RowAt wg gx 23 [.int .i64 s, .int .i64 y, .int .i64 ((T (k + 1)).1)]) := by
                                rw [E1.out]
                                exact RD.out.later hG (by omega)
                              have KE : Hid (Below (w.heap.size + 1) W0 wg) := KD.out.trans (hG.mono (by omega))
                              clear hown' hgrow hG
                              go_wp2
                              go_roundw
                              case rel => exact ⟨k + 1, y, by omega, by go_num, by rw [E2.out], OE, RE, KE⟩
                              case measure => simp [intOf]; omega
                            · have RC : Hid (RowAt wB gx 23 [.int .i64 s, .int .i64 y, .int .i64 (X + y - s)]) := RB.out
                              have KC : Hid (Below (w.heap.size + 1) W0 wB) := KB.out
                              have OC : Hid (wB.ownsRow (gx + 1) 3 1 u13 k (so.map (Value.int .i64))) := OB.out
                              go_upto_region 24 with fail
                              clear d0 d1 d2 z0 z1 z2 hgz RB KB OB
                              obtain ⟨wC, rfl⟩ : ∃ x : World, x = wB := ⟨_, rfl⟩
                              obtain ⟨d0, d1, d2, z0, z1, z2, hgz⟩ := RC.out.three
                              go_wp2_with fail
                              refine (HQ.out _).mono ?_
                              rintro e wD ⟨rfl, hwD⟩
                              have RD : Hid (RowAt wD gx 23 [.int .i64 s, .int .i64 y, .int .i64 (X + y - s)]) := RC.out.later hwD RC.out.lt
                              have KD : Hid (Below (w.heap.size + 1) W0 wD) := Bel.call KC.out S0 hwD
                              have OD : Hid (wD.ownsRow (gx + 1) 3 1 u13 k (so.map (Value.int .i64))) := own_keeps (fun g hg1 hg2 => hwD.block g hg2) OC.out
                              have SD : Hid (gx + 1 ≤ wD.heap.size) := RD.out.lt
                              obtain ⟨a6, c6, rfl⟩ := own_slice OD.out
                              clear hwD d0 d1 d2 z0 z1 z2 hgz RC KC OC
                              go_wp2_with (at_builtin; go_must (refine wpList_append_own _ rfl (.tmp 97) (.tmp 99) 24 rfl (gx + 1) 3 i0 (.int .i64 0) 1 8 Tryd.underlying24 hi hz0 hz1 hz2 rfl (by decide) _ _ _ rfl (OD.out.alloc _) ⟨_, 0, none⟩ 1 1 [.int .i64 nn] rfl rfl (new1 _ _ _ _ ?c1) (by intro u hu; simp at hu; subst hu; rfl) (by unfold maxLen; omega) (by omega) ?c2 ?_))
                              case c1 => simp
                              case c2 => have := SD.out; simp; omega
                              intro v' wg hown' hgrow _
                              have hG := grew1 (B := gx + 1) SD.out hgrow (fun k hk => (OD.out.lt k hk).1)
                              have OE : Hid (wg.ownsRow (gx + 1) 3 1 v' (k + 1) ((T (k + 1)).2.2.map (Value.int .i64))) := by
                                show World.ownsRow _ _ _ _ _ _ _
                                rw [E3.out, List.map_append]
                                simpa using hown'
                              have RE : Hid (RowAt wg gx 23 [.int .i64 s, .int .i64 y, .int .i64 ((T (k + 1)).1)]) := by
                                rw [E1.out]
                                exact RD.out.later hG (by omega)
                              have KE : Hid (Below (w.heap.size + 1) W0 wg) := KD.out.trans (hG.mono (by omega))
                              clear hown' hgrow hG
                              go_wp2
                              go_roundw
                              case rel => exact ⟨k + 1, y, by omega, by go_num, by rw [E2.out], OE, RE, KE⟩
                              case measure => simp [intOf]; omega
                          · obtain rfl : k = l.length := by omega
                            have HI : Hid (IntsAt (fun _ => True) wr u13 RL) := by
                              rw [HSl.out] at hown
                              have e : RL.length = l.length := by rw [← HSl.out]; exact (HAt'.out l.length (Nat.le_refl _)).2.2.2.2
                              refine ints_of_owns (base := gx + 1) (by omega) ?_ (fun g hg => trivial)
                              rw [e]
                              exact hown.out
                            obtain ⟨a6, c6, rfl⟩ := own_slice hown.out
                            go_wp2
                            go_meet
                            case rel => exact ⟨⟨_, _, _, rfl⟩, by rw [HOk.out]; exact HI, hK⟩
                      · have HOk : Hid (okL re RL = []) := if_neg hre
                        have qr : (re == 0) = false := beq_eq_false_iff_ne.2 hre
                        clear HRE HAt HLe HNb hre HSt HS0 HSl HRN
                        go_wp2_with fail
                        go_loopw [13, 15, 16] (fun s13 _ s16 wr => s13 = .slice none 0 0 ∧ s16 = .int .i64 0 ∧ Hid (wr = w8)) (fun _ _ _ _ => 0)
                        case atStart => exact ⟨rfl, rfl, rfl⟩
                        case round =>
                          obtain ⟨rfl, rfl, hwr⟩ := hrel
                          rw [hwr.out]
                          by_cases hl0 : (0 : Int) < (l.length : Int)
                          all_goals
                            go_wp2
                            go_meet
                            case rel => exact ⟨⟨_, _, _, rfl⟩, by rw [HOk.out]; exact HNil.out _, KX⟩
                  case rest =>
                    as_aux_lemma =>
                      obtain ⟨w15, rfl⟩ : ∃ x : World, x = wc := ⟨_, rfl⟩
                      obtain ⟨⟨a1, n1, c1, rfl⟩, Y15, K15⟩ := hcut
                      obtain ⟨B15, R15, S15⟩ := HKp.out _ K15.out
                      obtain ⟨d0, d1, d2, z0, z1, z2, hgz⟩ := R15.three
                      go_wp2_with fail
                      refine (HRn.out _ B15).mono ?_
                      rintro e w16 ⟨y, rfl, hy, hw16⟩
                      have B16 : Hid (Below w.heap.size w w16) := Bel.call B15 (Nat.le_refl _) hw16
                      have X16 : Hid (IntsAt (fun _ => True) w16 (.slice a1 n1 c1) (okL re RL)) := Y15.out.later hw16
                      have Y16 : Hid (IntsAt (fun _ => True) w16 y (okL re RL)) := hy.keep (fun _ _ _ => rfl) (fun _ _ _ => trivial)
                      obtain ⟨a2, n2, c2, rfl⟩ : ∃ a n c, y = .slice a n c := by obtain ⟨a, c, e, _⟩ := hy; exact ⟨_, _, _, e⟩
                      clear hw16 hy d0 d1 d2 z0 z1 z2 hgz R15 B15 S15
                      go_wp2_with fail
                      refine (HE3.out _ B16.out).mono ?_
                      rintro e w17 ⟨rfl, hw17⟩
                      have B17 : Hid (Below w.heap.size w w17) := Bel.call B16.out (Nat.le_refl _) hw17
                      have HI17 : Hid (Calls Tryd.prog 11 #[.slice a2 n2 c2, .slice a1 n1 c1] w17 fun e w' => e = .returned (.bool true) ∧ ∃ n, w' = w17.drewN n) := HIn.out _ _ (okL re RL) w17 (Y16.out.later hw17) (X16.out.later hw17)
                      clear hw17
                      go_wp2_with fail
                      refine HI17.out.mono ?_
                      rintro e w18 ⟨rfl, n18, hw18⟩
                      have B18 : Hid (Below w.heap.size w w18) := by rw [hw18]; exact below_drewN B17.out _
                      clear hw18
                      go_wp2
                      go_ret
                      exact ⟨Ns.ret_bool rfl, B18.out⟩
end Ev
end Go.Proofs.YtgacckmgbalggaiDoor
