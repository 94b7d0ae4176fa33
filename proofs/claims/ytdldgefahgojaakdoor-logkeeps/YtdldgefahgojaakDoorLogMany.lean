/- The law LogMany returns true for every input, from what is asked of package log's and frac's calls: six, and no more. -/
import Derived.Test.YtdldgefahgojaakDoorPlains
import Derived.Test.YtdldgefahgojaakDoorFracAll
import Derived.Test.YtdldgefahgojaakDoorToldB
import Derived.Deep.QuietTactic
import Derived.BigQuiet
namespace Go.Proofs.YtdldgefahgojaakDoor
namespace Ev
open Go.RowKit Fr Ns Ld Fl
set_option linter.unusedSimpArgs false
set_option linter.unusedVariables false

theorem links9 : linksE [9] = 0 := by decide
theorem rates_at {X : LogFace} (hR : LRatesSaid X) {w u : World} {a : Addr} {m : Nat} {s : LogS} (h : LogAt X w a m s u) (hm : m ≤ 1000) :
    Calls Tryd.prog 8 #[.pointer (some a)] u fun e w' => ∃ y, e = .returned (.tuple #[y, errV (ratesLE s.flows)]) ∧ FracsAt (fun b => u.heap.size ≤ b) w' y (okL (ratesLE s.flows) (fill s.caps s.flows).1) ∧ LogAt X w a m s w' ∧ Below u.heap.size u w' := by
  obtain ⟨F, h1, h2, h3, h4, h5⟩ := id h
  refine (hR _ F s u h1 ⟨h2, by omega⟩).mono ?_
  rintro e w' ⟨y, he, hy, hb⟩
  exact ⟨y, he, hy, h.later hb, hb⟩

set_option maxRecDepth 100000 in
set_option maxHeartbeats 16000000 in
theorem logMany_walk (X : LogFace) (hN : LNewSaid X) (hA : LAddSaid X) (hR : LRatesSaid X) (hB : LBytesSaid X) (n : Int) (w : World)
    (hg : w.cell? ⟨0, 0, none⟩ = some handleV) :
    Calls Tryd.prog 3 #[.int .i64 n] w fun e w' => e = .returned (.bool true) ∧ Below w.heap.size w w' := by
  have HE44 : Hid (∀ u : World, Below w.heap.size w u → Calls Tryd.prog 7 #[.iface 61 (.int .i64 4), .int .i64 4] u fun e w' => e = .returned (.bool true) ∧ Below u.heap.size u w') := fun u hu => Error_any 4 4 u (cell_later hu hg)
  have HE55 : Hid (∀ u : World, Below w.heap.size w u → Calls Tryd.prog 7 #[.iface 61 (.int .i64 5), .int .i64 5] u fun e w' => e = .returned (.bool true) ∧ Below u.heap.size u w') := fun u hu => Error_any 5 5 u (cell_later hu hg)
  have HN : Hid (Calls Tryd.prog 5 #[.slice (some ⟨w.heap.size, 0, none⟩) 1 1] (w.alloc (.cells #[.int .i64 9] 3)) fun e w' => ∃ a, e = .returned (.tuple #[.pointer (some a), .nilIface]) ∧ LogAt X w a 1 (log0 [9]) w') :=
    (hN _ [9] _ _ (lit_ints w [9] #[.int .i64 9] rfl 1 rfl (by decide))).mono (fun e w' h => made_logAt links9 ((Below.refl _ _).alloc (Nat.le_refl _) _) e w' h)
  have HA1 : Hid (∀ (a : Addr) (i : Nat) (s : LogS) (u : World), LogAt X w a (i + 1) s u → ManyS i s → i ≤ 12 → Calls Tryd.prog 6 #[.pointer (some a), .slice (some ⟨u.heap.size, 0, none⟩) 1 1] (u.alloc (.cells #[.int .i64 0] 3)) fun e w' => ∃ s', e = .returned (errV (if i < 6 then 0 else 4)) ∧ LogAt X w a (i + 1 + 1) s' w' ∧ ManyS (i + 1) s') := fun a i s u h hs hi => by
    refine (add_at hA h ((Below.refl _ _).alloc (Nat.le_refl _) _) (lit_ints u [0] #[.int .i64 0] rfl 1 rfl (by decide)) (fun b hb => .inl hb) (by omega)).mono ?_
    rintro e w' ⟨n, he, hl⟩
    obtain ⟨n1, n2⟩ := many_add hs
    rw [n1] at he
    exact ⟨_, he, hl, n2 n⟩
  have HR0 : Hid (∀ (a : Addr) (s : LogS) (u : World), LogAt X w a 13 s u → ManyS 0 s → Calls Tryd.prog 8 #[.pointer (some a)] u fun e w' => ∃ ay ny cy, e = .returned (.tuple #[.slice ay ny cy, .iface 61 (.int .i64 5)]) ∧ LogAt X w a 13 s w') := fun a s u h hs => by
    refine (rates_at hR h (by decide)).mono ?_
    rintro e w' ⟨y, he, ⟨ay, cy, rfl, _⟩, hl, _⟩
    have : ratesLE s.flows = 5 := by rw [hs.flows]; rfl
    rw [this, errV_ne (by decide)] at he
    exact ⟨_, _, _, he, hl⟩
  have HRk : Hid (∀ (a : Addr) (s : LogS) (u : World) (i k : Nat), LogAt X w a 13 s u → ManyS i s → 0 < i → k = min i 6 → Calls Tryd.prog 8 #[.pointer (some a)] u fun e w' => ∃ y, e = .returned (.tuple #[y, .nilIface]) ∧ FracsAt (fun b => u.heap.size ≤ b) w' y (List.replicate k (lowT 9 k, lowB 9 k)) ∧ LogAt X w a 13 s w') := fun a s u i k h hs hi hk => by
    refine (rates_at hR h (by decide)).mono ?_
    rintro e w' ⟨y, he, hy, hl, _⟩
    have hfl := hs.flows
    rw [← hk] at hfl
    have e0 : ratesLE s.flows = 0 := by rw [hfl, ratesLE, if_neg (by simp; omega)]
    rw [e0, errV_0] at he
    rw [e0, okL_0, hs.caps, hfl, (fill_alike (c := 9) (m := k) (by decide) (by decide) (by omega) (by omega)).1] at hy
    exact ⟨y, he, hy, hl⟩
  have HBy : Hid (∀ (a : Addr) (s : LogS) (u : World), LogAt X w a 13 s u → s.bytes = 0 → Calls Tryd.prog 9 #[.pointer (some a)] u fun e w' => e = .returned (.int .i64 0) ∧ ∃ n, w' = u.drewN n) := fun a s u h h0 => by
    have := bytes_at hB h (by decide)
    rw [h0] at this
    exact this
  have HOf : Hid (∀ (k : Nat) (u : World), 1 ≤ k → k ≤ 6 → Calls Tryd.prog 10 #[.int .i64 9, .int .i64 k] u fun e w' => e = .returned (.tuple #[.agg #[.int .i64 (lowT 9 k), .int .i64 (lowB 9 k)], .nilIface]) ∧ Below u.heap.size u w') := fun k u h1 h2 => by
    have H := Of_any 9 k u
    have hmay : mayB 9 k = true := mayB_iff.2 (by omega)
    rw [ofT, ofB, ofE, hmay] at H
    simp only [if_true] at H
    exact H
  clear hN hA hR hB hg
  by_cases hbad : n < 0 ∨ 12 < n
  · rcases (show n < 0 ∨ (¬ n < 0 ∧ 12 < n) by omega) with h1 | ⟨h1, h2⟩
    all_goals
      clear hbad
      go_enter Tryd.func3, Tryd.ntmps3
      go_wp2_with fail
      refine HN.out.mono ?_
      rintro e w1 ⟨a, rfl, hl⟩
      have B1 : Hid (Below w.heap.size w w1) := hl.below
      clear hl
      go_wp2
      go_ret
      exact ⟨rfl, B1.out⟩
  · obtain ⟨m, rfl⟩ : ∃ m : Nat, n = m := ⟨n.toNat, by omega⟩
    obtain ⟨h1, h2⟩ : ¬ (m : Int) < 0 ∧ ¬ 12 < (m : Int) := by omega
    clear hbad
    have HM0 : Hid (ManyS 0 (log0 [9])) := many0
    go_enter Tryd.func3, Tryd.ntmps3
    go_wp2_with fail
    refine HN.out.mono ?_
    rintro e w1 ⟨a, rfl, hl⟩
    have L1 : Hid (LogAt X w a 1 (log0 [9]) w1) := hl
    clear hl
    go_wp2
    go_loopw [5, 6] (fun s5 _ wr => ∃ (i : Nat) (s : LogS), i ≤ m ∧ s5 = .int .i64 i ∧ Hid (LogAt X w a (i + 1) s wr) ∧ Hid (ManyS i s)) (fun s5 _ _ => m - (intOf s5).toNat)
    case atStart => exact ⟨0, _, by omega, rfl, L1, HM0⟩
    case round =>
      clear L1 HM0
      obtain ⟨i, s, hi, rfl, hL, hM⟩ := hrel
      by_cases hlt : i < m
      · have hlt' : (i : Int) < m := by omega
        have HAp : Hid (Calls Tryd.prog 6 #[.pointer (some a), .slice (some ⟨wr.heap.size, 0, none⟩) 1 1] (wr.alloc (.cells #[.int .i64 0] 3)) fun e w' => ∃ s', e = .returned (errV (if i < 6 then 0 else 4)) ∧ LogAt X w a (i + 1 + 1) s' w' ∧ ManyS (i + 1) s') := HA1.out a i s wr hL.out hM.out (by omega)
        by_cases h6 : i < 6
        · rw [if_pos h6, errV_0] at HAp
          have h6' : (i : Int) < 6 := by omega
          go_wp2_with fail
          refine HAp.out.mono ?_
          rintro e w3 ⟨s', rfl, hl, hst⟩
          have L3 : Hid (LogAt X w a (i + 1 + 1) s' w3) := hl
          have T3 : Hid (ManyS (i + 1) s') := hst
          clear hl hst
          go_wp2
          go_roundw
          case rel => exact ⟨i + 1, s', by omega, by go_num, L3, T3⟩
          case measure => simp [intOf]; omega
        · rw [if_neg h6, errV_ne (by decide)] at HAp
          have h6' : ¬ (i : Int) < 6 := by omega
          go_wp2_with fail
          refine HAp.out.mono ?_
          rintro e w3 ⟨s', rfl, hl, hst⟩
          have L3 : Hid (LogAt X w a (i + 1 + 1) s' w3) := hl
          have T3 : Hid (ManyS (i + 1) s') := hst
          clear hl hst
          go_wp2_with fail
          refine (HE44.out _ L3.out.below).mono ?_
          rintro e w4 ⟨rfl, hw4⟩
          have L4 : Hid (LogAt X w a (i + 1 + 1) s' w4) := L3.out.later hw4
          clear hw4 L3
          go_wp2
          go_roundw
          case rel => exact ⟨i + 1, s', by omega, by go_num, L4, T3⟩
          case measure => simp [intOf]; omega
      · obtain rfl : i = m := by omega
        have L0 : Hid (LogAt X w a 13 s wr) := hL.out.up (by omega)
        clear hL HA1 HN
        by_cases h0 : i = 0
        · subst h0
          have HR1 : Hid (Calls Tryd.prog 8 #[.pointer (some a)] wr fun e w' => ∃ ay ny cy, e = .returned (.tuple #[.slice ay ny cy, .iface 61 (.int .i64 5)]) ∧ LogAt X w a 13 s w') := HR0.out a s wr L0.out hM.out
          have HB1 : Hid (∀ u, LogAt X w a 13 s u → Calls Tryd.prog 9 #[.pointer (some a)] u fun e w' => e = .returned (.int .i64 0) ∧ ∃ n, w' = u.drewN n) := fun u h => HBy.out a s u h (hM.out.none rfl)
          go_wp2_with fail
          refine HR1.out.mono ?_
          rintro e w3 ⟨ay, ny, cy, rfl, hl⟩
          have L3 : Hid (LogAt X w a 13 s w3) := hl
          clear hl
          go_wp2_with fail
          refine (HE55.out _ L3.out.below).mono ?_
          rintro e w4 ⟨rfl, hw4⟩
          have L4 : Hid (LogAt X w a 13 s w4) := L3.out.later hw4
          clear hw4 L3
          go_wp2_with fail
          refine (HB1.out _ L4.out).mono ?_
          rintro e w5 ⟨rfl, n1, rfl⟩
          have B5 : Hid (Below w.heap.size w (w4.drewN n1)) := below_drewN L4.out.below _
          go_wp2
          go_ret
          exact ⟨rfl, B5.out⟩
        · obtain ⟨k, hk⟩ : ∃ k, k = min i 6 := ⟨_, rfl⟩
          have HR1 : Hid (Calls Tryd.prog 8 #[.pointer (some a)] wr fun e w' => ∃ y, e = .returned (.tuple #[y, .nilIface]) ∧ FracsAt (fun b => wr.heap.size ≤ b) w' y (List.replicate k (lowT 9 k, lowB 9 k)) ∧ LogAt X w a 13 s w') := HRk.out a s wr i k L0.out hM.out (by omega) hk
          have HO1 : Hid (∀ u : World, Calls Tryd.prog 10 #[.int .i64 9, .int .i64 k] u fun e w' => e = .returned (.tuple #[.agg #[.int .i64 (lowT 9 k), .int .i64 (lowB 9 k)], .nilIface]) ∧ Below u.heap.size u w') := fun u => HOf.out k u (by omega) (by omega)
          generalize lowT 9 k = q1 at *
          generalize lowB 9 k = q2 at *
          have q0 : ((i : Int) == 0) = false := beq_eq_false_iff_ne.2 (by omega)
          have hkp : 0 < k ∧ k ≤ 6 := by omega
          have HR2 : Hid (Calls Tryd.prog 8 #[.pointer (some a)] wr fun e w' => ∃ b o c, e = .returned (.tuple #[.slice (some ⟨b, o, none⟩) k c, .nilIface]) ∧ k ≤ c ∧ w'.cell? ⟨b, o, none⟩ = some (.int .i64 q1) ∧ w'.cell? ⟨b, o + 1, none⟩ = some (.int .i64 q2) ∧ Below w.heap.size w w') := by
            refine HR1.out.mono ?_
            rintro e w3 ⟨y, rfl, ⟨ay, cy, hys, ⟨hy1, hy2⟩, hyc⟩, hl⟩
            rw [List.length_replicate] at hys hy1
            subst hys
            rcases hyc with hyc | ⟨b, o, rfl, hyc, _⟩
            · have := congrArg List.length hyc
              rw [List.length_replicate] at this
              exact absurd this (by simp; omega)
            · obtain ⟨c1, c2⟩ := hyc 0 (by rw [List.length_replicate]; omega)
              have e0 : (List.replicate k (q1, q2)).getD 0 (0, 0) = (q1, q2) := by
                rw [List.getD, List.getElem?_replicate, if_pos (by omega)]; rfl
              rw [e0] at c1 c2
              exact ⟨b, o, cy, rfl, hy1, by simpa using c1, by simpa using c2, hl.below⟩
          clear hM HR0 HRk HBy HOf L0 HR1
          rcases (show (6 < (i : Int) ∧ k = 6) ∨ (¬ 6 < (i : Int) ∧ k = i) by omega) with ⟨g1, rfl⟩ | ⟨g1, rfl⟩
          all_goals
            clear hk
            go_wp2_with fail
            refine HR2.out.mono ?_
            rintro e w3 ⟨b, o, c, rfl, hkc, c1, c2, hb3⟩
            have B3 : Hid (Below w.heap.size w w3) := hb3
            have C1 : Hid (w3.cell? ⟨b, o, none⟩ = some (.int .i64 q1)) := c1
            have C2 : Hid (w3.cell? ⟨b, o + 1, none⟩ = some (.int .i64 q2)) := c2
            clear hb3 c1 c2
            go_wp2_with fail
            refine (HO1.out _).mono ?_
            rintro e w4 ⟨rfl, hw4⟩
            have hb4 : Below w3.heap.size w3 (w4.alloc (.cells #[.int .i64 q1, .int .i64 q2] 35)) := hw4.alloc hw4.size _
            have c1 := cell_later hb4 C1.out
            have c2 := cell_later hb4 C2.out
            have B4 : Hid (Below w.heap.size w (w4.alloc (.cells #[.int .i64 q1, .int .i64 q2] 35))) := Bel.call B3.out (Nat.le_refl _) hb4
            clear hw4 hb4
            go_wp2_with fail
            go_quiet (fail)
            have B5 : Hid (Below w.heap.size w ((w4.alloc (.cells #[.int .i64 q1, .int .i64 q2] 35)).drewN nq)) := below_drewN B4.out _
            go_wp2
            go_ret
            exact ⟨rfl, B5.out⟩
end Ev
end Go.Proofs.YtdldgefahgojaakDoor
