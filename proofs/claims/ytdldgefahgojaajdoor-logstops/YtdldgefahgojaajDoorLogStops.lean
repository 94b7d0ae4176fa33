/- The law LogStops returns true for every input, from what is asked of package log's calls: when it has stopped it has stopped. -/
import Derived.Test.YtdldgefahgojaajDoorPlains
import Derived.Test.YtdldgefahgojaajDoorToldB
import Derived.Deep.DeepCutAuto
namespace Go.Proofs.YtdldgefahgojaajDoor
namespace Ev
open Go.RowKit Fr Ns Fl
set_option linter.unusedSimpArgs false
set_option linter.unusedVariables false

theorem links57 : linksE [5, 7] = 0 := by decide

set_option maxRecDepth 100000 in
set_option maxHeartbeats 16000000 in
theorem logStops_walk (X : LogFace) (hN : LNewSaid X) (hA : LAddSaid X) (hD : LDropSaid X) (hS : LSyncSaid X) (hC : LCrashSaid X) (hF : LFailSaid X) (hP : LPathsSaid X) (hB : LBytesSaid X) (hSf : LSafeSaid X) (aft many keep : Int) (w : World)
    (hg : w.cell? ⟨0, 0, none⟩ = some handleV) :
    Calls Tryd.prog 5 #[.int .i64 aft, .int .i64 many, .int .i64 keep] w fun e w' => e = .returned (.bool true) ∧ Below w.heap.size w w' := by
  have HE56 : Hid (∀ u : World, Below w.heap.size w u → Calls Tryd.prog 8 #[.iface 80 (.int .i64 5), .int .i64 6] u fun e w' => e = .returned (.bool false) ∧ Below u.heap.size u w') := fun u hu => Error_any 5 6 u (cell_later hu hg)
  have HE66 : Hid (∀ u : World, Below w.heap.size w u → Calls Tryd.prog 8 #[.iface 80 (.int .i64 6), .int .i64 6] u fun e w' => e = .returned (.bool true) ∧ Below u.heap.size u w') := fun u hu => Error_any 6 6 u (cell_later hu hg)
  have HE55 : Hid (∀ u : World, Below w.heap.size w u → Calls Tryd.prog 8 #[.iface 80 (.int .i64 5), .int .i64 5] u fun e w' => e = .returned (.bool true) ∧ Below u.heap.size u w') := fun u hu => Error_any 5 5 u (cell_later hu hg)
  have HE65 : Hid (∀ u : World, Below w.heap.size w u → Calls Tryd.prog 8 #[.iface 80 (.int .i64 6), .int .i64 5] u fun e w' => e = .returned (.bool false) ∧ Below u.heap.size u w') := fun u hu => Error_any 6 5 u (cell_later hu hg)
  have HE06 : Hid (∀ u : World, Below w.heap.size w u → Calls Tryd.prog 8 #[.nilIface, .int .i64 6] u fun e w' => e = .returned (.bool false) ∧ Below u.heap.size u w') := fun u hu => Error_any 0 6 u (cell_later hu hg)
  have HN : Hid (Calls Tryd.prog 24 #[.slice (some ⟨w.heap.size, 0, none⟩) 2 2] (w.alloc (.cells #[.int .i64 5, .int .i64 7] 3)) fun e w' => ∃ a, e = .returned (.tuple #[.pointer (some a), .nilIface]) ∧ LogAt X w a 1 (log0 [5, 7]) w') :=
    (hN _ [5, 7] _ _ (lit_ints w [5, 7] #[.int .i64 5, .int .i64 7] rfl 2 rfl (by decide))).mono (fun e w' h => made_logAt links57 ((Below.refl _ _).alloc (Nat.le_refl _) _) e w' h)
  have HFa : Hid (∀ a u, 0 ≤ aft → aft ≤ 5 → LogAt X w a 1 (log0 [5, 7]) u → Calls Tryd.prog 25 #[.pointer (some a), .int .i64 aft] u fun e w' => e = .returned (.tuple #[]) ∧ LogAt X w a 1 (failS (log0 [5, 7]) aft) w') := fun a u _ h5 h => fail_at hF aft h (by decide) rfl (by omega)
  have HA0 : Hid (∀ (a : Addr) (i : Nat) (s : LogS) (u : World), LogAt X w a (i + 1) s u → StopS aft i i s → i ≤ 5 → Calls Tryd.prog 26 #[.pointer (some a), .slice none 0 0] u fun e w' => e = .returned (errV (if aft < i then 6 else 5)) ∧ LogAt X w a (i + 1) s w') := fun a i s u h hs hi => by
    refine (add_at hA (Q := fun _ => False) h (Below.refl _ _) (nil_intsL _) (fun _ hq => hq.elim) (by omega)).mono ?_
    rintro e w' ⟨n, he, hl⟩
    obtain ⟨n1, n2⟩ := stop_nil hs h.ok hi
    rw [n1] at he
    rw [n2] at hl
    exact ⟨he, hl.to h.few⟩
  have HA1 : Hid (∀ (a : Addr) (i : Nat) (s : LogS) (u : World), LogAt X w a (i + 1) s u → StopS aft i i s → i ≤ 5 → Calls Tryd.prog 26 #[.pointer (some a), .slice (some ⟨u.heap.size, 0, none⟩) 2 2] (u.alloc (.cells #[.int .i64 0, .int .i64 1] 3)) fun e w' => ∃ s', e = .returned (errV (if (i : Int) < aft then 0 else 6)) ∧ LogAt X w a (i + 1 + 1) s' w' ∧ StopS aft (i + 1) (i + 1) s') := fun a i s u h hs hi => by
    refine (add_at hA h ((Below.refl _ _).alloc (Nat.le_refl _) _) (lit_ints u [0, 1] #[.int .i64 0, .int .i64 1] rfl 2 rfl (by decide)) (fun b hb => .inl hb) (by omega)).mono ?_
    rintro e w' ⟨n, he, hl⟩
    obtain ⟨n1, n2⟩ := stop_add hs h.ok hi
    rw [n1] at he
    exact ⟨_, he, hl, n2 n⟩
  have HSy : Hid (∀ (a : Addr) (i c : Nat) (s : LogS) (u : World), LogAt X w a 7 s u → StopS aft i c s → Calls Tryd.prog 27 #[.pointer (some a)] u fun e w' => ∃ s', e = .returned (errV (if (i : Int) < aft then 0 else 6)) ∧ LogAt X w a 7 s' w' ∧ StopS aft (i + 1) c s') := fun a i c s u h hs => by
    refine (sync_at hS h (by decide)).mono ?_
    rintro e w' ⟨he, hl⟩
    obtain ⟨n1, n2⟩ := stop_sync hs
    rw [n1] at he
    exact ⟨_, he, hl, n2⟩
  have HEn : Hid (∀ (a : Addr) (i c : Nat) (s : LogS), StopS aft i c s → aft < i → (∀ u, LogAt X w a 7 s u → Calls Tryd.prog 27 #[.pointer (some a)] u fun e w' => e = .returned (.iface 80 (.int .i64 6)) ∧ LogAt X w a 7 s w') ∧ (∀ u, LogAt X w a 7 s u → Calls Tryd.prog 28 #[.pointer (some a), .int .i64 0] u fun e w' => e = .returned (.iface 80 (.int .i64 6)) ∧ LogAt X w a 7 s w')) := fun a i c s hs hi => by
    obtain ⟨m1, m2, m3, m4⟩ := stop_end hs hi
    refine ⟨fun u h => ?_, fun u h => ?_⟩
    · refine (sync_at hS h (by decide)).mono ?_
      rintro e w' ⟨he, hl⟩
      rw [m1, errV_ne (by decide)] at he
      rw [m2] at hl
      exact ⟨he, hl⟩
    · refine (drop_at hD 0 h (by decide)).mono ?_
      rintro e w' ⟨n, he, hl⟩
      rw [m3, errV_ne (by decide)] at he
      rw [m4] at hl
      exact ⟨he, hl.to h.few⟩
  have HCr : Hid (∀ (a : Addr) (s : LogS) (u : World), LogAt X w a 7 s u → Calls Tryd.prog 29 #[.pointer (some a), .int .i64 keep] u fun e w' => e = .returned (.tuple #[]) ∧ LogAt X w a 7 (crashS s keep) w') := fun a s u h => crash_at hC keep h (by decide)
  have HPa : Hid (∀ (a : Addr) (m : Nat) (s : LogS) (u : World), LogAt X w a m s u → m ≤ 1000 → Calls Tryd.prog 30 #[.pointer (some a)] u fun e w' => ∃ y, e = .returned y ∧ ListsAt (fun b => u.heap.size ≤ b) w' y s.flows ∧ LogAt X w a m s w' ∧ Below u.heap.size u w') := fun a m s u h hm => paths_at hP h hm
  have HA2 : Hid (∀ (a : Addr) (s : LogS) (u : World), LogAt X w a 7 s u → addLE s [1] = 0 → Calls Tryd.prog 26 #[.pointer (some a), .slice (some ⟨u.heap.size, 0, none⟩) 1 1] (u.alloc (.cells #[.int .i64 1] 3)) fun e w' => ∃ n, e = .returned .nilIface ∧ LogAt X w a 8 (addLS s [1] n) w') := fun a s u h he0 => by
    refine (add_at hA h ((Below.refl _ _).alloc (Nat.le_refl _) _) (lit_ints u [1] #[.int .i64 1] rfl 1 rfl (by decide)) (fun b hb => .inl hb) (by decide)).mono ?_
    rintro e w' ⟨n, he, hl⟩
    rw [he0, errV_0] at he
    exact ⟨n, he, hl⟩
  have HS2 : Hid (∀ (a : Addr) (s : LogS) (u : World), LogAt X w a 8 s u → syncE s = 0 → Calls Tryd.prog 27 #[.pointer (some a)] u fun e w' => e = .returned .nilIface ∧ LogAt X w a 8 (syncS s) w') := fun a s u h h0 => by
    have := sync_at hS h (by decide)
    rw [h0, errV_0] at this
    exact this
  have HBy : Hid (∀ (a : Addr) (s : LogS) (u : World), LogAt X w a 8 s u → Calls Tryd.prog 32 #[.pointer (some a)] u fun e w' => e = .returned (.int .i64 s.bytes) ∧ ∃ n, w' = u.drewN n) := fun a s u h => bytes_at hB h (by decide)
  have HSa : Hid (∀ (a : Addr) (s : LogS) (u : World), LogAt X w a 8 s u → Calls Tryd.prog 31 #[.pointer (some a)] u fun e w' => e = .returned (.int .i64 s.safe) ∧ ∃ n, w' = u.drewN n) := fun a s u h => safe_at hSf h (by decide)
  clear hN hA hD hS hC hF hP hB hSf hg
  by_cases hbad : aft < 0 ∨ 5 < aft ∨ many < 0 ∨ 5 < many
  · rcases (show aft < 0 ∨ (¬ aft < 0 ∧ 5 < aft) ∨ (¬ aft < 0 ∧ ¬ 5 < aft ∧ many < 0) ∨ (¬ aft < 0 ∧ ¬ 5 < aft ∧ ¬ many < 0 ∧ 5 < many) by omega) with h1 | ⟨h1, h2⟩ | ⟨h1, h2, h3⟩ | ⟨h1, h2, h3, h4⟩
    all_goals
      clear hbad
      go_enter Tryd.func5, Tryd.ntmps5
      go_wp2_with fail
      refine HN.out.mono ?_
      rintro e w1 ⟨a, rfl, hl⟩
      have B1 : Hid (Below w.heap.size w w1) := hl.below
      clear hl
      go_wp2
      go_ret
      exact ⟨rfl, B1.out⟩
  · obtain ⟨mn, rfl⟩ : ∃ mn : Nat, many = mn := ⟨many.toNat, by omega⟩
    obtain ⟨h1, h2, h3, h4⟩ : ¬ aft < 0 ∧ ¬ 5 < aft ∧ ¬ (mn : Int) < 0 ∧ ¬ 5 < (mn : Int) := by omega
    have ha0 : 0 ≤ aft := by omega
    have hm5 : mn ≤ 5 := by omega
    clear hbad
    have HSt0 : Hid (StopS aft 0 0 (failS (log0 [5, 7]) aft)) := stop0 ha0
    go_enter Tryd.func5, Tryd.ntmps5
    go_wp2_with fail
    refine HN.out.mono ?_
    rintro e w1 ⟨a, rfl, hl⟩
    have L1 : Hid (LogAt X w a 1 (log0 [5, 7]) w1) := hl
    clear hl
    go_wp2_with fail
    refine (HFa.out _ _ ha0 (by omega) L1.out).mono ?_
    rintro e w2 ⟨rfl, hl⟩
    have L2 : Hid (LogAt X w a 1 (failS (log0 [5, 7]) aft) w2) := hl
    clear hl L1
    go_wp2
    go_loopw [9, 10, 11, 12, 13, 14, 15] (fun s9 s10 _ _ _ _ _ wr => ∃ (i : Nat) (s : LogS), i ≤ mn ∧ s9 = .int .i64 i ∧ s10 = .int .i64 i ∧ Hid (LogAt X w a (i + 1) s wr) ∧ Hid (StopS aft i i s)) (fun _ s10 _ _ _ _ _ _ => mn - (intOf s10).toNat)
    case atStart => exact ⟨0, _, by omega, rfl, rfl, L2, HSt0⟩
    case round =>
      clear L2 HSt0
      obtain ⟨i, s, hi, rfl, rfl, hL, hSt⟩ := hrel
      by_cases hlt : i < mn
      · have hlt' : (i : Int) < mn := by omega
        have HAn : Hid (Calls Tryd.prog 26 #[.pointer (some a), .slice none 0 0] wr fun e w' => e = .returned (errV (if aft < i then 6 else 5)) ∧ LogAt X w a (i + 1) s w') := HA0.out a i s wr hL.out hSt.out (by omega)
        have HAp : Hid (∀ u, LogAt X w a (i + 1) s u → Calls Tryd.prog 26 #[.pointer (some a), .slice (some ⟨u.heap.size, 0, none⟩) 2 2] (u.alloc (.cells #[.int .i64 0, .int .i64 1] 3)) fun e w' => ∃ s', e = .returned (errV (if (i : Int) < aft then 0 else 6)) ∧ LogAt X w a (i + 1 + 1) s' w' ∧ StopS aft (i + 1) (i + 1) s') := fun u h => HA1.out a i s u h hSt.out (by omega)
        rcases (show ((i : Int) < aft ∧ ¬ aft < i) ∨ ((i : Int) = aft ∧ ¬ aft < i ∧ ¬ (i : Int) < aft) ∨ (aft < i ∧ ¬ (i : Int) < aft) by omega) with ⟨p1, p2⟩ | ⟨p1, p2, p3⟩ | ⟨p1, p2⟩
        · rw [if_neg p2] at HAn; simp only [if_pos p1] at HAp
          rw [errV_ne (by decide)] at HAn
          rw [errV_0] at HAp
          have q1 : ((i : Int) == aft) = false := beq_eq_false_iff_ne.2 (by omega)
          have q2 : (i : Int) ≤ aft := by omega
          go_wp2_with fail
          refine HAn.out.mono ?_
          rintro e w3 ⟨rfl, hl⟩
          have L3 : Hid (LogAt X w a (i + 1) s w3) := hl
          clear hl
          go_wp2_with fail
          refine (HAp.out _ L3.out).mono ?_
          rintro e w4 ⟨s', rfl, hl, hst⟩
          have L4 : Hid (LogAt X w a (i + 1 + 1) s' w4) := hl
          have T4 : Hid (StopS aft (i + 1) (i + 1) s') := hst
          clear hl hst L3
          go_wp2_with fail
          refine (HE56.out _ L4.out.below).mono ?_
          rintro e w5 ⟨rfl, hw5⟩
          have L5 : Hid (LogAt X w a (i + 1 + 1) s' w5) := L4.out.later hw5
          clear hw5 L4
          go_wp2_with fail
          refine (HE55.out _ L5.out.below).mono ?_
          rintro e w6 ⟨rfl, hw6⟩
          have L6 : Hid (LogAt X w a (i + 1 + 1) s' w6) := L5.out.later hw6
          clear hw6 L5
          go_wp2_with fail
          refine (HE06.out _ L6.out.below).mono ?_
          rintro e w7 ⟨rfl, hw7⟩
          have L7 : Hid (LogAt X w a (i + 1 + 1) s' w7) := L6.out.later hw7
          clear hw7 L6
          go_wp2
          go_roundw
          case rel => exact ⟨i + 1, s', by omega, by go_num, by go_num, L7, T4⟩
          case measure => simp [intOf]; omega
        · rw [if_neg p2] at HAn; simp only [if_neg p3] at HAp
          rw [errV_ne (by decide)] at HAn
          simp only [errV_ne (show (6 : Int) ≠ 0 by decide)] at HAp
          have q1 : ((i : Int) == aft) = true := by simp [p1]
          have q2 : (i : Int) ≤ aft := by omega
          go_wp2_with fail
          refine HAn.out.mono ?_
          rintro e w3 ⟨rfl, hl⟩
          have L3 : Hid (LogAt X w a (i + 1) s w3) := hl
          clear hl
          go_wp2_with fail
          refine (HAp.out _ L3.out).mono ?_
          rintro e w4 ⟨s', rfl, hl, hst⟩
          have L4 : Hid (LogAt X w a (i + 1 + 1) s' w4) := hl
          have T4 : Hid (StopS aft (i + 1) (i + 1) s') := hst
          clear hl hst L3
          go_wp2_with fail
          refine (HE56.out _ L4.out.below).mono ?_
          rintro e w5 ⟨rfl, hw5⟩
          have L5 : Hid (LogAt X w a (i + 1 + 1) s' w5) := L4.out.later hw5
          clear hw5 L4
          go_wp2_with fail
          refine (HE55.out _ L5.out.below).mono ?_
          rintro e w6 ⟨rfl, hw6⟩
          have L6 : Hid (LogAt X w a (i + 1 + 1) s' w6) := L5.out.later hw6
          clear hw6 L5
          go_wp2_with fail
          refine (HE66.out _ L6.out.below).mono ?_
          rintro e w7 ⟨rfl, hw7⟩
          have L7 : Hid (LogAt X w a (i + 1 + 1) s' w7) := L6.out.later hw7
          clear hw7 L6
          go_wp2
          go_roundw
          case rel => exact ⟨i + 1, s', by omega, by go_num, by go_num, L7, T4⟩
          case measure => simp [intOf]; omega
        · rw [if_pos p1] at HAn; simp only [if_neg p2] at HAp
          rw [errV_ne (by decide)] at HAn
          simp only [errV_ne (show (6 : Int) ≠ 0 by decide)] at HAp
          have q1 : ((i : Int) == aft) = false := beq_eq_false_iff_ne.2 (by omega)
          have q2 : ¬ (i : Int) ≤ aft := by omega
          go_wp2_with fail
          refine HAn.out.mono ?_
          rintro e w3 ⟨rfl, hl⟩
          have L3 : Hid (LogAt X w a (i + 1) s w3) := hl
          clear hl
          go_wp2_with fail
          refine (HAp.out _ L3.out).mono ?_
          rintro e w4 ⟨s', rfl, hl, hst⟩
          have L4 : Hid (LogAt X w a (i + 1 + 1) s' w4) := hl
          have T4 : Hid (StopS aft (i + 1) (i + 1) s') := hst
          clear hl hst L3
          go_wp2_with fail
          refine (HE66.out _ L4.out.below).mono ?_
          rintro e w5 ⟨rfl, hw5⟩
          have L5 : Hid (LogAt X w a (i + 1 + 1) s' w5) := L4.out.later hw5
          clear hw5 L4
          go_wp2_with fail
          refine (HE65.out _ L5.out.below).mono ?_
          rintro e w6 ⟨rfl, hw6⟩
          have L6 : Hid (LogAt X w a (i + 1 + 1) s' w6) := L5.out.later hw6
          clear hw6 L5
          go_wp2_with fail
          refine (HE66.out _ L6.out.below).mono ?_
          rintro e w7 ⟨rfl, hw7⟩
          have L7 : Hid (LogAt X w a (i + 1 + 1) s' w7) := L6.out.later hw7
          clear hw7 L6
          go_wp2
          go_roundw
          case rel => exact ⟨i + 1, s', by omega, by go_num, by go_num, L7, T4⟩
          case measure => simp [intOf]; omega
      · obtain rfl : i = mn := by omega
        have L0 : Hid (LogAt X w a 7 s wr) := hL.out.up (by omega)
        clear hL
        go_wp2
        go_loopw [9, 16] (fun s9 _ wr => ∃ (k : Nat) (s : LogS), k ≤ 6 ∧ s9 = .int .i64 k ∧ Hid (LogAt X w a 7 s wr) ∧ Hid (StopS aft k 5 s)) (fun s9 _ _ => 6 - (intOf s9).toNat)
        case atStart => exact ⟨i, s, by omega, rfl, L0, ⟨hSt.out.caps, fun f hf => Nat.le_trans (hSt.out.few f hf) hm5, hSt.out.goes, hSt.out.stops⟩⟩
        case round =>
          clear L0 hSt
          clear s
          obtain ⟨k, s, hk, rfl, hL, hSt⟩ := hrel
          by_cases hle : (k : Int) ≤ aft
          · have HSk : Hid (Calls Tryd.prog 27 #[.pointer (some a)] wr fun e w' => ∃ s', e = .returned (errV (if (k : Int) < aft then 0 else 6)) ∧ LogAt X w a 7 s' w' ∧ StopS aft (k + 1) 5 s') := HSy.out a k 5 s wr hL.out hSt.out
            rcases (show (k : Int) < aft ∨ ((k : Int) = aft ∧ ¬ (k : Int) < aft) by omega) with p1 | ⟨p1, p2⟩
            · rw [if_pos p1, errV_0] at HSk
              have q1 : ((k : Int) == aft) = false := beq_eq_false_iff_ne.2 (by omega)
              go_wp2_with fail
              refine HSk.out.mono ?_
              rintro e w3 ⟨s', rfl, hl, hst⟩
              have L3 : Hid (LogAt X w a 7 s' w3) := hl
              have T3 : Hid (StopS aft (k + 1) 5 s') := hst
              clear hl hst
              go_wp2
              go_roundw
              case rel => exact ⟨k + 1, s', by omega, by go_num, L3, T3⟩
              case measure => simp [intOf]; omega
            · rw [if_neg p2, errV_ne (by decide)] at HSk
              have q1 : ((k : Int) == aft) = true := by simp [p1]
              go_wp2_with fail
              refine HSk.out.mono ?_
              rintro e w3 ⟨s', rfl, hl, hst⟩
              have L3 : Hid (LogAt X w a 7 s' w3) := hl
              have T3 : Hid (StopS aft (k + 1) 5 s') := hst
              clear hl hst
              go_wp2
              go_roundw
              case rel => exact ⟨k + 1, s', by omega, by go_num, L3, T3⟩
              case measure => simp [intOf]; omega
          · obtain ⟨HS6, HD6⟩ := HEn.out a k 5 s hSt.out (by omega)
            have HS6' : Hid (∀ u, LogAt X w a 7 s u → Calls Tryd.prog 27 #[.pointer (some a)] u fun e w' => e = .returned (.iface 80 (.int .i64 6)) ∧ LogAt X w a 7 s w') := HS6
            have HD6' : Hid (∀ u, LogAt X w a 7 s u → Calls Tryd.prog 28 #[.pointer (some a), .int .i64 0] u fun e w' => e = .returned (.iface 80 (.int .i64 6)) ∧ LogAt X w a 7 s w') := HD6
            obtain ⟨cr1, cr2, cr3⟩ := stop_crash hSt.out hL.out.ok (Nat.le_refl _) keep
            have C2 : Hid (addLE (crashS s keep) [1] = 0) := cr2
            have C3 : Hid (∀ n, (addLS (crashS s keep) [1] n).flows = (crashS s keep).flows ++ [[1]] ∧ syncE (addLS (crashS s keep) [1] n) = 0 ∧ (syncS (addLS (crashS s keep) [1] n)).flows = (crashS s keep).flows ++ [[1]] ∧ (syncS (addLS (crashS s keep) [1] n)).safe = (syncS (addLS (crashS s keep) [1] n)).bytes) := cr3
            clear HS6 HD6 cr2 cr3 hSt
            go_wp2_with fail
            refine (HS6'.out _ hL.out).mono ?_
            rintro e w3 ⟨rfl, hl⟩
            have L3 : Hid (LogAt X w a 7 s w3) := hl
            clear hl hL
            go_wp2_with fail
            refine (HD6'.out _ L3.out).mono ?_
            rintro e w4 ⟨rfl, hl⟩
            have L4 : Hid (LogAt X w a 7 s w4) := hl
            clear hl L3
            go_wp2_with fail
            refine (HE66.out _ L4.out.below).mono ?_
            rintro e w5 ⟨rfl, hw5⟩
            have L5 : Hid (LogAt X w a 7 s w5) := L4.out.later hw5
            clear hw5 L4
            go_wp2_with fail
            refine (HE66.out _ L5.out.below).mono ?_
            rintro e w6 ⟨rfl, hw6⟩
            have L6 : Hid (LogAt X w a 7 s w6) := L5.out.later hw6
            clear hw6 L5
            go_wp2_with fail
            refine (HCr.out _ _ _ L6.out).mono ?_
            rintro e w7 ⟨rfl, hl⟩
            have L7 : Hid (LogAt X w a 7 (crashS s keep) w7) := hl
            clear hl L6
            generalize crashS s keep = sc at *
            go_wp2_with fail
            refine (HPa.out _ _ _ _ L7.out (by decide)).mono ?_
            rintro e w8 ⟨y, rfl, hy, hl, _⟩
            have L8 : Hid (LogAt X w a 7 sc w8) := hl
            obtain ⟨ay, cy, hys, _⟩ := hy
            subst hys
            clear hl L7
            go_wp2_with fail
            refine (HA2.out _ _ _ L8.out C2.out).mono ?_
            rintro e w9 ⟨n, rfl, hl⟩
            have L9 : Hid (LogAt X w a 8 (addLS sc [1] n) w9) := hl
            obtain ⟨_, f2, f3, f4⟩ := C3.out n
            have F2 : Hid (syncE (addLS sc [1] n) = 0) := f2
            have F3 : Hid ((syncS (addLS sc [1] n)).flows = sc.flows ++ [[1]]) := f3
            have F4 : Hid ((syncS (addLS sc [1] n)).safe = (syncS (addLS sc [1] n)).bytes) := f4
            clear hl L8 C3 f2 f3 f4
            generalize addLS sc [1] n = sd at *
            go_wp2_with fail
            refine (HS2.out _ _ _ L9.out F2.out).mono ?_
            rintro e w10 ⟨rfl, hl⟩
            have L10 : Hid (LogAt X w a 8 (syncS sd) w10) := hl
            clear hl L9
            generalize syncS sd = se at *
            go_wp2_with fail
            refine (HPa.out _ _ _ _ L10.out (by decide)).mono ?_
            rintro e w11 ⟨y, rfl, hy, hl, _⟩
            have L11 : Hid (LogAt X w a 8 se w11) := hl
            rw [F3.out] at hy
            have hyl : (sc.flows ++ [[1]]).length = sc.flows.length + 1 := by simp
            obtain ⟨bz, oz, cz, vs, rfl, hz1, hz2, hz3⟩ := hy.vals (by simp)
            obtain ⟨hz4, hz5⟩ := hz3 sc.flows.length (by omega)
            have e1 : (sc.flows ++ [[1]]).getD sc.flows.length [] = [1] := by simp [List.getD]
            rw [e1] at hz5
            obtain ⟨ai, ci, hvi, _, hci⟩ := hz5
            rcases hci with hci | ⟨bi, oi, rfl, hci, _⟩
            · cases hci
            · have hc1 := hci 0 (by decide)
              have hc2 : w11.cell? ⟨bi, oi, none⟩ = some (.int .i64 1) := by simpa using hc1
              rw [hvi] at hz4
              simp only [List.length_cons, List.length_nil] at hz4
              rw [hyl] at hz1 ⊢
              have HSaf : Hid (se.safe = se.bytes) := F4.out
              have HSx : Hid (∀ u, Below w11.heap.size w11 u → Calls Tryd.prog 31 #[.pointer (some a)] u fun e w' => e = .returned (.int .i64 se.bytes) ∧ ∃ n, w' = u.drewN n) := fun u hu => by
                have := HSa.out a se u (L11.out.later hu)
                rw [HSaf.out] at this
                exact this
              have HBx : Hid (∀ u, Below w11.heap.size w11 u → Calls Tryd.prog 32 #[.pointer (some a)] u fun e w' => e = .returned (.int .i64 se.bytes) ∧ ∃ n, w' = u.drewN n) := fun u hu => HBy.out a se u (L11.out.later hu)
              have HB11 : Hid (Below w.heap.size w w11) := L11.out.below
              clear hl L10 L11 hc1 hci hz3 hvi hyl e1 hy HSy HEn HCr HPa HA2 HS2 HBy HSa HA0 HA1 HFa HN
              generalize sc.flows.length = fl at *
              go_wp2_with fail
              refine (HSx.out _ (Below.refl _ _)).mono ?_
              rintro e w12 ⟨rfl, n1, rfl⟩
              go_wp2_with fail
              refine (HBx.out _ (below_drewN (Below.refl _ _) _)).mono ?_
              rintro e w13 ⟨rfl, n2, rfl⟩
              go_wp2
              go_ret
              exact ⟨rfl, below_drewN HB11.out _⟩
end Ev
end Go.Proofs.YtdldgefahgojaajDoor
