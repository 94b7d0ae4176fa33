/- The law TopKept returns true for every input, from what is asked of log's, fill's, net's, load's and rank's calls: what is kept is fair. -/
import Derived.Test.YtdldgefahgojaakGreatDoorPlains
import Derived.Test.YtdldgefahgojaakGreatDoorTopOne
import Derived.Test.YtdldgefahgojaakGreatDoorLdSame
import Derived.Test.YtdldgefahgojaakGreatDoorToldB
namespace Go.Proofs.YtdldgefahgojaakGreatDoor
namespace Ev
open Go.RowKit Fr Ns Ld Fl
set_option linter.unusedSimpArgs false
set_option linter.unusedVariables false

theorem rates_of {X : LogFace} (hR : LRatesSaid X) {w u : World} {a : Addr} {m : Nat} {s : LogS} (h : LogAt X w a m s u) (hm : m ≤ 1000) :
    Calls Tryz.prog 11 #[.pointer (some a)] u fun e w' => ∃ y, e = .returned (.tuple #[y, errV (ratesLE s.flows)]) ∧ FracsAt (fun b => u.heap.size ≤ b) w' y (okL (ratesLE s.flows) (fill s.caps s.flows).1) ∧ LogAt X w a m s w' ∧ Below u.heap.size u w' := by
  obtain ⟨F, h1, h2, h3, h4, h5⟩ := id h
  refine (hR _ F s u h1 ⟨h2, by omega⟩).mono ?_
  rintro e w' ⟨y, he, hy, hb⟩
  exact ⟨y, he, hy, h.later hb, hb⟩
theorem eqF_self (l : List (Int × Int)) : eqF l l = true := by simp [eqF]

set_option maxRecDepth 100000 in
set_option maxHeartbeats 16000000 in
theorem topKept_walk (X : LogFace) (hN : LNewSaid X) (hA : LAddSaid X) (hD : LDropSaid X) (hS : LSyncSaid X) (hC : LCrashSaid X) (hP : LPathsSaid X) (hR : LRatesSaid X) (hRa : RatesSaid) (hCk : CheckSaid) (hFi : FitsSaid) (hCm : RCompareSaid)
    (caps : List Int) (paths : List (List Int)) (keep : Int) (r : List (Int × Int)) (v0 v1 x : Value) (w : World)
    (hg : w.cell? ⟨0, 0, none⟩ = some handleV) (h0 : IntsAt (fun b => b < w.heap.size) w v0 caps) (h1 : ListsAt (fun b => b < w.heap.size) w v1 paths) (hx : FracsAt (fun b => b < w.heap.size) w x r) :
    Calls Tryz.prog 3 #[v0, v1, .int .i64 keep, x] w fun e w' => e = .returned (.bool true) ∧ Below w.heap.size w w' := by
  have HOne : Hid (∀ u : World, Calls Tryz.prog 4 #[] u fun e w' => e = .returned (.bool true) ∧ Below u.heap.size u w') := fun u => one_any hRa u
  have HNw : Hid (∀ u, Below w.heap.size w u → Calls Tryz.prog 5 #[v0] u fun e w' => MadeL X caps u w' e) := fun u hu => hN _ caps v0 u (h0.later hu)
  have HE5 : Hid (∀ u : World, Below w.heap.size w u → Calls Tryz.prog 12 #[.iface 55 (.int .i64 5), .int .i64 5] u fun e w' => e = .returned (.bool true) ∧ Below u.heap.size u w') := fun u hu => Error_any 5 5 u (cell_later hu hg)
  have HAd : Hid (∀ (a : Addr) (m : Nat) (s : LogS) (path : List Int) (v : Value) (u : World), LogAt X w a m s u → m ≤ 1000 → GoesS caps s → IntsAt (fun b => b < w.heap.size) w v path → Calls Tryz.prog 7 #[.pointer (some a), v] u fun e w' => ∃ s' k, e = .returned (errV k) ∧ LogAt X w a (m + 1) s' w' ∧ GoesS caps s') := fun a m s path v u h hm hs hv => by
    refine (add_at hA h (Below.refl _ _) (hv.later h.below) (fun b hb => .inr hb) hm).mono ?_
    rintro e w' ⟨n, he, hl⟩
    exact ⟨_, _, he, hl, goes_add hs⟩
  have HDr : Hid (∀ (a : Addr) (m : Nat) (s : LogS) (u : World), LogAt X w a m s u → m ≤ 1000 → GoesS caps s → Calls Tryz.prog 6 #[.pointer (some a), .int .i64 0] u fun e w' => ∃ s' k, e = .returned (errV k) ∧ LogAt X w a (m + 1) s' w' ∧ GoesS caps s') := fun a m s u h hm hs => by
    refine (drop_at hD 0 h hm).mono ?_
    rintro e w' ⟨n, he, hl⟩
    exact ⟨_, _, he, hl, goes_drop hs⟩
  have HSy : Hid (∀ (a : Addr) (m : Nat) (s : LogS) (u : World), LogAt X w a m s u → m ≤ 1000 → GoesS caps s → Calls Tryz.prog 8 #[.pointer (some a)] u fun e w' => e = .returned .nilIface ∧ LogAt X w a m (syncS s) w' ∧ GoesS caps (syncS s)) := fun a m s u h hm hs => by
    refine (sync_at hS h hm).mono ?_
    rintro e w' ⟨he, hl⟩
    obtain ⟨g1, g2⟩ := goes_sync hs
    rw [g1, errV_0] at he
    exact ⟨he, hl, g2⟩
  have HCr : Hid (∀ (a : Addr) (m : Nat) (s : LogS) (u : World), LogAt X w a m s u → m ≤ 1000 → GoesS caps s → Calls Tryz.prog 9 #[.pointer (some a), .int .i64 keep] u fun e w' => ∃ s', e = .returned (.tuple #[]) ∧ LogAt X w a m s' w' ∧ s'.caps = caps) := fun a m s u h hm hs => by
    refine (crash_at hC keep h hm).mono ?_
    rintro e w' ⟨he, hl⟩
    exact ⟨_, he, hl, hs.1⟩
  have HPa : Hid (∀ (a : Addr) (m : Nat) (s : LogS) (u : World), LogAt X w a m s u → m ≤ 1000 → Calls Tryz.prog 10 #[.pointer (some a)] u fun e w' => ∃ y, e = .returned y ∧ ListsAt (fun b => u.heap.size ≤ b) w' y s.flows ∧ LogAt X w a m s w' ∧ Below u.heap.size u w') := fun a m s u h hm => paths_at hP h hm
  have HRt : Hid (∀ (a : Addr) (m : Nat) (s : LogS) (u : World), LogAt X w a m s u → m ≤ 1000 → Calls Tryz.prog 11 #[.pointer (some a)] u fun e w' => ∃ y, e = .returned (.tuple #[y, errV (ratesLE s.flows)]) ∧ FracsAt (fun b => u.heap.size ≤ b) w' y (okL (ratesLE s.flows) (fill s.caps s.flows).1) ∧ LogAt X w a m s w' ∧ Below u.heap.size u w') := fun a m s u h hm => rates_of hR h hm
  have HRa : Hid (∀ (f : Flows) (v : Value) (u : World), NetAt (fun _ => True) u v caps f → Calls Tryz.prog 13 #[v] u fun e w' => ∃ y, e = .returned (.tuple #[y, errV (netE caps f)]) ∧ FracsAt (fun b => u.heap.size ≤ b) w' y (okL (netE caps f) (fill caps f).1) ∧ Below u.heap.size u w') := fun f v u h => hRa _ caps f v u h
  have HCk : Hid (∀ (f : Flows) (v : Value) (u : World), NetAt (fun _ => True) u v caps f → Calls Tryz.prog 15 #[v] u fun e w' => e = .returned (errV (netE caps f)) ∧ Below u.heap.size u w') := fun f v u h => hCk _ caps f v u h
  have HFi : Hid (∀ (f : Flows) (v : Value) (u : World), Below w.heap.size w u → NetAt (fun _ => True) u v caps f → Calls Tryz.prog 16 #[v, x] u fun e w' => e = .returned (.tuple #[.bool (decide (loadE caps f r = 0) && fitsB caps f r), errV (loadE caps f r)]) ∧ Below u.heap.size u w') := fun f v u hu h => hFi _ caps f r v x u h ((hx.later hu).keep (fun _ _ _ => rfl) (fun _ _ _ => trivial))
  have HCm : Hid (∀ (z : List (Int × Int)) (y : Value) (u : World), Below w.heap.size w u → FracsAt (fun _ => True) u y z → rankE r z = 0 → Calls Tryz.prog 17 #[x, y] u fun e w' => e = .returned (.tuple #[.int .i64 (rankV r z), .nilIface]) ∧ Below u.heap.size u w') := fun z y u hu hy he => by
    have := hCm _ _ r z x y u (hx.later hu) hy
    rw [he, errV_0] at this
    exact this
  have HSF : Hid (∀ (z : List (Int × Int)) (y1 y2 : Value) (u : World), FracsAt (fun _ => True) u y1 z → FracsAt (fun _ => True) u y2 z → Calls Tryz.prog 14 #[y1, y2] u fun e w' => e = .returned (.bool true) ∧ ∃ n, w' = u.drewN n) := fun z y1 y2 u hy1 hy2 => by
    have := SFracs_any z z y1 y2 u hy1 hy2
    rw [eqF_self] at this
    exact this
  have H0 : Hid (∀ u, Below w.heap.size w u → IntsAt (fun _ => True) u v0 caps) := fun u hu => (h0.later hu).keep (fun _ _ _ => rfl) (fun _ _ _ => trivial)
  have HCp : Hid (∀ i, i < paths.length → ∃ a c b off ai ci, v1 = .slice a paths.length c ∧ a = some ⟨b, off, none⟩ ∧ (∀ u, Below w.heap.size w u → u.cell? ⟨b, off + i, none⟩ = some (.slice ai (paths.getD i []).length ci)) ∧ IntsAt (fun b => b < w.heap.size) w (.slice ai (paths.getD i []).length ci) (paths.getD i [])) := fun i hi => by
    obtain ⟨a', c', e, _, hc⟩ := id h1
    rcases hc with hc | ⟨b, off, rfl, hc, _⟩
    · rw [hc] at hi; simp at hi
    · obtain ⟨y, hy, hyi⟩ := hc i hi
      obtain ⟨ai, ci, rfl, _⟩ := id hyi
      exact ⟨_, c', b, off, ai, ci, e, rfl, fun u hu => cell_later hu hy, hyi⟩
  obtain ⟨a0, c0, rfl, ⟨hm0, hn0⟩, _⟩ := h0
  obtain ⟨a1, c1, rfl, ⟨hm1, hn1⟩, _⟩ := h1
  obtain ⟨ar, cr, rfl, ⟨hmr, hnr⟩, _⟩ := hx
  clear hN hA hD hS hC hP hR hRa hCk hFi hCm hg
  go_enter Tryz.func3, Tryz.ntmps3
  go_wp2_with fail
  refine (HOne.out _).mono ?_
  rintro e w1 ⟨rfl, hw1⟩
  have B1 : Hid (Below w.heap.size w w1) := hw1
  clear hw1
  go_wp2_with fail
  refine (HNw.out _ B1.out).mono ?_
  intro e w2 hmade
  by_cases hle : linksE caps = 0
  · obtain ⟨a, rfl, hl⟩ := made_logAt hle B1.out e w2 hmade
    have L2 : Hid (LogAt X w a 1 (log0 caps) w2) := hl
    have G2 : Hid (GoesS caps (log0 caps)) := goes0 caps
    clear hmade hl HOne HNw B1
    go_wp2
    go_loopw [12] (fun s12 wr => ∃ (i : Nat) (s : LogS), i ≤ 12 ∧ s12 = .int .i64 i ∧ Hid (LogAt X w a (i + 1) s wr) ∧ Hid (GoesS caps s)) (fun s12 _ => 12 - (intOf s12).toNat)
    case atStart => exact ⟨0, _, by omega, rfl, L2, G2⟩
    case round =>
      clear L2 G2
      obtain ⟨i, s, hi, rfl, hL, hG⟩ := hrel
      by_cases hlt : i < paths.length ∧ i < 12
      · have k1 : (i : Int) < paths.length := by omega
        have k2 : (i : Int) < 12 := by omega
        have hrem : (i : Int).tmod 4 = ((i % 4 : Nat) : Int) := by rw [Int.tmod_eq_emod_of_nonneg (by omega)]; omega
        by_cases h3 : i % 4 = 3
        · have q3 : (((i % 4 : Nat) : Int) == 3) = true := by rw [h3]; rfl
          have q2 : ((i : Int) == 2) = false := beq_eq_false_iff_ne.2 (by omega)
          go_wp2_with fail
          refine (HDr.out _ _ _ _ hL.out (by omega) hG.out).mono ?_
          rintro e w3 ⟨s', kk, rfl, hl, hg'⟩
          have L3 : Hid (LogAt X w a (i + 1 + 1) s' w3) := hl
          have G3 : Hid (GoesS caps s') := hg'
          clear hl hg'
          go_wp2
          go_roundw
          case rel => exact ⟨i + 1, s', by omega, by go_num, L3, G3⟩
          case measure => simp [intOf]; omega
        · have q3 : (((i % 4 : Nat) : Int) == 3) = false := beq_eq_false_iff_ne.2 (by omega)
          obtain ⟨a', c', b, off, ai, ci, e1, rfl, hc, hvi⟩ := HCp.out i hlt.1
          simp only [Value.slice.injEq] at e1
          obtain ⟨rfl, -, rfl⟩ := e1
          have cc := hc _ hL.out.below
          have HAi : Hid (∀ u, LogAt X w a (i + 1) s u → Calls Tryz.prog 7 #[.pointer (some a), .slice ai (paths.getD i []).length ci] u fun e w' => ∃ s' k, e = .returned (errV k) ∧ LogAt X w a (i + 1 + 1) s' w' ∧ GoesS caps s') := fun u hu => HAd.out _ _ _ _ _ u hu (by omega) hG.out hvi
          clear hc hvi
          generalize (paths.getD i []).length = pl at *
          by_cases h2 : i = 2
          · subst h2
            go_wp2_with fail
            refine (HAi.out _ hL.out).mono ?_
            rintro e w3 ⟨s', kk, rfl, hl, hg'⟩
            have L3 : Hid (LogAt X w a (2 + 1 + 1) s' w3) := hl
            have G3 : Hid (GoesS caps s') := hg'
            clear hl hg'
            go_wp2_with fail
            refine (HSy.out _ _ _ _ L3.out (by decide) G3.out).mono ?_
            rintro e w4 ⟨rfl, hl, hg'⟩
            have L4 : Hid (LogAt X w a (2 + 1 + 1) (syncS s') w4) := hl
            have G4 : Hid (GoesS caps (syncS s')) := hg'
            clear hl hg'
            go_wp2
            go_roundw
            case rel => exact ⟨2 + 1, _, by omega, by go_num, L4, G4⟩
            case measure => simp [intOf]
          · have q2 : ((i : Int) == 2) = false := beq_eq_false_iff_ne.2 (by omega)
            go_wp2_with fail
            refine (HAi.out _ hL.out).mono ?_
            rintro e w3 ⟨s', kk, rfl, hl, hg'⟩
            have L3 : Hid (LogAt X w a (i + 1 + 1) s' w3) := hl
            have G3 : Hid (GoesS caps s') := hg'
            clear hl hg'
            go_wp2
            go_roundw
            case rel => exact ⟨i + 1, s', by omega, by go_num, L3, G3⟩
            case measure => simp [intOf]; omega
      · have L0 : Hid (LogAt X w a 13 s wr) := hL.out.up (by omega)
        have hex : (¬ (i : Int) < paths.length) ∨ ((i : Int) < paths.length ∧ ¬ (i : Int) < 12) := by omega
        clear hL hlt HCp HAd HDr HSy
        rcases hex with x1 | ⟨x1, x2⟩
        all_goals
          go_wp2_with fail
          refine (HCr.out _ _ _ _ L0.out (by decide) hG.out).mono ?_
          rintro e w3 ⟨sc, rfl, hl, hcp⟩
          have L3 : Hid (LogAt X w a 13 sc w3) := hl
          have HCp : Hid (sc.caps = caps) := hcp
          clear hl hcp
          go_wp2_with fail
          refine (HPa.out _ _ _ _ L3.out (by decide)).mono ?_
          rintro e w4 ⟨y, rfl, hy, hl, _⟩
          have L4 : Hid (LogAt X w a 13 sc w4) := hl
          obtain ⟨ay, cy, hys, ⟨hy1, hy2⟩, _⟩ := id hy
          subst hys
          have N5 : Hid (NetAt (fun _ => True) (w4.alloc (.cells #[.slice a0 caps.length c0, .slice ay sc.flows.length cy] 37)) (.agg #[.slice a0 caps.length c0, .slice ay sc.flows.length cy]) caps sc.flows) :=
            ⟨_, _, rfl, H0.out _ (Bel.more L4.out.below (Nat.le_refl _) _), (hy.later ((Below.refl _ _).alloc (Nat.le_refl _) _)).keep (fun _ _ _ => rfl) (fun _ _ _ => trivial)⟩
          have L5 : Hid (LogAt X w a 13 sc (w4.alloc (.cells #[.slice a0 caps.length c0, .slice ay sc.flows.length cy] 37))) := L4.out.later ((Below.refl _ _).alloc (Nat.le_refl _) _)
          have R5 : Hid (RowAt (w4.alloc (.cells #[.slice a0 caps.length c0, .slice ay sc.flows.length cy] 37)) w4.heap.size 37 [.slice a0 caps.length c0, .slice ay sc.flows.length cy]) := row_made _ _ _ _ _ rfl rfl
          have HRt5 : Hid (Calls Tryz.prog 11 #[.pointer (some a)] (w4.alloc (.cells #[.slice a0 caps.length c0, .slice ay sc.flows.length cy] 37)) fun e w' => ∃ y, e = .returned (.tuple #[y, errV (ratesLE sc.flows)]) ∧ FracsAt (fun b => (w4.alloc (.cells #[.slice a0 caps.length c0, .slice ay sc.flows.length cy] 37)).heap.size ≤ b) w' y (okL (ratesLE sc.flows) (fill sc.caps sc.flows).1) ∧ LogAt X w a 13 sc w' ∧ Below (w4.alloc (.cells #[.slice a0 caps.length c0, .slice ay sc.flows.length cy] 37)).heap.size (w4.alloc (.cells #[.slice a0 caps.length c0, .slice ay sc.flows.length cy] 37)) w') := HRt.out _ _ _ _ L5.out (by decide)
          clear hl hy L3 L4 HPa HRt HCr L0
          by_cases hz : sc.flows.length = 0
          · rw [show ratesLE sc.flows = 5 by rw [ratesLE, if_pos hz], errV_ne (by decide)] at HRt5
            rw [hz] at HRt5 R5 ⊢
            go_wp2_with fail
            refine HRt5.out.mono ?_
            rintro e w6 ⟨z, rfl, hzz, hl, hw6⟩
            have L6 : Hid (LogAt X w a 13 sc w6) := hl
            obtain ⟨az, cz, rfl, _⟩ := hzz
            have R6 := R5.out.later hw6 (by simp)
            have d1 := R6.cell (i := 1) rfl
            have dl := R6.lt
            clear hl hw6 R6
            go_wp2_with fail
            refine (HE5.out _ L6.out.below).mono ?_
            rintro e w7 ⟨rfl, hw7⟩
            have B7 : Hid (Below w.heap.size w w7) := Bel.call L6.out.below (Nat.le_refl _) hw7
            clear hw7
            go_wp2
            go_ret
            exact ⟨rfl, B7.out⟩
          · have hne : netE caps sc.flows = 0 := by have := log_net L5.out.ok hz; rwa [HCp.out] at this
            rw [show ratesLE sc.flows = 0 by rw [ratesLE, if_neg hz], errV_0, okL_0, HCp.out] at HRt5
            have HRa1 : Hid (∀ (v : Value) (u : World), NetAt (fun _ => True) u v caps sc.flows → Calls Tryz.prog 13 #[v] u fun e w' => ∃ y, e = .returned (.tuple #[y, .nilIface]) ∧ FracsAt (fun b => u.heap.size ≤ b) w' y (fill caps sc.flows).1 ∧ Below u.heap.size u w') := fun v u h => by
              have := HRa.out _ v u h
              rw [hne, errV_0, okL_0] at this
              exact this
            have HCk1 : Hid (∀ (v : Value) (u : World), NetAt (fun _ => True) u v caps sc.flows → Calls Tryz.prog 15 #[v] u fun e w' => e = .returned .nilIface ∧ Below u.heap.size u w') := fun v u h => by
              have := HCk.out _ v u h
              rw [hne, errV_0] at this
              exact this
            have HFi1 : Hid (∀ (v : Value) (u : World), Below w.heap.size w u → NetAt (fun _ => True) u v caps sc.flows → Calls Tryz.prog 16 #[v, .slice ar r.length cr] u fun e w' => e = .returned (.tuple #[.bool (decide (loadE caps sc.flows r = 0) && fitsB caps sc.flows r), errV (loadE caps sc.flows r)]) ∧ Below u.heap.size u w') := fun v u hu h => HFi.out _ v u hu h
            have HBst : Hid (loadE caps sc.flows r = 0 → rankE r (fill caps sc.flows).1 = 0 ∧ (fitsB caps sc.flows r = true → rankV r (fill caps sc.flows).1 ≤ 0)) := fun h => by
              obtain ⟨b1, _, _, _, b5, _⟩ := best_right h
              exact ⟨b1, b5⟩
            clear HRa HCk HFi hne HE5
            generalize (fill caps sc.flows).1 = xs at *
            go_wp2_with fail
            refine HRt5.out.mono ?_
            rintro e w6 ⟨z, rfl, hzz, hl, hw6⟩
            have L6 : Hid (LogAt X w a 13 sc w6) := hl
            have Z6 : Hid (FracsAt (fun _ => True) w6 z xs) := hzz.keep (fun _ _ _ => rfl) (fun _ _ _ => trivial)
            obtain ⟨az, cz, rfl, _⟩ := hzz
            have R6 : Hid (RowAt w6 w4.heap.size 37 [.slice a0 caps.length c0, .slice ay sc.flows.length cy]) := R5.out.later hw6 (by simp)
            have N6 : Hid (NetAt (fun _ => True) w6 (.agg #[.slice a0 caps.length c0, .slice ay sc.flows.length cy]) caps sc.flows) := N5.out.later hw6
            have d0 := R6.out.cell (i := 0) rfl
            have d1 := R6.out.cell (i := 1) rfl
            have dl := R6.out.lt
            clear hl hw6 R5 N5 L5 HRt5
            go_wp2_with fail
            refine (HRa1.out _ _ N6.out).mono ?_
            rintro e w7 ⟨y7, rfl, hy7, hw7⟩
            have B7 : Hid (Below w.heap.size w w7) := Bel.call L6.out.below (Nat.le_refl _) hw7
            have Y7 : Hid (FracsAt (fun _ => True) w7 y7 xs) := hy7.keep (fun _ _ _ => rfl) (fun _ _ _ => trivial)
            obtain ⟨a7, c7, rfl, _⟩ := hy7
            have Z7 : Hid (FracsAt (fun _ => True) w7 (.slice az xs.length cz) xs) := Z6.out.later hw7
            have R7 : Hid (RowAt w7 w4.heap.size 37 [.slice a0 caps.length c0, .slice ay sc.flows.length cy]) := R6.out.later hw7 dl
            have N7 : Hid (NetAt (fun _ => True) w7 (.agg #[.slice a0 caps.length c0, .slice ay sc.flows.length cy]) caps sc.flows) := N6.out.later hw7
            clear hw7 d0 d1 dl R6 N6 Z6 L6
            go_wp2_with fail
            refine (HSF.out _ _ _ _ Z7.out Y7.out).mono ?_
            rintro e w8 ⟨rfl, n8, rfl⟩
            have hb8 : Below w7.heap.size w7 (w7.drewN n8) := below_drewN (Below.refl _ _) _
            have B8 : Hid (Below w.heap.size w (w7.drewN n8)) := Bel.call B7.out (Nat.le_refl _) hb8
            have Z8 : Hid (FracsAt (fun _ => True) (w7.drewN n8) (.slice az xs.length cz) xs) := Z7.out.later hb8
            have R8 : Hid (RowAt (w7.drewN n8) w4.heap.size 37 [.slice a0 caps.length c0, .slice ay sc.flows.length cy]) := R7.out.later hb8 R7.out.lt
            have N8 : Hid (NetAt (fun _ => True) (w7.drewN n8) (.agg #[.slice a0 caps.length c0, .slice ay sc.flows.length cy]) caps sc.flows) := N7.out.later hb8
            clear hb8 B7 Z7 R7 N7 Y7
            generalize w7.drewN n8 = w8 at *
            have d0 := R8.out.cell (i := 0) rfl
            have d1 := R8.out.cell (i := 1) rfl
            have dl := R8.out.lt
            go_wp2_with fail
            refine (HCk1.out _ _ N8.out).mono ?_
            rintro e w9 ⟨rfl, hw9⟩
            have B9 : Hid (Below w.heap.size w w9) := Bel.call B8.out (Nat.le_refl _) hw9
            have Z9 : Hid (FracsAt (fun _ => True) w9 (.slice az xs.length cz) xs) := Z8.out.later hw9
            have R9 : Hid (RowAt w9 w4.heap.size 37 [.slice a0 caps.length c0, .slice ay sc.flows.length cy]) := R8.out.later hw9 dl
            have N9 : Hid (NetAt (fun _ => True) w9 (.agg #[.slice a0 caps.length c0, .slice ay sc.flows.length cy]) caps sc.flows) := N8.out.later hw9
            clear hw9 d0 d1 dl R8 N8 Z8 B8
            have d0 := R9.out.cell (i := 0) rfl
            have d1 := R9.out.cell (i := 1) rfl
            have dl := R9.out.lt
            by_cases hle0 : loadE caps sc.flows r = 0
            · obtain ⟨k1, k2⟩ := HBst.out hle0
              rw [show (decide (loadE caps sc.flows r = 0) && fitsB caps sc.flows r) = fitsB caps sc.flows r by rw [hle0]; simp, hle0, errV_0] at HFi1
              have HCm1 : Hid (∀ u, Below w.heap.size w u → FracsAt (fun _ => True) u (.slice az xs.length cz) xs → Calls Tryz.prog 17 #[.slice ar r.length cr, .slice az xs.length cz] u fun e w' => e = .returned (.tuple #[.int .i64 (rankV r xs), .nilIface]) ∧ Below u.heap.size u w') := fun u hu h => HCm.out _ _ u hu h k1
              generalize rankV r xs = o at *
              cases hfb : fitsB caps sc.flows r with
              | true =>
                have ho := k2 hfb
                rw [hfb] at HFi1
                clear k1 k2 hfb hle0 HBst
                go_wp2_with fail
                refine (HFi1.out _ _ B9.out N9.out).mono ?_
                rintro e w10 ⟨rfl, hw10⟩
                have B10 : Hid (Below w.heap.size w w10) := Bel.call B9.out (Nat.le_refl _) hw10
                have Z10 : Hid (FracsAt (fun _ => True) w10 (.slice az xs.length cz) xs) := Z9.out.later hw10
                clear hw10
                go_wp2_with fail
                refine (HCm1.out _ B10.out Z10.out).mono ?_
                rintro e w11 ⟨rfl, hw11⟩
                have B11 : Hid (Below w.heap.size w w11) := Bel.call B10.out (Nat.le_refl _) hw11
                clear hw11
                go_wp2
                go_ret
                exact ⟨ret_bool (by simp [ho]), B11.out⟩
              | false =>
                rw [hfb] at HFi1
                clear k1 k2 hfb hle0 HBst
                go_wp2_with fail
                refine (HFi1.out _ _ B9.out N9.out).mono ?_
                rintro e w10 ⟨rfl, hw10⟩
                have B10 : Hid (Below w.heap.size w w10) := Bel.call B9.out (Nat.le_refl _) hw10
                clear hw10
                go_wp2
                go_ret
                exact ⟨rfl, B10.out⟩
            · simp only [errV_ne hle0] at HFi1
              generalize (decide (loadE caps sc.flows r = 0) && fitsB caps sc.flows r) = fb at *
              generalize loadE caps sc.flows r = le at *
              go_wp2_with fail
              refine (HFi1.out _ _ B9.out N9.out).mono ?_
              rintro e w10 ⟨rfl, hw10⟩
              have B10 : Hid (Below w.heap.size w w10) := Bel.call B9.out (Nat.le_refl _) hw10
              clear hw10
              go_wp2
              go_ret
              exact ⟨rfl, B10.out⟩
  · obtain ⟨a, rfl, hw2⟩ := made_logBad hle e w2 hmade
    have B2 : Hid (Below w.heap.size w w2) := Bel.call B1.out (Nat.le_refl _) hw2
    clear hmade hw2
    generalize linksE caps = le at *
    go_wp2
    go_ret
    exact ⟨rfl, B2.out⟩
end Ev
end Go.Proofs.YtdldgefahgojaakGreatDoor
