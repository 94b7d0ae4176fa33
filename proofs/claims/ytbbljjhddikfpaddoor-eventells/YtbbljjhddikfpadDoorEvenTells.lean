/- The law EvenTells returns true for every input, from what is asked of package even's calls. -/
import Derived.Test.YtbbljjhddikfpadDoorPlains
import Derived.Test.YtbbljjhddikfpadDoorRFew
import Derived.Test.YtbbljjhddikfpadDoorRTot
import Derived.Test.YtbbljjhddikfpadDoorRGap
import Derived.Test.YtbbljjhddikfpadDoorRefLo
import Derived.Test.YtbbljjhddikfpadDoorSameI
import Derived.Test.YtbbljjhddikfpadDoorToldB
import Derived.Deep.DeepCutAuto
import Derived.OwnWalk
namespace Go.Proofs.YtbbljjhddikfpadDoor
namespace Ev
open Go.RowKit Fr Ns Ld Fl
set_option linter.unusedSimpArgs false
set_option linter.unusedVariables false

theorem give_range {l : List Int} {f t m : Int} (h0 : few l 1000 = 0) (h : f < 0 ∨ l.length ≤ f ∨ t < 0 ∨ l.length ≤ t ∨ m < 0 ∨ 1000 < m) : giveE l f t m = 1 := by rw [giveE, if_pos h0, if_pos h]
theorem give_low {l : List Int} {f t m : Int} (h0 : few l 1000 = 0) (h : ¬ (f < 0 ∨ l.length ≤ f ∨ t < 0 ∨ l.length ≤ t ∨ m < 0 ∨ 1000 < m)) (h1 : l.getD f.toNat 0 < m) : giveE l f t m = 8 := by rw [giveE, if_pos h0, if_neg h, if_pos h1]
theorem give_full {l : List Int} {f t m : Int} (h0 : few l 1000 = 0) (h : ¬ (f < 0 ∨ l.length ≤ f ∨ t < 0 ∨ l.length ≤ t ∨ m < 0 ∨ 1000 < m)) (h1 : ¬ l.getD f.toNat 0 < m) (h2 : 1000 < (giveL l f.toNat t.toNat m).getD t.toNat 0) : giveE l f t m = 4 := by rw [giveE, if_pos h0, if_neg h, if_neg h1, if_pos h2]
theorem give_ok {l : List Int} {f t m : Int} (h0 : few l 1000 = 0) (h : ¬ (f < 0 ∨ l.length ≤ f ∨ t < 0 ∨ l.length ≤ t ∨ m < 0 ∨ 1000 < m)) (h1 : ¬ l.getD f.toNat 0 < m) (h2 : ¬ 1000 < (giveL l f.toNat t.toNat m).getD t.toNat 0) : giveE l f t m = 0 := by rw [giveE, if_pos h0, if_neg h, if_neg h1, if_neg h2]

theorem getD_some {L : List Int} {i : Nat} (h : i < L.length) : L[i]? = some (L.getD i 0) := by simp [List.getD, List.getElem?_eq_getElem h]

set_option maxRecDepth 100000 in
set_option maxHeartbeats 8000000 in
theorem evenTells_walk (hI : EIndexSaid) (hG : EGapSaid) (hV : EGiveSaid) (l : List Int) (f t m : Int) (v : Value) (w : World)
    (hg : w.cell? ⟨0, 0, none⟩ = some handleV) (hv : IntsAt (fun b => b < w.heap.size) w v l) :
    Calls Tryd.prog 5 #[v, .int .i64 f, .int .i64 t, .int .i64 m] w fun e w' => e = .returned (.bool true) ∧ Below w.heap.size w w' := by
  have HFw : Hid (Calls Tryd.prog 21 #[v, .int .i64 1000] w fun e w' => e = .returned (.int .i64 (few l 1000)) ∧ w' = w) := RFew_any l 1000 v w hv
  have HI : Hid (∀ u : World, Below w.heap.size w u → Calls Tryd.prog 24 #[v] u fun e w' => e = .returned (.tuple #[.agg #[.int .i64 (okF (idxE l) (idx l)).1, .int .i64 (okF (idxE l) (idx l)).2], errV (idxE l)]) ∧ Below u.heap.size u w') := fun u hu => hI _ l v u (hv.later hu)
  have HG : Hid (∀ u : World, Below w.heap.size w u → Calls Tryd.prog 26 #[v] u fun e w' => e = .returned (.tuple #[.int .i64 (okI (few l 1000) (gapL l)), errV (few l 1000)]) ∧ Below u.heap.size u w') := fun u hu => hG _ l v u (hv.later hu)
  have HV : Hid (∀ u : World, Below w.heap.size w u → Calls Tryd.prog 27 #[v, .int .i64 f, .int .i64 t, .int .i64 m] u fun e w' => ∃ y, e = .returned (.tuple #[y, errV (giveE l f t m)]) ∧ IntsAt (fun b => u.heap.size ≤ b) w' y (okL (giveE l f t m) (giveL l f.toNat t.toNat m)) ∧ Below u.heap.size u w') := fun u hu => hV _ l f t m v u (hv.later hu)
  have HEr : Hid (∀ (k : Int) (u : World), Below w.heap.size w u → Calls Tryd.prog 9 #[errV k, .int .i64 k] u fun e w' => e = .returned (.bool true) ∧ Below u.heap.size u w') := fun k u hu => by
    have := Error_any k k u (cell_later hu hg)
    rw [beq_self_eq_true] at this
    exact this
  have HVv : Hid (IntsAt (fun b => b < w.heap.size) w v l) := hv
  obtain ⟨a, cap, rfl, ⟨hm1, hm2⟩, hc⟩ := hv
  have HC : Hid (∀ i, i < l.length → ∃ b off, a = some ⟨b, off, none⟩ ∧ ∀ u, Below w.heap.size w u → u.cell? ⟨b, off + i, none⟩ = some (.int .i64 (l.getD i 0))) := by
    intro i hi
    rcases hc with h | ⟨b, off, rfl, h, _⟩
    · rw [h] at hi; simp at hi
    · exact ⟨b, off, rfl, fun u hu => cell_later hu (h i hi)⟩
  have BA : Hid (Below w.heap.size w (w.alloc (.cells #[.int .i64 0, .int .i64 0] 39))) := (Below.refl _ _).alloc (Nat.le_refl _) _
  have RA : Hid (RowAt (w.alloc (.cells #[.int .i64 0, .int .i64 0] 39)) w.heap.size 39 [.int .i64 0, .int .i64 0]) := RowAt.new _ _ _
  clear hg hc hI hG hV
  by_cases he : few l 1000 = 0
  · obtain ⟨n1, n6, hb⟩ := few_0.1 he
    have HT : Hid (∀ u : World, Below w.heap.size w u → Calls Tryd.prog 22 #[.slice a l.length cap] u fun e w' => e = .returned (.int .i64 (tot l)) ∧ w' = u) := fun u hu => RTot_any l _ u (HVv.out.later hu) (by omega) (fun x hx => by have := hb x hx; omega)
    have HGp : Hid (∀ u : World, Below w.heap.size w u → Calls Tryd.prog 25 #[.slice a l.length cap] u fun e w' => e = .returned (.int .i64 (gapL l)) ∧ w' = u) := fun u hu => RGap_any l _ u (HVv.out.later hu) n1 (fun x hx => by have := hb x hx; omega)
    have HF1 : Hid (tot l = 0 → idxE l = 5) := fun h => by rw [idxE, if_pos he, if_pos h]
    have HF2 : Hid (tot l ≠ 0 → idxE l = 0) := fun h => idxE_0.2 ⟨he, h⟩
    have HLw : Hid (tot l ≠ 0 → ∀ u : World, Calls Tryd.prog 23 #[.int .i64 (tot l * tot l), .int .i64 (l.length * sqs l)] u fun e w' => e = .returned (.agg #[.int .i64 (idx l).1, .int .i64 (idx l).2]) ∧ Below u.heap.size u w') := fun h u => by
      obtain ⟨_, _, _, _, p1, p2, p3, p4⟩ := idx_parts (HF2.out h)
      exact Low_any _ _ u (by omega) (by omega) p1 (by omega)
    have Hp : Hid (tot l ≠ 0 → 1 ≤ tot l ∧ tot l ≤ 6000 ∧ 0 ≤ tot l * tot l ∧ tot l * tot l ≤ 36000000 ∧ 0 ≤ (l.length : Int) * sqs l ∧ (l.length : Int) * sqs l ≤ 36000000) := fun h => by
      obtain ⟨q1, q2, q3, q4, p1, p2, p3, p4⟩ := idx_parts (HF2.out h)
      exact ⟨q1, q2, p3, p4, by omega, p2⟩
    have Hsq : Hid (∀ k, k ≤ l.length → 0 ≤ sqs (l.take k) ∧ sqs (l.take k) ≤ 6000000) := fun k hk => by
      have := sqs_bd (M := 1000) (l := l.take k) (fun x hx => hb x (List.mem_of_mem_take hx))
      rw [List.length_take] at this
      have h2 : ((min k l.length : Nat) : Int) ≤ 6 := by omega
      have : ((min k l.length : Nat) : Int) * (1000 * 1000) ≤ 6 * (1000 * 1000) := Int.mul_le_mul_of_nonneg_right h2 (by decide)
      omega
    have Hb : Hid (∀ k, k < l.length → 0 ≤ l.getD k 0 ∧ l.getD k 0 ≤ 1000) := fun k hk => hb _ (getD_mem l k hk 0)
    have HR1 : Hid ((f < 0 ∨ l.length ≤ f ∨ t < 0 ∨ l.length ≤ t ∨ m < 0 ∨ 1000 < m) → giveE l f t m = 1) := fun h => give_range he h
    have HR2 : Hid (¬ (f < 0 ∨ l.length ≤ f ∨ t < 0 ∨ l.length ≤ t ∨ m < 0 ∨ 1000 < m) → l.getD f.toNat 0 < m → giveE l f t m = 8) := fun h h1 => give_low he h h1
    have HR3 : Hid (¬ (f < 0 ∨ l.length ≤ f ∨ t < 0 ∨ l.length ≤ t ∨ m < 0 ∨ 1000 < m) → ¬ l.getD f.toNat 0 < m → 1000 < (giveL l f.toNat t.toNat m).getD t.toNat 0 → giveE l f t m = 4) := fun h h1 h2 => give_full he h h1 h2
    have HR4 : Hid (¬ (f < 0 ∨ l.length ≤ f ∨ t < 0 ∨ l.length ≤ t ∨ m < 0 ∨ 1000 < m) → ¬ l.getD f.toNat 0 < m → ¬ 1000 < (giveL l f.toNat t.toNat m).getD t.toNat 0 → giveE l f t m = 0) := fun h h1 h2 => give_ok he h h1 h2
    rw [he] at HFw
    rw [he, okI_0, errV_0] at HG
    have HE0 : Hid (∀ u : World, Below w.heap.size w u → Calls Tryd.prog 9 #[.nilIface, .int .i64 0] u fun e w' => e = .returned (.bool true) ∧ Below u.heap.size u w') := HEr.out 0
    clear he hb
    go_enter Tryd.func5, Tryd.ntmps5
    go_wp2_with fail
    refine HFw.out.mono ?_
    rintro e w ⟨rfl, rfl⟩
    go_wp2_with fail
    refine (HT.out _ BA.out).mono ?_
    rintro e wt ⟨rfl, rfl⟩
    obtain ⟨F1, HFF⟩ : ∃ F, Hid (idxE l = F) := ⟨_, rfl⟩
    obtain ⟨P, HP⟩ : ∃ P, Hid (okF F1 (idx l) = P) := ⟨_, rfl⟩
    go_upto_if 32 with fail
    go_cut [10] (fun s10 wc => s10 = .int .i64 F1 ∧ Hid (RowAt wc w.heap.size 39 [.int .i64 P.1, .int .i64 P.2]) ∧ Hid (Below w.heap.size w wc))
    case first =>
      as_aux_lemma =>
        by_cases h0 : tot l = 0
        · obtain rfl : F1 = 5 := by rw [← HFF.out]; exact HF1.out h0
          obtain rfl : P = (0, 0) := by rw [← HP.out]; rfl
          have q : (tot l == 0) = true := by simp [h0]
          clear h0
          go_wp2
          go_meet
          case rel => exact ⟨rfl, RA, BA⟩
        · obtain rfl : F1 = 0 := by rw [← HFF.out]; exact HF2.out h0
          obtain rfl : P = idx l := by rw [← HP.out]; rfl
          have q : (tot l == 0) = false := beq_eq_false_iff_ne.2 h0
          have HLo : Hid (∀ u : World, Calls Tryd.prog 23 #[.int .i64 (tot l * tot l), .int .i64 (l.length * sqs l)] u fun e w' => e = .returned (.agg #[.int .i64 (idx l).1, .int .i64 (idx l).2]) ∧ Below u.heap.size u w') := HLw.out h0
          obtain ⟨p1, p2, p3, p4, p5, p6⟩ := Hp.out h0
          clear h0 HLw Hp HF1 HF2
          go_wp2
          go_loopw [12, 13] (fun s12 i wq => ∃ k n : Nat, k ≤ l.length ∧ i = .int .i64 k ∧ s12 = .int .i64 (sqs (l.take k)) ∧ Hid (wq = (w.alloc (.cells #[.int .i64 0, .int .i64 0] 39)).drewN n)) (fun _ i _ => l.length - (intOf i).toNat)
          case atStart => exact ⟨0, 0, by omega, rfl, rfl, rfl⟩
          case round =>
            obtain ⟨k, n, hk, rfl, rfl, hw⟩ := hrel
            have Bq : Hid (Below w.heap.size w wr) := by rw [hw.out]; exact below_drewN BA.out _
            by_cases hlt : k < l.length
            · obtain ⟨b, off, rfl, hcl⟩ := HC.out k hlt
              have c0 := hcl _ Bq.out
              have hs := sqs_step l k hlt
              have y1 := Hsq.out k hk
              have y2 := Hsq.out (k + 1) hlt
              obtain ⟨y3, y4⟩ := Hb.out k hlt
              have y5 : 0 ≤ l.getD k 0 * l.getD k 0 := sq_nonneg _
              have y6 : l.getD k 0 * l.getD k 0 ≤ 1000 * 1000 := Int.mul_le_mul y4 y4 y3 (by decide)
              have HS : Hid (sqs (l.take (k + 1)) = sqs (l.take k) + l.getD k 0 * l.getD k 0) := hs
              rw [hs] at y2
              clear hcl hs
              generalize sqs (l.take k) = sq at *
              generalize l.getD k 0 = y at *
              generalize hyy : y * y = yy at *
              have hwr : IntKind.i64.wrap (y * y) = yy := by rw [IntKind.wrap_i64, hyy]; omega
              go_wp2
              go_quiet (fail)
              go_wp2
              go_roundw
              case rel => exact ⟨k + 1, n + nq, by omega, by go_num, by rw [HS.out], (show _ = _ by rw [hw.out]; simp)⟩
              case measure => simp [intOf]; omega
            · have HQ : Hid (sqs (l.take k) = sqs l) := by show _ = _; rw [List.take_of_length_le (by omega)]
              rw [HQ.out]
              have Rq : RowAt wr w.heap.size 39 [.int .i64 0, .int .i64 0] := by
                have h := RA.out
                rw [hw.out]
                exact h.later (below_drewN (Below.refl _ _) _) h.lt
              have HRq : Hid (RowAt wr w.heap.size 39 [.int .i64 0, .int .i64 0]) := Rq
              generalize hT2 : tot l * tot l = T2 at *
              generalize hL2 : (l.length : Int) * sqs l = L2 at *
              have hw1 : IntKind.i64.wrap (tot l * tot l) = T2 := by rw [IntKind.wrap_i64, hT2]; omega
              have hw2 : IntKind.i64.wrap ((l.length : Int) * sqs l) = L2 := by rw [IntKind.wrap_i64, hL2]; omega
              generalize tot l = TT at *
              generalize sqs l = SS at *
              clear HQ Rq
              go_wp2_with fail
              refine (HT.out _ Bq.out).mono ?_
              rintro e wr ⟨rfl, rfl⟩
              go_wp2_with fail
              refine (HT.out _ Bq.out).mono ?_
              rintro e wr ⟨rfl, rfl⟩
              go_wp2_with fail
              refine (HLo.out _).mono ?_
              rintro e w5 ⟨rfl, hw5⟩
              have B5 : Hid (Below w.heap.size w w5) := Bel.call Bq.out (Nat.le_refl _) hw5
              have R5 : RowAt w5 w.heap.size 39 [.int .i64 0, .int .i64 0] := HRq.out.later hw5 HRq.out.lt
              have d0 := R5.cell (i := 0) rfl
              have d1 := R5.cell (i := 1) rfl
              have f0 := R5.frozen 0
              have f1 := R5.frozen 1
              have R6 : Hid (RowAt ((w5.setCell ⟨w.heap.size, 0, none⟩ (.int .i64 (idx l).1)).setCell ⟨w.heap.size, 1, none⟩ (.int .i64 (idx l).2)) w.heap.size 39 [.int .i64 (idx l).1, .int .i64 (idx l).2]) := by
                show RowAt _ _ _ _
                simpa using (R5.set 0 (.int .i64 (idx l).1)).set 1 (.int .i64 (idx l).2)
              have B6 : Hid (Below w.heap.size w ((w5.setCell ⟨w.heap.size, 0, none⟩ (.int .i64 (idx l).1)).setCell ⟨w.heap.size, 1, none⟩ (.int .i64 (idx l).2))) := (B5.out.setCell (by simp) _).setCell (by simp) _
              clear hw5 R5
              go_wp2
              go_meet
              case rel => exact ⟨rfl, R6, B6⟩
    case rest =>
      as_aux_lemma =>
        obtain ⟨w6, rfl⟩ : ∃ x : World, x = wc := ⟨_, rfl⟩
        obtain ⟨rfl, R6, B6⟩ := hcut
        rw [HFF.out, HP.out] at HI
        obtain ⟨P1, P2⟩ := P
        have HE1 : Hid (∀ u : World, Below w.heap.size w u → Calls Tryd.prog 9 #[errV F1, .int .i64 F1] u fun e w' => e = .returned (.bool true) ∧ Below u.heap.size u w') := HEr.out F1
        clear HF1 HF2 HLw Hp HP HFF HT
        go_wp2_with fail
        refine (HI.out _ B6.out).mono ?_
        rintro e w7 ⟨rfl, hw7⟩
        have B7 : Hid (Below w.heap.size w w7) := Bel.call B6.out (Nat.le_refl _) hw7
        have z7 : w.heap.size ≤ w7.heap.size := B7.out.size
        have B7' : Hid (Below w.heap.size w (w7.alloc (.cells #[.int .i64 P1, .int .i64 P2] 39))) := B7.out.alloc z7 _
        have R7 : Hid (RowAt (w7.alloc (.cells #[.int .i64 P1, .int .i64 P2] 39)) w.heap.size 39 [.int .i64 P1, .int .i64 P2]) := (R6.out.later hw7 R6.out.lt).alloc _
        clear hw7
        go_wp2_with fail
        refine (HE1.out _ B7'.out).mono ?_
        rintro e w8 ⟨rfl, hw8⟩
        have B8 : Hid (Below w.heap.size w w8) := Bel.call B7'.out (Nat.le_refl _) hw8
        have R8 := R7.out.later hw8 R7.out.lt
        have k0 := R8.cell (i := 0) rfl
        have k1 := R8.cell (i := 1) rfl
        have k2 : w8.cell? ⟨w7.heap.size, 0, none⟩ = some (.int .i64 P1) := cell_later hw8 (by simp)
        have k3 : w8.cell? ⟨w7.heap.size, 1, none⟩ = some (.int .i64 P2) := cell_later hw8 (by simp)
        clear hw8 R8
        go_wp2_with fail
        refine (HGp.out _ B8.out).mono ?_
        rintro e w8 ⟨rfl, rfl⟩
        clear k0 k1 k2 k3
        go_wp2_with fail
        refine (HG.out _ B8.out).mono ?_
        rintro e w9 ⟨rfl, hw9⟩
        have B9' : Hid (Below w.heap.size w w9) := Bel.call B8.out (Nat.le_refl _) hw9
        clear hw9
        go_wp2_with fail
        refine (HE0.out _ B9'.out).mono ?_
        rintro e w9 ⟨rfl, hw9⟩
        have B9 : Hid (Below w.heap.size w w9) := Bel.call B9'.out (Nat.le_refl _) hw9
        clear hw9 B9'
        obtain ⟨o3, HO3⟩ : ∃ o : Bool, Hid (o = decide (f < 0 ∨ l.length ≤ f ∨ t < 0 ∨ l.length ≤ t ∨ m < 0 ∨ 1000 < m)) := ⟨_, rfl⟩
        go_upto_region 21 with fail
        go_cut [121] (fun s121 wc => s121 = .bool o3 ∧ Hid (Below w.heap.size w wc))
        case first =>
          as_aux_lemma =>
            by_cases c0 : f < 0
            · obtain rfl : o3 = true := by rw [HO3.out]; simp only [decide_eq_true_eq]; omega
              clear HO3
              go_wp2
              go_meet
              case rel => exact ⟨rfl, B9⟩
            · by_cases c1 : (l.length : Int) ≤ f
              · obtain rfl : o3 = true := by rw [HO3.out]; simp only [decide_eq_true_eq]; omega
                clear HO3
                go_wp2
                go_meet
                case rel => exact ⟨rfl, B9⟩
              · by_cases c2 : t < 0
                · obtain rfl : o3 = true := by rw [HO3.out]; simp only [decide_eq_true_eq]; omega
                  clear HO3
                  go_wp2
                  go_meet
                  case rel => exact ⟨rfl, B9⟩
                · by_cases c3 : (l.length : Int) ≤ t
                  · obtain rfl : o3 = true := by rw [HO3.out]; simp only [decide_eq_true_eq]; omega
                    clear HO3
                    go_wp2
                    go_meet
                    case rel => exact ⟨rfl, B9⟩
                  · by_cases c4 : m < 0
                    · obtain rfl : o3 = true := by rw [HO3.out]; simp only [decide_eq_true_eq]; omega
                      clear HO3
                      go_wp2
                      go_meet
                      case rel => exact ⟨rfl, B9⟩
                    · by_cases c5 : 1000 < m
                      · obtain rfl : o3 = true := by rw [HO3.out]; simp only [decide_eq_true_eq]; omega
                        clear HO3
                        go_wp2
                        go_meet
                        case rel => exact ⟨rfl, B9⟩
                      · obtain rfl : o3 = false := by rw [HO3.out]; simp only [decide_eq_false_iff_not]; omega
                        clear HO3
                        go_wp2
                        go_meet
                        case rel => exact ⟨rfl, B9⟩
        case rest =>
          as_aux_lemma =>
            obtain ⟨w10, rfl⟩ : ∃ x : World, x = wc := ⟨_, rfl⟩
            obtain ⟨rfl, B10⟩ := hcut
            obtain ⟨F3, HF3⟩ : ∃ F, Hid (giveE l f t m = F) := ⟨_, rfl⟩
            obtain ⟨i0, hi, hz0, hz1, hz2⟩ := info_parts infoInt
            go_upto_if 121 with fail
            go_cut [9, 20] (fun s9 s20 wc => s9 = .int .i64 F3 ∧ (∃ a n k, s20 = .slice a n k) ∧ Hid (IntsAt (fun _ => True) wc s20 (okL F3 (giveL l f.toNat t.toNat m))) ∧ Hid (Below w.heap.size w wc))
            case first =>
              as_aux_lemma =>
                by_cases hr : (f < 0 ∨ l.length ≤ f ∨ t < 0 ∨ l.length ≤ t ∨ m < 0 ∨ 1000 < m)
                · obtain rfl : o3 = true := by rw [HO3.out]; exact decide_eq_true hr
                  obtain rfl : F3 = 1 := by rw [← HF3.out]; exact HR1.out hr
                  have HN : Hid (∀ u : World, IntsAt (fun _ => True) u (.slice none 0 0) (okL 1 (giveL l f.toNat t.toNat m))) := fun u => by rw [okL_ne (by decide)]; exact ⟨none, 0, rfl, ⟨Nat.le_refl _, by simp⟩, .inl rfl⟩
                  clear HO3 HF3 hr
                  go_wp2
                  go_meet
                  case rel => exact ⟨rfl, ⟨_, _, _, rfl⟩, HN.out _, B10⟩
                · obtain rfl : o3 = false := by rw [HO3.out]; exact decide_eq_false hr
                  obtain ⟨fn, rfl⟩ : ∃ n : Nat, f = n := ⟨f.toNat, by omega⟩
                  obtain ⟨tn, rfl⟩ : ∃ n : Nat, t = n := ⟨t.toNat, by omega⟩
                  have HQ2 := (show Hid _ from HR2.out hr)
                  have HQ3 := (show Hid _ from HR3.out hr)
                  have HQ4 := (show Hid _ from HR4.out hr)
                  simp only [Int.toNat_natCast] at HQ2 HQ3 HQ4 ⊢
                  have m0 : 0 ≤ m ∧ m ≤ 1000 := by omega
                  have hfl : fn < l.length := by omega
                  have htl : tn < l.length := by omega
                  obtain ⟨bl, ol, rfl, hcl⟩ := HC.out fn hfl
                  have cf := hcl _ B10.out
                  obtain ⟨e1, e2⟩ := Hb.out fn hfl
                  obtain ⟨lf, HLF⟩ : ∃ x, Hid (l.getD fn 0 = x) := ⟨_, rfl⟩
                  rw [HLF.out] at cf e1 e2 HQ2 HQ3 HQ4
                  by_cases h1 : lf < m
                  · obtain rfl : F3 = 8 := by rw [← HF3.out]; exact HQ2.out h1
                    have HN : Hid (∀ u : World, IntsAt (fun _ => True) u (.slice none 0 0) (okL 8 (giveL l fn tn m))) := fun u => by rw [okL_ne (by decide)]; exact ⟨none, 0, rfl, ⟨Nat.le_refl _, by simp⟩, .inl rfl⟩
                    clear HO3 HF3 hr HQ2 HQ3 HQ4 hcl
                    go_wp2
                    go_meet
                    case rel => exact ⟨rfl, ⟨_, _, _, rfl⟩, HN.out _, B10⟩
                  · obtain ⟨gt, HGT⟩ : ∃ x, Hid ((l.set fn (lf - m)).getD tn 0 = x) := ⟨_, rfl⟩
                    have HNw : Hid (∀ j z, (l.map (Value.int .i64))[j]? = some z → w10.cell? ((⟨bl, ol, none⟩ : Addr).add j) = some z) := by
                      intro j z hj
                      rw [add_addr]
                      have hl : j < l.length := by have := (List.getElem?_eq_some_iff.1 hj).1; simpa using this
                      obtain ⟨b', o', e', h'⟩ := HC.out j hl
                      simp only [Option.some.injEq, Addr.mk.injEq, and_true] at e'
                      obtain ⟨rfl, rfl⟩ := e'
                      rw [h' _ B10.out, ← hj]
                      simp [List.getD, List.getElem?_eq_getElem hl]
                    have HGt : Hid (0 ≤ gt ∧ gt ≤ 1000) := by
                      rw [← HGT.out]
                      by_cases e : fn = tn
                      · subst e
                        rw [getD_set_self _ _ _ hfl]
                        show _ ∧ _
                        omega
                      · rw [getD_set_ne _ _ e]
                        exact Hb.out tn htl
                    have HGv : Hid ((giveL l fn tn m).getD tn 0 = gt + m) := by
                      show _ = _
                      unfold giveL
                      rw [getD_set_self _ _ _ (by simpa using htl), HLF.out, HGT.out]
                    have HGl : Hid ((giveL l fn tn m).map (Value.int .i64) = ((l.map (Value.int .i64)).set fn (.int .i64 (lf - m))).set tn (.int .i64 (gt + m))) := by
                      show _ = _
                      unfold giveL
                      rw [HLF.out, HGT.out, List.map_set, List.map_set]
                    have HLn : Hid ((giveL l fn tn m).length = l.length) := giveL_length _ _ _ _
                    have HSt : Hid (((l.map (Value.int .i64)).set fn (.int .i64 (lf - m)))[tn]? = some (.int .i64 gt)) := by
                      show _ = _
                      rw [← List.map_set, List.getElem?_map, getD_some (show tn < (l.set fn (lf - m)).length by simpa using htl), HGT.out]
                      rfl
                    have HFm : Hid ((l.map (Value.int .i64))[fn]? = some (.int .i64 lf)) := by
                      show _ = _
                      rw [List.getElem?_map, getD_some hfl, HLF.out]
                      rfl
                    clear hcl hr
                    go_wp2_with (at_builtin; go_must (refine wpList_append_own _ rfl (.tmp 134) (.tmp 135) 22 rfl w10.heap.size 3 i0 (.int .i64 0) 1 8 Tryd.underlying22 hi hz0 hz1 hz2 rfl (by decide) _ _ _ rfl (World.ownsRow_nil _ _ _ _) ⟨bl, ol, none⟩ l.length cap (l.map (Value.int .i64)) rfl (by simp) HNw.out (by intro u hu; obtain ⟨x, _, rfl⟩ := List.mem_map.1 hu; rfl) (by unfold maxLen; omega) (by omega) (Nat.le_refl _) ?_))
                    intro x1 w11 hown hgrow _
                    replace hown : w11.ownsRow w10.heap.size 3 1 x1 l.length (l.map (Value.int .i64)) := by simpa using hown
                    have B11 : Hid (Below w.heap.size w w11) := B10.out.trans (((Below.refl _ _).grown hgrow (Nat.le_refl _) (by intro k hk; cases hk)).mono B10.out.size)
                    obtain ⟨g, cx, rfl, hgz⟩ : ∃ g c, x1 = .slice (some ⟨g, 0, none⟩) l.length c ∧ w10.heap.size ≤ g := by
                      rcases hown.2 with ⟨_, h⟩ | ⟨g, c, cur, e, hb, _⟩
                      · omega
                      · exact ⟨g, c, e, hb⟩
                    have hcx : l.length ≤ cx := by
                      rcases hown.2 with ⟨e, _⟩ | ⟨g', c', cur, e, _, _, hc', _⟩
                      · cases e
                      · simp only [Value.slice.injEq] at e
                        obtain ⟨_, _, rfl⟩ := e
                        exact hc'
                    have hz10 : w.heap.size ≤ w10.heap.size := B10.out.size
                    have u0 : w11.cell? ⟨g, fn, none⟩ = some (.int .i64 (lf)) := by rw [hown.cellAt fn (by simpa using hfl)]; exact HFm.out
                    have u1 : w11.frozen? ⟨g, fn, none⟩ = false := hown.frozenAt _
                    have own12 := (hown.stored fn (.int .i64 (lf - m))).1
                    have u2 : (w11.setCell ⟨g, fn, none⟩ (.int .i64 (lf - m))).cell? ⟨g, tn, none⟩ = some (.int .i64 (gt)) := by rw [own12.cellAt tn (by simpa using htl)]; exact HSt.out
                    have u3 : (w11.setCell ⟨g, fn, none⟩ (.int .i64 (lf - m))).frozen? ⟨g, tn, none⟩ = false := own12.frozenAt _
                    have own13 := (own12.stored tn (.int .i64 (gt + m))).1
                    rw [← HGl.out] at own13
                    have HX : Hid (IntsAt (fun _ => True) ((w11.setCell ⟨g, fn, none⟩ (.int .i64 (lf - m))).setCell ⟨g, tn, none⟩ (.int .i64 (gt + m))) (.slice (some ⟨g, 0, none⟩) l.length cx) (giveL l fn tn m)) := ints_of_owns (base := w10.heap.size) (by rw [HLn.out]; omega) (by rw [HLn.out]; exact own13) (fun _ _ => trivial)
                    have u4 : ((w11.setCell ⟨g, fn, none⟩ (.int .i64 (lf - m))).setCell ⟨g, tn, none⟩ (.int .i64 (gt + m))).cell? ⟨g, tn, none⟩ = some (.int .i64 (gt + m)) := by
                      rw [own13.cellAt tn (by simpa using htl), List.getElem?_map, getD_some (show tn < (giveL l fn tn m).length by rw [HLn.out]; exact htl), HGv.out]
                      rfl
                    have B13 : Hid (Below w.heap.size w ((w11.setCell ⟨g, fn, none⟩ (.int .i64 (lf - m))).setCell ⟨g, tn, none⟩ (.int .i64 (gt + m)))) := (B11.out.setCell (by simp; omega) _).setCell (by simp; omega) _
                    obtain ⟨v1, v2⟩ := HGt.out
                    clear hown hgrow own12 own13 HNw HGl HSt HFm HGt cf
                    by_cases h2 : 1000 < (giveL l fn tn m).getD tn 0
                    · obtain rfl : F3 = 4 := by rw [← HF3.out]; exact HQ3.out (by omega) (by omega)
                      have HN : Hid (∀ u : World, IntsAt (fun _ => True) u (.slice none 0 0) (okL 4 (giveL l fn tn m))) := fun u => by rw [okL_ne (by decide)]; exact ⟨none, 0, rfl, ⟨Nat.le_refl _, by simp⟩, .inl rfl⟩
                      rw [HGv.out] at h2
                      clear HQ2 HQ3 HQ4 HF3 HO3
                      go_wp2
                      go_meet
                      case rel => exact ⟨rfl, ⟨_, _, _, rfl⟩, HN.out _, B13⟩
                    · obtain rfl : F3 = 0 := by rw [← HF3.out]; exact HQ4.out (by omega) (by omega)
                      rw [HGv.out] at h2
                      clear HQ2 HQ3 HQ4 HF3 HO3
                      go_wp2
                      go_meet
                      case rel => exact ⟨rfl, ⟨_, _, _, rfl⟩, HX, B13⟩
            case rest =>
              as_aux_lemma =>
                obtain ⟨w14, rfl⟩ : ∃ x : World, x = wc := ⟨_, rfl⟩
                obtain ⟨rfl, ⟨xa, xn, xk, rfl⟩, HX, B14⟩ := hcut
                have HE3 : Hid (∀ u : World, Below w.heap.size w u → Calls Tryd.prog 9 #[errV F3, .int .i64 F3] u fun e w' => e = .returned (.bool true) ∧ Below u.heap.size u w') := HEr.out F3
                rw [HF3.out] at HV
                generalize okL F3 (giveL l f.toNat t.toNat m) = GL at *
                clear HR1 HR2 HR3 HR4 HO3 HF3 HEr
                go_wp2_with fail
                refine (HV.out _ B14.out).mono ?_
                rintro e w15 ⟨y15, rfl, hy15, hw15⟩
                have B15 : Hid (Below w.heap.size w w15) := Bel.call B14.out (Nat.le_refl _) hw15
                have X15 : Hid (IntsAt (fun _ => True) w15 (.slice xa xn xk) GL) := HX.out.later hw15
                have Y15 : Hid (IntsAt (fun _ => True) w15 y15 GL) := hy15.keep (fun _ _ _ => rfl) (fun _ _ _ => trivial)
                obtain ⟨ya, yn, yk, rfl⟩ : ∃ a n c, y15 = .slice a n c := by obtain ⟨a, c, e, _⟩ := hy15; exact ⟨_, _, _, e⟩
                clear hw15 hy15 HX
                go_wp2_with fail
                refine (HE3.out _ B15.out).mono ?_
                rintro e w16 ⟨rfl, hw16⟩
                have B16 : Hid (Below w.heap.size w w16) := Bel.call B15.out (Nat.le_refl _) hw16
                have HS16 : Hid (Calls Tryd.prog 28 #[.slice ya yn yk, .slice xa xn xk] w16 fun e w' => e = .returned (.bool true) ∧ ∃ n, w' = w16.drewN n) := by
                  have := SInts_any GL GL _ _ w16 (Y15.out.later hw16) (X15.out.later hw16)
                  rw [show eqI GL GL = true by simp [eqI]] at this
                  exact this
                clear hw16
                go_wp2_with fail
                refine HS16.out.mono ?_
                rintro e w17 ⟨rfl, m17, hw17⟩
                have B17 : Hid (Below w.heap.size w w17) := by rw [hw17]; exact below_drewN B16.out _
                clear hw17
                go_wp2
                go_ret
                exact ⟨Ns.ret_bool rfl, B17.out⟩
  · have HE : Hid (errV (few l 1000) = .iface 66 (.int .i64 (few l 1000))) := errV_ne he
    have HX1 : Hid (idxE l = few l 1000) := by show _ = _; rw [idxE, if_neg he]
    have HX2 : Hid (giveE l f t m = few l 1000) := by show _ = _; rw [giveE, if_neg he]
    have HEk := (show Hid (∀ u : World, Below w.heap.size w u → _) from HEr.out (few l 1000))
    rw [HE.out] at HEk
    rw [HX1.out, HE.out, okF_ne he] at HI
    rw [HE.out, okI_ne he] at HG
    rw [HX2.out, HE.out, okL_ne he] at HV
    have qe : (few l 1000 == 0) = false := beq_eq_false_iff_ne.2 he
    generalize few l 1000 = ek at *
    clear he HEr HE HX1 HX2
    go_enter Tryd.func5, Tryd.ntmps5
    go_wp2_with fail
    refine HFw.out.mono ?_
    rintro e w ⟨rfl, rfl⟩
    go_wp2_with fail
    refine (HI.out _ BA.out).mono ?_
    rintro e w7 ⟨rfl, hw7⟩
    have B7 : Hid (Below w.heap.size w w7) := Bel.call BA.out (Nat.le_refl _) hw7
    have z7 : w.heap.size ≤ w7.heap.size := B7.out.size
    have B7' : Hid (Below w.heap.size w (w7.alloc (.cells #[.int .i64 0, .int .i64 0] 39))) := B7.out.alloc z7 _
    have R7 : Hid (RowAt (w7.alloc (.cells #[.int .i64 0, .int .i64 0] 39)) w.heap.size 39 [.int .i64 0, .int .i64 0]) := (RA.out.later hw7 RA.out.lt).alloc _
    clear hw7
    go_wp2_with fail
    refine (HEk.out _ B7'.out).mono ?_
    rintro e w8 ⟨rfl, hw8⟩
    have B8 : Hid (Below w.heap.size w w8) := Bel.call B7'.out (Nat.le_refl _) hw8
    have R8 := R7.out.later hw8 R7.out.lt
    have k0 := R8.cell (i := 0) rfl
    have k1 := R8.cell (i := 1) rfl
    have k2 : w8.cell? ⟨w7.heap.size, 0, none⟩ = some (.int .i64 0) := cell_later hw8 (by simp)
    have k3 : w8.cell? ⟨w7.heap.size, 1, none⟩ = some (.int .i64 0) := cell_later hw8 (by simp)
    clear hw8 R8
    go_wp2_with fail
    refine (HG.out _ B8.out).mono ?_
    rintro e w9 ⟨rfl, hw9⟩
    have B9 : Hid (Below w.heap.size w w9) := Bel.call B8.out (Nat.le_refl _) hw9
    clear hw9 k0 k1 k2 k3
    go_wp2_with fail
    refine (HEk.out _ B9.out).mono ?_
    rintro e w10 ⟨rfl, hw10⟩
    have B10 : Hid (Below w.heap.size w w10) := Bel.call B9.out (Nat.le_refl _) hw10
    clear hw10
    go_wp2_with fail
    refine (HV.out _ B10.out).mono ?_
    rintro e w15 ⟨y15, rfl, hy15, hw15⟩
    have B15 : Hid (Below w.heap.size w w15) := Bel.call B10.out (Nat.le_refl _) hw15
    have Y15 : Hid (IntsAt (fun _ => True) w15 y15 []) := hy15.keep (fun _ _ _ => rfl) (fun _ _ _ => trivial)
    obtain ⟨ya, yn, yk, rfl⟩ : ∃ a n c, y15 = .slice a n c := by obtain ⟨a, c, e, _⟩ := hy15; exact ⟨_, _, _, e⟩
    clear hw15 hy15
    go_wp2_with fail
    refine (HEk.out _ B15.out).mono ?_
    rintro e w16 ⟨rfl, hw16⟩
    have B16 : Hid (Below w.heap.size w w16) := Bel.call B15.out (Nat.le_refl _) hw16
    have HS16 : Hid (Calls Tryd.prog 28 #[.slice ya yn yk, .slice none 0 0] w16 fun e w' => e = .returned (.bool true) ∧ ∃ n, w' = w16.drewN n) := by
      have hn : IntsAt (fun _ => True) w16 (.slice none 0 0) [] := ⟨none, 0, rfl, ⟨Nat.le_refl _, by simp⟩, .inl rfl⟩
      have := SInts_any [] [] _ _ w16 (Y15.out.later hw16) hn
      rw [show eqI [] [] = true by simp [eqI]] at this
      exact this
    clear hw16
    go_wp2_with fail
    refine HS16.out.mono ?_
    rintro e w17 ⟨rfl, m17, hw17⟩
    have B17 : Hid (Below w.heap.size w w17) := by rw [hw17]; exact below_drewN B16.out _
    clear hw17
    go_wp2
    go_ret
    exact ⟨Ns.ret_bool rfl, B17.out⟩
end Ev
end Go.Proofs.YtbbljjhddikfpadDoor
