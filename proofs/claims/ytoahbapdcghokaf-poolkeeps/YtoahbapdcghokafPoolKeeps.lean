/- The law PoolKeeps returns true for every input, from what is asked of package pool's calls. -/
import Derived.Test.YtoahbapdcghokafPlains
import Derived.Test.YtoahbapdcghokafRTot
import Derived.Deep.DeepCutAuto
namespace Go.Proofs.Ytoahbapdcghokaf
namespace Ev
open Go.RowKit Fr Ns Ld Fl
set_option linter.unusedSimpArgs false
set_option linter.unusedVariables false

theorem pk_fact : prunE 3 2 0 [9] = 0 ∧ poSt 3 2 0 [9] = (2, 4, 3) := by decide +kernel
/-- what the law asks of a pool that ran -/
theorem pk_run {s r h : Int} {l : List Int} (he : prunE s r h l = 0) : l.length ≤ 60 ∧ (∀ x ∈ l, 0 ≤ x ∧ x ≤ 10000) ∧ (0 ≤ s ∧ s ≤ 10000 ∧ 1 ≤ r ∧ r ≤ 1000 ∧ 0 ≤ h ∧ h ≤ s) ∧ 0 ≤ (poSt s r h l).1 ∧ 0 ≤ (poSt s r h l).2.1 ∧ 0 ≤ (poSt s r h l).2.2 ∧ (poSt s r h l).2.2 ≤ s ∧ (poSt s r h l).1 ≤ l.length * r ∧ (poSt s r h l).1 + (poSt s r h l).2.1 + (poSt s r h l).2.2 = h + tot l ∧ 0 ≤ tot l ∧ tot l ≤ 600000 := by
  obtain ⟨h1, h2⟩ := prunE_0 he
  obtain ⟨h60, hl⟩ := ticksE_0.1 h2
  obtain ⟨i1, i2, i3, i4, i5, i6⟩ := po_keeps h1 (fun x hx => (hl x hx).1) l.length (Nat.le_refl _)
  rw [take_all (Nat.le_refl _)] at i1 i2 i3 i4 i5 i6
  have ht : 0 ≤ tot l ∧ tot l ≤ 10000 * l.length := by
    clear h60 h2 he i1 i2 i3 i4 i5 i6
    induction l with
    | nil => simp [tot]
    | cons x q ih =>
      have a1 := hl x (by simp)
      have a2 := ih (fun y hy => hl y (by simp [hy]))
      simp only [tot, List.length_cons]; omega
  exact ⟨h60, hl, poolE_0.1 h1, i1, i2, i3, i4, i5, i6, ht.1, by omega⟩

set_option maxRecDepth 100000 in
set_option maxHeartbeats 8000000 in
theorem poolKeeps_walk (hR : PRunSaid) (s r h m : Int) (l : List Int) (v : Value) (w : World) (hv : IntsAt (fun b => b < w.heap.size) w v l) :
    Calls Try.prog 4 #[.agg #[.int .i64 s, .int .i64 r, .int .i64 h], v, .int .i64 m] w fun e w' => e = .returned (.bool true) ∧ Below w.heap.size w w' := by
  have HKp : Hid (∀ u : World, Below (w.heap.size + 1) (w.alloc (.cells #[.int .i64 s, .int .i64 r, .int .i64 h] 31)) u → Below w.heap.size w u ∧ RowAt u w.heap.size 31 [.int .i64 s, .int .i64 r, .int .i64 h] ∧ w.heap.size + 1 ≤ u.heap.size) := fun u hu => by
    have hs := hu.size
    simp at hs
    exact ⟨((Below.refl _ _).alloc (Nat.le_refl _) _).trans (hu.mono (by omega)), (row_made w _ _ _ _ rfl rfl).later hu (by omega), hs⟩
  have HF : Hid (∀ (x : Value) (u : World), IntsAt (fun _ => True) u x [9] → Calls Try.prog 8 #[.agg #[.int .i64 3, .int .i64 2, .int .i64 0], x] u fun e w' => e = .returned (.tuple #[.agg #[.int .i64 2, .int .i64 4, .int .i64 3], .nilIface]) ∧ Below u.heap.size u w') := fun x u hx => by
    have := hR _ 3 2 0 [9] x u hx
    rw [pk_fact.1, pk_fact.2, errV_0] at this
    exact this
  have HRu : Hid (∀ (a b : Int) (u : World), Below w.heap.size w u → Calls Try.prog 8 #[.agg #[.int .i64 a, .int .i64 b, .int .i64 h], v] u fun e w' => e = .returned (.tuple #[.agg #[.int .i64 (okN (prunE a b h l) (poSt a b h l).1), .int .i64 (okN (prunE a b h l) (poSt a b h l).2.1), .int .i64 (okN (prunE a b h l) (poSt a b h l).2.2)], errV (prunE a b h l)]) ∧ Below u.heap.size u w') := fun a b u hu => hR _ a b h l v u (hv.later hu)
  have HTo : Hid ((∀ x ∈ l, 0 ≤ x ∧ x ≤ 10000) → l.length ≤ 60 → ∀ u : World, Below w.heap.size w u → Calls Try.prog 9 #[v] u fun e w' => e = .returned (.int .i64 (tot l)) ∧ w' = u) := fun h1 h2 u hu => RTot_any l v u (hv.later hu) (by omega) (fun x hx => by have := h1 x hx; omega)
  have HRm : Hid (0 ≤ m → (poSt s r h l).2.2 ≤ (poSt (s + m) r h l).2.2 ∧ (poSt (s + m) r h l).2.2 - (poSt s r h l).2.2 ≤ (poSt s r h l).2.1 - (poSt (s + m) r h l).2.1 ∧ (poSt s r h l).1 ≤ (poSt (s + m) r h l).1) := fun hm => by
    have := po_room (room := s) (cap := r) (wait := h) (l := l) hm l.length (Nat.le_refl _)
    rwa [take_all (Nat.le_refl _)] at this
  have HLk : Hid (0 ≤ m → (poSt s (r + m) h l).2.2 ≤ (poSt s r h l).2.2 ∧ (poSt s (r + m) h l).2.1 ≤ (poSt s r h l).2.1) := fun hm => by
    have := po_link (room := s) (cap := r) (wait := h) (l := l) hm l.length (Nat.le_refl _)
    rwa [take_all (Nat.le_refl _)] at this
  have HRn := (show Hid (prunE s r h l = 0 → _) from fun he => pk_run he)
  have HR1 : Hid (∀ u : World, Below w.heap.size w u → Calls Try.prog 8 #[.agg #[.int .i64 s, .int .i64 r, .int .i64 h], v] u fun e w' => e = .returned (.tuple #[.agg #[.int .i64 (okN (prunE s r h l) (poSt s r h l).1), .int .i64 (okN (prunE s r h l) (poSt s r h l).2.1), .int .i64 (okN (prunE s r h l) (poSt s r h l).2.2)], errV (prunE s r h l)]) ∧ Below u.heap.size u w') := HRu.out s r
  have HR2 : Hid (∀ u : World, Below w.heap.size w u → Calls Try.prog 8 #[.agg #[.int .i64 (s + m), .int .i64 r, .int .i64 h], v] u fun e w' => e = .returned (.tuple #[.agg #[.int .i64 (okN (prunE (s + m) r h l) (poSt (s + m) r h l).1), .int .i64 (okN (prunE (s + m) r h l) (poSt (s + m) r h l).2.1), .int .i64 (okN (prunE (s + m) r h l) (poSt (s + m) r h l).2.2)], errV (prunE (s + m) r h l)]) ∧ Below u.heap.size u w') := HRu.out (s + m) r
  have HR3 : Hid (∀ u : World, Below w.heap.size w u → Calls Try.prog 8 #[.agg #[.int .i64 s, .int .i64 (r + m), .int .i64 h], v] u fun e w' => e = .returned (.tuple #[.agg #[.int .i64 (okN (prunE s (r + m) h l) (poSt s (r + m) h l).1), .int .i64 (okN (prunE s (r + m) h l) (poSt s (r + m) h l).2.1), .int .i64 (okN (prunE s (r + m) h l) (poSt s (r + m) h l).2.2)], errV (prunE s (r + m) h l)]) ∧ Below u.heap.size u w') := HRu.out s (r + m)
  clear HRu
  obtain ⟨a, cap, rfl, ⟨hm1, hm2⟩, _⟩ := hv
  generalize prunE s r h l = se at *
  generalize prunE (s + m) r h l = s2 at *
  generalize prunE s (r + m) h l = s3 at *
  generalize poSt s r h l = Z at *
  generalize poSt (s + m) r h l = Y at *
  generalize poSt s (r + m) h l = V at *
  obtain ⟨Z1, Z2, Z3⟩ := Z
  obtain ⟨Y1, Y2, Y3⟩ := Y
  obtain ⟨V1, V2, V3⟩ := V
  simp only at HRm HLk HRn HR1 HR2 HR3
  have HL9 : Hid (∀ u : World, u.cell? ⟨w.heap.size + 1, 0, none⟩ = some (.int .i64 9) → IntsAt (fun _ => True) u (.slice (some ⟨w.heap.size + 1, 0, none⟩) 1 1) [9]) := fun u hu => ⟨_, 1, rfl, ⟨Nat.le_refl _, by simp⟩, .inr ⟨_, 0, rfl, fun i hi => by
    match i, hi with
    | 0, _ => simpa using hu, trivial⟩⟩
  obtain ⟨W0, HW0⟩ : ∃ W0, Hid (w.alloc (.cells #[.int .i64 s, .int .i64 r, .int .i64 h] 31) = W0) := ⟨_, rfl⟩
  rw [HW0.out] at HKp
  have K0 : Hid (Below (w.heap.size + 1) W0 W0) := Below.refl _ _
  obtain ⟨B0, R0, S0⟩ := HKp.out _ K0.out
  have hz0 : W0.heap.size = w.heap.size + 1 := by rw [← HW0.out]; simp
  clear hR
  go_enter Try.func4, Try.ntmps4
  go_upto_region 1 with fail
  rw [HW0.out]
  go_wp2_with fail
  refine (HF.out _ _ ?fact).mono ?_
  case fact => exact HL9.out _ (by rw [← hz0]; simp)
  rintro e w1 ⟨rfl, hw1⟩
  have K1 : Hid (Below (w.heap.size + 1) W0 w1) := Bel.call (K0.out.alloc S0 _) S0 hw1
  have S1 : w.heap.size + 1 ≤ w1.heap.size := by have := hw1.size; simp at this; omega
  have K1' : Hid (Below (w.heap.size + 1) W0 (w1.alloc (.cells #[.int .i64 2, .int .i64 4, .int .i64 3] 33))) := K1.out.alloc S1 _
  clear hw1
  obtain ⟨B1, R1, S1'⟩ := HKp.out _ K1'.out
  obtain ⟨d0, d1, d2, z0, z1, z2, hgz⟩ := R1.three
  go_wp2_with fail
  refine (HR1.out _ B1).mono ?_
  rintro e w2 ⟨rfl, hw2⟩
  have K2 : Hid (Below (w.heap.size + 1) W0 w2) := Bel.call K1'.out S0 hw2
  have S2 : w.heap.size + 1 ≤ w2.heap.size := by have := K2.out.size; omega
  clear hw2 d0 d1 d2 z0 z1 z2 hgz R1 B1 K1 K1' S1 S1'
  have K2' : ∀ o, Hid (Below (w.heap.size + 1) W0 (w2.alloc o)) := fun o => K2.out.alloc S2 o
  by_cases hse : se = 0
  · obtain ⟨f1, f2, ⟨f3, f4, f5, f6, f7, f8⟩, f9, f10, f11, f12, f13, f14, f15, f16⟩ := HRn.out hse
    have HTo' : Hid (∀ u : World, Below w.heap.size w u → Calls Try.prog 9 #[.slice a l.length cap] u fun e w' => e = .returned (.int .i64 (tot l)) ∧ w' = u) := HTo.out f2 f1
    subst hse
    rw [show okN 0 Z1 = Z1 from if_pos rfl, show okN 0 Z2 = Z2 from if_pos rfl, show okN 0 Z3 = Z3 from if_pos rfl, errV_0]
    have HM : Hid (0 ≤ (l.length : Int) * r ∧ (l.length : Int) * r ≤ 60 * 1000) := ⟨Int.mul_nonneg (by omega) (by omega), Int.mul_le_mul (by omega) (by omega) (by omega) (by decide)⟩
    obtain ⟨lr, hlr⟩ : ∃ x, Hid ((l.length : Int) * r = x) := ⟨_, rfl⟩
    rw [hlr.out] at HM f13
    obtain ⟨hM1, hM2⟩ := HM.out
    have g1 : ¬ (60 : Int) < (l.length : Int) := by omega
    have g2 : ¬ Z1 < 0 := by omega
    have g3 : ¬ Z2 < 0 := by omega
    have g4 : ¬ Z3 < 0 := by omega
    have g5 : ¬ s < Z3 := by omega
    have g6 : ¬ lr < Z1 := by omega
    have g7 : IntKind.i64.wrap ((l.length : Int) * r) = lr := by rw [IntKind.wrap_i64, hlr.out]; omega
    have g8 : IntKind.i64.wrap (Z1 + Z2) = Z1 + Z2 := by rw [IntKind.wrap_i64]; omega
    have g9 : IntKind.i64.wrap (Z1 + Z2 + Z3) = Z1 + Z2 + Z3 := by rw [IntKind.wrap_i64]; omega
    have g10 : IntKind.i64.wrap (h + tot l) = h + tot l := by rw [IntKind.wrap_i64]; omega
    have g11 : (Z1 + Z2 + Z3 != h + tot l) = false := by simp [f14]
    have HB : Hid ((0 ≤ s ∧ s ≤ 10000 ∧ 1 ≤ r ∧ r ≤ 1000 ∧ 0 ≤ h ∧ h ≤ s)) := ⟨f3, f4, f5, f6, f7, f8⟩
    clear f1 f2 f3 f4 f5 f6 f7 f8 f9 f10 f11 f12 f13 f14 f15 f16 HM hM1 hM2 HTo HRn
    generalize tot l = tl at *
    have R9 : Hid (RowAt (w2.alloc (.cells #[.int .i64 Z1, .int .i64 Z2, .int .i64 Z3] 33)) w2.heap.size 33 [.int .i64 Z1, .int .i64 Z2, .int .i64 Z3]) := row_made w2 _ _ _ _ rfl rfl
    have K2'' : Hid (Below (w.heap.size + 1) W0 (w2.alloc (.cells #[.int .i64 Z1, .int .i64 Z2, .int .i64 Z3] 33))) := K2' _
    obtain ⟨B2, R2, S2'⟩ := HKp.out _ (K2' (.cells #[.int .i64 Z1, .int .i64 Z2, .int .i64 Z3] 33)).out
    obtain ⟨d0, d1, d2, z0, z1, z2, hgz⟩ := R2.three
    obtain ⟨e0, e1, e2, y0, y1, y2, hgy⟩ := R9.out.three
    go_upto_region 7 with fail
    generalize (w2.alloc (.cells #[.int .i64 Z1, .int .i64 Z2, .int .i64 Z3] 33)) = w3 at *
    obtain ⟨g, hg⟩ : ∃ g, Hid (w2.heap.size = g) := ⟨_, rfl⟩
    rw [hg.out] at e0 e1 e2 y0 y1 y2 hgy R9
    rw [hg.out]
    have Sg : w.heap.size + 1 ≤ g := by have := hg.out; omega
    have Ng : ¬ w.heap.size = g := by omega
    go_quiet ((go_at_call 9; exact Calls.quiet_of_same (HTo'.out _ (below_drewN B2 _))))
    have R9a : Hid (RowAt (w3.drewN nq) g 33 [.int .i64 Z1, .int .i64 Z2, .int .i64 Z3]) := R9.out
    have K3 : Hid (Below (w.heap.size + 1) W0 (w3.drewN nq)) := by
      exact below_drewN K2''.out _
    clear d0 d1 d2 z0 z1 z2 hgz e0 e1 e2 y0 y1 y2 hgy R9 B2 R2 S2'
    generalize (w3.drewN nq) = w4 at *
    by_cases hmm : m < 0 ∨ 1000 < m
    · have hor : m < 0 ∨ (¬ m < 0 ∧ 1000 < m) := by omega
      clear hmm
      have BB : Hid (Below w.heap.size w w4) := (HKp.out _ K3.out).1
      rcases hor with c1 | ⟨c1, c2⟩
      all_goals
        go_wp2
        go_ret
        exact ⟨Ns.ret_bool rfl, BB.out⟩
    · have c1 : ¬ m < 0 := by omega
      have c2 : ¬ 1000 < m := by omega
      obtain ⟨b1, b2, b3, b4, b5, b6⟩ := HB.out
      have w1' : IntKind.i64.wrap (s + m) = s + m := by rw [IntKind.wrap_i64]; omega
      have w2' : IntKind.i64.wrap (r + m) = r + m := by rw [IntKind.wrap_i64]; omega
      obtain ⟨x1, x2, x3⟩ := HRm.out (by omega)
      obtain ⟨x4, x5⟩ := HLk.out (by omega)
      have g20 : ¬ Z2 < Y2 := by omega
      have g21 : ¬ Y1 < Z1 := by omega
      have g22 : V3 ≤ Z3 := x4
      have g23 : V2 ≤ Z2 := x5
      clear hmm b1 b2 b3 b4 b5 b6 x1 x2 x3 x4 x5 HRm HLk HB
      obtain ⟨B4, R4, S4⟩ := HKp.out _ K3.out
      obtain ⟨d0, d1, d2, z0, z1, z2, hgz⟩ := R4.three
      have K4 : ∀ o, Hid (Below (w.heap.size + 1) W0 (w4.alloc o)) := fun o => K3.out.alloc S4 o
      go_wp2_with fail
      refine (HR2.out _ (HKp.out _ (K4 _).out).1).mono ?_
      rintro e w5 ⟨rfl, hw5⟩
      have R11 : Hid (RowAt w5 w4.heap.size 31 [.int .i64 (s + m), .int .i64 r, .int .i64 h]) := (row_made w4 _ _ _ _ rfl rfl).later hw5 (by simp)
      have R9b : Hid (RowAt w5 g 33 [.int .i64 Z1, .int .i64 Z2, .int .i64 Z3]) := (R9a.out.alloc _).later hw5 (by have := R9a.out.lt; simp; omega)
      have K5 : Hid (Below (w.heap.size + 1) W0 w5) := Bel.call (K4 _).out S0 hw5
      have Lg : g < w4.heap.size := R9a.out.lt
      clear hw5 d0 d1 d2 z0 z1 z2 hgz B4 R4 R9a
      have S5 : w.heap.size + 1 ≤ w5.heap.size := (HKp.out _ K5.out).2.2
      obtain ⟨y1, hy1⟩ : ∃ y, Hid (okN s2 Y1 = y) := ⟨_, rfl⟩
      obtain ⟨y2, hy2⟩ : ∃ y, Hid (okN s2 Y2 = y) := ⟨_, rfl⟩
      obtain ⟨y3, hy3⟩ : ∃ y, Hid (okN s2 Y3 = y) := ⟨_, rfl⟩
      rw [hy1.out, hy2.out, hy3.out]
      have R12 : Hid (RowAt (w5.alloc (.cells #[.int .i64 y1, .int .i64 y2, .int .i64 y3] 33)) w5.heap.size 33 [.int .i64 y1, .int .i64 y2, .int .i64 y3]) := row_made w5 _ _ _ _ rfl rfl
      have R9c : Hid (RowAt (w5.alloc (.cells #[.int .i64 y1, .int .i64 y2, .int .i64 y3] 33)) g 33 [.int .i64 Z1, .int .i64 Z2, .int .i64 Z3]) := R9b.out.alloc _
      have R11c : Hid (RowAt (w5.alloc (.cells #[.int .i64 y1, .int .i64 y2, .int .i64 y3] 33)) w4.heap.size 31 [.int .i64 (s + m), .int .i64 r, .int .i64 h]) := R11.out.alloc _
      have K5' : Hid (Below (w.heap.size + 1) W0 (w5.alloc (.cells #[.int .i64 y1, .int .i64 y2, .int .i64 y3] 33))) := K5.out.alloc S5 _
      have L5 : w4.heap.size < w5.heap.size := R11.out.lt
      go_upto_region 14 with fail
      generalize (w5.alloc (.cells #[.int .i64 y1, .int .i64 y2, .int .i64 y3] 33)) = w6 at *
      obtain ⟨q11, hq11⟩ : ∃ q, Hid (w4.heap.size = q) := ⟨_, rfl⟩
      obtain ⟨q12, hq12⟩ : ∃ q, Hid (w5.heap.size = q) := ⟨_, rfl⟩
      rw [hq11.out] at R11c L5 Lg
      rw [hq12.out] at R12 L5
      rw [hq11.out, hq12.out]
      have S11 : w.heap.size + 1 ≤ q11 := by have := hq11.out; omega
      have S12 : w.heap.size + 1 ≤ q12 := by have := hq12.out; omega
      have M1 : ¬ q11 = g := by omega
      have M2 : ¬ q12 = g := by omega
      have M3 : ¬ q11 = q12 := by omega
      have M4 : ¬ q12 = q11 := by omega
      have M5 : ¬ g = q11 := by omega
      have M6 : ¬ g = q12 := by omega
      have M7 : ¬ q11 = w.heap.size := by omega
      clear hq11 hq12 R11 R9b K4 K5 S4 S5 K3
      obtain ⟨i0, i1, i2, _, _, _, il⟩ := R9c.out.three
      obtain ⟨j0, j1, j2, _, _, _, jl⟩ := R12.out.three
      go_cut [10, 128] (fun _ s128 wc => s128 = .bool false ∧ Hid (wc = w6))
      case first =>
        as_aux_lemma =>
          by_cases hs2 : s2 = 0
          · subst hs2
            obtain rfl : Y1 = y1 := by rw [← hy1.out]; exact (if_pos rfl).symm
            obtain rfl : Y2 = y2 := by rw [← hy2.out]; exact (if_pos rfl).symm
            rw [errV_0]
            clear hy1 hy2 hy3
            go_wp2
            go_meet
            case rel => exact ⟨by rw [decide_eq_false (show ¬ Z2 < Y2 by omega), decide_eq_false (show ¬ Y1 < Z1 by omega)]; rfl, rfl⟩
          · rw [errV_ne hs2]
            clear hy1 hy2 hy3
            go_wp2
            go_meet
            case rel => exact ⟨rfl, rfl⟩
      case rest =>
        as_aux_lemma =>
          obtain ⟨rfl, hw6⟩ := hcut
          obtain rfl := hw6.out
          obtain ⟨w6, rfl⟩ : ∃ x : World, x = wc := ⟨_, rfl⟩
          clear i0 i1 i2 il j0 j1 j2 jl hy1 hy2 hy3
          obtain ⟨B6, R6, S6⟩ := HKp.out _ K5'.out
          obtain ⟨d0, d1, d2, z0, z1, z2, hgz⟩ := R6.three
          obtain ⟨i0, i1, i2, k0, k1, k2, il⟩ := R11c.out.three
          have RA : Hid (RowAt ((((w6.setCell ⟨q11, 0, none⟩ (.int .i64 s)).setCell ⟨q11, 1, none⟩ (.int .i64 r)).setCell ⟨q11, 2, none⟩ (.int .i64 h)).setCell ⟨q11, 1, none⟩ (.int .i64 (r + m))) q11 31 [.int .i64 s, .int .i64 (r + m), .int .i64 h]) := (R11c.out.set3 _ _ _).set 1 _
          have RB : Hid (RowAt ((((w6.setCell ⟨q11, 0, none⟩ (.int .i64 s)).setCell ⟨q11, 1, none⟩ (.int .i64 r)).setCell ⟨q11, 2, none⟩ (.int .i64 h)).setCell ⟨q11, 1, none⟩ (.int .i64 (r + m))) q12 33 [.int .i64 y1, .int .i64 y2, .int .i64 y3]) := (((R12.out.other (a := ⟨q11, 0, none⟩) M3 _).other (a := ⟨q11, 1, none⟩) M3 _).other (a := ⟨q11, 2, none⟩) M3 _).other (a := ⟨q11, 1, none⟩) M3 _
          have RC : Hid (RowAt ((((w6.setCell ⟨q11, 0, none⟩ (.int .i64 s)).setCell ⟨q11, 1, none⟩ (.int .i64 r)).setCell ⟨q11, 2, none⟩ (.int .i64 h)).setCell ⟨q11, 1, none⟩ (.int .i64 (r + m))) g 33 [.int .i64 Z1, .int .i64 Z2, .int .i64 Z3]) := (((R9c.out.other (a := ⟨q11, 0, none⟩) M1 _).other (a := ⟨q11, 1, none⟩) M1 _).other (a := ⟨q11, 2, none⟩) M1 _).other (a := ⟨q11, 1, none⟩) M1 _
          have K7 : Hid (Below (w.heap.size + 1) W0 ((((w6.setCell ⟨q11, 0, none⟩ (.int .i64 s)).setCell ⟨q11, 1, none⟩ (.int .i64 r)).setCell ⟨q11, 2, none⟩ (.int .i64 h)).setCell ⟨q11, 1, none⟩ (.int .i64 (r + m)))) := (((K5'.out.setCell S11 _).setCell S11 _).setCell S11 _).setCell S11 _
          go_upto_region 18 with fail
          clear d0 d1 d2 z0 z1 z2 hgz i0 i1 i2 k0 k1 k2 il R9c R11c R12 K5' B6 R6 S6
          generalize ((((w6.setCell ⟨q11, 0, none⟩ (.int .i64 s)).setCell ⟨q11, 1, none⟩ (.int .i64 r)).setCell ⟨q11, 2, none⟩ (.int .i64 h)).setCell ⟨q11, 1, none⟩ (.int .i64 (r + m))) = w7 at *
          obtain ⟨i0, i1, i2, k0, k1, k2, il⟩ := RA.out.three
          obtain ⟨B7, R7, S7⟩ := HKp.out _ K7.out
          go_wp2_with fail
          refine (HR3.out _ B7).mono ?_
          rintro e w8 ⟨rfl, hw8⟩
          have K8 : Hid (Below (w.heap.size + 1) W0 w8) := Bel.call K7.out S0 hw8
          have RD : Hid (RowAt w8 q12 33 [.int .i64 y1, .int .i64 y2, .int .i64 y3]) := RB.out.later hw8 RB.out.lt
          have RE : Hid (RowAt w8 g 33 [.int .i64 Z1, .int .i64 Z2, .int .i64 Z3]) := RC.out.later hw8 RC.out.lt
          clear hw8 i0 i1 i2 k0 k1 k2 il RA RB RC K7 B7 R7 S7
          obtain ⟨i0, i1, i2, k0, k1, k2, il⟩ := RD.out.three
          by_cases hs3 : s3 = 0
          · subst hs3
            rw [show okN 0 V1 = V1 from if_pos rfl, show okN 0 V2 = V2 from if_pos rfl, show okN 0 V3 = V3 from if_pos rfl, errV_0]
            have RF : Hid (RowAt (((w8.setCell ⟨q12, 0, none⟩ (.int .i64 V1)).setCell ⟨q12, 1, none⟩ (.int .i64 V2)).setCell ⟨q12, 2, none⟩ (.int .i64 V3)) q12 33 [.int .i64 V1, .int .i64 V2, .int .i64 V3]) := RD.out.set3 _ _ _
            have RG : Hid (RowAt (((w8.setCell ⟨q12, 0, none⟩ (.int .i64 V1)).setCell ⟨q12, 1, none⟩ (.int .i64 V2)).setCell ⟨q12, 2, none⟩ (.int .i64 V3)) g 33 [.int .i64 Z1, .int .i64 Z2, .int .i64 Z3]) := ((RE.out.other (a := ⟨q12, 0, none⟩) M2 _).other (a := ⟨q12, 1, none⟩) M2 _).other (a := ⟨q12, 2, none⟩) M2 _
            have K9 : Hid (Below (w.heap.size + 1) W0 (((w8.setCell ⟨q12, 0, none⟩ (.int .i64 V1)).setCell ⟨q12, 1, none⟩ (.int .i64 V2)).setCell ⟨q12, 2, none⟩ (.int .i64 V3))) := ((K8.out.setCell S12 _).setCell S12 _).setCell S12 _
            have B9 : Hid (Below w.heap.size w (((w8.setCell ⟨q12, 0, none⟩ (.int .i64 V1)).setCell ⟨q12, 1, none⟩ (.int .i64 V2)).setCell ⟨q12, 2, none⟩ (.int .i64 V3))) := (HKp.out _ K9.out).1
            go_upto_region 19 with fail
            clear i0 i1 i2 k0 k1 k2 il RD RE K8 K9
            generalize (((w8.setCell ⟨q12, 0, none⟩ (.int .i64 V1)).setCell ⟨q12, 1, none⟩ (.int .i64 V2)).setCell ⟨q12, 2, none⟩ (.int .i64 V3)) = w9 at *
            obtain ⟨i0, i1, i2, _, _, _, il⟩ := RF.out.three
            obtain ⟨j0, j1, j2, _, _, _, jl⟩ := RG.out.three
            go_wp2
            go_ret
            exact ⟨Ns.ret_bool (by first | rfl | simp [g22, g23] | (rw [decide_eq_true g22, decide_eq_true g23]; rfl)), B9.out⟩
          · rw [errV_ne hs3]
            generalize okN s3 V1 = v1 at *
            generalize okN s3 V2 = v2 at *
            generalize okN s3 V3 = v3 at *
            have K9 : Hid (Below (w.heap.size + 1) W0 (((w8.setCell ⟨q12, 0, none⟩ (.int .i64 v1)).setCell ⟨q12, 1, none⟩ (.int .i64 v2)).setCell ⟨q12, 2, none⟩ (.int .i64 v3))) := ((K8.out.setCell S12 _).setCell S12 _).setCell S12 _
            have B9 : Hid (Below w.heap.size w (((w8.setCell ⟨q12, 0, none⟩ (.int .i64 v1)).setCell ⟨q12, 1, none⟩ (.int .i64 v2)).setCell ⟨q12, 2, none⟩ (.int .i64 v3))) := (HKp.out _ K9.out).1
            go_wp2
            go_ret
            exact ⟨Ns.ret_bool rfl, B9.out⟩
  · rw [errV_ne hse]
    go_wp2
    go_ret
    exact ⟨Ns.ret_bool rfl, (HKp.out _ (K2' _).out).1⟩
end Ev
end Go.Proofs.Ytoahbapdcghokaf
