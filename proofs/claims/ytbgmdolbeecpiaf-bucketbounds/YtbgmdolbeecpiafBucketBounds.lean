/- The law BucketBounds returns true for every input, from what is asked of package bucket's Send. -/
import Derived.Test.YtbgmdolbeecpiafPlains
import Derived.Deep.DeepCutAuto
namespace Go.Proofs.Ytbgmdolbeecpiaf
namespace Ev
open Go.RowKit Fr Ns Ld Fl
set_option linter.unusedSimpArgs false
set_option linter.unusedVariables false

theorem bb_fact : sendE 5 2 5 [9, 0, 0] = 0 ∧ sentL 5 2 5 [9, 0, 0] = [5, 2, 2] := by decide +kernel
theorem totT_bd {l : List Int} {M : Int} (h : ∀ x ∈ l, 0 ≤ x ∧ x ≤ M) (hM : 0 ≤ M) (k : Nat) (hk : l.length ≤ 60) : 0 ≤ tot (l.take k) ∧ tot (l.take k) ≤ 60 * M := by
  have : ∀ m : List Int, (∀ x ∈ m, 0 ≤ x ∧ x ≤ M) → 0 ≤ tot m ∧ tot m ≤ m.length * M := fun m hm => by
    induction m with
    | nil => simp [tot]
    | cons a q ih =>
      have h1 := hm a (by simp)
      have h2 := ih (fun x hx => hm x (by simp [hx]))
      simp only [tot, List.length_cons]
      have e : ((q.length + 1 : Nat) : Int) * M = q.length * M + M := by rw [Int.natCast_add, Int.add_mul]; simp
      omega
  have h1 := this (l.take k) (fun x hx => h x (List.mem_of_mem_take hx))
  have h2 : ((l.take k).length : Int) ≤ 60 := by rw [List.length_take]; omega
  have h3 : ((l.take k).length : Int) * M ≤ 60 * M := Int.mul_le_mul_of_nonneg_right h2 hM
  omega
theorem ints_three {w : World} {v : Value} {a b c : Int} {Q : Nat → Prop} (h : IntsAt Q w v [a, b, c]) : ∃ g off cap, v = .slice (some ⟨g, off, none⟩) 3 cap ∧ w.cell? ⟨g, off, none⟩ = some (.int .i64 a) ∧ w.cell? ⟨g, off + 1, none⟩ = some (.int .i64 b) ∧ w.cell? ⟨g, off + 2, none⟩ = some (.int .i64 c) := by
  obtain ⟨ad, cap, rfl, _, hc⟩ := h
  rcases hc with h | ⟨g, off, rfl, hc, _⟩
  · cases h
  · exact ⟨g, off, cap, rfl, hc 0 (by simp), hc 1 (by simp), hc 2 (by simp)⟩

set_option maxRecDepth 100000 in
set_option maxHeartbeats 8000000 in
theorem bucketBounds_walk (hS : BSendSaid) (s r h : Int) (l : List Int) (v : Value) (w : World) (hv : IntsAt (fun b => b < w.heap.size) w v l) :
    Calls Try.prog 3 #[.agg #[.int .i64 s, .int .i64 r, .int .i64 h], v] w fun e w' => e = .returned (.bool true) ∧ Below w.heap.size w w' := by
  have HKp : Hid (∀ u : World, Below (w.heap.size + 1) (w.alloc (.cells #[.int .i64 s, .int .i64 r, .int .i64 h] 23)) u → Below w.heap.size w u ∧ RowAt u w.heap.size 23 [.int .i64 s, .int .i64 r, .int .i64 h] ∧ w.heap.size + 1 ≤ u.heap.size) := fun u hu => by
    have hs := hu.size
    simp at hs
    exact ⟨((Below.refl _ _).alloc (Nat.le_refl _) _).trans (hu.mono (by omega)), (row_made w _ _ _ _ rfl rfl).later hu (by omega), hs⟩
  have HF : Hid (∀ (x : Value) (u : World), IntsAt (fun _ => True) u x [9, 0, 0] → Calls Try.prog 4 #[.agg #[.int .i64 5, .int .i64 2, .int .i64 5], x] u fun e w' => ∃ y, e = .returned (.tuple #[y, .nilIface]) ∧ IntsAt (fun b => u.heap.size ≤ b) w' y [5, 2, 2] ∧ Below u.heap.size u w') := fun x u hx => by
    have := hS _ 5 2 5 [9, 0, 0] x u hx
    rw [bb_fact.1, bb_fact.2, errV_0] at this
    exact this
  have HSn : Hid (∀ u : World, Below w.heap.size w u → Calls Try.prog 4 #[.agg #[.int .i64 s, .int .i64 r, .int .i64 h], v] u fun e w' => ∃ y, e = .returned (.tuple #[y, errV (sendE s r h l)]) ∧ IntsAt (fun b => u.heap.size ≤ b) w' y (okL (sendE s r h l) (sentL s r h l)) ∧ Below u.heap.size u w') := fun u hu => hS _ s r h l v u (hv.later hu)
  have HCl : Hid (∀ i, i < l.length → ∃ a c b off, v = .slice a l.length c ∧ a = some ⟨b, off, none⟩ ∧ ∀ u, Below w.heap.size w u → u.cell? ⟨b, off + i, none⟩ = some (.int .i64 (l.getD i 0))) := fun i hi => by
    obtain ⟨a, cap, rfl, h1, h2⟩ := id hv
    obtain ⟨b, off, e, hc⟩ := ints_cells hv i hi
    exact ⟨a, cap, b, off, rfl, e, hc⟩
  have HBd := (show Hid (sendE s r h l = 0 → (1 ≤ s ∧ s ≤ 10000 ∧ 0 ≤ r ∧ r ≤ s ∧ 0 ≤ h ∧ h ≤ s) ∧ l.length ≤ 60 ∧ (∀ x ∈ l, 0 ≤ x ∧ x ≤ 10000) ∧ (sentL s r h l).length = l.length ∧ _) from fun he => by
    obtain ⟨h1, h2⟩ := sendE_0 he
    obtain ⟨h60, hl⟩ := ticksE_0.1 h2
    exact ⟨bktE_0.1 h1, h60, hl, sentL_length h1 (fun x hx => (hl x hx).1), sentL_bounds h1 (fun x hx => (hl x hx).1)⟩)
  obtain ⟨a, cap, rfl, ⟨hm1, hm2⟩, _⟩ := hv
  generalize sendE s r h l = se at *
  generalize sentL s r h l = SL at *
  have HL9 : Hid (∀ u : World, u.cell? ⟨w.heap.size + 1, 0, none⟩ = some (.int .i64 9) → u.cell? ⟨w.heap.size + 1, 1, none⟩ = some (.int .i64 0) → u.cell? ⟨w.heap.size + 1, 2, none⟩ = some (.int .i64 0) → IntsAt (fun _ => True) u (.slice (some ⟨w.heap.size + 1, 0, none⟩) 3 3) [9, 0, 0]) := fun u h0 h1 h2 => ⟨_, 3, rfl, ⟨Nat.le_refl _, by simp⟩, .inr ⟨_, 0, rfl, fun i hi => by
    match i, hi with
    | 0, _ => simpa using h0
    | 1, _ => simpa using h1
    | 2, _ => simpa using h2, trivial⟩⟩
  obtain ⟨W0, HW0⟩ : ∃ W0, Hid (w.alloc (.cells #[.int .i64 s, .int .i64 r, .int .i64 h] 23) = W0) := ⟨_, rfl⟩
  rw [HW0.out] at HKp
  have K0 : Hid (Below (w.heap.size + 1) W0 W0) := Below.refl _ _
  obtain ⟨B0, R0, S0⟩ := HKp.out _ K0.out
  have hz0 : W0.heap.size = w.heap.size + 1 := by rw [← HW0.out]; simp
  clear hS
  go_enter Try.func3, Try.ntmps3
  go_upto_region 1 with fail
  rw [HW0.out]
  go_wp2_with fail
  refine (HF.out _ _ ?fact).mono ?_
  case fact => exact HL9.out _ (by rw [← hz0]; simp) (by rw [← hz0]; simp) (by rw [← hz0]; simp)
  rintro e w1 ⟨y, rfl, hy, hw1⟩
  have K1 : Hid (Below (w.heap.size + 1) W0 w1) := Bel.call (K0.out.alloc S0 _) S0 hw1
  obtain ⟨gy, oy, cy, rfl, e0, e1, e2⟩ := ints_three hy
  clear hw1 hy
  obtain ⟨B1, R1, S1⟩ := HKp.out _ K1.out
  obtain ⟨d0, d1, d2, z0, z1, z2, hgz⟩ := R1.three
  go_wp2_with fail
  refine (HSn.out _ B1).mono ?_
  rintro e w2 ⟨y, rfl, hy, hw2⟩
  have K2 : Hid (Below (w.heap.size + 1) W0 w2) := Bel.call K1.out S0 hw2
  clear hw2 d0 d1 d2 z0 z1 z2 hgz e0 e1 e2 B1 R1 S1
  obtain ⟨B2, R2, S2⟩ := HKp.out _ K2.out
  by_cases hse : se = 0
  · obtain ⟨⟨f1, f2, f3, f4, f5, f6⟩, h60, hl, hlen, b1, b2, b3, b4⟩ := HBd.out hse
    have hok : okL se SL = SL := by rw [hse]; exact if_pos rfl
    rw [hok] at hy
    subst hse
    rw [errV_0]
    obtain ⟨ay, cy2, rfl, ⟨hn1, hn2⟩, _⟩ := id hy
    have HX : Hid (∀ i, i < SL.length → ∃ b off, ay = some ⟨b, off, none⟩ ∧ ∀ u, Below w2.heap.size w2 u → u.cell? ⟨b, off + i, none⟩ = some (.int .i64 (SL.getD i 0))) := ints_cells hy
    rw [hlen] at HX hn1 hn2
    rw [hlen]
    have HTl : Hid (∀ k, 0 ≤ tot (l.take k) ∧ tot (l.take k) ≤ 60 * 10000) := fun k => totT_bd hl (by decide) k h60
    have HTs : Hid (∀ k, 0 ≤ tot (SL.take k) ∧ tot (SL.take k) ≤ 60 * 10000) := fun k => totT_bd (fun x hx => by
      obtain ⟨j, hj, rfl⟩ := List.mem_iff_getElem.1 hx
      have := b1 j (by omega)
      simp only [List.getD, List.getElem?_eq_getElem hj, Option.getD_some] at this
      omega) (by decide) k (by omega)
    have HSl : Hid (∀ k, k < l.length → tot (l.take (k + 1)) = tot (l.take k) + l.getD k 0) := fun k hk => tot_step l k hk
    have HSs : Hid (∀ k, k < l.length → tot (SL.take (k + 1)) = tot (SL.take k) + SL.getD k 0) := fun k hk => tot_step SL k (by omega)
    have HB1 : Hid (∀ k, k < l.length → 0 ≤ SL.getD k 0 ∧ SL.getD k 0 ≤ s) := b1
    have HB2 : Hid (∀ k, k ≤ l.length → tot (SL.take k) ≤ tot (l.take k)) := b2
    have HB3 : Hid (∀ i k, i ≤ k → k < l.length → tot (SL.take (k + 1)) - tot (SL.take i) ≤ s + ((k : Int) - i) * r) := b3
    have HB4 : Hid (0 < l.length → SL.getD 0 0 = goes (l.getD 0 0) h) := b4
    have HLb : Hid (∀ k, k < l.length → 0 ≤ l.getD k 0 ∧ l.getD k 0 ≤ 10000) := fun k hk => hl _ (getD_mem l k hk 0)
    have g60 : ¬ (60 : Int) < (l.length : Int) := by omega
    have g00 : ((l.length : Int) != (l.length : Int)) = false := by simp
    clear hy hl b1 b2 b3 b4 hok HBd hlen HF HSn HL9
    obtain ⟨d0, d1, d2, z0, z1, z2, hgz⟩ := R2.three
    go_wp2
    go_loopw [9, 10, 11, 12, 13] (fun s9 s10 s11 _ _ wr => ∃ i : Nat, i ≤ l.length ∧ s11 = .int .i64 i ∧ s9 = .int .i64 (tot (l.take i)) ∧ s10 = .int .i64 (tot (SL.take i)) ∧ Hid (wr = w2)) (fun _ _ s11 _ _ _ => l.length - (intOf s11).toNat)
    case atStart => exact ⟨0, by omega, rfl, rfl, rfl, rfl⟩
    case round =>
      obtain ⟨i, hi, rfl, rfl, rfl, hwr⟩ := hrel
      obtain rfl := hwr.out
      by_cases hlt : i < l.length
      · obtain ⟨_, _, b, off, e1, rfl, hc⟩ := HCl.out i hlt
        simp only [Value.slice.injEq] at e1
        obtain ⟨rfl, -, rfl⟩ := e1
        obtain ⟨bx, ox, rfl, hcx⟩ := HX.out i hlt
        have c0 := hc _ B2
        have c1 := hcx _ (Below.refl _ _)
        obtain ⟨t1, t2⟩ := HTl.out i
        obtain ⟨t3, t4⟩ := HTs.out i
        obtain ⟨t5, t6⟩ := HB1.out i hlt
        obtain ⟨t7, t8⟩ := HLb.out i hlt
        have t9 := HB2.out (i + 1) hlt
        rw [HSl.out i hlt, HSs.out i hlt] at t9
        have HX' : Hid (∀ k, k < l.length → wr.cell? ⟨bx, ox + k, none⟩ = some (.int .i64 (SL.getD k 0))) := fun k hk => by
          obtain ⟨b', o', e', hc'⟩ := HX.out k hk
          simp only [Option.some.injEq, Addr.mk.injEq, and_true] at e'
          obtain ⟨rfl, rfl⟩ := e'
          exact hc' _ (Below.refl _ _)
        have HB3' : Hid (∀ k, i ≤ k → k < l.length → tot (SL.take (k + 1)) - tot (SL.take i) ≤ s + ((k : Int) - i) * r) := HB3.out i
        have E1 : Hid (tot (l.take (i + 1)) = tot (l.take i) + l.getD i 0) := HSl.out i hlt
        have E2 : Hid (tot (SL.take (i + 1)) = tot (SL.take i) + SL.getD i 0) := HSs.out i hlt
        clear hc hcx
        generalize l.getD i 0 = y at *
        generalize SL.getD i 0 = x at *
        generalize tot (l.take i) = A at *
        obtain ⟨Bi, hBi⟩ : ∃ z, Hid (tot (SL.take i) = z) := ⟨_, rfl⟩
        rw [hBi.out] at t3 t4 t9 HB3' E2
        rw [hBi.out]
        have w1' : IntKind.i64.wrap (A + y) = A + y := by rw [IntKind.wrap_i64]; omega
        have w2' : IntKind.i64.wrap (Bi + x) = Bi + x := by rw [IntKind.wrap_i64]; omega
        have n1 : ¬ x < 0 := by omega
        have n2 : ¬ A + y < Bi + x := by omega
        clear t1 t2 t5 t6 t7 t8 t9
        go_wp2
        go_loopw [12, 13] (fun s12 s13 wq => ∃ k : Nat, i ≤ k ∧ k ≤ l.length ∧ s13 = .int .i64 k ∧ s12 = .int .i64 (tot (SL.take k) - Bi) ∧ Hid (wq = wr)) (fun _ s13 _ => l.length - (intOf s13).toNat)
        case atStart => exact ⟨i, Nat.le_refl _, hi, rfl, by rw [hBi.out, Int.sub_self], rfl⟩
        case round =>
          obtain ⟨k, hik, hk, rfl, rfl, hwq⟩ := hrel
          obtain rfl := hwq.out
          by_cases hlk : k < l.length
          · have c2 := HX'.out k hlk
            obtain ⟨u1, u2⟩ := HTs.out k
            obtain ⟨u3, u4⟩ := HTs.out (k + 1)
            have u5 := HSs.out k hlk
            have u6 := HB3'.out k hik hlk
            have u7 : 0 ≤ ((k : Int) - i) * r := Int.mul_nonneg (by omega) (by omega)
            have u8 : ((k : Int) - i) * r ≤ 60 * 10000 := Int.mul_le_mul (by omega) (by omega) (by omega) (by decide)
            rw [u5] at u3 u4 u6
            have E3 : Hid (tot (SL.take (k + 1)) = tot (SL.take k) + SL.getD k 0) := u5
            clear u5
            generalize SL.getD k 0 = xk at *
            generalize tot (SL.take k) = C at *
            obtain ⟨D, hD⟩ : ∃ d, Hid (((k : Int) - i) * r = d) := ⟨_, rfl⟩
            rw [hD.out] at u6 u7 u8
            have v1 : IntKind.i64.wrap (C - Bi + xk) = C - Bi + xk := by rw [IntKind.wrap_i64]; omega
            have v2 : IntKind.i64.wrap ((k : Int) - i) = (k : Int) - i := by rw [IntKind.wrap_i64]; omega
            have v3 : IntKind.i64.wrap (((k : Int) - i) * r) = D := by rw [IntKind.wrap_i64, hD.out]; omega
            have v4 : IntKind.i64.wrap (s + D) = s + D := by rw [IntKind.wrap_i64]; omega
            have v5 : ¬ s + D < C - Bi + xk := by omega
            clear u1 u2 u3 u4 u6 u7 u8
            go_wp2
            go_roundw
            case rel => exact ⟨k + 1, by omega, by omega, by go_num, by rw [E3.out]; first | rfl | (congr 1; omega), by first | exact rfl | exact trivial⟩
            case measure => simp [intOf]; omega
          · go_wp2
            go_roundw
            case rel => exact ⟨i + 1, by omega, by go_num, by rw [E1.out], by rw [E2.out], by first | exact rfl | exact trivial⟩
            case measure => simp [intOf]; omega
      · obtain rfl : i = l.length := by omega
        have HBe : Hid (∀ n, Below w.heap.size w (wr.drewN n)) := fun n => below_drewN B2 _
        by_cases h0 : l.length = 0
        · have q0 : ((l.length : Int) == 0) = true := by simp [h0]
          go_wp2_with fail
          go_quiet (fail)
          go_wp2
          go_ret
          exact ⟨Ns.ret_bool rfl, HBe.out _⟩
        · have q0 : ((l.length : Int) == 0) = false := beq_eq_false_iff_ne.2 (by omega)
          have p0 : (0 : Int) < (l.length : Int) := by omega
          obtain ⟨_, _, b, off, e1, rfl, hc⟩ := HCl.out 0 (by omega)
          simp only [Value.slice.injEq] at e1
          obtain ⟨rfl, -, rfl⟩ := e1
          obtain ⟨bx, ox, rfl, hcx⟩ := HX.out 0 (by omega)
          have c0 := hc _ B2
          have c1 := hcx _ (Below.refl _ _)
          have hgo := HB4.out (by omega)
          rw [Nat.add_zero] at c0 c1
          clear hc hcx
          generalize l.getD 0 0 = y at *
          generalize SL.getD 0 0 = x at *
          by_cases hy : h < y
          · have e2 : x = h := by rw [hgo]; exact if_pos hy
            subst e2
            have q1 : (x == y) = false := beq_eq_false_iff_ne.2 (by omega)
            have q2 : (x == x) = true := by simp
            clear hgo
            go_wp2_with fail
            go_quiet (fail)
            go_wp2
            go_ret
            exact ⟨Ns.ret_bool rfl, HBe.out _⟩
          · have e2 : x = y := by rw [hgo]; exact if_neg hy
            subst e2
            have q2 : (x == x) = true := by simp
            have q3 : x ≤ h := by omega
            clear hgo
            go_wp2_with fail
            go_quiet (fail)
            go_wp2
            go_ret
            exact ⟨Ns.ret_bool rfl, HBe.out _⟩
  · rw [errV_ne hse]
    obtain ⟨ay, cy2, rfl, _⟩ := hy
    go_wp2
    go_ret
    exact ⟨Ns.ret_bool rfl, B2⟩
end Ev
end Go.Proofs.Ytbgmdolbeecpiaf
