/- The law AimdEvens returns true for every input, from what is asked of package aimd's calls: each halving halves what is uneven. -/
import Derived.Test.YtdafgbjkldidfaePlains
import Derived.Test.YtdafgbjkldidfaeRTot
import Derived.Test.YtdafgbjkldidfaeRGap
import Derived.Deep.QuietTactic
import Derived.BigQuiet
namespace Go.Proofs.Ytdafgbjkldidfae
namespace Ev
open Go.RowKit Fr Ns Ld Fl
set_option linter.unusedSimpArgs false
set_option linter.unusedVariables false

theorem fact94E : stepE [9, 4] 10 1 = 0 := by decide +kernel
theorem fact94 : stepL [9, 4] 10 1 = [4, 2] := by decide +kernel
theorem ae_two (w : World) (g : Nat) (x y : Int) (h0 : w.cell? ⟨g, 0, none⟩ = some (.int .i64 x)) (h1 : w.cell? ⟨g, 1, none⟩ = some (.int .i64 y)) : IntsAt (fun _ => True) w (.slice (some ⟨g, 0, none⟩) 2 2) [x, y] :=
  ⟨_, 2, rfl, ⟨Nat.le_refl _, by simp⟩, .inr ⟨g, 0, rfl, fun i hi => by
    match i, hi with
    | 0, _ => simpa using h0
    | 1, _ => simpa using h1, trivial⟩⟩
theorem halves_le (n : Nat) {g : Int} (h0 : 0 ≤ g) : halves n g ≤ g ∨ halves n g ≤ 1 := by
  induction n with
  | zero => exact .inl (Int.le_refl _)
  | succ n ih => have := halves_nonneg n h0; simp only [halves]; omega
theorem ae_div {x : Int} (h : 0 ≤ x) : (x + 1).tdiv 2 = (x + 1) / 2 := Int.tdiv_eq_ediv_of_nonneg (by omega)
theorem runE_0 {l : List Int} {limit up ticks : Int} (h : runE l limit up ticks = 0) : 0 ≤ ticks ∧ ticks ≤ 60 ∧ few l 10000 = 0 ∧ knobs limit up = true ∧ stAt l limit up ticks.toNat = some (runL l limit up ticks, runC l limit up ticks) := by
  unfold runE at h
  split at h
  · omega
  · split at h
    · split at h
      · split at h
        · rename_i h1 h2 h3 h4
          refine ⟨by omega, by omega, h2, h3, ?_⟩
          unfold runL runC
          cases hs : stAt l limit up ticks.toNat with
          | none => rw [hs] at h4; cases h4
          | some p => rfl
        · omega
      · omega
    · contradiction

set_option maxRecDepth 100000 in
set_option maxHeartbeats 8000000 in
theorem aimdEvens_walk (hS : AStepSaid) (hR : ARunSaid) (hC : ACutsSaid) (l : List Int) (limit up ticks : Int) (v : Value) (w : World) (hv : IntsAt (fun b => b < w.heap.size) w v l) :
    Calls Try.prog 4 #[v, .int .i64 limit, .int .i64 up, .int .i64 ticks] w fun e w' => e = .returned (.bool true) ∧ Below w.heap.size w w' := by
  have HR : Hid (∀ u : World, Below w.heap.size w u → Calls Try.prog 12 #[v, .int .i64 limit, .int .i64 up, .int .i64 ticks] u fun e w' => ∃ y, e = .returned (.tuple #[y, errV (runE l limit up ticks)]) ∧ IntsAt (fun b => u.heap.size ≤ b) w' y (okL (runE l limit up ticks) (runL l limit up ticks)) ∧ Below u.heap.size u w') := fun u hu => hR _ l limit up ticks v u (hv.later hu)
  have HC : Hid (∀ u : World, Below w.heap.size w u → Calls Try.prog 13 #[v, .int .i64 limit, .int .i64 up, .int .i64 ticks] u fun e w' => e = .returned (.tuple #[.int .i64 (okI (runE l limit up ticks) (runC l limit up ticks : Int)), errV (runE l limit up ticks)]) ∧ Below u.heap.size u w') := fun u hu => hC _ l limit up ticks v u (hv.later hu)
  have HVv : Hid (∀ u, Below w.heap.size w u → IntsAt (fun _ => True) u v l) := fun u hu => (hv.later hu).keep (fun _ _ _ => rfl) (fun _ _ _ => trivial)
  have B0 : Hid (Below w.heap.size w (w.alloc (.cells #[.int .i64 9, .int .i64 4] 3))) := (Below.refl _ _).alloc (Nat.le_refl _) _
  have HL1 : Hid (Calls Try.prog 11 #[.slice (some ⟨w.heap.size, 0, none⟩) 2 2, .int .i64 10, .int .i64 1] (w.alloc (.cells #[.int .i64 9, .int .i64 4] 3)) fun e w' => ∃ y, e = .returned (.tuple #[y, .nilIface]) ∧ IntsAt (fun b => (w.alloc (.cells #[.int .i64 9, .int .i64 4] 3)).heap.size ≤ b) w' y [4, 2] ∧ Below (w.alloc (.cells #[.int .i64 9, .int .i64 4] 3)).heap.size (w.alloc (.cells #[.int .i64 9, .int .i64 4] 3)) w') := by
    have := hS (fun _ => True) [9, 4] 10 1 (.slice (some ⟨w.heap.size, 0, none⟩) 2 2) (w.alloc (.cells #[.int .i64 9, .int .i64 4] 3)) (ae_two _ w.heap.size 9 4 (by go_simp) (by go_simp))
    rw [fact94E, fact94, okL_0, errV_0] at this
    exact this
  obtain ⟨a, cap, rfl, ⟨hm1, hm2⟩, hc⟩ := hv
  have HA : Hid (∀ i, i < l.length → ∃ b off, a = some ⟨b, off, none⟩ ∧ ∀ u, Below w.heap.size w u → u.cell? ⟨b, off + i, none⟩ = some (.int .i64 (l.getD i 0))) := by
    intro i hi
    rcases hc with h | ⟨b, off, rfl, h, _⟩
    · rw [h] at hi; simp at hi
    · exact ⟨b, off, rfl, fun u hu => cell_later hu (h i hi)⟩
  clear hc hS hR hC
  by_cases he : runE l limit up ticks = 0
  · obtain ⟨t0, t1, hf, hk, hst⟩ := runE_0 he
    obtain ⟨r1, r2, r3, r4, r5, r6⟩ := ran hf hk _ _ _ hst
    obtain ⟨n1, n6, hb⟩ := few_0.1 hf
    obtain ⟨_, _, hbx⟩ := few_0.1 r3
    obtain ⟨k1, k2, k3, k4⟩ := knobs_iff.1 hk
    rw [he, errV_0, okL_0] at HR
    rw [he, errV_0, okI_0] at HC
    have HGl : Hid (∀ u : World, Below w.heap.size w u → Calls Try.prog 14 #[.slice a l.length cap] u fun e w' => e = .returned (.int .i64 (gapL l)) ∧ w' = u) := fun u hu => RGap_any l _ u (HVv.out u hu) n1 (fun x hx => by have := hb x hx; omega)
    have HTl : Hid (∀ u : World, Below w.heap.size w u → Calls Try.prog 15 #[.slice a l.length cap] u fun e w' => e = .returned (.int .i64 (tot l)) ∧ w' = u) := fun u hu => RTot_any l _ u (HVv.out u hu) (by omega) (fun x hx => by have := hb x hx; omega)
    have HGx : Hid (∀ (y : Value) (u : World), IntsAt (fun _ => True) u y (runL l limit up ticks) → Calls Try.prog 14 #[y] u fun e w' => e = .returned (.int .i64 (gapL (runL l limit up ticks))) ∧ w' = u) := fun y u hy => RGap_any _ _ u hy (by omega) (fun x hx => by have := hbx x hx; omega)
    have HTx : Hid (∀ (y : Value) (u : World), IntsAt (fun _ => True) u y (runL l limit up ticks) → Calls Try.prog 15 #[y] u fun e w' => e = .returned (.int .i64 (tot (runL l limit up ticks))) ∧ w' = u) := fun y u hy => RTot_any _ _ u hy (by omega) (fun x hx => by have := hbx x hx; omega)
    have HG0 : Hid (0 ≤ gapL l ∧ gapL l ≤ 10000) := ⟨gap_nonneg n1, gap_le n1 fun x hx y hy => by have := hb x hx; have := hb y hy; omega⟩
    have HGh : Hid (gapL (runL l limit up ticks) ≤ halves (runC l limit up ticks) (gapL l)) := r4
    have HOr : Hid (∀ i j, i < l.length → j < l.length → l.getD j 0 ≤ l.getD i 0 → (runL l limit up ticks).getD j 0 ≤ (runL l limit up ticks).getD i 0) := r5
    have HTo : Hid (tot l ≤ limit → tot (runL l limit up ticks) ≤ limit + l.length * up) := r6
    have HLe : Hid ((runL l limit up ticks).length = l.length) := r2
    have hcu : (runC l limit up ticks : Int) ≤ ticks := by omega
    have hup1 : 0 ≤ (l.length : Int) * up := Int.mul_nonneg (by omega) (by omega)
    have hup2 : (l.length : Int) * up ≤ 6 * 1000 := Int.mul_le_mul (by omega) k4 (by omega) (by decide)
    generalize runL l limit up ticks = X at *
    generalize runC l limit up ticks = C at *
    clear he hf hk hst r1 r2 r3 r4 r5 r6 hb hbx
    go_enter Try.func4, Try.ntmps4
    go_wp2_with fail
    refine HL1.out.mono ?_
    rintro e w1 ⟨y1, rfl, hy1, hw1⟩
    have B1 : Hid (Below w.heap.size w w1) := B0.out.trans (hw1.mono (by simp))
    obtain ⟨ay, cy, rfl, ⟨hmy, hny⟩, hcy⟩ := hy1
    rcases hcy with hcy | ⟨by', oy, rfl, hcy, _⟩
    · simp at hcy
    have c00 := hcy 0 (by simp)
    have c10 := hcy 1 (by simp)
    replace c00 : w1.cell? ⟨by', oy, none⟩ = some (.int .i64 4) := by simpa using c00
    replace c10 : w1.cell? ⟨by', oy + 1, none⟩ = some (.int .i64 2) := by simpa using c10
    clear hw1 HL1 B0 hcy
    go_wp2_with fail
    refine (HR.out _ B1.out).mono ?_
    rintro e w2 ⟨y2, rfl, hy2, hw2⟩
    have B2 : Hid (Below w.heap.size w w2) := Bel.call B1.out (Nat.le_refl _) hw2
    have Y2 : Hid (IntsAt (fun _ => True) w2 y2 X) := hy2.keep (fun _ _ _ => rfl) (fun _ _ _ => trivial)
    obtain ⟨a2, c2, rfl, ⟨hm2', hn2'⟩, _⟩ := hy2
    have x1 : X.length ≤ l.length := Nat.le_of_eq HLe.out
    have x2 : l.length ≤ X.length := Nat.le_of_eq HLe.out.symm
    have q2 : ((X.length : Int) != (l.length : Int)) = false := by rw [HLe.out]; simp
    have hl1 : ¬ (l.length : Int) < 1 := by omega
    have hl6 : ¬ (6 : Int) < (l.length : Int) := by omega
    have hc0 : ¬ (C : Int) < 0 := by omega
    have hct : ¬ ticks < (C : Int) := by omega
    clear hw2 c00 c10
    go_wp2_with fail
    refine (HC.out _ B2.out).mono ?_
    rintro e w3 ⟨rfl, hw3⟩
    have B3 : Hid (Below w.heap.size w w3) := Bel.call B2.out (Nat.le_refl _) hw3
    have Y3 : Hid (IntsAt (fun _ => True) w3 (.slice a2 X.length c2) X) := Y2.out.later hw3
    clear hw3 Y2
    go_wp2_with fail
    refine (HGl.out _ B3.out).mono ?_
    rintro e w3 ⟨rfl, rfl⟩
    have HHn : Hid (∀ k, 0 ≤ halves k (gapL l) ∧ halves k (gapL l) ≤ 10000) := fun k => by
      have h1 := halves_nonneg k HG0.out.1
      have h2 := halves_le k HG0.out.1
      have h3 := HG0.out.2
      omega
    have HHs : Hid (∀ k, halves (k + 1) (gapL l) = (halves k (gapL l) + 1) / 2) := fun k => rfl
    have HHm : Hid (∀ k, k ≤ C → halves k (gapL l) ≤ 1 → halves C (gapL l) = halves k (gapL l)) := fun k hk h => halves_more k C hk (HHn.out k).1 h
    have HH0 : Hid (halves 0 (gapL l) = gapL l) := rfl
    generalize hGG : gapL l = G at *
    go_wp2
    go_loop [15, 16] (fun s15 i => ∃ k : Nat, k ≤ C ∧ i = .int .i64 k ∧ s15 = .int .i64 (halves k G)) (fun _ i => C - (intOf i).toNat)
    case atStart => exact ⟨0, by omega, rfl, by rw [HH0.out]⟩
    case round =>
      obtain ⟨k, hk, rfl, rfl⟩ := hrel
      have hkn := HHn.out k
      by_cases hgo : k < C ∧ 1 < halves k G
      · obtain ⟨hlt, hbig⟩ := hgo
        have hs := (show Hid _ from HHs.out k)
        have hdv := ae_div hkn.1
        generalize halves k G = hk' at *
        go_wp2
        go_round
        case rel => exact ⟨k + 1, by omega, by go_num, by rw [hs.out]⟩
        case measure => simp [intOf]; omega
      · have HEnd : Hid (halves C G = halves k G) := by
          by_cases h : k < C
          · exact HHm.out k hk (by omega)
          · have : k = C := by omega
            rw [this]; rfl
        have hfin : gapL X ≤ halves k G := by rw [← HEnd.out]; exact HGh.out
        have hcase : (¬ (k : Int) < (C : Int)) ∨ ((k : Int) < (C : Int) ∧ ¬ 1 < halves k G) := by omega
        have HGX : Hid (Calls Try.prog 14 #[.slice a2 X.length c2] w3 fun e w' => e = .returned (.int .i64 (gapL X)) ∧ w' = w3) := HGx.out _ w3 Y3.out
        have HTX : Hid (∀ n, Calls Try.prog 15 #[.slice a2 X.length c2] (w3.drewN n) fun e w' => e = .returned (.int .i64 (tot X)) ∧ w' = w3.drewN n) := fun n => HTx.out _ _ (Y3.out.later (below_drewN (Below.refl _ _) _))
        have HTL : Hid (∀ n, Calls Try.prog 15 #[.slice a l.length cap] (w3.drewN n) fun e w' => e = .returned (.int .i64 (tot l)) ∧ w' = w3.drewN n) := fun n => HTl.out _ (below_drewN B3.out _)
        have HXc : Hid (∀ i, i < l.length → ∃ b off, a2 = some ⟨b, off, none⟩ ∧ ∀ n, (w3.drewN n).cell? ⟨b, off + i, none⟩ = some (.int .i64 (X.getD i 0))) := by
          intro i hi
          obtain ⟨_, _, e, _, h⟩ := Y3.out
          simp only [Value.slice.injEq] at e
          obtain ⟨rfl, _, rfl⟩ := e
          rcases h with h | ⟨b, off, rfl, h, _⟩
          · rw [h] at x2; simp at x2; rw [x2] at hi; simp at hi
          · exact ⟨b, off, rfl, fun n => h i (by omega)⟩
        have hng : ¬ halves k G < gapL X := by omega
        clear hgo HEnd HHn HHs HHm HH0
        generalize halves k G = hk' at *
        generalize gapL X = gx at *
        rcases hcase with h1 | ⟨h1, h2⟩
        all_goals
          go_wp2_with fail
          refine HGX.out.mono ?_
          rintro e w3 ⟨rfl, rfl⟩
          go_wp2
          go_loopw [17, 18] (fun i _ wq => ∃ p n : Nat, p ≤ l.length ∧ i = .int .i64 p ∧ Hid (wq = w3.drewN n)) (fun i _ _ => l.length - (intOf i).toNat)
          case atStart => exact ⟨0, 0, by omega, rfl, rfl⟩
          case round =>
            obtain ⟨p, n, hp, rfl, hw⟩ := hrel
            by_cases hlt : p < l.length
            · go_wp2
              go_loopw [18] (fun i wq => ∃ q n : Nat, q ≤ l.length ∧ i = .int .i64 q ∧ Hid (wq = w3.drewN n)) (fun i _ => l.length - (intOf i).toNat)
              case atStart => exact ⟨0, n, by omega, rfl, hw⟩
              case round =>
                obtain ⟨q, n', hq, rfl, hw'⟩ := hrel
                by_cases hlt' : q < l.length
                · obtain ⟨b, off, rfl, hcl⟩ := HA.out p hlt
                  obtain ⟨b', off', e', hcl'⟩ := HA.out q hlt'
                  simp only [Option.some.injEq, Addr.mk.injEq, and_true] at e'
                  obtain ⟨rfl, rfl⟩ := e'
                  obtain ⟨bx, ox, rfl, hcx⟩ := HXc.out p hlt
                  obtain ⟨bx', ox', e', hcx'⟩ := HXc.out q hlt'
                  simp only [Option.some.injEq, Addr.mk.injEq, and_true] at e'
                  obtain ⟨rfl, rfl⟩ := e'
                  have d0 := hcl _ (below_drewN B3.out n')
                  have d1 := hcl' _ (below_drewN B3.out n')
                  have d2 := hcx n'
                  have d3 := hcx' n'
                  rw [← hw'.out] at d0 d1 d2 d3
                  have hor := HOr.out p q hlt hlt'
                  have z1 : (p : Int) < (X.length : Int) := by omega
                  have z2 : (q : Int) < (X.length : Int) := by omega
                  clear hcl hcl' hcx hcx'
                  generalize l.getD p 0 = lp at *
                  generalize l.getD q 0 = lq at *
                  generalize X.getD p 0 = xp at *
                  generalize X.getD q 0 = xq at *
                  by_cases hgt : lq < lp
                  · have qg : decide (lq < lp) = true := decide_eq_true hgt
                    have hnx : ¬ xp < xq := by have := hor (by omega); omega
                    have qx : decide (xp < xq) = false := decide_eq_false hnx
                    clear hor
                    go_wp2
                    go_quiet (fail)
                    go_wp2
                    go_roundw
                    case rel => exact ⟨q + 1, n' + nq, by omega, by go_num, (show _ = _ by rw [hw'.out]; simp)⟩
                    case measure => simp [intOf]; omega
                  · have qg : decide (lq < lp) = false := decide_eq_false hgt
                    clear hor
                    go_wp2
                    go_quiet (fail)
                    go_wp2
                    go_roundw
                    case rel => exact ⟨q + 1, n' + nq, by omega, by go_num, (show _ = _ by rw [hw'.out]; simp)⟩
                    case measure => simp [intOf]; omega
                · go_wp2
                  go_roundw
                  case rel => exact ⟨p + 1, n', by omega, by go_num, hw'⟩
                  case measure => simp [intOf]; omega
            · have HTL' := (show Hid _ from HTL.out n)
              have HTX' := (show Hid _ from HTX.out n)
              rw [← hw.out] at HTL' HTX'
              have Bq : Hid (Below w.heap.size w wr) := by rw [hw.out]; exact below_drewN B3.out _
              by_cases htl : limit < tot l
              · generalize tot l = TL at *
                go_wp2_with fail
                refine (Calls.mono HTL'.out ?_)
                rintro e wr ⟨rfl, rfl⟩
                go_wp2
                go_ret
                exact ⟨Ns.ret_bool rfl, Bq.out⟩
              · have htx := HTo.out (by omega)
                generalize hLU : (l.length : Int) * up = LU at *
                have hwu : IntKind.i64.wrap ((l.length : Int) * up) = LU := by rw [IntKind.wrap_i64, hLU]; omega
                generalize tot l = TL at *
                generalize tot X = TX at *
                go_wp2_with fail
                refine (Calls.mono HTL'.out ?_)
                rintro e wr ⟨rfl, rfl⟩
                go_wp2_with fail
                refine (Calls.mono HTX'.out ?_)
                rintro e wr ⟨rfl, rfl⟩
                go_wp2
                go_ret
                exact ⟨Ns.ret_bool rfl, Bq.out⟩
  · have HE : Hid (errV (runE l limit up ticks) = .iface 44 (.int .i64 (runE l limit up ticks))) := errV_ne he
    rw [HE.out] at HR
    generalize okL (runE l limit up ticks) (runL l limit up ticks) = RL at *
    generalize runE l limit up ticks = ek at *
    clear he HE
    go_enter Try.func4, Try.ntmps4
    go_wp2_with fail
    refine HL1.out.mono ?_
    rintro e w1 ⟨y1, rfl, hy1, hw1⟩
    have B1 : Hid (Below w.heap.size w w1) := B0.out.trans (hw1.mono (by simp))
    obtain ⟨ay, cy, rfl, ⟨hmy, hny⟩, hcy⟩ := hy1
    rcases hcy with hcy | ⟨by', oy, rfl, hcy, _⟩
    · simp at hcy
    have c00 := hcy 0 (by simp)
    have c10 := hcy 1 (by simp)
    replace c00 : w1.cell? ⟨by', oy, none⟩ = some (.int .i64 4) := by simpa using c00
    replace c10 : w1.cell? ⟨by', oy + 1, none⟩ = some (.int .i64 2) := by simpa using c10
    clear hw1 HL1 B0 hcy
    go_wp2_with fail
    refine (HR.out _ B1.out).mono ?_
    rintro e w2 ⟨y2, rfl, hy2, hw2⟩
    have B2 : Hid (Below w.heap.size w w2) := Bel.call B1.out (Nat.le_refl _) hw2
    obtain ⟨a2, n2, c2, rfl⟩ : ∃ a n c, y2 = .slice a n c := by obtain ⟨a, c, e, _⟩ := hy2; exact ⟨_, _, _, e⟩
    clear hw2 hy2
    go_wp2
    go_ret
    exact ⟨Ns.ret_bool rfl, B2.out⟩
end Ev
end Go.Proofs.Ytdafgbjkldidfae
