/- The law GiveAll returns true for every input, from what is asked of package give's Split: all is given, and each gets what is its own, or one more. -/
import Derived.Test.YtdlckfffpdjbcahPlains
import Derived.Test.YtdlckfffpdjbcahRTot
import Derived.OwnWalk
namespace Go.Proofs.Ytdlckfffpdjbcah
namespace Ev
open Go.RowKit Fr Ns Ld Fl
set_option linter.unusedSimpArgs false
set_option linter.unusedVariables false

theorem ga_fact : splitE (-7) [1, 2, 0] = 0 ∧ splitS (-7) [1, 2, 0] = [-2, -5, 0] := by decide +kernel
theorem ga_three (w : World) (x y z : Int) (T : TypeId) : IntsAt (fun _ => True) (w.alloc (.cells #[.int .i64 x, .int .i64 y, .int .i64 z] T)) (.slice (some ⟨w.heap.size, 0, none⟩) 3 3) [x, y, z] :=
  ⟨_, 3, rfl, ⟨Nat.le_refl _, by simp⟩, .inr ⟨w.heap.size, 0, rfl, fun i hi => by
    match i, hi with
    | 0, _ => simp
    | 1, _ => simp
    | 2, _ => simp, trivial⟩⟩

theorem ga_cells {R : Nat → Prop} {w : World} {v : Value} {x y z : Int} (h : IntsAt R w v [x, y, z]) : ∃ b off c, v = .slice (some ⟨b, off, none⟩) 3 c ∧ w.cell? ⟨b, off, none⟩ = some (.int .i64 x) ∧ w.cell? ⟨b, off + 1, none⟩ = some (.int .i64 y) ∧ w.cell? ⟨b, off + 2, none⟩ = some (.int .i64 z) := by
  obtain ⟨a, c, rfl, _, hc⟩ := h
  rcases hc with h | ⟨b, off, rfl, h, _⟩
  · simp at h
  · exact ⟨b, off, c, rfl, h 0 (by simp), h 1 (by simp), h 2 (by simp)⟩

set_option maxRecDepth 100000 in
set_option maxHeartbeats 8000000 in
theorem giveAll_walk (hS : GSplitSaid) (many : Int) (l : List Int) (v : Value) (w : World) (hv : IntsAt (fun b => b < w.heap.size) w v l) :
    Calls Try.prog 3 #[.int .i64 many, v] w fun e w' => e = .returned (.bool true) ∧ Below w.heap.size w w' := by
  have HF : Hid (∀ u : World, Calls Try.prog 4 #[.int .i64 (-7), .slice (some ⟨u.heap.size, 0, none⟩) 3 3] (u.alloc (.cells #[.int .i64 1, .int .i64 2, .int .i64 0] 3)) fun e w' => ∃ y, e = .returned (.tuple #[y, .nilIface]) ∧ IntsAt (fun b => u.heap.size + 1 ≤ b) w' y [-2, -5, 0] ∧ Below (u.heap.size + 1) (u.alloc (.cells #[.int .i64 1, .int .i64 2, .int .i64 0] 3)) w') := fun u => by
    have := hS (fun _ => True) (-7) [1, 2, 0] _ _ (ga_three u 1 2 0 3)
    rw [ga_fact.1, ga_fact.2, errV_0, okL_0] at this
    simpa using this
  have HS : Hid (∀ u : World, Below w.heap.size w u → Calls Try.prog 4 #[.int .i64 many, v] u fun e w' => ∃ y, e = .returned (.tuple #[y, errV (splitE many l)]) ∧ IntsAt (fun b => u.heap.size ≤ b) w' y (okL (splitE many l) (splitS many l)) ∧ Below u.heap.size u w') := fun u hu => hS _ many l v u (hv.later hu)
  by_cases hE : splitE many l = 0
  · obtain ⟨e1, e2, e3⟩ := splitE_0 hE
    obtain ⟨t1, n1, n6, hb⟩ := idx_tot e1
    have t2 : tot l ≤ 6000 := (idx_parts e1).2.1
    have HTl : Hid (∀ u : World, Below w.heap.size w u → Calls Try.prog 5 #[v] u fun e w' => e = .returned (.int .i64 (tot l)) ∧ w' = u) := fun u hu => RTot_any l v u (hv.later hu) (by omega) (fun x hx => by have := hb x hx; omega)
    have HTx : Hid (∀ (R : Nat → Prop) (y : Value) (u : World), IntsAt R u y (splitS many l) → Calls Try.prog 5 #[y] u fun e w' => e = .returned (.int .i64 many) ∧ w' = u) := fun R y u hy => by
      have := RTot_any (splitS many l) y u hy (by rw [splitS_length]; omega) (fun x hx => by
        obtain ⟨i, hi, rfl⟩ := List.mem_iff_getElem.1 hx
        rw [splitS_length] at hi
        obtain ⟨B, p, hB, hp, b0, b1, p1, p2, _⟩ := part_at hE hi
        have e := splitS_at (many := many) hi
        rw [hp] at e
        have e' : (splitS many l).getD i 0 = (splitS many l)[i]'(by rw [splitS_length]; exact hi) := by simp [List.getD, List.getElem?_eq_getElem (show i < (splitS many l).length by rw [splitS_length]; exact hi)]
        rw [← e', e]
        split <;> omega)
      rwa [splitS_tot t1] at this
    have Hb : Hid (∀ i, i < l.length → ∃ x P B p : Int, l.getD i 0 = x ∧ absM many * x = P ∧ P / tot l = B ∧ (splitS many l).getD i 0 = (if many < 0 then -p else p) ∧ (0 ≤ x ∧ x ≤ 1000) ∧ (0 ≤ P ∧ P ≤ 10000000) ∧ 0 ≤ B ∧ B ≤ 10000 ∧ B ≤ p ∧ p ≤ B + 1 ∧ (x = 0 → p = 0)) := fun i hi => by
      obtain ⟨B, p, hB, hp, b0, b1, p1, p2, p3⟩ := part_at hE hi
      have hx := hb _ (getD_mem l i hi 0)
      have m0 : 0 ≤ absM many := by unfold absM; split <;> omega
      have m1 : absM many ≤ 10000 := by unfold absM; split <;> omega
      have q1 : absM many * l.getD i 0 ≤ 10000 * 1000 := Int.mul_le_mul m1 hx.2 hx.1 (by decide)
      refine ⟨_, _, B, p, rfl, rfl, hB, by rw [splitS_at hi, hp], hx, ⟨Int.mul_nonneg m0 hx.1, by omega⟩, b0, b1, p1, p2, p3⟩
    have HSl : Hid ((splitS many l).length = l.length) := splitS_length _ _
    rw [hE, errV_0, okL_0] at HS
    generalize splitS many l = x at *
    obtain ⟨a, cap, rfl, ⟨hm1, hm2⟩, hc⟩ := id hv
    have HC : Hid (∀ i, i < l.length → ∃ b off, a = some ⟨b, off, none⟩ ∧ ∀ u, Below w.heap.size w u → u.cell? ⟨b, off + i, none⟩ = some (.int .i64 (l.getD i 0))) := ints_cells hv
    have ht0 : ¬ tot l = 0 := by omega
    obtain ⟨N, hN⟩ : ∃ N, absM many = N := ⟨_, rfl⟩
    have hN' : (many < 0 ∧ -many = N) ∨ (¬ many < 0 ∧ many = N) := by
      unfold absM at hN
      split at hN
      · exact .inl ⟨by assumption, hN⟩
      · exact .inr ⟨by assumption, hN⟩
    rw [hN] at Hb
    clear hv hc hE e1 hb hN
    generalize tot l = T at *
    rcases hN' with ⟨hneg, rfl⟩ | ⟨hneg, rfl⟩
    all_goals
      go_enter Try.func3, Try.ntmps3
      go_wp2_with fail
      refine (HF.out w).mono ?_
      rintro e w1 ⟨y, rfl, hy, hw1⟩
      have B1 : Hid (Below w.heap.size w w1) := ((Below.refl _ _).alloc (Nat.le_refl _) _).trans (hw1.mono (by omega))
      obtain ⟨b1', o1', c1', rfl, f0, f1, f2⟩ := ga_cells hy
      clear hw1 hy
      go_wp2_with fail
      refine (HS.out _ B1.out).mono ?_
      rintro e w2 ⟨y2, rfl, hy2, hw2⟩
      have B2 : Hid (Below w.heap.size w w2) := B1.out.trans (hw2.mono B1.out.size)
      have HY2 : Hid (IntsAt (fun b => w1.heap.size ≤ b) w2 y2 x) := hy2
      obtain ⟨a2, c2, rfl, _⟩ := hy2
      have HC2 : Hid (∀ i, i < x.length → ∃ b off, a2 = some ⟨b, off, none⟩ ∧ ∀ u, Below w2.heap.size w2 u → u.cell? ⟨b, off + i, none⟩ = some (.int .i64 (x.getD i 0))) := ints_cells HY2.out
      rw [HSl.out] at HC2
      have HTx2 : Hid (Calls Try.prog 5 #[.slice a2 x.length c2] w2 fun e w' => e = .returned (.int .i64 many) ∧ w' = w2) := HTx.out _ _ w2 HY2.out
      rw [HSl.out] at HTx2 ⊢
      have hlx : ¬ ((l.length : Int) < 1) := by omega
      have hlx6 : ¬ ((l.length : Int) > 6) := by omega
      clear hw2 f0 f1 f2 HY2
      go_wp2_with fail
      refine HTx2.out.mono ?_
      rintro e w2 ⟨rfl, rfl⟩
      go_wp2_with fail
      refine (HTl.out _ B2.out).mono ?_
      rintro e w2 ⟨rfl, rfl⟩
      go_wp2
      go_loopw [11, 12] (fun s11 _ wr => ∃ k : Nat, k ≤ l.length ∧ s11 = .int .i64 k ∧ Hid (Below w2.heap.size w2 wr)) (fun s11 _ _ => l.length - (intOf s11).toNat)
      case atStart => exact ⟨0, by omega, rfl, Below.refl _ _⟩
      case round =>
        obtain ⟨k, hk, rfl, hbl⟩ := hrel
        have HBk : Hid (Below w.heap.size w wr) := B2.out.trans (hbl.out.mono B2.out.size)
        by_cases hlt : k < l.length
        · obtain ⟨b, off, rfl, hc⟩ := HC.out k hlt
          obtain ⟨b', off', rfl, hc'⟩ := HC2.out k hlt
          have c0 := hc _ HBk.out
          have c1 := hc' _ hbl.out
          obtain ⟨xk, P, B, p, hx, hP, hB, hp, ⟨x0, x1⟩, ⟨p0, p1⟩, b0, b1, r1, r2, r3⟩ := Hb.out k hlt
          rw [hx] at c0
          rw [hp] at c1
          first | rw [if_pos hneg] at c1 | rw [if_neg (by omega)] at c1
          have q1 : IntKind.i64.wrap (_ * xk) = P := (by rw [IntKind.wrap_i64, hP]; omega)
          have q2 : P.tdiv T = B := by rw [Int.tdiv_eq_ediv_of_nonneg p0]; exact hB
          have q3 : IntKind.i64.wrap B = B := by rw [IntKind.wrap_i64]; omega
          have hq : (xk == 0) = false ∨ (xk == 0) = true ∧ p = 0 := by
            by_cases h : xk = 0
            · exact .inr ⟨by simp [h], r3 h⟩
            · exact .inl (beq_eq_false_iff_ne.2 h)
          clear hc hc' hx hP hB hp r3
          rcases hq with z | ⟨z, rfl⟩
          all_goals
            go_wp2
            go_roundw
            case rel => exact ⟨k + 1, by omega, by go_num, hbl⟩
            case measure => simp [intOf]; omega
        · go_wp2
          go_ret
          exact ⟨Ns.ret_bool rfl, HBk.out⟩
  · have HV : Hid (errV (splitE many l) = .iface 32 (.int .i64 (splitE many l))) := errV_ne hE
    have HK : Hid (okL (splitE many l) (splitS many l) = []) := okL_ne hE _
    rw [HV.out, HK.out] at HS
    generalize splitE many l = ek at *
    obtain ⟨a, cap, rfl, ⟨hm1, hm2⟩, hc⟩ := hv
    clear hc hE HK HV
    go_enter Try.func3, Try.ntmps3
    go_wp2_with fail
    refine (HF.out w).mono ?_
    rintro e w1 ⟨y, rfl, hy, hw1⟩
    have B1 : Hid (Below w.heap.size w w1) := ((Below.refl _ _).alloc (Nat.le_refl _) _).trans (hw1.mono (by omega))
    obtain ⟨b1', o1', c1', rfl, f0, f1, f2⟩ := ga_cells hy
    clear hw1 hy
    go_wp2_with fail
    refine (HS.out _ B1.out).mono ?_
    rintro e w2 ⟨y2, rfl, hy2, hw2⟩
    have B2 : Hid (Below w.heap.size w w2) := B1.out.trans (hw2.mono B1.out.size)
    obtain ⟨a2, c2, rfl, _⟩ := hy2
    clear hw2 f0 f1 f2
    go_wp2
    go_ret
    exact ⟨Ns.ret_bool rfl, B2.out⟩
end Ev
end Go.Proofs.Ytdlckfffpdjbcah
