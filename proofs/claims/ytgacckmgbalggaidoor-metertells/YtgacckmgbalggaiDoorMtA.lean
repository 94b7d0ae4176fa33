/- Package meter's small parts: what is within, what may come, what Check, check and checkTicks tell, a quotient rounded down, the next rate and a tick of a meter that is right. -/
import Derived.Test.YtgacckmgbalggaiDoorAnyF
import Derived.Test.YtgacckmgbalggaiDoorPlains
import Derived.Lib.MinMax
namespace Go.Proofs.YtgacckmgbalggaiDoor
namespace Ev
open Go.RowKit Fr Ns Ld Fl
set_option linter.unusedSimpArgs false
set_option linter.unusedVariables false

theorem mtwithin_any (n a b : Int) (w : World) :
    Calls Tryd.prog 13 #[.int .i64 n, .int .i64 a, .int .i64 b] w fun e w' => e = .returned (.bool (inR n a b)) ∧ w' = w := by
  have HR : Hid (inR n a b = (decide (a ≤ n) && decide (n ≤ b))) := rfl
  by_cases h1 : a ≤ n
  · go_enter Tryd.func13, Tryd.ntmps13
    go_wp2
    go_ret
    exact ⟨ret_bool (by rw [HR.out]; simp [h1]; try omega), rfl⟩
  · go_enter Tryd.func13, Tryd.ntmps13
    go_wp2
    go_ret
    exact ⟨ret_bool (by rw [HR.out]; simp [h1]; try omega), rfl⟩
theorem mtwithin_is {n a b : Int} {x : Bool} (h : inR n a b = x) (w : World) :
    Calls Tryd.prog 13 #[.int .i64 n, .int .i64 a, .int .i64 b] w fun e w' => e = .returned (.bool x) ∧ w' = w := by
  rw [← h]; exact mtwithin_any n a b w

theorem mtmay_any (n : Int) (w : World) :
    Calls Tryd.prog 14 #[.int .i64 n] w fun e w' => e = .returned (.bool (inTo 10000 n)) ∧ w' = w := by
  have HM : Hid (∀ u : World, Calls Tryd.prog 13 #[.int .i64 n, .int .i64 0, .int .i64 10000] u fun e w' => e = .returned (.bool (inTo 10000 n)) ∧ w' = u) := fun u => mtwithin_any n 0 10000 u
  go_enter Tryd.func14, Tryd.ntmps14
  go_wp2_with fail
  refine (HM.out _).mono ?_
  rintro e w' ⟨rfl, rfl⟩
  go_wp2
  go_ret
  exact ⟨rfl, rfl⟩
theorem mtmay_is {n : Int} {x : Bool} (h : inTo 10000 n = x) (w : World) :
    Calls Tryd.prog 14 #[.int .i64 n] w fun e w' => e = .returned (.bool x) ∧ w' = w := by
  rw [← h]; exact mtmay_any n w

set_option maxHeartbeats 1000000 in
theorem mtcheck_said : MtCheckSaid := by
  intro s r h w
  cases h1 : inR s 1 1000 with
  | false =>
    have HE : Hid (metE s r h = 1) := by have := inR_0.1 h1; show _ = _; rw [metE, if_pos (by omega)]
    have H1 : Hid (∀ u : World, Calls Tryd.prog 13 #[.int .i64 s, .int .i64 1, .int .i64 1000] u fun e w' => e = .returned (.bool false) ∧ w' = u) := fun u => mtwithin_is h1 u
    clear h1
    go_enter Tryd.func6, Tryd.ntmps6
    go_wp2_with fail
    refine (H1.out _).mono ?_
    rintro e w1 ⟨rfl, rfl⟩
    go_wp2
    go_ret
    exact ⟨ret_bk (by rw [HE.out]; rfl), (Below.refl _ _).alloc (Nat.le_refl _) _⟩
  | true =>
    have H1 : Hid (∀ u : World, Calls Tryd.prog 13 #[.int .i64 s, .int .i64 1, .int .i64 1000] u fun e w' => e = .returned (.bool true) ∧ w' = u) := fun u => mtwithin_is h1 u
    cases h2 : inTo 10000 r with
    | false =>
      have HE : Hid (metE s r h = 1) := by have := inR_0.1 (show inR r 0 10000 = false from h2); show _ = _; rw [metE, if_pos (by omega)]
      have H2 : Hid (∀ u : World, Calls Tryd.prog 14 #[.int .i64 r] u fun e w' => e = .returned (.bool false) ∧ w' = u) := fun u => mtmay_is h2 u
      clear h1 h2
      go_enter Tryd.func6, Tryd.ntmps6
      go_wp2_with fail
      refine (H1.out _).mono ?_
      rintro e w1 ⟨rfl, rfl⟩
      go_wp2_with fail
      refine (H2.out _).mono ?_
      rintro e w1 ⟨rfl, rfl⟩
      go_wp2
      go_ret
      exact ⟨ret_bk (by rw [HE.out]; rfl), (Below.refl _ _).alloc (Nat.le_refl _) _⟩
    | true =>
      have H2 : Hid (∀ u : World, Calls Tryd.prog 14 #[.int .i64 r] u fun e w' => e = .returned (.bool true) ∧ w' = u) := fun u => mtmay_is h2 u
      obtain ⟨x, hx⟩ : ∃ x, inR h 0 10000 = x := ⟨_, rfl⟩
      have HE : Hid (metE s r h = if x then 0 else 1) := by
        have a1 := inR_1.1 h1
        have a2 := inR_1.1 (show inR r 0 10000 = true from h2)
        cases x with
        | false => have := inR_0.1 hx; show _ = _; rw [metE, if_pos (by omega)]; rfl
        | true => have := inR_1.1 hx; show _ = _; rw [metE, if_neg (by omega)]; rfl
      have H3 : Hid (∀ u : World, Calls Tryd.prog 13 #[.int .i64 h, .int .i64 0, .int .i64 10000] u fun e w' => e = .returned (.bool x) ∧ w' = u) := fun u => mtwithin_is hx u
      clear h1 h2 hx
      cases x
      all_goals
        go_enter Tryd.func6, Tryd.ntmps6
        go_wp2_with fail
        refine (H1.out _).mono ?_
        rintro e w1 ⟨rfl, rfl⟩
        go_wp2_with fail
        refine (H2.out _).mono ?_
        rintro e w1 ⟨rfl, rfl⟩
        go_wp2_with fail
        refine (H3.out _).mono ?_
        rintro e w1 ⟨rfl, rfl⟩
        go_wp2
        go_ret
        exact ⟨ret_bk (by rw [HE.out]; rfl), (Below.refl _ _).alloc (Nat.le_refl _) _⟩

set_option maxHeartbeats 1000000 in
theorem mtchk_any (s r h q : Int) (w : World) :
    Calls Tryd.prog 15 #[.agg #[.int .i64 s, .int .i64 r, .int .i64 h], .int .i64 q] w fun e w' => e = .returned (errV (mnxE s r h q)) ∧ Below w.heap.size w w' := by
  have HK : Hid (∀ u : World, Calls Tryd.prog 6 #[.agg #[.int .i64 s, .int .i64 r, .int .i64 h]] u fun e w' => e = .returned (errV (metE s r h)) ∧ Below u.heap.size u w') := fun u => mtcheck_said s r h u
  have HKp : Hid (∀ u : World, Below (w.alloc (.cells #[.int .i64 s, .int .i64 r, .int .i64 h] 23)).heap.size (w.alloc (.cells #[.int .i64 s, .int .i64 r, .int .i64 h] 23)) u → Below w.heap.size w u) := fun u hu => ((Below.refl _ _).alloc (Nat.le_refl _) _).trans (hu.mono (by simp))
  by_cases hk : metE s r h = 0
  · obtain ⟨x, hx⟩ : ∃ x, inR q 1 1000 = x := ⟨_, rfl⟩
    have HE : Hid (mnxE s r h q = if x then 0 else 1) := by
      cases x with
      | false => have := inR_0.1 hx; show _ = _; rw [mnxE, if_pos hk, if_pos (by omega)]; rfl
      | true => have := inR_1.1 hx; show _ = _; rw [mnxE, if_pos hk, if_neg (by omega)]; rfl
    have H3 : Hid (∀ u : World, Calls Tryd.prog 13 #[.int .i64 q, .int .i64 1, .int .i64 1000] u fun e w' => e = .returned (.bool x) ∧ w' = u) := fun u => mtwithin_is hx u
    rw [hk, errV_0] at HK
    clear hk hx
    generalize mnxE s r h q = bk at *
    cases x
    all_goals
      go_enter Tryd.func15, Tryd.ntmps15
      go_wp2_with fail
      refine (HK.out _).mono ?_
      rintro e w1 ⟨rfl, hw1⟩
      have B1 : Hid (Below w.heap.size w w1) := HKp.out _ hw1
      clear hw1
      go_wp2_with fail
      refine (H3.out _).mono ?_
      rintro e w2 ⟨rfl, rfl⟩
      go_wp2
      go_ret
      exact ⟨ret_bk (by rw [HE.out]; rfl), B1.out⟩
  · have hE : mnxE s r h q = metE s r h := by rw [mnxE, if_neg hk]
    rw [hE]
    rw [errV_ne hk] at HK ⊢
    generalize metE s r h = bk at *
    clear hE hk
    go_enter Tryd.func15, Tryd.ntmps15
    go_wp2_with fail
    refine (HK.out _).mono ?_
    rintro e w1 ⟨rfl, hw1⟩
    have B1 : Hid (Below w.heap.size w w1) := HKp.out _ hw1
    clear hw1
    go_wp2
    go_ret
    exact ⟨rfl, B1.out⟩

set_option maxHeartbeats 1000000 in
theorem mtdown_any (n b : Int) (w : World) (b0 : 1 ≤ b) (b1 : b ≤ 4000) (n0 : -30000000 ≤ n) (n1 : n ≤ 30000000) :
    Calls Tryd.prog 20 #[.int .i64 n, .int .i64 b] w fun e w' => e = .returned (.int .i64 (n / b)) ∧ w' = w := by
  have hr := rem_down (n := n) b0
  have hd := div_bd b0 n0 n1
  have c4 : (b == 0) = false := beq_eq_false_iff_ne.2 (by omega)
  have c5 : ¬ b = 0 := by omega
  have m1 := Int.lt_tmod_of_pos n (show 0 < b by omega)
  have m2 := Int.tmod_lt_of_pos n (show 0 < b by omega)
  generalize n / b = F at *
  obtain ⟨T, hT⟩ : ∃ T, Hid (n.tdiv b = T) := ⟨_, rfl⟩
  obtain ⟨M, hM⟩ : ∃ M, Hid (n.tmod b = M) := ⟨_, rfl⟩
  rw [hT.out, hM.out] at hr
  rw [hM.out] at m1 m2
  have t1 : n.tdiv b = T := hT.out
  have t2 : n.tmod b = M := hM.out
  have x1 : IntKind.i64.wrap T = T := by rw [IntKind.wrap_i64]; omega
  have x2 : IntKind.i64.wrap M = M := by rw [IntKind.wrap_i64]; omega
  have x3 : IntKind.i64.wrap (T - 1) = T - 1 := by rw [IntKind.wrap_i64]; omega
  clear hd m1 m2 b0 b1 n0 n1
  rcases hr with ⟨a1, rfl⟩ | ⟨a1, rfl⟩
  all_goals
    go_enter Tryd.func20, Tryd.ntmps20
    go_wp2
    go_ret
    exact ⟨rfl, rfl⟩

set_option maxHeartbeats 2000000 in
theorem mtnx_any (s r h q : Int) (w : World) (h0 : metE s r h = 0) (q0 : 1 ≤ q) (q1 : q ≤ 1000) :
    Calls Tryd.prog 16 #[.agg #[.int .i64 s, .int .i64 r, .int .i64 h], .int .i64 q] w fun e w' => e = .returned (.int .i64 (nextM s r h q)) ∧ Below w.heap.size w w' := by
  have hb := metE_0.1 h0
  have hsp := spare_bd h0 q0 q1
  have hd := div_bd (n := q * (2 * (s - r) - h)) (b := 4 * s) (by omega) hsp.1 hsp.2
  have HD : Hid (∀ u : World, Calls Tryd.prog 20 #[.int .i64 (q * (2 * (s - r) - h)), .int .i64 (4 * s)] u fun e w' => e = .returned (.int .i64 (q * (2 * (s - r) - h) / (4 * s))) ∧ w' = u) := fun u => mtdown_any _ _ u (by omega) (by omega) hsp.1 hsp.2
  rw [nextM_min hb.1]
  have x1 : IntKind.i64.wrap (s - r) = s - r := by rw [IntKind.wrap_i64]; omega
  have x2 : IntKind.i64.wrap (2 * (s - r)) = 2 * (s - r) := by rw [IntKind.wrap_i64]; omega
  have x3 : IntKind.i64.wrap (2 * (s - r) - h) = 2 * (s - r) - h := by rw [IntKind.wrap_i64]; omega
  have x4 : IntKind.i64.wrap (q * (2 * (s - r) - h)) = q * (2 * (s - r) - h) := by rw [IntKind.wrap_i64]; omega
  have x5 : IntKind.i64.wrap (4 * s) = 4 * s := by rw [IntKind.wrap_i64]; omega
  generalize q * (2 * (s - r) - h) / (4 * s) = F at *
  have x6 : IntKind.i64.wrap (q + F) = q + F := by rw [IntKind.wrap_i64]; omega
  clear hb hsp hd h0 q0 q1
  go_enter Tryd.func16, Tryd.ntmps16
  go_wp2_with fail
  go_quiet ((go_at_call 20; exact Calls.quiet_of_same (HD.out _)))
  have Hbc : Hid (Below w.heap.size w ((w.alloc (.cells #[.int .i64 s, .int .i64 r, .int .i64 h] 23)).drewN nq)) := below_drewN ((Below.refl _ _).alloc (Nat.le_refl _) _) _
  go_wp2
  go_ret
  exact ⟨rfl, Hbc.out⟩

set_option maxHeartbeats 1000000 in
theorem mtticked_any (s r h c : Int) (w : World) (h0 : metE s r h = 0) (c0 : 0 ≤ c) (c1 : c ≤ 10000) :
    Calls Tryd.prog 18 #[.agg #[.int .i64 s, .int .i64 r, .int .i64 h], .int .i64 c] w fun e w' => e = .returned (.agg #[.int .i64 s, .int .i64 c, .int .i64 (waitM s h c)]) ∧ Below w.heap.size w w' := by
  have hb := metE_0.1 h0
  have x1 : IntKind.i64.wrap (h + c) = h + c := by rw [IntKind.wrap_i64]; omega
  have x2 : IntKind.i64.wrap (h + c - s) = h + c - s := by rw [IntKind.wrap_i64]; omega
  rw [waitM_min]
  clear hb h0 c0 c1
  go_enter Tryd.func18, Tryd.ntmps18
  go_wp2
  refine bodyPost_ret (v := .agg #[.int .i64 s, .int .i64 c, .int .i64 (min (max (h + c - s) 0) 10000)]) (by simp [results, Tryd.results18, go_sem]) rfl ⟨rfl, ?_⟩
  repeat (first | exact Below.refl _ _ | refine Below.setCell ?_ (by simp) _ | refine Below.alloc ?_ (by simp) _ | refine Below.drew ?_)

theorem mtbad_tells : TellsI 22 (fun x => !inTo 10000 x) := by
  refine ⟨enters Tryd.func22 (by kernel_rfl) (by kernel_rfl), fun x w => ?_⟩
  have HM : Hid (∀ u : World, Calls Tryd.prog 14 #[.int .i64 x] u fun e w' => e = .returned (.bool (inTo 10000 x)) ∧ w' = u) := fun u => mtmay_any x u
  go_enter Tryd.func22, Tryd.ntmps22
  go_wp2_with fail
  refine (HM.out _).mono ?_
  rintro e w' ⟨rfl, rfl⟩
  go_wp2
  go_ret
  exact ⟨rfl, 0, rfl⟩
set_option maxHeartbeats 1000000 in
theorem mtticks_any {Q : Nat → Prop} (l : List Int) (v : Value) (w : World) (h : IntsAt Q w v l) :
    Calls Tryd.prog 17 #[v] w fun e w' => e = .returned (errV (ticksE l)) ∧ ∃ m, w' = w.drewN m := by
  have HC : Hid (Calls Tryd.prog 21 #[v, .func (.func 22) #[] #[]] w fun e w' => e = .returned (.bool (l.any (fun x => !inTo 10000 x))) ∧ ∃ m, w' = w.drewN m) := ContainsFuncI mtbad_tells l v w h
  obtain ⟨a, cap, rfl, ⟨hm, hm2⟩, _⟩ := h
  by_cases h6 : 60 < l.length
  · have HE : Hid (ticksE l = 4) := by show _ = _; rw [ticksE, if_pos h6]
    go_enter Tryd.func17, Tryd.ntmps17
    go_wp2
    go_ret
    exact ⟨ret_bk (by rw [HE.out]; rfl), 0, rfl⟩
  · have HE : Hid (ticksE l = if l.any (fun x => !inTo 10000 x) then 1 else 0) := ticks_any h6
    generalize l.any (fun x => !inTo 10000 x) = x at *
    cases x
    all_goals
      go_enter Tryd.func17, Tryd.ntmps17
      go_wp2_with fail
      refine HC.out.mono ?_
      rintro e w2 ⟨rfl, m, rfl⟩
      go_wp2
      go_ret
      exact ⟨ret_bk (by rw [HE.out]; rfl), m, rfl⟩
end Ev
end Go.Proofs.YtgacckmgbalggaiDoor
