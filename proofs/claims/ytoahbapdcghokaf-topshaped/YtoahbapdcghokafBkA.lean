/- Package bucket's small parts: what is within, what Check and checkTicks tell, and a tick of a bucket that is right. -/
import Derived.Test.YtoahbapdcghokafAnyF
import Derived.Test.YtoahbapdcghokafPlains
import Derived.Lib.MinMax
namespace Go.Proofs.Ytoahbapdcghokaf
namespace Ev
open Go.RowKit Fr Ns Ld Fl
set_option linter.unusedSimpArgs false
set_option linter.unusedVariables false

theorem bwithin_any (n a b : Int) (w : World) :
    Calls Try.prog 21 #[.int .i64 n, .int .i64 a, .int .i64 b] w fun e w' => e = .returned (.bool (inR n a b)) ∧ w' = w := by
  have HR : Hid (inR n a b = (decide (a ≤ n) && decide (n ≤ b))) := rfl
  by_cases h1 : a ≤ n
  · go_enter Try.func21, Try.ntmps21
    go_wp2
    go_ret
    exact ⟨ret_bool (by rw [HR.out]; simp [h1]; try omega), rfl⟩
  · go_enter Try.func21, Try.ntmps21
    go_wp2
    go_ret
    exact ⟨ret_bool (by rw [HR.out]; simp [h1]; try omega), rfl⟩
theorem bwithin_is {n a b : Int} {x : Bool} (h : inR n a b = x) (w : World) :
    Calls Try.prog 21 #[.int .i64 n, .int .i64 a, .int .i64 b] w fun e w' => e = .returned (.bool x) ∧ w' = w := by
  rw [← h]; exact bwithin_any n a b w

set_option maxHeartbeats 1000000 in
theorem bcheck_said : BCheckSaid := by
  intro s r h w
  cases h1 : inR s 1 10000 with
  | false =>
    have HE : Hid (bktE s r h = 1) := by have := inR_0.1 h1; show _ = _; rw [bktE, if_pos (by omega)]
    have H1 : Hid (∀ u : World, Calls Try.prog 21 #[.int .i64 s, .int .i64 1, .int .i64 10000] u fun e w' => e = .returned (.bool false) ∧ w' = u) := fun u => bwithin_is h1 u
    clear h1
    go_enter Try.func13, Try.ntmps13
    go_wp2_with fail
    refine (H1.out _).mono ?_
    rintro e w1 ⟨rfl, rfl⟩
    go_wp2
    go_ret
    exact ⟨ret_bk (by rw [HE.out]; rfl), (Below.refl _ _).alloc (Nat.le_refl _) _⟩
  | true =>
    have H1 : Hid (∀ u : World, Calls Try.prog 21 #[.int .i64 s, .int .i64 1, .int .i64 10000] u fun e w' => e = .returned (.bool true) ∧ w' = u) := fun u => bwithin_is h1 u
    cases h2 : inR r 0 s with
    | false =>
      have HE : Hid (bktE s r h = 1) := by have := inR_0.1 h2; show _ = _; rw [bktE, if_pos (by omega)]
      have H2 : Hid (∀ u : World, Calls Try.prog 21 #[.int .i64 r, .int .i64 0, .int .i64 s] u fun e w' => e = .returned (.bool false) ∧ w' = u) := fun u => bwithin_is h2 u
      clear h1 h2
      go_enter Try.func13, Try.ntmps13
      go_wp2_with fail
      refine (H1.out _).mono ?_
      rintro e w1 ⟨rfl, rfl⟩
      go_wp2_with fail
      refine (H2.out _).mono ?_
      rintro e w1 ⟨rfl, rfl⟩
      go_wp2
      go_ret
      exact ⟨ret_bk (by rw [HE.out]; rfl), (Below.refl _ _).alloc (Nat.le_refl _) _⟩
    | true =>
      have H2 : Hid (∀ u : World, Calls Try.prog 21 #[.int .i64 r, .int .i64 0, .int .i64 s] u fun e w' => e = .returned (.bool true) ∧ w' = u) := fun u => bwithin_is h2 u
      obtain ⟨x, hx⟩ : ∃ x, inR h 0 s = x := ⟨_, rfl⟩
      have HE : Hid (bktE s r h = if x then 0 else 1) := by
        have a1 := inR_1.1 h1
        have a2 := inR_1.1 h2
        cases x with
        | false => have := inR_0.1 hx; show _ = _; rw [bktE, if_pos (by omega)]; rfl
        | true => have := inR_1.1 hx; show _ = _; rw [bktE, if_neg (by omega)]; rfl
      have H3 : Hid (∀ u : World, Calls Try.prog 21 #[.int .i64 h, .int .i64 0, .int .i64 s] u fun e w' => e = .returned (.bool x) ∧ w' = u) := fun u => bwithin_is hx u
      clear h1 h2 hx
      cases x
      all_goals
        go_enter Try.func13, Try.ntmps13
        go_wp2_with fail
        refine (H1.out _).mono ?_
        rintro e w1 ⟨rfl, rfl⟩
        go_wp2_with fail
        refine (H2.out _).mono ?_
        rintro e w1 ⟨rfl, rfl⟩
        go_wp2_with fail
        refine (H3.out _).mono ?_
        rintro e w1 ⟨rfl, rfl⟩
        go_wp2
        go_ret
        exact ⟨ret_bk (by rw [HE.out]; rfl), (Below.refl _ _).alloc (Nat.le_refl _) _⟩

theorem fillH_min (s r h : Int) : fillH s r h = min (h + r) s := by
  unfold fillH; split <;> omega
theorem goes_min (w h : Int) : goes w h = min w h := by
  unfold goes; split <;> omega
set_option maxHeartbeats 1000000 in
theorem bticked_any (s r h : Int) (w : World) (h0 : bktE s r h = 0) :
    Calls Try.prog 15 #[.agg #[.int .i64 s, .int .i64 r, .int .i64 h]] w fun e w' => e = .returned (.agg #[.int .i64 s, .int .i64 r, .int .i64 (fillH s r h)]) ∧ Below w.heap.size w w' := by
  have hb := bktE_0.1 h0
  have hwp : IntKind.i64.wrap (h + r) = h + r := by rw [IntKind.wrap_i64]; omega
  rw [fillH_min]
  clear hb h0
  go_enter Try.func15, Try.ntmps15
  go_wp2
  refine bodyPost_ret (v := .agg #[.int .i64 s, .int .i64 r, .int .i64 (min (h + r) s)]) (by simp [results, Try.results15, go_sem]) rfl ⟨rfl, ?_⟩
  repeat (first | exact Below.refl _ _ | refine Below.setCell ?_ (by simp) _ | refine Below.alloc ?_ (by simp) _ | refine Below.drew ?_)

theorem bbad_tells : TellsI 23 (fun x => !inTo 10000 x) := by
  refine ⟨enters Try.func23 (by kernel_rfl) (by kernel_rfl), fun x w => ?_⟩
  have HM : Hid (∀ u : World, Calls Try.prog 21 #[.int .i64 x, .int .i64 0, .int .i64 10000] u fun e w' => e = .returned (.bool (inTo 10000 x)) ∧ w' = u) := fun u => bwithin_any x 0 10000 u
  go_enter Try.func23, Try.ntmps23
  go_wp2_with fail
  refine (HM.out _).mono ?_
  rintro e w' ⟨rfl, rfl⟩
  go_wp2
  go_ret
  exact ⟨rfl, 0, rfl⟩
set_option maxHeartbeats 1000000 in
theorem bticks_any {Q : Nat → Prop} (l : List Int) (v : Value) (w : World) (h : IntsAt Q w v l) :
    Calls Try.prog 14 #[v] w fun e w' => e = .returned (errV (ticksE l)) ∧ ∃ m, w' = w.drewN m := by
  have HC : Hid (Calls Try.prog 22 #[v, .func (.func 23) #[] #[]] w fun e w' => e = .returned (.bool (l.any (fun x => !inTo 10000 x))) ∧ ∃ m, w' = w.drewN m) := ContainsFuncI bbad_tells l v w h
  obtain ⟨a, cap, rfl, ⟨hm, hm2⟩, _⟩ := h
  by_cases h6 : 60 < l.length
  · have HE : Hid (ticksE l = 4) := by show _ = _; rw [ticksE, if_pos h6]
    go_enter Try.func14, Try.ntmps14
    go_wp2
    go_ret
    exact ⟨ret_bk (by rw [HE.out]; rfl), 0, rfl⟩
  · have HE : Hid (ticksE l = if l.any (fun x => !inTo 10000 x) then 1 else 0) := ticks_any h6
    generalize l.any (fun x => !inTo 10000 x) = x at *
    cases x
    all_goals
      go_enter Try.func14, Try.ntmps14
      go_wp2_with fail
      refine HC.out.mono ?_
      rintro e w2 ⟨rfl, m, rfl⟩
      go_wp2
      go_ret
      exact ⟨ret_bk (by rw [HE.out]; rfl), m, rfl⟩
end Ev
end Go.Proofs.Ytoahbapdcghokaf
