/- The law AimdNone returns true for every input, from what is asked of package aimd's calls: of no tick nothing happens. -/
import Derived.Test.YtdafgbjkldidfaePlains
import Derived.Test.YtdafgbjkldidfaeSameI
import Derived.Deep.QuietTactic
import Derived.BigQuiet
namespace Go.Proofs.Ytdafgbjkldidfae
namespace Ev
open Go.RowKit Fr Ns Ld Fl
set_option linter.unusedSimpArgs false
set_option linter.unusedVariables false

theorem run_0 (l : List Int) (limit up : Int) : (runE l limit up 0 = 0 ∧ runL l limit up 0 = l ∧ runC l limit up 0 = 0 ∧ runE l limit up 1 = stepE l limit up ∧ (stepE l limit up = 0 → runL l limit up 1 = stepL l limit up)) ∨ (runE l limit up 0 ≠ 0 ∧ runE l limit up 1 ≠ 0 ∧ stepE l limit up ≠ 0) := by
  by_cases h1 : few l 10000 = 0
  · by_cases h2 : knobs limit up = true
    · left
      refine ⟨by rw [runE, if_neg (by decide), if_pos h1, if_pos h2]; rfl, rfl, rfl, ?_, fun he => ?_⟩
      · rw [runE, if_neg (by decide), if_pos h1, if_pos h2]
        rcases stepE_kind h1 h2 with he | he
        · have : (stAt l limit up (1 : Int).toNat).isSome = true := by
            show (stAt l limit up 1).isSome = true
            simp [stAt, oneO, he]
          rw [if_pos this, he]
        · have : ¬ (stAt l limit up (1 : Int).toNat).isSome = true := by
            show ¬ (stAt l limit up 1).isSome = true
            simp [stAt, oneO, he]
          rw [if_neg this, he]
      · show ((stAt l limit up 1).getD ([], 0)).1 = _
        simp [stAt, oneO, he]
    · right
      refine ⟨?_, ?_, ?_⟩
      · rw [runE, if_neg (by decide), if_pos h1, if_neg h2]; decide
      · rw [runE, if_neg (by decide), if_pos h1, if_neg h2]; decide
      · rw [stepE, if_pos h1, if_neg h2]; decide
  · right
    refine ⟨?_, ?_, ?_⟩
    · rw [runE, if_neg (by decide), if_neg h1]; exact h1
    · rw [runE, if_neg (by decide), if_neg h1]; exact h1
    · rw [stepE, if_neg h1]; exact h1

set_option maxRecDepth 100000 in
set_option maxHeartbeats 8000000 in
theorem aimdNone_walk (hS : AStepSaid) (hR : ARunSaid) (hC : ACutsSaid) (l : List Int) (limit up : Int) (v : Value) (w : World) (hv : IntsAt (fun b => b < w.heap.size) w v l) :
    Calls Try.prog 5 #[v, .int .i64 limit, .int .i64 up] w fun e w' => e = .returned (.bool true) ∧ Below w.heap.size w w' := by
  have HS : Hid (∀ u : World, Below w.heap.size w u → Calls Try.prog 11 #[v, .int .i64 limit, .int .i64 up] u fun e w' => ∃ y, e = .returned (.tuple #[y, errV (stepE l limit up)]) ∧ IntsAt (fun b => u.heap.size ≤ b) w' y (okL (stepE l limit up) (stepL l limit up)) ∧ Below u.heap.size u w') := fun u hu => hS _ l limit up v u (hv.later hu)
  have HR0 : Hid (∀ u : World, Below w.heap.size w u → Calls Try.prog 12 #[v, .int .i64 limit, .int .i64 up, .int .i64 0] u fun e w' => ∃ y, e = .returned (.tuple #[y, errV (runE l limit up 0)]) ∧ IntsAt (fun b => u.heap.size ≤ b) w' y (okL (runE l limit up 0) (runL l limit up 0)) ∧ Below u.heap.size u w') := fun u hu => hR _ l limit up 0 v u (hv.later hu)
  have HR1 : Hid (∀ u : World, Below w.heap.size w u → Calls Try.prog 12 #[v, .int .i64 limit, .int .i64 up, .int .i64 1] u fun e w' => ∃ y, e = .returned (.tuple #[y, errV (runE l limit up 1)]) ∧ IntsAt (fun b => u.heap.size ≤ b) w' y (okL (runE l limit up 1) (runL l limit up 1)) ∧ Below u.heap.size u w') := fun u hu => hR _ l limit up 1 v u (hv.later hu)
  have HC : Hid (∀ u : World, Below w.heap.size w u → Calls Try.prog 13 #[v, .int .i64 limit, .int .i64 up, .int .i64 0] u fun e w' => e = .returned (.tuple #[.int .i64 (okI (runE l limit up 0) (runC l limit up 0 : Int)), errV (runE l limit up 0)]) ∧ Below u.heap.size u w') := fun u hu => hC _ l limit up 0 v u (hv.later hu)
  have HIn : Hid (∀ (x y : Value) (g : List Int) (u : World), IntsAt (fun _ => True) u x g → IntsAt (fun _ => True) u y g → Calls Try.prog 16 #[x, y] u fun e w' => e = .returned (.bool true) ∧ ∃ n, w' = u.drewN n) := fun x y g u hx hy => by
    have := SInts_any g g x y u hx hy
    rw [show eqI g g = true by simp [eqI]] at this
    exact this
  have HVv : Hid (∀ u, Below w.heap.size w u → IntsAt (fun _ => True) u v l) := fun u hu => (hv.later hu).keep (fun _ _ _ => rfl) (fun _ _ _ => trivial)
  obtain ⟨a, cap, rfl, _⟩ := hv
  clear hS hR hC
  rcases run_0 l limit up with ⟨h1, h2, h3, h4, h5⟩ | ⟨h1, h2, h3⟩
  · rw [h1, h2, errV_0, okL_0] at HR0
    rw [h1, h3, errV_0, okI_0] at HC
    rw [h4] at HR1
    have HL : Hid (okL (stepE l limit up) (runL l limit up 1) = okL (stepE l limit up) (stepL l limit up)) := by
      by_cases he : stepE l limit up = 0
      · show _ = _; rw [h5 he]
      · show _ = _; rw [okL_ne he, okL_ne he]
    rw [HL.out] at HR1
    generalize okL (stepE l limit up) (stepL l limit up) = SL at *
    have hcs : errV (stepE l limit up) = .nilIface ∨ ∃ k, errV (stepE l limit up) = .iface 44 (.int .i64 k) := by
      by_cases he : stepE l limit up = 0
      · rw [he, errV_0]; exact .inl rfl
      · exact .inr ⟨_, errV_ne he⟩
    generalize errV (stepE l limit up) = ev at *
    clear h1 h2 h3 h4 h5 HL
    rcases hcs with rfl | ⟨k, rfl⟩
    all_goals
      go_enter Try.func5, Try.ntmps5
      go_wp2_with fail
      refine (HR0.out _ (Below.refl _ _)).mono ?_
      rintro e w1 ⟨y1, rfl, hy1, hw1⟩
      have B1 : Hid (Below w.heap.size w w1) := hw1
      have Y1 : Hid (IntsAt (fun _ => True) w1 y1 l) := hy1.keep (fun _ _ _ => rfl) (fun _ _ _ => trivial)
      obtain ⟨a1, n1, c1, rfl⟩ : ∃ a n c, y1 = .slice a n c := by obtain ⟨a, c, e, _⟩ := hy1; exact ⟨_, _, _, e⟩
      clear hw1 hy1
      go_wp2_with fail
      refine (HR1.out _ B1.out).mono ?_
      rintro e w2 ⟨y2, rfl, hy2, hw2⟩
      have B2 : Hid (Below w.heap.size w w2) := Bel.call B1.out (Nat.le_refl _) hw2
      have Y12 : Hid (IntsAt (fun _ => True) w2 (.slice a1 n1 c1) l) := Y1.out.later hw2
      have Y2 : Hid (IntsAt (fun _ => True) w2 y2 SL) := hy2.keep (fun _ _ _ => rfl) (fun _ _ _ => trivial)
      obtain ⟨a2, n2, c2, rfl⟩ : ∃ a n c, y2 = .slice a n c := by obtain ⟨a, c, e, _⟩ := hy2; exact ⟨_, _, _, e⟩
      clear hw2 hy2
      go_wp2_with fail
      refine (HS.out _ B2.out).mono ?_
      rintro e w3 ⟨y3, rfl, hy3, hw3⟩
      have B3 : Hid (Below w.heap.size w w3) := Bel.call B2.out (Nat.le_refl _) hw3
      have Y13 : Hid (IntsAt (fun _ => True) w3 (.slice a1 n1 c1) l) := Y12.out.later hw3
      have Y23 : Hid (IntsAt (fun _ => True) w3 (.slice a2 n2 c2) SL) := Y2.out.later hw3
      have Y3 : Hid (IntsAt (fun _ => True) w3 y3 SL) := hy3.keep (fun _ _ _ => rfl) (fun _ _ _ => trivial)
      obtain ⟨a3, n3, c3, rfl⟩ : ∃ a n c, y3 = .slice a n c := by obtain ⟨a, c, e, _⟩ := hy3; exact ⟨_, _, _, e⟩
      clear hw3 hy3
      go_wp2_with fail
      refine (HC.out _ B3.out).mono ?_
      rintro e w4 ⟨rfl, hw4⟩
      have B4 : Hid (Below w.heap.size w w4) := Bel.call B3.out (Nat.le_refl _) hw4
      have HI1 : Hid (∀ n, Calls Try.prog 16 #[.slice a1 n1 c1, .slice a l.length cap] (w4.drewN n) fun e w' => e = .returned (.bool true) ∧ ∃ m, w' = (w4.drewN n).drewN m) := fun n => HIn.out _ _ l _ ((Y13.out.later hw4).later (below_drewN (Below.refl _ _) _)) (HVv.out _ (below_drewN B4.out _))
      have HI2 : Hid (∀ n, Calls Try.prog 16 #[.slice a2 n2 c2, .slice a3 n3 c3] (w4.drewN n) fun e w' => e = .returned (.bool true) ∧ ∃ m, w' = (w4.drewN n).drewN m) := fun n => HIn.out _ _ SL _ ((Y23.out.later hw4).later (below_drewN (Below.refl _ _) _)) ((Y3.out.later hw4).later (below_drewN (Below.refl _ _) _))
      clear hw4
      go_wp2_with fail
      go_quiet (first | (go_at_call_of 16 (Value.slice a1 n1 c1); exact Calls.quiet_of (HI1.out _)) | (go_at_call_of 16 (Value.slice a2 n2 c2); exact Calls.quiet_of (HI2.out _)) | (go_at_call 16; first | exact Calls.quiet_of (HI1.out _) | exact Calls.quiet_of (HI2.out _)))
      have B5 : Hid (Below w.heap.size w (w4.drewN nq)) := below_drewN B4.out _
      generalize w4.drewN nq = w5 at *
      go_wp2
      go_ret
      exact ⟨Ns.ret_bool rfl, B5.out⟩
  · have HE0 : Hid (errV (runE l limit up 0) = .iface 44 (.int .i64 (runE l limit up 0))) := errV_ne h1
    have HE1 : Hid (errV (runE l limit up 1) = .iface 44 (.int .i64 (runE l limit up 1))) := errV_ne h2
    have HE2 : Hid (errV (stepE l limit up) = .iface 44 (.int .i64 (stepE l limit up))) := errV_ne h3
    rw [HE0.out] at HR0
    rw [HE1.out] at HR1
    rw [HE2.out] at HS
    generalize okL (stepE l limit up) (stepL l limit up) = SL at *
    generalize okL (runE l limit up 0) (runL l limit up 0) = R0 at *
    generalize okL (runE l limit up 1) (runL l limit up 1) = R1 at *
    generalize runE l limit up 0 = e0 at *
    generalize runE l limit up 1 = e1 at *
    generalize stepE l limit up = e2 at *
    clear h1 h2 h3 HE0 HE1 HE2
    go_enter Try.func5, Try.ntmps5
    go_wp2_with fail
    refine (HR0.out _ (Below.refl _ _)).mono ?_
    rintro e w1 ⟨y1, rfl, hy1, hw1⟩
    have B1 : Hid (Below w.heap.size w w1) := hw1
    obtain ⟨a1, n1, c1, rfl⟩ : ∃ a n c, y1 = .slice a n c := by obtain ⟨a, c, e, _⟩ := hy1; exact ⟨_, _, _, e⟩
    clear hw1 hy1
    go_wp2_with fail
    refine (HR1.out _ B1.out).mono ?_
    rintro e w2 ⟨y2, rfl, hy2, hw2⟩
    have B2 : Hid (Below w.heap.size w w2) := Bel.call B1.out (Nat.le_refl _) hw2
    obtain ⟨a2, n2, c2, rfl⟩ : ∃ a n c, y2 = .slice a n c := by obtain ⟨a, c, e, _⟩ := hy2; exact ⟨_, _, _, e⟩
    clear hw2 hy2
    go_wp2_with fail
    refine (HS.out _ B2.out).mono ?_
    rintro e w3 ⟨y3, rfl, hy3, hw3⟩
    have B3 : Hid (Below w.heap.size w w3) := Bel.call B2.out (Nat.le_refl _) hw3
    obtain ⟨a3, n3, c3, rfl⟩ : ∃ a n c, y3 = .slice a n c := by obtain ⟨a, c, e, _⟩ := hy3; exact ⟨_, _, _, e⟩
    clear hw3 hy3
    go_wp2
    go_ret
    exact ⟨Ns.ret_bool rfl, B3.out⟩
end Ev
end Go.Proofs.Ytdafgbjkldidfae
