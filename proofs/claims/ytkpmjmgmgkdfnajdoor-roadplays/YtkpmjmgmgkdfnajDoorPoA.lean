/- Package pool's small parts: what is within, what may come, what Check and checkTicks tell, and a tick of a pool that is right. -/
import Derived.Test.YtkpmjmgmgkdfnajDoorPlains
import Derived.Lib.MinMax
namespace Go.Proofs.YtkpmjmgmgkdfnajDoor
namespace Ev
open Go.RowKit Fr Ns Ld Fl
set_option linter.unusedSimpArgs false
set_option linter.unusedVariables false

theorem pwithin_any (n a b : Int) (w : World) :
    Calls Tryd.prog 35 #[.int .i64 n, .int .i64 a, .int .i64 b] w fun e w' => e = .returned (.bool (inR n a b)) ∧ w' = w := by
  have HR : Hid (inR n a b = (decide (a ≤ n) && decide (n ≤ b))) := rfl
  by_cases h1 : a ≤ n
  · go_enter Tryd.func35, Tryd.ntmps35
    go_wp2
    go_ret
    exact ⟨ret_bool (by rw [HR.out]; simp [h1]; try omega), rfl⟩
  · go_enter Tryd.func35, Tryd.ntmps35
    go_wp2
    go_ret
    exact ⟨ret_bool (by rw [HR.out]; simp [h1]; try omega), rfl⟩
theorem pwithin_is {n a b : Int} {x : Bool} (h : inR n a b = x) (w : World) :
    Calls Tryd.prog 35 #[.int .i64 n, .int .i64 a, .int .i64 b] w fun e w' => e = .returned (.bool x) ∧ w' = w := by
  rw [← h]; exact pwithin_any n a b w

set_option maxHeartbeats 1000000 in
theorem pcheck_said : PCheckSaid := by
  intro s r h w
  cases h1 : inR s 0 10000 with
  | false =>
    have HE : Hid (poolE s r h = 1) := by have := inR_0.1 h1; show _ = _; rw [poolE, if_pos (by omega)]
    have H1 : Hid (∀ u : World, Calls Tryd.prog 35 #[.int .i64 s, .int .i64 0, .int .i64 10000] u fun e w' => e = .returned (.bool false) ∧ w' = u) := fun u => pwithin_is h1 u
    clear h1
    go_enter Tryd.func28, Tryd.ntmps28
    go_wp2_with fail
    refine (H1.out _).mono ?_
    rintro e w1 ⟨rfl, rfl⟩
    go_wp2
    go_ret
    exact ⟨ret_bk (by rw [HE.out]; rfl), (Below.refl _ _).alloc (Nat.le_refl _) _⟩
  | true =>
    have H1 : Hid (∀ u : World, Calls Tryd.prog 35 #[.int .i64 s, .int .i64 0, .int .i64 10000] u fun e w' => e = .returned (.bool true) ∧ w' = u) := fun u => pwithin_is h1 u
    cases h2 : inR r 1 1000 with
    | false =>
      have HE : Hid (poolE s r h = 1) := by have := inR_0.1 h2; show _ = _; rw [poolE, if_pos (by omega)]
      have H2 : Hid (∀ u : World, Calls Tryd.prog 35 #[.int .i64 r, .int .i64 1, .int .i64 1000] u fun e w' => e = .returned (.bool false) ∧ w' = u) := fun u => pwithin_is h2 u
      clear h1 h2
      go_enter Tryd.func28, Tryd.ntmps28
      go_wp2_with fail
      refine (H1.out _).mono ?_
      rintro e w1 ⟨rfl, rfl⟩
      go_wp2_with fail
      refine (H2.out _).mono ?_
      rintro e w1 ⟨rfl, rfl⟩
      go_wp2
      go_ret
      exact ⟨ret_bk (by rw [HE.out]; rfl), (Below.refl _ _).alloc (Nat.le_refl _) _⟩
    | true =>
      have H2 : Hid (∀ u : World, Calls Tryd.prog 35 #[.int .i64 r, .int .i64 1, .int .i64 1000] u fun e w' => e = .returned (.bool true) ∧ w' = u) := fun u => pwithin_is h2 u
      obtain ⟨x, hx⟩ : ∃ x, inR h 0 s = x := ⟨_, rfl⟩
      have HE : Hid (poolE s r h = if x then 0 else 1) := by
        have a1 := inR_1.1 h1
        have a2 := inR_1.1 h2
        cases x with
        | false => have := inR_0.1 hx; show _ = _; rw [poolE, if_pos (by omega)]; rfl
        | true => have := inR_1.1 hx; show _ = _; rw [poolE, if_neg (by omega)]; rfl
      have H3 : Hid (∀ u : World, Calls Tryd.prog 35 #[.int .i64 h, .int .i64 0, .int .i64 s] u fun e w' => e = .returned (.bool x) ∧ w' = u) := fun u => pwithin_is hx u
      clear h1 h2 hx
      cases x
      all_goals
        go_enter Tryd.func28, Tryd.ntmps28
        go_wp2_with fail
        refine (H1.out _).mono ?_
        rintro e w1 ⟨rfl, rfl⟩
        go_wp2_with fail
        refine (H2.out _).mono ?_
        rintro e w1 ⟨rfl, rfl⟩
        go_wp2_with fail
        refine (H3.out _).mono ?_
        rintro e w1 ⟨rfl, rfl⟩
        go_wp2
        go_ret
        exact ⟨ret_bk (by rw [HE.out]; rfl), (Below.refl _ _).alloc (Nat.le_refl _) _⟩

theorem pmay_any (n : Int) (w : World) :
    Calls Tryd.prog 31 #[.int .i64 n] w fun e w' => e = .returned (.bool (inTo 10000 n)) ∧ w' = w := by
  have HM : Hid (∀ u : World, Calls Tryd.prog 35 #[.int .i64 n, .int .i64 0, .int .i64 10000] u fun e w' => e = .returned (.bool (inTo 10000 n)) ∧ w' = u) := fun u => pwithin_any n 0 10000 u
  go_enter Tryd.func31, Tryd.ntmps31
  go_wp2_with fail
  refine (HM.out _).mono ?_
  rintro e w' ⟨rfl, rfl⟩
  go_wp2
  go_ret
  exact ⟨rfl, rfl⟩
theorem wentP_min (c n : Int) : wentP c n = min n c := by
  unfold wentP; split <;> omega
theorem waitP_min (s c n : Int) : waitP s c n = min (n - min n c) s := by
  unfold waitP; rw [wentP_min]; split <;> omega
theorem lostP_min {s c n : Int} : lostP s c n = n - min n c - min (n - min n c) s := by
  unfold lostP; rw [wentP_min]; split <;> omega
set_option maxHeartbeats 1000000 in
theorem pticked_any (s r h m : Int) (w : World) (h0 : poolE s r h = 0) (m0 : 0 ≤ m) (m1 : m ≤ 10000) :
    Calls Tryd.prog 32 #[.agg #[.int .i64 s, .int .i64 r, .int .i64 h], .int .i64 m] w fun e w' => e = .returned (.tuple #[.agg #[.int .i64 s, .int .i64 r, .int .i64 (waitP s r (h + m))], .agg #[.int .i64 (wentP r (h + m)), .int .i64 (lostP s r (h + m)), .int .i64 (waitP s r (h + m))]]) ∧ Below w.heap.size w w' := by
  have hb := poolE_0.1 h0
  have hwp : IntKind.i64.wrap (h + m) = h + m := by rw [IntKind.wrap_i64]; omega
  have hwq : IntKind.i64.wrap (h + m - min (h + m) r) = h + m - min (h + m) r := by rw [IntKind.wrap_i64]; omega
  have hws : IntKind.i64.wrap (h + m - min (h + m) r - min (h + m - min (h + m) r) s) = h + m - min (h + m) r - min (h + m - min (h + m) r) s := by rw [IntKind.wrap_i64]; omega
  rw [wentP_min, waitP_min, lostP_min]
  clear hb h0 m0 m1
  go_enter Tryd.func32, Tryd.ntmps32
  go_wp2_with fail
  go_region
  go_wp2
  refine bodyPost_ret (v := .tuple #[.agg #[.int .i64 s, .int .i64 r, .int .i64 (min (h + m - min (h + m) r) s)], .agg #[.int .i64 (min (h + m) r), .int .i64 (h + m - min (h + m) r - min (h + m - min (h + m) r) s), .int .i64 (min (h + m - min (h + m) r) s)]]) (by simp [results, Tryd.results32, go_sem]) rfl ⟨rfl, ?_⟩
  repeat (first | exact Below.refl _ _ | refine Below.setCell ?_ (by simp) _ | refine Below.alloc ?_ (by simp; try omega) _ | refine Below.drew ?_)

end Ev
end Go.Proofs.YtkpmjmgmgkdfnajDoor
