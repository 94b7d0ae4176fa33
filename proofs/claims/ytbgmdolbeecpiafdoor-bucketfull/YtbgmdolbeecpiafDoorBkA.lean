/- Package bucket's small parts: what is within, what Check and checkTicks tell, and a tick of a bucket that is right. -/
import Derived.Test.YtbgmdolbeecpiafDoorPlains
import Derived.Lib.MinMax
namespace Go.Proofs.YtbgmdolbeecpiafDoor
namespace Ev
open Go.RowKit Fr Ns Ld Fl
set_option linter.unusedSimpArgs false
set_option linter.unusedVariables false

theorem ret_bk {k : Int} {v : Value} (h : v = errV k) : Ending.returned v = .returned (errV k) := by rw [h]
def inR (n a b : Int) : Bool := decide (a ≤ n) && decide (n ≤ b)
theorem inR_1 {n a b : Int} : inR n a b = true ↔ a ≤ n ∧ n ≤ b := by simp [inR]
theorem inR_0 {n a b : Int} : inR n a b = false ↔ n < a ∨ b < n := by simp [inR]; omega
theorem bwithin_any (n a b : Int) (w : World) :
    Calls Tryd.prog 9 #[.int .i64 n, .int .i64 a, .int .i64 b] w fun e w' => e = .returned (.bool (inR n a b)) ∧ w' = w := by
  have HR : Hid (inR n a b = (decide (a ≤ n) && decide (n ≤ b))) := rfl
  by_cases h1 : a ≤ n
  · go_enter Tryd.func9, Tryd.ntmps9
    go_wp2
    go_ret
    exact ⟨ret_bool (by rw [HR.out]; simp [h1]; try omega), rfl⟩
  · go_enter Tryd.func9, Tryd.ntmps9
    go_wp2
    go_ret
    exact ⟨ret_bool (by rw [HR.out]; simp [h1]; try omega), rfl⟩
theorem bwithin_is {n a b : Int} {x : Bool} (h : inR n a b = x) (w : World) :
    Calls Tryd.prog 9 #[.int .i64 n, .int .i64 a, .int .i64 b] w fun e w' => e = .returned (.bool x) ∧ w' = w := by
  rw [← h]; exact bwithin_any n a b w

set_option maxHeartbeats 1000000 in
theorem bcheck_said : BCheckSaid := by
  intro s r h w
  cases h1 : inR s 1 10000 with
  | false =>
    have HE : Hid (bktE s r h = 1) := by have := inR_0.1 h1; show _ = _; rw [bktE, if_pos (by omega)]
    have H1 : Hid (∀ u : World, Calls Tryd.prog 9 #[.int .i64 s, .int .i64 1, .int .i64 10000] u fun e w' => e = .returned (.bool false) ∧ w' = u) := fun u => bwithin_is h1 u
    clear h1
    go_enter Tryd.func5, Tryd.ntmps5
    go_wp2_with fail
    refine (H1.out _).mono ?_
    rintro e w1 ⟨rfl, rfl⟩
    go_wp2
    go_ret
    exact ⟨ret_bk (by rw [HE.out]; rfl), (Below.refl _ _).alloc (Nat.le_refl _) _⟩
  | true =>
    have H1 : Hid (∀ u : World, Calls Tryd.prog 9 #[.int .i64 s, .int .i64 1, .int .i64 10000] u fun e w' => e = .returned (.bool true) ∧ w' = u) := fun u => bwithin_is h1 u
    cases h2 : inR r 0 s with
    | false =>
      have HE : Hid (bktE s r h = 1) := by have := inR_0.1 h2; show _ = _; rw [bktE, if_pos (by omega)]
      have H2 : Hid (∀ u : World, Calls Tryd.prog 9 #[.int .i64 r, .int .i64 0, .int .i64 s] u fun e w' => e = .returned (.bool false) ∧ w' = u) := fun u => bwithin_is h2 u
      clear h1 h2
      go_enter Tryd.func5, Tryd.ntmps5
      go_wp2_with fail
      refine (H1.out _).mono ?_
      rintro e w1 ⟨rfl, rfl⟩
      go_wp2_with fail
      refine (H2.out _).mono ?_
      rintro e w1 ⟨rfl, rfl⟩
      go_wp2
      go_ret
      exact ⟨ret_bk (by rw [HE.out]; rfl), (Below.refl _ _).alloc (Nat.le_refl _) _⟩
    | true =>
      have H2 : Hid (∀ u : World, Calls Tryd.prog 9 #[.int .i64 r, .int .i64 0, .int .i64 s] u fun e w' => e = .returned (.bool true) ∧ w' = u) := fun u => bwithin_is h2 u
      obtain ⟨x, hx⟩ : ∃ x, inR h 0 s = x := ⟨_, rfl⟩
      have HE : Hid (bktE s r h = if x then 0 else 1) := by
        have a1 := inR_1.1 h1
        have a2 := inR_1.1 h2
        cases x with
        | false => have := inR_0.1 hx; show _ = _; rw [bktE, if_pos (by omega)]; rfl
        | true => have := inR_1.1 hx; show _ = _; rw [bktE, if_neg (by omega)]; rfl
      have H3 : Hid (∀ u : World, Calls Tryd.prog 9 #[.int .i64 h, .int .i64 0, .int .i64 s] u fun e w' => e = .returned (.bool x) ∧ w' = u) := fun u => bwithin_is hx u
      clear h1 h2 hx
      cases x
      all_goals
        go_enter Tryd.func5, Tryd.ntmps5
        go_wp2_with fail
        refine (H1.out _).mono ?_
        rintro e w1 ⟨rfl, rfl⟩
        go_wp2_with fail
        refine (H2.out _).mono ?_
        rintro e w1 ⟨rfl, rfl⟩
        go_wp2_with fail
        refine (H3.out _).mono ?_
        rintro e w1 ⟨rfl, rfl⟩
        go_wp2
        go_ret
        exact ⟨ret_bk (by rw [HE.out]; rfl), (Below.refl _ _).alloc (Nat.le_refl _) _⟩

theorem fillH_min (s r h : Int) : fillH s r h = min (h + r) s := by
  unfold fillH; split <;> omega
theorem goes_min (w h : Int) : goes w h = min w h := by
  unfold goes; split <;> omega
set_option maxHeartbeats 1000000 in
theorem bticked_any (s r h : Int) (w : World) (h0 : bktE s r h = 0) :
    Calls Tryd.prog 8 #[.agg #[.int .i64 s, .int .i64 r, .int .i64 h]] w fun e w' => e = .returned (.agg #[.int .i64 s, .int .i64 r, .int .i64 (fillH s r h)]) ∧ Below w.heap.size w w' := by
  have hb := bktE_0.1 h0
  have hwp : IntKind.i64.wrap (h + r) = h + r := by rw [IntKind.wrap_i64]; omega
  rw [fillH_min]
  clear hb h0
  go_enter Tryd.func8, Tryd.ntmps8
  go_wp2
  refine bodyPost_ret (v := .agg #[.int .i64 s, .int .i64 r, .int .i64 (min (h + r) s)]) (by simp [results, Tryd.results8, go_sem]) rfl ⟨rfl, ?_⟩
  repeat (first | exact Below.refl _ _ | refine Below.setCell ?_ (by simp) _ | refine Below.alloc ?_ (by simp) _ | refine Below.drew ?_)

theorem ticks_any {l : List Int} (h6 : ¬ 60 < l.length) : ticksE l = if l.any (fun x => !inTo 10000 x) then 1 else 0 := by
  have e : l.any (fun x => !inTo 10000 x) = !l.all (inTo 10000) := by simp [List.any_eq_not_all_not]
  rw [ticksE, if_neg h6, e]
  cases l.all (inTo 10000) <;> rfl

end Ev
end Go.Proofs.YtbgmdolbeecpiafDoor
