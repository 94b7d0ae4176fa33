/- The library's IndexFunc and ContainsFunc at a slice of int, with any test that tells and changes nothing. -/
import Derived.Test.YtpnmmmlckdkcdakGreatDoorPlains
namespace Go.Proofs.YtpnmmmlckdkcdakGreatDoor
namespace Ev
open Go.RowKit Ns
set_option linter.unusedSimpArgs false
set_option linter.unusedVariables false

/-- the function g tells p of an int, and changes nothing -/
def TellsI (g : Nat) (p : Int → Bool) : Prop := (∀ (args : Array Value) (w : World), (callFunc g args).run Tryz.prog w = .ok (.enter g args) w) ∧
  ∀ (x : Int) (u : World), Calls Tryz.prog g #[.int .i64 x] u fun e w' => e = .returned (.bool (p x)) ∧ ∃ m, w' = u.drewN m
theorem enters {g : Nat} {fn : Func} (hf : Tryz.prog.funcs[g]? = some fn) (hname : (fn.name == "runtime.NumGoroutine") = false) (hb : fn.body.isNone = false) (args : Array Value) (w : World) : (callFunc g args).run Tryz.prog w = .ok (.enter g args) w := by
  have h1 : ¬ fn.name = "runtime.NumGoroutine" := by simpa using hname
  have h2 : ¬ fn.body = none := by cases hx : fn.body <;> simp_all
  simp [callFunc, hf, h1, h2, go_sem]
/-- what changes nothing changes no old memory -/
theorem drawn {f : Nat} {args : Array Value} {u : World} {R : Ending → Prop} (h : Calls Tryz.prog f args u fun e w' => R e ∧ ∃ m, w' = u.drewN m) : Calls Tryz.prog f args u fun e w' => R e ∧ Below u.heap.size u w' := by
  refine h.mono ?_
  rintro e w' ⟨he, m, rfl⟩
  exact ⟨he, below_drewN (Below.refl _ _) _⟩
theorem any_step {l : List Int} {p : Int → Bool} {k : Nat} (h : k < l.length) : (l.take (k + 1)).any p = ((l.take k).any p || p (l.getD k 0)) := by
  rw [take_snoc l k h 0, List.any_append]
  simp
theorem drewN_drewN (w : World) (m n : Nat) : ∃ k, (w.drewN m).drewN n = w.drewN k := ⟨n + m, by simp [World.drewN, Nat.add_comm, Nat.add_left_comm]⟩

set_option maxHeartbeats 400000 in
theorem IndexFuncI {Q : Nat → Prop} {g : Nat} {p : Int → Bool} (hp : TellsI g p) (l : List Int) (v : Value) (w : World) (h : IntsAt Q w v l) :
    Calls Tryz.prog 67 #[v, .func (.func g) #[] #[]] w fun e w' => ∃ j : Int, e = .returned (.int .i64 j) ∧ decide (0 ≤ j) = l.any p ∧ ∃ m, w' = w.drewN m := by
  obtain ⟨a, cap, rfl, ⟨hm, hm2⟩, h⟩ := h
  obtain ⟨hen, hp⟩ := hp
  rcases h with rfl | ⟨b, off, rfl, h, hQ⟩
  · go_enter Tryz.func67, Tryz.ntmps67
    go_wp2
    go_loop [5, 8] (fun _ i => i = .int .i64 0) (fun _ _ => 0)
    case atStart => rfl
    case round =>
      subst hrel
      go_wp2
      go_ret
      exact ⟨_, rfl, by simp, 0, rfl⟩
  · obtain ⟨H⟩ : Nonempty (Hid (∀ i, i < l.length → w.cell? ⟨b, off + i, none⟩ = some (.int .i64 (l.getD i 0)))) := ⟨h⟩
    clear h
    go_enter Tryz.func67, Tryz.ntmps67
    go_wp2
    go_loopw [5, 8] (fun _ i wr => ∃ k m : Nat, k ≤ l.length ∧ i = .int .i64 k ∧ Hid (wr = w.drewN m) ∧ Hid ((l.take k).any p = false)) (fun _ i _ => l.length - (intOf i).toNat)
    case atStart => exact ⟨0, 0, by omega, rfl, rfl, rfl⟩
    case round =>
      obtain ⟨k, m, hk, rfl, hw, hn⟩ := hrel
      by_cases hlt : k < l.length
      · have hc : wr.cell? ⟨b, off + k, none⟩ = some (.int .i64 (l.getD k 0)) := by rw [hw.out]; exact H.out k hlt
        have hs : Hid ((l.take (k + 1)).any p = ((l.take k).any p || p (l.getD k 0))) := any_step hlt
        have hme : Hid (l.getD k 0 ∈ l) := getD_mem l k hlt 0
        generalize l.getD k 0 = x at hc hs hme
        have HC : Hid (∀ u : World, Calls Tryz.prog g #[.int .i64 x] u fun e w' => e = .returned (.bool (p x)) ∧ ∃ m, w' = u.drewN m) := fun u => hp x u
        cases hx : p x with
        | true =>
          have HR : Hid (l.any p = true) := List.any_eq_true.2 ⟨x, hme.out, hx⟩
          rw [hx] at HC
          clear hx
          go_wp2_with fail
          refine (HC.out _).mono ?_
          rintro e w' ⟨rfl, m', rfl⟩
          go_wp2
          go_ret
          exact ⟨_, rfl, by rw [HR.out]; simp, by rw [hw.out]; exact drewN_drewN _ _ _⟩
        | false =>
          have HR : Hid ((l.take (k + 1)).any p = false) := by show _ = _; rw [hs.out, hn.out, hx]; rfl
          rw [hx] at HC
          clear hx
          go_wp2_with fail
          refine (HC.out _).mono ?_
          rintro e w' ⟨rfl, m', rfl⟩
          go_wp2
          go_roundw
          case rel =>
            obtain ⟨m2, e2⟩ := drewN_drewN w m m'
            exact ⟨k + 1, m2, by omega, by go_num, by show _ = _; rw [hw.out]; exact e2, HR⟩
          case measure => simp [intOf]; omega
      · go_wp2
        go_ret
        refine ⟨_, rfl, ?_, m, hw.out⟩
        have := hn.out
        rw [List.take_of_length_le (by omega)] at this
        rw [this]
        rfl

theorem ContainsFuncI {Q : Nat → Prop} {g : Nat} {p : Int → Bool} (hp : TellsI g p) (l : List Int) (v : Value) (w : World) (h : IntsAt Q w v l) :
    Calls Tryz.prog 34 #[v, .func (.func g) #[] #[]] w fun e w' => e = .returned (.bool (l.any p)) ∧ ∃ m, w' = w.drewN m := by
  have HI : Hid (Calls Tryz.prog 67 #[v, .func (.func g) #[] #[]] w fun e w' => ∃ j : Int, e = .returned (.int .i64 j) ∧ decide (0 ≤ j) = l.any p ∧ ∃ m, w' = w.drewN m) := IndexFuncI hp l v w h
  obtain ⟨a, cap, rfl, _⟩ := h
  go_enter Tryz.func34, Tryz.ntmps34
  go_wp2_with fail
  refine HI.out.mono ?_
  rintro e w' ⟨j, rfl, hj, m, rfl⟩
  have HJ : Hid (decide (0 ≤ j) = l.any p) := hj
  clear hj
  go_wp2
  go_ret
  exact ⟨ret_bool HJ.out, m, rfl⟩
end Ev
end Go.Proofs.YtpnmmmlckdkcdakGreatDoor
