/- The library's Index, Contains, IndexFunc, ContainsFunc and Clone at slices of int, and package net's hasLink: what each hands back. -/
import Derived.Test.YtpnmmmlckdkcdakGreatDoorPlains
namespace Go.Proofs.YtpnmmmlckdkcdakGreatDoor
namespace Ns
open Go.RowKit Fr
set_option linter.unusedSimpArgs false
set_option linter.unusedVariables false

/-- the bounds that net.Check asks of a link -/
def badC (x : Int) : Bool := decide (x < 1) || decide (1000 < x)
def anyBad (l : List Int) : Bool := l.any badC
theorem anyBad_snoc (l : List Int) (x : Int) : anyBad (l ++ [x]) = (anyBad l || badC x) := by simp [anyBad]
theorem anyBad_mem {l : List Int} {x : Int} (h : x ∈ l) (hb : badC x = true) : anyBad l = true := by
  simp only [anyBad, List.any_eq_true]; exact ⟨x, h, hb⟩
theorem capsFrom_bad (l : List Int) : capsFrom l = if anyBad l then 1 else 0 := by
  induction l with
  | nil => rfl
  | cons x r ih =>
    unfold capsFrom
    by_cases h : x < 1 ∨ 1000 < x
    · have : badC x = true := by simpa [badC] using h
      rw [if_pos h]; simp [anyBad, this]
    · have : badC x = false := by simpa [badC] using h
      rw [if_neg h, ih]; simp [anyBad, this]

set_option maxHeartbeats 400000 in
theorem Index_any {Q : Nat → Prop} (l : List Int) (n : Int) (v : Value) (w : World) (h : IntsAt Q w v l) :
    Calls Tryz.prog 98 #[v, .int .i64 n] w fun e w' => ∃ j : Int, e = .returned (.int .i64 j) ∧ decide (0 ≤ j) = inB l n ∧ w' = w := by
  obtain ⟨a, cap, rfl, ⟨hm, hm2⟩, h⟩ := h
  rcases h with rfl | ⟨b, off, rfl, h, hQ⟩
  · go_enter Tryz.func98, Tryz.ntmps98
    go_wp2
    go_loop [5, 8] (fun _ i => i = .int .i64 0) (fun _ _ => 0)
    case atStart => rfl
    case round =>
      subst hrel
      go_wp2
      go_ret
      exact ⟨_, rfl, rfl, rfl⟩
  · obtain ⟨H⟩ : Nonempty (Hid (∀ i, i < l.length → w.cell? ⟨b, off + i, none⟩ = some (.int .i64 (l.getD i 0)))) := ⟨h⟩
    clear h
    go_enter Tryz.func98, Tryz.ntmps98
    go_wp2
    go_loop [5, 8] (fun _ i => ∃ k : Nat, k ≤ l.length ∧ i = .int .i64 k ∧ Hid (inB (l.take k) n = false)) (fun _ i => l.length - (intOf i).toNat)
    case atStart => exact ⟨0, by omega, rfl, rfl⟩
    case round =>
      obtain ⟨k, hk, rfl, hn⟩ := hrel
      by_cases hlt : k < l.length
      · have hc := H.out k hlt
        have hs : Hid (inB (l.take (k + 1)) n = (inB (l.take k) n || l.getD k 0 == n)) := by show _ = _; rw [take_snoc l k hlt 0, inB_snoc]
        have hme : Hid (l.getD k 0 ∈ l) := getD_mem l k hlt 0
        generalize l.getD k 0 = x at hc hs hme
        by_cases hx : n = x
        · have q : (n == x) = true := beq_iff_eq.2 hx
          have HR : Hid (inB l n = true) := by rw [hx]; exact inB_of_mem hme.out
          clear hx
          go_wp2
          go_ret
          exact ⟨_, rfl, by rw [HR.out]; simp, rfl⟩
        · have q : (n == x) = false := beq_eq_false_iff_ne.2 hx
          have HR : Hid (inB (l.take (k + 1)) n = false) := by show _ = _; rw [hs.out, hn.out, beq_eq_false_iff_ne.2 (Ne.symm hx)]; rfl
          clear hx
          go_wp2
          go_round
          case rel => exact ⟨k + 1, by omega, by go_num, HR⟩
          case measure => simp [intOf]; omega
      · go_wp2
        go_ret
        refine ⟨_, rfl, ?_, rfl⟩
        have := hn.out
        rw [List.take_of_length_le (by omega)] at this
        rw [this]
        rfl

theorem Contains_any {Q : Nat → Prop} (l : List Int) (n : Int) (v : Value) (w : World) (h : IntsAt Q w v l) :
    Calls Tryz.prog 69 #[v, .int .i64 n] w fun e w' => e = .returned (.bool (inB l n)) ∧ w' = w := by
  have HI : Hid (Calls Tryz.prog 98 #[v, .int .i64 n] w fun e w' => ∃ j : Int, e = .returned (.int .i64 j) ∧ decide (0 ≤ j) = inB l n ∧ w' = w) := Index_any l n v w h
  obtain ⟨a, cap, rfl, _⟩ := h
  go_enter Tryz.func69, Tryz.ntmps69
  go_wp2_with fail
  refine HI.out.mono ?_
  rintro e w ⟨j, rfl, hj, rfl⟩
  have HJ : Hid (decide (0 ≤ j) = inB l n) := hj
  clear hj
  go_wp2
  go_ret
  exact ⟨ret_bool HJ.out, rfl⟩

theorem bad_any (x : Int) (w : World) :
    Calls Tryz.prog 35 #[.int .i64 x] w fun e w' => e = .returned (.bool (badC x)) ∧ w' = w := by
  have HR : Hid (badC x = (decide (x < 1) || decide (1000 < x))) := rfl
  by_cases h1 : x < 1
  · go_enter Tryz.func35, Tryz.ntmps35
    go_wp2
    go_ret
    exact ⟨ret_bool (by rw [HR.out]; simp [h1]; try omega), rfl⟩
  · go_enter Tryz.func35, Tryz.ntmps35
    go_wp2
    go_ret
    exact ⟨ret_bool (by rw [HR.out]; simp [h1]; try omega), rfl⟩

set_option maxHeartbeats 400000 in
theorem IndexFunc_any {Q : Nat → Prop} (l : List Int) (v : Value) (w : World) (h : IntsAt Q w v l) :
    Calls Tryz.prog 67 #[v, .func (.func 35) #[] #[]] w fun e w' => ∃ j : Int, e = .returned (.int .i64 j) ∧ decide (0 ≤ j) = anyBad l ∧ ∃ m, w' = w.drewN m := by
  obtain ⟨a, cap, rfl, ⟨hm, hm2⟩, h⟩ := h
  rcases h with rfl | ⟨b, off, rfl, h, hQ⟩
  · go_enter Tryz.func67, Tryz.ntmps67
    go_wp2
    go_loop [5, 8] (fun _ i => i = .int .i64 0) (fun _ _ => 0)
    case atStart => rfl
    case round =>
      subst hrel
      go_wp2
      go_ret
      exact ⟨_, rfl, rfl, 0, rfl⟩
  · obtain ⟨H⟩ : Nonempty (Hid (∀ i, i < l.length → w.cell? ⟨b, off + i, none⟩ = some (.int .i64 (l.getD i 0)))) := ⟨h⟩
    clear h
    go_enter Tryz.func67, Tryz.ntmps67
    go_wp2
    go_loopw [5, 8] (fun _ i wr => ∃ k m : Nat, k ≤ l.length ∧ i = .int .i64 k ∧ Hid (wr = w.drewN m) ∧ Hid (anyBad (l.take k) = false)) (fun _ i _ => l.length - (intOf i).toNat)
    case atStart => exact ⟨0, 0, by omega, rfl, rfl, rfl⟩
    case round =>
      obtain ⟨k, m, hk, rfl, hw, hn⟩ := hrel
      by_cases hlt : k < l.length
      · have hc : wr.cell? ⟨b, off + k, none⟩ = some (.int .i64 (l.getD k 0)) := by rw [hw.out]; exact H.out k hlt
        have hs : Hid (anyBad (l.take (k + 1)) = (anyBad (l.take k) || badC (l.getD k 0))) := by show _ = _; rw [take_snoc l k hlt 0, anyBad_snoc]
        have hme : Hid (l.getD k 0 ∈ l) := getD_mem l k hlt 0
        generalize l.getD k 0 = x at hc hs hme
        have HC : Hid (∀ u : World, Calls Tryz.prog 35 #[.int .i64 x] u fun e w' => e = .returned (.bool (badC x)) ∧ w' = u) := fun u => bad_any x u
        cases hx : badC x with
        | true =>
          have HR : Hid (anyBad l = true) := anyBad_mem hme.out hx
          rw [hx] at HC
          clear hx
          go_wp2_with fail
          refine (HC.out _).mono ?_
          rintro e w' ⟨rfl, rfl⟩
          go_wp2
          go_ret
          exact ⟨_, rfl, by rw [HR.out]; simp, m, hw.out⟩
        | false =>
          have HR : Hid (anyBad (l.take (k + 1)) = false) := by show _ = _; rw [hs.out, hn.out, hx]; rfl
          rw [hx] at HC
          clear hx
          go_wp2_with fail
          refine (HC.out _).mono ?_
          rintro e w' ⟨rfl, rfl⟩
          go_wp2
          go_roundw
          case rel => exact ⟨k + 1, m, by omega, by go_num, hw, HR⟩
          case measure => simp [intOf]; omega
      · go_wp2
        go_ret
        refine ⟨_, rfl, ?_, m, hw.out⟩
        have := hn.out
        rw [List.take_of_length_le (by omega)] at this
        rw [this]
        rfl

theorem ContainsFunc_any {Q : Nat → Prop} (l : List Int) (v : Value) (w : World) (h : IntsAt Q w v l) :
    Calls Tryz.prog 34 #[v, .func (.func 35) #[] #[]] w fun e w' => e = .returned (.bool (anyBad l)) ∧ ∃ m, w' = w.drewN m := by
  have HI : Hid (Calls Tryz.prog 67 #[v, .func (.func 35) #[] #[]] w fun e w' => ∃ j : Int, e = .returned (.int .i64 j) ∧ decide (0 ≤ j) = anyBad l ∧ ∃ m, w' = w.drewN m) := IndexFunc_any l v w h
  obtain ⟨a, cap, rfl, _⟩ := h
  go_enter Tryz.func34, Tryz.ntmps34
  go_wp2_with fail
  refine HI.out.mono ?_
  rintro e w' ⟨j, rfl, hj, m, rfl⟩
  have HJ : Hid (decide (0 ≤ j) = anyBad l) := hj
  clear hj
  go_wp2
  go_ret
  exact ⟨ret_bool HJ.out, m, rfl⟩

/-- is there such a link? -/
def linkB (n : Nat) (x : Int) : Bool := decide (0 ≤ x) && decide (x < n)

theorem hasLink_any {Q : Nat → Prop} (caps : List Int) (paths : List (List Int)) (x : Int) (v : Value) (w : World) (h : NetAt Q w v caps paths) :
    Calls Tryz.prog 68 #[v, .int .i64 x] w fun e w' => e = .returned (.bool (linkB caps.length x)) ∧ Below w.heap.size w w' := by
  obtain ⟨v1, v2, rfl, h1, h2⟩ := h
  obtain ⟨a1, cap1, rfl, ⟨hm1, hn1⟩, _⟩ := h1
  obtain ⟨a2, cap2, rfl, _⟩ := h2
  have HR : Hid (linkB caps.length x = (decide (0 ≤ x) && decide (x < (caps.length : Int)))) := rfl
  by_cases h0 : 0 ≤ x
  · go_enter Tryz.func68, Tryz.ntmps68
    go_wp2
    go_ret
    exact ⟨ret_bool (by rw [HR.out]; simp [h0]; try omega), (Below.refl _ _).alloc (Nat.le_refl _) _⟩
  · go_enter Tryz.func68, Tryz.ntmps68
    go_wp2
    go_ret
    exact ⟨ret_bool (by rw [HR.out]; simp [h0]; try omega), (Below.refl _ _).alloc (Nat.le_refl _) _⟩
end Ns
end Go.Proofs.YtpnmmmlckdkcdakGreatDoor
