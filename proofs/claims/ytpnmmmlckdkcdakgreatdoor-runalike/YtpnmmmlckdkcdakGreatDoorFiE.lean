/- Package fill's closure in round, and the library's ContainsFunc with it. -/
import Derived.Test.YtpnmmmlckdkcdakGreatDoorFiD
namespace Go.Proofs.YtpnmmmlckdkcdakGreatDoor
namespace Fl
open Go.RowKit Fr Ns Ld
set_option linter.unusedSimpArgs false
set_option linter.unusedVariables false

theorem narrow_any {Q : Nat → Prop} (links : List Int) (x : Int) (gL : Nat) (lv : Value) (w : World) (hc : w.cell? ⟨gL, 0, none⟩ = some lv) (h : IntsAt Q w lv links) :
    Calls Tryz.prog 126 #[.int .i64 x, .pointer (some ⟨gL, 0, none⟩)] w fun e w' => e = .returned (.bool (inB links x)) ∧ w' = w := by
  have HC : Hid (Calls Tryz.prog 69 #[lv, .int .i64 x] w fun e w' => e = .returned (.bool (inB links x)) ∧ w' = w) := Contains_any links x lv w h
  obtain ⟨a, cap, rfl, _⟩ := h
  go_enter Tryz.func126, Tryz.ntmps126
  go_wp2_with fail
  refine HC.out.mono ?_
  rintro e w ⟨rfl, rfl⟩
  go_wp2
  go_ret
  exact ⟨rfl, rfl⟩

theorem anyI_snoc (l : List Int) (p : Int → Bool) (i : Nat) (h : i < l.length) : (l.take (i + 1)).any p = ((l.take i).any p || p (l.getD i 0)) := by
  rw [take_snoc l i h 0, List.any_append]
  simp

set_option maxHeartbeats 400000 in
theorem IndexN_any {Q R : Nat → Prop} (l links : List Int) (gL : Nat) (lv v : Value) (w : World) (h : IntsAt Q w v l) (hc : w.cell? ⟨gL, 0, none⟩ = some lv) (hl : IntsAt R w lv links) :
    Calls Tryz.prog 67 #[v, .func (.func 126) #[] #[.pointer (some ⟨gL, 0, none⟩)]] w fun e w' => ∃ j : Int, e = .returned (.int .i64 j) ∧ decide (0 ≤ j) = l.any (fun x => inB links x) ∧ w' = w := by
  have HN : Hid (∀ x : Int, Calls Tryz.prog 126 #[.int .i64 x, .pointer (some ⟨gL, 0, none⟩)] w fun e w' => e = .returned (.bool (inB links x)) ∧ w' = w) := fun x => narrow_any links x gL lv w hc hl
  obtain ⟨a, cap, rfl, ⟨hm, hm2⟩, h⟩ := h
  clear hc hl
  rcases h with rfl | ⟨b, off, rfl, h, hQ⟩
  · go_enter Tryz.func67, Tryz.ntmps67
    go_wp2
    go_loop [5, 8] (fun _ i => i = .int .i64 0) (fun _ _ => 0)
    case atStart => rfl
    case round =>
      subst hrel
      go_wp2
      go_ret
      exact ⟨_, rfl, by simp, rfl⟩
  · obtain ⟨H⟩ : Nonempty (Hid (∀ i, i < l.length → w.cell? ⟨b, off + i, none⟩ = some (.int .i64 (l.getD i 0)))) := ⟨h⟩
    clear h
    go_enter Tryz.func67, Tryz.ntmps67
    go_wp2
    go_loop [5, 8] (fun _ i => ∃ k : Nat, k ≤ l.length ∧ i = .int .i64 k ∧ Hid ((l.take k).any (fun x => inB links x) = false)) (fun _ i => l.length - (intOf i).toNat)
    case atStart => exact ⟨0, by omega, rfl, rfl⟩
    case round =>
      obtain ⟨k, hk, rfl, hn⟩ := hrel
      by_cases hlt : k < l.length
      · have hc : w.cell? ⟨b, off + k, none⟩ = some (.int .i64 (l.getD k 0)) := H.out k hlt
        have hs : Hid ((l.take (k + 1)).any (fun x => inB links x) = ((l.take k).any (fun x => inB links x) || inB links (l.getD k 0))) := anyI_snoc l _ k hlt
        have hme : Hid (l.getD k 0 ∈ l) := getD_mem l k hlt 0
        generalize l.getD k 0 = x at hc hs hme
        have HC : Hid (Calls Tryz.prog 126 #[.int .i64 x, .pointer (some ⟨gL, 0, none⟩)] w fun e w' => e = .returned (.bool (inB links x)) ∧ w' = w) := HN.out x
        cases hx : inB links x with
        | true =>
          have HR : Hid (l.any (fun x => inB links x) = true) := List.any_eq_true.2 ⟨x, hme.out, hx⟩
          rw [hx] at HC
          clear hx
          go_wp2_with fail
          refine HC.out.mono ?_
          rintro e w ⟨rfl, rfl⟩
          go_wp2
          go_ret
          exact ⟨_, rfl, by rw [HR.out]; simp, rfl⟩
        | false =>
          have HR : Hid ((l.take (k + 1)).any (fun x => inB links x) = false) := by show _ = _; rw [hs.out, hn.out, hx]; rfl
          rw [hx] at HC
          clear hx
          go_wp2_with fail
          refine HC.out.mono ?_
          rintro e w ⟨rfl, rfl⟩
          go_wp2
          go_round
          case rel => exact ⟨k + 1, by omega, by go_num, HR⟩
          case measure => simp [intOf]; omega
      · go_wp2
        go_ret
        refine ⟨_, rfl, ?_, rfl⟩
        have := hn.out
        rw [List.take_of_length_le (by omega)] at this
        rw [this]
        rfl

theorem ContainsN_any {Q R : Nat → Prop} (l links : List Int) (gL : Nat) (lv v : Value) (w : World) (h : IntsAt Q w v l) (hc : w.cell? ⟨gL, 0, none⟩ = some lv) (hl : IntsAt R w lv links) :
    Calls Tryz.prog 34 #[v, .func (.func 126) #[] #[.pointer (some ⟨gL, 0, none⟩)]] w fun e w' => e = .returned (.bool (l.any (fun x => inB links x))) ∧ w' = w := by
  have HI : Hid (Calls Tryz.prog 67 #[v, .func (.func 126) #[] #[.pointer (some ⟨gL, 0, none⟩)]] w fun e w' => ∃ j : Int, e = .returned (.int .i64 j) ∧ decide (0 ≤ j) = l.any (fun x => inB links x) ∧ w' = w) := IndexN_any l links gL lv v w h hc hl
  obtain ⟨a, cap, rfl, _⟩ := h
  go_enter Tryz.func34, Tryz.ntmps34
  go_wp2_with fail
  refine HI.out.mono ?_
  rintro e w ⟨j, rfl, hj, rfl⟩
  have HJ : Hid (decide (0 ≤ j) = l.any (fun x => inB links x)) := hj
  clear hj
  go_wp2
  go_ret
  exact ⟨Ns.ret_bool HJ.out, rfl⟩
end Fl
end Go.Proofs.YtpnmmmlckdkcdakGreatDoor
