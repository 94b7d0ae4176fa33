/- The library's IndexFunc and ContainsFunc at a slice of int, with any test that has caught one value, tells, and changes no old memory. -/
import Derived.Test.YtgbhknagmndbfaiAnyF
import Derived.Test.YtgbhknagmndbfaiPlains
namespace Go.Proofs.Ytgbhknagmndbfai
namespace Ev
open Go.RowKit Ns
set_option linter.unusedSimpArgs false
set_option linter.unusedVariables false

/-- the function g, that has caught c, tells p of an int in every world behind w -/
def TellsC (g : Nat) (c : Value) (w : World) (p : Int → Bool) : Prop := (∀ (args : Array Value) (w : World), (callFunc g args).run Try.prog w = .ok (.enter g args) w) ∧
  ∀ (x : Int) (u : World), Below w.heap.size w u → Calls Try.prog g #[.int .i64 x, c] u fun e w' => e = .returned (.bool (p x)) ∧ Below u.heap.size u w'

set_option maxHeartbeats 400000 in
theorem IndexFuncC {Q : Nat → Prop} {g : Nat} {c : Addr} {p : Int → Bool} (l : List Int) (v : Value) (w : World) (hp : TellsC g (.pointer (some c)) w p) (h : IntsAt Q w v l) :
    Calls Try.prog 42 #[v, .func (.func g) #[] #[.pointer (some c)]] w fun e w' => ∃ j : Int, e = .returned (.int .i64 j) ∧ decide (0 ≤ j) = l.any p ∧ Below w.heap.size w w' := by
  obtain ⟨a, cap, rfl, ⟨hm, hm2⟩, h⟩ := h
  obtain ⟨hen, hp⟩ := hp
  have HG : Hid (∀ (x : Int) (u : World), Below w.heap.size w u → Calls Try.prog g #[.int .i64 x, .pointer (some c)] u fun e w' => e = .returned (.bool (p x)) ∧ Below u.heap.size u w') := hp
  have H : Hid (∀ i, i < l.length → ∃ b off, a = some ⟨b, off, none⟩ ∧ ∀ u, Below w.heap.size w u → u.cell? ⟨b, off + i, none⟩ = some (.int .i64 (l.getD i 0))) := by
    intro i hi
    rcases h with rfl | ⟨b, off, rfl, h, _⟩
    · simp at hi
    · exact ⟨b, off, rfl, fun u hu => cell_later hu (h i hi)⟩
  clear h hp
  go_enter Try.func42, Try.ntmps42
  go_wp2
  go_loopw [5, 8] (fun _ i wr => ∃ k : Nat, k ≤ l.length ∧ i = .int .i64 k ∧ Hid (Below w.heap.size w wr) ∧ Hid ((l.take k).any p = false)) (fun _ i _ => l.length - (intOf i).toNat)
  case atStart => exact ⟨0, by omega, rfl, Below.refl _ _, rfl⟩
  case round =>
    obtain ⟨k, hk, rfl, hw, hn⟩ := hrel
    by_cases hlt : k < l.length
    · obtain ⟨b, off, rfl, hc⟩ := H.out k hlt
      have c1 := hc _ hw.out
      have hs : Hid ((l.take (k + 1)).any p = ((l.take k).any p || p (l.getD k 0))) := any_step hlt
      have hme : Hid (l.getD k 0 ∈ l) := getD_mem l k hlt 0
      have HC : Hid (∀ u : World, Below w.heap.size w u → Calls Try.prog g #[.int .i64 (l.getD k 0), .pointer (some c)] u fun e w' => e = .returned (.bool (p (l.getD k 0))) ∧ Below u.heap.size u w') := fun u hu => HG.out (l.getD k 0) u hu
      clear hc
      generalize l.getD k 0 = x at *
      cases hx : p x with
      | true =>
        have HR : Hid (l.any p = true) := List.any_eq_true.2 ⟨x, hme.out, hx⟩
        rw [hx] at HC
        clear hx hs
        go_wp2_with fail
        refine (HC.out _ hw.out).mono ?_
        rintro e w1 ⟨rfl, hw1⟩
        have HB1 : Hid (Below w.heap.size w w1) := hw.out.trans (hw1.mono hw.out.size)
        clear hw1
        go_wp2
        go_ret
        exact ⟨_, rfl, by rw [HR.out]; simp, HB1.out⟩
      | false =>
        have HR : Hid ((l.take (k + 1)).any p = false) := by show _ = _; rw [hs.out, hn.out, hx]; rfl
        rw [hx] at HC
        clear hx hs
        go_wp2_with fail
        refine (HC.out _ hw.out).mono ?_
        rintro e w1 ⟨rfl, hw1⟩
        have HB1 : Hid (Below w.heap.size w w1) := hw.out.trans (hw1.mono hw.out.size)
        clear hw1
        go_wp2
        go_roundw
        case rel => exact ⟨k + 1, by omega, by go_num, HB1, HR⟩
        case measure => simp [intOf]; omega
    · go_wp2
      go_ret
      refine ⟨_, rfl, ?_, hw.out⟩
      have := hn.out
      rw [List.take_of_length_le (by omega)] at this
      rw [this]
      rfl

theorem ContainsFuncC {Q : Nat → Prop} {g : Nat} {c : Addr} {p : Int → Bool} (l : List Int) (v : Value) (w : World) (hp : TellsC g (.pointer (some c)) w p) (h : IntsAt Q w v l) :
    Calls Try.prog 26 #[v, .func (.func g) #[] #[.pointer (some c)]] w fun e w' => e = .returned (.bool (l.any p)) ∧ Below w.heap.size w w' := by
  have HI : Hid (Calls Try.prog 42 #[v, .func (.func g) #[] #[.pointer (some c)]] w fun e w' => ∃ j : Int, e = .returned (.int .i64 j) ∧ decide (0 ≤ j) = l.any p ∧ Below w.heap.size w w') := IndexFuncC l v w hp h
  obtain ⟨a, cap, rfl, _⟩ := h
  clear hp
  go_enter Try.func26, Try.ntmps26
  go_wp2_with fail
  refine HI.out.mono ?_
  rintro e w' ⟨j, rfl, hj, hw⟩
  have HJ : Hid (decide (0 ≤ j) = l.any p) := hj
  have HW : Hid (Below w.heap.size w w') := hw
  clear hj hw
  go_wp2
  go_ret
  exact ⟨ret_bool HJ.out, HW.out⟩
end Ev
end Go.Proofs.Ytgbhknagmndbfai
