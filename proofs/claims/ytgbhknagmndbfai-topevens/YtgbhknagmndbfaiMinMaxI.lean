/- The library's Max and Min at a slice of int that is not empty. -/
import Derived.Test.YtgbhknagmndbfaiPlains
import Derived.Lib.MinMax
namespace Go.Proofs.Ytgbhknagmndbfai
namespace Ev
open Go.RowKit Ns
set_option linter.unusedSimpArgs false
set_option linter.unusedVariables false

theorem mx_first (l : List Int) : (l.take 1).foldl max (l.getD 0 0) = l.getD 0 0 := by
  cases l with
  | nil => rfl
  | cons x r => simp
theorem mn_first (l : List Int) : (l.take 1).foldl min (l.getD 0 0) = l.getD 0 0 := by
  cases l with
  | nil => rfl
  | cons x r => simp

set_option maxHeartbeats 400000 in
theorem Max_any {Q : Nat → Prop} (l : List Int) (v : Value) (w : World) (h : IntsAt Q w v l) (h0 : 0 < l.length) :
    Calls Try.prog 15 #[v] w fun e w' => e = .returned (.int .i64 (mxL l)) ∧ ∃ m, w' = w.drewN m := by
  obtain ⟨a, cap, rfl, ⟨hm, hm2⟩, h⟩ := h
  obtain ⟨b, off, rfl, hC⟩ : ∃ b off, a = some ⟨b, off, none⟩ ∧ ∀ i, i < l.length → w.cell? ⟨b, off + i, none⟩ = some (.int .i64 (l.getD i 0)) := by
    rcases h with h | ⟨b, off, rfl, h, _⟩
    · rw [h] at h0; simp at h0
    · exact ⟨b, off, rfl, h⟩
  have HC : Hid (∀ i, i < l.length → w.cell? ⟨b, off + i, none⟩ = some (.int .i64 (l.getD i 0))) := hC
  have cz : w.cell? ⟨b, off, none⟩ = some (.int .i64 (l.getD 0 0)) := by have := hC 0 h0; rwa [Nat.add_zero] at this
  have HX : Hid (l.foldl max (l.getD 0 0) = mxL l) := rfl
  have HMs : Hid (∀ k, k < l.length → (l.take (k + 1)).foldl max (l.getD 0 0) = max ((l.take k).foldl max (l.getD 0 0)) (l.getD k 0)) := fun k hk => mx_step l _ k hk
  have H0 : Hid ((l.take 1).foldl max (l.getD 0 0) = l.getD 0 0) := mx_first l
  clear h hC
  generalize l.getD 0 0 = z at *
  have hpos : (0 : Int) < (l.length : Int) := by omega
  go_enter Try.func15, Try.ntmps15
  go_wp2
  go_loopw [3, 4] (fun s i wr => ∃ k m : Nat, k ≤ l.length ∧ i = .int .i64 k ∧ s = .int .i64 ((l.take k).foldl max z) ∧ Hid (wr = w.drewN m)) (fun _ i _ => l.length - (intOf i).toNat)
  case atStart => exact ⟨1, 0, by omega, rfl, by rw [H0.out], rfl⟩
  case round =>
    obtain ⟨k, m, hk, rfl, rfl, hw⟩ := hrel
    by_cases hlt : k < l.length
    · have c0 : wr.cell? ⟨b, off + k, none⟩ = some (.int .i64 (l.getD k 0)) := by rw [hw.out]; exact HC.out k hlt
      have hx : Hid ((l.take (k + 1)).foldl max z = max ((l.take k).foldl max z) (l.getD k 0)) := HMs.out k hlt
      generalize (l.take k).foldl max z = tx at *
      generalize l.getD k 0 = y at *
      go_wp2
      go_roundw
      case rel => exact ⟨k + 1, m, by omega, by go_num, by rw [hx.out], hw⟩
      case measure => simp [intOf]; omega
    · have e1 : (l.take k).foldl max z = mxL l := by rw [List.take_of_length_le (by omega)]; exact HX.out
      rw [e1]
      clear e1
      go_wp2
      go_ret
      exact ⟨rfl, m, hw.out⟩

set_option maxHeartbeats 400000 in
theorem Min_any {Q : Nat → Prop} (l : List Int) (v : Value) (w : World) (h : IntsAt Q w v l) (h0 : 0 < l.length) :
    Calls Try.prog 16 #[v] w fun e w' => e = .returned (.int .i64 (mnL l)) ∧ ∃ m, w' = w.drewN m := by
  obtain ⟨a, cap, rfl, ⟨hm, hm2⟩, h⟩ := h
  obtain ⟨b, off, rfl, hC⟩ : ∃ b off, a = some ⟨b, off, none⟩ ∧ ∀ i, i < l.length → w.cell? ⟨b, off + i, none⟩ = some (.int .i64 (l.getD i 0)) := by
    rcases h with h | ⟨b, off, rfl, h, _⟩
    · rw [h] at h0; simp at h0
    · exact ⟨b, off, rfl, h⟩
  have HC : Hid (∀ i, i < l.length → w.cell? ⟨b, off + i, none⟩ = some (.int .i64 (l.getD i 0))) := hC
  have cz : w.cell? ⟨b, off, none⟩ = some (.int .i64 (l.getD 0 0)) := by have := hC 0 h0; rwa [Nat.add_zero] at this
  have HX : Hid (l.foldl min (l.getD 0 0) = mnL l) := rfl
  have HMs : Hid (∀ k, k < l.length → (l.take (k + 1)).foldl min (l.getD 0 0) = min ((l.take k).foldl min (l.getD 0 0)) (l.getD k 0)) := fun k hk => mn_step l _ k hk
  have H0 : Hid ((l.take 1).foldl min (l.getD 0 0) = l.getD 0 0) := mn_first l
  clear h hC
  generalize l.getD 0 0 = z at *
  have hpos : (0 : Int) < (l.length : Int) := by omega
  go_enter Try.func16, Try.ntmps16
  go_wp2
  go_loopw [3, 4] (fun s i wr => ∃ k m : Nat, k ≤ l.length ∧ i = .int .i64 k ∧ s = .int .i64 ((l.take k).foldl min z) ∧ Hid (wr = w.drewN m)) (fun _ i _ => l.length - (intOf i).toNat)
  case atStart => exact ⟨1, 0, by omega, rfl, by rw [H0.out], rfl⟩
  case round =>
    obtain ⟨k, m, hk, rfl, rfl, hw⟩ := hrel
    by_cases hlt : k < l.length
    · have c0 : wr.cell? ⟨b, off + k, none⟩ = some (.int .i64 (l.getD k 0)) := by rw [hw.out]; exact HC.out k hlt
      have hx : Hid ((l.take (k + 1)).foldl min z = min ((l.take k).foldl min z) (l.getD k 0)) := HMs.out k hlt
      generalize (l.take k).foldl min z = tx at *
      generalize l.getD k 0 = y at *
      go_wp2
      go_roundw
      case rel => exact ⟨k + 1, m, by omega, by go_num, by rw [hx.out], hw⟩
      case measure => simp [intOf]; omega
    · have e1 : (l.take k).foldl min z = mnL l := by rw [List.take_of_length_le (by omega)]; exact HX.out
      rw [e1]
      clear e1
      go_wp2
      go_ret
      exact ⟨rfl, m, hw.out⟩
end Ev
end Go.Proofs.Ytgbhknagmndbfai
