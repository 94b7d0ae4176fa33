/- The document's Gap (package fairref1): the greatest less the least. -/
import Derived.Test.YtgbhknagmndbfahDoorPlains
namespace Go.Proofs.YtgbhknagmndbfahDoor
namespace Ev
open Go.RowKit Fr Ns Ld Fl
set_option linter.unusedSimpArgs false
set_option linter.unusedVariables false

set_option maxHeartbeats 1000000 in
theorem RGap_any {Q : Nat → Prop} (l : List Int) (v : Value) (w : World) (h : IntsAt Q w v l) (h0 : 0 < l.length) (hb : ∀ x ∈ l, -1000000 ≤ x ∧ x ≤ 1000000) :
    Calls Tryd.prog 18 #[v] w fun e w' => e = .returned (.int .i64 (gapL l)) ∧ w' = w := by
  obtain ⟨a, cap, rfl, ⟨hm, hm2⟩, h'⟩ := id h
  obtain ⟨b, off, rfl, hC⟩ : ∃ b off, a = some ⟨b, off, none⟩ ∧ ∀ i, i < l.length → w.cell? ⟨b, off + i, none⟩ = some (.int .i64 (l.getD i 0)) := by
    rcases h' with h | ⟨b, off, rfl, h, _⟩
    · rw [h] at h0; simp at h0
    · exact ⟨b, off, rfl, h⟩
  have HC : Hid (∀ i, i < l.length → w.cell? ⟨b, off + i, none⟩ = some (.int .i64 (l.getD i 0))) := hC
  have cz : w.cell? ⟨b, off, none⟩ = some (.int .i64 (l.getD 0 0)) := by have := hC 0 h0; rwa [Nat.add_zero] at this
  have HB : Hid (-1000000 ≤ mnL l ∧ mnL l ≤ 1000000 ∧ -1000000 ≤ mxL l ∧ mxL l ≤ 1000000) := ⟨(hb _ (mnL_spec h0).1).1, (hb _ (mnL_spec h0).1).2, (hb _ (mxL_spec h0).1).1, (hb _ (mxL_spec h0).1).2⟩
  have HX : Hid (l.foldl max (l.getD 0 0) = mxL l) := rfl
  have HN : Hid (l.foldl min (l.getD 0 0) = mnL l) := rfl
  have HG : Hid (gapL l = mxL l - mnL l) := rfl
  have HMs : Hid (∀ k, k < l.length → (l.take (k + 1)).foldl max (l.getD 0 0) = max ((l.take k).foldl max (l.getD 0 0)) (l.getD k 0)) := fun k hk => mx_step l _ k hk
  have HNs : Hid (∀ k, k < l.length → (l.take (k + 1)).foldl min (l.getD 0 0) = min ((l.take k).foldl min (l.getD 0 0)) (l.getD k 0)) := fun k hk => mn_step l _ k hk
  have H0 : Hid ((l.take 0).foldl max (l.getD 0 0) = l.getD 0 0 ∧ (l.take 0).foldl min (l.getD 0 0) = l.getD 0 0) := ⟨rfl, rfl⟩
  clear h h' hb hC
  generalize l.getD 0 0 = z at *
  have hpos : (0 : Int) < (l.length : Int) := by omega
  go_enter Tryd.func18, Tryd.ntmps18
  go_wp2
  go_loop [3, 4, 5] (fun s3 s4 i => ∃ k : Nat, k ≤ l.length ∧ i = .int .i64 k ∧ s3 = .int .i64 ((l.take k).foldl min z) ∧ s4 = .int .i64 ((l.take k).foldl max z)) (fun _ _ i => l.length - (intOf i).toNat)
  case atStart => exact ⟨0, by omega, rfl, rfl, rfl⟩
  case round =>
    obtain ⟨k, hk, rfl, rfl, rfl⟩ := hrel
    by_cases hlt : k < l.length
    · have c0 := HC.out k hlt
      have hx := (show Hid _ from HMs.out k hlt)
      have hn := (show Hid _ from HNs.out k hlt)
      generalize (l.take k).foldl max z = tx at *
      generalize (l.take k).foldl min z = tn at *
      generalize l.getD k 0 = y at *
      by_cases h1 : y < tn
      · have en : Hid (min tn y = y) := Int.min_eq_right (by omega)
        by_cases h2 : tx < y
        · have ex : Hid (max tx y = y) := Int.max_eq_right (by omega)
          go_wp2
          go_round
          case rel => exact ⟨k + 1, by omega, by go_num, by rw [hn.out, en.out], by rw [hx.out, ex.out]⟩
          case measure => simp [intOf]; omega
        · have ex : Hid (max tx y = tx) := Int.max_eq_left (by omega)
          go_wp2
          go_round
          case rel => exact ⟨k + 1, by omega, by go_num, by rw [hn.out, en.out], by rw [hx.out, ex.out]⟩
          case measure => simp [intOf]; omega
      · have en : Hid (min tn y = tn) := Int.min_eq_left (by omega)
        by_cases h2 : tx < y
        · have ex : Hid (max tx y = y) := Int.max_eq_right (by omega)
          go_wp2
          go_round
          case rel => exact ⟨k + 1, by omega, by go_num, by rw [hn.out, en.out], by rw [hx.out, ex.out]⟩
          case measure => simp [intOf]; omega
        · have ex : Hid (max tx y = tx) := Int.max_eq_left (by omega)
          go_wp2
          go_round
          case rel => exact ⟨k + 1, by omega, by go_num, by rw [hn.out, en.out], by rw [hx.out, ex.out]⟩
          case measure => simp [intOf]; omega
    · have e1 : (l.take k).foldl max z = mxL l := by rw [List.take_of_length_le (by omega)]; exact HX.out
      have e2 : (l.take k).foldl min z = mnL l := by rw [List.take_of_length_le (by omega)]; exact HN.out
      obtain ⟨m1, m2, m3, m4⟩ := HB.out
      rw [e1, e2]
      clear e1 e2
      generalize mxL l = X at *
      generalize mnL l = N at *
      go_wp2
      go_ret
      exact ⟨by rw [HG.out]; go_num, rfl⟩
end Ev
end Go.Proofs.YtgbhknagmndbfahDoor
