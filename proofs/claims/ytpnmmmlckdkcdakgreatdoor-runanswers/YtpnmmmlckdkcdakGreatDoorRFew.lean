/- The document's Few (package fairref1): the fault of shares. -/
import Derived.Test.YtpnmmmlckdkcdakGreatDoorPlains
namespace Go.Proofs.YtpnmmmlckdkcdakGreatDoor
namespace Ev
open Go.RowKit Fr Ns Ld Fl
set_option linter.unusedSimpArgs false
set_option linter.unusedVariables false

set_option maxHeartbeats 1000000 in
theorem RFew_any {Q : Nat → Prop} (l : List Int) (most : Int) (v : Value) (w : World) (h : IntsAt Q w v l) :
    Calls Tryz.prog 90 #[v, .int .i64 most] w fun e w' => e = .returned (.int .i64 (few l most)) ∧ w' = w := by
  obtain ⟨a, cap, rfl, ⟨hm, hm2⟩, h'⟩ := id h
  have HC : Hid (∀ i, i < l.length → ∃ b off, a = some ⟨b, off, none⟩ ∧ ∀ u, Below w.heap.size w u → u.cell? ⟨b, off + i, none⟩ = some (.int .i64 (l.getD i 0))) := ints_cells h
  clear h h'
  by_cases h0 : l.length = 0
  · have HR : Hid (few l most = 5) := by show _ = _; rw [few, if_pos h0]
    have q : ((l.length : Int) == 0) = true := by simp [h0]
    clear h0
    go_enter Tryz.func90, Tryz.ntmps90
    go_wp2
    go_ret
    exact ⟨by rw [HR.out]; rfl, rfl⟩
  · have q : ((l.length : Int) == 0) = false := beq_eq_false_iff_ne.2 (by omega)
    by_cases h6 : 6 < l.length
    · have HR : Hid (few l most = 4) := by show _ = _; rw [few, if_neg h0, if_pos h6]
      clear h0
      go_enter Tryz.func90, Tryz.ntmps90
      go_wp2
      go_ret
      exact ⟨by rw [HR.out]; rfl, rfl⟩
    · have HR : Hid (few l most = if l.all (inTo most) then 0 else 1) := by show _ = _; rw [few, if_neg h0, if_neg h6]
      clear h0
      go_enter Tryz.func90, Tryz.ntmps90
      go_wp2
      go_loop [5] (fun i => ∃ k : Nat, k ≤ l.length ∧ i = .int .i64 k ∧ Hid ((l.take k).all (inTo most) = true)) (fun i => l.length - (intOf i).toNat)
      case atStart => exact ⟨0, by omega, rfl, rfl⟩
      case round =>
        obtain ⟨k, hk, rfl, hall⟩ := hrel
        by_cases hlt : k < l.length
        · obtain ⟨b, off, rfl, hc⟩ := HC.out k hlt
          have c0 := hc _ (Below.refl _ _)
          have hs : Hid (inTo most (l.getD k 0) = true → (l.take (k + 1)).all (inTo most) = true) := fun hx => by rw [all_step hlt, hall.out, hx]; rfl
          have hno : Hid (inTo most (l.getD k 0) = false → l.all (inTo most) = false) := fun hx => all_not hlt hx
          clear hc
          generalize l.getD k 0 = y at *
          by_cases h1 : y < 0
          · have HN : Hid (l.all (inTo most) = false) := hno.out (by simp [inTo]; omega)
            go_wp2
            go_ret
            exact ⟨by rw [HR.out, HN.out]; rfl, rfl⟩
          · by_cases h2 : most < y
            · have HN : Hid (l.all (inTo most) = false) := hno.out (by simp [inTo]; omega)
              go_wp2
              go_ret
              exact ⟨by rw [HR.out, HN.out]; rfl, rfl⟩
            · have HN : Hid ((l.take (k + 1)).all (inTo most) = true) := hs.out (by simp [inTo]; omega)
              go_wp2
              go_round
              case rel => exact ⟨k + 1, by omega, by go_num, HN⟩
              case measure => simp [intOf]; omega
        · have HN : Hid (l.all (inTo most) = true) := by have := hall.out; rwa [List.take_of_length_le (by omega)] at this
          go_wp2
          go_ret
          exact ⟨by rw [HR.out, HN.out]; rfl, rfl⟩
end Ev
end Go.Proofs.YtpnmmmlckdkcdakGreatDoor
