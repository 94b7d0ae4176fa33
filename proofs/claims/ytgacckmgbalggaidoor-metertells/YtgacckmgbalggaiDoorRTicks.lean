/- The document's Ticks (package fairref2): the fault of what comes tick by tick. -/
import Derived.Test.YtgacckmgbalggaiDoorPlains
namespace Go.Proofs.YtgacckmgbalggaiDoor
namespace Ev
open Go.RowKit Fr Ns Ld Fl
set_option linter.unusedSimpArgs false
set_option linter.unusedVariables false

set_option maxHeartbeats 1000000 in
theorem RTicks_any {Q : Nat → Prop} (l : List Int) (v : Value) (w : World) (h : IntsAt Q w v l) :
    Calls Tryd.prog 9 #[v] w fun e w' => e = .returned (.int .i64 (ticksE l)) ∧ w' = w := by
  obtain ⟨a, cap, rfl, ⟨hm, hm2⟩, h'⟩ := id h
  have HC : Hid (∀ i, i < l.length → ∃ b off, a = some ⟨b, off, none⟩ ∧ ∀ u, Below w.heap.size w u → u.cell? ⟨b, off + i, none⟩ = some (.int .i64 (l.getD i 0))) := ints_cells h
  clear h h'
  by_cases h6 : 60 < l.length
  · have HR : Hid (ticksE l = 4) := by show _ = _; rw [ticksE, if_pos h6]
    go_enter Tryd.func9, Tryd.ntmps9
    go_wp2
    go_ret
    exact ⟨by rw [HR.out]; rfl, rfl⟩
  · have HR : Hid (ticksE l = if l.all (inTo 10000) then 0 else 1) := by show _ = _; rw [ticksE, if_neg h6]
    go_enter Tryd.func9, Tryd.ntmps9
    go_wp2
    go_loop [3] (fun i => ∃ k : Nat, k ≤ l.length ∧ i = .int .i64 k ∧ Hid ((l.take k).all (inTo 10000) = true)) (fun i => l.length - (intOf i).toNat)
    case atStart => exact ⟨0, by omega, rfl, rfl⟩
    case round =>
      obtain ⟨k, hk, rfl, hall⟩ := hrel
      by_cases hlt : k < l.length
      · obtain ⟨b, off, rfl, hc⟩ := HC.out k hlt
        have c0 := hc _ (Below.refl _ _)
        have hs : Hid (inTo 10000 (l.getD k 0) = true → (l.take (k + 1)).all (inTo 10000) = true) := fun hx => by rw [all_step hlt, hall.out, hx]; rfl
        have hno : Hid (inTo 10000 (l.getD k 0) = false → l.all (inTo 10000) = false) := fun hx => all_not hlt hx
        clear hc
        generalize l.getD k 0 = y at *
        by_cases h1 : y < 0
        · have HN : Hid (l.all (inTo 10000) = false) := hno.out (by simp [inTo]; omega)
          go_wp2
          go_ret
          exact ⟨by rw [HR.out, HN.out]; rfl, rfl⟩
        · by_cases h2 : 10000 < y
          · have HN : Hid (l.all (inTo 10000) = false) := hno.out (by simp [inTo]; omega)
            go_wp2
            go_ret
            exact ⟨by rw [HR.out, HN.out]; rfl, rfl⟩
          · have HN : Hid ((l.take (k + 1)).all (inTo 10000) = true) := hs.out (by simp [inTo]; omega)
            go_wp2
            go_round
            case rel => exact ⟨k + 1, by omega, by go_num, HN⟩
            case measure => simp [intOf]; omega
      · have HN : Hid (l.all (inTo 10000) = true) := by have := hall.out; rwa [List.take_of_length_le (by omega)] at this
        go_wp2
        go_ret
        exact ⟨by rw [HR.out, HN.out]; rfl, rfl⟩
end Ev
end Go.Proofs.YtgacckmgbalggaiDoor
