/- The document's Links (package fairref1) over slices that are only read. -/
import Derived.Test.YtdldgefahgojaakDoorIntsIn
namespace Go.Proofs.YtdldgefahgojaakDoor
namespace Ns
open Go.RowKit
set_option linter.unusedSimpArgs false
set_option linter.unusedVariables false

set_option maxHeartbeats 400000 in
theorem Links_any {Q : Nat → Prop} (l : List Int) (v : Value) (w : World) (h : IntsAt Q w v l) :
    Calls Tryd.prog 15 #[v] w fun e w' => e = .returned (.int .i64 (linksE l)) ∧ w' = w := by
  obtain ⟨a, cap, rfl, ⟨hm, hm2⟩, h⟩ := h
  by_cases h0 : l.length = 0
  · have HR : Hid (linksE l = 5) := by show _ = _; rw [linksE, if_pos h0]
    have q : ((l.length : Int) == 0) = true := by rw [h0]; rfl
    clear h h0
    go_enter Tryd.func15, Tryd.ntmps15
    go_wp2
    go_ret
    exact ⟨ret_int HR.out.symm, rfl⟩
  · have q : ((l.length : Int) == 0) = false := beq_eq_false_iff_ne.2 (by omega)
    by_cases h6 : 6 < l.length
    · have HR : Hid (linksE l = 4) := by show _ = _; rw [linksE, if_neg h0, if_pos h6]
      have q6 : (6 : Int) < (l.length : Int) := by omega
      clear h h0
      go_enter Tryd.func15, Tryd.ntmps15
      go_wp2
      go_ret
      exact ⟨ret_int HR.out.symm, rfl⟩
    · have q6 : ¬ (6 : Int) < (l.length : Int) := by omega
      have HR : Hid (linksE l = capsFrom l) := by show _ = _; rw [linksE, if_neg h0, if_neg h6]
      rcases h with rfl | ⟨b, off, rfl, h, hQ⟩
      · exact absurd rfl h0
      obtain ⟨H⟩ : Nonempty (Hid (∀ i, i < l.length → w.cell? ⟨b, off + i, none⟩ = some (.int .i64 (l.getD i 0)))) := ⟨h⟩
      clear h h0 h6
      go_enter Tryd.func15, Tryd.ntmps15
      go_wp2
      go_loop [3] (fun i => ∃ k : Nat, k ≤ l.length ∧ i = .int .i64 k ∧ Hid (capsFrom l = capsFrom (l.drop k))) (fun i => l.length - (intOf i).toNat)
      case atStart => exact ⟨0, by omega, rfl, rfl⟩
      case round =>
        obtain ⟨k, hk, rfl, hn⟩ := hrel
        by_cases hlt : k < l.length
        · have hc := H.out k hlt
          have hs : Hid (capsFrom (l.drop k) = if l.getD k 0 < 1 ∨ 1000 < l.getD k 0 then 1 else capsFrom (l.drop (k + 1))) := by show _ = _; rw [drop_cons l k hlt 0]; rfl
          generalize l.getD k 0 = x at hc hs
          by_cases hx1 : x < 1
          · have HE : Hid (linksE l = 1) := by show _ = _; rw [HR.out, hn.out, hs.out, if_pos (.inl hx1)]
            go_wp2
            go_ret
            exact ⟨ret_int HE.out.symm, rfl⟩
          · by_cases hx2 : 1000 < x
            · have HE : Hid (linksE l = 1) := by show _ = _; rw [HR.out, hn.out, hs.out, if_pos (.inr hx2)]
              have hx2' : decide (1000 < x) = true := by simpa using hx2
              go_wp2
              go_ret
              exact ⟨ret_int HE.out.symm, rfl⟩
            · have HE : Hid (capsFrom l = capsFrom (l.drop (k + 1))) := by show _ = _; rw [hn.out, hs.out, if_neg (by omega)]
              have hx2' : decide (1000 < x) = false := by simpa using hx2
              go_wp2
              go_round
              case rel => exact ⟨k + 1, by omega, by go_num, HE⟩
              case measure => simp [intOf]; omega
        · go_wp2
          go_ret
          refine ⟨ret_int ?_, rfl⟩
          rw [HR.out, hn.out, List.drop_of_length_le (by omega)]
          rfl
end Ns
end Go.Proofs.YtdldgefahgojaakDoor
