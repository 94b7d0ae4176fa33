/- The document's In (package fairref1) over slices that are only read. -/
import Derived.Test.YtdldgefahgojaakDoorPlains
namespace Go.Proofs.YtdldgefahgojaakDoor
namespace Ns
open Go.RowKit
set_option linter.unusedSimpArgs false
set_option linter.unusedVariables false

set_option maxHeartbeats 400000 in
theorem In_any {Q : Nat → Prop} (l : List Int) (n : Int) (v : Value) (w : World) (h : IntsAt Q w v l) :
    Calls Tryd.prog 35 #[v, .int .i64 n] w fun e w' => e = .returned (.bool (inB l n)) ∧ w' = w := by
  obtain ⟨a, cap, rfl, ⟨hm, hm2⟩, h⟩ := h
  rcases h with rfl | ⟨b, off, rfl, h, hQ⟩
  · go_enter Tryd.func35, Tryd.ntmps35
    go_wp2
    go_loop [5] (fun i => i = .int .i64 0) (fun _ => 0)
    case atStart => rfl
    case round =>
      subst hrel
      go_wp2
      go_ret
      exact ⟨ret_bool rfl, rfl⟩
  · obtain ⟨H⟩ : Nonempty (Hid (∀ i, i < l.length → w.cell? ⟨b, off + i, none⟩ = some (.int .i64 (l.getD i 0)))) := ⟨h⟩
    clear h
    go_enter Tryd.func35, Tryd.ntmps35
    go_wp2
    go_loop [5] (fun i => ∃ k : Nat, k ≤ l.length ∧ i = .int .i64 k ∧ Hid (inB (l.take k) n = false)) (fun i => l.length - (intOf i).toNat)
    case atStart => exact ⟨0, by omega, rfl, rfl⟩
    case round =>
      obtain ⟨k, hk, rfl, hn⟩ := hrel
      by_cases hlt : k < l.length
      · have hc := H.out k hlt
        have hs : Hid (inB (l.take (k + 1)) n = (inB (l.take k) n || l.getD k 0 == n)) := by show _ = _; rw [take_snoc l k hlt 0, inB_snoc]
        have hme : Hid (l.getD k 0 ∈ l) := getD_mem l k hlt 0
        generalize l.getD k 0 = x at hc hs hme
        by_cases hx : x = n
        · have q : (x == n) = true := beq_iff_eq.2 hx
          have HR : Hid (inB l n = true) := by rw [← hx]; exact inB_of_mem hme.out
          clear hx
          go_wp2
          go_ret
          exact ⟨ret_bool HR.out.symm, rfl⟩
        · have q : (x == n) = false := beq_eq_false_iff_ne.2 hx
          have HR : Hid (inB (l.take (k + 1)) n = false) := by show _ = _; rw [hs.out, hn.out, q]; rfl
          clear hx
          go_wp2
          go_round
          case rel => exact ⟨k + 1, by omega, by go_num, HR⟩
          case measure => simp [intOf]; omega
      · go_wp2
        go_ret
        refine ⟨ret_bool ?_, rfl⟩
        rw [← hn.out, List.take_of_length_le (by omega)]

end Ns
end Go.Proofs.YtdldgefahgojaakDoor
