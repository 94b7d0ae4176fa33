/- The document's Path and Net (package fairref1) over lists that are only read. -/
import Derived.Test.YtdldgefahgojaakDoorInts
namespace Go.Proofs.YtdldgefahgojaakDoor
namespace Ns
open Go.RowKit
set_option linter.unusedSimpArgs false
set_option linter.unusedVariables false

set_option maxHeartbeats 1000000 in
theorem Path_any {Q : Nat → Prop} (links : Int) (l : List Int) (v : Value) (w : World) (h : IntsAt Q w v l) :
    Calls Tryd.prog 19 #[.int .i64 links, v] w fun e w' => e = .returned (.int .i64 (pathE links l)) ∧ ∃ n, w' = w.drewN n := by
  obtain ⟨a, cap, rfl, ⟨hm, hm2⟩, h⟩ := h
  by_cases h0 : l.length = 0
  · have HR : Hid (pathE links l = 5) := by show _ = _; rw [pathE, if_pos h0]
    have q : ((l.length : Int) == 0) = true := by rw [h0]; rfl
    clear h h0
    go_enter Tryd.func19, Tryd.ntmps19
    go_wp2
    go_ret
    exact ⟨ret_int HR.out.symm, 0, rfl⟩
  · have q : ((l.length : Int) == 0) = false := beq_eq_false_iff_ne.2 (by omega)
    have HR : Hid (pathE links l = pathFrom links [] l) := by show _ = _; rw [pathE, if_neg h0]
    rcases h with rfl | ⟨b, off, rfl, h, hQ⟩
    · exact absurd rfl h0
    obtain ⟨H⟩ : Nonempty (Hid (∀ i, i < l.length → w.cell? ⟨b, off + i, none⟩ = some (.int .i64 (l.getD i 0)))) := ⟨h⟩
    clear h h0
    go_enter Tryd.func19, Tryd.ntmps19
    go_wp2
    go_loopw [5] (fun i wr => ∃ k m : Nat, k ≤ l.length ∧ i = .int .i64 k ∧ Hid (wr = w.drewN m) ∧ Hid (pathFrom links [] l = pathFrom links (l.take k) (l.drop k))) (fun i _ => l.length - (intOf i).toNat)
    case atStart => exact ⟨0, 0, by omega, rfl, rfl, rfl⟩
    case round =>
      obtain ⟨k, m, hk, rfl, hw, hn⟩ := hrel
      have hkc : (k : Int) ≤ (cap : Int) := by omega
      by_cases hlt : k < l.length
      · have hc : wr.cell? ⟨b, off + k, none⟩ = some (.int .i64 (l.getD k 0)) := by rw [hw.out]; exact H.out k hlt
        have hs : Hid (pathFrom links (l.take k) (l.drop k) = if l.getD k 0 < 0 ∨ links ≤ l.getD k 0 then 1 else if inB (l.take k) (l.getD k 0) then 7 else pathFrom links (l.take (k + 1)) (l.drop (k + 1))) := by
          show _ = _
          rw [drop_cons l k hlt 0, take_snoc l k hlt 0]; rfl
        have hin := fun (n : Nat) (x : Int) => In_any (Q := Q) (l.take k) x (.slice (some ⟨b, off, none⟩) k cap) (wr.drewN n) (by
          refine IntsAt.take hm hm2 ?_ k hk hQ
          intro i hi; rw [hw.out]; exact H.out i hi)
        generalize l.getD k 0 = x at hc hs
        have HI := (show Hid (∀ (n : Nat) (x : Int), Calls Tryd.prog 35 #[.slice (some ⟨b, off, none⟩) k cap, .int .i64 x] (wr.drewN n) fun e w'' => e = .returned (.bool (inB (l.take k) x)) ∧ w'' = wr.drewN n) from hin)
        clear hin
        by_cases hx1 : x < 0
        · have HE : Hid (pathE links l = 1) := by show _ = _; rw [HR.out, hn.out, hs.out, if_pos (.inl hx1)]
          go_wp2
          go_ret
          exact ⟨ret_int HE.out.symm, m, hw.out⟩
        · by_cases hx2 : links ≤ x
          · have HE : Hid (pathE links l = 1) := by show _ = _; rw [HR.out, hn.out, hs.out, if_pos (.inr hx2)]
            have hx2' : decide (links ≤ x) = true := by simpa using hx2
            go_wp2
            go_ret
            exact ⟨ret_int HE.out.symm, m, hw.out⟩
          · have hx2' : decide (links ≤ x) = false := by simpa using hx2
            cases hi : inB (l.take k) x with
            | true =>
              have HE : Hid (pathE links l = 7) := by show _ = _; rw [HR.out, hn.out, hs.out, if_neg (by omega), if_pos hi]
              have HJ : Hid (∀ n : Nat, Calls Tryd.prog 35 #[.slice (some ⟨b, off, none⟩) k cap, .int .i64 x] (wr.drewN n) fun e w'' => e = .returned (.bool true) ∧ w'' = wr.drewN n) := fun n => by
                have := HI.out n x
                rw [hi] at this
                exact this
              clear hi HI
              go_wp2
              go_quiet ((go_at_call 35; exact Calls.quiet_of_same (HJ.out _)))
              go_wp2
              go_ret
              refine ⟨ret_int HE.out.symm, m + nq, by rw [hw.out]; simp⟩
            | false =>
              have HE : Hid (pathFrom links [] l = pathFrom links (l.take (k + 1)) (l.drop (k + 1))) := by
                show _ = _
                rw [hn.out, hs.out, if_neg (by omega), if_neg (by rw [hi]; decide)]
              have HJ : Hid (∀ n : Nat, Calls Tryd.prog 35 #[.slice (some ⟨b, off, none⟩) k cap, .int .i64 x] (wr.drewN n) fun e w'' => e = .returned (.bool false) ∧ w'' = wr.drewN n) := fun n => by
                have := HI.out n x
                rw [hi] at this
                exact this
              clear hi HI
              go_wp2
              go_quiet ((go_at_call 35; exact Calls.quiet_of_same (HJ.out _)))
              go_wp2
              go_roundw
              case rel => exact ⟨k + 1, m + nq, by omega, by go_num, (show _ = _ by rw [hw.out]; simp), HE⟩
              case measure => simp [intOf]; omega
      · go_wp2
        go_ret
        refine ⟨ret_int ?_, m, hw.out⟩
        rw [HR.out, hn.out, List.drop_of_length_le (by omega)]
        rfl
end Ns
end Go.Proofs.YtdldgefahgojaakDoor
