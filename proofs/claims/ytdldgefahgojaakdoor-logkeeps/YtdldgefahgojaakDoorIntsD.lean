/- The document's Users (package fairref1): a list that the call makes. -/
import Derived.Test.YtdldgefahgojaakDoorIntsC
namespace Go.Proofs.YtdldgefahgojaakDoor
namespace Ns
open Go.RowKit
set_option linter.unusedSimpArgs false
set_option linter.unusedVariables false

set_option maxHeartbeats 400000 in
theorem RUsers_any {Q : Nat → Prop} (caps : List Int) (paths : List (List Int)) (link : Int) (v : Value) (w : World) (h : NetAt Q w v caps paths) (hp : paths.length ≤ 1000000) :
    Calls Tryd.prog 38 #[v, .int .i64 link] w fun e w' => ∃ x, e = .returned x ∧ IntsAt (fun b => w.heap.size ≤ b) w' x (users paths link) ∧ Below w.heap.size w w' := by
  obtain ⟨v1, v2, rfl, h1, h2⟩ := h
  obtain ⟨a1, cap1, rfl, _, _⟩ := h1
  obtain ⟨a2, cap2, rfl, ⟨hm2, hn2⟩, h2⟩ := h2
  have H : Hid (∀ i, i < paths.length → ∃ b off x, a2 = some ⟨b, off, none⟩ ∧ w.cell? ⟨b, off + i, none⟩ = some x ∧ IntsAt Q w x (paths.getD i [])) := by
    intro i hi
    rcases h2 with rfl | ⟨b, off, rfl, h2, hQ⟩
    · simp at hi
    · obtain ⟨x, hx, hxi⟩ := h2 i hi
      exact ⟨b, off, x, rfl, hx, hxi⟩
  clear h2
  obtain ⟨i0, hi, hz0, hz1, hz2⟩ := info_parts infoInt
  go_enter Tryd.func38, Tryd.ntmps38
  go_wp2
  go_loopw [5, 6] (fun o i wr => ∃ k : Nat, k ≤ paths.length ∧ i = .int .i64 k ∧ wr.ownsRow (w.heap.size + 1) 3 1 o (users (paths.take k) link).length ((users (paths.take k) link).map (Value.int .i64)) ∧ Below (w.heap.size + 1) (w.alloc (.cells #[.slice a1 caps.length cap1, .slice a2 paths.length cap2] 45)) wr) (fun _ i _ => paths.length - (intOf i).toNat)
  case atStart => exact ⟨0, by omega, rfl, World.ownsRow_nil _ _ _ _, Below.refl _ _⟩
  case round =>
    obtain ⟨k, hk, rfl, hown, hbel⟩ := hrel
    have g1 : wr.cell? ⟨w.heap.size, 1, none⟩ = some (.slice a2 paths.length cap2) := (hbel.cell (p := ⟨w.heap.size, 1, none⟩) (by simp)).trans (by simp)
    have hlen := users_length link 0 (paths.take k)
    have hlen' : (users (paths.take k) link).length ≤ 1000000 := by
      unfold users
      rw [List.length_take] at hlen
      omega
    have HB : Hid (Below w.heap.size w wr) := ((Below.refl _ _).alloc (Nat.le_refl _) _).trans (hbel.mono (by omega))
    have hsz : w.heap.size + 1 ≤ wr.heap.size := by have := hbel.size; simpa using this
    clear hlen
    by_cases hlt : k < paths.length
    · obtain ⟨b, off, x, rfl, hx, hxi⟩ := H.out k hlt
      have hx' : wr.cell? ⟨b, off + k, none⟩ = some x := cell_later HB.out hx
      have hs := users_step paths link k hlt
      have HI := In_any (paths.getD k []) link x wr (hxi.later HB.out)
      generalize paths.getD k [] = pk at *
      generalize users (paths.take k) link = us at *
      obtain ⟨ai, capi, rfl, _⟩ := hxi
      cases hin : inB pk link with
      | true =>
        rw [hin] at HI hs
        have HS : Hid (users (paths.take (k + 1)) link = us ++ [(k : Int)]) := hs
        have HJ := (show Hid (Calls Tryd.prog 35 #[.slice ai pk.length capi, .int .i64 link] wr fun e w'' => e = .returned (.bool true) ∧ w'' = wr) from HI)
        have HO := (show Hid (wr.ownsRow (w.heap.size + 1) 3 1 _ us.length (us.map (Value.int .i64))) from hown)
        clear hs HI hin hx hown
        go_wp2_with fail
        refine HJ.out.mono ?_
        rintro e wr ⟨rfl, rfl⟩
        go_wp2_with (at_builtin; go_must (refine wpList_append_own _ rfl _ _ 27 rfl (w.heap.size + 1) 3 i0 (.int .i64 0) 1 8 Tryd.underlying27 hi hz0 hz1 hz2 rfl (by decide) _ _ _ rfl (HO.out.alloc _) ⟨wr.heap.size, 0, none⟩ 1 1 [.int .i64 (k : Int)] rfl rfl ?c1 ?c2 ?c3 ?c4 ?c5 ?_))
        case c1 =>
          intro j u hj
          match j, hj with
          | 0, hj => simp at hj; subst hj; simp [Addr.add]
        case c2 => intro u hu; simp at hu; subst hu; rfl
        case c3 => unfold maxLen; omega
        case c4 => omega
        case c5 => simp; omega
        intro v' w1 hown' hgrow _
        have R1 := rel_append hbel hsz HO.out hgrow
        have R2 : Hid (w1.ownsRow (w.heap.size + 1) 3 1 v' (users (paths.take (k + 1)) link).length ((users (paths.take (k + 1)) link).map (Value.int .i64))) := by
          show World.ownsRow _ _ _ _ _ _ _
          rw [HS.out]
          simpa using hown'
        clear hown' hgrow
        go_wp2
        go_roundw
        case rel => exact ⟨k + 1, by omega, by go_num, R2, R1⟩
        case measure => simp [intOf]; omega
      | false =>
        rw [hin] at HI hs
        have HS : Hid (users (paths.take (k + 1)) link = us) := by rw [hs]; simp [Hid]
        have HJ := (show Hid (Calls Tryd.prog 35 #[.slice ai pk.length capi, .int .i64 link] wr fun e w'' => e = .returned (.bool false) ∧ w'' = wr) from HI)
        have HO := (show Hid (wr.ownsRow (w.heap.size + 1) 3 1 _ us.length (us.map (Value.int .i64))) from hown)
        clear hs HI hin hx hown
        go_wp2_with fail
        refine HJ.out.mono ?_
        rintro e wr ⟨rfl, rfl⟩
        go_wp2
        go_roundw
        case rel => exact ⟨k + 1, by omega, by go_num, by rw [HS.out]; exact HO.out, hbel⟩
        case measure => simp [intOf]; omega
    · go_wp2
      go_ret
      rw [List.take_of_length_le (by omega)] at hown hlen'
      exact ⟨_, rfl, ints_of_owns (by omega) hown (fun g hg => by omega), HB.out⟩
end Ns
end Go.Proofs.YtdldgefahgojaakDoor
