/- Pieces of one walk, one text behind the other. -/
import Derived.Test.YtpnmmmlckdkcdakGreatDoorPlains
/- The document's In (package fairref1) over slices that are only read. -/
namespace Go.Proofs.YtpnmmmlckdkcdakGreatDoor
namespace Ns
open Go.RowKit
set_option linter.unusedSimpArgs false
set_option linter.unusedVariables false

set_option maxHeartbeats 400000 in
theorem In_any {Q : Nat → Prop} (l : List Int) (n : Int) (v : Value) (w : World) (h : IntsAt Q w v l) :
    Calls Tryz.prog 89 #[v, .int .i64 n] w fun e w' => e = .returned (.bool (inB l n)) ∧ w' = w := by
  obtain ⟨a, cap, rfl, ⟨hm, hm2⟩, h⟩ := h
  rcases h with rfl | ⟨b, off, rfl, h, hQ⟩
  · go_enter Tryz.func89, Tryz.ntmps89
    go_wp2
    go_loop [5] (fun i => i = .int .i64 0) (fun _ => 0)
    case atStart => rfl
    case round =>
      subst hrel
      go_wp2
      go_ret
      exact ⟨ret_bool rfl, rfl⟩
  · obtain ⟨H⟩ : Nonempty (Hid (∀ i, i < l.length → w.cell? ⟨b, off + i, none⟩ = some (.int .i64 (l.getD i 0)))) := ⟨h⟩
    clear h
    go_enter Tryz.func89, Tryz.ntmps89
    go_wp2
    go_loop [5] (fun i => ∃ k : Nat, k ≤ l.length ∧ i = .int .i64 k ∧ Hid (inB (l.take k) n = false)) (fun i => l.length - (intOf i).toNat)
    case atStart => exact ⟨0, by omega, rfl, rfl⟩
    case round =>
      obtain ⟨k, hk, rfl, hn⟩ := hrel
      by_cases hlt : k < l.length
      · have hc := H.out k hlt
        have hs : Hid (inB (l.take (k + 1)) n = (inB (l.take k) n || l.getD k 0 == n)) := by show _ = _; rw [take_snoc l k hlt 0, inB_snoc]
        have hme : Hid (l.getD k 0 ∈ l) := getD_mem l k hlt 0
        generalize l.getD k 0 = x at hc hs hme
        by_cases hx : x = n
        · have q : (x == n) = true := beq_iff_eq.2 hx
          have HR : Hid (inB l n = true) := by rw [← hx]; exact inB_of_mem hme.out
          clear hx
          go_wp2
          go_ret
          exact ⟨ret_bool HR.out.symm, rfl⟩
        · have q : (x == n) = false := beq_eq_false_iff_ne.2 hx
          have HR : Hid (inB (l.take (k + 1)) n = false) := by show _ = _; rw [hs.out, hn.out, q]; rfl
          clear hx
          go_wp2
          go_round
          case rel => exact ⟨k + 1, by omega, by go_num, HR⟩
          case measure => simp [intOf]; omega
      · go_wp2
        go_ret
        refine ⟨ret_bool ?_, rfl⟩
        rw [← hn.out, List.take_of_length_le (by omega)]

end Ns
end Go.Proofs.YtpnmmmlckdkcdakGreatDoor

/- The document's Links (package fairref1) over slices that are only read. -/
namespace Go.Proofs.YtpnmmmlckdkcdakGreatDoor
namespace Ns
open Go.RowKit
set_option linter.unusedSimpArgs false
set_option linter.unusedVariables false

end Ns
end Go.Proofs.YtpnmmmlckdkcdakGreatDoor

/- The document's Path and Net (package fairref1) over lists that are only read. -/
namespace Go.Proofs.YtpnmmmlckdkcdakGreatDoor
namespace Ns
open Go.RowKit
set_option linter.unusedSimpArgs false
set_option linter.unusedVariables false

set_option maxHeartbeats 1000000 in
theorem Path_any {Q : Nat → Prop} (links : Int) (l : List Int) (v : Value) (w : World) (h : IntsAt Q w v l) :
    Calls Tryz.prog 54 #[.int .i64 links, v] w fun e w' => e = .returned (.int .i64 (pathE links l)) ∧ ∃ n, w' = w.drewN n := by
  obtain ⟨a, cap, rfl, ⟨hm, hm2⟩, h⟩ := h
  by_cases h0 : l.length = 0
  · have HR : Hid (pathE links l = 5) := by show _ = _; rw [pathE, if_pos h0]
    have q : ((l.length : Int) == 0) = true := by rw [h0]; rfl
    clear h h0
    go_enter Tryz.func54, Tryz.ntmps54
    go_wp2
    go_ret
    exact ⟨ret_int HR.out.symm, 0, rfl⟩
  · have q : ((l.length : Int) == 0) = false := beq_eq_false_iff_ne.2 (by omega)
    have HR : Hid (pathE links l = pathFrom links [] l) := by show _ = _; rw [pathE, if_neg h0]
    rcases h with rfl | ⟨b, off, rfl, h, hQ⟩
    · exact absurd rfl h0
    obtain ⟨H⟩ : Nonempty (Hid (∀ i, i < l.length → w.cell? ⟨b, off + i, none⟩ = some (.int .i64 (l.getD i 0)))) := ⟨h⟩
    clear h h0
    go_enter Tryz.func54, Tryz.ntmps54
    go_wp2
    go_loopw [5] (fun i wr => ∃ k m : Nat, k ≤ l.length ∧ i = .int .i64 k ∧ Hid (wr = w.drewN m) ∧ Hid (pathFrom links [] l = pathFrom links (l.take k) (l.drop k))) (fun i _ => l.length - (intOf i).toNat)
    case atStart => exact ⟨0, 0, by omega, rfl, rfl, rfl⟩
    case round =>
      obtain ⟨k, m, hk, rfl, hw, hn⟩ := hrel
      have hkc : (k : Int) ≤ (cap : Int) := by omega
      by_cases hlt : k < l.length
      · have hc : wr.cell? ⟨b, off + k, none⟩ = some (.int .i64 (l.getD k 0)) := by rw [hw.out]; exact H.out k hlt
        have hs : Hid (pathFrom links (l.take k) (l.drop k) = if l.getD k 0 < 0 ∨ links ≤ l.getD k 0 then 1 else if inB (l.take k) (l.getD k 0) then 7 else pathFrom links (l.take (k + 1)) (l.drop (k + 1))) := by
          show _ = _
          rw [drop_cons l k hlt 0, take_snoc l k hlt 0]; rfl
        have hin := fun (n : Nat) (x : Int) => In_any (Q := Q) (l.take k) x (.slice (some ⟨b, off, none⟩) k cap) (wr.drewN n) (by
          refine IntsAt.take hm hm2 ?_ k hk hQ
          intro i hi; rw [hw.out]; exact H.out i hi)
        generalize l.getD k 0 = x at hc hs
        have HI := (show Hid (∀ (n : Nat) (x : Int), Calls Tryz.prog 89 #[.slice (some ⟨b, off, none⟩) k cap, .int .i64 x] (wr.drewN n) fun e w'' => e = .returned (.bool (inB (l.take k) x)) ∧ w'' = wr.drewN n) from hin)
        clear hin
        by_cases hx1 : x < 0
        · have HE : Hid (pathE links l = 1) := by show _ = _; rw [HR.out, hn.out, hs.out, if_pos (.inl hx1)]
          go_wp2
          go_ret
          exact ⟨ret_int HE.out.symm, m, hw.out⟩
        · by_cases hx2 : links ≤ x
          · have HE : Hid (pathE links l = 1) := by show _ = _; rw [HR.out, hn.out, hs.out, if_pos (.inr hx2)]
            have hx2' : decide (links ≤ x) = true := by simpa using hx2
            go_wp2
            go_ret
            exact ⟨ret_int HE.out.symm, m, hw.out⟩
          · have hx2' : decide (links ≤ x) = false := by simpa using hx2
            cases hi : inB (l.take k) x with
            | true =>
              have HE : Hid (pathE links l = 7) := by show _ = _; rw [HR.out, hn.out, hs.out, if_neg (by omega), if_pos hi]
              have HJ : Hid (∀ n : Nat, Calls Tryz.prog 89 #[.slice (some ⟨b, off, none⟩) k cap, .int .i64 x] (wr.drewN n) fun e w'' => e = .returned (.bool true) ∧ w'' = wr.drewN n) := fun n => by
                have := HI.out n x
                rw [hi] at this
                exact this
              clear hi HI
              go_wp2
              go_quiet ((go_at_call 89; exact Calls.quiet_of_same (HJ.out _)))
              go_wp2
              go_ret
              refine ⟨ret_int HE.out.symm, m + nq, by rw [hw.out]; simp⟩
            | false =>
              have HE : Hid (pathFrom links [] l = pathFrom links (l.take (k + 1)) (l.drop (k + 1))) := by
                show _ = _
                rw [hn.out, hs.out, if_neg (by omega), if_neg (by rw [hi]; decide)]
              have HJ : Hid (∀ n : Nat, Calls Tryz.prog 89 #[.slice (some ⟨b, off, none⟩) k cap, .int .i64 x] (wr.drewN n) fun e w'' => e = .returned (.bool false) ∧ w'' = wr.drewN n) := fun n => by
                have := HI.out n x
                rw [hi] at this
                exact this
              clear hi HI
              go_wp2
              go_quiet ((go_at_call 89; exact Calls.quiet_of_same (HJ.out _)))
              go_wp2
              go_roundw
              case rel => exact ⟨k + 1, m + nq, by omega, by go_num, (show _ = _ by rw [hw.out]; simp), HE⟩
              case measure => simp [intOf]; omega
      · go_wp2
        go_ret
        refine ⟨ret_int ?_, m, hw.out⟩
        rw [HR.out, hn.out, List.drop_of_length_le (by omega)]
        rfl
end Ns
end Go.Proofs.YtpnmmmlckdkcdakGreatDoor

/- The document's Net (package fairref1) over a net that is only read. -/
namespace Go.Proofs.YtpnmmmlckdkcdakGreatDoor
namespace Ns
open Go.RowKit
set_option linter.unusedSimpArgs false
set_option linter.unusedVariables false

end Ns
end Go.Proofs.YtpnmmmlckdkcdakGreatDoor

/- The document's Users (package fairref1): a list that the call makes. -/
namespace Go.Proofs.YtpnmmmlckdkcdakGreatDoor
namespace Ns
open Go.RowKit
set_option linter.unusedSimpArgs false
set_option linter.unusedVariables false

set_option maxHeartbeats 400000 in
theorem RUsers_any {Q : Nat → Prop} (caps : List Int) (paths : List (List Int)) (link : Int) (v : Value) (w : World) (h : NetAt Q w v caps paths) (hp : paths.length ≤ 1000000) :
    Calls Tryz.prog 86 #[v, .int .i64 link] w fun e w' => ∃ x, e = .returned x ∧ IntsAt (fun b => w.heap.size ≤ b) w' x (users paths link) ∧ Below w.heap.size w w' := by
  obtain ⟨v1, v2, rfl, h1, h2⟩ := h
  obtain ⟨a1, cap1, rfl, _, _⟩ := h1
  obtain ⟨a2, cap2, rfl, ⟨hm2, hn2⟩, h2⟩ := h2
  have H : Hid (∀ i, i < paths.length → ∃ b off x, a2 = some ⟨b, off, none⟩ ∧ w.cell? ⟨b, off + i, none⟩ = some x ∧ IntsAt Q w x (paths.getD i [])) := by
    intro i hi
    rcases h2 with rfl | ⟨b, off, rfl, h2, hQ⟩
    · simp at hi
    · obtain ⟨x, hx, hxi⟩ := h2 i hi
      exact ⟨b, off, x, rfl, hx, hxi⟩
  clear h2
  obtain ⟨i0, hi, hz0, hz1, hz2⟩ := info_parts infoInt
  go_enter Tryz.func86, Tryz.ntmps86
  go_wp2
  go_loopw [5, 6] (fun o i wr => ∃ k : Nat, k ≤ paths.length ∧ i = .int .i64 k ∧ wr.ownsRow (w.heap.size + 1) 3 1 o (users (paths.take k) link).length ((users (paths.take k) link).map (Value.int .i64)) ∧ Below (w.heap.size + 1) (w.alloc (.cells #[.slice a1 caps.length cap1, .slice a2 paths.length cap2] 37)) wr) (fun _ i _ => paths.length - (intOf i).toNat)
  case atStart => exact ⟨0, by omega, rfl, World.ownsRow_nil _ _ _ _, Below.refl _ _⟩
  case round =>
    obtain ⟨k, hk, rfl, hown, hbel⟩ := hrel
    have g1 : wr.cell? ⟨w.heap.size, 1, none⟩ = some (.slice a2 paths.length cap2) := (hbel.cell (p := ⟨w.heap.size, 1, none⟩) (by simp)).trans (by simp)
    have hlen := users_length link 0 (paths.take k)
    have hlen' : (users (paths.take k) link).length ≤ 1000000 := by
      unfold users
      rw [List.length_take] at hlen
      omega
    have HB : Hid (Below w.heap.size w wr) := ((Below.refl _ _).alloc (Nat.le_refl _) _).trans (hbel.mono (by omega))
    have hsz : w.heap.size + 1 ≤ wr.heap.size := by have := hbel.size; simpa using this
    clear hlen
    by_cases hlt : k < paths.length
    · obtain ⟨b, off, x, rfl, hx, hxi⟩ := H.out k hlt
      have hx' : wr.cell? ⟨b, off + k, none⟩ = some x := cell_later HB.out hx
      have hs := users_step paths link k hlt
      have HI := In_any (paths.getD k []) link x wr (hxi.later HB.out)
      generalize paths.getD k [] = pk at *
      generalize users (paths.take k) link = us at *
      obtain ⟨ai, capi, rfl, _⟩ := hxi
      cases hin : inB pk link with
      | true =>
        rw [hin] at HI hs
        have HS : Hid (users (paths.take (k + 1)) link = us ++ [(k : Int)]) := hs
        have HJ := (show Hid (Calls Tryz.prog 89 #[.slice ai pk.length capi, .int .i64 link] wr fun e w'' => e = .returned (.bool true) ∧ w'' = wr) from HI)
        have HO := (show Hid (wr.ownsRow (w.heap.size + 1) 3 1 _ us.length (us.map (Value.int .i64))) from hown)
        clear hs HI hin hx hown
        go_wp2_with fail
        refine HJ.out.mono ?_
        rintro e wr ⟨rfl, rfl⟩
        go_wp2_with (at_builtin; go_must (refine wpList_append_own _ rfl _ _ 22 rfl (w.heap.size + 1) 3 i0 (.int .i64 0) 1 8 Tryz.underlying22 hi hz0 hz1 hz2 rfl (by decide) _ _ _ rfl (HO.out.alloc _) ⟨wr.heap.size, 0, none⟩ 1 1 [.int .i64 (k : Int)] rfl rfl ?c1 ?c2 ?c3 ?c4 ?c5 ?_))
        case c1 =>
          intro j u hj
          match j, hj with
          | 0, hj => simp at hj; subst hj; simp [Addr.add]
        case c2 => intro u hu; simp at hu; subst hu; rfl
        case c3 => unfold maxLen; omega
        case c4 => omega
        case c5 => simp; omega
        intro v' w1 hown' hgrow _
        have R1 := rel_append hbel hsz HO.out hgrow
        have R2 : Hid (w1.ownsRow (w.heap.size + 1) 3 1 v' (users (paths.take (k + 1)) link).length ((users (paths.take (k + 1)) link).map (Value.int .i64))) := by
          show World.ownsRow _ _ _ _ _ _ _
          rw [HS.out]
          simpa using hown'
        clear hown' hgrow
        go_wp2
        go_roundw
        case rel => exact ⟨k + 1, by omega, by go_num, R2, R1⟩
        case measure => simp [intOf]; omega
      | false =>
        rw [hin] at HI hs
        have HS : Hid (users (paths.take (k + 1)) link = us) := by rw [hs]; simp [Hid]
        have HJ := (show Hid (Calls Tryz.prog 89 #[.slice ai pk.length capi, .int .i64 link] wr fun e w'' => e = .returned (.bool false) ∧ w'' = wr) from HI)
        have HO := (show Hid (wr.ownsRow (w.heap.size + 1) 3 1 _ us.length (us.map (Value.int .i64))) from hown)
        clear hs HI hin hx hown
        go_wp2_with fail
        refine HJ.out.mono ?_
        rintro e wr ⟨rfl, rfl⟩
        go_wp2
        go_roundw
        case rel => exact ⟨k + 1, by omega, by go_num, by rw [HS.out]; exact HO.out, hbel⟩
        case measure => simp [intOf]; omega
    · go_wp2
      go_ret
      rw [List.take_of_length_le (by omega)] at hown hlen'
      exact ⟨_, rfl, ints_of_owns (by omega) hown (fun g hg => by omega), HB.out⟩
end Ns
end Go.Proofs.YtpnmmmlckdkcdakGreatDoor
