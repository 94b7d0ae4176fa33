/- Package log's records: the whole records among some bytes, one behind the other, as an iterator hands them on. -/
import Derived.Test.YtpnmmmlckdkcdakGreatDoorPlains
import Derived.RangeFuncNested
import Derived.RangeFuncBound
import Derived.RangeFuncCalls
import Derived.RangeFuncLeaves
import Derived.Shelf.Abstract
import Derived.Shelf.RegionOpen
import Derived.OwnWalkIn
import Derived.TacticsInMore
import Derived.LoopNIn
import Derived.LoopIn
import Derived.Lib.MinMax
namespace Go.Proofs.YtpnmmmlckdkcdakGreatDoor
namespace Ev
open Go.RowKit Go.Shelf Ns Fl
set_option linter.unusedSimpArgs false
set_option linter.unusedVariables false
attribute [local go_sem] Oper.semAt_some

theorem lrecords_any (a : Option Addr) (n c : Nat) (u : World) : Calls Tryz.prog 30 #[.slice a n c] u fun e w' => e = .returned (.func (.func 63) #[] #[.pointer (some ⟨u.heap.size, 0, none⟩)]) ∧ w' = u.alloc (.cells #[.slice a n c] 62) := by
  go_enter Tryz.func30, Tryz.ntmps30
  go_wp2
  go_ret
  exact ⟨rfl, rfl⟩
def lenV : Value → Nat
  | .slice _ n _ => n
  | _ => 0
/-- the blocks that the iterator reads -/
def recG (Bb gb H : Nat) (b : Nat) : Prop := b = Bb ∨ (0 < H ∧ b = gb)
set_option maxRecDepth 100000 in
set_option maxHeartbeats 4000000 in
theorem lrecs_go (Bb gb H cb N : Nat) (A : Option Addr) (B : List Nat) (P : Nat → Nat) (w : World) (hb : w.cell? ⟨Bb, 0, none⟩ = some (.slice A H cb)) (hA : 0 < H → A = some ⟨gb, 0, none⟩)
    (hc : ∀ k, k < H → w.cell? ⟨gb, k, none⟩ = some (.int .u8 (B.getD k 0 : Nat))) (hl : H ≤ cb) (hcm : cb ≤ 9223372036854775807) (hm : H ≤ 1000000) (hB : ∀ k, B.getD k 0 ≤ 255)
    (hP0 : P 0 = 0) (hP : ∀ k, k < N → P (k + 1) = P k + (1 + max (B.getD (P k) 0) 1) ∧ P (k + 1) ≤ H) (hN : P N ≤ H) (hE : P N < H → H < P N + (1 + max (B.getD (P N) 0) 1)) :
    SeqGo Tryz.prog 63 #[.pointer (some ⟨Bb, 0, none⟩)] (fun k => #[.slice (some ⟨gb, P k, none⟩) (P (k + 1) - P k) (cb - P k)]) N (recG Bb gb H) (fun _ => False) w := by
  intro l J Jx W hW hJ hJx hY h0
  have hbl : Bb < w.heap.size := World.block_lt_of_cell? _ _ hb
  have HPk : ∀ k, k ≤ N → P k ≤ H := fun k hk => by
    by_cases e : k = N
    · subst e; exact hN
    · have := hP k (by omega); omega
  refine callsIn_of_wp Tryz.func63 rfl trivial ?_ rfl
  simp only [Tryz.ntmps63, List.size_toArray, List.length_cons, List.length_nil, Nat.reduceAdd, Nat.reduceSub, Array.replicate_succ, Array.replicate_zero, List.push_toArray, List.append_toArray, List.nil_append, List.cons_append]
  have hbW : W.cell? ⟨Bb, 0, none⟩ = some (.slice A H cb) := cell_later hW hb
  have HP : Hid (∀ k, k < N → P (k + 1) = P k + (1 + max (B.getD (P k) 0) 1) ∧ P (k + 1) ≤ H) := hP
  have HE : Hid (P N < H → H < P N + (1 + max (B.getD (P N) 0) 1)) := hE
  have HPL : Hid (∀ k, k ≤ N → P k ≤ H) := HPk
  have HA : Hid (0 < H → A = some ⟨gb, 0, none⟩) := hA
  have HC : Hid (∀ wr, Stays (recG Bb gb H) w wr → ∀ k, k < H → wr.cell? ⟨gb, k, none⟩ = some (.int .u8 (B.getD k 0 : Nat))) := fun wr hs k hk => by
    rw [World.cell?_of_block (w := w) (a := ⟨gb, k, none⟩) (hs gb (.inr ⟨by omega, rfl⟩))]
    exact hc k hk
  have HP0 : Hid (P 0 = 0) := hP0
  have HB : Hid (∀ k, B.getD k 0 ≤ 255) := hB
  have HS0 : Hid (Stays (recG Bb gb H) w W) := fun b hb' => hW.block b (by
    rcases hb' with rfl | ⟨h, rfl⟩
    · exact hbl
    · exact World.block_lt_of_cell? _ _ (hc 0 h))
  clear hP hE HPk hA hc hP0 hB hN
  gi_wp2
  gi_loopw [3, 4] (fun s3 _ wr => ∃ (k : Nat) (X : Option Addr), k ≤ N ∧ s3 = .slice X (H - P k) (cb - P k) ∧ Hid (P k < H → X = some ⟨gb, P k, none⟩) ∧ J k wr ∧ Stays (recG Bb gb H) w wr) (fun s3 _ _ => lenV s3)
  case atStart => exact ⟨0, A, by omega, by rw [HP0.out]; rfl, fun h => by rw [HP0.out] at h ⊢; exact HA.out h, h0, HS0.out⟩
  case round =>
    obtain ⟨k, X, hk, rfl, hX, hJs, hbw⟩ := hrel
    have hle := HPL.out k hk
    by_cases hlt : P k < H
    · obtain rfl := hX.out hlt
      have c0 := HC.out _ hbw (P k) hlt
      have hq := HB.out (P k)
      by_cases hkn : k < N
      · obtain ⟨y1, y2⟩ := HP.out k hkn
        obtain ⟨fn, tmps, assign, body, hy, hR⟩ := hY k wr hkn hJs
        rw [y1] at hy y2
        rw [Nat.add_sub_cancel_left] at hy
        have HY1 : Hid (P (k + 1) = P k + (1 + max (B.getD (P k) 0) 1)) := y1
        clear y1
        generalize B.getD (P k) 0 = q at *
        generalize hpk : P k = p at *
        obtain ⟨z, hz⟩ : ∃ z, z = 1 + max q 1 := ⟨_, rfl⟩
        have q1 : IntKind.i64.wrap (q : Int) = q := by rw [IntKind.wrap_i64]; omega
        have q2 : IntKind.i64.wrap (1 + max (q : Int) 1) = (z : Int) := by rw [IntKind.wrap_i64]; omega
        have q3 : ¬ H - p < z := by omega
        have q4 : z ≤ cb - p := by omega
        have q5 : z ≤ H - p := by omega
        have z1 : 1 ≤ z := by omega
        have q6 : 0 < H - p := by omega
        rw [← hz] at hy HY1 y2
        clear hz
        gi_wp2
        refine hR.mono ?_
        rintro e W3 (⟨rfl, hJ3, hk3⟩ | ⟨rfl, hJx3⟩)
        · have hb3 : Stays (recG Bb gb H) w W3 := hbw.trans hk3
          by_cases hcz : cb - p = z
          · gi_wp2
            go_roundw
            case rel =>
              refine ⟨k + 1, some ⟨gb, p, none⟩, by omega, ?_, fun h => by rw [HY1.out] at h; omega, hJ3, hb3⟩
              rw [HY1.out]
              simp
              omega
            case measure => simp [lenV]; omega
          · gi_wp2
            go_roundw
            case rel =>
              refine ⟨k + 1, some ⟨gb, p + z, none⟩, by omega, ?_, fun h => by rw [HY1.out], hJ3, hb3⟩
              rw [HY1.out]
              simp
              omega
            case measure => simp [lenV]; omega
        · gi_wp2
          refine bodyPost_ret (results_none rfl _ _ _) rfl ?_
          exact ⟨⟨_, rfl⟩, .inr ⟨k + 1, by omega, hJx3⟩⟩
      · obtain rfl : k = N := by omega
        have hE := HE.out hlt
        generalize B.getD (P k) 0 = q at *
        generalize hpk : P k = p at *
        obtain ⟨z, hz⟩ : ∃ z, z = 1 + max q 1 := ⟨_, rfl⟩
        have q1 : IntKind.i64.wrap (q : Int) = q := by rw [IntKind.wrap_i64]; omega
        have q2 : IntKind.i64.wrap (1 + max (q : Int) 1) = (z : Int) := by rw [IntKind.wrap_i64]; omega
        have q3 : H - p < z := by omega
        have q6 : 0 < H - p := by omega
        clear hz hE
        gi_wp2
        refine ⟨fun _ h => (by cases h), ?_⟩
        gi_wp2
        refine bodyPost_ret (results_none rfl _ _ _) rfl ?_
        exact ⟨⟨_, rfl⟩, .inl hJs⟩
    · have hkN : k = N := by
        by_cases e : k = N
        · exact e
        · have := HP.out k (by omega); omega
      subst hkN
      have q6 : H - P k = 0 := by omega
      rw [q6]
      gi_wp2
      go_end0
      exact ⟨⟨_, rfl⟩, .inl hJs⟩
end Ev
end Go.Proofs.YtpnmmmlckdkcdakGreatDoor
