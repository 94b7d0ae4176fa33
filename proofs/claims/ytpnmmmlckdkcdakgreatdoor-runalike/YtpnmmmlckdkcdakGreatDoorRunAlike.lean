/- The law RunAlike returns true for every input, from what is asked of package run's Run: so many flows over one link get each as much. -/
import Derived.Test.YtpnmmmlckdkcdakGreatDoorPlains
import Derived.Test.YtpnmmmlckdkcdakGreatDoorRCut
import Derived.Test.YtpnmmmlckdkcdakGreatDoorRDig
import Derived.Test.YtpnmmmlckdkcdakGreatDoorRefLo
import Derived.Deep.RegionHeld3
namespace Go.Proofs.YtpnmmmlckdkcdakGreatDoor
namespace Ev
open Go.RowKit Fr Ns Ld Fl
set_option linter.unusedSimpArgs false
set_option linter.unusedVariables false

theorem alikeQ_len (k : Nat) : (alikeQ k).length = 6 * k := by
  induction k with
  | zero => rfl
  | succ k ih => rw [alikeQ, List.length_append, ih]; simp [alikeOne]; omega
theorem alike_run (m : Nat) (h1 : 1 ≤ m) (h6 : m ≤ 6) : (runT (alikeQ m ++ leastOne)).length ≤ 1000000 := by
  have h : m = 1 ∨ m = 2 ∨ m = 3 ∨ m = 4 ∨ m = 5 ∨ m = 6 := by omega
  rcases h with rfl | rfl | rfl | rfl | rfl | rfl <;> decide +kernel
theorem alike_low (m : Nat) (h1 : 1 ≤ m) (h6 : m ≤ 6) : 0 ≤ lowT 12 (m : Int) ∧ lowT 12 (m : Int) < 1000000000000000000 ∧ 0 ≤ lowB 12 (m : Int) ∧ lowB 12 (m : Int) < 1000000000000000000 := by
  have h : m = 1 ∨ m = 2 ∨ m = 3 ∨ m = 4 ∨ m = 5 ∨ m = 6 := by omega
  rcases h with rfl | rfl | rfl | rfl | rfl | rfl <;> decide +kernel
theorem bytes_app (a b : Txt) : (⟨a.toArray⟩ : ByteArray) ++ ⟨b.toArray⟩ = ⟨(a ++ b).toArray⟩ := by
  apply ByteArray.ext
  simp

set_option maxRecDepth 100000 in
set_option maxHeartbeats 4000000 in
theorem runAlike_walk (m : Int) (w : World) (hR : RunAt w) :
    Calls Tryz.prog 6 #[.int .i64 m] w fun e w' => e = .returned (.bool true) ∧ Below w.heap.size w w' := by
  by_cases hm : 1 ≤ m ∧ m ≤ 6
  · obtain ⟨n, rfl⟩ : ∃ n : Nat, m = n := ⟨m.toNat, by omega⟩
    have hn1 : 1 ≤ n := by omega
    have hn6 : n ≤ 6 := by omega
    have HR : Hid (∀ u : World, Below w.heap.size w u → Calls Tryz.prog 21 #[.string ((⟨(alikeQ n).toArray⟩ : ByteArray) ++ ⟨#[108, 101, 97, 115, 116, 10]⟩)] u fun e w' => e = .returned (.string ⟨(runT (alikeQ n ++ leastOne)).toArray⟩) ∧ Below u.heap.size u w') := fun u hu => by
      have := hR (alikeQ n ++ leastOne) u hu (by rw [List.length_append, alikeQ_len]; simp [leastOne]; omega)
      rwa [← bytes_app] at this
    have HC : Hid (∀ u : World, Calls Tryz.prog 22 #[.string ⟨(runT (alikeQ n ++ leastOne)).toArray⟩, .int .u8 10] u fun e w' => ∃ v, e = .returned v ∧ StrsAt (fun b => u.heap.size ≤ b) w' v (cutB 10 (runT (alikeQ n ++ leastOne))) ∧ Below u.heap.size u w') := fun u => RCut_any _ 10 u (alike_run n hn1 hn6)
    obtain ⟨f1, f2⟩ := alike_fact n hn1 hn6
    obtain ⟨q1, q2, q3, q4⟩ := alike_low n hn1 hn6
    have HLo : Hid (∀ u : World, Calls Tryz.prog 25 #[.int .i64 12, .int .i64 n] u fun e w' => e = .returned (.agg #[.int .i64 (lowT 12 n), .int .i64 (lowB 12 n)]) ∧ Below u.heap.size u w') := fun u => Low_any 12 n u (by decide) (by decide) (by omega) (by omega)
    have HTo : Hid (∀ u : World, Calls Tryz.prog 24 #[.agg #[.int .i64 (lowT 12 n), .int .i64 (lowB 12 n)]] u fun e w' => e = .returned (.string ⟨(toldT (lowT 12 (n : Int), lowB 12 (n : Int))).toArray⟩) ∧ Below u.heap.size u w') := fun u => RTold_any (lowT 12 n, lowB 12 n) u q1 q2 q3 q4
    have HQ : Hid (∀ k, (⟨(alikeQ k).toArray⟩ : ByteArray) ++ ⟨#[97, 100, 100, 32, 48, 10]⟩ = ⟨(alikeQ (k + 1)).toArray⟩) := fun k => by show _ = _; rw [show alikeQ (k + 1) = alikeQ k ++ alikeOne from rfl, ← bytes_app]; rfl
    have HQL : Hid (∀ k, (alikeQ k).length = 6 * k) := alikeQ_len
    have HQ0 : Hid (alikeQ 0 = []) := rfl
    generalize lowT 12 (n : Int) = lt at *
    generalize lowB 12 (n : Int) = lb at *
    generalize toldT (lt, lb) = TT at *
    generalize runT (alikeQ n ++ leastOne) = RR at *
    generalize cutB 10 RR = CC at *
    have F1 : Hid (CC.length = n + 2) := f1
    have F2 : Hid (CC.getD n [] = TT) := f2
    obtain ⟨QQ, hQQ⟩ : ∃ Q : Nat → Txt, ∀ k, alikeQ k = Q k := ⟨_, fun _ => rfl⟩
    simp only [hQQ] at HR HQ HQL HQ0
    clear f1 f2 q1 q2 q3 q4 hQQ hR
    go_enter Tryz.func6, Tryz.ntmps6
    go_wp2
    go_loop [4, 5] (fun st si => ∃ k : Nat, k ≤ n ∧ si = .int .i64 k ∧ st = .string ⟨(QQ k).toArray⟩) (fun _ si => n - (intOf si).toNat)
    case atStart => exact ⟨0, by omega, rfl, by rw [HQ0.out]⟩
    case round =>
      obtain ⟨k, hk, rfl, rfl⟩ := hrel
      have hl := HQL.out k
      by_cases hlt : k < n
      · have HE := HQ.out k
        have HE1 : Hid ((⟨(QQ k).toArray⟩ : ByteArray) ++ ⟨#[97, 100, 100, 32, 48, 10]⟩ = ⟨(QQ (k + 1)).toArray⟩) := HE
        clear HE
        have hl2 : (QQ k).length ≤ 1000 := by omega
        clear hl
        go_wp2
        go_round
        case rel => exact ⟨k + 1, by omega, by go_num, by rw [HE1.out]⟩
        case measure => simp [intOf]; omega
      · obtain rfl : k = n := by omega
        have hl2 : (QQ k).length ≤ 1000 := by omega
        clear hl
        go_wp2_with fail
        refine (HR.out _ (Below.refl _ _)).mono ?_
        rintro e w1 ⟨rfl, hw1⟩
        have B1 : Hid (Below w.heap.size w w1) := hw1
        clear hw1
        go_wp2_with fail
        refine (HC.out _).mono ?_
        rintro e w2 ⟨v, rfl, hv, hw2⟩
        have B2 : Hid (Below w.heap.size w w2) := Bel.call B1.out (Nat.le_refl _) hw2
        clear hw2
        obtain ⟨a, cap, rfl, hm2, _⟩ := id hv
        obtain ⟨b, off, rfl, hc⟩ := strs_cells hv k (by rw [F1.out]; omega)
        rw [F2.out] at hc
        have c0 := hc _ (Below.refl _ _)
        have HCe : Hid (∀ u : World, Below w2.heap.size w2 u → u.cell? ⟨b, off + k, none⟩ = some (.string ⟨TT.toArray⟩)) := hc
        clear hc hv
        have hlen : CC.length = k + 2 := F1.out
        clear hm2
        generalize CC.length = L at *
        have hgd : ((L : Int) == (k : Int) + 2) = true := by rw [hlen]; simp
        have hix : k < L := by omega
        have hix2 : (k : Int) < (L : Int) := by omega
        clear hlen
        have hgw : IntKind.i64.wrap ((k : Int) + 2) = (k : Int) + 2 := by rw [IntKind.wrap_i64]; omega
        go_wp2_with fail
        have P1 : Hid (Below w2.heap.size w2 w2.drew) := (Below.refl _ _).drew
        go_region_held3 (fun u => u.cell? ⟨b, off + k, none⟩ = some (.string ⟨TT.toArray⟩))
          ((refine HCe.out _ ?_; first | exact P1.out | exact Hb3.out | exact Hb4.out))
          (first | (go_at_call 25; refine (HLo.out _).mono ?_; rintro e w3 ⟨rfl, hw3⟩; have Hb3 : Hid (Below w2.heap.size w2 w3) := Bel.call P1.out (Nat.le_refl _) hw3) | (go_at_call 24; refine (HTo.out _).mono ?_; rintro e w4 ⟨rfl, hw4⟩; have Hb4 : Hid (Below w2.heap.size w2 w4) := Bel.call Hb3.out (Nat.le_refl _) hw4))
        all_goals
          have B4 : Hid (Below w.heap.size w w4) := Bel.call B2.out (Nat.le_refl _) Hb4.out
          go_wp2
          go_ret
          exact ⟨rfl, B4.out⟩
  · have HR : Hid (∀ u : World, Below w.heap.size w u → Calls Tryz.prog 21 #[.string ⟨#[97, 100, 100, 32, 52, 10]⟩] u fun e w' => e = .returned (.string ⟨#[69, 114, 114, 82, 97, 110, 103, 101, 10]⟩) ∧ Below u.heap.size u w') := fun u hu => by
      have := hR [97, 100, 100, 32, 52, 10] u hu (by decide)
      rwa [alike_4] at this
    clear hR
    by_cases h1 : m < 1
    · go_enter Tryz.func6, Tryz.ntmps6
      go_wp2_with fail
      refine (HR.out _ (Below.refl _ _)).mono ?_
      rintro e w1 ⟨rfl, hw1⟩
      have B1 : Hid (Below w.heap.size w w1) := hw1
      clear hw1
      go_wp2
      go_ret
      exact ⟨rfl, B1.out⟩
    · have h6 : 6 < m := by omega
      go_enter Tryz.func6, Tryz.ntmps6
      go_wp2_with fail
      refine (HR.out _ (Below.refl _ _)).mono ?_
      rintro e w1 ⟨rfl, hw1⟩
      have B1 : Hid (Below w.heap.size w w1) := hw1
      clear hw1
      go_wp2
      go_ret
      exact ⟨rfl, B1.out⟩
end Ev
end Go.Proofs.YtpnmmmlckdkcdakGreatDoor
