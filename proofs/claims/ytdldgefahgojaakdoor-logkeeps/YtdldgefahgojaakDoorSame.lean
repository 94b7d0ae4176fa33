/- Package fairsame's Lists: are two lists of lists the same? -/
import Derived.Test.YtdldgefahgojaakDoorSameI
namespace Go.Proofs.YtdldgefahgojaakDoor
namespace Ns
open Go.RowKit
set_option linter.unusedSimpArgs false
set_option linter.unusedVariables false

def eqL (a b : List (List Int)) : Bool := decide (a = b)
theorem eqL_len {a b : List (List Int)} (h : a.length ≠ b.length) : eqL a b = false := by
  simp only [eqL, decide_eq_false_iff_not]
  intro e; exact h (by rw [e])
theorem eqL_take {a b : List (List Int)} (k : Nat) (h : a.take k = b.take k) (ha : a.length ≤ k) (hb : b.length ≤ k) : eqL a b = true := by
  rw [List.take_of_length_le ha, List.take_of_length_le hb] at h
  simp [eqL, h]
theorem eqL_ne {a b : List (List Int)} (k : Nat) (h : a.getD k [] ≠ b.getD k []) : eqL a b = false := by
  simp only [eqL, decide_eq_false_iff_not]
  intro e; exact h (by rw [e])

set_option maxHeartbeats 1000000 in
theorem SLists_any {Q R : Nat → Prop} (la lb : List (List Int)) (va vb : Value) (w : World) (ha : ListsAt Q w va la) (hb : ListsAt R w vb lb) :
    Calls Tryd.prog 21 #[va, vb] w fun e w' => e = .returned (.bool (eqL la lb)) ∧ ∃ n, w' = w.drewN n := by
  obtain ⟨aa, ca, rfl, ⟨hma, hna⟩, ha⟩ := ha
  obtain ⟨ab, cb, rfl, ⟨hmb, hnb⟩, hb⟩ := hb
  by_cases hl : la.length = lb.length
  · have q : ((la.length : Int) != (lb.length : Int)) = false := by simp [hl]
    have HA : Hid (∀ i, i < la.length → ∃ b off x, aa = some ⟨b, off, none⟩ ∧ w.cell? ⟨b, off + i, none⟩ = some x ∧ IntsAt Q w x (la.getD i [])) := by
      intro i hi
      rcases ha with rfl | ⟨b, off, rfl, h, hQ⟩
      · simp at hi
      · obtain ⟨x, h1, h2⟩ := h i hi
        exact ⟨b, off, x, rfl, h1, h2⟩
    have HB : Hid (∀ i, i < lb.length → ∃ b off x, ab = some ⟨b, off, none⟩ ∧ w.cell? ⟨b, off + i, none⟩ = some x ∧ IntsAt R w x (lb.getD i [])) := by
      intro i hi
      rcases hb with rfl | ⟨b, off, rfl, h, hQ⟩
      · simp at hi
      · obtain ⟨x, h1, h2⟩ := h i hi
        exact ⟨b, off, x, rfl, h1, h2⟩
    have hl1 : la.length ≤ lb.length := by omega
    have hl2 : lb.length ≤ la.length := by omega
    clear ha hb hl
    go_enter Tryd.func21, Tryd.ntmps21
    go_wp2
    go_loopw [5] (fun i wr => ∃ k m : Nat, k ≤ la.length ∧ i = .int .i64 k ∧ Hid (wr = w.drewN m) ∧ Hid (la.take k = lb.take k)) (fun i _ => la.length - (intOf i).toNat)
    case atStart => exact ⟨0, 0, by omega, rfl, rfl, rfl⟩
    case round =>
      obtain ⟨k, m, hk, rfl, hw, hn⟩ := hrel
      by_cases hlt : k < la.length
      · obtain ⟨b1, o1, x1, rfl, c1, i1⟩ := HA.out k hlt
        obtain ⟨b2, o2, x2, rfl, c2, i2⟩ := HB.out k (by omega)
        have c1' : wr.cell? ⟨b1, o1 + k, none⟩ = some x1 := by rw [hw.out]; exact c1
        have c2' : wr.cell? ⟨b2, o2 + k, none⟩ = some x2 := by rw [hw.out]; exact c2
        have hlt2 : (k : Int) < (lb.length : Int) := by omega
        have HC := fun n : Nat => SInts_any (la.getD k []) (lb.getD k []) x1 x2 (wr.drewN n) (i1.later (by rw [hw.out]; exact below_drewN (below_drewN (Below.refl _ _) _) _)) (i2.later (by rw [hw.out]; exact below_drewN (below_drewN (Below.refl _ _) _) _))
        by_cases hx : la.getD k [] = lb.getD k []
        · have HN : Hid (la.take (k + 1) = lb.take (k + 1)) := take_eq_succ [] hlt (by omega) hn.out hx
          have HD : Hid (∀ n : Nat, Calls Tryd.prog 36 #[x1, x2] (wr.drewN n) fun e w' => e = .returned (.bool true) ∧ ∃ m, w' = (wr.drewN n).drewN m) := fun n => by
            have := HC n
            rw [show eqI (la.getD k []) (lb.getD k []) = true by rw [hx]; simp [eqI]] at this
            exact this
          obtain ⟨y1, z1, rfl, _⟩ := i1
          obtain ⟨y2, z2, rfl, _⟩ := i2
          generalize la.getD k [] = g1 at *
          generalize lb.getD k [] = g2 at *
          clear c1 c2 HC hx
          go_wp2
          go_quiet ((go_at_call 36; exact Calls.quiet_of (HD.out _)))
          go_wp2
          go_roundw
          case rel => exact ⟨k + 1, m + nq, by omega, by go_num, (show _ = _ by rw [hw.out]; simp), HN⟩
          case measure => simp [intOf]; omega
        · have HR : Hid (eqL la lb = false) := eqL_ne k hx
          have HD : Hid (∀ n : Nat, Calls Tryd.prog 36 #[x1, x2] (wr.drewN n) fun e w' => e = .returned (.bool false) ∧ ∃ m, w' = (wr.drewN n).drewN m) := fun n => by
            have := HC n
            rw [show eqI (la.getD k []) (lb.getD k []) = false by simp only [eqI, decide_eq_false_iff_not]; exact hx] at this
            exact this
          obtain ⟨y1, z1, rfl, _⟩ := i1
          obtain ⟨y2, z2, rfl, _⟩ := i2
          generalize la.getD k [] = g1 at *
          generalize lb.getD k [] = g2 at *
          clear c1 c2 HC hx
          go_wp2
          go_quiet ((go_at_call 36; exact Calls.quiet_of (HD.out _)))
          go_wp2
          go_ret
          exact ⟨ret_bool HR.out.symm, m + nq, by rw [hw.out]; simp⟩
      · have HR : Hid (eqL la lb = true) := eqL_take k hn.out (by omega) (by omega)
        go_wp2
        go_ret
        exact ⟨ret_bool HR.out.symm, m, hw.out⟩
  · have q : ((la.length : Int) != (lb.length : Int)) = true := by simp; omega
    have HR : Hid (eqL la lb = false) := eqL_len hl
    clear ha hb hl
    go_enter Tryd.func21, Tryd.ntmps21
    go_wp2
    go_ret
    exact ⟨ret_bool HR.out.symm, 0, rfl⟩
end Ns
end Go.Proofs.YtdldgefahgojaakDoor
