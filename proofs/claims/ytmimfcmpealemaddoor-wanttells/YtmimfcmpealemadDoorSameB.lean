/- Package fairsame's Bools: are two lists of bools the same? -/
import Derived.Test.YtmimfcmpealemadDoorPlains
namespace Go.Proofs.YtmimfcmpealemadDoor
namespace Fl
open Go.RowKit Fr Ns Ld
set_option linter.unusedSimpArgs false
set_option linter.unusedVariables false

def eqB (a b : List Bool) : Bool := decide (a = b)
theorem eqB_self (a : List Bool) : eqB a a = true := by simp [eqB]
theorem eqB_take {a b : List Bool} (k : Nat) (h : a.take k = b.take k) (ha : a.length ≤ k) (hb : b.length ≤ k) : eqB a b = true := by
  rw [List.take_of_length_le ha, List.take_of_length_le hb] at h
  simp [eqB, h]
theorem eqB_ne {a b : List Bool} (k : Nat) (h : a.getD k false ≠ b.getD k false) : eqB a b = false := by
  simp only [eqB, decide_eq_false_iff_not]
  intro e; exact h (by rw [e])
theorem takeB_succ {a b : List Bool} {k : Nat} (ha : k < a.length) (hb : k < b.length) (h : a.take k = b.take k) (e : a.getD k false = b.getD k false) : a.take (k + 1) = b.take (k + 1) := by
  rw [take_snoc a k ha false, take_snoc b k hb false, h, e]

set_option maxHeartbeats 1000000 in
theorem SBools_any {Q R : Nat → Prop} (la lb : List Bool) (va vb : Value) (w : World) (ha : BoolsAt Q w va la) (hb : BoolsAt R w vb lb) :
    Calls Tryd.prog 15 #[va, vb] w fun e w' => e = .returned (.bool (eqB la lb)) ∧ ∃ n, w' = w.drewN n := by
  obtain ⟨aa, ca, rfl, ⟨hma, hna⟩, ha⟩ := ha
  obtain ⟨ab, cb, rfl, ⟨hmb, hnb⟩, hb⟩ := hb
  by_cases hl : la.length = lb.length
  · have q : ((la.length : Int) != (lb.length : Int)) = false := by simp [hl]
    have HA : Hid (∀ i, i < la.length → ∃ b off, aa = some ⟨b, off, none⟩ ∧ w.cell? ⟨b, off + i, none⟩ = some (.bool (la.getD i false))) := by
      intro i hi
      rcases ha with rfl | ⟨b, off, rfl, h, hQ⟩
      · simp at hi
      · exact ⟨b, off, rfl, h i hi⟩
    have HB : Hid (∀ i, i < lb.length → ∃ b off, ab = some ⟨b, off, none⟩ ∧ w.cell? ⟨b, off + i, none⟩ = some (.bool (lb.getD i false))) := by
      intro i hi
      rcases hb with rfl | ⟨b, off, rfl, h, hQ⟩
      · simp at hi
      · exact ⟨b, off, rfl, h i hi⟩
    have HL : Hid (la.length = lb.length) := hl
    have hl1 : la.length ≤ lb.length := by omega
    have hl2 : lb.length ≤ la.length := by omega
    clear ha hb hl
    go_enter Tryd.func15, Tryd.ntmps15
    go_wp2
    go_loopw [5] (fun i wr => ∃ k m : Nat, k ≤ la.length ∧ i = .int .i64 k ∧ Hid (wr = w.drewN m) ∧ Hid (la.take k = lb.take k)) (fun i _ => la.length - (intOf i).toNat)
    case atStart => exact ⟨0, 0, by omega, rfl, rfl, rfl⟩
    case round =>
      obtain ⟨k, m, hk, rfl, hw, hn⟩ := hrel
      by_cases hlt : k < la.length
      · obtain ⟨b1, o1, rfl, c1⟩ := HA.out k hlt
        obtain ⟨b2, o2, rfl, c2⟩ := HB.out k (by omega)
        have c1' : wr.cell? ⟨b1, o1 + k, none⟩ = some (.bool (la.getD k false)) := by rw [hw.out]; exact c1
        have c2' : wr.cell? ⟨b2, o2 + k, none⟩ = some (.bool (lb.getD k false)) := by rw [hw.out]; exact c2
        have hlt2 : (k : Int) < (lb.length : Int) := by omega
        by_cases hx : la.getD k false = lb.getD k false
        · have HN : Hid (la.take (k + 1) = lb.take (k + 1)) := takeB_succ hlt (by omega) hn.out hx
          rw [hx] at c1'
          clear c1 c2
          generalize lb.getD k false = x at *
          have qe : (x != x) = false := by simp
          clear hx
          go_wp2
          go_quiet (fail)
          go_wp2
          go_roundw
          case rel => exact ⟨k + 1, m + nq, by omega, by go_num, (show _ = _ by rw [hw.out]; simp), HN⟩
          case measure => simp [intOf]; omega
        · have HR : Hid (eqB la lb = false) := eqB_ne k hx
          clear c1 c2
          generalize la.getD k false = x at *
          generalize lb.getD k false = y at *
          have hxy : (x = true ∧ y = false) ∨ (x = false ∧ y = true) := by cases x <;> cases y <;> simp_all
          clear hx
          rcases hxy with ⟨rfl, rfl⟩ | ⟨rfl, rfl⟩
          all_goals
            go_wp2
            go_quiet (fail)
            go_wp2
            go_ret
            exact ⟨Ns.ret_bool HR.out.symm, m + nq, by rw [hw.out]; simp⟩
      · have HR : Hid (eqB la lb = true) := eqB_take k hn.out (by omega) (by omega)
        go_wp2
        go_ret
        exact ⟨Ns.ret_bool HR.out.symm, m, hw.out⟩
  · have q : ((la.length : Int) != (lb.length : Int)) = true := by simp; omega
    have HR : Hid (eqB la lb = false) := by show _ = _; simp only [eqB, decide_eq_false_iff_not]; intro e; exact hl (by rw [e])
    clear ha hb hl
    go_enter Tryd.func15, Tryd.ntmps15
    go_wp2
    go_ret
    exact ⟨Ns.ret_bool HR.out.symm, 0, rfl⟩
end Fl
end Go.Proofs.YtmimfcmpealemadDoor
