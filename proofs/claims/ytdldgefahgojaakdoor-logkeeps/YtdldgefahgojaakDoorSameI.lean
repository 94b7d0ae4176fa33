/- Package fairsame's Ints: are two lists the same? -/
import Derived.Test.YtdldgefahgojaakDoorPlains
namespace Go.Proofs.YtdldgefahgojaakDoor
namespace Ns
open Go.RowKit
set_option linter.unusedSimpArgs false
set_option linter.unusedVariables false

def eqI (a b : List Int) : Bool := decide (a = b)
theorem eqI_len {a b : List Int} (h : a.length ≠ b.length) : eqI a b = false := by
  simp only [eqI, decide_eq_false_iff_not]
  intro e; exact h (by rw [e])
theorem eqI_take {a b : List Int} (k : Nat) (h : a.take k = b.take k) (ha : a.length ≤ k) (hb : b.length ≤ k) : eqI a b = true := by
  rw [List.take_of_length_le ha, List.take_of_length_le hb] at h
  simp [eqI, h]
theorem eqI_ne {a b : List Int} (k : Nat) (h : a.getD k 0 ≠ b.getD k 0) : eqI a b = false := by
  simp only [eqI, decide_eq_false_iff_not]
  intro e; exact h (by rw [e])
theorem take_eq_succ {α : Type} {a b : List α} {k : Nat} (d : α) (ha : k < a.length) (hb : k < b.length) (h : a.take k = b.take k) (e : a.getD k d = b.getD k d) : a.take (k + 1) = b.take (k + 1) := by
  rw [take_snoc a k ha d, take_snoc b k hb d, h, e]

set_option maxHeartbeats 1000000 in
theorem SInts_any {Q R : Nat → Prop} (la lb : List Int) (va vb : Value) (w : World) (ha : IntsAt Q w va la) (hb : IntsAt R w vb lb) :
    Calls Tryd.prog 36 #[va, vb] w fun e w' => e = .returned (.bool (eqI la lb)) ∧ ∃ n, w' = w.drewN n := by
  obtain ⟨aa, ca, rfl, ⟨hma, hna⟩, ha⟩ := ha
  obtain ⟨ab, cb, rfl, ⟨hmb, hnb⟩, hb⟩ := hb
  by_cases hl : la.length = lb.length
  · have q : ((la.length : Int) != (lb.length : Int)) = false := by simp [hl]
    have HA : Hid (∀ i, i < la.length → ∃ b off, aa = some ⟨b, off, none⟩ ∧ w.cell? ⟨b, off + i, none⟩ = some (.int .i64 (la.getD i 0))) := by
      intro i hi
      rcases ha with rfl | ⟨b, off, rfl, h, hQ⟩
      · simp at hi
      · exact ⟨b, off, rfl, h i hi⟩
    have HB : Hid (∀ i, i < lb.length → ∃ b off, ab = some ⟨b, off, none⟩ ∧ w.cell? ⟨b, off + i, none⟩ = some (.int .i64 (lb.getD i 0))) := by
      intro i hi
      rcases hb with rfl | ⟨b, off, rfl, h, hQ⟩
      · simp at hi
      · exact ⟨b, off, rfl, h i hi⟩
    have HL : Hid (la.length = lb.length) := hl
    have hl1 : la.length ≤ lb.length := by omega
    have hl2 : lb.length ≤ la.length := by omega
    clear ha hb hl
    go_enter Tryd.func36, Tryd.ntmps36
    go_wp2
    go_loopw [5] (fun i wr => ∃ k m : Nat, k ≤ la.length ∧ i = .int .i64 k ∧ Hid (wr = w.drewN m) ∧ Hid (la.take k = lb.take k)) (fun i _ => la.length - (intOf i).toNat)
    case atStart => exact ⟨0, 0, by omega, rfl, rfl, rfl⟩
    case round =>
      obtain ⟨k, m, hk, rfl, hw, hn⟩ := hrel
      by_cases hlt : k < la.length
      · obtain ⟨b1, o1, rfl, c1⟩ := HA.out k hlt
        obtain ⟨b2, o2, rfl, c2⟩ := HB.out k (by omega)
        have c1' : wr.cell? ⟨b1, o1 + k, none⟩ = some (.int .i64 (la.getD k 0)) := by rw [hw.out]; exact c1
        have c2' : wr.cell? ⟨b2, o2 + k, none⟩ = some (.int .i64 (lb.getD k 0)) := by rw [hw.out]; exact c2
        have hlt2 : (k : Int) < (lb.length : Int) := by omega
        by_cases hx : la.getD k 0 = lb.getD k 0
        · have HN : Hid (la.take (k + 1) = lb.take (k + 1)) := take_eq_succ 0 hlt (by omega) hn.out hx
          rw [hx] at c1'
          clear c1 c2
          generalize lb.getD k 0 = x at *
          clear hx
          go_wp2
          go_quiet (fail)
          go_wp2
          go_roundw
          case rel => exact ⟨k + 1, m + nq, by omega, by go_num, (show _ = _ by rw [hw.out]; simp), HN⟩
          case measure => simp [intOf]; omega
        · have HR : Hid (eqI la lb = false) := eqI_ne k hx
          clear c1 c2
          generalize la.getD k 0 = x at *
          generalize lb.getD k 0 = y at *
          have qn : (x != y) = true := by simpa using hx
          clear hx
          go_wp2
          go_quiet (fail)
          go_wp2
          go_ret
          exact ⟨ret_bool HR.out.symm, m + nq, by rw [hw.out]; simp⟩
      · have HR : Hid (eqI la lb = true) := eqI_take k hn.out (by omega) (by omega)
        go_wp2
        go_ret
        exact ⟨ret_bool HR.out.symm, m, hw.out⟩
  · have q : ((la.length : Int) != (lb.length : Int)) = true := by simp; omega
    have HR : Hid (eqI la lb = false) := eqI_len hl
    clear ha hb hl
    go_enter Tryd.func36, Tryd.ntmps36
    go_wp2
    go_ret
    exact ⟨ret_bool HR.out.symm, 0, rfl⟩
end Ns
end Go.Proofs.YtdldgefahgojaakDoor
