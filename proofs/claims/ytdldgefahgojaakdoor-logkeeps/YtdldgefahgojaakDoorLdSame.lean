/- Package fairsame's Fracs: are two lists of fractions the same? -/
import Derived.Test.YtdldgefahgojaakDoorPlains
namespace Go.Proofs.YtdldgefahgojaakDoor
namespace Ld
open Go.RowKit Fr Ns
set_option linter.unusedSimpArgs false
set_option linter.unusedVariables false

def eqF (a b : List (Int × Int)) : Bool := decide (a = b)
theorem eqF_self (a : List (Int × Int)) : eqF a a = true := by simp [eqF]
theorem eqF_len {a b : List (Int × Int)} (h : a.length ≠ b.length) : eqF a b = false := by
  simp only [eqF, decide_eq_false_iff_not]
  intro e; exact h (by rw [e])
theorem eqF_at {a b : List (Int × Int)} {k : Nat} (hl : k < a.length) (h : a.getD k (0, 0) ≠ b.getD k (0, 0)) : eqF a b = false := by
  simp only [eqF, decide_eq_false_iff_not]
  intro e; exact h (by rw [e])
theorem eqF_all {a b : List (Int × Int)} (hl : a.length = b.length) (h : ∀ i, i < a.length → a.getD i (0, 0) = b.getD i (0, 0)) : eqF a b = true := by
  simp only [eqF, decide_eq_true_eq]
  apply List.ext_getElem hl
  intro i h1 h2
  have := h i h1
  simpa [List.getD, List.getElem?_eq_getElem h1, List.getElem?_eq_getElem h2] using this

set_option maxHeartbeats 1000000 in
theorem SFracs_any {Q R : Nat → Prop} (la lb : List (Int × Int)) (va vb : Value) (w : World) (ha : FracsAt Q w va la) (hb : FracsAt R w vb lb) :
    Calls Tryd.prog 23 #[va, vb] w fun e w' => e = .returned (.bool (eqF la lb)) ∧ ∃ n, w' = w.drewN n := by
  obtain ⟨aa, ca, rfl, ⟨hma, hna⟩, ha⟩ := ha
  obtain ⟨ab, cb, rfl, ⟨hmb, hnb⟩, hb⟩ := hb
  by_cases hl : la.length = lb.length
  · have q : ((la.length : Int) == (lb.length : Int)) = true := by rw [hl]; simp
    have q' : ((la.length : Int) != (lb.length : Int)) = false := by rw [hl]; simp
    have HA : Hid (∀ i, i < la.length → ∃ b off, aa = some ⟨b, off, none⟩ ∧ w.cell? ⟨b, off + i * 2, none⟩ = some (.int .i64 (la.getD i (0, 0)).1) ∧ w.cell? ⟨b, off + i * 2 + 1, none⟩ = some (.int .i64 (la.getD i (0, 0)).2)) := by
      intro i hi
      rcases ha with rfl | ⟨b, off, rfl, h, _⟩
      · simp at hi
      · exact ⟨b, off, rfl, h i hi⟩
    have HB : Hid (∀ i, i < la.length → ∃ b off, ab = some ⟨b, off, none⟩ ∧ w.cell? ⟨b, off + i * 2, none⟩ = some (.int .i64 (lb.getD i (0, 0)).1) ∧ w.cell? ⟨b, off + i * 2 + 1, none⟩ = some (.int .i64 (lb.getD i (0, 0)).2)) := by
      intro i hi
      rcases hb with rfl | ⟨b, off, rfl, h, _⟩
      · rw [hl] at hi; simp at hi
      · exact ⟨b, off, rfl, h i (by omega)⟩
    have HL : Hid (la.length = lb.length) := hl
    clear ha hb
    go_enter Tryd.func23, Tryd.ntmps23
    go_wp2
    go_loopw [5] (fun i wr => ∃ k m : Nat, k ≤ la.length ∧ i = .int .i64 k ∧ Hid (wr = w.drewN m) ∧ Hid (∀ i, i < k → la.getD i (0, 0) = lb.getD i (0, 0))) (fun i _ => la.length - (intOf i).toNat)
    case atStart => exact ⟨0, 0, by omega, rfl, rfl, fun i hi => by omega⟩
    case round =>
      obtain ⟨k, m, hk, rfl, hw, hn⟩ := hrel
      by_cases hlt : k < la.length
      · obtain ⟨b1, o1, rfl, c1, d1⟩ := HA.out k hlt
        obtain ⟨b2, o2, rfl, c2, d2⟩ := HB.out k hlt
        replace c1 : wr.cell? ⟨b1, o1 + k * 2, none⟩ = some (.int .i64 (la.getD k (0, 0)).1) := by rw [hw.out]; exact c1
        replace c2 : wr.cell? ⟨b2, o2 + k * 2, none⟩ = some (.int .i64 (lb.getD k (0, 0)).1) := by rw [hw.out]; exact c2
        replace d1 : wr.cell? ⟨b1, o1 + k * 2 + 1, none⟩ = some (.int .i64 (la.getD k (0, 0)).2) := by rw [hw.out]; exact d1
        replace d2 : wr.cell? ⟨b2, o2 + k * 2 + 1, none⟩ = some (.int .i64 (lb.getD k (0, 0)).2) := by rw [hw.out]; exact d2
        have hlt2 : (k : Int) < (lb.length : Int) := by have := HL.out; omega
        by_cases hx : la.getD k (0, 0) = lb.getD k (0, 0)
        · have HN : Hid (∀ i, i < k + 1 → la.getD i (0, 0) = lb.getD i (0, 0)) := by
            intro i hi
            by_cases h : i = k
            · subst h; exact hx
            · exact hn.out i (by omega)
          rw [hx] at c1 d1
          generalize (lb.getD k (0, 0)).1 = x at *
          generalize (lb.getD k (0, 0)).2 = y at *
          clear hx
          go_wp2
          go_quiet (fail)
          go_wp2
          go_roundw
          case rel => exact ⟨k + 1, m + nq, by omega, by go_num, (show _ = _ by rw [hw.out]; simp), HN⟩
          case measure => simp [intOf]; omega
        · have HR : Hid (eqF la lb = false) := eqF_at hlt hx
          have hx' : ¬ ((la.getD k (0, 0)).1 = (lb.getD k (0, 0)).1 ∧ (la.getD k (0, 0)).2 = (lb.getD k (0, 0)).2) := fun h => hx (Prod.ext h.1 h.2)
          clear hx
          generalize (la.getD k (0, 0)).1 = x at *
          generalize (la.getD k (0, 0)).2 = y at *
          generalize (lb.getD k (0, 0)).1 = x' at *
          generalize (lb.getD k (0, 0)).2 = y' at *
          by_cases h1 : x = x'
          · subst h1
            have h2 : ¬ y = y' := fun h => hx' ⟨rfl, h⟩
            have q2 : (y == y') = false := beq_eq_false_iff_ne.2 h2
            clear hx' h2
            go_wp2
            go_quiet (fail)
            go_wp2
            go_ret
            exact ⟨Ns.ret_bool HR.out.symm, m + nq, by rw [hw.out]; simp⟩
          · have q1 : (x == x') = false := beq_eq_false_iff_ne.2 h1
            clear hx' h1
            go_wp2
            go_quiet (fail)
            go_wp2
            go_ret
            exact ⟨Ns.ret_bool HR.out.symm, m + nq, by rw [hw.out]; simp⟩
      · have HR : Hid (eqF la lb = true) := eqF_all HL.out (fun i hi => hn.out i (by omega))
        go_wp2
        go_ret
        exact ⟨Ns.ret_bool HR.out.symm, m, hw.out⟩
  · have q : ((la.length : Int) == (lb.length : Int)) = false := beq_eq_false_iff_ne.2 (by omega)
    have q' : ((la.length : Int) != (lb.length : Int)) = true := by simp [bne, q]
    have HR : Hid (eqF la lb = false) := eqF_len hl
    clear ha hb hl
    go_enter Tryd.func23, Tryd.ntmps23
    go_wp2
    go_ret
    exact ⟨Ns.ret_bool HR.out.symm, 0, rfl⟩
end Ld
end Go.Proofs.YtdldgefahgojaakDoor
