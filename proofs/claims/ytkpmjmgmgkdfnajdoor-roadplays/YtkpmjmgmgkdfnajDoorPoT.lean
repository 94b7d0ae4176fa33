/- Package pool's Tick does what is asked of it. -/
import Derived.Test.YtkpmjmgmgkdfnajDoorPoA
import Derived.Test.YtkpmjmgmgkdfnajDoorPlains
namespace Go.Proofs.YtkpmjmgmgkdfnajDoor
namespace Ev
open Go.RowKit Fr Ns Ld Fl
set_option linter.unusedSimpArgs false
set_option linter.unusedVariables false

set_option maxRecDepth 100000 in
set_option maxHeartbeats 1000000 in
theorem ptick_said : PTickSaid := by
  intro s r h m w
  have HK : Hid (∀ u : World, Calls Tryd.prog 28 #[.agg #[.int .i64 s, .int .i64 r, .int .i64 h]] u fun e w' => e = .returned (errV (poolE s r h)) ∧ Below u.heap.size u w') := fun u => pcheck_said s r h u
  have HM : Hid (∀ u : World, Calls Tryd.prog 31 #[.int .i64 m] u fun e w' => e = .returned (.bool (inTo 10000 m)) ∧ w' = u) := fun u => pmay_any m u
  have HKp : Hid (∀ u : World, Below (((w.alloc (.cells #[.int .i64 s, .int .i64 r, .int .i64 h] 24)).alloc (.cells #[.int .i64 0, .int .i64 0, .int .i64 0] 24)).alloc (.cells #[.int .i64 0, .int .i64 0, .int .i64 0] 37)).heap.size (((w.alloc (.cells #[.int .i64 s, .int .i64 r, .int .i64 h] 24)).alloc (.cells #[.int .i64 0, .int .i64 0, .int .i64 0] 24)).alloc (.cells #[.int .i64 0, .int .i64 0, .int .i64 0] 37)) u → Below w.heap.size w u ∧ RowAt u w.heap.size 24 [.int .i64 s, .int .i64 r, .int .i64 h] ∧ RowAt u (w.heap.size + 1) 24 [.int .i64 0, .int .i64 0, .int .i64 0] ∧ RowAt u (w.heap.size + 2) 37 [.int .i64 0, .int .i64 0, .int .i64 0] ∧ w.heap.size + 3 ≤ u.heap.size) := fun u hu => by
    have hs := hu.size
    simp at hs
    exact ⟨((((Below.refl _ _).alloc (Nat.le_refl _) _).alloc (by simp) _).alloc (by simp <;> omega) _).trans (hu.mono (by simp <;> omega)), (((row_made w _ _ _ _ rfl rfl).alloc _).alloc _).later hu (by simp <;> omega), ((row_made (w.alloc (.cells #[.int .i64 s, .int .i64 r, .int .i64 h] 24)) _ _ _ _ (by simp) rfl).alloc _).later hu (by simp <;> omega), (row_made ((w.alloc (.cells #[.int .i64 s, .int .i64 r, .int .i64 h] 24)).alloc (.cells #[.int .i64 0, .int .i64 0, .int .i64 0] 24)) _ _ _ _ (by simp) rfl).later hu (by simp), by omega⟩
  by_cases hk : poolE s r h = 0
  · rw [hk, errV_0] at HK
    cases hi : inTo 10000 m with
    | false =>
      rw [hi] at HM
      have hE : ptickE s r h m = 1 := by
        have : ¬ (0 ≤ m ∧ m ≤ 10000) := by simpa [inTo] using hi
        rw [ptickE, if_pos hk, if_pos (by omega)]
      rw [hE]
      show Calls _ _ _ _ fun e w' => e = .returned (.tuple #[.agg #[.int .i64 0, .int .i64 0, .int .i64 0], .agg #[.int .i64 0, .int .i64 0, .int .i64 0], .iface 54 (.int .i64 1)]) ∧ _
      clear hk hi hE
      go_enter Tryd.func24, Tryd.ntmps24
      go_wp2_with fail
      refine (HK.out _).mono ?_
      rintro e w1 ⟨rfl, hw1⟩
      obtain ⟨b1, R1, Z1, Y1, hsz⟩ := HKp.out _ hw1
      have B1 : Hid (Below w.heap.size w w1) := b1
      have HR1 : Hid (RowAt w1 w.heap.size 24 [.int .i64 s, .int .i64 r, .int .i64 h]) := R1
      have HZ1 : Hid (RowAt w1 (w.heap.size + 1) 24 [.int .i64 0, .int .i64 0, .int .i64 0]) := Z1
      have HY1 : Hid (RowAt w1 (w.heap.size + 2) 37 [.int .i64 0, .int .i64 0, .int .i64 0]) := Y1
      obtain ⟨d0, d1, d2, f0, f1, f2, g0⟩ := R1.three
      obtain ⟨y0, y1, y2, k0, k1, k2, g1⟩ := Z1.three
      obtain ⟨x0, x1, x2, i0, i1, i2, g2⟩ := Y1.three
      have S1 : w.heap.size ≤ w.heap.size + 1 := Nat.le_succ _
      have S2 : w.heap.size ≤ w.heap.size + 2 := by omega
      clear b1 R1 Z1 Y1 hw1
      go_wp2_with fail
      refine (HM.out _).mono ?_
      rintro e w2 ⟨rfl, rfl⟩
      go_wp2
      refine bodyPost_ret (v := .tuple #[.agg #[.int .i64 0, .int .i64 0, .int .i64 0], .agg #[.int .i64 0, .int .i64 0, .int .i64 0], .iface 54 (.int .i64 1)]) (by simp [results, Tryd.results24, go_sem, *]) rfl ⟨rfl, ?_⟩
      exact (((((B1.out.setCell S1 _).setCell S1 _).setCell S1 _).setCell S2 _).setCell S2 _).setCell S2 _
    | true =>
      rw [hi] at HM
      have hm : 0 ≤ m ∧ m ≤ 10000 := by simpa [inTo] using hi
      have hE : ptickE s r h m = 0 := by rw [ptickE, if_pos hk, if_neg (by omega)]
      rw [hE]
      have HT : Hid (∀ u : World, Calls Tryd.prog 32 #[.agg #[.int .i64 s, .int .i64 r, .int .i64 h], .int .i64 m] u fun e w' => e = .returned (.tuple #[.agg #[.int .i64 s, .int .i64 r, .int .i64 (waitP s r (h + m))], .agg #[.int .i64 (wentP r (h + m)), .int .i64 (lostP s r (h + m)), .int .i64 (waitP s r (h + m))]]) ∧ Below u.heap.size u w') := fun u => pticked_any s r h m u hk hm.1 hm.2
      show Calls _ _ _ _ fun e w' => e = .returned (.tuple #[.agg #[.int .i64 s, .int .i64 r, .int .i64 (waitP s r (h + m))], .agg #[.int .i64 (wentP r (h + m)), .int .i64 (lostP s r (h + m)), .int .i64 (waitP s r (h + m))], .nilIface]) ∧ _
      clear hk hi hE hm
      generalize waitP s r (h + m) = f at *
      generalize wentP r (h + m) = gn at *
      generalize lostP s r (h + m) = lo at *
      go_enter Tryd.func24, Tryd.ntmps24
      go_wp2_with fail
      refine (HK.out _).mono ?_
      rintro e w1 ⟨rfl, hw1⟩
      obtain ⟨b1, R1, Z1, Y1, hsz⟩ := HKp.out _ hw1
      have B1 : Hid (Below w.heap.size w w1) := b1
      have HR1 : Hid (RowAt w1 w.heap.size 24 [.int .i64 s, .int .i64 r, .int .i64 h]) := R1
      have HZ1 : Hid (RowAt w1 (w.heap.size + 1) 24 [.int .i64 0, .int .i64 0, .int .i64 0]) := Z1
      have HY1 : Hid (RowAt w1 (w.heap.size + 2) 37 [.int .i64 0, .int .i64 0, .int .i64 0]) := Y1
      obtain ⟨d0, d1, d2, f0, f1, f2, g0⟩ := R1.three
      obtain ⟨y0, y1, y2, k0, k1, k2, g1⟩ := Z1.three
      obtain ⟨x0, x1, x2, i0, i1, i2, g2⟩ := Y1.three
      have S1 : w.heap.size ≤ w.heap.size + 1 := Nat.le_succ _
      have S2 : w.heap.size ≤ w.heap.size + 2 := by omega
      clear b1 R1 Z1 Y1 hw1
      go_wp2_with fail
      refine (HM.out _).mono ?_
      rintro e w2 ⟨rfl, rfl⟩
      go_wp2_with fail
      refine (HT.out _).mono ?_
      rintro e w3 ⟨rfl, hw3⟩
      have B3 : Hid (Below w.heap.size w w3) := Bel.call B1.out (Nat.le_refl _) hw3
      have Z3 := ((HZ1.out.later hw3 g1).alloc (.cells #[.int .i64 s, .int .i64 r, .int .i64 f] 24)).alloc (.cells #[.int .i64 gn, .int .i64 lo, .int .i64 f] 37)
      have Y3 := ((HY1.out.later hw3 g2).alloc (.cells #[.int .i64 s, .int .i64 r, .int .i64 f] 24)).alloc (.cells #[.int .i64 gn, .int .i64 lo, .int .i64 f] 37)
      have hs3 : w.heap.size + 3 ≤ w3.heap.size := Nat.le_trans hsz hw3.size
      clear y0 y1 y2 k0 k1 k2 g1 d0 d1 d2 f0 f1 f2 g0 x0 x1 x2 i0 i1 i2 g2
      obtain ⟨y0, y1, y2, k0, k1, k2, g1⟩ := Z3.three
      obtain ⟨x0, x1, x2, i0, i1, i2, g2⟩ := Y3.three
      clear hw3 Z3 Y3
      go_wp2_with fail
      go_region
      go_wp2
      refine bodyPost_ret (v := .tuple #[.agg #[.int .i64 s, .int .i64 r, .int .i64 f], .agg #[.int .i64 gn, .int .i64 lo, .int .i64 f], .nilIface]) (by simp [results, Tryd.results24, go_sem, *]) rfl ⟨rfl, ?_⟩
      repeat (first | (with_reducible exact B3.out) | (with_reducible refine Below.setCell ?_ (by first | omega | (simp <;> omega)) _) | (with_reducible refine Below.alloc ?_ (by first | omega | (simp <;> omega)) _) | (with_reducible refine Below.drew ?_))
  · have hk1 : poolE s r h = 1 := by unfold poolE at hk ⊢; split <;> simp_all
    have hE : ptickE s r h m = 1 := by rw [ptickE, if_neg hk, hk1]
    rw [hE]
    rw [hk1, errV_ne (by decide)] at HK
    show Calls _ _ _ _ fun e w' => e = .returned (.tuple #[.agg #[.int .i64 0, .int .i64 0, .int .i64 0], .agg #[.int .i64 0, .int .i64 0, .int .i64 0], .iface 54 (.int .i64 1)]) ∧ _
    clear hk hk1 hE
    go_enter Tryd.func24, Tryd.ntmps24
    go_wp2_with fail
    refine (HK.out _).mono ?_
    rintro e w1 ⟨rfl, hw1⟩
    obtain ⟨b1, R1, Z1, Y1, hsz⟩ := HKp.out _ hw1
    have B1 : Hid (Below w.heap.size w w1) := b1
    have HR1 : Hid (RowAt w1 w.heap.size 24 [.int .i64 s, .int .i64 r, .int .i64 h]) := R1
    have HZ1 : Hid (RowAt w1 (w.heap.size + 1) 24 [.int .i64 0, .int .i64 0, .int .i64 0]) := Z1
    have HY1 : Hid (RowAt w1 (w.heap.size + 2) 37 [.int .i64 0, .int .i64 0, .int .i64 0]) := Y1
    obtain ⟨d0, d1, d2, f0, f1, f2, g0⟩ := R1.three
    obtain ⟨y0, y1, y2, k0, k1, k2, g1⟩ := Z1.three
    obtain ⟨x0, x1, x2, i0, i1, i2, g2⟩ := Y1.three
    have S1 : w.heap.size ≤ w.heap.size + 1 := Nat.le_succ _
    have S2 : w.heap.size ≤ w.heap.size + 2 := by omega
    clear b1 R1 Z1 Y1 hw1
    go_wp2
    refine bodyPost_ret (v := .tuple #[.agg #[.int .i64 0, .int .i64 0, .int .i64 0], .agg #[.int .i64 0, .int .i64 0, .int .i64 0], .iface 54 (.int .i64 1)]) (by simp [results, Tryd.results24, go_sem, *]) rfl ⟨rfl, ?_⟩
    exact (((((B1.out.setCell S1 _).setCell S1 _).setCell S1 _).setCell S2 _).setCell S2 _).setCell S2 _
end Ev
end Go.Proofs.YtkpmjmgmgkdfnajDoor
