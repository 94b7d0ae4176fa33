/- Package bucket's Take does what is asked of it. -/
import Derived.Test.YtbgmdolbeecpiafDoorBkA
import Derived.Test.YtbgmdolbeecpiafDoorPlains
namespace Go.Proofs.YtbgmdolbeecpiafDoor
namespace Ev
open Go.RowKit Fr Ns Ld Fl
set_option linter.unusedSimpArgs false
set_option linter.unusedVariables false

set_option maxRecDepth 100000 in
set_option maxHeartbeats 1000000 in
theorem btake_said : BTakeSaid := by
  intro s r h m w
  have HK : Hid (∀ u : World, Calls Tryd.prog 5 #[.agg #[.int .i64 s, .int .i64 r, .int .i64 h]] u fun e w' => e = .returned (errV (bktE s r h)) ∧ Below u.heap.size u w') := fun u => bcheck_said s r h u
  have HKp : Hid (∀ u : World, Below ((w.alloc (.cells #[.int .i64 s, .int .i64 r, .int .i64 h] 23)).alloc (.cells #[.int .i64 0, .int .i64 0, .int .i64 0] 23)).heap.size ((w.alloc (.cells #[.int .i64 s, .int .i64 r, .int .i64 h] 23)).alloc (.cells #[.int .i64 0, .int .i64 0, .int .i64 0] 23)) u → Below w.heap.size w u ∧ RowAt u w.heap.size 23 [.int .i64 s, .int .i64 r, .int .i64 h] ∧ RowAt u (w.heap.size + 1) 23 [.int .i64 0, .int .i64 0, .int .i64 0] ∧ w.heap.size + 2 ≤ u.heap.size) := fun u hu => by
    have hs := hu.size
    simp at hs
    exact ⟨(((Below.refl _ _).alloc (Nat.le_refl _) _).alloc (by simp) _).trans (hu.mono (by simp; omega)), ((row_made w _ _ _ _ rfl rfl).alloc _).later hu (by simp; omega), (row_made (w.alloc (.cells #[.int .i64 s, .int .i64 r, .int .i64 h] 23)) _ _ _ _ (by simp) rfl).later hu (by simp), by omega⟩
  by_cases hk : bktE s r h = 0
  · rw [hk, errV_0] at HK
    have hb := bktE_0.1 hk
    cases hi : inR m 0 10000 with
    | false =>
      have HM : Hid (∀ u : World, Calls Tryd.prog 9 #[.int .i64 m, .int .i64 0, .int .i64 10000] u fun e w' => e = .returned (.bool false) ∧ w' = u) := fun u => bwithin_is hi u
      have hE : takeE s r h m = 1 := by have := inR_0.1 hi; rw [takeE, if_pos hk, if_pos this]
      rw [hE]
      show Calls _ _ _ _ fun e w' => e = .returned (.tuple #[.agg #[.int .i64 0, .int .i64 0, .int .i64 0], .iface 34 (.int .i64 1)]) ∧ _
      clear hk hb hi hE
      go_enter Tryd.func6, Tryd.ntmps6
      go_wp2_with fail
      refine (HK.out _).mono ?_
      rintro e w1 ⟨rfl, hw1⟩
      obtain ⟨b1, R1, Z1, hsz⟩ := HKp.out _ hw1
      have B1 : Hid (Below w.heap.size w w1) := b1
      have HR1 : Hid (RowAt w1 w.heap.size 23 [.int .i64 s, .int .i64 r, .int .i64 h]) := R1
      have HZ1 : Hid (RowAt w1 (w.heap.size + 1) 23 [.int .i64 0, .int .i64 0, .int .i64 0]) := Z1
      obtain ⟨d0, d1, d2, f0, f1, f2, g0⟩ := R1.three
      obtain ⟨y0, y1, y2, k0, k1, k2, g1⟩ := Z1.three
      clear b1 R1 Z1 hw1
      go_wp2_with fail
      refine (HM.out _).mono ?_
      rintro e w2 ⟨rfl, rfl⟩
      go_wp2
      refine bodyPost_ret (v := .tuple #[.agg #[.int .i64 0, .int .i64 0, .int .i64 0], .iface 34 (.int .i64 1)]) (by simp [results, Tryd.results6, go_sem, *]) rfl ⟨rfl, ?_⟩
      exact ((B1.out.setCell (Nat.le_succ _) _).setCell (Nat.le_succ _) _).setCell (Nat.le_succ _) _
    | true =>
      have HM : Hid (∀ u : World, Calls Tryd.prog 9 #[.int .i64 m, .int .i64 0, .int .i64 10000] u fun e w' => e = .returned (.bool true) ∧ w' = u) := fun u => bwithin_is hi u
      have hm := inR_1.1 hi
      by_cases hl : h < m
      · have hE : takeE s r h m = 8 := by rw [takeE, if_pos hk, if_neg (by omega), if_pos hl]
        rw [hE]
        show Calls _ _ _ _ fun e w' => e = .returned (.tuple #[.agg #[.int .i64 0, .int .i64 0, .int .i64 0], .iface 34 (.int .i64 8)]) ∧ _
        clear hk hb hi hE hm
        go_enter Tryd.func6, Tryd.ntmps6
        go_wp2_with fail
        refine (HK.out _).mono ?_
        rintro e w1 ⟨rfl, hw1⟩
        obtain ⟨b1, R1, Z1, hsz⟩ := HKp.out _ hw1
        have B1 : Hid (Below w.heap.size w w1) := b1
        have HR1 : Hid (RowAt w1 w.heap.size 23 [.int .i64 s, .int .i64 r, .int .i64 h]) := R1
        have HZ1 : Hid (RowAt w1 (w.heap.size + 1) 23 [.int .i64 0, .int .i64 0, .int .i64 0]) := Z1
        obtain ⟨d0, d1, d2, f0, f1, f2, g0⟩ := R1.three
        obtain ⟨y0, y1, y2, k0, k1, k2, g1⟩ := Z1.three
        clear b1 R1 Z1 hw1
        go_wp2_with fail
        refine (HM.out _).mono ?_
        rintro e w2 ⟨rfl, rfl⟩
        go_wp2
        refine bodyPost_ret (v := .tuple #[.agg #[.int .i64 0, .int .i64 0, .int .i64 0], .iface 34 (.int .i64 8)]) (by simp [results, Tryd.results6, go_sem, *]) rfl ⟨rfl, ?_⟩
        exact ((B1.out.setCell (Nat.le_succ _) _).setCell (Nat.le_succ _) _).setCell (Nat.le_succ _) _
      · have hE : takeE s r h m = 0 := by rw [takeE, if_pos hk, if_neg (by omega), if_neg hl]
        rw [hE]
        show Calls _ _ _ _ fun e w' => e = .returned (.tuple #[.agg #[.int .i64 s, .int .i64 r, .int .i64 (h - m)], .nilIface]) ∧ _
        have hwp : IntKind.i64.wrap (h - m) = h - m := by rw [IntKind.wrap_i64]; omega
        clear hk hb hi hE hm
        go_enter Tryd.func6, Tryd.ntmps6
        go_wp2_with fail
        refine (HK.out _).mono ?_
        rintro e w1 ⟨rfl, hw1⟩
        obtain ⟨b1, R1, Z1, hsz⟩ := HKp.out _ hw1
        have B1 : Hid (Below w.heap.size w w1) := b1
        have HR1 : Hid (RowAt w1 w.heap.size 23 [.int .i64 s, .int .i64 r, .int .i64 h]) := R1
        have HZ1 : Hid (RowAt w1 (w.heap.size + 1) 23 [.int .i64 0, .int .i64 0, .int .i64 0]) := Z1
        obtain ⟨d0, d1, d2, f0, f1, f2, g0⟩ := R1.three
        obtain ⟨y0, y1, y2, k0, k1, k2, g1⟩ := Z1.three
        clear b1 R1 Z1 hw1
        go_wp2_with fail
        refine (HM.out _).mono ?_
        rintro e w2 ⟨rfl, rfl⟩
        go_wp2
        refine bodyPost_ret (v := .tuple #[.agg #[.int .i64 s, .int .i64 r, .int .i64 (h - m)], .nilIface]) (by simp [results, Tryd.results6, go_sem, *]) rfl ⟨rfl, ?_⟩
        exact (((B1.out.setCell (Nat.le_refl _) _).setCell (Nat.le_succ _) _).setCell (Nat.le_succ _) _).setCell (Nat.le_succ _) _
  · have hk1 : bktE s r h = 1 := by unfold bktE at hk ⊢; split <;> simp_all
    have hE : takeE s r h m = 1 := by rw [takeE, if_neg hk, hk1]
    rw [hE]
    rw [hk1, errV_ne (by decide)] at HK
    show Calls _ _ _ _ fun e w' => e = .returned (.tuple #[.agg #[.int .i64 0, .int .i64 0, .int .i64 0], .iface 34 (.int .i64 1)]) ∧ _
    clear hk hk1 hE
    go_enter Tryd.func6, Tryd.ntmps6
    go_wp2_with fail
    refine (HK.out _).mono ?_
    rintro e w1 ⟨rfl, hw1⟩
    obtain ⟨b1, R1, Z1, hsz⟩ := HKp.out _ hw1
    have B1 : Hid (Below w.heap.size w w1) := b1
    have HR1 : Hid (RowAt w1 w.heap.size 23 [.int .i64 s, .int .i64 r, .int .i64 h]) := R1
    have HZ1 : Hid (RowAt w1 (w.heap.size + 1) 23 [.int .i64 0, .int .i64 0, .int .i64 0]) := Z1
    obtain ⟨d0, d1, d2, f0, f1, f2, g0⟩ := R1.three
    obtain ⟨y0, y1, y2, k0, k1, k2, g1⟩ := Z1.three
    clear b1 R1 Z1 hw1
    go_wp2
    refine bodyPost_ret (v := .tuple #[.agg #[.int .i64 0, .int .i64 0, .int .i64 0], .iface 34 (.int .i64 1)]) (by simp [results, Tryd.results6, go_sem, *]) rfl ⟨rfl, ?_⟩
    exact ((B1.out.setCell (Nat.le_succ _) _).setCell (Nat.le_succ _) _).setCell (Nat.le_succ _) _
end Ev
end Go.Proofs.YtbgmdolbeecpiafDoor
