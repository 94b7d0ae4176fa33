/- Package fill's checked: a net that is right rises. -/
import Derived.Test.YtpnmmmlckdkcdakGreatDoorFiG
namespace Go.Proofs.YtpnmmmlckdkcdakGreatDoor
namespace Fl
open Go.RowKit Fr Ns Ld
set_option linter.unusedSimpArgs false
set_option linter.unusedVariables false

set_option maxRecDepth 100000 in
set_option maxHeartbeats 1000000 in
theorem checked_said (Q : Nat → Prop) (caps : List Int) (paths : List (List Int)) (v : Value) (w : World) (h : NetAt Q w v caps paths) :
  Calls Tryz.prog 33 #[v] w fun e w' => ∃ y z, e = .returned (.tuple #[y, z, errV (netE caps paths)]) ∧
    FracsAt (fun b => w.heap.size ≤ b) w' y (okL (netE caps paths) (fill caps paths).1) ∧ ListsAt (fun b => w.heap.size ≤ b) w' z (okL (netE caps paths) (fill caps paths).2) ∧ Below w.heap.size w w' := by
  have HCk : Hid (∀ u, Below w.heap.size w u → Calls Tryz.prog 18 #[v] u fun e w' => e = .returned (errV (netE caps paths)) ∧ Below u.heap.size u w') := fun u hu => check_said Q caps paths v u (h.later hu)
  by_cases hk : netE caps paths = 0
  · have HRi : Hid (∀ u, Below w.heap.size w u → Calls Tryz.prog 66 #[v] u fun e w' => ∃ y z, e = .returned (.tuple #[y, z, .nilIface]) ∧ FracsAt (fun b => u.heap.size ≤ b) w' y (fill caps paths).1 ∧ ListsAt (fun b => u.heap.size ≤ b) w' z (fill caps paths).2 ∧ Below u.heap.size u w') := fun u hu => rise_any Q caps paths v u (h.later hu) (good_of_net hk) (by have := (netE_0 hk).2.1; omega)
    rw [hk, errV_0] at HCk
    rw [hk, errV_0, okL_0, okL_0]
    obtain ⟨v1, v2, rfl, h1, h2⟩ := h
    obtain ⟨a1, cap1, rfl, _⟩ := h1
    obtain ⟨a2, cap2, rfl, _⟩ := h2
    generalize (fill caps paths).1 = lr at *
    generalize (fill caps paths).2 = ll at *
    clear hk
    go_enter Tryz.func33, Tryz.ntmps33
    go_wp2_with fail
    refine (HCk.out _ ((Below.refl _ _).alloc (Nat.le_refl _) _)).mono ?_
    rintro e w1 ⟨rfl, hw1⟩
    have g0 : w1.cell? ⟨w.heap.size, 0, none⟩ = some (.slice a1 caps.length cap1) := cell_later hw1 (by simp)
    have g1 : w1.cell? ⟨w.heap.size, 1, none⟩ = some (.slice a2 paths.length cap2) := cell_later hw1 (by simp)
    have HB1 : Hid (Below w.heap.size w w1) := ((Below.refl _ _).alloc (Nat.le_refl _) _).trans (hw1.mono (by simp))
    clear hw1
    go_wp2_with fail
    refine (HRi.out _ HB1.out).mono ?_
    rintro e w2 ⟨y, z, rfl, hy, hz, hw2⟩
    have hs1 := HB1.out.size
    have HY : Hid (FracsAt (fun b => w.heap.size ≤ b) w2 y lr) := hy.keep (fun _ _ _ => rfl) (fun b hb _ => by omega)
    have HZ : Hid (ListsAt (fun b => w.heap.size ≤ b) w2 z ll) := hz.keep (fun _ _ _ => rfl) (fun b hb _ => by omega)
    have HB2 : Hid (Below w.heap.size w w2) := HB1.out.trans (hw2.mono hs1)
    obtain ⟨ay, capy, rfl, _⟩ := hy
    obtain ⟨az, capz, rfl, _⟩ := hz
    clear hw2 hs1
    go_wp2
    refine bodyPost_ret (v := .tuple #[.slice ay lr.length capy, .slice az ll.length capz, .nilIface]) (by simp [results, Tryz.results33, go_sem]) rfl ⟨_, _, rfl, HY.out, HZ.out, HB2.out⟩
  · have HV : Hid (errV (netE caps paths) = .iface 65 (.int .i64 (netE caps paths))) := errV_ne hk
    have HK1 : Hid (okL (netE caps paths) (fill caps paths).1 = []) := okL_ne hk _
    have HK2 : Hid (okL (netE caps paths) (fill caps paths).2 = []) := okL_ne hk _
    rw [HV.out] at HCk
    rw [HV.out, HK1.out, HK2.out]
    generalize netE caps paths = ek at *
    clear hk
    obtain ⟨v1, v2, rfl, h1, h2⟩ := h
    obtain ⟨a1, cap1, rfl, _⟩ := h1
    obtain ⟨a2, cap2, rfl, _⟩ := h2
    go_enter Tryz.func33, Tryz.ntmps33
    go_wp2_with fail
    refine (HCk.out _ ((Below.refl _ _).alloc (Nat.le_refl _) _)).mono ?_
    rintro e w1 ⟨rfl, hw1⟩
    have HB1 : Hid (Below w.heap.size w w1) := ((Below.refl _ _).alloc (Nat.le_refl _) _).trans (hw1.mono (by simp))
    clear hw1
    go_wp2
    refine bodyPost_ret (v := .tuple #[.slice none 0 0, .slice none 0 0, .iface 65 (.int .i64 ek)]) (by simp [results, Tryz.results33, go_sem]) rfl ?_
    exact ⟨_, _, rfl, fracs_nil _ _, ⟨none, 0, rfl, ⟨Nat.le_refl _, by simp⟩, .inl rfl⟩, HB1.out⟩
end Fl
end Go.Proofs.YtpnmmmlckdkcdakGreatDoor
