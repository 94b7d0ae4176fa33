/- Package fill's Rates: what checked hands back. -/
import Derived.Test.YtpnmmmlckdkcdakGreatDoorFiH
import Derived.Test.YtpnmmmlckdkcdakGreatDoorPlains
namespace Go.Proofs.YtpnmmmlckdkcdakGreatDoor
namespace Fl
open Go.RowKit Fr Ns Ld
set_option linter.unusedSimpArgs false
set_option linter.unusedVariables false

set_option maxRecDepth 100000 in
theorem rates_said : RatesSaid := by
  intro Q caps paths v w h
  have HR : Hid (∀ u, Below w.heap.size w u → Calls Tryz.prog 33 #[v] u fun e w' => ∃ y z, e = .returned (.tuple #[y, z, errV (netE caps paths)]) ∧
    FracsAt (fun b => u.heap.size ≤ b) w' y (okL (netE caps paths) (fill caps paths).1) ∧ ListsAt (fun b => u.heap.size ≤ b) w' z (okL (netE caps paths) (fill caps paths).2) ∧ Below u.heap.size u w') := fun u hu => checked_said Q caps paths v u (h.later hu)
  obtain ⟨v1, v2, rfl, h1, h2⟩ := h
  obtain ⟨a1, cap1, rfl, _⟩ := h1
  obtain ⟨a2, cap2, rfl, _⟩ := h2
  generalize errV (netE caps paths) = ev at *
  generalize okL (netE caps paths) (fill caps paths).1 = lr at *
  generalize okL (netE caps paths) (fill caps paths).2 = ll at *
  go_enter Tryz.func16, Tryz.ntmps16
  go_wp2_with fail
  refine (HR.out _ ((Below.refl _ _).alloc (Nat.le_refl _) _)).mono ?_
  rintro e w1 ⟨y, z, rfl, hy, hz, hw1⟩
  have HY : Hid (FracsAt (fun b => w.heap.size ≤ b) w1 y lr) := hy.keep (fun _ _ _ => rfl) (fun b hb _ => by simp at hb; omega)
  have HB : Hid (Below w.heap.size w w1) := ((Below.refl _ _).alloc (Nat.le_refl _) _).trans (hw1.mono (by simp))
  obtain ⟨ay, capy, rfl, _⟩ := hy
  obtain ⟨az, capz, rfl, _⟩ := hz
  clear hw1
  go_wp2
  refine bodyPost_ret (v := .tuple #[.slice ay lr.length capy, ev]) (by simp [results, Tryz.results16, go_sem]) rfl ⟨_, rfl, HY.out, HB.out⟩
end Fl
end Go.Proofs.YtpnmmmlckdkcdakGreatDoor
