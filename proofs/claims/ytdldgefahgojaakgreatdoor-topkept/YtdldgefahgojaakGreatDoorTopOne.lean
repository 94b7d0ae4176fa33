/- The closed fact of package fairtop: two over one link get half each. -/
import Derived.Test.YtdldgefahgojaakGreatDoorPlains
namespace Go.Proofs.YtdldgefahgojaakGreatDoor
namespace Fl
open Go.RowKit Fr Ns Ld
set_option linter.unusedSimpArgs false
set_option linter.unusedVariables false

theorem fact8 : (fill [8] [[0], [0]]).1 = [(4, 1), (4, 1)] := by
  have := (fill_alike (c := 8) (m := 2) (by decide) (by decide) (by decide) (by decide)).1
  rw [show ([[0], [0]] : List (List Int)) = List.replicate 2 [0] from rfl, this]
  decide +kernel
theorem fact8E : netE [8] [[0], [0]] = 0 := by decide +kernel

set_option maxHeartbeats 2000000 in
theorem one_any (hRa : RatesSaid) (w : World) : Calls Tryz.prog 4 #[] w fun e w' => e = .returned (.bool true) ∧ Below w.heap.size w w' := by
  go_enter Tryz.func4, Tryz.ntmps4
  go_wp2_with fail
  refine (hRa (fun _ => True) [8] [[0], [0]] _ _ ?lit).mono ?_
  case lit => exact ⟨_, _, rfl, lit_int1 _ w.heap.size 8 (by go_simp), lit_lists2 _ (w.heap.size + 1 + 1 + 1) _ _ [0] [0] (by go_simp) (by go_simp) (lit_int1 _ (w.heap.size + 1) 0 (by go_simp)) (lit_int1 _ (w.heap.size + 1 + 1) 0 (by go_simp))⟩
  rintro e w1 ⟨x1, rfl, hx1, hw1⟩
  rw [fact8E, okL_0, fact8] at hx1
  rw [fact8E, errV_0]
  obtain ⟨ax, cx, rfl, ⟨hmx, _⟩, hx1⟩ := hx1
  rcases hx1 with h | ⟨bx, ox, rfl, hcx, _⟩
  · cases h
  have x0 : w1.cell? ⟨bx, ox, none⟩ = some (.int .i64 4) := by simpa using (hcx 0 (by decide)).1
  have x2 : w1.cell? ⟨bx, ox + 2, none⟩ = some (.int .i64 4) := by simpa using (hcx 1 (by decide)).1
  have HB : Hid (Below w.heap.size w w1) := (((((Below.refl _ _).alloc (by simp) _).alloc (by simp; try omega) _).alloc (by simp; try omega) _).alloc (by simp; try omega) _).trans (hw1.mono (by simp; try omega))
  simp only [List.length_cons, List.length_nil] at hmx ⊢
  clear hw1 hcx
  go_wp2
  go_ret
  exact ⟨Ns.ret_bool rfl, HB.out⟩
end Fl
end Go.Proofs.YtdldgefahgojaakGreatDoor
