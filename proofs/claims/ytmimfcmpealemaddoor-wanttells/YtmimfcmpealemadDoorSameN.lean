/- Package fairsame's Net: are two nets the same? -/
import Derived.Test.YtmimfcmpealemadDoorSame
namespace Go.Proofs.YtmimfcmpealemadDoor
namespace Ns
open Go.RowKit
set_option linter.unusedSimpArgs false
set_option linter.unusedVariables false

def eqN (c1 : List Int) (p1 : List (List Int)) (c2 : List Int) (p2 : List (List Int)) : Bool := eqI c1 c2 && eqL p1 p2
theorem eqN_self (c : List Int) (p : List (List Int)) : eqN c p c p = true := by simp [eqN, eqI, eqL]

set_option maxHeartbeats 1000000 in
theorem SNet_any {Q R : Nat → Prop} (c1 c2 : List Int) (p1 p2 : List (List Int)) (v1 v2 : Value) (w : World) (h1 : NetAt Q w v1 c1 p1) (h2 : NetAt R w v2 c2 p2) :
    Calls Tryd.prog 9 #[v1, v2] w fun e w' => e = .returned (.bool (eqN c1 p1 c2 p2)) ∧ Below w.heap.size w w' := by
  obtain ⟨x1, y1, rfl, hx1, hy1⟩ := h1
  obtain ⟨x2, y2, rfl, hx2, hy2⟩ := h2
  have HX1 : Hid (IntsAt Q w x1 c1) := hx1
  have HX2 : Hid (IntsAt R w x2 c2) := hx2
  have HY1 : Hid (ListsAt Q w y1 p1) := hy1
  have HY2 : Hid (ListsAt R w y2 p2) := hy2
  obtain ⟨_, _, rfl, _⟩ := hx1
  obtain ⟨_, _, rfl, _⟩ := hx2
  obtain ⟨_, _, rfl, _⟩ := hy1
  obtain ⟨_, _, rfl, _⟩ := hy2
  have B0 : ∀ (o1 o2 : Obj), Below w.heap.size w ((w.alloc o1).alloc o2) := fun o1 o2 => ((Below.refl _ _).alloc (Nat.le_refl _) _).alloc (by simp) _
  have HB0 : Hid (∀ (o1 o2 : Obj), Below w.heap.size w ((w.alloc o1).alloc o2)) := B0
  clear B0
  go_enter Tryd.func9, Tryd.ntmps9
  go_wp2_with fail
  refine (SInts_any c1 c2 _ _ _ (HX1.out.later (HB0.out _ _)) (HX2.out.later (HB0.out _ _))).mono ?_
  rintro e w1 ⟨rfl, n1, rfl⟩
  go_wp2_with fail
  refine (SLists_any p1 p2 _ _ _ (HY1.out.later (below_drewN (HB0.out _ _) _)) (HY2.out.later (below_drewN (HB0.out _ _) _))).mono ?_
  rintro e w2 ⟨rfl, n2, rfl⟩
  cases hi : eqI c1 c2 with
  | true =>
    have HR : Hid (eqN c1 p1 c2 p2 = eqL p1 p2) := by show _ = _; rw [eqN, hi]; rfl
    clear hi
    go_wp2
    go_ret
    exact ⟨ret_bool HR.out.symm, below_drewN (HB0.out _ _) _⟩
  | false =>
    have HR : Hid (eqN c1 p1 c2 p2 = false) := by show _ = _; rw [eqN, hi]; rfl
    clear hi
    go_wp2
    go_ret
    exact ⟨ret_bool HR.out.symm, below_drewN (HB0.out _ _) _⟩
end Ns
end Go.Proofs.YtmimfcmpealemadDoor
