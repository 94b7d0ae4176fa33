/- Package neck's Fair: do the rates fit, and has each flow a narrow place? -/
import Derived.Test.YtmimfcmpealemacPlains
import Derived.Test.YtmimfcmpealemacLoadE
import Derived.Test.YtmimfcmpealemacNetA
namespace Go.Proofs.Ytmimfcmpealemac
namespace Fl
open Go.RowKit Fr Ns Ld
set_option linter.unusedSimpArgs false
set_option linter.unusedVariables false

set_option maxRecDepth 100000 in
set_option maxHeartbeats 4000000 in
theorem nfair_of (hOf : NOfSaid) : NFairSaid := by
  intro Q caps paths r v x w h hx
  have HFi : Hid (∀ u : World, Below w.heap.size w u → Calls Try.prog 9 #[v, x] u fun e w' => e = .returned (.tuple #[.bool (decide (loadE caps paths r = 0) && fitsB caps paths r), errV (loadE caps paths r)]) ∧ Below u.heap.size u w') := fun u hu => fits_said Q caps paths r v x u (h.later hu) (hx.later hu)
  have HOf : Hid (∀ u : World, Below w.heap.size w u → Calls Try.prog 12 #[v, x] u fun e w' => ∃ y, e = .returned (.tuple #[y, errV (loadE caps paths r)]) ∧ IntsAt (fun b => u.heap.size ≤ b) w' y (okL (loadE caps paths r) (necksL caps paths r)) ∧ Below u.heap.size u w') := fun u hu => hOf Q caps paths r v x u (h.later hu) (hx.later hu)
  have HFb : Hid (fairB caps paths r = (fitsB caps paths r && !inB (necksL caps paths r) (-1))) := fairB_eq caps paths r
  obtain ⟨v1, v2, rfl, ⟨a1, cap1, rfl, _⟩, ⟨a2, cap2, rfl, _⟩⟩ := h
  obtain ⟨ar, capr, rfl, _⟩ := hx
  have HBW : Hid (∀ u, Below (w.heap.size + 1) (w.alloc (.cells #[.slice a1 caps.length cap1, .slice a2 paths.length cap2] 25)) u → Below w.heap.size w u) := fun u hu => ((Below.refl _ _).alloc (Nat.le_refl _) _).trans (hu.mono (by omega))
  have HCW : Hid (∀ u, Below (w.heap.size + 1) (w.alloc (.cells #[.slice a1 caps.length cap1, .slice a2 paths.length cap2] 25)) u → u.cell? ⟨w.heap.size, 0, none⟩ = some (.slice a1 caps.length cap1) ∧ u.cell? ⟨w.heap.size, 1, none⟩ = some (.slice a2 paths.length cap2)) := fun u hu =>
    ⟨(hu.cell (p := ⟨w.heap.size, 0, none⟩) (by simp)).trans (by simp), (hu.cell (p := ⟨w.heap.size, 1, none⟩) (by simp)).trans (by simp)⟩
  have hNB : Hid (w.heap.size + 1 ≤ (w.alloc (.cells #[.slice a1 caps.length cap1, .slice a2 paths.length cap2] 25)).heap.size) := by simp [Hid]
  by_cases hk : loadE caps paths r = 0
  · rw [show (decide (loadE caps paths r = 0) && fairB caps paths r) = fairB caps paths r by rw [hk]; simp]
    rw [show (decide (loadE caps paths r = 0) && fitsB caps paths r) = fitsB caps paths r by rw [hk]; simp] at HFi
    rw [hk, errV_0] at HFi ⊢
    rw [hk, errV_0, okL_0] at HOf
    have HIn : Hid (∀ (S : Nat → Prop) (y : Value) (u : World), IntsAt S u y (necksL caps paths r) → Calls Try.prog 30 #[y, .int .i64 (-1)] u fun e w' => e = .returned (.bool (inB (necksL caps paths r) (-1))) ∧ w' = u) := fun S y u hy => Contains_any _ _ y u hy
    generalize inB (necksL caps paths r) (-1) = nb at *
    generalize necksL caps paths r = NL at *
    generalize fairB caps paths r = fa at *
    generalize fitsB caps paths r = fb at *
    clear hk
    go_enter Try.func13, Try.ntmps13
    go_wp2_with fail
    refine (HFi.out _ (HBW.out _ (Below.refl _ _))).mono ?_
    rintro e w1 ⟨rfl, hw1⟩
    have B1 : Hid (Below (w.heap.size + 1) (w.alloc (.cells #[.slice a1 caps.length cap1, .slice a2 paths.length cap2] 25)) w1) := Bel.call (Below.refl _ _) hNB.out hw1
    obtain ⟨g0, g1⟩ := HCW.out _ B1.out
    clear hw1
    go_wp2_with fail
    refine (HOf.out _ (HBW.out _ B1.out)).mono ?_
    rintro e w2 ⟨y, rfl, hy, hw2⟩
    have B2 : Hid (Below (w.heap.size + 1) (w.alloc (.cells #[.slice a1 caps.length cap1, .slice a2 paths.length cap2] 25)) w2) := Bel.call B1.out hNB.out hw2
    have HI := (show Hid _ from HIn.out _ y w2 hy)
    obtain ⟨ay, cy, rfl, _⟩ := hy
    clear hw2 g0 g1
    cases fb with
    | true =>
      go_wp2_with fail
      refine (Calls.mono HI.out ?_)
      rintro e w2 ⟨rfl, rfl⟩
      go_wp2
      refine bodyPost_ret (v := .tuple #[.bool (!nb), .nilIface]) (by simp [results, Try.results13, go_sem]) rfl ?_
      exact ⟨by rw [HFb.out]; simp, HBW.out _ B2.out⟩
    | false =>
      go_wp2
      refine bodyPost_ret (v := .tuple #[.bool false, .nilIface]) (by simp [results, Try.results13, go_sem]) rfl ?_
      exact ⟨by rw [HFb.out]; simp, HBW.out _ B2.out⟩
  · have HV : Hid (errV (loadE caps paths r) = .iface 57 (.int .i64 (loadE caps paths r))) := errV_ne hk
    rw [show (decide (loadE caps paths r = 0) && fairB caps paths r) = false by simp [hk]]
    rw [show (decide (loadE caps paths r = 0) && fitsB caps paths r) = false by simp [hk]] at HFi
    rw [HV.out] at HFi ⊢
    generalize loadE caps paths r = ek at *
    clear hk
    go_enter Try.func13, Try.ntmps13
    go_wp2_with fail
    refine (HFi.out _ (HBW.out _ (Below.refl _ _))).mono ?_
    rintro e w1 ⟨rfl, hw1⟩
    have B1 : Hid (Below (w.heap.size + 1) (w.alloc (.cells #[.slice a1 caps.length cap1, .slice a2 paths.length cap2] 25)) w1) := Bel.call (Below.refl _ _) hNB.out hw1
    clear hw1
    go_wp2
    refine bodyPost_ret (v := .tuple #[.bool false, .iface 57 (.int .i64 ek)]) (by simp [results, Try.results13, go_sem]) rfl ?_
    exact ⟨rfl, HBW.out _ B1.out⟩
end Fl
end Go.Proofs.Ytmimfcmpealemac
