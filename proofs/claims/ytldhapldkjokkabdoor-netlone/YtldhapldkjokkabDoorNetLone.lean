/- The law NetLone returns true for all links and any path, from what is asked of package net's calls. -/
import Derived.Test.YtldhapldkjokkabDoorNetSaid
import Derived.Test.YtldhapldkjokkabDoorSame
import Derived.Test.YtldhapldkjokkabDoorToldB
import Derived.Test.YtldhapldkjokkabDoorOpen
namespace Go.Proofs.YtldhapldkjokkabDoor
namespace Ns
open Go.RowKit Fr
set_option linter.unusedSimpArgs false
set_option linter.unusedVariables false

theorem lone_plain {caps path : List Int} (h : netE caps [path] = 0) :
    dropE caps [path] 0 = 5 ∧ addE caps [path] path = 0 ∧ dropE caps ([path] ++ [path]) 0 = 0 ∧ less ([path] ++ [path]) 0 = [path] := by
  have h0 := netE_0 h
  have hp : pathE caps.length path = 0 := by rw [← pathsFrom_one]; exact h0.2.2.2.2.2
  have ha : addE caps [path] path = 0 := by simp [addE, h, hp]
  refine ⟨by simp [dropE, h], ha, ?_, by simp [less]⟩
  have := (netE_add ha).2.2.2
  rw [dropE, if_pos this]
  simp


set_option maxHeartbeats 2000000 in
theorem netLone_walk (hCheck : CheckSaid) (hAdd : AddSaid) (hDrop : DropSaid) (caps path : List Int) (v p : Value) (w : World)
    (hg : w.cell? ⟨0, 0, none⟩ = some handleV)
    (hv : IntsAt (fun b => b < w.heap.size) w v caps) (hp : IntsAt (fun b => b < w.heap.size) w p path) :
    Calls Tryd.prog 3 #[v, p] w fun e w' => e = .returned (.bool true) ∧ Below w.heap.size w w' := by
  have HV : Hid (IntsAt (fun b => b < w.heap.size) w v caps) := hv
  have HP : Hid (IntsAt (fun b => b < w.heap.size) w p path) := hp
  have HG : Hid (w.cell? ⟨0, 0, none⟩ = some handleV) := hg
  have hlt : 0 < w.heap.size := World.block_lt_of_cell? _ _ hg
  obtain ⟨a1, cap1, rfl, _⟩ := hv
  obtain ⟨a2, cap2, rfl, _⟩ := hp
  clear hg
  go_enter Tryd.func3, Tryd.ntmps3
  have HB0 : Hid (Below w.heap.size w ((w.alloc (.cells #[.slice a2 path.length cap2] 22)).alloc (.cells #[.slice a1 caps.length cap1, .slice (some ⟨w.heap.size, 0, none⟩) 1 1] 25))) :=
    ((Below.refl _ _).alloc (Nat.le_refl _) _).alloc (by simp) _
  have HN : Hid (NetAt (fun _ => True) ((w.alloc (.cells #[.slice a2 path.length cap2] 22)).alloc (.cells #[.slice a1 caps.length cap1, .slice (some ⟨w.heap.size, 0, none⟩) 1 1] 25)) (.agg #[.slice a1 caps.length cap1, .slice (some ⟨w.heap.size, 0, none⟩) 1 1]) caps [path]) := by
    refine ⟨_, _, rfl, (HV.out.later HB0.out).keep (fun _ _ _ => rfl) (fun _ _ _ => trivial), _, 1, rfl, ⟨by simp, by simp⟩, .inr ⟨_, 0, rfl, fun i hi => ?_, trivial⟩⟩
    obtain rfl : i = 0 := by simpa using hi
    exact ⟨_, by simp, (HP.out.later HB0.out).keep (fun _ _ _ => rfl) (fun _ _ _ => trivial)⟩
  go_wp2_with fail
  refine (hCheck _ caps [path] _ _ HN.out).mono ?_
  rintro e w1 ⟨rfl, hb1⟩
  have HB1 : Hid (Below w.heap.size w w1) := HB0.out.trans (hb1.mono (by simp; omega))
  by_cases h0 : netE caps [path] = 0
  · obtain ⟨d1, d2, d3, d4⟩ := lone_plain h0
    have D1 : Hid (dropE caps [path] 0 = 5) := d1
    have D2 : Hid (addE caps [path] path = 0) := d2
    have D3 : Hid (dropE caps ([path] ++ [path]) 0 = 0) := d3
    have D4 : Hid (less ([path] ++ [path]) 0 = [path]) := d4
    rw [h0, errV_0]
    clear d1 d2 d3 d4 h0
    have HN1 : Hid (NetAt (fun _ => True) w1 (.agg #[.slice a1 caps.length cap1, .slice (some ⟨w.heap.size, 0, none⟩) 1 1]) caps [path]) := HN.out.later hb1
    have c0 : w1.cell? ⟨w.heap.size + 1, 0, none⟩ = some (.slice a1 caps.length cap1) := cell_later hb1 (by go_simp)
    have c1 : w1.cell? ⟨w.heap.size + 1, 1, none⟩ = some (.slice (some ⟨w.heap.size, 0, none⟩) 1 1) := cell_later hb1 (by go_simp)
    clear hb1 HN HB0
    go_wp2_with fail
    refine (hDrop _ caps [path] 0 _ _ HN1.out).mono ?_
    rintro e w2 ⟨x0, rfl, hx0, hb2⟩
    rw [D1.out, errV_ne (by decide)]
    have HB2 : Hid (Below w.heap.size w w2) := HB1.out.trans (hb2.mono HB1.out.size)
    have HN2 : Hid (NetAt (fun _ => True) w2 (.agg #[.slice a1 caps.length cap1, .slice (some ⟨w.heap.size, 0, none⟩) 1 1]) caps [path]) := HN1.out.later hb2
    have HP2 : Hid (IntsAt (fun _ => True) w2 (.slice a2 path.length cap2) path) := (HP.out.later HB2.out).keep (fun _ _ _ => rfl) (fun _ _ _ => trivial)
    replace c0 := cell_later hb2 c0
    replace c1 := cell_later hb2 c1
    have hz2 : w.heap.size + 1 < w2.heap.size := World.block_lt_of_cell? _ ⟨w.heap.size + 1, 0, none⟩ c0
    obtain ⟨_, _, _, _, _, _, rfl⟩ := hx0.shape
    clear hx0 hb2 HN1 HB1
    go_wp2_with fail
    refine (hAdd _ caps [path] path _ _ _ (HN2.out.later ((Below.refl _ _).alloc (Nat.le_refl _) _)) (HP2.out.later ((Below.refl _ _).alloc (Nat.le_refl _) _))).mono ?_
    rintro e w3 ⟨x1, rfl, hx1, hb3⟩
    rw [D2.out, errV_0]
    rw [D2.out, okL_0, okL_0] at hx1
    have hs3 := hb3.size
    simp at hs3
    have HB3 : Hid (Below w.heap.size w w3) := (HB2.out.alloc HB2.out.size _).trans (hb3.mono (by have := HB2.out.size; simp; omega))
    have HN3 : Hid (NetAt (fun _ => True) w3 (.agg #[.slice a1 caps.length cap1, .slice (some ⟨w.heap.size, 0, none⟩) 1 1]) caps [path]) := (HN2.out.later ((Below.refl _ _).alloc (Nat.le_refl _) _)).later hb3
    replace c0 : w3.cell? ⟨w.heap.size + 1, 0, none⟩ = some (.slice a1 caps.length cap1) := cell_later hb3 (by go_simp)
    replace c1 : w3.cell? ⟨w.heap.size + 1, 1, none⟩ = some (.slice (some ⟨w.heap.size, 0, none⟩) 1 1) := cell_later hb3 (by go_simp)
    have hz3 : w.heap.size + 1 < w3.heap.size := World.block_lt_of_cell? _ ⟨w.heap.size + 1, 0, none⟩ c0
    obtain ⟨_, _, _, _, _, _, hx⟩ := hx1.shape
    subst hx
    have HX1 : Hid (NetAt _ w3 _ caps ([path] ++ [path])) := hx1
    clear hx1 hb3 HN2 HB2 HP2 hz2 hs3
    go_wp2_with fail
    refine (hDrop _ caps ([path] ++ [path]) 0 _ _ (HX1.out.later ((Below.refl _ _).alloc (Nat.le_refl _) _))).mono ?_
    rintro e w4 ⟨x2, rfl, hx2, hb4⟩
    rw [D3.out, errV_0]
    rw [D3.out, okL_0, okL_0, D4.out] at hx2
    have hs4 := hb4.size
    simp at hs4
    have HB4 : Hid (Below w.heap.size w w4) := (HB3.out.alloc HB3.out.size _).trans (hb4.mono (by have := HB3.out.size; simp; omega))
    have HN4 : Hid (NetAt (fun _ => True) w4 (.agg #[.slice a1 caps.length cap1, .slice (some ⟨w.heap.size, 0, none⟩) 1 1]) caps [path]) := (HN3.out.later ((Below.refl _ _).alloc (Nat.le_refl _) _)).later hb4
    replace c0 : w4.cell? ⟨w.heap.size + 1, 0, none⟩ = some (.slice a1 caps.length cap1) := cell_later hb4 (by go_simp)
    replace c1 : w4.cell? ⟨w.heap.size + 1, 1, none⟩ = some (.slice (some ⟨w.heap.size, 0, none⟩) 1 1) := cell_later hb4 (by go_simp)
    have hz4 : w.heap.size + 1 < w4.heap.size := World.block_lt_of_cell? _ ⟨w.heap.size + 1, 0, none⟩ c0
    obtain ⟨ax, nx, kx, ay, ny, ky, hx⟩ := hx2.shape
    subst hx
    have HX2 : Hid (NetAt _ w4 _ caps [path]) := hx2
    clear hx2 hb4 HN3 HB3 hz3 hs4 HX1
    go_wp2_with fail
    have hE := Error_any 5 5 (w4.alloc (.cells #[.slice ax nx kx, .slice ay ny ky] 25)) ((World.cell?_alloc_lt _ _ ⟨0, 0, none⟩ (by have := HB4.out.size; simp; omega)).trans (cell_later HB4.out HG.out))
    rw [errV_ne (by decide)] at hE
    refine hE.mono ?_
    rintro e w5 ⟨rfl, hb5⟩
    clear hE
    have hs5 := hb5.size
    simp at hs5
    have HB5 : Hid (Below w.heap.size w w5) := (HB4.out.alloc HB4.out.size _).trans (hb5.mono (by have := HB4.out.size; simp; omega))
    have HN5 : Hid (NetAt (fun _ => True) w5 (.agg #[.slice a1 caps.length cap1, .slice (some ⟨w.heap.size, 0, none⟩) 1 1]) caps [path]) := (HN4.out.later ((Below.refl _ _).alloc (Nat.le_refl _) _)).later hb5
    have HX5 : Hid (NetAt _ w5 (.agg #[.slice ax nx kx, .slice ay ny ky]) caps [path]) := (HX2.out.later ((Below.refl _ _).alloc (Nat.le_refl _) _)).later hb5
    replace c0 : w5.cell? ⟨w.heap.size + 1, 0, none⟩ = some (.slice a1 caps.length cap1) := cell_later hb5 (by go_simp)
    replace c1 : w5.cell? ⟨w.heap.size + 1, 1, none⟩ = some (.slice (some ⟨w.heap.size, 0, none⟩) 1 1) := cell_later hb5 (by go_simp)
    have c2 : w5.cell? ⟨w4.heap.size, 0, none⟩ = some (.slice ax nx kx) := cell_later hb5 (by go_simp)
    have c3 : w5.cell? ⟨w4.heap.size, 1, none⟩ = some (.slice ay ny ky) := cell_later hb5 (by go_simp)
    clear hb5 HN4 HB4 HX2 hz4 hs5
    go_wp2_with fail
    have hS := SNet_any caps caps [path] [path] _ _ _ HX5.out HN5.out
    rw [eqN_self] at hS
    refine hS.mono ?_
    rintro e w6 ⟨rfl, hb6⟩
    clear hS
    have HB6 : Hid (Below w.heap.size w w6) := HB5.out.trans (hb6.mono HB5.out.size)
    clear hb6 HB5 HX5 HN5
    go_wp2
    go_ret
    exact ⟨rfl, HB6.out⟩
  · rw [errV_ne h0]
    clear h0
    go_wp2
    go_ret
    exact ⟨rfl, HB1.out⟩
end Ns
end Go.Proofs.YtldhapldkjokkabDoor
