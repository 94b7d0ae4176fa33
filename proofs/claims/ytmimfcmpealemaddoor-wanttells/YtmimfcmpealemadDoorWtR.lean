/- Package want's Rates: the wide net rises. -/
import Derived.Test.YtmimfcmpealemadDoorWtA
import Derived.Test.YtmimfcmpealemadDoorWtD
import Derived.Test.YtmimfcmpealemadDoorPlains
import Derived.Test.YtmimfcmpealemadDoorFiG
namespace Go.Proofs.YtmimfcmpealemadDoor
namespace Fl
open Go.RowKit Fr Ns Ld
set_option linter.unusedSimpArgs false
set_option linter.unusedVariables false

theorem wnet_lens {caps : List Int} {paths : List (List Int)} (h : netE caps paths = 0) : ∀ i, i < paths.length → (paths.getD i []).length ≤ 1000 := by
  intro i hi
  have h0 := netE_0 h
  have := (pathsFrom_iff caps.length paths).1 h0.2.2.2.2.2 _ (getD_mem paths i hi [])
  have := pathE_len this
  omega
/-- wide of what is right -/
theorem wide_right {Q : Nat → Prop} {caps : List Int} {paths : List (List Int)} {want : List Int} (hk : wantE caps paths want = 0) (v x : Value) (w : World) (h : NetAt Q w v caps paths) (hx : IntsAt Q w x want) :
    Calls Tryd.prog 22 #[v, x] w fun e w' => ∃ y, e = .returned y ∧ NetAt (fun b => w.heap.size ≤ b) w' y (caps ++ want) (wideP caps.length paths) ∧ Below w.heap.size w w' := by
  obtain ⟨h1, h2, h3⟩ := wantE_0 hk
  have h0 := netE_0 h1
  exact wide_any caps paths want v x w h hx ⟨h0.1, by omega⟩ ⟨by omega, by omega⟩ (by omega) (wnet_lens h1)

set_option maxRecDepth 100000 in
set_option maxHeartbeats 2000000 in
theorem wrates_said : WRatesSaid := by
  intro Q caps paths want v x w h hx
  have HCk : Hid (∀ u, Below w.heap.size w u → Calls Tryd.prog 21 #[v, x] u fun e w' => e = .returned (errV (wantE caps paths want)) ∧ Below u.heap.size u w') := fun u hu => wcheck_any caps paths want v x u (h.later hu) (hx.later hu)
  by_cases hk : wantE caps paths want = 0
  · have HWi : Hid (∀ u, Below w.heap.size w u → Calls Tryd.prog 22 #[v, x] u fun e w' => ∃ y, e = .returned y ∧ NetAt (fun b => u.heap.size ≤ b) w' y (caps ++ want) (wideP caps.length paths) ∧ Below u.heap.size u w') := fun u hu => wide_right hk v x u (h.later hu) (hx.later hu)
    obtain ⟨e1, e2, e3⟩ := wantE_0 hk
    have HGd : Hid (Good (caps ++ want) (wideP caps.length paths)) := wide_good (good_of_net e1) e2 e3
    have HL12 : Hid ((caps ++ want).length ≤ 12) := by
      show _ ≤ _
      have := netE_0 e1
      rw [List.length_append]
      omega
    have HRi : Hid (∀ (R : Nat → Prop) (y : Value) (u : World), NetAt R u y (caps ++ want) (wideP caps.length paths) → Calls Tryd.prog 31 #[y] u fun e w' => ∃ y z, e = .returned (.tuple #[y, z, .nilIface]) ∧ FracsAt (fun b => u.heap.size ≤ b) w' y (wantR caps paths want) ∧ ListsAt (fun b => u.heap.size ≤ b) w' z (fill (caps ++ want) (wideP caps.length paths)).2 ∧ Below u.heap.size u w') := fun R y u hy => rise_any R _ _ y u hy HGd.out HL12.out
    rw [hk, errV_0] at HCk
    rw [hk, errV_0, okL_0]
    obtain ⟨v1, v2, rfl, h1, h2⟩ := h
    obtain ⟨a1, cap1, rfl, _⟩ := h1
    obtain ⟨a2, cap2, rfl, _⟩ := h2
    obtain ⟨a3, cap3, rfl, _⟩ := hx
    generalize wantR caps paths want = lr at *
    generalize (fill (caps ++ want) (wideP caps.length paths)).2 = ll at *
    clear hk e1 e2 e3 HGd HL12
    generalize caps ++ want = cw at *
    generalize wideP caps.length paths = wp at *
    go_enter Tryd.func12, Tryd.ntmps12
    go_wp2_with fail
    refine (HCk.out _ ((Below.refl _ _).alloc (Nat.le_refl _) _)).mono ?_
    rintro e w1 ⟨rfl, hw1⟩
    have g0 : w1.cell? ⟨w.heap.size, 0, none⟩ = some (.slice a1 caps.length cap1) := cell_later hw1 (by simp)
    have g1 : w1.cell? ⟨w.heap.size, 1, none⟩ = some (.slice a2 paths.length cap2) := cell_later hw1 (by simp)
    have HB1 : Hid (Below w.heap.size w w1) := ((Below.refl _ _).alloc (Nat.le_refl _) _).trans (hw1.mono (by simp))
    have hs1 : w.heap.size < w1.heap.size := by have := hw1.size; simp at this; omega
    clear hw1
    go_wp2_with fail
    refine (HWi.out _ HB1.out).mono ?_
    rintro e w2 ⟨y, rfl, hy, hw2⟩
    have HY : Hid (NetAt (fun b => w1.heap.size ≤ b) w2 y cw wp) := hy
    have HB2 : Hid (Below w.heap.size w w2) := HB1.out.trans (hw2.mono (by omega))
    have hs2 : w1.heap.size ≤ w2.heap.size := hw2.size
    obtain ⟨y1, y2, rfl, hy1, hy2⟩ := hy
    obtain ⟨b1, d1, rfl, _⟩ := hy1
    obtain ⟨b2, d2, rfl, _⟩ := hy2
    clear hw2
    go_wp2_with fail
    refine (HRi.out _ _ _ HY.out).mono ?_
    rintro e w3 ⟨z, u, rfl, hz, hu, hw3⟩
    have HZ : Hid (FracsAt (fun b => w.heap.size ≤ b) w3 z lr) := hz.keep (fun _ _ _ => rfl) (fun b hb _ => by omega)
    have HB3 : Hid (Below w.heap.size w w3) := HB2.out.trans (hw3.mono (by omega))
    obtain ⟨az, capz, rfl, _⟩ := hz
    obtain ⟨au, capu, rfl, _⟩ := hu
    clear hw3
    go_wp2
    refine bodyPost_ret (v := .tuple #[.slice az lr.length capz, .nilIface]) (by simp [results, Tryd.results12, go_sem]) rfl ⟨_, rfl, HZ.out, HB3.out⟩
  · have HV : Hid (errV (wantE caps paths want) = .iface 57 (.int .i64 (wantE caps paths want))) := errV_ne hk
    have HK1 : Hid (okL (wantE caps paths want) (wantR caps paths want) = []) := okL_ne hk _
    rw [HV.out] at HCk
    rw [HV.out, HK1.out]
    generalize wantE caps paths want = ek at *
    clear hk HK1
    obtain ⟨v1, v2, rfl, h1, h2⟩ := h
    obtain ⟨a1, cap1, rfl, _⟩ := h1
    obtain ⟨a2, cap2, rfl, _⟩ := h2
    obtain ⟨a3, cap3, rfl, _⟩ := hx
    go_enter Tryd.func12, Tryd.ntmps12
    go_wp2_with fail
    refine (HCk.out _ ((Below.refl _ _).alloc (Nat.le_refl _) _)).mono ?_
    rintro e w1 ⟨rfl, hw1⟩
    have HB1 : Hid (Below w.heap.size w w1) := ((Below.refl _ _).alloc (Nat.le_refl _) _).trans (hw1.mono (by simp))
    clear hw1
    go_wp2
    refine bodyPost_ret (v := .tuple #[.slice none 0 0, .iface 57 (.int .i64 ek)]) (by simp [results, Tryd.results12, go_sem]) rfl ?_
    exact ⟨_, rfl, fracs_nil _ _, HB1.out⟩
end Fl
end Go.Proofs.YtmimfcmpealemadDoor
