/- Package want's Net: the wide net, where there is room. -/
import Derived.Test.YtmimfcmpealemadDoorWtR
import Derived.Test.YtmimfcmpealemadDoorPlains
namespace Go.Proofs.YtmimfcmpealemadDoor
namespace Fl
open Go.RowKit Fr Ns Ld
set_option linter.unusedSimpArgs false
set_option linter.unusedVariables false

theorem wnet_nil (Q : Nat → Prop) (w : World) : NetAt Q w (.agg #[.slice none 0 0, .slice none 0 0]) [] [] := ⟨_, _, rfl, ints_nil _ _, lists_nil _ _⟩
theorem wnet_set {w w2 : World} {B : Nat} {y u z : Value} {cw : List Int} {wp : List (List Int)} (hB : w.heap.size + 1 < B) (h : NetAt (fun b => B ≤ b) w2 y cw wp) :
    NetAt (fun b => w.heap.size ≤ b) ((w2.setCell ⟨w.heap.size + 1, 0, none⟩ u).setCell ⟨w.heap.size + 1, 1, none⟩ z) y cw wp :=
  h.keep (fun b hb _ => (Below.heap_setCell _ _ _ _ (by have : B ≤ b := hb; simp; omega)).trans (Below.heap_setCell _ _ _ _ (by have : B ≤ b := hb; simp; omega))) (fun b hb _ => by have : B ≤ b := hb; omega)

set_option maxRecDepth 100000 in
set_option maxHeartbeats 2000000 in
theorem wnet_said : WNetSaid := by
  intro Q caps paths want v x w h hx
  have HCk : Hid (∀ u, Below w.heap.size w u → Calls Tryd.prog 21 #[v, x] u fun e w' => e = .returned (errV (wantE caps paths want)) ∧ Below u.heap.size u w') := fun u hu => wcheck_any caps paths want v x u (h.later hu) (hx.later hu)
  by_cases hk : wantE caps paths want = 0
  · have HWi : Hid (∀ u, Below w.heap.size w u → Calls Tryd.prog 22 #[v, x] u fun e w' => ∃ y, e = .returned y ∧ NetAt (fun b => u.heap.size ≤ b) w' y (caps ++ want) (wideP caps.length paths) ∧ Below u.heap.size u w') := fun u hu => wide_right hk v x u (h.later hu) (hx.later hu)
    obtain ⟨e1, e2, e3⟩ := wantE_0 hk
    have h0 := netE_0 e1
    have hl1 : caps.length ≤ 6 := h0.2.1
    have hl2 : want.length ≤ 6 := by omega
    have hwrap : wrap64 ((caps.length : Int) + (want.length : Int)) = (caps.length : Int) + (want.length : Int) := by unfold wrap64; omega
    rw [hk, errV_0] at HCk
    by_cases h6 : 6 < caps.length + want.length
    · have HE : wideE caps paths want = 4 := by rw [wideE, if_pos hk, if_pos h6]
      have q : (caps.length : Int) + (want.length : Int) > 6 := by omega
      rw [HE, okL_ne (by decide), okL_ne (by decide)]
      obtain ⟨v1, v2, rfl, h1, h2⟩ := h
      obtain ⟨a1, cap1, rfl, _⟩ := h1
      obtain ⟨a2, cap2, rfl, _⟩ := h2
      obtain ⟨a3, cap3, rfl, _⟩ := hx
      clear hk e1 e2 e3 h0 HE h6
      go_enter Tryd.func7, Tryd.ntmps7
      go_wp2_with fail
      refine (HCk.out _ (((Below.refl _ _).alloc (Nat.le_refl _) _).alloc (by simp) _)).mono ?_
      rintro e w1 ⟨rfl, hw1⟩
      have g0 : w1.cell? ⟨w.heap.size, 0, none⟩ = some (.slice a1 caps.length cap1) := cell_later hw1 (by simp)
      have r0 : w1.cell? ⟨w.heap.size + 1, 0, none⟩ = some (.slice none 0 0) := cell_later hw1 (by simp)
      have r1 : w1.cell? ⟨w.heap.size + 1, 1, none⟩ = some (.slice none 0 0) := cell_later hw1 (by simp)
      have s0 : w1.frozen? ⟨w.heap.size + 1, 0, none⟩ = false := (hw1.frozen (p := ⟨w.heap.size + 1, 0, none⟩) (by simp)).trans (by go_simp)
      have s1 : w1.frozen? ⟨w.heap.size + 1, 1, none⟩ = false := (hw1.frozen (p := ⟨w.heap.size + 1, 1, none⟩) (by simp)).trans (by go_simp)
      have HB1 : Hid (Below w.heap.size w w1) := (((Below.refl _ _).alloc (Nat.le_refl _) _).alloc (by simp) _).trans (hw1.mono (by simp; omega))
      clear hw1
      go_wp2
      refine bodyPost_ret (v := .tuple #[.agg #[.slice none 0 0, .slice none 0 0], .iface 57 (.int .i64 4)]) (by simp [results, Tryd.results7, go_sem, r0, r1]) rfl ?_
      exact ⟨_, rfl, wnet_nil _ _, (HB1.out.setCell (by simp) _).setCell (by simp) _⟩
    · have HE : wideE caps paths want = 0 := by rw [wideE, if_pos hk, if_neg h6]
      have q : ¬ ((caps.length : Int) + (want.length : Int) > 6) := by omega
      rw [HE, errV_0, okL_0, okL_0]
      obtain ⟨v1, v2, rfl, h1, h2⟩ := h
      obtain ⟨a1, cap1, rfl, _⟩ := h1
      obtain ⟨a2, cap2, rfl, _⟩ := h2
      obtain ⟨a3, cap3, rfl, _⟩ := hx
      clear hk e1 e2 e3 h0 HE h6
      generalize caps ++ want = cw at *
      generalize wideP caps.length paths = wp at *
      go_enter Tryd.func7, Tryd.ntmps7
      go_wp2_with fail
      refine (HCk.out _ (((Below.refl _ _).alloc (Nat.le_refl _) _).alloc (by simp) _)).mono ?_
      rintro e w1 ⟨rfl, hw1⟩
      have g0 : w1.cell? ⟨w.heap.size, 0, none⟩ = some (.slice a1 caps.length cap1) := cell_later hw1 (by simp)
      have g1 : w1.cell? ⟨w.heap.size, 1, none⟩ = some (.slice a2 paths.length cap2) := cell_later hw1 (by simp)
      have r0 : w1.cell? ⟨w.heap.size + 1, 0, none⟩ = some (.slice none 0 0) := cell_later hw1 (by simp)
      have r1 : w1.cell? ⟨w.heap.size + 1, 1, none⟩ = some (.slice none 0 0) := cell_later hw1 (by simp)
      have s0 : w1.frozen? ⟨w.heap.size + 1, 0, none⟩ = false := (hw1.frozen (p := ⟨w.heap.size + 1, 0, none⟩) (by simp)).trans (by go_simp)
      have s1 : w1.frozen? ⟨w.heap.size + 1, 1, none⟩ = false := (hw1.frozen (p := ⟨w.heap.size + 1, 1, none⟩) (by simp)).trans (by go_simp)
      have HB1 : Hid (Below w.heap.size w w1) := (((Below.refl _ _).alloc (Nat.le_refl _) _).alloc (by simp) _).trans (hw1.mono (by simp; omega))
      have hs1 : w.heap.size + 1 < w1.heap.size := by have := hw1.size; simp at this; omega
      clear hw1
      go_wp2_with fail
      refine (HWi.out _ HB1.out).mono ?_
      rintro e w2 ⟨y, rfl, hy, hw2⟩
      have HY : Hid (NetAt (fun b => w1.heap.size ≤ b) w2 y cw wp) := hy
      have HB2 : Hid (Below w.heap.size w w2) := HB1.out.trans (hw2.mono (by omega))
      have t0 : w2.cell? ⟨w.heap.size + 1, 0, none⟩ = some (.slice none 0 0) := cell_later hw2 r0
      have t1 : w2.cell? ⟨w.heap.size + 1, 1, none⟩ = some (.slice none 0 0) := cell_later hw2 r1
      have u0 : w2.frozen? ⟨w.heap.size + 1, 0, none⟩ = false := (hw2.frozen (p := ⟨w.heap.size + 1, 0, none⟩) hs1).trans s0
      have u1 : w2.frozen? ⟨w.heap.size + 1, 1, none⟩ = false := (hw2.frozen (p := ⟨w.heap.size + 1, 1, none⟩) hs1).trans s1
      obtain ⟨y1, y2, rfl, hy1, hy2⟩ := hy
      obtain ⟨b1, d1, rfl, _⟩ := hy1
      obtain ⟨b2, d2, rfl, _⟩ := hy2
      have HN : Hid (∀ u z, NetAt (fun b => w.heap.size ≤ b) ((w2.setCell ⟨w.heap.size + 1, 0, none⟩ u).setCell ⟨w.heap.size + 1, 1, none⟩ z) (.agg #[.slice b1 cw.length d1, .slice b2 wp.length d2]) cw wp) := fun u z => wnet_set hs1 HY.out
      have HE : Hid (∀ u z, Below w.heap.size w ((w2.setCell ⟨w.heap.size + 1, 0, none⟩ u).setCell ⟨w.heap.size + 1, 1, none⟩ z)) := fun u z => (HB2.out.setCell (by simp) _).setCell (by simp) _
      clear hw2 r0 r1 s0 s1 HY
      go_wp2
      refine bodyPost_ret (v := .tuple #[.agg #[.slice b1 cw.length d1, .slice b2 wp.length d2], .nilIface]) (by simp [results, Tryd.results7, go_sem, t0, t1]) rfl ⟨_, rfl, HN.out _ _, HE.out _ _⟩
  · have HE : wideE caps paths want = wantE caps paths want := by rw [wideE, if_neg hk]
    have HV : Hid (errV (wantE caps paths want) = .iface 57 (.int .i64 (wantE caps paths want))) := errV_ne hk
    have HK1 : okL (wantE caps paths want) (caps ++ want) = [] := okL_ne hk _
    have HK2 : okL (wantE caps paths want) (wideP caps.length paths) = [] := okL_ne hk _
    rw [HV.out] at HCk
    rw [HE, HV.out, HK1, HK2]
    clear HE HK1 HK2
    generalize wantE caps paths want = ek at *
    clear hk
    obtain ⟨v1, v2, rfl, h1, h2⟩ := h
    obtain ⟨a1, cap1, rfl, _⟩ := h1
    obtain ⟨a2, cap2, rfl, _⟩ := h2
    obtain ⟨a3, cap3, rfl, _⟩ := hx
    go_enter Tryd.func7, Tryd.ntmps7
    go_wp2_with fail
    refine (HCk.out _ (((Below.refl _ _).alloc (Nat.le_refl _) _).alloc (by simp) _)).mono ?_
    rintro e w1 ⟨rfl, hw1⟩
    have r0 : w1.cell? ⟨w.heap.size + 1, 0, none⟩ = some (.slice none 0 0) := cell_later hw1 (by simp)
    have r1 : w1.cell? ⟨w.heap.size + 1, 1, none⟩ = some (.slice none 0 0) := cell_later hw1 (by simp)
    have s0 : w1.frozen? ⟨w.heap.size + 1, 0, none⟩ = false := (hw1.frozen (p := ⟨w.heap.size + 1, 0, none⟩) (by simp)).trans (by go_simp)
    have s1 : w1.frozen? ⟨w.heap.size + 1, 1, none⟩ = false := (hw1.frozen (p := ⟨w.heap.size + 1, 1, none⟩) (by simp)).trans (by go_simp)
    have HB1 : Hid (Below w.heap.size w w1) := (((Below.refl _ _).alloc (Nat.le_refl _) _).alloc (by simp) _).trans (hw1.mono (by simp; omega))
    clear hw1
    go_wp2
    refine bodyPost_ret (v := .tuple #[.agg #[.slice none 0 0, .slice none 0 0], .iface 57 (.int .i64 ek)]) (by simp [results, Tryd.results7, go_sem, r0, r1]) rfl ?_
    exact ⟨_, rfl, wnet_nil _ _, (HB1.out.setCell (by simp) _).setCell (by simp) _⟩
end Fl
end Go.Proofs.YtmimfcmpealemadDoor
