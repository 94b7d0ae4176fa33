/- Contracts of package frac's checkAll over one fraction and over two. -/
import Derived.Test.YtdldgefahgojaakDoorFracA
import Derived.Test.YtdldgefahgojaakDoorPlains
import Derived.Deep.RegionHeld3
namespace Go.Proofs.YtdldgefahgojaakDoor
namespace Fr
open Go.RowKit

theorem lowest_at (t b x y : Int) (w : World) (hx : Hid (lowT t b = x)) (hy : Hid (lowB t b = y)) (h1 : -1000000000000000000 ≤ t) (h2 : t ≤ 1000000000000000000) (h3 : 1 ≤ b) (h4 : b ≤ 1000000000000000000) :
    Calls Tryd.prog 31 #[.int .i64 t, .int .i64 b] w fun e w' => e = .returned (.agg #[.int .i64 x, .int .i64 y]) ∧ Below w.heap.size w w' := by
  have := lowest_any t b w h1 h2 h3 h4
  rw [hx.out, hy.out] at this
  exact this

/-- three cases: in lowest terms; not, by the top; not, by the bottom -/
theorem low_cases (t b : Int) : (isLow t b = true ∧ Hid (lowT t b = t) ∧ Hid (lowB t b = b)) ∨ (isLow t b = false ∧ ∃ x y, Hid (lowT t b = x) ∧ Hid (lowB t b = y) ∧ ¬ t = x) ∨ (isLow t b = false ∧ ∃ y, Hid (lowT t b = t) ∧ Hid (lowB t b = y) ∧ ¬ b = y) := by
  by_cases ht : t = lowT t b
  · by_cases hb : b = lowB t b
    · exact .inl ⟨by simp only [isLow]; exact decide_eq_true ⟨ht, hb⟩, ht.symm, hb.symm⟩
    · exact .inr (.inr ⟨by simp only [isLow]; exact decide_eq_false (fun h => hb h.2), _, ht.symm, rfl, hb⟩)
  · exact .inr (.inl ⟨by simp only [isLow]; exact decide_eq_false (fun h => ht h.1), _, _, rfl, rfl, ht⟩)

theorem below_round {w wr w1 : World} {o : Obj} (hbw : Below w.heap.size w wr) (hb1 : Below (wr.alloc o).drew.heap.size (wr.alloc o).drew w1) : Below w.heap.size w w1 :=
  ((hbw.alloc hbw.size o).drew).trans (hb1.mono (by have := hbw.size; simp; omega))

set_option maxRecDepth 100000 in
set_option maxHeartbeats 1000000 in
theorem checkAll1 (B : Nat) (t b : Int) (w : World) (hB : B < w.heap.size)
    (c0 : w.cell? ⟨B, 0, none⟩ = some (.int .i64 t)) (c1 : w.cell? ⟨B, 1, none⟩ = some (.int .i64 b)) :
    Calls Tryd.prog 79 #[.slice (some ⟨B, 0, none⟩) 1 1] w fun e w' => e = .returned (errV (fault t b)) ∧ Below w.heap.size w w' := by
  have R1 : ∀ k : Int, k ≠ 0 → fault t b = k → Ending.returned (.iface 61 (.int .i64 k)) = .returned (errV (fault t b)) := fun k h0 h => by rw [h, errV_ne h0]
  have H1 : Hid (∀ k : Int, k ≠ 0 → fault t b = k → Ending.returned (.iface 61 (.int .i64 k)) = .returned (errV (fault t b))) := R1
  clear R1
  go_enter Tryd.func79, Tryd.ntmps79
  go_wp2
  go_loopw [7] (fun i wr => Below w.heap.size w wr ∧ (i = .int .i64 0 ∨ i = .int .i64 1 ∧ Hid (fault t b = 0))) (fun i _ => 1 - (intOf i).toNat)
  case atStart => exact ⟨Below.refl _ _, Or.inl rfl⟩
  case round =>
    obtain ⟨hbw, hk⟩ := hrel
    rcases hk with rfl | ⟨rfl, hf⟩
    · have d0 : wr.cell? ⟨B, 0, none⟩ = some (.int .i64 t) := (hbw.cell (p := ⟨B, 0, none⟩) hB).trans c0
      have d1 : wr.cell? ⟨B, 1, none⟩ = some (.int .i64 b) := (hbw.cell (p := ⟨B, 1, none⟩) hB).trans c1
      clear c0 c1
      by_cases hm : mayB t b = true
      · obtain ⟨m1, m2, m3, m4⟩ := mayB_iff.1 hm
        have Hm : Hid (mayB t b = true) := hm
        clear hm
        rcases low_cases t b with ⟨l0, lx, ly⟩ | ⟨l0, x, y, lx, ly, ln⟩ | ⟨l0, y, lx, ly, ln⟩
        · have L0 : Hid (isLow t b = true) := l0
          clear l0
          go_wp2_with (go_at_call 30; refine (mayBe_any t b _).mono ?_; rintro e w' ⟨rfl, rfl⟩; rw [Hm.out])
          go_region_held3 (fun w' => w'.cell? ⟨wr.heap.size, 0, none⟩ = some (.int .i64 t) ∧ w'.cell? ⟨wr.heap.size, 1, none⟩ = some (.int .i64 b))
              (first | exact ⟨by simp, by simp⟩ | exact ⟨(hb1.cell (p := ⟨wr.heap.size, 0, none⟩) (by simp)).trans (by simp), (hb1.cell (p := ⟨wr.heap.size, 1, none⟩) (by simp)).trans (by simp)⟩)
              (first | (go_at_call 31; refine (lowest_at t b t b _ lx ly (by omega) (by omega) (by omega) (by omega)).mono ?_; rintro e w1 ⟨rfl, hb1⟩))
          go_wp2
          go_roundw
          case rel => exact ⟨below_round hbw hb1, Or.inr <| And.intro rfl <| (show fault t b = 0 by rw [fault, Hm.out, L0.out]; rfl)⟩
          case measure => decide
        · have L0 : Hid (isLow t b = false) := l0
          clear l0
          go_wp2_with (go_at_call 30; refine (mayBe_any t b _).mono ?_; rintro e w' ⟨rfl, rfl⟩; rw [Hm.out])
          go_region_held3 (fun w' => w'.cell? ⟨wr.heap.size, 0, none⟩ = some (.int .i64 t) ∧ w'.cell? ⟨wr.heap.size, 1, none⟩ = some (.int .i64 b))
              (first | exact ⟨by simp, by simp⟩ | exact ⟨(hb1.cell (p := ⟨wr.heap.size, 0, none⟩) (by simp)).trans (by simp), (hb1.cell (p := ⟨wr.heap.size, 1, none⟩) (by simp)).trans (by simp)⟩)
              (first | (go_at_call 31; refine (lowest_at t b x y _ lx ly (by omega) (by omega) (by omega) (by omega)).mono ?_; rintro e w1 ⟨rfl, hb1⟩))
          go_wp2
          go_ret
          exact ⟨H1.out 3 (by decide) (by rw [fault, Hm.out, L0.out]; rfl), below_round hbw hb1⟩
        · have L0 : Hid (isLow t b = false) := l0
          clear l0
          go_wp2_with (go_at_call 30; refine (mayBe_any t b _).mono ?_; rintro e w' ⟨rfl, rfl⟩; rw [Hm.out])
          go_region_held3 (fun w' => w'.cell? ⟨wr.heap.size, 0, none⟩ = some (.int .i64 t) ∧ w'.cell? ⟨wr.heap.size, 1, none⟩ = some (.int .i64 b))
              (first | exact ⟨by simp, by simp⟩ | exact ⟨(hb1.cell (p := ⟨wr.heap.size, 0, none⟩) (by simp)).trans (by simp), (hb1.cell (p := ⟨wr.heap.size, 1, none⟩) (by simp)).trans (by simp)⟩)
              (first | (go_at_call 31; refine (lowest_at t b t y _ lx ly (by omega) (by omega) (by omega) (by omega)).mono ?_; rintro e w1 ⟨rfl, hb1⟩))
          go_wp2
          go_ret
          exact ⟨H1.out 3 (by decide) (by rw [fault, Hm.out, L0.out]; rfl), below_round hbw hb1⟩
      · have Hm : Hid (mayB t b = false) := show mayB t b = false by simpa using hm
        clear hm
        go_wp2_with (go_at_call 30; refine (mayBe_any t b _).mono ?_; rintro e w' ⟨rfl, rfl⟩; rw [Hm.out])
        go_ret
        exact ⟨H1.out 1 (by decide) (by rw [fault, Hm.out]; rfl), hbw.alloc hbw.size _⟩
    · go_wp2
      go_ret
      refine ⟨?_, hbw⟩
      rw [hf.out, errV_0]
      rfl

set_option maxRecDepth 100000 in
set_option maxHeartbeats 1000000 in
theorem checkAll2 (B : Nat) (t b u c : Int) (w : World) (hB : B < w.heap.size)
    (c0 : w.cell? ⟨B, 0, none⟩ = some (.int .i64 t)) (c1 : w.cell? ⟨B, 1, none⟩ = some (.int .i64 b))
    (c2 : w.cell? ⟨B, 2, none⟩ = some (.int .i64 u)) (c3 : w.cell? ⟨B, 3, none⟩ = some (.int .i64 c)) :
    Calls Tryd.prog 79 #[.slice (some ⟨B, 0, none⟩) 2 2] w fun e w' => e = .returned (errV (fault2 t b u c)) ∧ Below w.heap.size w w' := by
  have H1 : Hid (∀ k : Int, k ≠ 0 → fault t b = k → Ending.returned (.iface 61 (.int .i64 k)) = .returned (errV (fault2 t b u c))) := fun k h0 h => by rw [fault2, h, if_neg h0, errV_ne h0]
  have H2 : Hid (fault t b = 0 → ∀ k : Int, k ≠ 0 → fault u c = k → Ending.returned (.iface 61 (.int .i64 k)) = .returned (errV (fault2 t b u c))) := fun hf k h0 h => by rw [fault2, hf, if_pos rfl, h, errV_ne h0]
  go_enter Tryd.func79, Tryd.ntmps79
  go_wp2
  go_loopw [7] (fun i wr => Below w.heap.size w wr ∧ (i = .int .i64 0 ∨ i = .int .i64 1 ∧ Hid (fault t b = 0) ∨ i = .int .i64 2 ∧ Hid (fault t b = 0) ∧ Hid (fault u c = 0))) (fun i _ => 2 - (intOf i).toNat)
  case atStart => exact ⟨Below.refl _ _, Or.inl rfl⟩
  case round =>
    obtain ⟨hbw, hk⟩ := hrel
    rcases hk with rfl | ⟨rfl, hf⟩ | ⟨rfl, hf, hf2⟩
    · have d0 : wr.cell? ⟨B, 0, none⟩ = some (.int .i64 t) := (hbw.cell (p := ⟨B, 0, none⟩) hB).trans c0
      have d1 : wr.cell? ⟨B, 1, none⟩ = some (.int .i64 b) := (hbw.cell (p := ⟨B, 1, none⟩) hB).trans c1
      clear c0 c1 c2 c3
      by_cases hm : mayB t b = true
      · obtain ⟨m1, m2, m3, m4⟩ := mayB_iff.1 hm
        have Hm : Hid (mayB t b = true) := hm
        clear hm
        rcases low_cases t b with ⟨l0, lx, ly⟩ | ⟨l0, x, y, lx, ly, ln⟩ | ⟨l0, y, lx, ly, ln⟩
        · have L0 : Hid (isLow t b = true) := l0
          clear l0
          go_wp2_with (go_at_call 30; refine (mayBe_any t b _).mono ?_; rintro e w' ⟨rfl, rfl⟩; rw [Hm.out])
          go_region_held3 (fun w' => w'.cell? ⟨wr.heap.size, 0, none⟩ = some (.int .i64 t) ∧ w'.cell? ⟨wr.heap.size, 1, none⟩ = some (.int .i64 b))
              (first | exact ⟨by simp, by simp⟩ | exact ⟨(hb1.cell (p := ⟨wr.heap.size, 0, none⟩) (by simp)).trans (by simp), (hb1.cell (p := ⟨wr.heap.size, 1, none⟩) (by simp)).trans (by simp)⟩)
              (first | (go_at_call 31; refine (lowest_at t b t b _ lx ly (by omega) (by omega) (by omega) (by omega)).mono ?_; rintro e w1 ⟨rfl, hb1⟩))
          go_wp2
          go_roundw
          case rel => exact ⟨below_round hbw hb1, Or.inr <| Or.inl <| And.intro rfl <| (show fault t b = 0 by rw [fault, Hm.out, L0.out]; rfl)⟩
          case measure => decide
        · have L0 : Hid (isLow t b = false) := l0
          clear l0
          go_wp2_with (go_at_call 30; refine (mayBe_any t b _).mono ?_; rintro e w' ⟨rfl, rfl⟩; rw [Hm.out])
          go_region_held3 (fun w' => w'.cell? ⟨wr.heap.size, 0, none⟩ = some (.int .i64 t) ∧ w'.cell? ⟨wr.heap.size, 1, none⟩ = some (.int .i64 b))
              (first | exact ⟨by simp, by simp⟩ | exact ⟨(hb1.cell (p := ⟨wr.heap.size, 0, none⟩) (by simp)).trans (by simp), (hb1.cell (p := ⟨wr.heap.size, 1, none⟩) (by simp)).trans (by simp)⟩)
              (first | (go_at_call 31; refine (lowest_at t b x y _ lx ly (by omega) (by omega) (by omega) (by omega)).mono ?_; rintro e w1 ⟨rfl, hb1⟩))
          go_wp2
          go_ret
          exact ⟨H1.out 3 (by decide) (by rw [fault, Hm.out, L0.out]; rfl), below_round hbw hb1⟩
        · have L0 : Hid (isLow t b = false) := l0
          clear l0
          go_wp2_with (go_at_call 30; refine (mayBe_any t b _).mono ?_; rintro e w' ⟨rfl, rfl⟩; rw [Hm.out])
          go_region_held3 (fun w' => w'.cell? ⟨wr.heap.size, 0, none⟩ = some (.int .i64 t) ∧ w'.cell? ⟨wr.heap.size, 1, none⟩ = some (.int .i64 b))
              (first | exact ⟨by simp, by simp⟩ | exact ⟨(hb1.cell (p := ⟨wr.heap.size, 0, none⟩) (by simp)).trans (by simp), (hb1.cell (p := ⟨wr.heap.size, 1, none⟩) (by simp)).trans (by simp)⟩)
              (first | (go_at_call 31; refine (lowest_at t b t y _ lx ly (by omega) (by omega) (by omega) (by omega)).mono ?_; rintro e w1 ⟨rfl, hb1⟩))
          go_wp2
          go_ret
          exact ⟨H1.out 3 (by decide) (by rw [fault, Hm.out, L0.out]; rfl), below_round hbw hb1⟩
      · have Hm : Hid (mayB t b = false) := show mayB t b = false by simpa using hm
        clear hm
        go_wp2_with (go_at_call 30; refine (mayBe_any t b _).mono ?_; rintro e w' ⟨rfl, rfl⟩; rw [Hm.out])
        go_ret
        exact ⟨H1.out 1 (by decide) (by rw [fault, Hm.out]; rfl), hbw.alloc hbw.size _⟩
    · have d0 : wr.cell? ⟨B, 2, none⟩ = some (.int .i64 u) := (hbw.cell (p := ⟨B, 2, none⟩) hB).trans c2
      have d1 : wr.cell? ⟨B, 3, none⟩ = some (.int .i64 c) := (hbw.cell (p := ⟨B, 3, none⟩) hB).trans c3
      clear c0 c1 c2 c3
      by_cases hm : mayB u c = true
      · obtain ⟨m1, m2, m3, m4⟩ := mayB_iff.1 hm
        have Hm : Hid (mayB u c = true) := hm
        clear hm
        rcases low_cases u c with ⟨l0, lx, ly⟩ | ⟨l0, x, y, lx, ly, ln⟩ | ⟨l0, y, lx, ly, ln⟩
        · have L0 : Hid (isLow u c = true) := l0
          clear l0
          go_wp2_with (go_at_call 30; refine (mayBe_any u c _).mono ?_; rintro e w' ⟨rfl, rfl⟩; rw [Hm.out])
          go_region_held3 (fun w' => w'.cell? ⟨wr.heap.size, 0, none⟩ = some (.int .i64 u) ∧ w'.cell? ⟨wr.heap.size, 1, none⟩ = some (.int .i64 c))
              (first | exact ⟨by simp, by simp⟩ | exact ⟨(hb1.cell (p := ⟨wr.heap.size, 0, none⟩) (by simp)).trans (by simp), (hb1.cell (p := ⟨wr.heap.size, 1, none⟩) (by simp)).trans (by simp)⟩)
              (first | (go_at_call 31; refine (lowest_at u c u c _ lx ly (by omega) (by omega) (by omega) (by omega)).mono ?_; rintro e w1 ⟨rfl, hb1⟩))
          go_wp2
          go_roundw
          case rel => exact ⟨below_round hbw hb1, Or.inr <| Or.inr <| And.intro rfl <| And.intro hf <| (show fault u c = 0 by rw [fault, Hm.out, L0.out]; rfl)⟩
          case measure => decide
        · have L0 : Hid (isLow u c = false) := l0
          clear l0
          go_wp2_with (go_at_call 30; refine (mayBe_any u c _).mono ?_; rintro e w' ⟨rfl, rfl⟩; rw [Hm.out])
          go_region_held3 (fun w' => w'.cell? ⟨wr.heap.size, 0, none⟩ = some (.int .i64 u) ∧ w'.cell? ⟨wr.heap.size, 1, none⟩ = some (.int .i64 c))
              (first | exact ⟨by simp, by simp⟩ | exact ⟨(hb1.cell (p := ⟨wr.heap.size, 0, none⟩) (by simp)).trans (by simp), (hb1.cell (p := ⟨wr.heap.size, 1, none⟩) (by simp)).trans (by simp)⟩)
              (first | (go_at_call 31; refine (lowest_at u c x y _ lx ly (by omega) (by omega) (by omega) (by omega)).mono ?_; rintro e w1 ⟨rfl, hb1⟩))
          go_wp2
          go_ret
          exact ⟨H2.out hf.out 3 (by decide) (by rw [fault, Hm.out, L0.out]; rfl), below_round hbw hb1⟩
        · have L0 : Hid (isLow u c = false) := l0
          clear l0
          go_wp2_with (go_at_call 30; refine (mayBe_any u c _).mono ?_; rintro e w' ⟨rfl, rfl⟩; rw [Hm.out])
          go_region_held3 (fun w' => w'.cell? ⟨wr.heap.size, 0, none⟩ = some (.int .i64 u) ∧ w'.cell? ⟨wr.heap.size, 1, none⟩ = some (.int .i64 c))
              (first | exact ⟨by simp, by simp⟩ | exact ⟨(hb1.cell (p := ⟨wr.heap.size, 0, none⟩) (by simp)).trans (by simp), (hb1.cell (p := ⟨wr.heap.size, 1, none⟩) (by simp)).trans (by simp)⟩)
              (first | (go_at_call 31; refine (lowest_at u c u y _ lx ly (by omega) (by omega) (by omega) (by omega)).mono ?_; rintro e w1 ⟨rfl, hb1⟩))
          go_wp2
          go_ret
          exact ⟨H2.out hf.out 3 (by decide) (by rw [fault, Hm.out, L0.out]; rfl), below_round hbw hb1⟩
      · have Hm : Hid (mayB u c = false) := show mayB u c = false by simpa using hm
        clear hm
        go_wp2_with (go_at_call 30; refine (mayBe_any u c _).mono ?_; rintro e w' ⟨rfl, rfl⟩; rw [Hm.out])
        go_ret
        exact ⟨H2.out hf.out 1 (by decide) (by rw [fault, Hm.out]; rfl), hbw.alloc hbw.size _⟩
    · go_wp2
      go_ret
      refine ⟨?_, hbw⟩
      rw [fault2, hf.out, if_pos rfl, hf2.out, errV_0]
      rfl
end Fr
end Go.Proofs.YtdldgefahgojaakDoor
