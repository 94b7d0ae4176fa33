/- The document's Load (package fairref1): what goes over each link, and the fault. -/
import Derived.Test.YtdegbfgnbobgoacDoorPlains
import Derived.Test.YtdegbfgnbobgoacDoorRefA
import Derived.Test.YtdegbfgnbobgoacDoorIntsD
import Derived.Deep.RegionLaw
import Derived.OwnWalk
namespace Go.Proofs.YtdegbfgnbobgoacDoor
namespace Ld
open Go.RowKit Fr Ns
set_option linter.unusedSimpArgs false
set_option linter.unusedVariables false

theorem Whole_any (n : Int) (w : World) :
    Calls Tryd.prog 16 #[.int .i64 n] w fun e w' => e = .returned (.agg #[.int .i64 n, .int .i64 1]) ∧ Below w.heap.size w w' := by
  go_enter Tryd.func16, Tryd.ntmps16
  go_wp2
  refine bodyPost_ret (v := .agg #[.int .i64 n, .int .i64 1]) (by simp [results, Tryd.results16, go_sem]) rfl ⟨rfl, ?_⟩
  repeat (first | exact Below.refl _ _ | refine Below.setCell ?_ (by simp) _ | refine Below.alloc ?_ (by simp) _ | refine Below.drew ?_)

/-- a block of two cells -/
theorem two_at {w : World} {g : Nat} {x y : Value} {T : TypeId} (h : w.heap[g]? = some (.cells #[x, y] T (0, 0))) :
    w.cell? ⟨g, 0, none⟩ = some x ∧ w.cell? ⟨g, 1, none⟩ = some y ∧ w.frozen? ⟨g, 0, none⟩ = false ∧ w.frozen? ⟨g, 1, none⟩ = false :=
  ⟨by rw [cell_of_row w g 0 _ T (0, 0) h]; rfl, by rw [cell_of_row w g 1 _ T (0, 0) h]; rfl, frozen_of_row w g 0 _ T h, frozen_of_row w g 1 _ T h⟩
theorem two_set {w : World} {g : Nat} {x y x' y' : Value} {T : TypeId} (h : w.heap[g]? = some (.cells #[x, y] T (0, 0))) :
    ((w.setCell ⟨g, 0, none⟩ x').setCell ⟨g, 1, none⟩ y').heap[g]? = some (.cells #[x', y'] T (0, 0)) := by
  have h1 := heap_setCell_same w g 0 _ T x' h
  have h2 := heap_setCell_same _ g 1 _ T y' h1
  simpa using h2

set_option maxRecDepth 100000 in
set_option maxHeartbeats 4000000 in
theorem RLoad_fault {Q : Nat → Prop} (caps : List Int) (paths : List (List Int)) (r : List (Int × Int)) (v x : Value) (w : World) (h : NetAt Q w v caps paths) (hx : FracsAt Q w x r) (hf : netE caps paths ≠ 0 ∨ r.length ≠ paths.length) :
    Calls Tryd.prog 4 #[v, x] w fun e w' => e = .returned (.tuple #[.slice none 0 0, .int .i64 (loadE caps paths r)]) ∧ Below w.heap.size w w' := by
  have HN : Hid (∀ u, Below w.heap.size w u → Calls Tryd.prog 14 #[v] u fun e w' => e = .returned (.int .i64 (netE caps paths)) ∧ Below u.heap.size u w') := fun u hu => RNet_any caps paths v u (h.later hu)
  obtain ⟨v1, v2, rfl, h1, h2⟩ := h
  obtain ⟨a1, cap1, rfl, ⟨hm1, hn1⟩, _⟩ := h1
  obtain ⟨a2, cap2, rfl, ⟨hm2, hn2⟩, _⟩ := h2
  obtain ⟨ar, capr, rfl, ⟨hm3, hn3⟩, _⟩ := hx
  by_cases he : netE caps paths = 0
  · have hl : r.length ≠ paths.length := by
      rcases hf with h | h
      · exact absurd he h
      · exact h
    have HE : Hid (loadE caps paths r = 3) := by show _ = _; rw [loadE, if_pos he, if_neg hl]
    have q : ((r.length : Int) != (paths.length : Int)) = true := by simp; omega
    rw [he] at HN
    clear hf he hl
    go_enter Tryd.func4, Tryd.ntmps4
    go_wp2_with fail
    refine (HN.out _ ((Below.refl _ _).alloc (Nat.le_refl _) _)).mono ?_
    rintro e w1 ⟨rfl, hw1⟩
    have g0 : w1.cell? ⟨w.heap.size, 0, none⟩ = some (.slice a1 caps.length cap1) := cell_later hw1 (by simp)
    have g1 : w1.cell? ⟨w.heap.size, 1, none⟩ = some (.slice a2 paths.length cap2) := cell_later hw1 (by simp)
    have HB1 : Hid (Below w.heap.size w w1) := ((Below.refl _ _).alloc (Nat.le_refl _) _).trans (hw1.mono (by simp))
    clear hw1
    go_wp2
    go_loop [6, 7] (fun e i => e = .int .i64 3 ∧ i = .int .i64 0) (fun _ _ => 0)
    case atStart => exact ⟨rfl, rfl⟩
    case round =>
      obtain ⟨rfl, rfl⟩ := hrel
      by_cases hr0 : 0 < r.length
      · go_wp2
        go_loop [8, 9] (fun o i => o = .slice none 0 0 ∧ i = .int .i64 0) (fun _ _ => 0)
        case atStart => exact ⟨rfl, rfl⟩
        case round =>
          obtain ⟨rfl, rfl⟩ := hrel
          by_cases hc0 : 0 < caps.length
          · go_wp2
            refine bodyPost_ret (v := .tuple #[.slice none 0 0, .int .i64 3]) (by simp [results, Tryd.results4, go_sem]) rfl ⟨by rw [HE.out], HB1.out⟩
          · go_wp2
            refine bodyPost_ret (v := .tuple #[.slice none 0 0, .int .i64 3]) (by simp [results, Tryd.results4, go_sem]) rfl ⟨by rw [HE.out], HB1.out⟩
      · go_wp2
        go_loop [8, 9] (fun o i => o = .slice none 0 0 ∧ i = .int .i64 0) (fun _ _ => 0)
        case atStart => exact ⟨rfl, rfl⟩
        case round =>
          obtain ⟨rfl, rfl⟩ := hrel
          by_cases hc0 : 0 < caps.length
          · go_wp2
            refine bodyPost_ret (v := .tuple #[.slice none 0 0, .int .i64 3]) (by simp [results, Tryd.results4, go_sem]) rfl ⟨by rw [HE.out], HB1.out⟩
          · go_wp2
            refine bodyPost_ret (v := .tuple #[.slice none 0 0, .int .i64 3]) (by simp [results, Tryd.results4, go_sem]) rfl ⟨by rw [HE.out], HB1.out⟩
  · have HE : Hid (loadE caps paths r = netE caps paths) := by show _ = _; rw [loadE, if_neg he]
    have q : (netE caps paths == 0) = false := beq_eq_false_iff_ne.2 he
    generalize netE caps paths = ek at *
    clear hf he
    go_enter Tryd.func4, Tryd.ntmps4
    go_wp2_with fail
    refine (HN.out _ ((Below.refl _ _).alloc (Nat.le_refl _) _)).mono ?_
    rintro e w1 ⟨rfl, hw1⟩
    have g0 : w1.cell? ⟨w.heap.size, 0, none⟩ = some (.slice a1 caps.length cap1) := cell_later hw1 (by simp)
    have HB1 : Hid (Below w.heap.size w w1) := ((Below.refl _ _).alloc (Nat.le_refl _) _).trans (hw1.mono (by simp))
    clear hw1
    go_wp2
    go_loop [6, 7] (fun e i => e = .int .i64 ek ∧ i = .int .i64 0) (fun _ _ => 0)
    case atStart => exact ⟨rfl, rfl⟩
    case round =>
      obtain ⟨rfl, rfl⟩ := hrel
      by_cases hr0 : 0 < r.length
      · go_wp2
        go_loop [8, 9] (fun o i => o = .slice none 0 0 ∧ i = .int .i64 0) (fun _ _ => 0)
        case atStart => exact ⟨rfl, rfl⟩
        case round =>
          obtain ⟨rfl, rfl⟩ := hrel
          by_cases hc0 : 0 < caps.length
          · go_wp2
            refine bodyPost_ret (v := .tuple #[.slice none 0 0, .int .i64 ek]) (by simp [results, Tryd.results4, go_sem]) rfl ⟨by rw [HE.out], HB1.out⟩
          · go_wp2
            refine bodyPost_ret (v := .tuple #[.slice none 0 0, .int .i64 ek]) (by simp [results, Tryd.results4, go_sem]) rfl ⟨by rw [HE.out], HB1.out⟩
      · go_wp2
        go_loop [8, 9] (fun o i => o = .slice none 0 0 ∧ i = .int .i64 0) (fun _ _ => 0)
        case atStart => exact ⟨rfl, rfl⟩
        case round =>
          obtain ⟨rfl, rfl⟩ := hrel
          by_cases hc0 : 0 < caps.length
          · go_wp2
            refine bodyPost_ret (v := .tuple #[.slice none 0 0, .int .i64 ek]) (by simp [results, Tryd.results4, go_sem]) rfl ⟨by rw [HE.out], HB1.out⟩
          · go_wp2
            refine bodyPost_ret (v := .tuple #[.slice none 0 0, .int .i64 ek]) (by simp [results, Tryd.results4, go_sem]) rfl ⟨by rw [HE.out], HB1.out⟩
end Ld
end Go.Proofs.YtdegbfgnbobgoacDoor
