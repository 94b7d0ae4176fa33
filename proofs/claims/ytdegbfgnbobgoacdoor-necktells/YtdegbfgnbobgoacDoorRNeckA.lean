/- The document's Full (package fairref1): which links' loads are just what they take. -/
import Derived.Test.YtdegbfgnbobgoacDoorRLoad
import Derived.Test.YtdegbfgnbobgoacDoorPlains
import Derived.Maps.AppendAt
namespace Go.Proofs.YtdegbfgnbobgoacDoor
namespace Fl
open Go.RowKit Fr Ns Ld
set_option linter.unusedSimpArgs false
set_option linter.unusedVariables false

theorem ownsRow_full {w w' : World} {base : Nat} {e : TypeId} {size n : Nat} {v : Value} {xs : List Value} (hb : Below w.heap.size w w') (h : w.ownsRow base e size v n xs) : w'.ownsRow base e size v n xs := by
  refine ⟨h.1, ?_⟩
  rcases h.2 with h' | ⟨g', cap', cur, h', hg, hc, r⟩
  · exact .inl h'
  · have hlt : g' < w.heap.size := (Array.getElem?_eq_some_iff.1 hc).1
    exact .inr ⟨g', cap', cur, h', hg, by rw [hb.block g' hlt]; exact hc, r⟩

set_option maxRecDepth 100000 in
set_option maxHeartbeats 4000000 in
theorem RFull_any {Q R : Nat → Prop} (caps : List Int) (paths : List (List Int)) (ls : List (Int × Int)) (v x : Value) (w : World) (h : NetAt Q w v caps paths) (hx : FracsAt R w x ls) (hl : ls.length = caps.length) (hc : caps.length ≤ 12) :
    Calls Tryd.prog 5 #[v, x] w fun e w' => ∃ y, e = .returned y ∧ IntsAt (fun b => w.heap.size ≤ b) w' y (fullTo caps ls caps.length) ∧ Below w.heap.size w w' := by
  obtain ⟨v1, v2, rfl, h1, h2⟩ := h
  have HCp : Hid (∀ i, i < caps.length → ∃ b off, ∃ cap, v1 = .slice (some ⟨b, off, none⟩) caps.length cap ∧ ∀ u, Below w.heap.size w u → u.cell? ⟨b, off + i, none⟩ = some (.int .i64 (caps.getD i 0))) := by
    intro i hi
    obtain ⟨a, cap, e, _, hc⟩ := h1
    rcases hc with rfl | ⟨b, off, rfl, hc, _⟩
    · simp at hi
    · exact ⟨b, off, cap, e, fun u hu => cell_later hu (hc i hi)⟩
  have HXc : Hid (∀ i, i < caps.length → ∃ b off, ∃ cap, x = .slice (some ⟨b, off, none⟩) ls.length cap ∧ ∀ u, Below w.heap.size w u → u.cell? ⟨b, off + i * 2, none⟩ = some (.int .i64 (ls.getD i (0, 0)).1) ∧ u.cell? ⟨b, off + i * 2 + 1, none⟩ = some (.int .i64 (ls.getD i (0, 0)).2)) := by
    intro i hi
    obtain ⟨a, cap, e, _, hc⟩ := hx
    rcases hc with hc | ⟨b, off, rfl, hc, _⟩
    · rw [hc] at hl; simp at hl; omega
    · exact ⟨b, off, cap, e, fun u hu => ⟨cell_later hu (hc i (by omega)).1, cell_later hu (hc i (by omega)).2⟩⟩
  obtain ⟨a1, cap1, rfl, ⟨hm1, hn1⟩, _⟩ := h1
  obtain ⟨a2, cap2, rfl, ⟨hm2, hn2⟩, _⟩ := h2
  obtain ⟨ar, capr, rfl, ⟨hm3, hn3⟩, _⟩ := hx
  have HLn : Hid (ls.length = caps.length) := hl
  have l1 : ls.length ≤ caps.length := Nat.le_of_eq hl
  have l2 : caps.length ≤ ls.length := Nat.le_of_eq hl.symm
  have HBW : Hid (∀ u, Below (w.heap.size + 1) (w.alloc (.cells #[.slice a1 caps.length cap1, .slice a2 paths.length cap2] 25)) u → Below w.heap.size w u) := fun u hu => ((Below.refl _ _).alloc (Nat.le_refl _) _).trans (hu.mono (by omega))
  have HCW : Hid (∀ u, Below (w.heap.size + 1) (w.alloc (.cells #[.slice a1 caps.length cap1, .slice a2 paths.length cap2] 25)) u → u.cell? ⟨w.heap.size, 0, none⟩ = some (.slice a1 caps.length cap1)) := fun u hu => (hu.cell (p := ⟨w.heap.size, 0, none⟩) (by simp)).trans (by simp)
  have hNB : Hid (w.heap.size + 1 ≤ (w.alloc (.cells #[.slice a1 caps.length cap1, .slice a2 paths.length cap2] 25)).heap.size) := by simp [Hid]
  obtain ⟨i0, hi, hz0, hz1, hz2⟩ := info_parts infoInt
  clear hl
  go_enter Tryd.func5, Tryd.ntmps5
  go_wp2
  go_loopw [5, 6] (fun o s6 wq => ∃ k : Nat, k ≤ caps.length ∧ s6 = .int .i64 k ∧ Hid (wq.ownsRow (w.heap.size + 1) 3 1 o (fullTo caps ls k).length ((fullTo caps ls k).map (Value.int .i64))) ∧ Hid (Below (w.heap.size + 1) (w.alloc (.cells #[.slice a1 caps.length cap1, .slice a2 paths.length cap2] 25)) wq)) (fun _ s6 _ => caps.length - (intOf s6).toNat)
  case atStart => exact ⟨0, by omega, rfl, World.ownsRow_nil _ _ _ _, Below.refl _ _⟩
  case round =>
    obtain ⟨k, hk, rfl, ho, hb⟩ := hrel
    have hsz : w.heap.size + 1 ≤ wr.heap.size := Nat.le_trans hNB.out hb.out.size
    by_cases hlt : k < caps.length
    · have hltl : (k : Int) < (ls.length : Int) := by omega
      have hltn : k < ls.length := by omega
      obtain ⟨bc, oc, cc, e, hcc⟩ := HCp.out k hlt
      simp only [Value.slice.injEq] at e
      obtain ⟨rfl, _, rfl⟩ := e
      obtain ⟨bx, ox, cx, e, hcx⟩ := HXc.out k hlt
      simp only [Value.slice.injEq] at e
      obtain ⟨rfl, _, rfl⟩ := e
      have g0 := HCW.out _ hb.out
      have c0 := hcc _ (HBW.out _ hb.out)
      obtain ⟨x0, x1⟩ := hcx _ (HBW.out _ hb.out)
      have hst := fullTo_step caps ls k
      have hfl := fullTo_length caps ls k
      have HWh : Hid (∀ u : World, Calls Tryd.prog 16 #[.int .i64 (caps.getD k 0)] u fun e w' => e = .returned (.agg #[.int .i64 (caps.getD k 0), .int .i64 1]) ∧ Below u.heap.size u w') := fun u => Whole_any _ u
      have P1 : Hid (Below wr.heap.size wr wr.drew) := (Below.refl _ _).drew
      have HSA : Hid (∀ u : World, Below wr.heap.size wr u → u.cell? ⟨w.heap.size, 0, none⟩ = some (.slice (some ⟨bc, oc, none⟩) caps.length cap1) ∧ u.cell? ⟨bc, oc + k, none⟩ = some (.int .i64 (caps.getD k 0)) ∧ u.cell? ⟨bx, ox + k * 2, none⟩ = some (.int .i64 (ls.getD k (0, 0)).1) ∧ u.cell? ⟨bx, ox + k * 2 + 1, none⟩ = some (.int .i64 (ls.getD k (0, 0)).2)) := fun u hu => ⟨cell_later hu g0, cell_later hu c0, cell_later hu x0, cell_later hu x1⟩
      generalize hfk : fullTo caps ls k = fk at *
      by_cases heq : ls.getD k (0, 0) = (caps.getD k 0, 1)
      · have HS : Hid (fullTo caps ls (k + 1) = fk ++ [(k : Int)]) := by show _ = _; rw [hst, if_pos heq]
        have e1 : (ls.getD k (0, 0)).1 = caps.getD k 0 := by rw [heq]
        have e2 : (ls.getD k (0, 0)).2 = 1 := by rw [heq]
        rw [e1, e2] at HSA
        generalize caps.getD k 0 = c at *
        clear hst heq e1 e2 hcc hcx x0 x1 hfk
        go_wp2_with fail
        go_region_held3 (fun u => u.cell? ⟨w.heap.size, 0, none⟩ = some (.slice (some ⟨bc, oc, none⟩) caps.length cap1) ∧ u.cell? ⟨bc, oc + k, none⟩ = some (.int .i64 c) ∧ u.cell? ⟨bx, ox + k * 2, none⟩ = some (.int .i64 c) ∧ u.cell? ⟨bx, ox + k * 2 + 1, none⟩ = some (.int .i64 1))
          ((refine HSA.out _ ?_; first | exact P1.out | exact Hbt.out))
          (first | (go_at_call 16; refine (HWh.out _).mono ?_; rintro e wt ⟨rfl, hwt⟩; have Hbt : Hid (Below wr.heap.size wr wt) := Bel.call P1.out (Nat.le_refl _) hwt))
        have Bt : Hid (Below (w.heap.size + 1) (w.alloc (.cells #[.slice (some ⟨bc, oc, none⟩) caps.length cap1, .slice a2 paths.length cap2] 25)) wt) := Bel.call hb.out hNB.out Hbt.out
        have Ot : Hid (wt.ownsRow (w.heap.size + 1) 3 1 u5 fk.length (fk.map (Value.int .i64))) := ownsRow_full Hbt.out ho.out
        have hst' : w.heap.size + 1 ≤ wt.heap.size := Nat.le_trans hNB.out Bt.out.size
        clear g0 c0
        go_wp2_with (at_builtin; go_must (refine wpList_append_own _ rfl (.tmp 24) (.tmp 26) 22 rfl (w.heap.size + 1) 3 i0 (.int .i64 0) 1 8 Tryd.underlying22 hi hz0 hz1 hz2 rfl (by decide) _ _ _ rfl (Ot.out.alloc _) ⟨wt.heap.size, 0, none⟩ 1 1 [.int .i64 k] rfl rfl (cell_one_new _ _ _) (by intro u hu; simp at hu; subst hu; rfl) (by unfold maxLen; omega) (by omega) (by simp; omega) ?_))
        intro v' wg hown' hgrow _
        have R1 : Hid (Below (w.heap.size + 1) (w.alloc (.cells #[.slice (some ⟨bc, oc, none⟩) caps.length cap1, .slice a2 paths.length cap2] 25)) wg) := rel_append Bt.out hst' Ot.out hgrow
        have R2 : Hid (wg.ownsRow (w.heap.size + 1) 3 1 v' (fullTo caps ls (k + 1)).length ((fullTo caps ls (k + 1)).map (Value.int .i64))) := by
          show World.ownsRow _ _ _ _ _ _ _
          rw [HS.out]
          simpa using hown'
        clear hown' hgrow
        go_wp2
        go_roundw
        case rel => exact ⟨k + 1, by omega, by go_num, R2, R1⟩
        case measure => simp [intOf]; omega
      · have HS : Hid (fullTo caps ls (k + 1) = fk) := by show _ = _; rw [hst, if_neg heq]; simp
        have hne : ¬ ((ls.getD k (0, 0)).1 = caps.getD k 0 ∧ (ls.getD k (0, 0)).2 = 1) := fun h => heq (Prod.ext h.1 h.2)
        generalize caps.getD k 0 = c at *
        generalize (ls.getD k (0, 0)).1 = t at *
        generalize (ls.getD k (0, 0)).2 = bo at *
        clear hst heq hcc hcx x0 x1 hfk
        have hcase : ((t == c) = false) ∨ ((t == c) = true ∧ (bo == 1) = false) := by
          by_cases h1 : t = c
          · exact .inr ⟨by simp [h1], beq_eq_false_iff_ne.2 (fun h => hne ⟨h1, h⟩)⟩
          · exact .inl (beq_eq_false_iff_ne.2 h1)
        clear hne
        rcases hcase with q1 | ⟨q0, q1⟩
        all_goals
          go_wp2_with fail
          go_region_held3 (fun u => u.cell? ⟨w.heap.size, 0, none⟩ = some (.slice (some ⟨bc, oc, none⟩) caps.length cap1) ∧ u.cell? ⟨bc, oc + k, none⟩ = some (.int .i64 c) ∧ u.cell? ⟨bx, ox + k * 2, none⟩ = some (.int .i64 t) ∧ u.cell? ⟨bx, ox + k * 2 + 1, none⟩ = some (.int .i64 bo))
            ((refine HSA.out _ ?_; first | exact P1.out | exact Hbt.out))
            (first | (go_at_call 16; refine (HWh.out _).mono ?_; rintro e wt ⟨rfl, hwt⟩; have Hbt : Hid (Below wr.heap.size wr wt) := Bel.call P1.out (Nat.le_refl _) hwt))
          have Bt : Hid (Below (w.heap.size + 1) (w.alloc (.cells #[.slice (some ⟨bc, oc, none⟩) caps.length cap1, .slice a2 paths.length cap2] 25)) wt) := Bel.call hb.out hNB.out Hbt.out
          have Ot : Hid (wt.ownsRow (w.heap.size + 1) 3 1 u5 fk.length (fk.map (Value.int .i64))) := ownsRow_full Hbt.out ho.out
          clear g0 c0
          go_wp2
          go_roundw
          case rel => exact ⟨k + 1, by omega, by go_num, by rw [HS.out]; exact Ot, Bt⟩
          case measure => simp [intOf]; omega
    · obtain rfl : k = caps.length := by omega
      have hfl := fullTo_length caps ls caps.length
      have HX : Hid (IntsAt (fun b => w.heap.size ≤ b) wr u5 (fullTo caps ls caps.length)) := ints_of_owns (base := w.heap.size + 1) (by omega) ho.out (fun g hg => by omega)
      have hnl : ¬ (caps.length : Int) < (ls.length : Int) := by omega
      go_wp2
      go_ret
      exact ⟨_, rfl, HX.out, HBW.out _ hb.out⟩
end Fl
end Go.Proofs.YtdegbfgnbobgoacDoor
