/- Package neck's over: the rates of the flows over a link. -/
import Derived.Test.YtmimfcmpealemadDoorPlains
import Derived.Test.YtmimfcmpealemadDoorNetA
import Derived.OwnWalk
namespace Go.Proofs.YtmimfcmpealemadDoor
namespace Fl
open Go.RowKit Fr Ns Ld
set_option linter.unusedSimpArgs false
set_option linter.unusedVariables false

set_option maxRecDepth 100000 in
set_option maxHeartbeats 4000000 in
theorem NOver_any {Q : Nat → Prop} (caps : List Int) (paths : List (List Int)) (r : List (Int × Int)) (link : Int) (v x : Value) (w : World) (h : NetAt Q w v caps paths) (hx : FracsAt Q w x r) (hl : r.length = paths.length) (hp : paths.length ≤ 6) :
    Calls Tryd.prog 41 #[v, x, .int .i64 link] w fun e w' => ∃ y, e = .returned y ∧ FracsAt (fun b => w.heap.size ≤ b) w' y (overL paths r link) ∧ Below w.heap.size w w' := by
  obtain ⟨v1, v2, rfl, h1, h2⟩ := h
  have HPp : Hid (∀ i, i < paths.length → ∃ b off, ∃ cap, ∃ x, v2 = .slice (some ⟨b, off, none⟩) paths.length cap ∧ ∀ u, Below w.heap.size w u → u.cell? ⟨b, off + i, none⟩ = some x ∧ IntsAt Q u x (paths.getD i [])) := by
    intro i hi
    obtain ⟨a, cap, e, _, hc⟩ := h2
    rcases hc with rfl | ⟨b, off, rfl, hc, _⟩
    · simp at hi
    · obtain ⟨x, hx, hxi⟩ := hc i hi
      exact ⟨b, off, cap, x, e, fun u hu => ⟨cell_later hu hx, hxi.later hu⟩⟩
  have HXc : Hid (∀ i, i < paths.length → ∃ b off, ∃ cap, x = .slice (some ⟨b, off, none⟩) r.length cap ∧ ∀ u, Below w.heap.size w u → u.cell? ⟨b, off + i * 2, none⟩ = some (.int .i64 (rP r i).1) ∧ u.cell? ⟨b, off + i * 2 + 1, none⟩ = some (.int .i64 (rP r i).2)) := by
    intro i hi
    obtain ⟨a, cap, e, _, hc⟩ := hx
    rcases hc with hc | ⟨b, off, rfl, hc, _⟩
    · rw [hc] at hl; simp at hl; omega
    · exact ⟨b, off, cap, e, fun u hu => ⟨cell_later hu (hc i (by omega)).1, cell_later hu (hc i (by omega)).2⟩⟩
  obtain ⟨a1, cap1, rfl, ⟨hm1, hn1⟩, _⟩ := h1
  obtain ⟨a2, cap2, rfl, ⟨hm2, hn2⟩, _⟩ := h2
  obtain ⟨ar, capr, rfl, ⟨hm3, hn3⟩, _⟩ := hx
  have l1 : r.length ≤ paths.length := Nat.le_of_eq hl
  have l2 : paths.length ≤ r.length := Nat.le_of_eq hl.symm
  have HBW : Hid (∀ u, Below (w.heap.size + 1) (w.alloc (.cells #[.slice a1 caps.length cap1, .slice a2 paths.length cap2] 25)) u → Below w.heap.size w u) := fun u hu => ((Below.refl _ _).alloc (Nat.le_refl _) _).trans (hu.mono (by omega))
  have hNB : Hid (w.heap.size + 1 ≤ (w.alloc (.cells #[.slice a1 caps.length cap1, .slice a2 paths.length cap2] 25)).heap.size) := by simp [Hid]
  obtain ⟨i0, hi, hz0, hz1, hz2⟩ := info_parts infoFrac
  clear hl
  go_enter Tryd.func41, Tryd.ntmps41
  go_wp2
  go_loopw [7, 8, 9, 13] (fun o _ _ s13 wq => ∃ k : Nat, k ≤ paths.length ∧ s13 = .int .i64 k ∧ Hid (wq.ownsRow (w.heap.size + 1) 39 2 o (overL (paths.take k) r link).length (flat (overL (paths.take k) r link))) ∧ Hid (Below (w.heap.size + 1) (w.alloc (.cells #[.slice a1 caps.length cap1, .slice a2 paths.length cap2] 25)) wq)) (fun _ _ _ s13 _ => paths.length - (intOf s13).toNat)
  case atStart => exact ⟨0, by omega, rfl, World.ownsRow_nil _ _ _ _, Below.refl _ _⟩
  case round =>
    obtain ⟨k, hk, rfl, ho, hb⟩ := hrel
    have hsz : w.heap.size + 1 ≤ wr.heap.size := Nat.le_trans hNB.out hb.out.size
    have hlo : (overL (paths.take k) r link).length ≤ 6 := by have := overL_length (paths.take k) r link; rw [List.length_take] at this; omega
    by_cases hlt : k < paths.length
    · have hltn : k < r.length := by omega
      obtain ⟨bp, op, cp, xp, e, hcp⟩ := HPp.out k hlt
      simp only [Value.slice.injEq] at e
      obtain ⟨rfl, _, rfl⟩ := e
      obtain ⟨bx, ox, cx, e, hcx⟩ := HXc.out k hlt
      simp only [Value.slice.injEq] at e
      obtain ⟨rfl, _, rfl⟩ := e
      obtain ⟨p0, hxi⟩ := hcp _ (HBW.out _ hb.out)
      obtain ⟨x0, x1⟩ := hcx _ (HBW.out _ hb.out)
      have hs := overL_step paths r link k hlt
      have HI := Contains_any (paths.getD k []) link xp wr hxi
      generalize paths.getD k [] = pk at *
      generalize overL (paths.take k) r link = us at *
      obtain ⟨ai, capi, rfl, _⟩ := hxi
      clear hcp hcx
      cases hin : inB pk link with
      | true =>
        rw [hin] at HI hs
        have HS : Hid (overL (paths.take (k + 1)) r link = us ++ [rP r k]) := hs
        have HJ := (show Hid (Calls Tryd.prog 39 #[.slice ai pk.length capi, .int .i64 link] wr fun e w'' => e = .returned (.bool true) ∧ w'' = wr) from HI)
        generalize rP r k = rk at *
        obtain ⟨r1, r2⟩ := rk
        clear hs HI hin
        go_wp2_with fail
        refine HJ.out.mono ?_
        rintro e wr ⟨rfl, rfl⟩
        go_wp2_with (at_builtin; go_must (refine wpList_append_own _ rfl (.tmp 21) (.tmp 26) 34 rfl (w.heap.size + 1) 39 i0 (.agg #[.int .i64 0, .int .i64 0]) 2 16 Tryd.underlying34 hi hz0 hz1 hz2 rfl (by decide) _ _ _ rfl (ho.out.alloc _) ⟨wr.heap.size, 0, none⟩ 1 1 [.int .i64 r1, .int .i64 r2] rfl rfl (news_two _ _ _ _) (ones_two _ _) (by unfold maxLen; omega) (by omega) (by simp; omega) ?_))
        intro v' wg hown' hgrow _
        have R1 : Hid (Below (w.heap.size + 1) (w.alloc (.cells #[.slice a1 caps.length cap1, .slice (some ⟨bp, op, none⟩) paths.length cap2] 25)) wg) := rel_append hb.out hsz ho.out hgrow
        have R2 : Hid (wg.ownsRow (w.heap.size + 1) 39 2 v' (overL (paths.take (k + 1)) r link).length (flat (overL (paths.take (k + 1)) r link))) := by
          show World.ownsRow _ _ _ _ _ _ _
          rw [HS.out, flat_append]
          simpa [flat] using hown'
        clear hown' hgrow
        go_wp2
        go_roundw
        case rel => exact ⟨k + 1, by omega, by go_num, R2, R1⟩
        case measure => simp [intOf]; omega
      | false =>
        rw [hin] at HI hs
        have HS : Hid (overL (paths.take (k + 1)) r link = us) := by rw [hs]; simp [Hid]
        have HJ := (show Hid (Calls Tryd.prog 39 #[.slice ai pk.length capi, .int .i64 link] wr fun e w'' => e = .returned (.bool false) ∧ w'' = wr) from HI)
        clear hs HI hin
        go_wp2_with fail
        refine HJ.out.mono ?_
        rintro e wr ⟨rfl, rfl⟩
        go_wp2
        go_roundw
        case rel => exact ⟨k + 1, by omega, by go_num, by rw [HS.out]; exact ho, hb⟩
        case measure => simp [intOf]; omega
    · rw [List.take_of_length_le (by omega)] at ho hlo
      have HX : Hid (FracsAt (fun b => w.heap.size ≤ b) wr u7 (overL paths r link)) := fracs_of_owns (base := w.heap.size + 1) (by omega) ho.out (fun g hg => by omega)
      go_wp2
      go_ret
      exact ⟨_, rfl, HX.out, HBW.out _ hb.out⟩
end Fl
end Go.Proofs.YtmimfcmpealemadDoor
