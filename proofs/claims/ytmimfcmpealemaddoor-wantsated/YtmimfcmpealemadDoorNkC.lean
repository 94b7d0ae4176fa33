/- Package neck's closure in Of, the library's IndexFunc with it, and first. -/
import Derived.Test.YtmimfcmpealemadDoorNkA
import Derived.Test.YtmimfcmpealemadDoorNkB
import Derived.Deep.RegionHeld3
namespace Go.Proofs.YtmimfcmpealemadDoor
namespace Fl
open Go.RowKit Fr Ns Ld
set_option linter.unusedSimpArgs false
set_option linter.unusedVariables false

/-- what the closure answers of a link -/
def soB (FL : List Int) (paths : List (List Int)) (r : List (Int × Int)) (f : Nat) (l : Int) : Bool := inB FL l && !anyGr (overL paths r l) (rP r f)

/-- what the closure's captured variables hold -/
structure SoAt (Q R : Nat → Prop) (w : World) (caps : List Int) (paths : List (List Int)) (r : List (Int × Int)) (FL : List Int) (f gF gN gR gI : Nat) : Prop where
  full : ∃ fv, w.cell? ⟨gF, 0, none⟩ = some fv ∧ IntsAt R w fv FL
  net : ∃ v1 v2, w.cell? ⟨gN, 0, none⟩ = some v1 ∧ w.cell? ⟨gN, 1, none⟩ = some v2 ∧ NetAt Q w (.agg #[v1, v2]) caps paths
  rates : ∃ x, w.cell? ⟨gR, 0, none⟩ = some x ∧ FracsAt Q w x r
  flow : w.cell? ⟨gI, 0, none⟩ = some (.int .i64 f)
theorem SoAt.later {Q R : Nat → Prop} {w w' : World} {caps : List Int} {paths : List (List Int)} {r : List (Int × Int)} {FL : List Int} {f gF gN gR gI : Nat} (hb : Below w.heap.size w w') (h : SoAt Q R w caps paths r FL f gF gN gR gI) : SoAt Q R w' caps paths r FL f gF gN gR gI := by
  obtain ⟨⟨fv, a1, a2⟩, ⟨v1, v2, b1, b2, b3⟩, ⟨x, c1, c2⟩, d⟩ := h
  exact ⟨⟨fv, cell_later hb a1, a2.later hb⟩, ⟨v1, v2, cell_later hb b1, cell_later hb b2, b3.later hb⟩, ⟨x, cell_later hb c1, c2.later hb⟩, cell_later hb d⟩

set_option maxRecDepth 100000 in
set_option maxHeartbeats 4000000 in
theorem so_any {Q R : Nat → Prop} {caps : List Int} {paths : List (List Int)} {r : List (Int × Int)} {FL : List Int} {f gF gN gR gI : Nat} (l : Int) (w : World) (h : SoAt Q R w caps paths r FL f gF gN gR gI)
    (hf : f < paths.length) (hl : r.length = paths.length) (hr : ratesE r = 0) (hp : paths.length ≤ 6) :
    Calls Tryd.prog 38 #[.int .i64 l, .pointer (some ⟨gF, 0, none⟩), .pointer (some ⟨gN, 0, none⟩), .pointer (some ⟨gR, 0, none⟩), .pointer (some ⟨gI, 0, none⟩)] w fun e w' => e = .returned (.bool (soB FL paths r f l)) ∧ Below w.heap.size w w' := by
  obtain ⟨⟨fv, a1, a2⟩, ⟨v1, v2, b1, b2, b3⟩, ⟨x, c1, c2⟩, d⟩ := h
  have HCo : Hid (∀ u : World, Below w.heap.size w u → Calls Tryd.prog 39 #[fv, .int .i64 l] u fun e w' => e = .returned (.bool (inB FL l)) ∧ Below u.heap.size u w') := fun u hu => (Contains_any FL l fv u (a2.later hu)).mono fun e w' ⟨he, hw⟩ => ⟨he, hw ▸ Below.refl _ _⟩
  have HCs : Hid (∀ u : World, Below w.heap.size w u → Calls Tryd.prog 39 #[fv, .int .i64 l] u fun e w' => e = .returned (.bool (inB FL l)) ∧ w' = u) := fun u hu => Contains_any FL l fv u (a2.later hu)
  have HOv : Hid (∀ u : World, Below w.heap.size w u → Calls Tryd.prog 41 #[.agg #[v1, v2], x, .int .i64 l] u fun e w' => ∃ y, e = .returned y ∧ FracsAt (fun b => u.heap.size ≤ b) w' y (overL paths r l) ∧ Below u.heap.size u w') := fun u hu => NOver_any caps paths r l _ x u (b3.later hu) (c2.later hu) hl hp
  have HGr : Hid (∀ (S : Nat → Prop) (u : World) (y : Value), FracsAt S u y (overL paths r l) → Calls Tryd.prog 40 #[y, .agg #[.int .i64 (rP r f).1, .int .i64 (rP r f).2]] u fun e w' => e = .returned (.bool (anyGr (overL paths r l) (rP r f))) ∧ Below u.heap.size u w') := fun S u y hy => anyGr_any _ _ y u hy (overL_right l hl hr) ((ratesE_iff r).1 hr _ (getD_mem r f (by omega) _))
  have HSo : Hid (soB FL paths r f l = (inB FL l && !anyGr (overL paths r l) (rP r f))) := rfl
  obtain ⟨ax, cx, rfl, ⟨hmx, hnx⟩, hcx⟩ := c2
  obtain ⟨bx, ox, rfl, hrx⟩ : ∃ b o, ax = some ⟨b, o, none⟩ ∧ (w.cell? ⟨b, o + f * 2, none⟩ = some (.int .i64 (rP r f).1) ∧ w.cell? ⟨b, o + f * 2 + 1, none⟩ = some (.int .i64 (rP r f).2)) := by
    rcases hcx with hc | ⟨b, off, rfl, hc, _⟩
    · rw [hc] at hl; simp at hl; omega
    · exact ⟨b, off, rfl, hc f (by omega)⟩
  obtain ⟨v1', v2', e, ⟨a1', cap1, rfl, _⟩, ⟨a2', cap2, rfl, _⟩⟩ := b3
  simp only [Value.agg.injEq, Array.mk.injEq, List.cons.injEq, and_true] at e
  obtain ⟨rfl, rfl⟩ := e
  obtain ⟨aF, capF, rfl, _⟩ := a2
  have hfr : f < r.length := by omega
  have HSA : Hid (∀ u : World, Below w.heap.size w u → u.cell? ⟨gF, 0, none⟩ = some (.slice aF FL.length capF) ∧ u.cell? ⟨gN, 0, none⟩ = some (.slice a1' caps.length cap1) ∧ u.cell? ⟨gN, 1, none⟩ = some (.slice a2' paths.length cap2) ∧ u.cell? ⟨gR, 0, none⟩ = some (.slice (some ⟨bx, ox, none⟩) r.length cx) ∧ u.cell? ⟨gI, 0, none⟩ = some (.int .i64 f) ∧ u.cell? ⟨bx, ox + f * 2, none⟩ = some (.int .i64 (rP r f).1) ∧ u.cell? ⟨bx, ox + f * 2 + 1, none⟩ = some (.int .i64 (rP r f).2)) := fun u hu => ⟨cell_later hu a1, cell_later hu b1, cell_later hu b2, cell_later hu c1, cell_later hu d, cell_later hu hrx.1, cell_later hu hrx.2⟩
  have P1 : Hid (Below w.heap.size w w.drew) := (Below.refl _ _).drew
  generalize soB FL paths r f l = so at *
  generalize anyGr (overL paths r l) (rP r f) = gr at *
  generalize overL paths r l = ol at *
  generalize (rP r f).1 = t1 at *
  generalize (rP r f).2 = t2 at *
  clear hcx hl hr
  cases hin : inB FL l with
  | true =>
    rw [hin] at HCo HCs HSo
    clear hin
    go_enter Tryd.func38, Tryd.ntmps38
    go_wp2_with fail
    go_region_held3 (fun u => u.cell? ⟨gF, 0, none⟩ = some (.slice aF FL.length capF) ∧ u.cell? ⟨gN, 0, none⟩ = some (.slice a1' caps.length cap1) ∧ u.cell? ⟨gN, 1, none⟩ = some (.slice a2' paths.length cap2) ∧ u.cell? ⟨gR, 0, none⟩ = some (.slice (some ⟨bx, ox, none⟩) r.length cx) ∧ u.cell? ⟨gI, 0, none⟩ = some (.int .i64 f) ∧ u.cell? ⟨bx, ox + f * 2, none⟩ = some (.int .i64 t1) ∧ u.cell? ⟨bx, ox + f * 2 + 1, none⟩ = some (.int .i64 t2))
      ((refine HSA.out _ ?_; first | exact P1.out | exact Hbc.out | exact Hbo.out | exact Hbg.out))
      (first | (go_at_call 39; refine (HCo.out _ P1.out).mono ?_; rintro e wc ⟨rfl, hwc⟩; have Hbc : Hid (Below w.heap.size w wc) := Bel.call P1.out (Nat.le_refl _) hwc)
             | (go_at_call 41; refine (HOv.out _ Hbc.out).mono ?_; rintro e wo ⟨yo, rfl, hyo, hwo⟩; obtain ⟨ay, ny, cy, rfl⟩ := hyo.shape; have Hbo : Hid (Below w.heap.size w wo) := Bel.call Hbc.out (Nat.le_refl _) hwo; have HYo : Hid (FracsAt (fun b => wc.heap.size ≤ b) wo (.slice ay ny cy) ol) := hyo)
             | (go_at_call 40; refine (HGr.out _ _ _ HYo.out).mono ?_; rintro e wg ⟨rfl, hwg⟩; have Hbg : Hid (Below w.heap.size w wg) := Bel.call Hbo.out (Nat.le_refl _) hwg))
    all_goals
      go_wp2
      go_ret
      exact ⟨Fr.ret_bool (by rw [HSo.out]; simp), Hbg.out⟩
  | false =>
    rw [hin] at HCo HCs HSo
    clear hin
    go_enter Tryd.func38, Tryd.ntmps38
    go_wp2_with fail
    go_quiet ((go_at_call 39; exact Calls.quiet_of_same (HCs.out _ (below_drewN (Below.refl _ _) _))))
    have Hbc : Hid (Below w.heap.size w (w.drewN nq)) := below_drewN (Below.refl _ _) _
    generalize w.drewN nq = wc at *
    go_wp2
    go_ret
    exact ⟨Fr.ret_bool (by rw [HSo.out]; simp), Hbc.out⟩
end Fl
end Go.Proofs.YtmimfcmpealemadDoor
