/- The document's With and Without (package fairref1): a net with a flow more, or fewer. -/
import Derived.Test.YtpnmmmlckdkcdakGreatDoorIntsAll
namespace Go.Proofs.YtpnmmmlckdkcdakGreatDoor
namespace Ns
open Go.RowKit
set_option linter.unusedSimpArgs false
set_option linter.unusedVariables false

set_option maxHeartbeats 1000000 in
theorem RWith_same {Q : Nat → Prop} (caps : List Int) (paths : List (List Int)) (path : List Int) (v1 v2 p : Value) (w : World) (h1 : IntsAt Q w v1 caps) (h2 : ListsAt Q w v2 paths) (hp : IntsAt Q w p path) (hne : paths ≠ []) (hlen : paths.length ≤ 1000) :
    Calls Tryz.prog 55 #[.agg #[v1, v2], p] w fun e w' => ∃ y, e = .returned (.agg #[v1, y]) ∧ IntsAt (fun b => Q b ∨ w.heap.size ≤ b) w' v1 caps ∧ ListsAt (fun b => Q b ∨ w.heap.size ≤ b) w' y (paths ++ [path]) ∧ Below w.heap.size w w' := by
  have H1 : Hid (IntsAt Q w v1 caps) := h1
  have HP : Hid (IntsAt Q w p path) := hp
  obtain ⟨b, off, cap2, vs, rfl, hm2, hvs, hv⟩ := h2.vals hne
  have HV : Hid (∀ i, i < paths.length → w.cell? ⟨b, off + i, none⟩ = some (vs.getD i undef) ∧ IntsAt Q w (vs.getD i undef) (paths.getD i [])) := hv
  have HL : Hid (vs.length = paths.length) := hvs
  obtain ⟨a1, cap1, rfl, _⟩ := h1
  obtain ⟨ap, capp, rfl, _⟩ := hp
  clear h2 hv hvs hne
  obtain ⟨i0, hi, hz0, hz1, hz2⟩ := info_parts infoInts
  go_enter Tryz.func55, Tryz.ntmps55
  go_wp2_with (at_builtin; go_must (refine wpList_append_own _ rfl (.tmp 10) (.tmp 12) 23 rfl (w.heap.size + 1 + 1 + 1) 22 i0 (.slice none 0 0) 1 24 Tryz.underlying23 hi hz0 hz1 hz2 rfl (by decide) _ _ _ rfl (World.ownsRow_nil _ _ _ _) ⟨b, off, none⟩ paths.length cap2 vs rfl ?c0 ?c1 ?c2 ?c3 ?c4 ?c5 ?_))
  case c0 => rw [HL.out]; omega
  case c1 =>
    intro j u hj
    have hj' : j < paths.length := by rw [← HL.out]; exact (List.getElem?_eq_some_iff.1 hj).1
    have e : vs.getD j undef = u := by simp [List.getD, hj]
    have hc := (HV.out j hj').1
    rw [e] at hc
    rw [add_addr]
    exact cell_later ((((Below.refl _ _).alloc (Nat.le_refl _) _).alloc (by simp) _).alloc (by simp; omega) _) hc
  case c2 => exact ones HL.out (fun i hi => (HV.out i hi).2)
  case c3 => unfold maxLen; omega
  case c4 => omega
  case c5 => simp
  intro x1 w1 hown1 hgrow1 _
  replace hown1 : w1.ownsRow (w.heap.size + 1 + 1 + 1) 22 1 x1 paths.length vs := by simpa using hown1
  have Bel1 := (Below.refl (w.heap.size + 1 + 1 + 1) _).grown hgrow1 (by simp) (by intro k hk; cases hk)
  have m0 : w1.cell? ⟨w.heap.size + 1 + 1, 0, none⟩ = some (.slice a1 caps.length cap1) := (Bel1.cell (p := ⟨w.heap.size + 1 + 1, 0, none⟩) (by simp)).trans (by go_simp)
  have m1 : w1.cell? ⟨w.heap.size + 1 + 1, 1, none⟩ = some (.slice none 0 0) := (Bel1.cell (p := ⟨w.heap.size + 1 + 1, 1, none⟩) (by simp)).trans (by go_simp)
  have f1 : w1.frozen? ⟨w.heap.size + 1 + 1, 1, none⟩ = false := (Bel1.frozen (p := ⟨w.heap.size + 1 + 1, 1, none⟩) (by simp)).trans (by go_simp)
  have r0 : w1.cell? ⟨w.heap.size + 1, 0, none⟩ = some (.slice none 0 0) := (Bel1.cell (p := ⟨w.heap.size + 1, 0, none⟩) (by simp)).trans (by go_simp)
  have r1 : w1.cell? ⟨w.heap.size + 1, 1, none⟩ = some (.slice none 0 0) := (Bel1.cell (p := ⟨w.heap.size + 1, 1, none⟩) (by simp)).trans (by go_simp)
  have g0 : w1.frozen? ⟨w.heap.size + 1, 0, none⟩ = false := (Bel1.frozen (p := ⟨w.heap.size + 1, 0, none⟩) (by simp)).trans (by go_simp)
  have g1 : w1.frozen? ⟨w.heap.size + 1, 1, none⟩ = false := (Bel1.frozen (p := ⟨w.heap.size + 1, 1, none⟩) (by simp)).trans (by go_simp)
  have hz : w.heap.size + 1 + 1 + 1 ≤ w1.heap.size := by have := Bel1.size; simpa using this
  have HB1 : Hid (Below w.heap.size w w1) := ((((Below.refl _ _).alloc (Nat.le_refl _) _).alloc (by simp) _).alloc (by simp; omega) _).trans (Bel1.mono (by omega))
  obtain ⟨a1', n1', c1', hx1⟩ : ∃ a n c, x1 = .slice a n c := by
    rcases hown1.2 with ⟨rfl, _⟩ | ⟨g, cap, cur, rfl, _⟩
    · exact ⟨_, _, _, rfl⟩
    · exact ⟨_, _, _, rfl⟩
  subst hx1
  have HO1 : Hid (w1.ownsRow (w.heap.size + 1 + 1 + 1) 22 1 (.slice a1' n1' c1') paths.length vs) := hown1
  clear hown1 hgrow1 Bel1
  go_wp2_with (at_builtin; go_must (refine wpList_append_own _ rfl (.tmp 16) (.tmp 18) 23 rfl (w.heap.size + 1 + 1 + 1) 22 i0 (.slice none 0 0) 1 24 Tryz.underlying23 hi hz0 hz1 hz2 rfl (by decide) _ _ _ rfl ((ownsRow_setCell_below HO1.out (by simp) _).alloc _) ⟨w1.heap.size, 0, none⟩ 1 1 [.slice ap path.length capp] rfl rfl ?d1 ?d2 ?d3 ?d4 ?d5 ?_))
  case d1 =>
    intro j u hj
    match j, hj with
    | 0, hj => simp at hj; subst hj; rw [add_addr]; go_simp
  case d2 => intro u hu; simp at hu; subst hu; rfl
  case d3 => unfold maxLen; omega
  case d4 => omega
  case d5 => simp; omega
  intro x2 w2 hown2 hgrow2 _
  have Bel2 : Below (w.heap.size + 1 + 1 + 1) (w1.setCell ⟨w.heap.size + 1 + 1, 1, none⟩ (.slice a1' n1' c1')) w2 :=
    ((Below.refl _ _).alloc (by simpa using hz) _).grown hgrow2 (by simp; omega) (fun k hk => ((HO1.out).lt k hk).1)
  have m0' : w2.cell? ⟨w.heap.size + 1 + 1, 0, none⟩ = some (.slice a1 caps.length cap1) := (Bel2.cell (p := ⟨w.heap.size + 1 + 1, 0, none⟩) (by simp)).trans (by go_simp)
  have m1' : w2.cell? ⟨w.heap.size + 1 + 1, 1, none⟩ = some (.slice a1' n1' c1') := (Bel2.cell (p := ⟨w.heap.size + 1 + 1, 1, none⟩) (by simp)).trans (by go_simp)
  have f1' : w2.frozen? ⟨w.heap.size + 1 + 1, 1, none⟩ = false := (Bel2.frozen (p := ⟨w.heap.size + 1 + 1, 1, none⟩) (by simp)).trans (by go_simp)
  have r0' : w2.cell? ⟨w.heap.size + 1, 0, none⟩ = some (.slice none 0 0) := (Bel2.cell (p := ⟨w.heap.size + 1, 0, none⟩) (by simp)).trans (by go_simp)
  have r1' : w2.cell? ⟨w.heap.size + 1, 1, none⟩ = some (.slice none 0 0) := (Bel2.cell (p := ⟨w.heap.size + 1, 1, none⟩) (by simp)).trans (by go_simp)
  have g0' : w2.frozen? ⟨w.heap.size + 1, 0, none⟩ = false := (Bel2.frozen (p := ⟨w.heap.size + 1, 0, none⟩) (by simp)).trans (by go_simp)
  have g1' : w2.frozen? ⟨w.heap.size + 1, 1, none⟩ = false := (Bel2.frozen (p := ⟨w.heap.size + 1, 1, none⟩) (by simp)).trans (by go_simp)
  have HB2 : Hid (Below w.heap.size w w2) := (HB1.out.setCell (by simp; omega) _).trans (Bel2.mono (by omega))
  have hz' : w.heap.size + 1 + 1 + 1 ≤ w2.heap.size := by have := Bel2.size; simp at this; omega
  obtain ⟨a2', n2', c2', hx2⟩ : ∃ a n c, x2 = .slice a n c := by
    rcases hown2.2 with ⟨rfl, _⟩ | ⟨g, cap, cur, rfl, _⟩
    · exact ⟨_, _, _, rfl⟩
    · exact ⟨_, _, _, rfl⟩
  subst hx2
  have HO2 : Hid (w2.ownsRow (w.heap.size + 1 + 1 + 1) 22 1 (.slice a2' n2' c2') (paths.length + 1) (vs ++ [.slice ap path.length capp])) := hown2
  clear hown2 hgrow2 Bel2 m0 m1 f1 r0 r1 g0 g1 hz
  go_wp2
  have HW : Below w.heap.size w (((w2.setCell ⟨w.heap.size + 1 + 1, 1, none⟩ (.slice a2' n2' c2')).setCell ⟨w.heap.size + 1, 0, none⟩ (.slice a1 caps.length cap1)).setCell ⟨w.heap.size + 1, 1, none⟩ (.slice a2' n2' c2')) :=
    ((HB2.out.setCell (by simp; omega) _).setCell (by simp) _).setCell (by simp) _
  refine bodyPost_ret (v := .agg #[.slice a1 caps.length cap1, .slice a2' n2' c2']) (by simp [results, Tryz.results55, go_sem, m0', m1', r0', r1']) rfl ⟨_, rfl, (H1.out.later HW).keep (fun _ _ _ => rfl) (fun _ h _ => .inl h), ?_, HW⟩
  refine lists_of_owns (base := w.heap.size + 1 + 1 + 1) (vs := vs ++ [.slice ap path.length capp]) (by simp; omega) (by simp [HL.out]) ?_ ?_ (fun g hg => .inr (by omega))
  · rw [List.length_append]
    exact ownsRow_setCell_below (ownsRow_setCell_below (ownsRow_setCell_below HO2.out (by simp) _) (by simp) _) (by simp) _
  · exact ints_snoc HL.out (fun i hi => ((HV.out i hi).2.later HW).keep (fun _ _ _ => rfl) (fun _ h _ => .inl h)) ((HP.out.later HW).keep (fun _ _ _ => rfl) (fun _ h _ => .inl h))
theorem RWith_any {Q : Nat → Prop} (caps : List Int) (paths : List (List Int)) (path : List Int) (v p : Value) (w : World) (h : NetAt Q w v caps paths) (hp : IntsAt Q w p path) (hne : paths ≠ []) (hlen : paths.length ≤ 1000) :
    Calls Tryz.prog 55 #[v, p] w fun e w' => ∃ x, e = .returned x ∧ NetAt (fun b => Q b ∨ w.heap.size ≤ b) w' x caps (paths ++ [path]) ∧ Below w.heap.size w w' := by
  obtain ⟨v1, v2, rfl, h1, h2⟩ := h
  refine (RWith_same caps paths path v1 v2 p w h1 h2 hp hne hlen).mono ?_
  rintro e w' ⟨y, he, i1, i2, hb⟩
  exact ⟨_, he, ⟨_, _, rfl, i1, i2⟩, hb⟩
end Ns
end Go.Proofs.YtpnmmmlckdkcdakGreatDoor
