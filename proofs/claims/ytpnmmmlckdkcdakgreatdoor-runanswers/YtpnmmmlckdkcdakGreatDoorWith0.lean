/- The document's With (package fairref1) of a net without flows. -/
import Derived.Test.YtpnmmmlckdkcdakGreatDoorWith
import Derived.Laws.AppendOwnNone
namespace Go.Proofs.YtpnmmmlckdkcdakGreatDoor
namespace Ns
open Go.RowKit
set_option linter.unusedSimpArgs false
set_option linter.unusedVariables false

theorem run_append_none0 {P : Program} {w : World} (t ty e : TypeId) (i : TypeInfo) (ht : P.underlying t = some (.slice e)) (hi : P.info? e = some i) (x : Option Addr) (c : Nat) :
    (Builtin.append_ #[t, t] ty #[.slice none 0 0, .slice x 0 c]).run P w = .ok (.slice none 0 0) w := by
  cases x <;> simp [Builtin.append_, run_underlying ht, sizeOf, typeInfo, hi, Builtin.lenOf, Builtin.firstCells, loadCells, loadCellsFrom]
theorem wpList_append_none0 {P : Program} {w : World} {ops : Array Oper} {rest : List Oper} {o : Oper} {a : Act} {Q : Exit → Act → World → Prop} (hgd : o.guard = none) (s x : Operand) (t : TypeId)
    (ho : o.op = .call { callee := .builtin .append, args := #[s, x], argTypes := #[t, t] })
    (e : TypeId) (i : TypeInfo) (ht : P.underlying t = some (.slice e)) (hi : P.info? e = some i)
    (hs : a.eval s = .slice none 0 0) (xa : Option Addr) (c : Nat) (hx : a.eval x = .slice xa 0 c)
    (h : wpList P ops Q rest (a.put o.dst (.slice none 0 0)) w) : wpList P ops Q (o :: rest) a w := by
  refine wpList_plain hgd fun K hK => ?_
  have hrun := run_append_none0 (P := P) (w := w) t o.type e i ht hi xa c
  unfold Oper.wp
  simp [execOp, ho, resolve, invoke, builtin, hs, hx, hrun, Result.andThen]
  exact hK _ _ h

set_option maxHeartbeats 1000000 in
theorem RWith_nilS {Q : Nat → Prop} (caps : List Int) (path : List Int) (v1 v2 p : Value) (w : World) (h1 : IntsAt Q w v1 caps) (h2 : ListsAt Q w v2 []) (hp : IntsAt Q w p path) :
    Calls Tryz.prog 55 #[.agg #[v1, v2], p] w fun e w' => ∃ y, e = .returned (.agg #[v1, y]) ∧ IntsAt (fun b => Q b ∨ w.heap.size ≤ b) w' v1 caps ∧ ListsAt (fun b => Q b ∨ w.heap.size ≤ b) w' y [path] ∧ Below w.heap.size w w' := by
  have H1 : Hid (IntsAt Q w v1 caps) := h1
  have HP : Hid (IntsAt Q w p path) := hp
  obtain ⟨a2, cap2, rfl, _, _⟩ := h2
  obtain ⟨a1, cap1, rfl, _⟩ := h1
  obtain ⟨ap, capp, rfl, _⟩ := hp
  obtain ⟨i0, hi, hz0, hz1, hz2⟩ := info_parts infoInts
  have HB0 : Hid (Below w.heap.size w (((w.alloc (.cells #[.slice a1 caps.length cap1, .slice a2 0 cap2] 37)).alloc (.cells #[.slice none 0 0, .slice none 0 0] 37)).alloc (.cells #[.slice a1 caps.length cap1, .slice none 0 0] 37))) := (((Below.refl _ _).alloc (Nat.le_refl _) _).alloc (by simp) _).alloc (by simp; omega) _
  go_enter Tryz.func55, Tryz.ntmps55
  go_wp2_with (at_builtin; first
    | (refine wpList_append_none0 rfl (.tmp 10) (.tmp 12) 23 rfl 22 i0 Tryz.underlying23 hi rfl a2 cap2 rfl ?_)
    | go_must (refine wpList_append_own _ rfl (.tmp 16) (.tmp 18) 23 rfl (w.heap.size + 1 + 1 + 1) 22 i0 (.slice none 0 0) 1 24 Tryz.underlying23 hi hz0 hz1 hz2 rfl (by decide) _ _ _ rfl (World.ownsRow_nil _ _ _ _) ⟨w.heap.size + 1 + 1 + 1, 0, none⟩ 1 1 [.slice ap path.length capp] rfl rfl ?d1 ?d2 ?d3 ?d4 ?d5 ?_))
  case d2 => rfl
  case d3 => unfold maxLen; omega
  intro x2 w2 hown2 hgrow2 _
  have Bel2 : Below (w.heap.size + 1 + 1 + 1) (((w.alloc (.cells #[.slice a1 caps.length cap1, .slice a2 0 cap2] 37)).alloc (.cells #[.slice none 0 0, .slice none 0 0] 37)).alloc (.cells #[.slice a1 caps.length cap1, .slice none 0 0] 37)) w2 :=
    ((Below.refl _ _).alloc (by simp) _).grown hgrow2 (by simp) (by intro k hk; cases hk)
  have m0' : w2.cell? ⟨w.heap.size + 1 + 1, 0, none⟩ = some (.slice a1 caps.length cap1) := (Bel2.cell (p := ⟨w.heap.size + 1 + 1, 0, none⟩) (by simp)).trans (by go_simp)
  have m1' : w2.cell? ⟨w.heap.size + 1 + 1, 1, none⟩ = some (.slice none 0 0) := (Bel2.cell (p := ⟨w.heap.size + 1 + 1, 1, none⟩) (by simp)).trans (by go_simp)
  have f1' : w2.frozen? ⟨w.heap.size + 1 + 1, 1, none⟩ = false := (Bel2.frozen (p := ⟨w.heap.size + 1 + 1, 1, none⟩) (by simp)).trans (by go_simp)
  have r0' : w2.cell? ⟨w.heap.size + 1, 0, none⟩ = some (.slice none 0 0) := (Bel2.cell (p := ⟨w.heap.size + 1, 0, none⟩) (by simp)).trans (by go_simp)
  have r1' : w2.cell? ⟨w.heap.size + 1, 1, none⟩ = some (.slice none 0 0) := (Bel2.cell (p := ⟨w.heap.size + 1, 1, none⟩) (by simp)).trans (by go_simp)
  have g0' : w2.frozen? ⟨w.heap.size + 1, 0, none⟩ = false := (Bel2.frozen (p := ⟨w.heap.size + 1, 0, none⟩) (by simp)).trans (by go_simp)
  have g1' : w2.frozen? ⟨w.heap.size + 1, 1, none⟩ = false := (Bel2.frozen (p := ⟨w.heap.size + 1, 1, none⟩) (by simp)).trans (by go_simp)
  have HB2 : Hid (Below w.heap.size w w2) := HB0.out.trans (Bel2.mono (by omega))
  have hz' : w.heap.size + 1 + 1 + 1 ≤ w2.heap.size := by have := Bel2.size; simp at this; omega
  obtain ⟨a2', n2', c2', hx2⟩ : ∃ a n c, x2 = .slice a n c := by
    rcases hown2.2 with ⟨rfl, _⟩ | ⟨g, cap, cur, rfl, _⟩
    · exact ⟨_, _, _, rfl⟩
    · exact ⟨_, _, _, rfl⟩
  subst hx2
  have HO2 : Hid (w2.ownsRow (w.heap.size + 1 + 1 + 1) 22 1 (.slice a2' n2' c2') 1 [.slice ap path.length capp]) := hown2
  clear hown2 hgrow2 Bel2
  go_wp2
  have HW : Below w.heap.size w (((w2.setCell ⟨w.heap.size + 1 + 1, 1, none⟩ (.slice a2' n2' c2')).setCell ⟨w.heap.size + 1, 0, none⟩ (.slice a1 caps.length cap1)).setCell ⟨w.heap.size + 1, 1, none⟩ (.slice a2' n2' c2')) :=
    ((HB2.out.setCell (by simp; omega) _).setCell (by simp) _).setCell (by simp) _
  refine bodyPost_ret (v := .agg #[.slice a1 caps.length cap1, .slice a2' n2' c2']) (by simp [results, Tryz.results55, go_sem, m0', m1', r0', r1']) rfl ⟨_, rfl, (H1.out.later HW).keep (fun _ _ _ => rfl) (fun _ h _ => .inl h), ?_, HW⟩
  refine lists_of_owns (base := w.heap.size + 1 + 1 + 1) (vs := [.slice ap path.length capp]) (by simp) rfl ?_ ?_ (fun g hg => .inr (by omega))
  · exact ownsRow_setCell_below (ownsRow_setCell_below (ownsRow_setCell_below HO2.out (by simp) _) (by simp) _) (by simp) _
  · intro i hi
    have : i = 0 := by simpa using hi
    subst this
    exact (HP.out.later HW).keep (fun _ _ _ => rfl) (fun _ h _ => .inl h)
theorem RWith_nil {Q : Nat → Prop} (caps : List Int) (path : List Int) (v p : Value) (w : World) (h : NetAt Q w v caps []) (hp : IntsAt Q w p path) :
    Calls Tryz.prog 55 #[v, p] w fun e w' => ∃ x, e = .returned x ∧ NetAt (fun b => Q b ∨ w.heap.size ≤ b) w' x caps [path] ∧ Below w.heap.size w w' := by
  obtain ⟨v1, v2, rfl, h1, h2⟩ := h
  refine (RWith_nilS caps path v1 v2 p w h1 h2 hp).mono ?_
  rintro e w' ⟨y, he, i1, i2, hb⟩
  exact ⟨_, he, ⟨_, _, rfl, i1, i2⟩, hb⟩
/-- with a flow more, whatever flows there are -/
theorem RWith_all {Q : Nat → Prop} (caps : List Int) (paths : List (List Int)) (path : List Int) (v p : Value) (w : World) (h : NetAt Q w v caps paths) (hp : IntsAt Q w p path) (hlen : paths.length ≤ 1000) :
    Calls Tryz.prog 55 #[v, p] w fun e w' => ∃ x, e = .returned x ∧ NetAt (fun b => Q b ∨ w.heap.size ≤ b) w' x caps (paths ++ [path]) ∧ Below w.heap.size w w' := by
  by_cases hne : paths = []
  · subst hne
    exact RWith_nil caps path v p w h hp
  · exact RWith_any caps paths path v p w h hp hne hlen
theorem RWith_allS {Q : Nat → Prop} (caps : List Int) (paths : List (List Int)) (path : List Int) (v1 v2 p : Value) (w : World) (h1 : IntsAt Q w v1 caps) (h2 : ListsAt Q w v2 paths) (hp : IntsAt Q w p path) (hlen : paths.length ≤ 1000) :
    Calls Tryz.prog 55 #[.agg #[v1, v2], p] w fun e w' => ∃ y, e = .returned (.agg #[v1, y]) ∧ IntsAt (fun b => Q b ∨ w.heap.size ≤ b) w' v1 caps ∧ ListsAt (fun b => Q b ∨ w.heap.size ≤ b) w' y (paths ++ [path]) ∧ Below w.heap.size w w' := by
  by_cases hne : paths = []
  · subst hne
    exact RWith_nilS caps path v1 v2 p w h1 h2 hp
  · exact RWith_same caps paths path v1 v2 p w h1 h2 hp hne hlen
end Ns
end Go.Proofs.YtpnmmmlckdkcdakGreatDoor
