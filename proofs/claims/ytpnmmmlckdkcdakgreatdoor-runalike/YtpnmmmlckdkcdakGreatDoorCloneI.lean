/- The library's Clone at a slice of int, as a row of the call's own; nothing of package net in it. -/
import Derived.Test.YtpnmmmlckdkcdakGreatDoorPlains
import Derived.Lib.SliceRun
namespace Go.Proofs.YtpnmmmlckdkcdakGreatDoor
namespace Ev
open Go.RowKit Fr Ns Fl
set_option linter.unusedSimpArgs false
set_option linter.unusedVariables false

theorem cells_intsE {w : World} {b off : Nat} {l : List Int} (h : ∀ i, i < l.length → w.cell? ⟨b, off + i, none⟩ = some (.int .i64 (l.getD i 0))) : ∀ j u, (l.map (Value.int .i64))[j]? = some u → w.cell? ((⟨b, off, none⟩ : Addr).add j) = some u := by
  intro j u hj
  rw [add_addr]
  have hl : j < l.length := by have := (List.getElem?_eq_some_iff.1 hj).1; simpa using this
  rw [h j hl, ← hj]
  simp [List.getD, List.getElem?_eq_getElem hl]
theorem ones_intsE (l : List Int) : ∀ u ∈ l.map (Value.int .i64), u.oneCell' = true := by
  intro u hu
  obtain ⟨x, _, rfl⟩ := List.mem_map.1 hu
  rfl
set_option maxHeartbeats 1000000 in
theorem CloneE_own {Q : Nat → Prop} (l : List Int) (v : Value) (w : World) (h : IntsAt Q w v l) (hl : l.length ≤ 1000) :
    Calls Tryz.prog 26 #[v] w fun e w' => ∃ x, e = .returned x ∧ w'.ownsRow w.heap.size 3 1 x l.length (l.map (Value.int .i64)) ∧ Below w.heap.size w w' := by
  have q : ∀ (w : World) (a : Option Addr) (n c n' c' : Nat), (binOp .eql 22 (.slice a n c) (.slice none n' c')).run Tryz.prog w = .ok (.bool a.isNone) w := fun w a n c n' c' => Lib.run_eql_slice_nil w _ _ a n c n' c' Tryz.underlying22
  obtain ⟨i0, hi, hz0, hz1, hz2⟩ := info_parts infoInt
  obtain ⟨a, cap, rfl, ⟨hm, hm2⟩, h⟩ := h
  cases a with
  | none =>
    have hn : l = [] := by
      rcases h with h | ⟨b, off, h, _⟩
      · exact h
      · cases h
    subst hn
    clear h
    go_enter Tryz.func26, Tryz.ntmps26
    go_wp2
    go_ret
    exact ⟨_, rfl, World.ownsRow_nil _ _ _ _, Below.refl _ _⟩
  | some ad =>
    have A : Hid (∀ j u, (l.map (Value.int .i64))[j]? = some u → w.cell? (ad.add j) = some u) := by
      rcases h with rfl | ⟨b, off, h, hc, _⟩
      · intro j u hj; simp at hj
      · cases h
        exact cells_intsE hc
    clear h
    go_enter Tryz.func26, Tryz.ntmps26
    go_wp2_with (at_builtin; go_must (refine wpList_append_own _ rfl _ _ 22 rfl w.heap.size 3 i0 (.int .i64 0) 1 8 Tryz.underlying22 hi hz0 hz1 hz2 rfl (by decide) _ _ _ rfl (World.ownsRow_made w #[] 0 (Nat.le_refl _) (Nat.zero_le _) (by simp)) ad l.length cap (l.map (Value.int .i64)) rfl ?c0 ?c1 ?c2 ?c3 ?c4 ?c5 ?_))
    case c0 => simp
    case c1 =>
      intro j u hj
      exact cell_later ((Below.refl _ _).alloc (Nat.le_refl _) _) (A.out j u hj)
    case c2 => exact ones_intsE l
    case c3 => unfold maxLen; omega
    case c4 => omega
    case c5 => simp
    intro v' w1 hown hgrow _
    replace hown : w1.ownsRow w.heap.size 3 1 v' l.length (l.map (Value.int .i64)) := by simpa using hown
    have HW : Hid (Below w.heap.size w w1) := ((Below.refl _ w).alloc (Nat.le_refl _) _).grown hgrow (by simp) (by intro k hk; simp [Value.ownBlock] at hk; omega)
    have HO : Hid (w1.ownsRow w.heap.size 3 1 v' l.length (l.map (Value.int .i64))) := hown
    clear hown hgrow
    go_wp2
    go_ret
    exact ⟨_, rfl, HO.out, HW.out⟩

/-- a clone of some numbers may be written into -/
theorem CloneE_ints {Q : Nat → Prop} (l : List Int) (v : Value) (w : World) (h : IntsAt Q w v l) (h0 : 0 < l.length) (hl : l.length ≤ 1000) :
    Calls Tryz.prog 26 #[v] w fun e w' => ∃ x, e = .returned x ∧ OwnInts w.heap.size w' x l ∧ Below w.heap.size w w' := by
  refine (CloneE_own l v w h hl).mono ?_
  rintro e w' ⟨x, rfl, ho, hb⟩
  refine ⟨x, rfl, ?_, hb⟩
  obtain ⟨a, c, rfl⟩ := own_slice ho
  obtain ⟨g, sp, rfl, hg, hc, hr⟩ := owns_row h0 ho
  exact ⟨g, c, sp, rfl, hc, hg, hr⟩
end Ev
end Go.Proofs.YtpnmmmlckdkcdakGreatDoor
