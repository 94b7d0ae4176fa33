/- The library's Clone at a slice of int, and package net's fresh: every list of a net in memory of its own. -/
import Derived.Test.YtajihmkbnepbjajNetC0
namespace Go.Proofs.Ytajihmkbnepbjaj
namespace Ns
open Go.RowKit Fr
set_option linter.unusedSimpArgs false
set_option linter.unusedVariables false

set_option maxHeartbeats 1000000 in
theorem Clone_any {Q : Nat → Prop} (l : List Int) (v : Value) (w : World) (h : IntsAt Q w v l) (hl : l.length ≤ 1000) :
    Calls Try.prog 34 #[v] w fun e w' => ∃ x, e = .returned x ∧ IntsAt (fun b => w.heap.size ≤ b) w' x l ∧ Below w.heap.size w w' := by
  have q : ∀ (w : World) (a : Option Addr) (n c n' c' : Nat), (binOp .eql 36 (.slice a n c) (.slice none n' c')).run Try.prog w = .ok (.bool a.isNone) w := fun w a n c n' c' => Lib.run_eql_slice_nil w _ _ a n c n' c' Try.underlying36
  obtain ⟨i0, hi, hz0, hz1, hz2⟩ := info_parts infoInt
  obtain ⟨a, cap, rfl, ⟨hm, hm2⟩, h⟩ := h
  cases a with
  | none =>
    have hn : l = [] := by
      rcases h with h | ⟨b, off, h, _⟩
      · exact h
      · cases h
    subst hn
    clear h
    go_enter Try.func34, Try.ntmps34
    go_wp2
    go_ret
    exact ⟨_, rfl, ⟨none, 0, rfl, ⟨Nat.le_refl _, by simp⟩, .inl rfl⟩, Below.refl _ _⟩
  | some ad =>
    have A : Hid (∀ j u, (l.map (Value.int .i64))[j]? = some u → w.cell? (ad.add j) = some u) := by
      rcases h with rfl | ⟨b, off, h, hc, _⟩
      · intro j u hj; simp at hj
      · cases h
        exact cells_ints hc
    clear h
    go_enter Try.func34, Try.ntmps34
    go_wp2_with (at_builtin; go_must (refine wpList_append_own _ rfl _ _ 36 rfl w.heap.size 3 i0 (.int .i64 0) 1 8 Try.underlying36 hi hz0 hz1 hz2 rfl (by decide) _ _ _ rfl (World.ownsRow_made w #[] 0 (Nat.le_refl _) (Nat.zero_le _) (by simp)) ad l.length cap (l.map (Value.int .i64)) rfl ?c0 ?c1 ?c2 ?c3 ?c4 ?c5 ?_))
    case c0 => simp
    case c1 =>
      intro j u hj
      exact cell_later ((Below.refl _ _).alloc (Nat.le_refl _) _) (A.out j u hj)
    case c2 => exact ones_ints l
    case c3 => unfold maxLen; omega
    case c4 => omega
    case c5 => simp
    intro v' w1 hown hgrow _
    replace hown : w1.ownsRow w.heap.size 3 1 v' l.length (l.map (Value.int .i64)) := by simpa using hown
    have HW : Hid (Below w.heap.size w w1) := ((Below.refl _ w).alloc (Nat.le_refl _) _).grown hgrow (by simp) (by intro k hk; simp [Value.ownBlock] at hk; omega)
    have HO : Hid (IntsAt (fun b => w.heap.size ≤ b) w1 v' l) := ints_of_owns (by omega) hown (fun g hg => hg)
    clear hown hgrow
    go_wp2
    go_ret
    exact ⟨_, rfl, HO.out, HW.out⟩

theorem set_getD {vs : List Value} {n k : Nat} {x : Value} (hl : vs.length = n) (hk : k < n) (i : Nat) : (vs.set k x).getD i undef = if i = k then x else vs.getD i undef := by
  by_cases h : i = k
  · subst h
    rw [if_pos rfl]
    simp [List.getD, List.getElem?_set, hl, hk]
  · rw [if_neg h]
    simp [List.getD, List.getElem?_set, Ne.symm h]

set_option maxHeartbeats 2000000 in
theorem fresh_any {Q : Nat → Prop} (caps : List Int) (paths : List (List Int)) (v : Value) (w : World) (h : NetAt Q w v caps paths) (hc : caps.length ≤ 1000) (hp : paths.length ≤ 1000) (hlen : ∀ i, i < paths.length → (paths.getD i []).length ≤ 1000) :
    Calls Try.prog 38 #[v] w fun e w' => ∃ x vs, e = .returned (.agg #[x, .slice (some ⟨w.heap.size + 1 + 1, 0, none⟩) paths.length paths.length]) ∧ IntsAt (fun b => w.heap.size + 1 + 1 < b) w' x caps ∧
      w'.ownsRow (w.heap.size + 1 + 1) 36 1 (.slice (some ⟨w.heap.size + 1 + 1, 0, none⟩) paths.length paths.length) paths.length vs ∧
      (∀ i, i < paths.length → IntsAt (fun b => w.heap.size + 1 + 1 < b) w' (vs.getD i undef) (paths.getD i [])) ∧ Below w.heap.size w w' := by
  obtain ⟨v1, v2, rfl, h1, h2⟩ := h
  have H1 : Hid (IntsAt Q w v1 caps) := h1
  obtain ⟨a1, cap1, rfl, ⟨hm1, hn1⟩, _⟩ := h1
  obtain ⟨a2, cap2, rfl, ⟨hm2, hn2⟩, h2⟩ := h2
  have H : Hid (∀ i, i < paths.length → ∃ b off x, a2 = some ⟨b, off, none⟩ ∧ w.cell? ⟨b, off + i, none⟩ = some x ∧ IntsAt Q w x (paths.getD i [])) := by
    intro i hi
    rcases h2 with rfl | ⟨b, off, rfl, h2, hQ⟩
    · simp at hi
    · obtain ⟨x, hx, hxi⟩ := h2 i hi
      exact ⟨b, off, x, rfl, hx, hxi⟩
  have HLn : Hid (∀ i, i < paths.length → (paths.getD i []).length ≤ 1000) := hlen
  clear h2 hlen
  obtain ⟨i0, hi, hz0, hz1, hz2⟩ := info_parts infoInts
  go_enter Try.func38, Try.ntmps38
  go_wp2_with (at_make; go_must (refine wpList_make_full _ rfl _ _ 42 rfl (w.heap.size + 1 + 1) 36 i0 (.slice none 0 0) 1 Try.underlying42 hi hz0 hz1 .i64 .i64 _ _ paths.length rfl rfl rfl rfl ?b2 ?b3 ?b4 ?_))
  case b2 => rw [hz2]; omega
  case b3 => unfold maxLen; omega
  case b4 => simp
  intro w1 hown hgrow
  have Bel1 : Hid (Below (w.heap.size + 1 + 1) ((w.alloc (.cells #[.slice a1 caps.length cap1, .slice a2 paths.length cap2] 44)).alloc (.cells #[.slice none 0 0, .slice none 0 0] 44)) w1) := (Below.refl _ _).grown hgrow (by simp) (by intro k hk; cases hk)
  have HO : Hid (w1.ownsRow (w.heap.size + 1 + 1) 36 1 (.slice (some ⟨w.heap.size + 1 + 1, 0, none⟩) paths.length paths.length) paths.length (madeCells #[.slice none 0 0] paths.length).toList) := hown
  generalize (madeCells #[Value.slice none 0 0] paths.length).toList = vs0 at HO
  have g1 : w1.cell? ⟨w.heap.size, 1, none⟩ = some (.slice a2 paths.length cap2) := (Bel1.out.cell (p := ⟨w.heap.size, 1, none⟩) (by simp; omega)).trans (by go_simp)
  clear hown hgrow
  go_wp2
  go_loopw [4, 5, 13] (fun _ _ i wr => ∃ (k : Nat) (vs : List Value), k ≤ paths.length ∧ i = .int .i64 k ∧ Hid (Below (w.heap.size + 1 + 1) ((w.alloc (.cells #[.slice a1 caps.length cap1, .slice a2 paths.length cap2] 44)).alloc (.cells #[.slice none 0 0, .slice none 0 0] 44)) wr) ∧
      Hid (wr.ownsRow (w.heap.size + 1 + 1) 36 1 (.slice (some ⟨w.heap.size + 1 + 1, 0, none⟩) paths.length paths.length) paths.length vs) ∧
      Hid (∀ i, i < k → IntsAt (fun b => w.heap.size + 1 + 1 < b) wr (vs.getD i undef) (paths.getD i []))) (fun _ _ i _ => paths.length - (intOf i).toNat)
  case atStart => exact ⟨0, vs0, by omega, rfl, Bel1, HO, fun i hi => by omega⟩
  case round =>
    obtain ⟨k, vs, hk, rfl, hb, ho, hv⟩ := hrel
    have c0 : wr.cell? ⟨w.heap.size, 0, none⟩ = some (.slice a1 caps.length cap1) := (hb.out.cell (p := ⟨w.heap.size, 0, none⟩) (by simp; omega)).trans (by go_simp)
    have HB : Hid (Below w.heap.size w wr) := (((Below.refl _ _).alloc (Nat.le_refl _) _).alloc (by simp) _).trans (hb.out.mono (by omega))
    have hvl : vs.length = paths.length := by have := ho.out.1; omega
    have hsz : w.heap.size + 1 + 1 < wr.heap.size := (ho.out.lt _ rfl).2
    by_cases hlt : k < paths.length
    · obtain ⟨b, off, x, rfl, hx, hxi⟩ := H.out k hlt
      have hx' : wr.cell? ⟨b, off + k, none⟩ = some x := cell_later HB.out hx
      have HC : Hid (Calls Try.prog 34 #[x] wr fun e w' => ∃ y, e = .returned y ∧ IntsAt (fun b => wr.heap.size ≤ b) w' y (paths.getD k []) ∧ Below wr.heap.size wr w') := Clone_any _ x wr (hxi.later HB.out) (HLn.out k hlt)
      obtain ⟨ai, capi, rfl, _⟩ := hxi
      generalize hpk : paths.getD k [] = pk at *
      clear hx
      go_wp2_with fail
      refine HC.out.mono ?_
      rintro e w2 ⟨y, rfl, hy, hw2⟩
      have ho2 := ownsRow_later hw2 hsz ho.out
      have d1 : w2.cell? ⟨w.heap.size + 1 + 1, k, none⟩ = some (vs.getD k undef) := by
        rw [ho2.cellAt k (by omega)]; simp [List.getD, List.getElem?_eq_getElem (show k < vs.length by omega)]
      have d2 : w2.frozen? ⟨w.heap.size + 1 + 1, k, none⟩ = false := ho2.frozenAt k
      have HO2 : Hid ((w2.setCell ⟨w.heap.size + 1 + 1, k, none⟩ y).ownsRow (w.heap.size + 1 + 1) 36 1 (.slice (some ⟨w.heap.size + 1 + 1, 0, none⟩) paths.length paths.length) paths.length (vs.set k y)) := (ho2.stored k y).1
      have HB2 : Hid (Below (w.heap.size + 1 + 1) ((w.alloc (.cells #[.slice a1 caps.length cap1, .slice (some ⟨b, off, none⟩) paths.length cap2] 44)).alloc (.cells #[.slice none 0 0, .slice none 0 0] 44)) (w2.setCell ⟨w.heap.size + 1 + 1, k, none⟩ y)) := (hb.out.trans (hw2.mono (by omega))).setCell (by simp) _
      have HV2 : Hid (∀ i, i < k + 1 → IntsAt (fun b => w.heap.size + 1 + 1 < b) (w2.setCell ⟨w.heap.size + 1 + 1, k, none⟩ y) ((vs.set k y).getD i undef) (paths.getD i [])) := by
        intro i hi
        rw [set_getD hvl hlt]
        by_cases hik : i = k
        · rw [if_pos hik, hik, hpk]
          exact hy.keep (fun b hb _ => Below.heap_setCell _ _ _ _ (by simp; omega)) (fun b hb _ => by omega)
        · rw [if_neg hik]
          exact ((hv.out i (by omega)).later hw2).keep (fun b hb _ => Below.heap_setCell _ _ _ _ (by simp; omega)) (fun b hb _ => hb)
      obtain ⟨ay, capy, rfl, _⟩ := hy
      clear ho2 hw2 ho hv hb
      go_wp2
      go_roundw
      case rel => exact ⟨k + 1, _, by omega, by go_num, HB2, HO2, HV2⟩
      case measure => simp [intOf]; omega
    · have HC : Hid (Calls Try.prog 34 #[.slice a1 caps.length cap1] wr fun e w' => ∃ y, e = .returned y ∧ IntsAt (fun b => wr.heap.size ≤ b) w' y caps ∧ Below wr.heap.size wr w') := Clone_any _ _ wr (H1.out.later HB.out) hc
      have hkk : k = paths.length := by omega
      subst hkk
      go_wp2_with fail
      refine HC.out.mono ?_
      rintro e w2 ⟨y, rfl, hy, hw2⟩
      have bb := hb.out.trans (hw2.mono (by omega))
      have r0 : w2.cell? ⟨w.heap.size + 1, 0, none⟩ = some (.slice none 0 0) := (bb.cell (p := ⟨w.heap.size + 1, 0, none⟩) (by simp)).trans (by go_simp)
      have r1 : w2.cell? ⟨w.heap.size + 1, 1, none⟩ = some (.slice none 0 0) := (bb.cell (p := ⟨w.heap.size + 1, 1, none⟩) (by simp)).trans (by go_simp)
      have s0 : w2.frozen? ⟨w.heap.size + 1, 0, none⟩ = false := (bb.frozen (p := ⟨w.heap.size + 1, 0, none⟩) (by simp)).trans (by go_simp)
      have s1 : w2.frozen? ⟨w.heap.size + 1, 1, none⟩ = false := (bb.frozen (p := ⟨w.heap.size + 1, 1, none⟩) (by simp)).trans (by go_simp)
      have HW : Hid (Below w.heap.size w w2) := HB.out.trans (hw2.mono (by omega))
      have HO2 : Hid (w2.ownsRow (w.heap.size + 1 + 1) 36 1 (.slice (some ⟨w.heap.size + 1 + 1, 0, none⟩) paths.length paths.length) paths.length vs) := ownsRow_later hw2 hsz ho.out
      have HV2 : Hid (∀ i, i < paths.length → IntsAt (fun b => w.heap.size + 1 + 1 < b) w2 (vs.getD i undef) (paths.getD i [])) := fun i hi => (hv.out i hi).later hw2
      have HY : Hid (IntsAt (fun b => w.heap.size + 1 + 1 < b) w2 y caps) := hy.keep (fun _ _ _ => rfl) (fun b hb _ => by omega)
      obtain ⟨ay, capy, rfl, _⟩ := hy
      clear hw2 ho hv hb bb
      go_wp2
      have HE : Hid (∀ u z, Below w.heap.size w ((w2.setCell ⟨w.heap.size + 1, 0, none⟩ u).setCell ⟨w.heap.size + 1, 1, none⟩ z)) := fun u z => (HW.out.setCell (by simp) _).setCell (by simp) _
      refine bodyPost_ret (v := .agg #[.slice ay caps.length capy, .slice (some ⟨w.heap.size + 1 + 1, 0, none⟩) paths.length paths.length]) (by simp [results, Try.results38, go_sem, r0, r1]) rfl ⟨_, vs, rfl, ?_, ?_, ?_, HE.out _ _⟩
      · exact HY.out.keep (fun b hb _ => (Below.heap_setCell _ _ _ _ (by simp; omega)).trans (Below.heap_setCell _ _ _ _ (by simp; omega))) (fun b hb _ => hb)
      · exact ownsRow_setCell_below (ownsRow_setCell_below HO2.out (by simp) _) (by simp) _
      · intro i hi
        exact (HV2.out i hi).keep (fun b hb _ => (Below.heap_setCell _ _ _ _ (by simp; omega)).trans (Below.heap_setCell _ _ _ _ (by simp; omega))) (fun b hb _ => hb)
end Ns
end Go.Proofs.Ytajihmkbnepbjaj
