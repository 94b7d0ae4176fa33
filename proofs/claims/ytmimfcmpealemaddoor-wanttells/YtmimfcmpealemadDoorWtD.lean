/- Package want's wide: the net that has for each flow one link more. -/
import Derived.Test.YtmimfcmpealemadDoorWtC
namespace Go.Proofs.YtmimfcmpealemadDoor
namespace Fl
open Go.RowKit Fr Ns Ld
set_option linter.unusedSimpArgs false
set_option linter.unusedVariables false

theorem wset_getD {vs : List Value} {n k : Nat} {x : Value} (hl : vs.length = n) (hk : k < n) (i : Nat) : (vs.set k x).getD i undef = if i = k then x else vs.getD i undef := by
  by_cases h : i = k
  · subst h
    rw [if_pos rfl]
    simp [List.getD, List.getElem?_set, hl, hk]
  · rw [if_neg h]
    simp [List.getD, List.getElem?_set, Ne.symm h]
theorem wone_new (w : World) (x : Value) (T : TypeId) (g : Nat) (hg : g = w.heap.size) : ∀ j u, [x][j]? = some u → (w.alloc (.cells #[x] T)).cell? ((⟨g, 0, none⟩ : Addr).add j) = some u := by
  subst hg
  intro j u hj
  match j, hj with
  | 0, hj => simp at hj; subst hj; simp [Addr.add]
theorem wgrown1 {B : Nat} {W wg : World} {o1 : Obj} {k : Option Nat} (hs : B ≤ W.heap.size) (hg : (W.alloc o1).grownBy wg k) (hk : ∀ j, k = some j → B ≤ j) : Below B W wg :=
  ((Below.refl B W).alloc hs o1).grown hg (by simp; omega) hk

/-- the net that wide hands back -/
theorem wide_end {w w2 : World} {y : Value} {cw : List Int} {wp : List (List Int)} {n : Nat} {vs : List Value} (hn : wp.length = n) (hvl : vs.length = n) (h1 : n ≤ 1000)
    (HY : IntsAt (fun b => w.heap.size + 1 + 1 < b) w2 y cw) (HO : w2.ownsRow (w.heap.size + 1 + 1) 22 1 (.slice (some ⟨w.heap.size + 1 + 1, 0, none⟩) n n) n vs)
    (HV : ∀ i, i < n → IntsAt (fun b => w.heap.size + 1 + 1 < b) w2 (vs.getD i undef) (wp.getD i [])) (u z : Value) :
    NetAt (fun b => w.heap.size ≤ b) ((w2.setCell ⟨w.heap.size + 1, 0, none⟩ u).setCell ⟨w.heap.size + 1, 1, none⟩ z) (.agg #[y, .slice (some ⟨w.heap.size + 1 + 1, 0, none⟩) n n]) cw wp := by
  subst hn
  have K : ∀ b, w.heap.size + 1 + 1 < b → ((w2.setCell ⟨w.heap.size + 1, 0, none⟩ u).setCell ⟨w.heap.size + 1, 1, none⟩ z).heap[b]? = w2.heap[b]? := fun b hb =>
    (Below.heap_setCell _ _ _ _ (by simp; omega)).trans (Below.heap_setCell _ _ _ _ (by simp; omega))
  have L : ∀ b, w.heap.size + 1 + 1 < b → w.heap.size ≤ b := fun b hb => by omega
  refine ⟨_, _, rfl, HY.keep (fun b hb _ => K b hb) (fun b hb _ => L b hb), ?_⟩
  refine lists_of_owns (base := w.heap.size + 1 + 1) (vs := vs) (by omega) hvl ?_ (fun i hi => ?_) (fun g hg => by omega)
  · exact ownsRow_setCell_below (ownsRow_setCell_below HO (by simp) _) (by simp) _
  · exact (HV i hi).keep (fun b hb _ => K b hb) (fun b hb _ => L b hb)

set_option maxRecDepth 100000 in
set_option maxHeartbeats 4000000 in
theorem wide_any {Q : Nat → Prop} (caps : List Int) (paths : List (List Int)) (want : List Int) (v x : Value) (w : World) (h : NetAt Q w v caps paths) (hx : IntsAt Q w x want) (hc : 1 ≤ caps.length ∧ caps.length ≤ 1000) (hw : 1 ≤ want.length ∧ want.length ≤ 1000) (hp : paths.length ≤ 1000) (hlen : ∀ i, i < paths.length → (paths.getD i []).length ≤ 1000) :
    Calls Tryd.prog 22 #[v, x] w fun e w' => ∃ y, e = .returned y ∧ NetAt (fun b => w.heap.size ≤ b) w' y (caps ++ want) (wideP caps.length paths) ∧ Below w.heap.size w w' := by
  obtain ⟨v1, v2, rfl, h1, h2⟩ := h
  have H1 : Hid (IntsAt Q w v1 caps) := h1
  have H3 : Hid (IntsAt Q w x want) := hx
  obtain ⟨a1, cap1, rfl, ⟨hm1, hn1⟩, _⟩ := h1
  obtain ⟨a2, cap2, rfl, ⟨hm2, hn2⟩, h2⟩ := h2
  obtain ⟨a3, cap3, rfl, ⟨hm3, hn3⟩, _⟩ := hx
  have H : Hid (∀ i, i < paths.length → ∃ b off x, a2 = some ⟨b, off, none⟩ ∧ w.cell? ⟨b, off + i, none⟩ = some x ∧ IntsAt Q w x (paths.getD i [])) := by
    intro i hi
    rcases h2 with rfl | ⟨b, off, rfl, h2, hQ⟩
    · simp at hi
    · obtain ⟨x, hx, hxi⟩ := h2 i hi
      exact ⟨b, off, x, rfl, hx, hxi⟩
  have HLn : Hid (∀ i, i < paths.length → (paths.getD i []).length ≤ 1000) := hlen
  have HWd : Hid (∀ i, i < paths.length → (wideP caps.length paths).getD i [] = paths.getD i [] ++ [((caps.length + i : Nat) : Int)]) := fun i hi => wideP_at hi
  have HWl : Hid ((wideP caps.length paths).length = paths.length) := wideP_length _ _
  have Hc : Hid (1 ≤ caps.length ∧ caps.length ≤ 1000) := hc
  have Hw : Hid (1 ≤ want.length ∧ want.length ≤ 1000) := hw
  have hc2 := hc.2
  have HCc : Hid (∀ g u, RowAt u g 22 [.slice a1 caps.length cap1, .slice a3 want.length cap3] → Below w.heap.size w u → Calls Tryd.prog 51 #[.slice (some ⟨g, 0, none⟩) 2 2] u fun e w' => ∃ z, e = .returned z ∧ IntsAt (fun b => u.heap.size ≤ b) w' z (caps ++ want) ∧ Below u.heap.size u w') := fun g u hr hu => Concat_two caps want _ _ _ u hr (H1.out.later hu) (H3.out.later hu) Hc.out Hw.out
  generalize wideP caps.length paths = wp at *
  generalize caps ++ want = cw at *
  clear h2 hlen hc hw
  obtain ⟨i0, hi, hz0, hz1, hz2⟩ := info_parts infoInts
  obtain ⟨k0, hKI, hx0, hx1, hx2⟩ := info_parts infoInt
  go_enter Tryd.func22, Tryd.ntmps22
  go_wp2_with (at_make; go_must (refine wpList_make_full _ rfl _ _ 23 rfl (w.heap.size + 1 + 1) 22 i0 (.slice none 0 0) 1 Tryd.underlying23 hi hz0 hz1 .i64 .i64 _ _ paths.length rfl rfl rfl rfl ?b2 ?b3 ?b4 ?_))
  case b2 => rw [hz2]; omega
  case b3 => unfold maxLen; omega
  case b4 => simp
  intro w1 hown hgrow
  have Bel1 : Hid (Below (w.heap.size + 1 + 1) ((w.alloc (.cells #[.slice a1 caps.length cap1, .slice a2 paths.length cap2] 25)).alloc (.cells #[.slice none 0 0, .slice none 0 0] 25)) w1) := (Below.refl _ _).grown hgrow (by simp) (by intro k hk; cases hk)
  have HO : Hid (w1.ownsRow (w.heap.size + 1 + 1) 22 1 (.slice (some ⟨w.heap.size + 1 + 1, 0, none⟩) paths.length paths.length) paths.length (madeCells #[.slice none 0 0] paths.length).toList) := hown
  generalize (madeCells #[Value.slice none 0 0] paths.length).toList = vs0 at HO
  have g1 : w1.cell? ⟨w.heap.size, 1, none⟩ = some (.slice a2 paths.length cap2) := (Bel1.out.cell (p := ⟨w.heap.size, 1, none⟩) (by simp; omega)).trans (by go_simp)
  clear hown hgrow
  go_wp2
  go_loopw [6, 7, 8, 16] (fun _ _ _ i wr => ∃ (k : Nat) (vs : List Value), k ≤ paths.length ∧ i = .int .i64 k ∧ Hid (Below (w.heap.size + 1 + 1) ((w.alloc (.cells #[.slice a1 caps.length cap1, .slice a2 paths.length cap2] 25)).alloc (.cells #[.slice none 0 0, .slice none 0 0] 25)) wr) ∧
      Hid (wr.ownsRow (w.heap.size + 1 + 1) 22 1 (.slice (some ⟨w.heap.size + 1 + 1, 0, none⟩) paths.length paths.length) paths.length vs) ∧
      Hid (∀ i, i < k → IntsAt (fun b => w.heap.size + 1 + 1 < b) wr (vs.getD i undef) (wp.getD i []))) (fun _ _ _ i _ => paths.length - (intOf i).toNat)
  case atStart => exact ⟨0, vs0, by omega, rfl, Bel1, HO, fun i hi => by omega⟩
  case round =>
    obtain ⟨k, vs, hk, rfl, hb, ho, hv⟩ := hrel
    have c0 : wr.cell? ⟨w.heap.size, 0, none⟩ = some (.slice a1 caps.length cap1) := (hb.out.cell (p := ⟨w.heap.size, 0, none⟩) (by simp; omega)).trans (by go_simp)
    have HB : Hid (Below w.heap.size w wr) := (((Below.refl _ _).alloc (Nat.le_refl _) _).alloc (by simp) _).trans (hb.out.mono (by omega))
    have hvl : vs.length = paths.length := by have := ho.out.1; omega
    have hsz : w.heap.size + 1 + 1 < wr.heap.size := (ho.out.lt _ rfl).2
    by_cases hlt : k < paths.length
    · obtain ⟨b, off, x, rfl, hx, hxi⟩ := H.out k hlt
      have hx' : wr.cell? ⟨b, off + k, none⟩ = some x := cell_later HB.out hx
      have hlk := HLn.out k hlt
      have HC : Hid (Calls Tryd.prog 50 #[x] wr fun e w' => ∃ y, e = .returned y ∧ w'.ownsRow wr.heap.size 3 1 y (paths.getD k []).length ((paths.getD k []).map (Value.int .i64)) ∧ Below wr.heap.size wr w') := Clone_own _ x wr (hxi.later HB.out) hlk
      have HWk : Hid (wp.getD k [] = paths.getD k [] ++ [((caps.length + k : Nat) : Int)]) := HWd.out k hlt
      obtain ⟨ai, capi, rfl, _⟩ := hxi
      generalize paths.getD k [] = pk at *
      have hwrap : wrap64 ((caps.length : Int) + (k : Int)) = (caps.length : Int) + (k : Int) := by unfold wrap64; omega
      clear hx
      go_wp2_with fail
      refine HC.out.mono ?_
      rintro e w2 ⟨y, rfl, hy, hw2⟩
      have HY : Hid (w2.ownsRow wr.heap.size 3 1 y pk.length (pk.map (Value.int .i64))) := hy
      have HW2 : Hid (Below wr.heap.size wr w2) := hw2
      have hs2 : wr.heap.size ≤ w2.heap.size := hw2.size
      have c2 : w2.cell? ⟨w.heap.size, 0, none⟩ = some (.slice a1 caps.length cap1) := cell_later hw2 c0
      obtain ⟨ay, capy, rfl⟩ := owns_shape hy
      clear hy hw2
      go_wp2_with (at_builtin; go_must (refine wpList_append_own _ rfl _ _ 22 rfl wr.heap.size 3 k0 (.int .i64 0) 1 8 Tryd.underlying22 hKI hx0 hx1 hx2 rfl (by decide) _ _ _ rfl (HY.out.alloc _) ⟨_, 0, none⟩ 1 1 [.int .i64 ((caps.length : Int) + (k : Int))] rfl rfl (wone_new _ _ _ _ ?c1) (by intro u hu; simp at hu; subst hu; rfl) (by unfold maxLen; omega) (by omega) ?c2 ?_))
      case c1 => simp
      case c2 => simp; omega
      intro v' w3 hown hgrow _
      have hG : Below wr.heap.size w2 w3 := wgrown1 hs2 hgrow (fun k hk => (HY.out.lt k hk).1)
      have hW3 : Below wr.heap.size wr w3 := HW2.out.trans hG
      have HYN : IntsAt (fun b => wr.heap.size ≤ b) w3 v' (wp.getD k []) := by
        rw [HWk.out]
        exact ints_of_owns (by simp; omega) (by simpa using hown) (fun g hg => hg)
      have ho2 := ownsRow_later hW3 hsz ho.out
      have d1 : w3.cell? ⟨w.heap.size + 1 + 1, k, none⟩ = some (vs.getD k undef) := by
        rw [ho2.cellAt k (by omega)]; simp [List.getD, List.getElem?_eq_getElem (show k < vs.length by omega)]
      have d2 : w3.frozen? ⟨w.heap.size + 1 + 1, k, none⟩ = false := ho2.frozenAt k
      have HO2 : Hid ((w3.setCell ⟨w.heap.size + 1 + 1, k, none⟩ v').ownsRow (w.heap.size + 1 + 1) 22 1 (.slice (some ⟨w.heap.size + 1 + 1, 0, none⟩) paths.length paths.length) paths.length (vs.set k v')) := (ho2.stored k v').1
      have HB2 : Hid (Below (w.heap.size + 1 + 1) ((w.alloc (.cells #[.slice a1 caps.length cap1, .slice (some ⟨b, off, none⟩) paths.length cap2] 25)).alloc (.cells #[.slice none 0 0, .slice none 0 0] 25)) (w3.setCell ⟨w.heap.size + 1 + 1, k, none⟩ v')) := (hb.out.trans (hW3.mono (by omega))).setCell (by simp) _
      have HV2 : Hid (∀ i, i < k + 1 → IntsAt (fun b => w.heap.size + 1 + 1 < b) (w3.setCell ⟨w.heap.size + 1 + 1, k, none⟩ v') ((vs.set k v').getD i undef) (wp.getD i [])) := by
        intro i hi
        rw [wset_getD hvl hlt]
        by_cases hik : i = k
        · rw [if_pos hik, hik]
          exact HYN.keep (fun b hb _ => Below.heap_setCell _ _ _ _ (by simp; omega)) (fun b hb _ => by omega)
        · rw [if_neg hik]
          exact ((hv.out i (by omega)).later hW3).keep (fun b hb _ => Below.heap_setCell _ _ _ _ (by simp; omega)) (fun b hb _ => hb)
      obtain ⟨av, capv, rfl⟩ := owns_shape hown
      clear ho2 hW3 hG hgrow hown HYN ho hv hb
      go_wp2
      go_roundw
      case rel => exact ⟨k + 1, _, by omega, by go_num, HB2, HO2, HV2⟩
      case measure => simp [intOf]; omega
    · have HC := HCc.out wr.heap.size
      replace HC : Hid _ := HC
      have hkk : k = paths.length := by omega
      subst hkk
      go_wp2_with fail
      refine (HC.out _ (RowAt.new wr _ _) (HB.out.alloc (by omega) _)).mono ?_
      rintro e w2 ⟨y, rfl, hy, hw2⟩
      have hW2 : Below wr.heap.size wr w2 := ((Below.refl _ _).alloc (Nat.le_refl _) _).trans (hw2.mono (by simp))
      have bb := hb.out.trans (hW2.mono (by omega))
      have r0 : w2.cell? ⟨w.heap.size + 1, 0, none⟩ = some (.slice none 0 0) := (bb.cell (p := ⟨w.heap.size + 1, 0, none⟩) (by simp)).trans (by go_simp)
      have r1 : w2.cell? ⟨w.heap.size + 1, 1, none⟩ = some (.slice none 0 0) := (bb.cell (p := ⟨w.heap.size + 1, 1, none⟩) (by simp)).trans (by go_simp)
      have s0 : w2.frozen? ⟨w.heap.size + 1, 0, none⟩ = false := (bb.frozen (p := ⟨w.heap.size + 1, 0, none⟩) (by simp)).trans (by go_simp)
      have s1 : w2.frozen? ⟨w.heap.size + 1, 1, none⟩ = false := (bb.frozen (p := ⟨w.heap.size + 1, 1, none⟩) (by simp)).trans (by go_simp)
      have HW : Hid (Below w.heap.size w w2) := HB.out.trans (hW2.mono (by omega))
      have HO2 : Hid (w2.ownsRow (w.heap.size + 1 + 1) 22 1 (.slice (some ⟨w.heap.size + 1 + 1, 0, none⟩) paths.length paths.length) paths.length vs) := ownsRow_later hW2 hsz ho.out
      have HV2 : Hid (∀ i, i < paths.length → IntsAt (fun b => w.heap.size + 1 + 1 < b) w2 (vs.getD i undef) (wp.getD i [])) := fun i hi => (hv.out i hi).later hW2
      have HY : Hid (IntsAt (fun b => w.heap.size + 1 + 1 < b) w2 y cw) := hy.keep (fun _ _ _ => rfl) (fun b hb _ => by simp at hb; omega)
      obtain ⟨ay, capy, rfl, _⟩ := hy
      clear hw2 hW2 ho hv hb bb
      go_wp2
      have HE : Hid (∀ u z, Below w.heap.size w ((w2.setCell ⟨w.heap.size + 1, 0, none⟩ u).setCell ⟨w.heap.size + 1, 1, none⟩ z)) := fun u z => (HW.out.setCell (by simp) _).setCell (by simp) _
      refine bodyPost_ret (v := .agg #[.slice ay cw.length capy, .slice (some ⟨w.heap.size + 1 + 1, 0, none⟩) paths.length paths.length]) (by simp [results, Tryd.results22, go_sem, r0, r1]) rfl ⟨_, rfl, wide_end HWl.out hvl hp HY.out HO2.out HV2.out _ _, HE.out _ _⟩
end Fl
end Go.Proofs.YtmimfcmpealemadDoor
