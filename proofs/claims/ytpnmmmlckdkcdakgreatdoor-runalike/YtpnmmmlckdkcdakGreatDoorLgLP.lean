/- Package log's Paths and Rates do what is asked of them. -/
import Derived.Test.YtpnmmmlckdkcdakGreatDoorLgLN
import Derived.Test.YtpnmmmlckdkcdakGreatDoorPlains
import Derived.Test.YtpnmmmlckdkcdakGreatDoorFillSaidR
namespace Go.Proofs.YtpnmmmlckdkcdakGreatDoor
namespace Ev
open Go.RowKit Fr Ns Ld Fl
set_option linter.unusedSimpArgs false
set_option linter.unusedVariables false

theorem set_getDL {vs : List Value} {n k : Nat} {x : Value} (hl : vs.length = n) (hk : k < n) (i : Nat) : (vs.set k x).getD i undef = if i = k then x else vs.getD i undef := by
  by_cases h : i = k
  · subst h
    rw [if_pos rfl]
    simp [List.getD, List.getElem?_set, hl, hk]
  · rw [if_neg h]
    simp [List.getD, List.getElem?_set, Ne.symm h]
theorem own_laterL {w w' : World} {B base : Nat} {e : TypeId} {size g n cap : Nat} {xs : List Value} (hb : Below B w w') (hg : g < B) (h : w.ownsRow base e size (.slice (some ⟨g, 0, none⟩) n cap) n xs) : w'.ownsRow base e size (.slice (some ⟨g, 0, none⟩) n cap) n xs :=
  own_keep (fun b hb' => by simp [Value.ownBlock] at hb'; subst hb'; exact hb.block _ hg) h
set_option maxRecDepth 100000 in
set_option maxHeartbeats 2000000 in
theorem lpaths_said : LPathsSaid logX := by
  rintro p F s w ⟨g, cv, bv, fv, B, ws, rfl, h⟩ hf
  obtain ⟨f6, fr⟩ := hf.1.flows_right
  obtain ⟨h1, h6⟩ := links_len hf.1.caps
  obtain ⟨-, -, ⟨af, cf, rfl⟩⟩ := h.mem.shape
  obtain ⟨-, -, -, c3, -, -, f0, gl⟩ := h.mem.six
  have hwl : ws.length = s.flows.length := by have := h.mem.flows.row.1; omega
  have HEa : Hid (∀ i, i < s.flows.length → ∃ b x, af = some ⟨b, 0, none⟩ ∧ w.cell? ⟨b, i, none⟩ = some x ∧ IntsAt (fun _ => True) w x (s.flows.getD i []) ∧ (s.flows.getD i []).length ≤ 6) := fun i hi => by
    rcases own_cellL h.mem.flows.row with ⟨e, _⟩ | ⟨b, e, _, _, _, hc⟩
    · omega
    · refine ⟨b, ws.getD i undef, e, hc i _ (by simp [List.getD, List.getElem?_eq_getElem (show i < ws.length by omega)]), (h.mem.flows.each i hi).keep (fun _ _ _ => rfl) (fun _ _ _ => trivial), ?_⟩
      have := pathE_len (fr _ (getD_mem s.flows i hi []))
      omega
  obtain ⟨i0, hi, hz0, hz1, hz2⟩ := info_parts infoInts
  clear h hf fr h1 h6 hwl
  generalize s.flows = f at *
  go_enter Tryz.func13, Tryz.ntmps13
  go_wp2_with (at_make; go_must (refine wpList_make_full _ rfl _ _ 23 rfl w.heap.size 22 i0 (.slice none 0 0) 1 Tryz.underlying23 hi hz0 hz1 .i64 .i64 _ _ f.length rfl rfl rfl rfl ?b2 ?b3 ?b4 ?_))
  case b2 => rw [hz2]; omega
  case b3 => unfold maxLen; omega
  case b4 => simp
  intro w1 hown hgrow
  have Bel1 : Hid (Below w.heap.size w w1) := (Below.refl _ _).grown hgrow (Nat.le_refl _) (by intro k hk; cases hk)
  have HO : Hid (w1.ownsRow w.heap.size 22 1 (.slice (some ⟨w.heap.size, 0, none⟩) f.length f.length) f.length (madeCells #[.slice none 0 0] f.length).toList) := hown
  generalize (madeCells #[Value.slice none 0 0] f.length).toList = vs0 at HO
  have g1 : w1.cell? ⟨g, 3, none⟩ = some (.slice af f.length cf) := cell_later Bel1.out c3
  have g2 : g < w1.heap.size := by have := Bel1.out.size; omega
  clear hown hgrow
  go_wp2
  go_loopw [4, 5, 17] (fun _ _ i wr => ∃ (k : Nat) (vs : List Value), k ≤ f.length ∧ i = .int .i64 k ∧ Hid (Below w.heap.size w wr) ∧
      Hid (wr.ownsRow w.heap.size 22 1 (.slice (some ⟨w.heap.size, 0, none⟩) f.length f.length) f.length vs) ∧
      Hid (∀ i, i < k → IntsAt (fun b => w.heap.size < b) wr (vs.getD i undef) (f.getD i []))) (fun _ _ i _ => f.length - (intOf i).toNat)
  case atStart => exact ⟨0, vs0, by omega, rfl, Bel1, HO, fun i hi => by omega⟩
  case round =>
    obtain ⟨k, vs, hk, rfl, hb, ho, hv⟩ := hrel
    have hvl : vs.length = f.length := by have := ho.out.1; omega
    have hsz : w.heap.size < wr.heap.size := (own_lt ho.out (g := w.heap.size) rfl).2.1
    by_cases hlt : k < f.length
    · obtain ⟨b, x, rfl, hx, hxi, hxl⟩ := HEa.out k hlt
      have hx' : wr.cell? ⟨b, k, none⟩ = some x := cell_later hb.out hx
      have HC : Hid (Calls Tryz.prog 26 #[x] wr fun e w' => ∃ y, e = .returned y ∧ IntsAt (fun b => wr.heap.size ≤ b) w' y (f.getD k []) ∧ Below wr.heap.size wr w') := by
        refine (CloneE_own _ x wr (hxi.later hb.out) (by omega)).mono ?_
        rintro e w' ⟨y, rfl, hy, hw⟩
        exact ⟨y, rfl, ints_of_owns (by omega) hy (fun _ h => h), hw⟩
      obtain ⟨ai, capi, rfl, _⟩ := hxi
      generalize hpk : f.getD k [] = pk at *
      clear hx
      go_wp2_with fail
      refine HC.out.mono ?_
      rintro e w2 ⟨y, rfl, hy, hw2⟩
      have ho2 := own_laterL hw2 hsz ho.out
      have d1 : w2.cell? ⟨w.heap.size, k, none⟩ = some (vs.getD k undef) := by
        rw [ho2.cellAt k (by omega)]; simp [List.getD, List.getElem?_eq_getElem (show k < vs.length by omega)]
      have d2 : w2.frozen? ⟨w.heap.size, k, none⟩ = false := ho2.frozenAt k
      have HO2 : Hid ((w2.setCell ⟨w.heap.size, k, none⟩ y).ownsRow w.heap.size 22 1 (.slice (some ⟨w.heap.size, 0, none⟩) f.length f.length) f.length (vs.set k y)) := (ho2.stored k y).1
      have HB2 : Hid (Below w.heap.size w (w2.setCell ⟨w.heap.size, k, none⟩ y)) := (Bel.call hb.out (Nat.le_refl _) hw2).setCell (Nat.le_refl _) _
      have HV2 : Hid (∀ i, i < k + 1 → IntsAt (fun b => w.heap.size < b) (w2.setCell ⟨w.heap.size, k, none⟩ y) ((vs.set k y).getD i undef) (f.getD i [])) := by
        intro i hi
        rw [set_getDL hvl hlt]
        by_cases hik : i = k
        · rw [if_pos hik, hik, hpk]
          exact hy.keep (fun b hb _ => Below.heap_setCell _ _ _ _ (by simp; omega)) (fun b hb _ => by omega)
        · rw [if_neg hik]
          exact ((hv.out i (by omega)).later hw2).keep (fun b hb _ => Below.heap_setCell _ _ _ _ (by simp; omega)) (fun b hb _ => hb)
      obtain ⟨ay, capy, rfl, _⟩ := hy
      clear ho2 hw2 ho hv hb
      go_wp2
      go_roundw
      case rel => exact ⟨k + 1, _, by omega, by go_num, HB2, HO2, HV2⟩
      case measure => simp [intOf]; omega
    · have hkk : k = f.length := by omega
      subst hkk
      have HL : Hid (ListsAt (fun b => w.heap.size ≤ b) wr (.slice (some ⟨w.heap.size, 0, none⟩) f.length f.length) f) := lists_of_owns (by omega) hvl ho.out (fun i hi => (hv.out i hi).keep (fun _ _ _ => rfl) (fun b hb _ => by omega)) (fun _ h => h)
      go_wp2
      go_ret
      exact ⟨_, rfl, HL.out, hb.out⟩

theorem netE_flows {caps : List Int} {f : Flows} (h : linksE caps = 0) (h6 : f.length ≤ 6) (hr : ∀ p ∈ f, pathE caps.length p = 0) : netE caps f = ratesLE f := by
  obtain ⟨c1, c6⟩ := links_len h
  unfold netE ratesLE
  by_cases h0 : f.length = 0
  · rw [if_pos (.inr h0), if_pos h0]
  · rw [if_neg (by omega), if_neg (by omega), if_pos h, if_neg h0]
    exact (pathsFrom_iff caps.length f).2 hr
set_option maxRecDepth 100000 in
set_option maxHeartbeats 2000000 in
theorem lrates_said : LRatesSaid logX := by
  rintro p F s w ⟨g, cv, bv, fv, B, ws, rfl, h⟩ hf
  obtain ⟨f6, fr⟩ := hf.1.flows_right
  have HR : Hid (∀ u, Below w.heap.size w u → Calls Tryz.prog 16 #[.agg #[cv, fv]] u fun e w' => ∃ y, e = .returned (.tuple #[y, errV (ratesLE s.flows)]) ∧ FracsAt (fun b => u.heap.size ≤ b) w' y (okL (ratesLE s.flows) (fill s.caps s.flows).1) ∧ Below u.heap.size u w') := fun u hu => by
    rw [← netE_flows hf.1.caps f6 fr]
    exact rates_said (fun _ => True) s.caps s.flows _ u (NetAt.later hu ⟨_, _, rfl, h.mem.caps.keep (fun _ _ _ => rfl) (fun _ _ _ => trivial), h.mem.flows.lists (by omega)⟩)
  obtain ⟨⟨ac, cc, rfl, _⟩, -, ⟨af, cf, rfl⟩⟩ := h.mem.shape
  obtain ⟨c0, -, -, c3, -, -, f0, gl⟩ := h.mem.six
  clear h hf fr f6
  generalize okL (ratesLE s.flows) (fill s.caps s.flows).1 = lr at *
  generalize errV (ratesLE s.flows) = ev at *
  generalize s.flows.length = nf at *
  generalize s.caps.length = nc at *
  have P1 : Hid (Below w.heap.size w w.drew) := (Below.refl _ _).drew
  go_enter Tryz.func14, Tryz.ntmps14
  go_wp2_with fail
  go_region_law (first | (go_simp; refine (HR.out _ P1.out).mono ?_; rintro e w1 ⟨y, rfl, hy, hw1⟩; have HY : Hid (FracsAt (fun b => w.heap.size ≤ b) w1 y lr) := hy; have HB : Hid (Below w.heap.size w w1) := Bel.call P1.out (Nat.le_refl _) hw1; obtain ⟨ya, yc, rfl, _⟩ := hy; clear hw1))
  all_goals
    go_wp2
    refine bodyPost_ret (v := .tuple #[.slice ya lr.length yc, ev]) (by simp [results, Tryz.results14, go_sem]) rfl ⟨_, rfl, HY.out, HB.out⟩
end Ev
end Go.Proofs.YtpnmmmlckdkcdakGreatDoor
