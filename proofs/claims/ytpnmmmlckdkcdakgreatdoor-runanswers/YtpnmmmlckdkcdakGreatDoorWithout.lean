/- The document's Without (package fairref1): a net with a flow fewer. -/
import Derived.Test.YtpnmmmlckdkcdakGreatDoorWith
import Derived.Test.YtpnmmmlckdkcdakGreatDoorPlains
import Derived.Deep.DeepCutAuto
namespace Go.Proofs.YtpnmmmlckdkcdakGreatDoor
namespace Ns
open Go.RowKit
set_option linter.unusedSimpArgs false
set_option linter.unusedVariables false

theorem news1 {w : World} {b off : Nat} {vs : List Value} {n : Nat} {o1 o2 o3 : Obj} (hl : vs.length = n) (h : ∀ i, i < n → w.cell? ⟨b, off + i, none⟩ = some (vs.getD i undef)) (k : Nat) :
    ∀ j u, (vs.take k)[j]? = some u → (((w.alloc o1).alloc o2).alloc o3).drew.cell? ((⟨b, off, none⟩ : Addr).add j) = some u := by
  intro j u hj
  rw [List.getElem?_take] at hj
  split at hj
  · have hj' : j < n := by rw [← hl]; exact (List.getElem?_eq_some_iff.1 hj).1
    have e : vs.getD j undef = u := by simp [List.getD, hj]
    have hc := h j hj'
    rw [e] at hc
    rw [add_addr]
    exact cell_later ((((Below.refl _ _).alloc (Nat.le_refl _) _).alloc (by simp) _).alloc (by simp; omega) _).drew hc
  · cases hj
theorem ones_take {Q : Nat → Prop} {w : World} {vs : List Value} {ll : List (List Int)} (hl : vs.length = ll.length) (h : ∀ i, i < ll.length → IntsAt Q w (vs.getD i undef) (ll.getD i [])) (k : Nat) : ∀ u ∈ vs.take k, u.oneCell' = true :=
  fun u hu => ones hl h u (List.mem_of_mem_take hu)
theorem ones_drop {Q : Nat → Prop} {w : World} {vs : List Value} {ll : List (List Int)} (hl : vs.length = ll.length) (h : ∀ i, i < ll.length → IntsAt Q w (vs.getD i undef) (ll.getD i [])) (k : Nat) : ∀ u ∈ vs.drop k, u.oneCell' = true :=
  fun u hu => ones hl h u (List.mem_of_mem_drop hu)

/-- what is there behind the first append -/
theorem grown1 {w w1 : World} {x y z u v r : Value} {ty : TypeId} (hg : ((((w.alloc (.cells #[x, y] ty)).alloc (.cells #[z, u] ty)).alloc (.cells #[v, r] ty)).drew).grownBy w1 none) :
    Hid (Below (w.heap.size + 1 + 1 + 1) ((((w.alloc (.cells #[x, y] ty)).alloc (.cells #[z, u] ty)).alloc (.cells #[v, r] ty)).drew) w1) ∧
    w1.cell? ⟨w.heap.size + 1 + 1, 0, none⟩ = some v ∧ w1.cell? ⟨w.heap.size + 1 + 1, 1, none⟩ = some r ∧ w1.frozen? ⟨w.heap.size + 1 + 1, 0, none⟩ = false ∧ w1.frozen? ⟨w.heap.size + 1 + 1, 1, none⟩ = false ∧
    w1.cell? ⟨w.heap.size + 1, 0, none⟩ = some z ∧ w1.cell? ⟨w.heap.size + 1, 1, none⟩ = some u ∧ w1.frozen? ⟨w.heap.size + 1, 0, none⟩ = false ∧ w1.frozen? ⟨w.heap.size + 1, 1, none⟩ = false ∧
    w1.cell? ⟨w.heap.size, 1, none⟩ = some y ∧ w.heap.size + 1 + 1 + 1 ≤ w1.heap.size := by
  have Bel : Below (w.heap.size + 1 + 1 + 1) ((((w.alloc (.cells #[x, y] ty)).alloc (.cells #[z, u] ty)).alloc (.cells #[v, r] ty)).drew) w1 := (Below.refl _ _).grown hg (by simp) (by intro k hk; cases hk)
  refine ⟨Bel, ?_, ?_, ?_, ?_, ?_, ?_, ?_, ?_, ?_, ?_⟩
  · exact (Bel.cell (p := ⟨w.heap.size + 1 + 1, 0, none⟩) (by simp)).trans (by go_simp)
  · exact (Bel.cell (p := ⟨w.heap.size + 1 + 1, 1, none⟩) (by simp)).trans (by go_simp)
  · exact (Bel.frozen (p := ⟨w.heap.size + 1 + 1, 0, none⟩) (by simp)).trans (by go_simp)
  · exact (Bel.frozen (p := ⟨w.heap.size + 1 + 1, 1, none⟩) (by simp)).trans (by go_simp)
  · exact (Bel.cell (p := ⟨w.heap.size + 1, 0, none⟩) (by simp)).trans (by go_simp)
  · exact (Bel.cell (p := ⟨w.heap.size + 1, 1, none⟩) (by simp)).trans (by go_simp)
  · exact (Bel.frozen (p := ⟨w.heap.size + 1, 0, none⟩) (by simp)).trans (by go_simp)
  · exact (Bel.frozen (p := ⟨w.heap.size + 1, 1, none⟩) (by simp)).trans (by go_simp)
  · exact (Bel.cell (p := ⟨w.heap.size, 1, none⟩) (by simp; omega)).trans (by go_simp)
  · have := Bel.size; simpa using this

/-- the three blocks that the call has made: its copy of the net, its result, and the net that it makes -/
def Made (w wc : World) (v r z u y : Value) : Prop :=
    wc.cell? ⟨w.heap.size + 1 + 1, 0, none⟩ = some v ∧ wc.cell? ⟨w.heap.size + 1 + 1, 1, none⟩ = some r ∧ wc.frozen? ⟨w.heap.size + 1 + 1, 0, none⟩ = false ∧ wc.frozen? ⟨w.heap.size + 1 + 1, 1, none⟩ = false ∧
    wc.cell? ⟨w.heap.size + 1, 0, none⟩ = some z ∧ wc.cell? ⟨w.heap.size + 1, 1, none⟩ = some u ∧ wc.frozen? ⟨w.heap.size + 1, 0, none⟩ = false ∧ wc.frozen? ⟨w.heap.size + 1, 1, none⟩ = false ∧
    wc.cell? ⟨w.heap.size, 1, none⟩ = some y ∧ w.heap.size + 1 + 1 + 1 ≤ wc.heap.size

theorem made1 {w w1 : World} {x y z u v r : Value} {ty e : TypeId} {a1' : Option Addr} {n1' c1' k : Nat} {xs : List Value} (Bel : Below (w.heap.size + 1 + 1 + 1) ((((w.alloc (.cells #[x, y] ty)).alloc (.cells #[z, u] ty)).alloc (.cells #[v, r] ty)).drew) w1)
    (ho : w1.ownsRow (w.heap.size + 1 + 1 + 1) e 1 (.slice a1' n1' c1') (0 + k) ([] ++ xs))
    (m0 : w1.cell? ⟨w.heap.size + 1 + 1, 0, none⟩ = some v) (m1 : w1.cell? ⟨w.heap.size + 1 + 1, 1, none⟩ = some r) (f0 : w1.frozen? ⟨w.heap.size + 1 + 1, 0, none⟩ = false) (f1 : w1.frozen? ⟨w.heap.size + 1 + 1, 1, none⟩ = false)
    (r0 : w1.cell? ⟨w.heap.size + 1, 0, none⟩ = some z) (r1 : w1.cell? ⟨w.heap.size + 1, 1, none⟩ = some u) (g0 : w1.frozen? ⟨w.heap.size + 1, 0, none⟩ = false) (g1 : w1.frozen? ⟨w.heap.size + 1, 1, none⟩ = false)
    (p1 : w1.cell? ⟨w.heap.size, 1, none⟩ = some y) (hz : w.heap.size + 1 + 1 + 1 ≤ w1.heap.size) :
    ∃ a n c, Hid ((w1.setCell ⟨w.heap.size + 1 + 1, 1, none⟩ (.slice a1' n1' c1')).ownsRow (w.heap.size + 1 + 1 + 1) e 1 (.slice a n c) k xs) ∧ Hid (Below w.heap.size w (w1.setCell ⟨w.heap.size + 1 + 1, 1, none⟩ (.slice a1' n1' c1'))) ∧
      Made w (w1.setCell ⟨w.heap.size + 1 + 1, 1, none⟩ (.slice a1' n1' c1')) v (.slice a n c) z u y := by
  refine ⟨a1', n1', c1', ?_, ?_, ?_⟩
  · refine ownsRow_setCell_below ?_ (by simp) _
    simpa using ho
  · refine Below.setCell ?_ (by simp; omega) _
    exact (((((Below.refl _ _).alloc (Nat.le_refl _) _).alloc (by simp) _).alloc (by simp; omega) _).drew).trans (Bel.mono (by omega))
  · unfold Made
    refine ⟨?_, ?_, ?_, ?_, ?_, ?_, ?_, ?_, ?_, ?_⟩
    · go_simp
    · go_simp
    · go_simp
    · go_simp
    · go_simp
    · go_simp
    · go_simp
    · go_simp
    · go_simp
    · simpa using hz

theorem news2 {w w1 : World} {b off : Nat} {vs : List Value} {n : Nat} (HB : Below w.heap.size w w1) (hl : vs.length = n) (h : ∀ i, i < n → w.cell? ⟨b, off + i, none⟩ = some (vs.getD i undef)) (k : Nat) :
    ∀ j u, (vs.drop (k + 1))[j]? = some u → w1.drew.cell? ((⟨b, off + (k + 1), none⟩ : Addr).add j) = some u := by
  intro j u hj
  rw [List.getElem?_drop] at hj
  have hj' : k + 1 + j < n := by rw [← hl]; exact (List.getElem?_eq_some_iff.1 hj).1
  have e : vs.getD (k + 1 + j) undef = u := by simp [List.getD, hj]
  have hc := h _ hj'
  rw [e] at hc
  rw [add_addr, show off + (k + 1) + j = off + (k + 1 + j) by omega]
  exact cell_later HB.drew hc

/-- what is there behind the second append -/
theorem grown2 {w w1 w2 : World} {v r z u : Value} {e : TypeId} {a1' : Option Addr} {n1' c1' k m : Nat} {xs ys : List Value} {y2 : Value}
    (HB1 : Hid (Below w.heap.size w w1)) (HO1 : Hid (w1.ownsRow (w.heap.size + 1 + 1 + 1) e 1 (.slice a1' n1' c1') k xs))
    (m0 : w1.cell? ⟨w.heap.size + 1 + 1, 0, none⟩ = some v) (m1 : w1.cell? ⟨w.heap.size + 1 + 1, 1, none⟩ = some r) (f0 : w1.frozen? ⟨w.heap.size + 1 + 1, 0, none⟩ = false) (f1 : w1.frozen? ⟨w.heap.size + 1 + 1, 1, none⟩ = false)
    (r0 : w1.cell? ⟨w.heap.size + 1, 0, none⟩ = some z) (r1 : w1.cell? ⟨w.heap.size + 1, 1, none⟩ = some u) (g0 : w1.frozen? ⟨w.heap.size + 1, 0, none⟩ = false) (g1 : w1.frozen? ⟨w.heap.size + 1, 1, none⟩ = false)
    (hz : w.heap.size + 1 + 1 + 1 ≤ w1.heap.size) (ho : w2.ownsRow (w.heap.size + 1 + 1 + 1) e 1 y2 (k + m) (xs ++ ys)) (hg : w1.drew.grownBy w2 (Value.slice a1' n1' c1').ownBlock) :
    Hid (Below w.heap.size w w2) ∧ Hid (w2.ownsRow (w.heap.size + 1 + 1 + 1) e 1 y2 (k + m) (xs ++ ys)) ∧
    w2.cell? ⟨w.heap.size + 1 + 1, 0, none⟩ = some v ∧ w2.cell? ⟨w.heap.size + 1 + 1, 1, none⟩ = some r ∧ w2.frozen? ⟨w.heap.size + 1 + 1, 0, none⟩ = false ∧ w2.frozen? ⟨w.heap.size + 1 + 1, 1, none⟩ = false ∧
    w2.cell? ⟨w.heap.size + 1, 0, none⟩ = some z ∧ w2.cell? ⟨w.heap.size + 1, 1, none⟩ = some u ∧ w2.frozen? ⟨w.heap.size + 1, 0, none⟩ = false ∧ w2.frozen? ⟨w.heap.size + 1, 1, none⟩ = false ∧
    w.heap.size + 1 + 1 + 1 ≤ w2.heap.size := by
  have Bel : Below (w.heap.size + 1 + 1 + 1) w1.drew w2 := (Below.refl _ _).grown hg (by simpa using hz) (fun k hk => (HO1.out.lt k hk).1)
  refine ⟨HB1.out.drew.trans (Bel.mono (by omega)), ho, ?_, ?_, ?_, ?_, ?_, ?_, ?_, ?_, ?_⟩
  · exact (Bel.cell (p := ⟨w.heap.size + 1 + 1, 0, none⟩) (by simp)).trans (by go_simp)
  · exact (Bel.cell (p := ⟨w.heap.size + 1 + 1, 1, none⟩) (by simp)).trans (by go_simp)
  · exact (Bel.frozen (p := ⟨w.heap.size + 1 + 1, 0, none⟩) (by simp)).trans (by go_simp)
  · exact (Bel.frozen (p := ⟨w.heap.size + 1 + 1, 1, none⟩) (by simp)).trans (by go_simp)
  · exact (Bel.cell (p := ⟨w.heap.size + 1, 0, none⟩) (by simp)).trans (by go_simp)
  · exact (Bel.cell (p := ⟨w.heap.size + 1, 1, none⟩) (by simp)).trans (by go_simp)
  · exact (Bel.frozen (p := ⟨w.heap.size + 1, 0, none⟩) (by simp)).trans (by go_simp)
  · exact (Bel.frozen (p := ⟨w.heap.size + 1, 1, none⟩) (by simp)).trans (by go_simp)
  · have := Bel.size; simp at this; omega

theorem without_end {Q : Nat → Prop} {w w2 : World} {caps : List Int} {paths : List (List Int)} {vs ys : List Value} {k cap1 n2' c2' b off : Nat} {a1 a2' : Option Addr}
    (HL : vs.length = paths.length) (HV : ∀ i, i < paths.length → w.cell? ⟨b, off + i, none⟩ = some (vs.getD i undef) ∧ IntsAt Q w (vs.getD i undef) (paths.getD i []))
    (H1 : IntsAt Q w (.slice a1 caps.length cap1) caps) (HB2 : Below w.heap.size w w2) (HO2 : w2.ownsRow (w.heap.size + 1 + 1 + 1) 22 1 (.slice a2' n2' c2') (k + (paths.length - (k + 1))) (vs.take k ++ ys))
    (hk : k < paths.length) (hlen : paths.length ≤ 1000) (hys : ys = vs.drop (k + 1)) :
    ∃ y, Ending.returned (.agg #[.slice a1 caps.length cap1, .slice a2' n2' c2']) = Ending.returned (.agg #[.slice a1 caps.length cap1, y]) ∧
      IntsAt (fun b => Q b ∨ w.heap.size ≤ b) (((w2.setCell ⟨w.heap.size + 1 + 1, 1, none⟩ (.slice a2' n2' c2')).setCell ⟨w.heap.size + 1, 0, none⟩ (.slice a1 caps.length cap1)).setCell ⟨w.heap.size + 1, 1, none⟩ (.slice a2' n2' c2')) (.slice a1 caps.length cap1) caps ∧ ListsAt (fun b => Q b ∨ w.heap.size ≤ b) (((w2.setCell ⟨w.heap.size + 1 + 1, 1, none⟩ (.slice a2' n2' c2')).setCell ⟨w.heap.size + 1, 0, none⟩ (.slice a1 caps.length cap1)).setCell ⟨w.heap.size + 1, 1, none⟩ (.slice a2' n2' c2')) y (paths.take k ++ paths.drop (k + 1)) ∧
      Below w.heap.size w (((w2.setCell ⟨w.heap.size + 1 + 1, 1, none⟩ (.slice a2' n2' c2')).setCell ⟨w.heap.size + 1, 0, none⟩ (.slice a1 caps.length cap1)).setCell ⟨w.heap.size + 1, 1, none⟩ (.slice a2' n2' c2')) := by
  have HW : Below w.heap.size w (((w2.setCell ⟨w.heap.size + 1 + 1, 1, none⟩ (.slice a2' n2' c2')).setCell ⟨w.heap.size + 1, 0, none⟩ (.slice a1 caps.length cap1)).setCell ⟨w.heap.size + 1, 1, none⟩ (.slice a2' n2' c2')) :=
    ((HB2.setCell (by simp; omega) _).setCell (by simp) _).setCell (by simp) _
  subst hys
  have hll : (paths.take k ++ paths.drop (k + 1)).length = k + (paths.length - (k + 1)) := by rw [List.length_append, List.length_take, List.length_drop]; omega
  refine ⟨_, rfl, (H1.later HW).keep (fun _ _ _ => rfl) (fun _ h _ => .inl h), ?_, HW⟩
  refine lists_of_owns (base := w.heap.size + 1 + 1 + 1) (vs := vs.take k ++ vs.drop (k + 1)) (by omega) (by rw [List.length_append, List.length_take, List.length_drop]; omega) ?_ ?_ (fun g hg => .inr (by omega))
  · rw [hll]
    exact ownsRow_setCell_below (ownsRow_setCell_below (ownsRow_setCell_below HO2 (by simp) _) (by simp) _) (by simp) _
  · intro i hi
    rw [getD_without vs k i (by omega), getD_without paths k i hk]
    rw [hll] at hi
    refine (((HV _ ?_).2).later HW).keep (fun _ _ _ => rfl) (fun _ h _ => .inl h)
    split <;> omega

set_option maxRecDepth 100000 in
set_option maxHeartbeats 2000000 in
theorem RWithout_same {Q : Nat → Prop} (caps : List Int) (paths : List (List Int)) (k : Nat) (v1 v2 : Value) (w : World) (h1 : IntsAt Q w v1 caps) (h2 : ListsAt Q w v2 paths) (hk : k < paths.length) (hlen : paths.length ≤ 1000) :
    Calls Tryz.prog 56 #[.agg #[v1, v2], .int .i64 k] w fun e w' => ∃ y, e = .returned (.agg #[v1, y]) ∧ IntsAt (fun b => Q b ∨ w.heap.size ≤ b) w' v1 caps ∧ ListsAt (fun b => Q b ∨ w.heap.size ≤ b) w' y (paths.take k ++ paths.drop (k + 1)) ∧ Below w.heap.size w w' := by
  have hne : paths ≠ [] := by intro e; rw [e] at hk; simp at hk
  have H1 : Hid (IntsAt Q w v1 caps) := h1
  obtain ⟨b, off, cap2, vs, rfl, hm2, hvs, hv⟩ := h2.vals hne
  have HV : Hid (∀ i, i < paths.length → w.cell? ⟨b, off + i, none⟩ = some (vs.getD i undef) ∧ IntsAt Q w (vs.getD i undef) (paths.getD i [])) := hv
  have HL : Hid (vs.length = paths.length) := hvs
  obtain ⟨a1, cap1, rfl, _⟩ := h1
  have hkc : (k : Int) ≤ (cap2 : Int) := by omega
  have hkl : (k : Int) + 1 ≤ (paths.length : Int) := by omega
  clear h2 hv hvs hne
  obtain ⟨i0, hi, hz0, hz1, hz2⟩ := info_parts infoInts
  go_enter Tryz.func56, Tryz.ntmps56
  go_upto_region 3 with fail
  go_cut [] (fun wc => ∃ a1' n1' c1', Hid (wc.ownsRow (w.heap.size + 1 + 1 + 1) 22 1 (.slice a1' n1' c1') k (vs.take k)) ∧ Hid (Below w.heap.size w wc) ∧ Made w wc (.slice a1 caps.length cap1) (.slice a1' n1' c1') (.slice none 0 0) (.slice none 0 0) (.slice (some ⟨b, off, none⟩) paths.length cap2))
  case first =>
    go_region_law (refine step_append_own rfl (.tmp 10) (.tmp 14) 23 rfl (w.heap.size + 1 + 1 + 1) 22 i0 (.slice none 0 0) 1 24 Tryz.underlying23 hi hz0 hz1 hz2 rfl (by decide) (.slice none 0 0) 0 [] (by simp [Act.eval, Act.put]) (World.ownsRow_nil _ _ _ _) ⟨b, off, none⟩ k cap2 (vs.take k) (by simp [Act.eval, Act.put]) (by rw [List.length_take, HL.out]; omega) (news1 HL.out (fun i hi => (HV.out i hi).1) k) (ones_take HL.out (fun i hi => (HV.out i hi).2) k) (by unfold maxLen; omega) (by omega) (by simp) ?_; intro a1' n1' c1' w1 hown1 hgrow1; obtain ⟨Bel1, m0, m1, f0, f1, r0, r1, g0, g1, p1, hz⟩ := grown1 hgrow1)
    all_goals
      go_wp2_with fail
      go_meet
      case rel => exact made1 Bel1.out hown1 m0 m1 f0 f1 r0 r1 g0 g1 p1 hz
  case rest =>
    obtain ⟨a1', n1', c1', HO1, HB1, m0, m1, f0, f1, r0, r1, g0, g1, p1, hz⟩ := hcut
    obtain ⟨w1, rfl⟩ : ∃ x : World, x = wc := ⟨_, rfl⟩
    have hkc2 : (k : Int) + 1 ≤ (cap2 : Int) := by omega
    have hw1 : IntKind.i64.wrap ((k : Int) + 1) = (k : Int) + 1 := by rw [IntKind.wrap_i64]; omega
    have ht1 : ((k : Int) + 1).toNat = k + 1 := by omega
    have hp1 : (0 : Int) ≤ (k : Int) + 1 := by omega
    by_cases hcap : cap2 = k + 1
    · have HM : Hid (paths.length - (k + 1) = 0) := show _ = _ by omega
      go_wp2_with fail
      go_region_law (refine step_append_own rfl (.tmp 18) (.tmp 23) 23 rfl (w.heap.size + 1 + 1 + 1) 22 i0 (.slice none 0 0) 1 24 Tryz.underlying23 hi hz0 hz1 hz2 rfl (by decide) (.slice a1' n1' c1') k (vs.take k) (by simp [Act.eval, Act.put]) (HO1.out.drew) ⟨b, off, none⟩ (paths.length - (k + 1)) 0 [] (by simp [Act.eval, Act.put]) (by simp; omega) (by intro j u hj; simp at hj) (by intro u hu; simp at hu) (by unfold maxLen; omega) (by omega) (by simpa using hz) ?_; intro a2' n2' c2' w2 hown2 hgrow2; obtain ⟨HB2, HO2, m0', m1', f0', f1', r0', r1', g0', g1', hz'⟩ := grown2 HB1 HO1 m0 m1 f0 f1 r0 r1 g0 g1 hz hown2 hgrow2)
      all_goals
        go_wp2
        refine bodyPost_ret (v := .agg #[.slice a1 caps.length cap1, .slice a2' n2' c2']) (by simp [results, Tryz.results56, go_sem, m0', m1', r0', r1']) rfl ?_
        exact without_end (ys := []) HL.out HV.out H1.out HB2.out HO2.out hk hlen (by symm; apply List.drop_of_length_le; rw [HL.out]; omega)
    · go_wp2_with fail
      go_region_law (refine step_append_own rfl (.tmp 18) (.tmp 23) 23 rfl (w.heap.size + 1 + 1 + 1) 22 i0 (.slice none 0 0) 1 24 Tryz.underlying23 hi hz0 hz1 hz2 rfl (by decide) (.slice a1' n1' c1') k (vs.take k) (by simp [Act.eval, Act.put]) (HO1.out.drew) ⟨b, off + (k + 1), none⟩ (paths.length - (k + 1)) (cap2 - (k + 1)) (vs.drop (k + 1)) (by simp [Act.eval, Act.put]) (by rw [List.length_drop, HL.out]; omega) (news2 HB1.out HL.out (fun i hi => (HV.out i hi).1) k) (ones_drop HL.out (fun i hi => (HV.out i hi).2) (k + 1)) (by unfold maxLen; omega) (by omega) (by simpa using hz) ?_; intro a2' n2' c2' w2 hown2 hgrow2; obtain ⟨HB2, HO2, m0', m1', f0', f1', r0', r1', g0', g1', hz'⟩ := grown2 HB1 HO1 m0 m1 f0 f1 r0 r1 g0 g1 hz hown2 hgrow2)
      all_goals
        go_wp2
        refine bodyPost_ret (v := .agg #[.slice a1 caps.length cap1, .slice a2' n2' c2']) (by simp [results, Tryz.results56, go_sem, m0', m1', r0', r1']) rfl ?_
        exact without_end (ys := vs.drop (k + 1)) HL.out HV.out H1.out HB2.out HO2.out hk hlen rfl
theorem RWithout_any {Q : Nat → Prop} (caps : List Int) (paths : List (List Int)) (k : Nat) (v : Value) (w : World) (h : NetAt Q w v caps paths) (hk : k < paths.length) (hlen : paths.length ≤ 1000) :
    Calls Tryz.prog 56 #[v, .int .i64 k] w fun e w' => ∃ x, e = .returned x ∧ NetAt (fun b => Q b ∨ w.heap.size ≤ b) w' x caps (paths.take k ++ paths.drop (k + 1)) ∧ Below w.heap.size w w' := by
  obtain ⟨v1, v2, rfl, h1, h2⟩ := h
  refine (RWithout_same caps paths k v1 v2 w h1 h2 hk hlen).mono ?_
  rintro e w' ⟨y, he, i1, i2, hb⟩
  exact ⟨_, he, ⟨_, _, rfl, i1, i2⟩, hb⟩
end Ns
end Go.Proofs.YtpnmmmlckdkcdakGreatDoor
