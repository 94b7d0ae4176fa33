/- Package net's Drop: a net without a flow. -/
import Derived.Test.YtajihmkbnepbjajNetE
import Derived.Test.YtajihmkbnepbjajNetF
import Derived.Test.YtajihmkbnepbjajPlains
namespace Go.Proofs.Ytajihmkbnepbjaj
namespace Ns
open Go.RowKit Fr
set_option linter.unusedSimpArgs false
set_option linter.unusedVariables false

/-- the net that Drop hands back -/
theorem drop_end {w w3 w4 : World} {o : Obj} {R k : Nat} {x z u : Value} {caps : List Int} {paths : List (List Int)} {vs : List Value} (hS : w.heap.size + 1 < R) (hR : R < w3.heap.size) (hl : paths.length ≤ 6) (hk : k < paths.length) (hvl : vs.length = paths.length)
    (HB3 : Below w.heap.size w w3) (HB4 : Below R (w3.alloc o) w4) (HK : ∀ b, b ≠ R → b < (w3.alloc o).heap.size → w4.heap[b]? = (w3.alloc o).heap[b]?)
    (HX : IntsAt (fun b => R < b ∧ b < w3.heap.size) w3 x caps) (HVS : ∀ i, i < paths.length → IntsAt (fun b => R < b ∧ b < w3.heap.size) w3 (vs.getD i undef) (paths.getD i []))
    (HC : ∀ i, i < paths.length - 1 → w4.cell? ⟨R, i, none⟩ = some (vs.getD (if i < k then i else i + 1) undef)) :
    NetAt (fun b => w.heap.size ≤ b) (((w4.setCell ⟨w3.heap.size, 1, none⟩ u).setCell ⟨w.heap.size + 1, 0, none⟩ z).setCell ⟨w.heap.size + 1, 1, none⟩ u) (.agg #[x, .slice (some ⟨R, 0, none⟩) (paths.length - 1) paths.length]) caps (paths.take k ++ paths.drop (k + 1)) ∧
      Below w.heap.size w (((w4.setCell ⟨w3.heap.size, 1, none⟩ u).setCell ⟨w.heap.size + 1, 0, none⟩ z).setCell ⟨w.heap.size + 1, 1, none⟩ u) := by
  have h3 := HB3.size
  have B4 : Below w.heap.size w w4 := (HB3.alloc h3 o).trans (HB4.mono (by omega))
  have K : ∀ b, R < b → b < w3.heap.size → (((w4.setCell ⟨w3.heap.size, 1, none⟩ u).setCell ⟨w.heap.size + 1, 0, none⟩ z).setCell ⟨w.heap.size + 1, 1, none⟩ u).heap[b]? = w3.heap[b]? := by
    intro b h1 h2
    rw [Below.heap_setCell _ _ _ _ (by simp; omega), Below.heap_setCell _ _ _ _ (by simp; omega), Below.heap_setCell _ _ _ _ (by simp; omega), HK b (by omega) (by simp; omega), Below.heap_alloc w3 o b h2]
  have hll : (paths.take k ++ paths.drop (k + 1)).length = paths.length - 1 := by rw [List.length_append, List.length_take, List.length_drop]; omega
  refine ⟨⟨_, _, rfl, HX.keep (fun b hb hlt => K b hb.1 hb.2) (fun b hb _ => by omega), ?_⟩, ((B4.setCell (by simp; omega) _).setCell (by simp) _).setCell (by simp) _⟩
  refine ⟨_, paths.length, by rw [hll], ⟨by omega, by omega⟩, .inr ⟨R, 0, rfl, fun i hi => ⟨vs.getD (if i < k then i else i + 1) undef, ?_, ?_⟩, by omega⟩⟩
  · rw [hll] at hi
    rw [Nat.zero_add, ← HC i hi]
    refine World.cell?_of_block (w := w4) ?_
    rw [Below.heap_setCell _ _ _ _ (by simp; omega), Below.heap_setCell _ _ _ _ (by simp; omega), Below.heap_setCell _ _ _ _ (by simp; omega)]
  · rw [hll] at hi
    rw [getD_without paths k i hk]
    refine (HVS _ ?_).keep (fun b hb hlt => K b hb.1 hb.2) (fun b hb _ => by omega)
    split <;> omega

set_option maxRecDepth 100000 in
set_option maxHeartbeats 2000000 in
theorem drop_said : DropSaid := by
  intro Q caps paths flow v w h
  have HN : Hid (NetAt Q w v caps paths) := h
  have HCk : Hid (∀ u, Below w.heap.size w u → Calls Try.prog 33 #[v] u fun e w' => e = .returned (errV (netE caps paths)) ∧ Below u.heap.size u w') := fun u hu => check_said Q caps paths v u (h.later hu)
  obtain ⟨v1, v2, rfl, h1, h2⟩ := h
  obtain ⟨a1, cap1, rfl, ⟨hm1, hn1⟩, _⟩ := h1
  obtain ⟨a2, cap2, rfl, ⟨hm2, hn2⟩, _⟩ := h2
  by_cases he : netE caps paths = 0
  · rw [he, errV_0] at HCk
    by_cases hfl : flow < 0 ∨ (paths.length : Int) ≤ flow
    · have HE : Hid (dropE caps paths flow = 1) := by show _ = _; rw [dropE, if_pos he, if_pos hfl]
      clear he
      by_cases hneg : flow < 0
      · clear hfl
        go_enter Try.func32, Try.ntmps32
        go_wp2_with fail
        refine (HCk.out _ (((Below.refl _ _).alloc (Nat.le_refl _) _).alloc (by simp) _)).mono ?_
        rintro e w1 ⟨rfl, hw1⟩
        have r0 : w1.cell? ⟨w.heap.size + 1, 0, none⟩ = some (.slice none 0 0) := cell_later hw1 (by simp)
        have r1 : w1.cell? ⟨w.heap.size + 1, 1, none⟩ = some (.slice none 0 0) := cell_later hw1 (by simp)
        have s0 : w1.frozen? ⟨w.heap.size + 1, 0, none⟩ = false := (hw1.frozen (p := ⟨w.heap.size + 1, 0, none⟩) (by simp)).trans (by go_simp)
        have s1 : w1.frozen? ⟨w.heap.size + 1, 1, none⟩ = false := (hw1.frozen (p := ⟨w.heap.size + 1, 1, none⟩) (by simp)).trans (by go_simp)
        have HB1 : Hid (Below w.heap.size w w1) := (((Below.refl _ _).alloc (Nat.le_refl _) _).alloc (by simp) _).trans (hw1.mono (by simp; omega))
        clear hw1
        go_wp2
        refine bodyPost_ret (v := .tuple #[.agg #[.slice none 0 0, .slice none 0 0], .iface 72 (.int .i64 1)]) (by simp [results, Try.results32, go_sem, r0, r1]) rfl ?_
        rw [HE.out]
        exact ⟨_, rfl, net_nil _ _, (HB1.out.setCell (by simp) _).setCell (by simp) _⟩
      · have hge : decide ((paths.length : Int) ≤ flow) = true := by simp; omega
        clear hfl
        go_enter Try.func32, Try.ntmps32
        go_wp2_with fail
        refine (HCk.out _ (((Below.refl _ _).alloc (Nat.le_refl _) _).alloc (by simp) _)).mono ?_
        rintro e w1 ⟨rfl, hw1⟩
        have g1 : w1.cell? ⟨w.heap.size, 1, none⟩ = some (.slice a2 paths.length cap2) := cell_later hw1 (by simp)
        have r0 : w1.cell? ⟨w.heap.size + 1, 0, none⟩ = some (.slice none 0 0) := cell_later hw1 (by simp)
        have r1 : w1.cell? ⟨w.heap.size + 1, 1, none⟩ = some (.slice none 0 0) := cell_later hw1 (by simp)
        have s0 : w1.frozen? ⟨w.heap.size + 1, 0, none⟩ = false := (hw1.frozen (p := ⟨w.heap.size + 1, 0, none⟩) (by simp)).trans (by go_simp)
        have s1 : w1.frozen? ⟨w.heap.size + 1, 1, none⟩ = false := (hw1.frozen (p := ⟨w.heap.size + 1, 1, none⟩) (by simp)).trans (by go_simp)
        have HB1 : Hid (Below w.heap.size w w1) := (((Below.refl _ _).alloc (Nat.le_refl _) _).alloc (by simp) _).trans (hw1.mono (by simp; omega))
        clear hw1
        go_wp2
        refine bodyPost_ret (v := .tuple #[.agg #[.slice none 0 0, .slice none 0 0], .iface 72 (.int .i64 1)]) (by simp [results, Try.results32, go_sem, r0, r1]) rfl ?_
        rw [HE.out]
        exact ⟨_, rfl, net_nil _ _, (HB1.out.setCell (by simp) _).setCell (by simp) _⟩
    · obtain ⟨k, rfl⟩ : ∃ k : Nat, flow = k := ⟨flow.toNat, by omega⟩
      have hk : k < paths.length := by omega
      have hge : decide ((paths.length : Int) ≤ (k : Int)) = false := by simp; omega
      have hneg : ¬ ((k : Int) < 0) := by omega
      by_cases h1 : paths.length = 1
      · have HE : Hid (dropE caps paths k = 5) := by show _ = _; rw [dropE, if_pos he, if_neg hfl, if_pos h1]
        have q : ((paths.length : Int) == 1) = true := by rw [h1]; rfl
        clear he hfl h1
        go_enter Try.func32, Try.ntmps32
        go_wp2_with fail
        refine (HCk.out _ (((Below.refl _ _).alloc (Nat.le_refl _) _).alloc (by simp) _)).mono ?_
        rintro e w1 ⟨rfl, hw1⟩
        have g1 : w1.cell? ⟨w.heap.size, 1, none⟩ = some (.slice a2 paths.length cap2) := cell_later hw1 (by simp)
        have r0 : w1.cell? ⟨w.heap.size + 1, 0, none⟩ = some (.slice none 0 0) := cell_later hw1 (by simp)
        have r1 : w1.cell? ⟨w.heap.size + 1, 1, none⟩ = some (.slice none 0 0) := cell_later hw1 (by simp)
        have s0 : w1.frozen? ⟨w.heap.size + 1, 0, none⟩ = false := (hw1.frozen (p := ⟨w.heap.size + 1, 0, none⟩) (by simp)).trans (by go_simp)
        have s1 : w1.frozen? ⟨w.heap.size + 1, 1, none⟩ = false := (hw1.frozen (p := ⟨w.heap.size + 1, 1, none⟩) (by simp)).trans (by go_simp)
        have HB1 : Hid (Below w.heap.size w w1) := (((Below.refl _ _).alloc (Nat.le_refl _) _).alloc (by simp) _).trans (hw1.mono (by simp; omega))
        clear hw1
        go_wp2
        refine bodyPost_ret (v := .tuple #[.agg #[.slice none 0 0, .slice none 0 0], .iface 72 (.int .i64 5)]) (by simp [results, Try.results32, go_sem, r0, r1]) rfl ?_
        rw [HE.out]
        exact ⟨_, rfl, net_nil _ _, (HB1.out.setCell (by simp) _).setCell (by simp) _⟩
      · have HE : Hid (dropE caps paths k = 0) := by show _ = _; rw [dropE, if_pos he, if_neg hfl, if_neg h1]
        have q : ((paths.length : Int) == 1) = false := beq_eq_false_iff_ne.2 (by omega)
        have HF : Hid (∀ u, Below w.heap.size w u → Calls Try.prog 38 #[.agg #[.slice a1 caps.length cap1, .slice a2 paths.length cap2]] u fun e w' => ∃ x vs, e = .returned (.agg #[x, .slice (some ⟨u.heap.size + 1 + 1, 0, none⟩) paths.length paths.length]) ∧ IntsAt (fun b => u.heap.size + 1 + 1 < b) w' x caps ∧
            w'.ownsRow (u.heap.size + 1 + 1) 36 1 (.slice (some ⟨u.heap.size + 1 + 1, 0, none⟩) paths.length paths.length) paths.length vs ∧
            (∀ i, i < paths.length → IntsAt (fun b => u.heap.size + 1 + 1 < b) w' (vs.getD i undef) (paths.getD i [])) ∧ Below u.heap.size u w') := fun u hu => fresh_any caps paths _ u (HN.out.later hu) (by have := netE_0 he; omega) (by have := netE_0 he; omega) (netE_lens he)
        have hp6 : paths.length ≤ 6 := by have := netE_0 he; omega
        clear he hfl h1
        go_enter Try.func32, Try.ntmps32
        go_wp2_with fail
        refine (HCk.out _ (((Below.refl _ _).alloc (Nat.le_refl _) _).alloc (by simp) _)).mono ?_
        rintro e w2 ⟨rfl, hw2⟩
        have HC2 : Hid (Below (w.heap.size + 1 + 1) ((w.alloc (.cells #[.slice a1 caps.length cap1, .slice a2 paths.length cap2] 44)).alloc (.cells #[.slice none 0 0, .slice none 0 0] 44)) w2) := hw2.mono (by simp)
        have HB2 : Hid (Below w.heap.size w w2) := (((Below.refl _ _).alloc (Nat.le_refl _) _).alloc (by simp) _).trans (hw2.mono (by simp; omega))
        have g0 : w2.cell? ⟨w.heap.size, 0, none⟩ = some (.slice a1 caps.length cap1) := cell_later hw2 (by simp)
        have g1 : w2.cell? ⟨w.heap.size, 1, none⟩ = some (.slice a2 paths.length cap2) := cell_later hw2 (by simp)
        clear hw2
        go_wp2_with fail
        refine (HF.out _ HB2.out).mono ?_
        rintro e w3 ⟨x, vs, rfl, hx, hown, hvs, hw3⟩
        have hsz2 : w.heap.size + 1 + 1 ≤ w2.heap.size := by have := HC2.out.size; simpa using this
        have HC3 : Hid (Below (w.heap.size + 1 + 1) ((w.alloc (.cells #[.slice a1 caps.length cap1, .slice a2 paths.length cap2] 44)).alloc (.cells #[.slice none 0 0, .slice none 0 0] 44)) w3) := HC2.out.trans (hw3.mono hsz2)
        have HB3 : Hid (Below w.heap.size w w3) := HB2.out.trans (hw3.mono HB2.out.size)
        have hR : w2.heap.size + 1 + 1 < w3.heap.size := (hown.lt _ rfl).2
        have hvl : vs.length = paths.length := by have := hown.1; omega
        have HX : Hid (IntsAt (fun b => w2.heap.size + 1 + 1 < b ∧ b < w3.heap.size) w3 x caps) := hx.keep (fun _ _ _ => rfl) (fun b h1 h2 => ⟨h1, h2⟩)
        have HVS : Hid (∀ i, i < paths.length → IntsAt (fun b => w2.heap.size + 1 + 1 < b ∧ b < w3.heap.size) w3 (vs.getD i undef) (paths.getD i [])) := fun i hi => (hvs i hi).keep (fun _ _ _ => rfl) (fun b h1 h2 => ⟨h1, h2⟩)
        have HD : Hid (∀ o : Obj, Calls Try.prog 51 #[.slice (some ⟨w2.heap.size + 1 + 1, 0, none⟩) paths.length paths.length, .int .i64 k, .int .i64 ((k : Int) + 1)] (w3.alloc o) fun e w' => e = .returned (.slice (some ⟨w2.heap.size + 1 + 1, 0, none⟩) (paths.length - 1) paths.length) ∧
            (∀ b, b ≠ w2.heap.size + 1 + 1 → b < (w3.alloc o).heap.size → w'.heap[b]? = (w3.alloc o).heap[b]?) ∧ Below (w2.heap.size + 1 + 1) (w3.alloc o) w' ∧ ∀ i, i < paths.length - 1 → w'.cell? ⟨w2.heap.size + 1 + 1, i, none⟩ = some (vs.getD (if i < k then i else i + 1) undef)) :=
          fun o => Delete_any (w3.alloc o) (World.ownsRow.alloc hown o) (ones hvl hvs) hk (by omega)
        obtain ⟨ax, capx, rfl, _⟩ := hx
        clear hown hvs hw3 g0 g1
        go_wp2_with fail
        refine (HD.out _).mono ?_
        rintro e w4 ⟨rfl, hk4, hb4, hc4⟩
        have hM : w4.heap[w3.heap.size]? = some (.cells #[.slice ax caps.length capx, .slice (some ⟨w2.heap.size + 1 + 1, 0, none⟩) paths.length paths.length] 44 (0, 0)) := (hk4 _ (by omega) (by simp)).trans (heap_alloc_new w3 _)
        have hS : w4.heap[w.heap.size + 1]? = some (.cells #[.slice none 0 0, .slice none 0 0] 44 (0, 0)) := by
          rw [hk4 _ (by omega) (by simp; omega), Below.heap_alloc w3 _ _ (by omega), HC3.out.block _ (by omega)]
          have e3 := heap_alloc_new (w.alloc (.cells #[.slice a1 caps.length cap1, .slice a2 paths.length cap2] 44)) (.cells #[.slice none 0 0, .slice none 0 0] 44)
          have e4 : (w.alloc (.cells #[.slice a1 caps.length cap1, .slice a2 paths.length cap2] 44)).heap.size = w.heap.size + 1 := by simp
          rw [e4] at e3
          exact e3
        obtain ⟨m0, m1, f0, f1⟩ := two_cells hM
        obtain ⟨r0, r1, s0, s1⟩ := two_cells hS
        have HK4 : Hid (∀ b, b ≠ w2.heap.size + 1 + 1 → b < (w3.alloc (.cells #[.slice ax caps.length capx, .slice (some ⟨w2.heap.size + 1 + 1, 0, none⟩) paths.length paths.length] 44)).heap.size → w4.heap[b]? = (w3.alloc (.cells #[.slice ax caps.length capx, .slice (some ⟨w2.heap.size + 1 + 1, 0, none⟩) paths.length paths.length] 44)).heap[b]?) := hk4
        have HB4 : Hid (Below (w2.heap.size + 1 + 1) (w3.alloc (.cells #[.slice ax caps.length capx, .slice (some ⟨w2.heap.size + 1 + 1, 0, none⟩) paths.length paths.length] 44)) w4) := hb4
        have HC4 : Hid (∀ i, i < paths.length - 1 → w4.cell? ⟨w2.heap.size + 1 + 1, i, none⟩ = some (vs.getD (if i < k then i else i + 1) undef)) := hc4
        clear hk4 hb4 hc4 hM hS
        go_wp2
        refine bodyPost_ret (v := .tuple #[.agg #[.slice ax caps.length capx, .slice (some ⟨w2.heap.size + 1 + 1, 0, none⟩) (paths.length - 1) paths.length], .nilIface]) (by simp [results, Try.results32, go_sem, r0, r1]) rfl ?_
        rw [HE.out]
        exact ⟨_, rfl, drop_end (by omega) hR hp6 hk hvl HB3.out HB4.out HK4.out HX.out HVS.out HC4.out⟩
  · have HE : Hid (dropE caps paths flow = netE caps paths) := by show _ = _; rw [dropE, if_neg he]
    have HV : Hid (errV (netE caps paths) = .iface 72 (.int .i64 (netE caps paths))) := errV_ne he
    have HK1 : Hid (okL (netE caps paths) caps = []) := okL_ne he _
    have HK2 : Hid (okL (netE caps paths) (less paths flow) = []) := okL_ne he _
    rw [HV.out] at HCk
    generalize netE caps paths = ek at *
    clear he
    go_enter Try.func32, Try.ntmps32
    go_wp2_with fail
    refine (HCk.out _ (((Below.refl _ _).alloc (Nat.le_refl _) _).alloc (by simp) _)).mono ?_
    rintro e w1 ⟨rfl, hw1⟩
    have r0 : w1.cell? ⟨w.heap.size + 1, 0, none⟩ = some (.slice none 0 0) := cell_later hw1 (by simp)
    have r1 : w1.cell? ⟨w.heap.size + 1, 1, none⟩ = some (.slice none 0 0) := cell_later hw1 (by simp)
    have s0 : w1.frozen? ⟨w.heap.size + 1, 0, none⟩ = false := (hw1.frozen (p := ⟨w.heap.size + 1, 0, none⟩) (by simp)).trans (by go_simp)
    have s1 : w1.frozen? ⟨w.heap.size + 1, 1, none⟩ = false := (hw1.frozen (p := ⟨w.heap.size + 1, 1, none⟩) (by simp)).trans (by go_simp)
    have HB1 : Hid (Below w.heap.size w w1) := (((Below.refl _ _).alloc (Nat.le_refl _) _).alloc (by simp) _).trans (hw1.mono (by simp; omega))
    clear hw1
    go_wp2
    refine bodyPost_ret (v := .tuple #[.agg #[.slice none 0 0, .slice none 0 0], .iface 72 (.int .i64 ek)]) (by simp [results, Try.results32, go_sem, r0, r1]) rfl ?_
    rw [HE.out, HK1.out, HK2.out, HV.out]
    exact ⟨_, rfl, net_nil _ _, (HB1.out.setCell (by simp) _).setCell (by simp) _⟩
end Ns
end Go.Proofs.Ytajihmkbnepbjaj
