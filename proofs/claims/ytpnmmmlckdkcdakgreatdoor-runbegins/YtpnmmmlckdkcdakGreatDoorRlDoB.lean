/- Package run's do at 'rates', 'least', 'index' and 'split'. -/
import Derived.Test.YtpnmmmlckdkcdakGreatDoorRlDo
import Derived.Test.YtpnmmmlckdkcdakGreatDoorEvI
import Derived.Test.YtpnmmmlckdkcdakGreatDoorGvS
namespace Go.Proofs.YtpnmmmlckdkcdakGreatDoor
namespace Ev
open Go.RowKit Fr Ns Ld Fl
set_option linter.unusedSimpArgs false
set_option linter.unusedVariables false

theorem rl_tail {Q : Nat → Prop} {w : World} {b off n c : Nat} {l : List Int} (h : IntsAt Q w (.slice (some ⟨b, off, none⟩) n c) l) (h1 : 1 ≤ l.length) : IntsAt (fun _ => True) w (.slice (some ⟨b, off + 1, none⟩) (n - 1) (c - 1)) l.tail := by
  obtain ⟨a, cap, e, hm, hc⟩ := h
  simp only [Value.slice.injEq] at e
  obtain ⟨rfl, rfl, rfl⟩ := e
  rcases hc with h | ⟨b', off', e, hc, _⟩
  · rw [h] at h1; simp at h1
  · simp only [Option.some.injEq, Addr.mk.injEq, and_true] at e
    obtain ⟨rfl, rfl⟩ := e
    refine ⟨_, _, by rw [List.length_tail], ⟨by rw [List.length_tail]; omega, by rw [List.length_tail]; omega⟩, .inr ⟨b, off + 1, rfl, fun i hi => ?_, trivial⟩⟩
    rw [List.length_tail] at hi
    have := hc (i + 1) (by omega)
    rw [show off + 1 + i = off + (i + 1) by omega, this]
    cases l with
    | nil => simp at h1
    | cons x r => simp
theorem rl_nil {f : Flows} (h : RightF f) : (if (if f = [] then ([] : List (Int × Int)) else ratesR f) = [] then ([45] : Txt) else joinT ((if f = [] then [] else ratesR f).map toldT)) = if f = [] then [45] else joinT ((ratesR f).map toldT) := by
  by_cases hf : f = []
  · simp [hf]
  · have hl := (rates_R h hf).1
    have hne : ratesR f ≠ [] := fun e => by rw [e] at hl; exact hf (List.eq_nil_of_length_eq_zero hl.symm)
    simp [hf, hne]

set_option maxRecDepth 100000 in
set_option maxHeartbeats 2000000 in
theorem rdo_rates (p : Value) (va : Option Addr) (vl vc : Nat) (r k : Nat) (F : Nat → Prop) (f : Flows) (w : World) (ht : TabAt w) (hd : DeskAt logX w p F f k) (hk : k < 999) (hf : RightF f) :
    Calls Tryz.prog 84 #[.agg #[p, .map (some r)], .string ⟨#[114, 97, 116, 101, 115]⟩, .slice va vl vc] w fun e w' => e = .returned (.tuple #[.string ⟨(if f = [] then [45] else joinT ((ratesR f).map toldT)).toArray⟩, .nilIface]) ∧ Below w.heap.size w w' := by
  have hB : Below w.heap.size w (w.alloc (.cells #[p, .map (some r)] 87)) := (Below.refl _ _).alloc (Nat.le_refl _) _
  have HR : Hid (Calls Tryz.prog 112 #[.agg #[p, .map (some r)]] (w.alloc (.cells #[p, .map (some r)] 87)) fun e w' => ∃ y, e = .returned (.tuple #[y, .nilIface]) ∧ FracsAt (fun b => (w.alloc (.cells #[p, .map (some r)] 87)).heap.size ≤ b) w' y (if f = [] then [] else ratesR f) ∧ Below (w.alloc (.cells #[p, .map (some r)] 87)).heap.size (w.alloc (.cells #[p, .map (some r)] 87)) w') := rdesk_rates p r k F f _ (hd.later hB) hk
  have HB : Hid (Below w.heap.size w (w.alloc (.cells #[p, .map (some r)] 87))) := hB
  obtain ⟨h6, hn⟩ := rl_right hf
  have HFr : Hid (∀ (Q : Nat → Prop) (y : Value) (u : World), Below w.heap.size w u → FracsAt Q u y (if f = [] then [] else ratesR f) → Calls Tryz.prog 113 #[y] u fun e w' => e = .returned (.string ⟨(if f = [] then [45] else joinT ((ratesR f).map toldT)).toArray⟩) ∧ Below u.heap.size u w') := fun Q y u hu hy => by
    have := rfractions Q _ y u (ht.later hu) hy (by omega) hn
    rwa [rl_nil hf] at this
  clear hB hd ht h6 hn
  generalize (if f = [] then [45] else joinT ((ratesR f).map toldT)) = D at *
  generalize (if f = [] then [] else ratesR f) = R at *
  go_enter Tryz.func84, Tryz.ntmps84
  go_wp2_with fail
  refine HR.out.mono ?_
  rintro e w1 ⟨y, rfl, hy, hb1⟩
  have HB1 : Hid (Below w.heap.size w w1) := Bel.call HB.out (by simp) hb1
  have HF1 : Hid (Calls Tryz.prog 113 #[y] w1 fun e w' => e = .returned (.string ⟨D.toArray⟩) ∧ Below w1.heap.size w1 w') := HFr.out _ y w1 HB1.out hy
  obtain ⟨ya, yc, rfl, _⟩ := hy
  clear hb1
  go_wp2_with fail
  refine HF1.out.mono ?_
  rintro e w2 ⟨rfl, hb2⟩
  have HB2 : Hid (Below w.heap.size w w2) := Bel.call HB1.out (Nat.le_refl _) hb2
  clear hb2
  go_wp2
  exact bodyPost_ret (v := .tuple #[.string ⟨D.toArray⟩, .nilIface]) (by simp [results, Tryz.results84, go_sem]) rfl ⟨rfl, HB2.out⟩

set_option maxRecDepth 100000 in
set_option maxHeartbeats 2000000 in
theorem rdo_least (p : Value) (va : Option Addr) (vl vc : Nat) (r k : Nat) (F : Nat → Prop) (f : Flows) (w : World) (ht : TabAt w) (hd : DeskAt logX w p F f k) (hk : k < 999) (hf : RightF f) :
    Calls Tryz.prog 84 #[.agg #[p, .map (some r)], .string ⟨#[108, 101, 97, 115, 116]⟩, .slice va vl vc] w fun e w' => e = .returned (.tuple #[.string ⟨(toldT (leastV (if f = [] then [] else ratesR f))).toArray⟩, errV (if f = [] then 5 else 0)]) ∧ Below w.heap.size w w' := by
  have hB : Below w.heap.size w (w.alloc (.cells #[p, .map (some r)] 87)) := (Below.refl _ _).alloc (Nat.le_refl _) _
  have HR : Hid (Calls Tryz.prog 114 #[.agg #[p, .map (some r)]] (w.alloc (.cells #[p, .map (some r)] 87)) fun e w' => e = .returned (.tuple #[.string ⟨(toldT (leastV (if f = [] then [] else ratesR f))).toArray⟩, errV (if f = [] then 5 else 0)]) ∧ Below (w.alloc (.cells #[p, .map (some r)] 87)).heap.size (w.alloc (.cells #[p, .map (some r)] 87)) w') := rdesk_least p r k F f _ (ht.later hB) (hd.later hB) hk hf
  have HB : Hid (Below w.heap.size w (w.alloc (.cells #[p, .map (some r)] 87))) := hB
  clear hB hd ht
  generalize toldT (leastV (if f = [] then [] else ratesR f)) = D at *
  generalize errV (if f = [] then 5 else 0) = ev at *
  go_enter Tryz.func84, Tryz.ntmps84
  go_wp2_with fail
  refine HR.out.mono ?_
  rintro e w1 ⟨rfl, hb1⟩
  have HB1 : Hid (Below w.heap.size w w1) := Bel.call HB.out (by simp) hb1
  clear hb1
  go_wp2
  exact bodyPost_ret (v := .tuple #[.string ⟨D.toArray⟩, ev]) (by simp [results, Tryz.results84, go_sem]) rfl ⟨rfl, HB1.out⟩

set_option maxRecDepth 100000 in
set_option maxHeartbeats 2000000 in
theorem rdo_index {Q : Nat → Prop} (ns : List Int) (v p : Value) (r : Nat) (w : World) (ht : TabAt w) (hv : IntsAt Q w v ns) :
    Calls Tryz.prog 84 #[.agg #[p, .map (some r)], .string ⟨#[105, 110, 100, 101, 120]⟩, v] w fun e w' => e = .returned (.tuple #[.string ⟨(toldT (okF (idxE ns) (idx ns))).toArray⟩, errV (idxE ns)]) ∧ Below w.heap.size w w' := by
  have hB : Below w.heap.size w (w.alloc (.cells #[p, .map (some r)] 87)) := (Below.refl _ _).alloc (Nat.le_refl _) _
  have HI : Hid (Calls Tryz.prog 115 #[v] (w.alloc (.cells #[p, .map (some r)] 87)) fun e w' => e = .returned (.tuple #[.agg #[.int .i64 (okF (idxE ns) (idx ns)).1, .int .i64 (okF (idxE ns) (idx ns)).2], errV (idxE ns)]) ∧ Below (w.alloc (.cells #[p, .map (some r)] 87)).heap.size (w.alloc (.cells #[p, .map (some r)] 87)) w') := eindex_said Q ns v _ (hv.later hB)
  have HB : Hid (Below w.heap.size w (w.alloc (.cells #[p, .map (some r)] 87))) := hB
  obtain ⟨l2, l3, l4, l5⟩ := rl_okF ns
  have HFr : Hid (∀ u, Below w.heap.size w u → Calls Tryz.prog 116 #[.agg #[.int .i64 (okF (idxE ns) (idx ns)).1, .int .i64 (okF (idxE ns) (idx ns)).2]] u fun e w' => e = .returned (.string ⟨(toldT (okF (idxE ns) (idx ns))).toArray⟩) ∧ Below u.heap.size u w') := fun u hu => rfraction _ u (ht.later hu) l2 l3 l4 l5
  obtain ⟨va, vc, rfl, _⟩ := hv
  clear l2 l3 l4 l5 hB ht
  generalize toldT (okF (idxE ns) (idx ns)) = D at *
  generalize (okF (idxE ns) (idx ns)).1 = x at *
  generalize (okF (idxE ns) (idx ns)).2 = z at *
  generalize errV (idxE ns) = ev at *
  go_enter Tryz.func84, Tryz.ntmps84
  go_wp2_with fail
  refine HI.out.mono ?_
  rintro e w2 ⟨rfl, hb2⟩
  have hz : w.heap.size ≤ w2.heap.size := by have := hb2.size; simp at this; omega
  have HB2 : Hid (∀ o, Below w.heap.size w (w2.alloc o)) := fun o => (Bel.call HB.out (by simp) hb2).alloc hz _
  clear hb2
  go_wp2_with fail
  refine (HFr.out _ (HB2.out _)).mono ?_
  rintro e w3 ⟨rfl, hb3⟩
  have HB3 : Hid (Below w.heap.size w w3) := Bel.call (HB2.out _) (Nat.le_refl _) hb3
  clear hb3
  go_wp2
  exact bodyPost_ret (v := .tuple #[.string ⟨D.toArray⟩, ev]) (by simp [results, Tryz.results84, go_sem]) rfl ⟨rfl, HB3.out⟩

set_option maxRecDepth 100000 in
set_option maxHeartbeats 2000000 in
theorem rdo_split {Q : Nat → Prop} (m : Int) (l : List Int) (v p : Value) (r : Nat) (w : World) (ht : TabAt w) (hv : IntsAt Q w v (m :: l)) (hl : 1 ≤ l.length) (m0 : 0 ≤ m) (m1 : m ≤ 9999) :
    Calls Tryz.prog 84 #[.agg #[p, .map (some r)], .string ⟨#[115, 112, 108, 105, 116]⟩, v] w fun e w' => e = .returned (.tuple #[.string ⟨(joinT ((okL (idxE l) (splitL m l)).map digT)).toArray⟩, errV (idxE l)]) ∧ Below w.heap.size w w' := by
  have hB : Below w.heap.size w (w.alloc (.cells #[p, .map (some r)] 87)) := (Below.refl _ _).alloc (Nat.le_refl _) _
  obtain ⟨va, vc, rfl, ⟨hcap, hmx⟩, hc⟩ := id hv
  obtain ⟨b, off, rfl, c0⟩ : ∃ b off, va = some ⟨b, off, none⟩ ∧ (w.alloc (.cells #[p, .map (some r)] 87)).cell? ⟨b, off, none⟩ = some (.int .i64 m) := by
    rcases hc with h | ⟨b, off, rfl, h, _⟩
    · simp at h
    · exact ⟨b, off, rfl, cell_later hB (h 0 (by simp))⟩
  have hT := rl_tail hv (by simp)
  have HS : Hid (∀ u, Below w.heap.size w u → Calls Tryz.prog 117 #[.int .i64 m, .slice (some ⟨b, off + 1, none⟩) l.length (vc - 1)] u fun e w' => ∃ y, e = .returned (.tuple #[y, errV (idxE l)]) ∧
    IntsAt (fun b => u.heap.size ≤ b) w' y (okL (idxE l) (splitL m l)) ∧ Below u.heap.size u w') := fun u hu => by
    have := gsplit_said _ m l _ u (hT.later hu)
    rw [rl_splitE l m0 m1, rl_splitS l m0] at this
    simpa using this
  obtain ⟨h6, hn⟩ := rl_okL (l := l) m0 m1
  have HW : Hid (∀ (Q : Nat → Prop) (y : Value) (u : World), Below w.heap.size w u → IntsAt Q u y (okL (idxE l) (splitL m l)) → Calls Tryz.prog 118 #[y, .func (.func 119) #[] #[]] u fun e w' => e = .returned (.string ⟨(joinT ((okL (idxE l) (splitL m l)).map digT)).toArray⟩) ∧ Below u.heap.size u w') := fun Q y u hu hy => rwritten_int Q _ y u (ht.later hu) hy (by omega) hn
  have P1 : Hid (Below w.heap.size w (w.alloc (.cells #[p, .map (some r)] 87)).drew) := hB.drew
  have hcap1 : l.length + 1 ≤ vc := hcap
  have hne : ¬ vc = 1 := by omega
  have hle : 1 ≤ (l.length : Int) + 1 := by omega
  have lb := World.block_lt_of_cell? _ _ c0
  clear hB hv hc hcap hT hn ht
  generalize joinT ((okL (idxE l) (splitL m l)).map digT) = D at *
  generalize okL (idxE l) (splitL m l) = R at *
  generalize errV (idxE l) = ev at *
  go_enter Tryz.func84, Tryz.ntmps84
  go_wp2_with fail
  go_region_law (first | (go_simp; refine (HS.out _ P1.out).mono ?_; rintro e w2 ⟨y, rfl, hy, hb2⟩; have HB2 : Hid (Below w.heap.size w w2) := Bel.call P1.out (by simp) hb2; have HW2 : Hid (Calls Tryz.prog 118 #[y, .func (.func 119) #[] #[]] w2 fun e w' => e = .returned (.string ⟨D.toArray⟩) ∧ Below w2.heap.size w2 w') := HW.out _ y w2 HB2.out hy; obtain ⟨ya, yc, rfl, _⟩ := hy; clear hb2))
  all_goals
    go_wp2_with fail
    refine HW2.out.mono ?_
    rintro e w3 ⟨rfl, hb3⟩
    have HB3 : Hid (Below w.heap.size w w3) := Bel.call HB2.out (Nat.le_refl _) hb3
    clear hb3
    go_wp2
    exact bodyPost_ret (v := .tuple #[.string ⟨D.toArray⟩, ev]) (by simp [results, Tryz.results84, go_sem]) rfl ⟨rfl, HB3.out⟩
end Ev
end Go.Proofs.YtpnmmmlckdkcdakGreatDoor
