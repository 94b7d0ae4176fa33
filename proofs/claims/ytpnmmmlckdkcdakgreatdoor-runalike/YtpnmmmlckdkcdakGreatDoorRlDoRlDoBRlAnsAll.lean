/- Pieces of one walk, one text behind the other. -/
import Derived.Test.YtpnmmmlckdkcdakGreatDoorPlains
import Derived.Test.YtpnmmmlckdkcdakGreatDoorRlTextRlBldAll
import Derived.Test.YtpnmmmlckdkcdakGreatDoorLgLD
import Derived.Test.YtpnmmmlckdkcdakGreatDoorLgLP
import Derived.Test.YtpnmmmlckdkcdakGreatDoorRkAll
import Derived.Deep.DeepCutAuto
import Derived.Deep.RegionHeld3
import Derived.Test.YtpnmmmlckdkcdakGreatDoorEvI
import Derived.Test.YtpnmmmlckdkcdakGreatDoorGvS
import Derived.Test.YtpnmmmlckdkcdakGreatDoorRlLinesRlReadAll
import Derived.Test.YtpnmmmlckdkcdakGreatDoorRlToldB
/- Package run's do at 'add' and 'drop', and its rates and least. -/
namespace Go.Proofs.YtpnmmmlckdkcdakGreatDoor
namespace Ev
open Go.RowKit Fr Ns Ld Fl
set_option linter.unusedSimpArgs false
set_option linter.unusedVariables false

theorem desk_paths {X : LogFace} {u : World} {p : Value} {F : Nat → Prop} {f : Flows} {k : Nat} (hP : LPathsSaid X) (h : DeskAt X u p F f k) (hk : k < 999) :
    Calls Tryz.prog 13 #[p] u fun e w' => ∃ y, e = .returned y ∧ ListsAt (fun b => u.heap.size ≤ b) w' y f ∧ Below u.heap.size u w' := by
  obtain ⟨s, h1, h2, h3, rfl, h5, h6, h7⟩ := h
  exact hP p F s u h1 ⟨h2, by omega⟩
theorem DeskTo.before {X : LogFace} {w u w' : World} {p : Value} {F : Nat → Prop} {f : Flows} {k : Nat} (hb : Below w.heap.size w u) (h : DeskTo X p F f k u w') : DeskTo X p F f k w w' := by
  obtain ⟨F', h1, h2, h3⟩ := h
  have hz := hb.size
  refine ⟨F', h1, fun b hb' => ?_, ⟨(hb.mono (Nat.zero_le _)).trans h3.1, fun b q1 q2 => (h3.2 b (by omega) q2).trans (hb.block b q1)⟩⟩
  rcases h2 b hb' with q | q
  · exact .inl q
  · exact .inr (by omega)
theorem DeskTo.same {X : LogFace} {w w' : World} {p : Value} {F : Nat → Prop} {f : Flows} {k : Nat} (h : DeskAt X w p F f k) (hb : Below w.heap.size w w') : DeskTo X p F f (k + 1) w w' :=
  ⟨F, (h.later hb).more (by omega), fun _ q => .inl q, ButIn.of_below hb⟩

set_option maxRecDepth 100000 in
set_option maxHeartbeats 2000000 in
theorem rdo_add {Q : Nat → Prop} (ns : List Int) (v p : Value) (r k : Nat) (F : Nat → Prop) (f : Flows) (w : World) (hd : DeskAt logX w p F f k) (hk : k < 999) (hv : IntsAt Q w v ns) (hQ : ∀ b, Q b → ¬ F b) :
    Calls Tryz.prog 84 #[.agg #[p, .map (some r)], .string ⟨#[97, 100, 100]⟩, v] w fun e w' => e = .returned (.tuple #[.string ⟨#[111, 107]⟩, errV (addR f ns)]) ∧ DeskTo logX p F (if addR f ns = 0 then f ++ [ns] else f) (k + 1) w w' := by
  have hB : Below w.heap.size w (w.alloc (.cells #[p, .map (some r)] 87)) := (Below.refl _ _).alloc (Nat.le_refl _) _
  have HC : Hid (Calls Tryz.prog 10 #[p, v] (w.alloc (.cells #[p, .map (some r)] 87)) fun e w' => e = .returned (errV (addR f ns)) ∧ DeskTo logX p F (if addR f ns = 0 then f ++ [ns] else f) (k + 1) (w.alloc (.cells #[p, .map (some r)] 87)) w') := desk_add ladd_said (hd.later hB) hk (hv.later hB) hQ
  have HB : Hid (Below w.heap.size w (w.alloc (.cells #[p, .map (some r)] 87))) := hB
  obtain ⟨a, rfl⟩ := hd.ptr
  obtain ⟨va, vc, rfl, _⟩ := hv
  clear hB hd
  generalize (if addR f ns = 0 then f ++ [ns] else f) = f1 at *
  generalize errV (addR f ns) = ev at *
  go_enter Tryz.func84, Tryz.ntmps84
  go_wp2_with fail
  refine HC.out.mono ?_
  rintro e w2 ⟨rfl, hT⟩
  have HT : Hid (DeskTo logX (.pointer (some a)) F f1 (k + 1) w w2) := hT.before HB.out
  clear hT
  go_wp2
  go_ret2
  exact ⟨rfl, HT.out⟩

set_option maxRecDepth 100000 in
set_option maxHeartbeats 2000000 in
theorem rdo_drop {Q : Nat → Prop} (n : Int) (v p : Value) (r k : Nat) (F : Nat → Prop) (f : Flows) (w : World) (hd : DeskAt logX w p F f k) (hk : k < 999) (hv : IntsAt Q w v [n]) (hn : 0 ≤ n) :
    Calls Tryz.prog 84 #[.agg #[p, .map (some r)], .string ⟨#[100, 114, 111, 112]⟩, v] w fun e w' => e = .returned (.tuple #[.string ⟨#[111, 107]⟩, errV (dropR f [n])]) ∧ DeskTo logX p F (if dropR f [n] = 0 then lessF f n else f) (k + 1) w w' := by
  have hB : Below w.heap.size w (w.alloc (.cells #[p, .map (some r)] 87)) := (Below.refl _ _).alloc (Nat.le_refl _) _
  have HC : Hid (∀ u, Below w.heap.size w u → Calls Tryz.prog 9 #[p, .int .i64 n] u fun e w' => e = .returned (errV (dropR f [n])) ∧ DeskTo logX p F (if dropR f [n] = 0 then lessF f n else f) (k + 1) u w') := fun u hu => desk_drop ldrop_said (hd.later hu) hk hn
  have HB : Hid (Below w.heap.size w (w.alloc (.cells #[p, .map (some r)] 87))) := hB
  obtain ⟨a, rfl⟩ := hd.ptr
  obtain ⟨va, vc, rfl, ⟨hcap, _⟩, hc⟩ := hv
  obtain ⟨b, off, rfl, c0⟩ : ∃ b off, va = some ⟨b, off, none⟩ ∧ (w.alloc (.cells #[.pointer (some a), .map (some r)] 87)).cell? ⟨b, off, none⟩ = some (.int .i64 n) := by
    rcases hc with h | ⟨b, off, rfl, h, _⟩
    · simp at h
    · exact ⟨b, off, rfl, cell_later hB (h 0 (by simp))⟩
  have hcap1 : 1 ≤ vc := hcap
  have P1 : Hid (Below w.heap.size w (w.alloc (.cells #[.pointer (some a), .map (some r)] 87)).drew) := hB.drew
  have lb := World.block_lt_of_cell? _ _ c0
  clear hB hd hc hcap
  generalize (if dropR f [n] = 0 then lessF f n else f) = f1 at *
  generalize errV (dropR f [n]) = ev at *
  go_enter Tryz.func84, Tryz.ntmps84
  go_wp2_with fail
  go_region_law (first | (go_simp; refine (HC.out _ P1.out).mono ?_; rintro e w2 ⟨rfl, hT⟩; have HT : Hid (DeskTo logX (.pointer (some a)) F f1 (k + 1) w w2) := hT.before P1.out; clear hT))
  all_goals
    go_wp2
    go_ret2
    exact ⟨rfl, HT.out⟩

set_option maxRecDepth 100000 in
set_option maxHeartbeats 2000000 in
theorem rdesk_rates (p : Value) (r k : Nat) (F : Nat → Prop) (f : Flows) (w : World) (hd : DeskAt logX w p F f k) (hk : k < 999) :
    Calls Tryz.prog 112 #[.agg #[p, .map (some r)]] w fun e w' => ∃ y, e = .returned (.tuple #[y, .nilIface]) ∧ FracsAt (fun b => w.heap.size ≤ b) w' y (if f = [] then [] else ratesR f) ∧ Below w.heap.size w w' := by
  have hB : Below w.heap.size w (w.alloc (.cells #[p, .map (some r)] 87)) := (Below.refl _ _).alloc (Nat.le_refl _) _
  have HP : Hid (Calls Tryz.prog 13 #[p] (w.alloc (.cells #[p, .map (some r)] 87)) fun e w' => ∃ y, e = .returned y ∧ ListsAt (fun b => (w.alloc (.cells #[p, .map (some r)] 87)).heap.size ≤ b) w' y f ∧ Below (w.alloc (.cells #[p, .map (some r)] 87)).heap.size (w.alloc (.cells #[p, .map (some r)] 87)) w') := desk_paths lpaths_said (hd.later hB) hk
  have HR : Hid (∀ u, Below w.heap.size w u → Calls Tryz.prog 14 #[p] u fun e w' => ∃ y, e = .returned (.tuple #[y, errV (ratesLE f)]) ∧ FracsAt (fun b => u.heap.size ≤ b) w' y (okL (ratesLE f) (ratesR f)) ∧ Below u.heap.size u w') := fun u hu => desk_rates lrates_said (hd.later hu) hk
  have HB : Hid (Below w.heap.size w (w.alloc (.cells #[p, .map (some r)] 87))) := hB
  obtain ⟨a, rfl⟩ := hd.ptr
  have R0 : RowAt (w.alloc (.cells #[.pointer (some a), .map (some r)] 87)) w.heap.size 87 [.pointer (some a), .map (some r)] := row_made w _ _ _ _ rfl rfl
  have HR0 : Hid (RowAt (w.alloc (.cells #[.pointer (some a), .map (some r)] 87)) w.heap.size 87 [.pointer (some a), .map (some r)]) := R0
  clear hB hd R0
  by_cases hf : f = []
  · rw [if_pos hf]
    subst hf
    clear HR
    go_enter Tryz.func112, Tryz.ntmps112
    go_wp2_with fail
    refine HP.out.mono ?_
    rintro e w1 ⟨y, rfl, ⟨ya, yc, rfl, _⟩, hb1⟩
    have HB1 : Hid (Below w.heap.size w w1) := Bel.call HB.out (by simp) hb1
    clear hb1
    go_wp2
    go_ret2
    exact ⟨_, rfl, ⟨none, 0, rfl, ⟨Nat.le_refl _, by simp⟩, .inl rfl⟩, HB1.out⟩
  · rw [if_neg hf]
    have hl : f.length ≠ 0 := fun e => hf (List.eq_nil_of_length_eq_zero e)
    have hE : ratesLE f = 0 := by unfold ratesLE; rw [if_neg hl]
    rw [hE, errV_0, okL_0] at HR
    generalize ratesR f = R at *
    have hl1 : ¬ ((f.length : Int) = 0) := by omega
    have hl2 : ((f.length : Int) == 0) = false := by simpa using hl1
    clear hE hf
    go_enter Tryz.func112, Tryz.ntmps112
    go_wp2_with fail
    refine HP.out.mono ?_
    rintro e w1 ⟨y, rfl, ⟨ya, yc, rfl, _⟩, hb1⟩
    have HB1 : Hid (Below w.heap.size w w1) := Bel.call HB.out (by simp) hb1
    have R1 : RowAt w1 w.heap.size 87 [.pointer (some a), .map (some r)] := HR0.out.later hb1 (by simp)
    have d0 := R1.cell (i := 0) rfl
    have l0 := R1.lt
    clear hb1 R1
    go_wp2_with fail
    refine (HR.out _ HB1.out).mono ?_
    rintro e w2 ⟨y2, rfl, hy, hb2⟩
    have HY : Hid (FracsAt (fun b => w.heap.size ≤ b) w2 y2 R) := FracsAt.keep (fun _ _ _ => rfl) (fun b h => by have := HB1.out.size; omega) hy
    have HB2 : Hid (Below w.heap.size w w2) := Bel.call HB1.out (Nat.le_refl _) hb2
    obtain ⟨za, zc, rfl, _⟩ := hy
    clear hb2
    go_wp2
    go_ret2
    exact ⟨_, rfl, HY.out, HB2.out⟩

set_option maxRecDepth 100000 in
set_option maxHeartbeats 2000000 in
theorem rdesk_least (p : Value) (r k : Nat) (F : Nat → Prop) (f : Flows) (w : World) (ht : TabAt w) (hd : DeskAt logX w p F f k) (hk : k < 999) (hf : RightF f) :
    Calls Tryz.prog 114 #[.agg #[p, .map (some r)]] w fun e w' => e = .returned (.tuple #[.string ⟨(toldT (leastV (if f = [] then [] else ratesR f))).toArray⟩, errV (if f = [] then 5 else 0)]) ∧ Below w.heap.size w w' := by
  have hB : Below w.heap.size w (w.alloc (.cells #[p, .map (some r)] 87)) := (Below.refl _ _).alloc (Nat.le_refl _) _
  have HR : Hid (Calls Tryz.prog 112 #[.agg #[p, .map (some r)]] (w.alloc (.cells #[p, .map (some r)] 87)) fun e w' => ∃ y, e = .returned (.tuple #[y, .nilIface]) ∧ FracsAt (fun b => (w.alloc (.cells #[p, .map (some r)] 87)).heap.size ≤ b) w' y (if f = [] then [] else ratesR f) ∧ Below (w.alloc (.cells #[p, .map (some r)] 87)).heap.size (w.alloc (.cells #[p, .map (some r)] 87)) w') := rdesk_rates p r k F f _ (hd.later hB) hk
  have HB : Hid (Below w.heap.size w (w.alloc (.cells #[p, .map (some r)] 87))) := hB
  obtain ⟨l1, ⟨l2, l3⟩, l4, l5⟩ := rl_least hf
  have HE : Hid (leastE (if f = [] then [] else ratesR f) = if f = [] then 5 else 0) := l1
  have HFr : Hid (∀ u, Below w.heap.size w u → Calls Tryz.prog 116 #[.agg #[.int .i64 (leastV (if f = [] then [] else ratesR f)).1, .int .i64 (leastV (if f = [] then [] else ratesR f)).2]] u fun e w' => e = .returned (.string ⟨(toldT (leastV (if f = [] then [] else ratesR f))).toArray⟩) ∧ Below u.heap.size u w') := fun u hu => rfraction _ u (ht.later hu) l2 l3 l4 l5
  clear l1 l2 l3 l4 l5 hB hd ht
  generalize (if f = [] then (5 : Int) else 0) = E at *
  generalize (if f = [] then [] else ratesR f) = R at *
  have HL : Hid (∀ (Q : Nat → Prop) (y : Value) (u : World), FracsAt Q u y R → Calls Tryz.prog 142 #[y] u fun e w' => e = .returned (.tuple #[.agg #[.int .i64 (leastV R).1, .int .i64 (leastV R).2], errV E]) ∧ Below u.heap.size u w') := fun Q y u h => by
    have := least_said _ R y u h
    rwa [HE.out] at this
  clear HE
  generalize toldT (leastV R) = D at *
  generalize (leastV R).1 = x at *
  generalize (leastV R).2 = z at *
  generalize errV E = ev at *
  go_enter Tryz.func114, Tryz.ntmps114
  go_wp2_with fail
  refine HR.out.mono ?_
  rintro e w1 ⟨y, rfl, hy, hb1⟩
  have HB1 : Hid (Below w.heap.size w w1) := Bel.call HB.out (by simp) hb1
  have HL1 : Hid (Calls Tryz.prog 142 #[y] w1 fun e w' => e = .returned (.tuple #[.agg #[.int .i64 x, .int .i64 z], ev]) ∧ Below w1.heap.size w1 w') := HL.out _ y w1 hy
  obtain ⟨ya, yc, rfl, _⟩ := hy
  clear hb1
  go_wp2_with fail
  refine HL1.out.mono ?_
  rintro e w2 ⟨rfl, hb2⟩
  have HB2 : Hid (∀ o, Below w.heap.size w (w2.alloc o)) := fun o => (Bel.call HB1.out (Nat.le_refl _) hb2).alloc (by have := HB1.out.size; have := hb2.size; omega) _
  have zz : w.heap.size ≤ w2.heap.size := by have := HB1.out.size; have := hb2.size; omega
  clear hb2
  go_wp2_with fail
  refine (HFr.out _ (HB2.out _)).mono ?_
  rintro e w3 ⟨rfl, hb3⟩
  have HB3 : Hid (Below w.heap.size w w3) := Bel.call (HB2.out _) (Nat.le_refl _) hb3
  clear hb3
  go_wp2
  exact bodyPost_ret (v := .tuple #[.string ⟨D.toArray⟩, ev]) (by simp [results, Tryz.results114, go_sem]) rfl ⟨rfl, HB3.out⟩
end Ev
end Go.Proofs.YtpnmmmlckdkcdakGreatDoor

/- Package run's do at 'rates', 'least', 'index' and 'split'. -/
namespace Go.Proofs.YtpnmmmlckdkcdakGreatDoor
namespace Ev
open Go.RowKit Fr Ns Ld Fl
set_option linter.unusedSimpArgs false
set_option linter.unusedVariables false

theorem rl_tail {Q : Nat → Prop} {w : World} {b off n c : Nat} {l : List Int} (h : IntsAt Q w (.slice (some ⟨b, off, none⟩) n c) l) (h1 : 1 ≤ l.length) : IntsAt (fun _ => True) w (.slice (some ⟨b, off + 1, none⟩) (n - 1) (c - 1)) l.tail := by
  obtain ⟨a, cap, e, hm, hc⟩ := h
  simp only [Value.slice.injEq] at e
  obtain ⟨rfl, rfl, rfl⟩ := e
  rcases hc with h | ⟨b', off', e, hc, _⟩
  · rw [h] at h1; simp at h1
  · simp only [Option.some.injEq, Addr.mk.injEq, and_true] at e
    obtain ⟨rfl, rfl⟩ := e
    refine ⟨_, _, by rw [List.length_tail], ⟨by rw [List.length_tail]; omega, by rw [List.length_tail]; omega⟩, .inr ⟨b, off + 1, rfl, fun i hi => ?_, trivial⟩⟩
    rw [List.length_tail] at hi
    have := hc (i + 1) (by omega)
    rw [show off + 1 + i = off + (i + 1) by omega, this]
    cases l with
    | nil => simp at h1
    | cons x r => simp
theorem rl_nil {f : Flows} (h : RightF f) : (if (if f = [] then ([] : List (Int × Int)) else ratesR f) = [] then ([45] : Txt) else joinT ((if f = [] then [] else ratesR f).map toldT)) = if f = [] then [45] else joinT ((ratesR f).map toldT) := by
  by_cases hf : f = []
  · simp [hf]
  · have hl := (rates_R h hf).1
    have hne : ratesR f ≠ [] := fun e => by rw [e] at hl; exact hf (List.eq_nil_of_length_eq_zero hl.symm)
    simp [hf, hne]

set_option maxRecDepth 100000 in
set_option maxHeartbeats 2000000 in
theorem rdo_rates (p : Value) (va : Option Addr) (vl vc : Nat) (r k : Nat) (F : Nat → Prop) (f : Flows) (w : World) (ht : TabAt w) (hd : DeskAt logX w p F f k) (hk : k < 999) (hf : RightF f) :
    Calls Tryz.prog 84 #[.agg #[p, .map (some r)], .string ⟨#[114, 97, 116, 101, 115]⟩, .slice va vl vc] w fun e w' => e = .returned (.tuple #[.string ⟨(if f = [] then [45] else joinT ((ratesR f).map toldT)).toArray⟩, .nilIface]) ∧ Below w.heap.size w w' := by
  have hB : Below w.heap.size w (w.alloc (.cells #[p, .map (some r)] 87)) := (Below.refl _ _).alloc (Nat.le_refl _) _
  have HR : Hid (Calls Tryz.prog 112 #[.agg #[p, .map (some r)]] (w.alloc (.cells #[p, .map (some r)] 87)) fun e w' => ∃ y, e = .returned (.tuple #[y, .nilIface]) ∧ FracsAt (fun b => (w.alloc (.cells #[p, .map (some r)] 87)).heap.size ≤ b) w' y (if f = [] then [] else ratesR f) ∧ Below (w.alloc (.cells #[p, .map (some r)] 87)).heap.size (w.alloc (.cells #[p, .map (some r)] 87)) w') := rdesk_rates p r k F f _ (hd.later hB) hk
  have HB : Hid (Below w.heap.size w (w.alloc (.cells #[p, .map (some r)] 87))) := hB
  obtain ⟨h6, hn⟩ := rl_right hf
  have HFr : Hid (∀ (Q : Nat → Prop) (y : Value) (u : World), Below w.heap.size w u → FracsAt Q u y (if f = [] then [] else ratesR f) → Calls Tryz.prog 113 #[y] u fun e w' => e = .returned (.string ⟨(if f = [] then [45] else joinT ((ratesR f).map toldT)).toArray⟩) ∧ Below u.heap.size u w') := fun Q y u hu hy => by
    have := rfractions Q _ y u (ht.later hu) hy (by omega) hn
    rwa [rl_nil hf] at this
  clear hB hd ht h6 hn
  generalize (if f = [] then [45] else joinT ((ratesR f).map toldT)) = D at *
  generalize (if f = [] then [] else ratesR f) = R at *
  go_enter Tryz.func84, Tryz.ntmps84
  go_wp2_with fail
  refine HR.out.mono ?_
  rintro e w1 ⟨y, rfl, hy, hb1⟩
  have HB1 : Hid (Below w.heap.size w w1) := Bel.call HB.out (by simp) hb1
  have HF1 : Hid (Calls Tryz.prog 113 #[y] w1 fun e w' => e = .returned (.string ⟨D.toArray⟩) ∧ Below w1.heap.size w1 w') := HFr.out _ y w1 HB1.out hy
  obtain ⟨ya, yc, rfl, _⟩ := hy
  clear hb1
  go_wp2_with fail
  refine HF1.out.mono ?_
  rintro e w2 ⟨rfl, hb2⟩
  have HB2 : Hid (Below w.heap.size w w2) := Bel.call HB1.out (Nat.le_refl _) hb2
  clear hb2
  go_wp2
  exact bodyPost_ret (v := .tuple #[.string ⟨D.toArray⟩, .nilIface]) (by simp [results, Tryz.results84, go_sem]) rfl ⟨rfl, HB2.out⟩

set_option maxRecDepth 100000 in
set_option maxHeartbeats 2000000 in
theorem rdo_least (p : Value) (va : Option Addr) (vl vc : Nat) (r k : Nat) (F : Nat → Prop) (f : Flows) (w : World) (ht : TabAt w) (hd : DeskAt logX w p F f k) (hk : k < 999) (hf : RightF f) :
    Calls Tryz.prog 84 #[.agg #[p, .map (some r)], .string ⟨#[108, 101, 97, 115, 116]⟩, .slice va vl vc] w fun e w' => e = .returned (.tuple #[.string ⟨(toldT (leastV (if f = [] then [] else ratesR f))).toArray⟩, errV (if f = [] then 5 else 0)]) ∧ Below w.heap.size w w' := by
  have hB : Below w.heap.size w (w.alloc (.cells #[p, .map (some r)] 87)) := (Below.refl _ _).alloc (Nat.le_refl _) _
  have HR : Hid (Calls Tryz.prog 114 #[.agg #[p, .map (some r)]] (w.alloc (.cells #[p, .map (some r)] 87)) fun e w' => e = .returned (.tuple #[.string ⟨(toldT (leastV (if f = [] then [] else ratesR f))).toArray⟩, errV (if f = [] then 5 else 0)]) ∧ Below (w.alloc (.cells #[p, .map (some r)] 87)).heap.size (w.alloc (.cells #[p, .map (some r)] 87)) w') := rdesk_least p r k F f _ (ht.later hB) (hd.later hB) hk hf
  have HB : Hid (Below w.heap.size w (w.alloc (.cells #[p, .map (some r)] 87))) := hB
  clear hB hd ht
  generalize toldT (leastV (if f = [] then [] else ratesR f)) = D at *
  generalize errV (if f = [] then 5 else 0) = ev at *
  go_enter Tryz.func84, Tryz.ntmps84
  go_wp2_with fail
  refine HR.out.mono ?_
  rintro e w1 ⟨rfl, hb1⟩
  have HB1 : Hid (Below w.heap.size w w1) := Bel.call HB.out (by simp) hb1
  clear hb1
  go_wp2
  exact bodyPost_ret (v := .tuple #[.string ⟨D.toArray⟩, ev]) (by simp [results, Tryz.results84, go_sem]) rfl ⟨rfl, HB1.out⟩

set_option maxRecDepth 100000 in
set_option maxHeartbeats 2000000 in
theorem rdo_index {Q : Nat → Prop} (ns : List Int) (v p : Value) (r : Nat) (w : World) (ht : TabAt w) (hv : IntsAt Q w v ns) :
    Calls Tryz.prog 84 #[.agg #[p, .map (some r)], .string ⟨#[105, 110, 100, 101, 120]⟩, v] w fun e w' => e = .returned (.tuple #[.string ⟨(toldT (okF (idxE ns) (idx ns))).toArray⟩, errV (idxE ns)]) ∧ Below w.heap.size w w' := by
  have hB : Below w.heap.size w (w.alloc (.cells #[p, .map (some r)] 87)) := (Below.refl _ _).alloc (Nat.le_refl _) _
  have HI : Hid (Calls Tryz.prog 115 #[v] (w.alloc (.cells #[p, .map (some r)] 87)) fun e w' => e = .returned (.tuple #[.agg #[.int .i64 (okF (idxE ns) (idx ns)).1, .int .i64 (okF (idxE ns) (idx ns)).2], errV (idxE ns)]) ∧ Below (w.alloc (.cells #[p, .map (some r)] 87)).heap.size (w.alloc (.cells #[p, .map (some r)] 87)) w') := eindex_said Q ns v _ (hv.later hB)
  have HB : Hid (Below w.heap.size w (w.alloc (.cells #[p, .map (some r)] 87))) := hB
  obtain ⟨l2, l3, l4, l5⟩ := rl_okF ns
  have HFr : Hid (∀ u, Below w.heap.size w u → Calls Tryz.prog 116 #[.agg #[.int .i64 (okF (idxE ns) (idx ns)).1, .int .i64 (okF (idxE ns) (idx ns)).2]] u fun e w' => e = .returned (.string ⟨(toldT (okF (idxE ns) (idx ns))).toArray⟩) ∧ Below u.heap.size u w') := fun u hu => rfraction _ u (ht.later hu) l2 l3 l4 l5
  obtain ⟨va, vc, rfl, _⟩ := hv
  clear l2 l3 l4 l5 hB ht
  generalize toldT (okF (idxE ns) (idx ns)) = D at *
  generalize (okF (idxE ns) (idx ns)).1 = x at *
  generalize (okF (idxE ns) (idx ns)).2 = z at *
  generalize errV (idxE ns) = ev at *
  go_enter Tryz.func84, Tryz.ntmps84
  go_wp2_with fail
  refine HI.out.mono ?_
  rintro e w2 ⟨rfl, hb2⟩
  have hz : w.heap.size ≤ w2.heap.size := by have := hb2.size; simp at this; omega
  have HB2 : Hid (∀ o, Below w.heap.size w (w2.alloc o)) := fun o => (Bel.call HB.out (by simp) hb2).alloc hz _
  clear hb2
  go_wp2_with fail
  refine (HFr.out _ (HB2.out _)).mono ?_
  rintro e w3 ⟨rfl, hb3⟩
  have HB3 : Hid (Below w.heap.size w w3) := Bel.call (HB2.out _) (Nat.le_refl _) hb3
  clear hb3
  go_wp2
  exact bodyPost_ret (v := .tuple #[.string ⟨D.toArray⟩, ev]) (by simp [results, Tryz.results84, go_sem]) rfl ⟨rfl, HB3.out⟩

set_option maxRecDepth 100000 in
set_option maxHeartbeats 2000000 in
theorem rdo_split {Q : Nat → Prop} (m : Int) (l : List Int) (v p : Value) (r : Nat) (w : World) (ht : TabAt w) (hv : IntsAt Q w v (m :: l)) (hl : 1 ≤ l.length) (m0 : 0 ≤ m) (m1 : m ≤ 9999) :
    Calls Tryz.prog 84 #[.agg #[p, .map (some r)], .string ⟨#[115, 112, 108, 105, 116]⟩, v] w fun e w' => e = .returned (.tuple #[.string ⟨(joinT ((okL (idxE l) (splitL m l)).map digT)).toArray⟩, errV (idxE l)]) ∧ Below w.heap.size w w' := by
  have hB : Below w.heap.size w (w.alloc (.cells #[p, .map (some r)] 87)) := (Below.refl _ _).alloc (Nat.le_refl _) _
  obtain ⟨va, vc, rfl, ⟨hcap, hmx⟩, hc⟩ := id hv
  obtain ⟨b, off, rfl, c0⟩ : ∃ b off, va = some ⟨b, off, none⟩ ∧ (w.alloc (.cells #[p, .map (some r)] 87)).cell? ⟨b, off, none⟩ = some (.int .i64 m) := by
    rcases hc with h | ⟨b, off, rfl, h, _⟩
    · simp at h
    · exact ⟨b, off, rfl, cell_later hB (h 0 (by simp))⟩
  have hT := rl_tail hv (by simp)
  have HS : Hid (∀ u, Below w.heap.size w u → Calls Tryz.prog 117 #[.int .i64 m, .slice (some ⟨b, off + 1, none⟩) l.length (vc - 1)] u fun e w' => ∃ y, e = .returned (.tuple #[y, errV (idxE l)]) ∧
    IntsAt (fun b => u.heap.size ≤ b) w' y (okL (idxE l) (splitL m l)) ∧ Below u.heap.size u w') := fun u hu => by
    have := gsplit_said _ m l _ u (hT.later hu)
    rw [rl_splitE l m0 m1, rl_splitS l m0] at this
    simpa using this
  obtain ⟨h6, hn⟩ := rl_okL (l := l) m0 m1
  have HW : Hid (∀ (Q : Nat → Prop) (y : Value) (u : World), Below w.heap.size w u → IntsAt Q u y (okL (idxE l) (splitL m l)) → Calls Tryz.prog 118 #[y, .func (.func 119) #[] #[]] u fun e w' => e = .returned (.string ⟨(joinT ((okL (idxE l) (splitL m l)).map digT)).toArray⟩) ∧ Below u.heap.size u w') := fun Q y u hu hy => rwritten_int Q _ y u (ht.later hu) hy (by omega) hn
  have P1 : Hid (Below w.heap.size w (w.alloc (.cells #[p, .map (some r)] 87)).drew) := hB.drew
  have hcap1 : l.length + 1 ≤ vc := hcap
  have hne : ¬ vc = 1 := by omega
  have hle : 1 ≤ (l.length : Int) + 1 := by omega
  have lb := World.block_lt_of_cell? _ _ c0
  clear hB hv hc hcap hT hn ht
  generalize joinT ((okL (idxE l) (splitL m l)).map digT) = D at *
  generalize okL (idxE l) (splitL m l) = R at *
  generalize errV (idxE l) = ev at *
  go_enter Tryz.func84, Tryz.ntmps84
  go_wp2_with fail
  go_region_law (first | (go_simp; refine (HS.out _ P1.out).mono ?_; rintro e w2 ⟨y, rfl, hy, hb2⟩; have HB2 : Hid (Below w.heap.size w w2) := Bel.call P1.out (by simp) hb2; have HW2 : Hid (Calls Tryz.prog 118 #[y, .func (.func 119) #[] #[]] w2 fun e w' => e = .returned (.string ⟨D.toArray⟩) ∧ Below w2.heap.size w2 w') := HW.out _ y w2 HB2.out hy; obtain ⟨ya, yc, rfl, _⟩ := hy; clear hb2))
  all_goals
    go_wp2_with fail
    refine HW2.out.mono ?_
    rintro e w3 ⟨rfl, hb3⟩
    have HB3 : Hid (Below w.heap.size w w3) := Bel.call HB2.out (Nat.le_refl _) hb3
    clear hb3
    go_wp2
    exact bodyPost_ret (v := .tuple #[.string ⟨D.toArray⟩, ev]) (by simp [results, Tryz.results84, go_sem]) rfl ⟨rfl, HB3.out⟩
end Ev
end Go.Proofs.YtpnmmmlckdkcdakGreatDoor

/- Package run's answer: a line's answer, and what becomes of the flows. -/
namespace Go.Proofs.YtpnmmmlckdkcdakGreatDoor
namespace Ev
open Go.RowKit Fr Ns Ld Fl
set_option linter.unusedSimpArgs false
set_option linter.unusedVariables false

/-- how many records a line makes, at most -/
def recsT (s : Txt) : Nat := if fitsT s = true ∧ (wordT s = tAdd ∨ wordT s = tDrop) then 1 else 0
theorem rl_addR (f : Flows) (l : List Int) : 0 ≤ addR f l ∧ addR f l ≤ 8 := by
  unfold addR
  split
  · omega
  · unfold pathE
    split
    · omega
    · have := pathFrom_bd 4 [] l; omega
theorem rl_dropR (f : Flows) (l : List Int) : 0 ≤ dropR f l ∧ dropR f l ≤ 8 := by
  unfold dropR
  split <;> omega
theorem DeskTo.more {X : LogFace} {w w' : World} {p : Value} {F : Nat → Prop} {f : Flows} {k j : Nat} (h : DeskTo X p F f k w w') (hj : k ≤ j) : DeskTo X p F f j w w' := by
  obtain ⟨F', h1, h2, h3⟩ := h
  exact ⟨F', h1.more hj, h2, h3⟩
theorem DeskTo.stay {X : LogFace} {w w' : World} {p : Value} {F : Nat → Prop} {f : Flows} {k : Nat} (j : Nat) (h : DeskAt X w p F f k) (hb : Below w.heap.size w w') : DeskTo X p F f (k + j) w w' :=
  ⟨F, (h.later hb).more (by omega), fun _ q => .inl q, ButIn.of_below hb⟩
theorem DeskTo.after {X : LogFace} {w u w' : World} {p : Value} {F : Nat → Prop} {f : Flows} {k : Nat} (h : DeskTo X p F f k w u) (hb : Below u.heap.size u w') : DeskTo X p F f k w w' := by
  obtain ⟨F', h1, h2, h3⟩ := h
  have hz := h3.1.size
  exact ⟨F', h1.later hb, h2, ⟨h3.1.trans (hb.mono (Nat.zero_le _)), fun b q1 q2 => (hb.block b (by omega)).trans (h3.2 b q1 q2)⟩⟩
theorem DeskTo.cell {X : LogFace} {w u : World} {p : Value} {F : Nat → Prop} {f : Flows} {k b o : Nat} {v : Value} (h : DeskTo X p F f k w u) (hb : ¬ F b) (hc : w.cell? ⟨b, o, none⟩ = some v) : u.cell? ⟨b, o, none⟩ = some v := by
  obtain ⟨F', h1, h2, h3⟩ := h
  rw [World.cell?_of_block (a := ⟨b, o, none⟩) (h3.2 b (World.block_lt_of_cell? _ _ hc) hb)]
  exact hc
/-- what do tells -/
def DoOut (t : Txt) (e : Ending) : Prop := ∃ x E, e = .returned (.tuple #[.string ⟨x.toArray⟩, errV E]) ∧ 0 ≤ E ∧ E ≤ 8 ∧ t = if E = 0 then x else nameT E

theorem rdo_line {Q : Nat → Prop} (s : Txt) (v p : Value) (r k : Nat) (F : Nat → Prop) (f : Flows) (w : World) (ht : TabAt w) (hd : DeskAt logX w p F f k) (hk : k < 999) (hfit : fitsT s = true) (hv : IntsAt Q w v (numsT s)) (hQ : ∀ b, Q b → ¬ F b) :
    Calls Tryz.prog 84 #[.agg #[p, .map (some r)], .string ⟨(wordT s).toArray⟩, v] w fun e w' => DoOut (lineT f s) e ∧ DeskTo logX p F (lineF f s) (k + recsT s) w w' := by
  have hf : RightF f := hd.right
  have hrd : readT s = true := by
    unfold fitsT at hfit
    simp only [Bool.and_eq_true] at hfit
    exact hfit.1
  have hnb := rl_nums hrd
  have hfit2 := hfit
  unfold fitsT at hfit2
  simp only [Bool.and_eq_true] at hfit2
  have hc := hfit2.2
  clear hfit2
  by_cases h1 : wordT s = tAdd
  · rw [h1]
    have e1 : lineT f s = if addR f (numsT s) = 0 then tOk else nameT (addR f (numsT s)) := by simp [lineT, hfit, h1]
    have e2 : lineF f s = if addR f (numsT s) = 0 then f ++ [numsT s] else f := by simp [lineF, hfit, h1]
    have e3 : recsT s = 1 := by simp [recsT, hfit, h1]
    rw [e2, e3]
    refine (rdo_add (numsT s) v p r k F f w hd hk hv hQ).mono ?_
    rintro e w' ⟨rfl, hT⟩
    exact ⟨⟨tOk, _, rfl, (rl_addR _ _).1, (rl_addR _ _).2, e1⟩, hT⟩
  · by_cases h2 : wordT s = tDrop
    · rw [h2]
      have hn1 : (numsT s).length = 1 := by rw [h2] at hc; simpa [tAdd, tDrop, tIndex] using hc
      obtain ⟨n, hn⟩ : ∃ n, numsT s = [n] := List.length_eq_one_iff.1 hn1
      have e1 : lineT f s = if dropR f [n] = 0 then tOk else nameT (dropR f [n]) := by simp [lineT, hfit, h2, hn, tAdd, tDrop]
      have e2 : lineF f s = if dropR f [n] = 0 then lessF f n else f := by simp [lineF, hfit, h2, hn, tAdd, tDrop]
      have e3 : recsT s = 1 := by simp [recsT, hfit, h2]
      rw [e2, e3]
      rw [hn] at hv hnb
      refine (rdo_drop n v p r k F f w hd hk hv (hnb n (by simp)).1).mono ?_
      rintro e w' ⟨rfl, hT⟩
      exact ⟨⟨tOk, _, rfl, (rl_dropR _ _).1, (rl_dropR _ _).2, e1⟩, hT⟩
    · have e2 : lineF f s = f := by simp [lineF, h1, h2]
      rw [e2]
      obtain ⟨va, vc, hva, _⟩ := id hv
      by_cases h3 : wordT s = tRates
      · rw [h3]
        have e1 : lineT f s = if f = [] then [45] else joinT ((ratesR f).map toldT) := by simp [lineT, hfit, h3, tAdd, tDrop, tRates]
        subst hva
        refine (rdo_rates p va _ vc r k F f w ht hd hk hf).mono ?_
        rintro e w' ⟨rfl, hb⟩
        exact ⟨⟨_, 0, by rw [errV_0], by decide, by decide, by rw [if_pos rfl, e1]⟩, DeskTo.stay _ hd hb⟩
      · by_cases h4 : wordT s = tLeast
        · rw [h4]
          have e1 : lineT f s = if f = [] then nameT 5 else toldT (leastV (ratesR f)) := by simp [lineT, hfit, h4, tAdd, tDrop, tRates, tLeast]
          subst hva
          refine (rdo_least p va _ vc r k F f w ht hd hk hf).mono ?_
          rintro e w' ⟨rfl, hb⟩
          refine ⟨⟨_, _, rfl, by split <;> decide, by split <;> decide, ?_⟩, DeskTo.stay _ hd hb⟩
          rw [e1]
          by_cases hf0 : f = []
          · simp [hf0]
          · simp [hf0]
        · by_cases h5 : wordT s = tIndex
          · rw [h5]
            have e1 : lineT f s = if idxE (numsT s) = 0 then toldT (idx (numsT s)) else nameT (idxE (numsT s)) := by simp [lineT, hfit, h5, tAdd, tDrop, tRates, tLeast, tIndex]
            refine (rdo_index (numsT s) v p r w ht hv).mono ?_
            rintro e w' ⟨rfl, hb⟩
            refine ⟨⟨_, _, rfl, (rl_idxE _).1, (rl_idxE _).2, ?_⟩, DeskTo.stay _ hd hb⟩
            rw [e1]
            by_cases h0 : idxE (numsT s) = 0
            · rw [if_pos h0, if_pos h0, h0, okF_0]
            · rw [if_neg h0, if_neg h0]
          · by_cases h6 : wordT s = tSplit
            · rw [h6]
              have hn2 : 2 ≤ (numsT s).length := by rw [h6] at hc; simpa [tAdd, tDrop, tIndex, tRates, tLeast, tSplit] using hc
              obtain ⟨m, l, hn⟩ : ∃ m l, numsT s = m :: l := by
                cases h : numsT s with
                | nil => rw [h] at hn2; simp at hn2
                | cons m l => exact ⟨m, l, rfl⟩
              have e1 : lineT f s = if idxE l = 0 then joinT ((splitL m l).map digT) else nameT (idxE l) := by simp [lineT, hfit, h6, hn, tAdd, tDrop, tRates, tLeast, tIndex, tSplit]
              rw [hn] at hv hnb hn2
              have hm := hnb m (by simp)
              refine (rdo_split m l v p r w ht hv (by simpa using hn2) hm.1 hm.2).mono ?_
              rintro e w' ⟨rfl, hb⟩
              refine ⟨⟨_, _, rfl, (rl_idxE _).1, (rl_idxE _).2, ?_⟩, DeskTo.stay _ hd hb⟩
              rw [e1]
              by_cases h0 : idxE l = 0
              · rw [if_pos h0, if_pos h0, h0, okL_0]
              · rw [if_neg h0, if_neg h0]
            · exfalso
              rw [if_neg (by simp [h1, h5]), if_neg h2, if_neg (by simp [h3, h4]), if_neg h6] at hc
              cases hc

set_option maxRecDepth 100000 in
set_option maxHeartbeats 2000000 in
theorem ranswer (s : Txt) (p : Value) (r k : Nat) (F : Nat → Prop) (f : Flows) (w : World) (hg : w.cell? ⟨0, 0, none⟩ = some handleV) (ht : TabAt w) (hm : MaxAt w) (hr : w.heap[r]? = some (.map wantsM 6)) (hd : DeskAt logX w p F f k) (hk : k < 999) (hl : s.length ≤ 3000) (hF : ¬ F 0) :
    Calls Tryz.prog 48 #[.agg #[p, .map (some r)], .string ⟨s.toArray⟩] w fun e w' => e = .returned (.string ⟨(lineT f s).toArray⟩) ∧ DeskTo logX p F (lineF f s) (k + recsT s) w w' := by
  have hB : Below w.heap.size w (w.alloc (.cells #[p, .map (some r)] 87)) := (Below.refl _ _).alloc (Nat.le_refl _) _
  have hrl : r < w.heap.size := (Array.getElem?_eq_some_iff.1 hr).1
  have HRd : Hid (Calls Tryz.prog 82 #[.agg #[p, .map (some r)], .string ⟨s.toArray⟩] (w.alloc (.cells #[p, .map (some r)] 87)) (ReadOut (w.alloc (.cells #[p, .map (some r)] 87)) s)) := rread s p r _ (hm.later hB) (by rw [hB.block r hrl]; exact hr) hl
  have HB : Hid (Below w.heap.size w (w.alloc (.cells #[p, .map (some r)] 87))) := hB
  have R0 : RowAt (w.alloc (.cells #[p, .map (some r)] 87)) w.heap.size 87 [p, .map (some r)] := row_made w _ _ _ _ rfl rfl
  have HR0 : Hid (RowAt (w.alloc (.cells #[p, .map (some r)] 87)) w.heap.size 87 [p, .map (some r)]) := R0
  have HG : Hid (∀ u, Below w.heap.size w u → u.cell? ⟨0, 0, none⟩ = some handleV) := fun u hu => cell_later hu hg
  have HDo : Hid (∀ (u : World) (v : Value), Below w.heap.size w u → fitsT s = true → IntsAt (fun b => w.heap.size ≤ b) u v (numsT s) → Calls Tryz.prog 84 #[.agg #[p, .map (some r)], .string ⟨(wordT s).toArray⟩, v] u fun e w' => DoOut (lineT f s) e ∧ DeskTo logX p F (lineF f s) (k + recsT s) u w') := fun u v hu hfit hv =>
    rdo_line s v p r k F f u (ht.later hu) (hd.later hu) hk hfit hv (fun b q1 q2 => by have := hd.lt b q2; omega)
  have HBad : Hid (fitsT s = false → lineT f s = tBad ∧ lineF f s = f) := fun h => ⟨by simp [lineT, h], by simp [lineF, h]⟩
  have HSt : Hid (∀ u, Below w.heap.size w u → DeskTo logX p F f (k + recsT s) w u) := fun u hu => DeskTo.stay _ hd hu
  obtain ⟨a, rfl⟩ := hd.ptr
  clear hB hd hg ht hm R0
  have HFt : Hid (fitsT s = true ∨ fitsT s = false) := by cases fitsT s; exact .inr rfl; exact .inl rfl
  generalize lineT f s = LX at *
  generalize lineF f s = FX at *
  go_enter Tryz.func48, Tryz.ntmps48
  go_wp2_with fail
  refine HRd.out.mono ?_
  rintro e w1 ⟨hb1, hro⟩
  have HB1 : Hid (Below w.heap.size w w1) := Bel.call HB.out (by simp) hb1
  have R1 : RowAt w1 w.heap.size 87 [.pointer (some a), .map (some r)] := HR0.out.later hb1 (by simp)
  have d0 := R1.cell (i := 0) rfl
  have d1 := R1.cell (i := 1) rfl
  have l0 := R1.lt
  clear hb1 R1
  rcases hro with ⟨hfit, y, rfl, hy⟩ | ⟨hno, rfl⟩
  · have hy2 : IntsAt (fun b => w.heap.size ≤ b) w1 y (numsT s) := IntsAt.keep (fun _ _ _ => rfl) (fun b h _ => by simp at h; omega) hy
    have HD1 := HDo.out w1 y HB1.out hfit hy2
    have HD2 : Hid (Calls Tryz.prog 84 #[.agg #[.pointer (some a), .map (some r)], .string ⟨(wordT s).toArray⟩, y] w1 fun e w' => DoOut LX e ∧ DeskTo logX (.pointer (some a)) F FX (k + recsT s) w1 w') := HD1
    obtain ⟨ya, yc, rfl, _⟩ := hy
    clear hy2 HD1 HDo HBad HSt HRd
    generalize wordT s = wd at *
    go_wp2_with fail
    refine HD2.out.mono ?_
    rintro e w2 ⟨⟨x, E, rfl, e0, e8, hx⟩, hT⟩
    have HT : Hid (DeskTo logX (.pointer (some a)) F FX (k + recsT s) w w2) := hT.before HB1.out
    have hg2 : w2.cell? ⟨0, 0, none⟩ = some handleV := hT.cell hF (HG.out w1 HB1.out)
    clear hT
    by_cases hE : E = 0
    · subst hE
      rw [if_pos rfl] at hx
      subst hx
      rw [errV_0]
      go_wp2
      go_ret
      exact ⟨rfl, HT.out⟩
    · rw [if_neg hE] at hx
      subst hx
      have HTo : Hid (Calls Tryz.prog 83 #[errV E] w2 fun e w' => e = .returned (.string ⟨(nameT E).toArray⟩) ∧ Below w2.heap.size w2 w') := told_other E w2 hg2 (by omega) e8
      rw [errV_ne hE] at HTo ⊢
      clear hg2
      go_wp2_with fail
      refine HTo.out.mono ?_
      rintro e w3 ⟨rfl, hb3⟩
      have HT3 : Hid (DeskTo logX (.pointer (some a)) F FX (k + recsT s) w w3) := HT.out.after hb3
      clear hb3
      go_wp2
      go_ret
      exact ⟨rfl, HT3.out⟩
  · obtain ⟨rfl, rfl⟩ := HBad.out hno
    have HTo : Hid (Calls Tryz.prog 83 #[lineV] w1 fun e w' => e = .returned (.string ⟨tBad.toArray⟩) ∧ Below w1.heap.size w1 w') := told_line w1 (HG.out w1 HB1.out)
    unfold lineV at HTo ⊢
    clear HDo HBad HRd
    go_wp2_with fail
    refine HTo.out.mono ?_
    rintro e w3 ⟨rfl, hb3⟩
    have HT3 : Hid (DeskTo logX (.pointer (some a)) F FX (k + recsT s) w w3) := HSt.out w3 (Bel.call HB1.out (Nat.le_refl _) hb3)
    clear hb3
    go_wp2
    go_ret
    exact ⟨rfl, HT3.out⟩
end Ev
end Go.Proofs.YtpnmmmlckdkcdakGreatDoor
