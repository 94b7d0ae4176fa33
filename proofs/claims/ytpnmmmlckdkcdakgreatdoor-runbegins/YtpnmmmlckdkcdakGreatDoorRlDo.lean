/- Package run's do at 'add' and 'drop', and its rates and least. -/
import Derived.Test.YtpnmmmlckdkcdakGreatDoorPlains
import Derived.Test.YtpnmmmlckdkcdakGreatDoorRlTextRlBldAll
import Derived.Test.YtpnmmmlckdkcdakGreatDoorLgLD
import Derived.Test.YtpnmmmlckdkcdakGreatDoorLgLP
import Derived.Test.YtpnmmmlckdkcdakGreatDoorRkAll
import Derived.Deep.DeepCutAuto
import Derived.Deep.RegionHeld3
namespace Go.Proofs.YtpnmmmlckdkcdakGreatDoor
namespace Ev
open Go.RowKit Fr Ns Ld Fl
set_option linter.unusedSimpArgs false
set_option linter.unusedVariables false

theorem desk_paths {X : LogFace} {u : World} {p : Value} {F : Nat → Prop} {f : Flows} {k : Nat} (hP : LPathsSaid X) (h : DeskAt X u p F f k) (hk : k < 999) :
    Calls Tryz.prog 13 #[p] u fun e w' => ∃ y, e = .returned y ∧ ListsAt (fun b => u.heap.size ≤ b) w' y f ∧ Below u.heap.size u w' := by
  obtain ⟨s, h1, h2, h3, rfl, h5, h6, h7⟩ := h
  exact hP p F s u h1 ⟨h2, by omega⟩
theorem DeskTo.before {X : LogFace} {w u w' : World} {p : Value} {F : Nat → Prop} {f : Flows} {k : Nat} (hb : Below w.heap.size w u) (h : DeskTo X p F f k u w') : DeskTo X p F f k w w' := by
  obtain ⟨F', h1, h2, h3⟩ := h
  have hz := hb.size
  refine ⟨F', h1, fun b hb' => ?_, ⟨(hb.mono (Nat.zero_le _)).trans h3.1, fun b q1 q2 => (h3.2 b (by omega) q2).trans (hb.block b q1)⟩⟩
  rcases h2 b hb' with q | q
  · exact .inl q
  · exact .inr (by omega)
theorem DeskTo.same {X : LogFace} {w w' : World} {p : Value} {F : Nat → Prop} {f : Flows} {k : Nat} (h : DeskAt X w p F f k) (hb : Below w.heap.size w w') : DeskTo X p F f (k + 1) w w' :=
  ⟨F, (h.later hb).more (by omega), fun _ q => .inl q, ButIn.of_below hb⟩

set_option maxRecDepth 100000 in
set_option maxHeartbeats 2000000 in
theorem rdo_add {Q : Nat → Prop} (ns : List Int) (v p : Value) (r k : Nat) (F : Nat → Prop) (f : Flows) (w : World) (hd : DeskAt logX w p F f k) (hk : k < 999) (hv : IntsAt Q w v ns) (hQ : ∀ b, Q b → ¬ F b) :
    Calls Tryz.prog 84 #[.agg #[p, .map (some r)], .string ⟨#[97, 100, 100]⟩, v] w fun e w' => e = .returned (.tuple #[.string ⟨#[111, 107]⟩, errV (addR f ns)]) ∧ DeskTo logX p F (if addR f ns = 0 then f ++ [ns] else f) (k + 1) w w' := by
  have hB : Below w.heap.size w (w.alloc (.cells #[p, .map (some r)] 87)) := (Below.refl _ _).alloc (Nat.le_refl _) _
  have HC : Hid (Calls Tryz.prog 10 #[p, v] (w.alloc (.cells #[p, .map (some r)] 87)) fun e w' => e = .returned (errV (addR f ns)) ∧ DeskTo logX p F (if addR f ns = 0 then f ++ [ns] else f) (k + 1) (w.alloc (.cells #[p, .map (some r)] 87)) w') := desk_add ladd_said (hd.later hB) hk (hv.later hB) hQ
  have HB : Hid (Below w.heap.size w (w.alloc (.cells #[p, .map (some r)] 87))) := hB
  obtain ⟨a, rfl⟩ := hd.ptr
  obtain ⟨va, vc, rfl, _⟩ := hv
  clear hB hd
  generalize (if addR f ns = 0 then f ++ [ns] else f) = f1 at *
  generalize errV (addR f ns) = ev at *
  go_enter Tryz.func84, Tryz.ntmps84
  go_wp2_with fail
  refine HC.out.mono ?_
  rintro e w2 ⟨rfl, hT⟩
  have HT : Hid (DeskTo logX (.pointer (some a)) F f1 (k + 1) w w2) := hT.before HB.out
  clear hT
  go_wp2
  go_ret2
  exact ⟨rfl, HT.out⟩

set_option maxRecDepth 100000 in
set_option maxHeartbeats 2000000 in
theorem rdo_drop {Q : Nat → Prop} (n : Int) (v p : Value) (r k : Nat) (F : Nat → Prop) (f : Flows) (w : World) (hd : DeskAt logX w p F f k) (hk : k < 999) (hv : IntsAt Q w v [n]) (hn : 0 ≤ n) :
    Calls Tryz.prog 84 #[.agg #[p, .map (some r)], .string ⟨#[100, 114, 111, 112]⟩, v] w fun e w' => e = .returned (.tuple #[.string ⟨#[111, 107]⟩, errV (dropR f [n])]) ∧ DeskTo logX p F (if dropR f [n] = 0 then lessF f n else f) (k + 1) w w' := by
  have hB : Below w.heap.size w (w.alloc (.cells #[p, .map (some r)] 87)) := (Below.refl _ _).alloc (Nat.le_refl _) _
  have HC : Hid (∀ u, Below w.heap.size w u → Calls Tryz.prog 9 #[p, .int .i64 n] u fun e w' => e = .returned (errV (dropR f [n])) ∧ DeskTo logX p F (if dropR f [n] = 0 then lessF f n else f) (k + 1) u w') := fun u hu => desk_drop ldrop_said (hd.later hu) hk hn
  have HB : Hid (Below w.heap.size w (w.alloc (.cells #[p, .map (some r)] 87))) := hB
  obtain ⟨a, rfl⟩ := hd.ptr
  obtain ⟨va, vc, rfl, ⟨hcap, _⟩, hc⟩ := hv
  obtain ⟨b, off, rfl, c0⟩ : ∃ b off, va = some ⟨b, off, none⟩ ∧ (w.alloc (.cells #[.pointer (some a), .map (some r)] 87)).cell? ⟨b, off, none⟩ = some (.int .i64 n) := by
    rcases hc with h | ⟨b, off, rfl, h, _⟩
    · simp at h
    · exact ⟨b, off, rfl, cell_later hB (h 0 (by simp))⟩
  have hcap1 : 1 ≤ vc := hcap
  have P1 : Hid (Below w.heap.size w (w.alloc (.cells #[.pointer (some a), .map (some r)] 87)).drew) := hB.drew
  have lb := World.block_lt_of_cell? _ _ c0
  clear hB hd hc hcap
  generalize (if dropR f [n] = 0 then lessF f n else f) = f1 at *
  generalize errV (dropR f [n]) = ev at *
  go_enter Tryz.func84, Tryz.ntmps84
  go_wp2_with fail
  go_region_law (first | (go_simp; refine (HC.out _ P1.out).mono ?_; rintro e w2 ⟨rfl, hT⟩; have HT : Hid (DeskTo logX (.pointer (some a)) F f1 (k + 1) w w2) := hT.before P1.out; clear hT))
  all_goals
    go_wp2
    go_ret2
    exact ⟨rfl, HT.out⟩

set_option maxRecDepth 100000 in
set_option maxHeartbeats 2000000 in
theorem rdesk_rates (p : Value) (r k : Nat) (F : Nat → Prop) (f : Flows) (w : World) (hd : DeskAt logX w p F f k) (hk : k < 999) :
    Calls Tryz.prog 112 #[.agg #[p, .map (some r)]] w fun e w' => ∃ y, e = .returned (.tuple #[y, .nilIface]) ∧ FracsAt (fun b => w.heap.size ≤ b) w' y (if f = [] then [] else ratesR f) ∧ Below w.heap.size w w' := by
  have hB : Below w.heap.size w (w.alloc (.cells #[p, .map (some r)] 87)) := (Below.refl _ _).alloc (Nat.le_refl _) _
  have HP : Hid (Calls Tryz.prog 13 #[p] (w.alloc (.cells #[p, .map (some r)] 87)) fun e w' => ∃ y, e = .returned y ∧ ListsAt (fun b => (w.alloc (.cells #[p, .map (some r)] 87)).heap.size ≤ b) w' y f ∧ Below (w.alloc (.cells #[p, .map (some r)] 87)).heap.size (w.alloc (.cells #[p, .map (some r)] 87)) w') := desk_paths lpaths_said (hd.later hB) hk
  have HR : Hid (∀ u, Below w.heap.size w u → Calls Tryz.prog 14 #[p] u fun e w' => ∃ y, e = .returned (.tuple #[y, errV (ratesLE f)]) ∧ FracsAt (fun b => u.heap.size ≤ b) w' y (okL (ratesLE f) (ratesR f)) ∧ Below u.heap.size u w') := fun u hu => desk_rates lrates_said (hd.later hu) hk
  have HB : Hid (Below w.heap.size w (w.alloc (.cells #[p, .map (some r)] 87))) := hB
  obtain ⟨a, rfl⟩ := hd.ptr
  have R0 : RowAt (w.alloc (.cells #[.pointer (some a), .map (some r)] 87)) w.heap.size 87 [.pointer (some a), .map (some r)] := row_made w _ _ _ _ rfl rfl
  have HR0 : Hid (RowAt (w.alloc (.cells #[.pointer (some a), .map (some r)] 87)) w.heap.size 87 [.pointer (some a), .map (some r)]) := R0
  clear hB hd R0
  by_cases hf : f = []
  · rw [if_pos hf]
    subst hf
    clear HR
    go_enter Tryz.func112, Tryz.ntmps112
    go_wp2_with fail
    refine HP.out.mono ?_
    rintro e w1 ⟨y, rfl, ⟨ya, yc, rfl, _⟩, hb1⟩
    have HB1 : Hid (Below w.heap.size w w1) := Bel.call HB.out (by simp) hb1
    clear hb1
    go_wp2
    go_ret2
    exact ⟨_, rfl, ⟨none, 0, rfl, ⟨Nat.le_refl _, by simp⟩, .inl rfl⟩, HB1.out⟩
  · rw [if_neg hf]
    have hl : f.length ≠ 0 := fun e => hf (List.eq_nil_of_length_eq_zero e)
    have hE : ratesLE f = 0 := by unfold ratesLE; rw [if_neg hl]
    rw [hE, errV_0, okL_0] at HR
    generalize ratesR f = R at *
    have hl1 : ¬ ((f.length : Int) = 0) := by omega
    have hl2 : ((f.length : Int) == 0) = false := by simpa using hl1
    clear hE hf
    go_enter Tryz.func112, Tryz.ntmps112
    go_wp2_with fail
    refine HP.out.mono ?_
    rintro e w1 ⟨y, rfl, ⟨ya, yc, rfl, _⟩, hb1⟩
    have HB1 : Hid (Below w.heap.size w w1) := Bel.call HB.out (by simp) hb1
    have R1 : RowAt w1 w.heap.size 87 [.pointer (some a), .map (some r)] := HR0.out.later hb1 (by simp)
    have d0 := R1.cell (i := 0) rfl
    have l0 := R1.lt
    clear hb1 R1
    go_wp2_with fail
    refine (HR.out _ HB1.out).mono ?_
    rintro e w2 ⟨y2, rfl, hy, hb2⟩
    have HY : Hid (FracsAt (fun b => w.heap.size ≤ b) w2 y2 R) := FracsAt.keep (fun _ _ _ => rfl) (fun b h => by have := HB1.out.size; omega) hy
    have HB2 : Hid (Below w.heap.size w w2) := Bel.call HB1.out (Nat.le_refl _) hb2
    obtain ⟨za, zc, rfl, _⟩ := hy
    clear hb2
    go_wp2
    go_ret2
    exact ⟨_, rfl, HY.out, HB2.out⟩

set_option maxRecDepth 100000 in
set_option maxHeartbeats 2000000 in
theorem rdesk_least (p : Value) (r k : Nat) (F : Nat → Prop) (f : Flows) (w : World) (ht : TabAt w) (hd : DeskAt logX w p F f k) (hk : k < 999) (hf : RightF f) :
    Calls Tryz.prog 114 #[.agg #[p, .map (some r)]] w fun e w' => e = .returned (.tuple #[.string ⟨(toldT (leastV (if f = [] then [] else ratesR f))).toArray⟩, errV (if f = [] then 5 else 0)]) ∧ Below w.heap.size w w' := by
  have hB : Below w.heap.size w (w.alloc (.cells #[p, .map (some r)] 87)) := (Below.refl _ _).alloc (Nat.le_refl _) _
  have HR : Hid (Calls Tryz.prog 112 #[.agg #[p, .map (some r)]] (w.alloc (.cells #[p, .map (some r)] 87)) fun e w' => ∃ y, e = .returned (.tuple #[y, .nilIface]) ∧ FracsAt (fun b => (w.alloc (.cells #[p, .map (some r)] 87)).heap.size ≤ b) w' y (if f = [] then [] else ratesR f) ∧ Below (w.alloc (.cells #[p, .map (some r)] 87)).heap.size (w.alloc (.cells #[p, .map (some r)] 87)) w') := rdesk_rates p r k F f _ (hd.later hB) hk
  have HB : Hid (Below w.heap.size w (w.alloc (.cells #[p, .map (some r)] 87))) := hB
  obtain ⟨l1, ⟨l2, l3⟩, l4, l5⟩ := rl_least hf
  have HE : Hid (leastE (if f = [] then [] else ratesR f) = if f = [] then 5 else 0) := l1
  have HFr : Hid (∀ u, Below w.heap.size w u → Calls Tryz.prog 116 #[.agg #[.int .i64 (leastV (if f = [] then [] else ratesR f)).1, .int .i64 (leastV (if f = [] then [] else ratesR f)).2]] u fun e w' => e = .returned (.string ⟨(toldT (leastV (if f = [] then [] else ratesR f))).toArray⟩) ∧ Below u.heap.size u w') := fun u hu => rfraction _ u (ht.later hu) l2 l3 l4 l5
  clear l1 l2 l3 l4 l5 hB hd ht
  generalize (if f = [] then (5 : Int) else 0) = E at *
  generalize (if f = [] then [] else ratesR f) = R at *
  have HL : Hid (∀ (Q : Nat → Prop) (y : Value) (u : World), FracsAt Q u y R → Calls Tryz.prog 142 #[y] u fun e w' => e = .returned (.tuple #[.agg #[.int .i64 (leastV R).1, .int .i64 (leastV R).2], errV E]) ∧ Below u.heap.size u w') := fun Q y u h => by
    have := least_said _ R y u h
    rwa [HE.out] at this
  clear HE
  generalize toldT (leastV R) = D at *
  generalize (leastV R).1 = x at *
  generalize (leastV R).2 = z at *
  generalize errV E = ev at *
  go_enter Tryz.func114, Tryz.ntmps114
  go_wp2_with fail
  refine HR.out.mono ?_
  rintro e w1 ⟨y, rfl, hy, hb1⟩
  have HB1 : Hid (Below w.heap.size w w1) := Bel.call HB.out (by simp) hb1
  have HL1 : Hid (Calls Tryz.prog 142 #[y] w1 fun e w' => e = .returned (.tuple #[.agg #[.int .i64 x, .int .i64 z], ev]) ∧ Below w1.heap.size w1 w') := HL.out _ y w1 hy
  obtain ⟨ya, yc, rfl, _⟩ := hy
  clear hb1
  go_wp2_with fail
  refine HL1.out.mono ?_
  rintro e w2 ⟨rfl, hb2⟩
  have HB2 : Hid (∀ o, Below w.heap.size w (w2.alloc o)) := fun o => (Bel.call HB1.out (Nat.le_refl _) hb2).alloc (by have := HB1.out.size; have := hb2.size; omega) _
  have zz : w.heap.size ≤ w2.heap.size := by have := HB1.out.size; have := hb2.size; omega
  clear hb2
  go_wp2_with fail
  refine (HFr.out _ (HB2.out _)).mono ?_
  rintro e w3 ⟨rfl, hb3⟩
  have HB3 : Hid (Below w.heap.size w w3) := Bel.call (HB2.out _) (Nat.le_refl _) hb3
  clear hb3
  go_wp2
  exact bodyPost_ret (v := .tuple #[.string ⟨D.toArray⟩, ev]) (by simp [results, Tryz.results114, go_sem]) rfl ⟨rfl, HB3.out⟩
end Ev
end Go.Proofs.YtpnmmmlckdkcdakGreatDoor
