/- The law ShuffleKeeps returns true for every input, from what is asked of package shuffle's Step: all together as much, and no less even. -/
import Derived.Test.YtgbhknagmndbfahDoorPlains
import Derived.Test.YtgbhknagmndbfahDoorRTot
import Derived.Test.YtgbhknagmndbfahDoorRGap
import Derived.Test.YtgbhknagmndbfahDoorToldB
import Derived.Deep.DeepCutAuto
namespace Go.Proofs.YtgbhknagmndbfahDoor
namespace Ev
open Go.RowKit Fr Ns Ld Fl
set_option linter.unusedSimpArgs false
set_option linter.unusedVariables false

theorem sk_fact : shufE [100, 0] 500 = 0 ∧ shufL [100, 0] 500 = [75, 25] := by decide +kernel
theorem sk_two (w : World) (x y : Int) (T : TypeId) : IntsAt (fun _ => True) (w.alloc (.cells #[.int .i64 x, .int .i64 y] T)) (.slice (some ⟨w.heap.size, 0, none⟩) 2 2) [x, y] :=
  ⟨_, 2, rfl, ⟨Nat.le_refl _, by simp⟩, .inr ⟨w.heap.size, 0, rfl, fun i hi => by
    match i, hi with
    | 0, _ => simp
    | 1, _ => simp, trivial⟩⟩
theorem sk_cells {R : Nat → Prop} {w : World} {v : Value} {x y : Int} (h : IntsAt R w v [x, y]) : ∃ b off c, v = .slice (some ⟨b, off, none⟩) 2 c ∧ w.cell? ⟨b, off, none⟩ = some (.int .i64 x) ∧ w.cell? ⟨b, off + 1, none⟩ = some (.int .i64 y) := by
  obtain ⟨a, c, rfl, _, hc⟩ := h
  rcases hc with h | ⟨b, off, rfl, h, _⟩
  · simp at h
  · exact ⟨b, off, c, rfl, h 0 (by simp), h 1 (by simp)⟩
/-- shares that came of shares: as many, all together as much, none below 0 -/
def FromS (n : Nat) (t : Int) (x : List Int) : Prop := x.length = n ∧ tot x = t ∧ ∀ y ∈ x, 0 ≤ y
theorem from_step {l : List Int} {part : Int} (h : shufE l part = 0) : FromS l.length (tot l) (shufL l part) := by
  obtain ⟨h1, h2, h3⟩ := shufE_0 h
  obtain ⟨n1, n6, hb⟩ := few_0.1 h1
  refine ⟨shufL_length _ _, shuf_tot n1, fun y hy => ?_⟩
  obtain ⟨i, hi, rfl⟩ := List.mem_iff_getElem.1 hy
  have hi' : i < l.length := by rw [shufL_length] at hi; exact hi
  have e : (shufL l part)[i] = (shufL l part).getD i 0 := by simp [List.getD, List.getElem?_eq_getElem hi]
  rw [e, shufL_at hi']
  have hx := hb _ (getD_mem l i hi' 0)
  have hk := (keep_mono h2 h3 hx.1).1
  have h0 : takeS part 0 = 0 := by simp [takeS]
  have ha : 0 ≤ allS l part := by
    unfold allS
    have : ∀ z ∈ l.map (takeS part), 0 ≤ z ∧ z ≤ 10000 := fun z hz => by
      obtain ⟨u, hu, rfl⟩ := List.mem_map.1 hz
      have hu' := hb u hu
      unfold takeS
      have p1 : u * part ≤ u * 1000 := Int.mul_le_mul_of_nonneg_left h3 hu'.1
      have p2 : 0 ≤ u * part := Int.mul_nonneg hu'.1 h2
      omega
    exact (tot_bd this).1
  have hq : 0 ≤ allS l part / (l.length : Int) := Int.ediv_nonneg ha (by omega)
  split <;> omega
theorem from_trans {n : Nat} {t : Int} {x : List Int} {part : Int} (h : FromS n t x) (hE : shufE x part = 0) : FromS n t (shufL x part) := by
  have := from_step hE
  unfold FromS at *
  rw [h.1, h.2.1] at this
  exact this
theorem from_bd {n : Nat} {t : Int} {x : List Int} (h : FromS n t x) (ht : t ≤ 60000) : ∀ y ∈ x, -1000000 ≤ y ∧ y ≤ 1000000 := fun y hy => by
  have h1 := h.2.2 y hy
  have h2 := mem_tot h.2.2 y hy
  rw [h.2.1] at h2
  omega
/-- what is wrong with such shares: one is above what may be -/
theorem from_err {n : Nat} {t : Int} {x : List Int} {part : Int} (h : FromS n t x) (n1 : 0 < n) (n6 : n ≤ 6) (h2 : 0 ≤ part) (h3 : part ≤ 1000) (hE : shufE x part ≠ 0) : shufE x part = 1 := by
  have hl := h.1
  unfold shufE at hE ⊢
  split
  · rw [if_neg (by omega)]
    rename_i hf
    rw [if_pos hf, if_neg (by omega)] at hE
    exact absurd rfl hE
  · unfold few
    rw [if_neg (by omega), if_neg (by omega)]
    split
    · rename_i hf ha
      exfalso; apply hf
      unfold few
      rw [if_neg (by omega), if_neg (by omega), if_pos ha]
    · rfl

set_option maxRecDepth 100000 in
set_option maxHeartbeats 8000000 in
theorem shuffleKeeps_walk (hS : SStepSaid) (l : List Int) (part ticks : Int) (v : Value) (w : World)
    (hg : w.cell? ⟨0, 0, none⟩ = some handleV) (hv : IntsAt (fun b => b < w.heap.size) w v l) :
    Calls Tryd.prog 6 #[v, .int .i64 part, .int .i64 ticks] w fun e w' => e = .returned (.bool true) ∧ Below w.heap.size w w' := by
  have HF : Hid (∀ u : World, Calls Tryd.prog 15 #[.slice (some ⟨u.heap.size, 0, none⟩) 2 2, .int .i64 500] (u.alloc (.cells #[.int .i64 100, .int .i64 0] 3)) fun e w' => ∃ y, e = .returned (.tuple #[y, .nilIface]) ∧ IntsAt (fun b => u.heap.size + 1 ≤ b) w' y [75, 25] ∧ Below (u.heap.size + 1) (u.alloc (.cells #[.int .i64 100, .int .i64 0] 3)) w') := fun u => by
    have := hS (fun _ => True) [100, 0] 500 _ _ (sk_two u 100 0 3)
    rw [sk_fact.1, sk_fact.2, errV_0, okL_0] at this
    simpa using this
  have HS : Hid (∀ u : World, Below w.heap.size w u → Calls Tryd.prog 15 #[v, .int .i64 part] u fun e w' => ∃ y, e = .returned (.tuple #[y, errV (shufE l part)]) ∧ IntsAt (fun b => u.heap.size ≤ b) w' y (okL (shufE l part) (shufL l part)) ∧ Below u.heap.size u w') := fun u hu => hS _ l part v u (hv.later hu)
  have HE1 : Hid (∀ u : World, Below w.heap.size w u → Calls Tryd.prog 10 #[.iface 45 (.int .i64 1), .int .i64 1] u fun e w' => e = .returned (.bool true) ∧ Below u.heap.size u w') := fun u hu => by
    have := Error_any 1 1 u (cell_later hu hg)
    rw [beq_self_eq_true] at this
    exact this
  by_cases hE : shufE l part = 0
  · obtain ⟨e1, e2, e3⟩ := shufE_0 hE
    obtain ⟨n1, n6, hb⟩ := few_0.1 e1
    have t2 : tot l ≤ 60000 := by
      have := (tot_bd hb).2
      have h6 : (l.length : Int) ≤ 6 := by omega
      omega
    have HTl : Hid (∀ u : World, Below w.heap.size w u → Calls Tryd.prog 17 #[v] u fun e w' => e = .returned (.int .i64 (tot l)) ∧ w' = u) := fun u hu => RTot_any l v u (hv.later hu) (by omega) (fun x hx => by have := hb x hx; omega)
    have HGl : Hid (∀ u : World, Below w.heap.size w u → Calls Tryd.prog 18 #[v] u fun e w' => e = .returned (.int .i64 (gapL l)) ∧ w' = u) := fun u hu => RGap_any l v u (hv.later hu) n1 (fun x hx => by have := hb x hx; omega)
    have HTx : Hid (∀ (R : Nat → Prop) (x : List Int) (y : Value) (u : World), FromS l.length (tot l) x → IntsAt R u y x → Calls Tryd.prog 17 #[y] u fun e w' => e = .returned (.int .i64 (tot l)) ∧ w' = u) := fun R x y u hf hy => by
      have := RTot_any x y u hy (by rw [hf.1]; omega) (from_bd hf t2)
      rwa [hf.2.1] at this
    have HGx : Hid (∀ (R : Nat → Prop) (x : List Int) (y : Value) (u : World), FromS l.length (tot l) x → IntsAt R u y x → Calls Tryd.prog 18 #[y] u fun e w' => e = .returned (.int .i64 (gapL x)) ∧ w' = u) := fun R x y u hf hy => RGap_any x y u hy (by rw [hf.1]; exact n1) (from_bd hf t2)
    have HSx : Hid (∀ (R : Nat → Prop) (x : List Int) (y : Value) (u : World), IntsAt R u y x → Calls Tryd.prog 15 #[y, .int .i64 part] u fun e w' => ∃ z, e = .returned (.tuple #[z, errV (shufE x part)]) ∧ IntsAt (fun b => u.heap.size ≤ b) w' z (okL (shufE x part) (shufL x part)) ∧ Below u.heap.size u w') := fun R x y u hy => hS _ x part y u hy
    have HX0 : Hid (FromS l.length (tot l) (shufL l part)) := from_step hE
    have HG0 : Hid (gapL (shufL l part) ≤ gapL l) := shuf_gap n1 e2 e3
    have HXs : Hid (∀ x, FromS l.length (tot l) x → shufE x part = 0 → FromS l.length (tot l) (shufL x part) ∧ gapL (shufL x part) ≤ gapL x) := fun x hf hx => ⟨from_trans hf hx, shuf_gap (by rw [hf.1]; exact n1) e2 e3⟩
    have HXe : Hid (∀ x, FromS l.length (tot l) x → shufE x part ≠ 0 → shufE x part = 1) := fun x hf hx => from_err hf n1 n6 e2 e3 hx
    have HXl : Hid (∀ x, FromS l.length (tot l) x → x.length = l.length) := fun x hf => hf.1
    rw [hE, errV_0, okL_0] at HS
    generalize shufL l part = x0 at *
    obtain ⟨a, cap, rfl, ⟨hm1, hm2⟩, hc⟩ := hv
    clear hc hE e1 hb hg
    generalize tot l = T at *
    generalize gapL l = G0 at *
    have hlx : ¬ ((l.length : Int) < 1) := by omega
    have hlx6 : ¬ ((l.length : Int) > 6) := by omega
    go_enter Tryd.func6, Tryd.ntmps6
    go_wp2_with fail
    refine (HF.out w).mono ?_
    rintro e w1 ⟨y, rfl, hy, hw1⟩
    have B1 : Hid (Below w.heap.size w w1) := ((Below.refl _ _).alloc (Nat.le_refl _) _).trans (hw1.mono (by omega))
    obtain ⟨b1', o1', c1', rfl, f0, f1⟩ := sk_cells hy
    clear hw1 hy
    go_wp2_with fail
    refine (HS.out _ B1.out).mono ?_
    rintro e w2 ⟨y2, rfl, hy2, hw2⟩
    have B2 : Hid (Below w.heap.size w w2) := B1.out.trans (hw2.mono B1.out.size)
    have HY2 : Hid (IntsAt (fun _ => True) w2 y2 x0) := hy2.keep (fun _ _ _ => rfl) (fun _ _ _ => trivial)
    obtain ⟨a2, c2, rfl, _⟩ := hy2
    clear hw2 f0 f1
    go_wp2_with fail
    refine (HTl.out _ B2.out).mono ?_
    rintro e w2 ⟨rfl, rfl⟩
    go_wp2_with fail
    refine (HGl.out _ B2.out).mono ?_
    rintro e w2 ⟨rfl, rfl⟩
    go_wp2
    go_loopw [9, 12, 13, 14, 15] (fun s9 s12 s13 _ _ wr => ∃ (k : Nat) (x : List Int) (G : Int) (ax : Option Addr) (cx : Nat), k ≤ 30 ∧ s13 = .int .i64 k ∧ s9 = .slice ax l.length cx ∧ s12 = .int .i64 G ∧ Hid (IntsAt (fun _ => True) wr (.slice ax l.length cx) x) ∧ Hid (FromS l.length T x) ∧ Hid (gapL x ≤ G) ∧ Hid (Below w.heap.size w wr)) (fun _ _ s13 _ _ _ => 31 - (intOf s13).toNat)
    case atStart =>
      have e := HXl.out x0 HX0.out
      exact ⟨0, x0, G0, a2, c2, by omega, rfl, by rw [e], rfl, by rw [← e]; exact HY2, HX0, HG0, B2⟩
    case round =>
      obtain ⟨k, x, G, ax, cx, hk, rfl, rfl, rfl, hx, hf, hgx, hbl⟩ := hrel
      by_cases h1 : (k : Int) ≤ ticks
      · by_cases h2 : k < 30
        · have HT1 : Hid (Calls Tryd.prog 17 #[.slice ax l.length cx] wr fun e w' => e = .returned (.int .i64 T) ∧ w' = wr) := HTx.out _ x _ wr hf.out hx.out
          have HG1 : Hid (Calls Tryd.prog 18 #[.slice ax l.length cx] wr fun e w' => e = .returned (.int .i64 (gapL x)) ∧ w' = wr) := HGx.out _ x _ wr hf.out hx.out
          have HS1 : Hid (Calls Tryd.prog 15 #[.slice ax l.length cx, .int .i64 part] wr fun e w' => ∃ z, e = .returned (.tuple #[z, errV (shufE x part)]) ∧ IntsAt (fun b => wr.heap.size ≤ b) w' z (okL (shufE x part) (shufL x part)) ∧ Below wr.heap.size wr w') := HSx.out _ x _ wr hx.out
          have q1 : decide ((k : Int) ≤ ticks) = true := by simp; omega
          have hgx' := hgx.out
          generalize hgg : gapL x = gx at *
          have Hgg : Hid (gapL x = gx) := hgg
          have q2 : decide (gx > G) = false := by simp; omega
          have q3 : ¬ gx > G := by omega
          clear hgg
          by_cases hEx : shufE x part = 0
          · obtain ⟨hn1, hn2⟩ := HXs.out x hf.out hEx
            rw [hEx, errV_0, okL_0] at HS1
            have HN1 : Hid (FromS l.length T (shufL x part)) := hn1
            have HN2 : Hid (gapL (shufL x part) ≤ gx) := by rw [← Hgg.out]; exact hn2
            generalize shufL x part = x' at *
            clear hEx hn1 hn2
            go_wp2_with fail
            refine HT1.out.mono ?_
            rintro e wr ⟨rfl, rfl⟩
            go_wp2_with fail
            refine HG1.out.mono ?_
            rintro e wr ⟨rfl, rfl⟩
            go_wp2_with fail
            refine HG1.out.mono ?_
            rintro e wr ⟨rfl, rfl⟩
            go_wp2_with fail
            refine HS1.out.mono ?_
            rintro e w3 ⟨z, rfl, hz, hw3⟩
            have B3 : Hid (Below w.heap.size w w3) := hbl.out.trans (hw3.mono hbl.out.size)
            have HZ : Hid (IntsAt (fun _ => True) w3 z x') := hz.keep (fun _ _ _ => rfl) (fun _ _ _ => trivial)
            obtain ⟨az, cz, rfl, _⟩ := hz
            have e' := HXl.out x' HN1.out
            rw [e'] at HZ ⊢
            clear hw3 e'
            go_wp2
            go_roundw
            case rel => exact ⟨k + 1, x', gx, az, cz, by omega, by go_num, rfl, rfl, HZ, HN1, HN2, B3⟩
            case measure => simp [intOf]; omega
          · rw [HXe.out x hf.out hEx, okL_ne (by decide), errV_ne (show (1 : Int) ≠ 0 by decide)] at HS1
            clear hEx
            go_wp2_with fail
            refine HT1.out.mono ?_
            rintro e wr ⟨rfl, rfl⟩
            go_wp2_with fail
            refine HG1.out.mono ?_
            rintro e wr ⟨rfl, rfl⟩
            go_wp2_with fail
            refine HG1.out.mono ?_
            rintro e wr ⟨rfl, rfl⟩
            go_wp2_with fail
            refine HS1.out.mono ?_
            rintro e w3 ⟨z, rfl, hz, hw3⟩
            have B3 : Hid (Below w.heap.size w w3) := hbl.out.trans (hw3.mono hbl.out.size)
            obtain ⟨az, cz, rfl, _⟩ := hz
            clear hw3
            go_wp2_with fail
            refine (HE1.out _ B3.out).mono ?_
            rintro e w4 ⟨rfl, hw4⟩
            have B4 : Hid (Below w.heap.size w w4) := B3.out.trans (hw4.mono B3.out.size)
            clear hw4
            go_wp2
            go_ret
            exact ⟨Ns.ret_bool rfl, B4.out⟩
        · have q1 : decide ((k : Int) ≤ ticks) = true := by simp; omega
          have q2 : decide ((k : Int) < 30) = false := by simp; omega
          go_wp2
          go_ret
          exact ⟨Ns.ret_bool rfl, hbl.out⟩
      · have q1 : decide ((k : Int) ≤ ticks) = false := by simp; omega
        go_wp2
        go_ret
        exact ⟨Ns.ret_bool rfl, hbl.out⟩
  · have HV : Hid (errV (shufE l part) = .iface 45 (.int .i64 (shufE l part))) := errV_ne hE
    rw [HV.out, okL_ne hE] at HS
    generalize shufE l part = ek at *
    obtain ⟨a, cap, rfl, ⟨hm1, hm2⟩, hc⟩ := hv
    clear hc hE HV hg
    go_enter Tryd.func6, Tryd.ntmps6
    go_wp2_with fail
    refine (HF.out w).mono ?_
    rintro e w1 ⟨y, rfl, hy, hw1⟩
    have B1 : Hid (Below w.heap.size w w1) := ((Below.refl _ _).alloc (Nat.le_refl _) _).trans (hw1.mono (by omega))
    obtain ⟨b1', o1', c1', rfl, f0, f1⟩ := sk_cells hy
    clear hw1 hy
    go_wp2_with fail
    refine (HS.out _ B1.out).mono ?_
    rintro e w2 ⟨y2, rfl, hy2, hw2⟩
    have B2 : Hid (Below w.heap.size w w2) := B1.out.trans (hw2.mono B1.out.size)
    obtain ⟨a2, c2, rfl, _⟩ := hy2
    clear hw2 f0 f1
    go_wp2
    go_ret
    exact ⟨Ns.ret_bool rfl, B2.out⟩
end Ev
end Go.Proofs.YtgbhknagmndbfahDoor
