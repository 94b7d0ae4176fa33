/- The law TopEvens returns true for every input, from what is asked of fill.Rates, shuffle.Step, even.Gap, aimd.Step and give.Split: in the end all have alike. -/
import Derived.Test.YtgbhknagmndbfaiTopOne
import Derived.Test.YtgbhknagmndbfaiPlains
import Derived.Test.YtgbhknagmndbfaiRTot
import Derived.Deep.DeepCutAuto
namespace Go.Proofs.Ytgbhknagmndbfai
namespace Ev
open Go.RowKit Fr Ns Ld Fl
set_option linter.unusedSimpArgs false
set_option linter.unusedVariables false

theorem te_step {l : List Int} {limit up : Int} (h : 0 < l.length) : gapL (stepL l limit up) ≤ gapL l := by
  unfold stepL
  split
  · have h1 := gap_half h
    have h2 := gap_nonneg h
    have h3 : 0 < (l.map (· / 2)).length := by simpa using h
    by_cases e : gapL l = 0
    · have := gap_nonneg h3
      rw [e] at h1 ⊢
      omega
    · omega
  · exact gap_up h up
theorem te_tot {many : Int} {l : List Int} (hE : splitE many l = 0) : ∀ x ∈ splitS many l, -1000000 ≤ x ∧ x ≤ 1000000 := fun x hx => by
  obtain ⟨i, hi, rfl⟩ := List.mem_iff_getElem.1 hx
  have hi' : i < l.length := by rw [splitS_length] at hi; exact hi
  obtain ⟨B, p, hB, hp, b0, b1, p1, p2, _⟩ := part_at hE hi'
  have e := splitS_at (many := many) hi'
  rw [hp] at e
  have e' : (splitS many l).getD i 0 = (splitS many l)[i] := by simp [List.getD, List.getElem?_eq_getElem hi]
  rw [← e', e]
  split <;> omega

set_option maxRecDepth 100000 in
set_option maxHeartbeats 8000000 in
theorem topEvens_walk (hRa : RatesSaid) (hS : SStepSaid) (hG : EGapSaid) (hA : AStepSaid) (hP : GSplitSaid) (l : List Int) (part many : Int) (v : Value) (w : World) (hv : IntsAt (fun b => b < w.heap.size) w v l) :
    Calls Try.prog 3 #[v, .int .i64 part, .int .i64 many] w fun e w' => e = .returned (.bool true) ∧ Below w.heap.size w w' := by
  have HOn : Hid (∀ u : World, Calls Try.prog 4 #[] u fun e w' => e = .returned (.bool true) ∧ Below u.heap.size u w') := fun u => one_any hRa u
  have HS : Hid (∀ u : World, Below w.heap.size w u → Calls Try.prog 5 #[v, .int .i64 part] u fun e w' => ∃ y, e = .returned (.tuple #[y, errV (shufE l part)]) ∧ IntsAt (fun b => u.heap.size ≤ b) w' y (okL (shufE l part) (shufL l part)) ∧ Below u.heap.size u w') := fun u hu => hS _ l part v u (hv.later hu)
  have HG : Hid (∀ u : World, Below w.heap.size w u → Calls Try.prog 6 #[v] u fun e w' => e = .returned (.tuple #[.int .i64 (okI (few l 1000) (gapL l)), errV (few l 1000)]) ∧ Below u.heap.size u w') := fun u hu => hG _ l v u (hv.later hu)
  have HGx : Hid (∀ (R : Nat → Prop) (x : List Int) (y : Value) (u : World), IntsAt R u y x → Calls Try.prog 6 #[y] u fun e w' => e = .returned (.tuple #[.int .i64 (okI (few x 1000) (gapL x)), errV (few x 1000)]) ∧ Below u.heap.size u w') := fun R x y u hy => hG _ x y u hy
  have HA : Hid (∀ u : World, Below w.heap.size w u → Calls Try.prog 7 #[v, .int .i64 1000, .int .i64 1] u fun e w' => ∃ y, e = .returned (.tuple #[y, errV (stepE l 1000 1)]) ∧ IntsAt (fun b => u.heap.size ≤ b) w' y (okL (stepE l 1000 1) (stepL l 1000 1)) ∧ Below u.heap.size u w') := fun u hu => hA _ l 1000 1 v u (hv.later hu)
  have HPx : Hid (∀ (R : Nat → Prop) (x : List Int) (y : Value) (u : World), IntsAt R u y x → Calls Try.prog 8 #[.int .i64 many, y] u fun e w' => ∃ z, e = .returned (.tuple #[z, errV (splitE many x)]) ∧ IntsAt (fun b => u.heap.size ≤ b) w' z (okL (splitE many x) (splitS many x)) ∧ Below u.heap.size u w') := fun R x y u hy => hP _ many x y u hy
  have HTz : Hid (∀ (R : Nat → Prop) (x : List Int) (y : Value) (u : World), splitE many x = 0 → IntsAt R u y (splitS many x) → Calls Try.prog 9 #[y] u fun e w' => e = .returned (.int .i64 many) ∧ w' = u) := fun R x y u hE hy => by
    have hi := idx_tot (splitE_0 hE).1
    have := RTot_any (splitS many x) y u hy (by rw [splitS_length]; omega) (te_tot hE)
    rwa [splitS_tot hi.1] at this
  obtain ⟨a, cap, rfl, ⟨hm1, hm2⟩, hc⟩ := hv
  clear hc
  -- the three faults first
  by_cases hE : shufE l part = 0
  · obtain ⟨e1, e2, e3⟩ := shufE_0 hE
    obtain ⟨n1, n6, hb⟩ := few_0.1 e1
    have HGap : Hid (gapL (shufL l part) ≤ gapL l) := shuf_gap n1 e2 e3
    have HXl : Hid ((shufL l part).length = l.length) := shufL_length _ _
    have HSt : Hid (gapL (stepL l 1000 1) ≤ gapL l) := te_step n1
    have HSl : Hid (splitE many (shufL l part) = 0 → (splitS many (shufL l part)).length = l.length) := fun _ => by rw [splitS_length, shufL_length]
    rw [hE, errV_0, okL_0] at HS
    generalize shufL l part = x at *
    generalize stepL l 1000 1 = y0 at *
    clear hE e1 hb
    by_cases hf : few l 1000 = 0
    · rw [hf, errV_0, okI_0] at HG
      by_cases hfx : few x 1000 = 0
      · have HGX : Hid (∀ (y : Value) (u : World), IntsAt (fun _ => True) u y x → Calls Try.prog 6 #[y] u fun e w' => e = .returned (.tuple #[.int .i64 (gapL x), .nilIface]) ∧ Below u.heap.size u w') := fun y u hy => by
          have := HGx.out _ _ y u hy
          rw [hfx, errV_0, okI_0] at this
          exact this
        have q1 : ¬ gapL x > gapL l := by have := HGap.out; omega
        have hso : stepE l 1000 1 = 0 ∧ few y0 1000 = 0 ∨ stepE l 1000 1 = 0 ∧ few y0 1000 ≠ 0 ∨ stepE l 1000 1 ≠ 0 := by
          by_cases h1 : stepE l 1000 1 = 0
          · by_cases h2 : few y0 1000 = 0
            · exact .inl ⟨h1, h2⟩
            · exact .inr (.inl ⟨h1, h2⟩)
          · exact .inr (.inr h1)
        have hsp : (∀ (R : Nat → Prop) (y : Value) (u : World), IntsAt R u y x → Calls Try.prog 8 #[.int .i64 many, y] u fun e w' => ∃ a c, e = .returned (.tuple #[.slice a l.length c, .nilIface]) ∧ (Calls Try.prog 9 #[.slice a l.length c] w' fun e w2 => e = .returned (.int .i64 many) ∧ w2 = w') ∧ Below u.heap.size u w') ∨ (∃ k : Int, ∀ (R : Nat → Prop) (y : Value) (u : World), IntsAt R u y x → Calls Try.prog 8 #[.int .i64 many, y] u fun e w' => ∃ a c, e = .returned (.tuple #[.slice a 0 c, .iface 54 (.int .i64 k)]) ∧ Below u.heap.size u w') := by
          by_cases h1 : splitE many x = 0
          · left
            intro R y u hy
            refine (HPx.out R x y u hy).mono ?_
            rintro e w' ⟨z, rfl, hz, hw⟩
            rw [h1, okL_0] at hz
            have ht := HTz.out _ x z w' h1 hz
            obtain ⟨az, cz, rfl, _⟩ := hz
            rw [HSl.out h1] at ht ⊢
            rw [h1, errV_0]
            exact ⟨az, cz, rfl, ht, hw⟩
          · right
            refine ⟨splitE many x, fun R y u hy => ?_⟩
            refine (HPx.out R x y u hy).mono ?_
            rintro e w' ⟨z, rfl, hz, hw⟩
            rw [okL_ne h1] at hz
            obtain ⟨az, cz, rfl, _⟩ := hz
            rw [errV_ne h1]
            exact ⟨az, cz, rfl, hw⟩
        clear hf hfx HPx HTz HSl
        rcases hso with ⟨h1, h2⟩ | ⟨h1, h2⟩ | h1
        · have HA1 : Hid (∀ u : World, Below w.heap.size w u → Calls Try.prog 7 #[.slice a l.length cap, .int .i64 1000, .int .i64 1] u fun e w' => ∃ y, e = .returned (.tuple #[y, .nilIface]) ∧ IntsAt (fun b => u.heap.size ≤ b) w' y y0 ∧ Below u.heap.size u w') := fun u hu => by
            have := HA.out u hu
            rw [h1, errV_0, okL_0] at this
            exact this
          have HGy : Hid (∀ (R : Nat → Prop) (y : Value) (u : World), IntsAt R u y y0 → Calls Try.prog 6 #[y] u fun e w' => e = .returned (.tuple #[.int .i64 (gapL y0), .nilIface]) ∧ Below u.heap.size u w') := fun R y u hy => by
            have := HGx.out _ _ y u hy
            rw [h2, errV_0, okI_0] at this
            exact this
          have q2 : ¬ gapL y0 > gapL l := by have := HSt.out; omega
          have q2' : decide (gapL y0 > gapL l) = false := by simp; have := HSt.out; omega
          clear h1 h2
          rcases hsp with hsp | ⟨k, hsp⟩
          · have HP0 : Hid (∀ (R : Nat → Prop) (y : Value) (u : World), IntsAt R u y x → Calls Try.prog 8 #[.int .i64 many, y] u fun e w' => ∃ a c, e = .returned (.tuple #[.slice a l.length c, .nilIface]) ∧ (Calls Try.prog 9 #[.slice a l.length c] w' fun e w2 => e = .returned (.int .i64 many) ∧ w2 = w') ∧ Below u.heap.size u w') := hsp
            clear hsp
            go_enter Try.func3, Try.ntmps3
            go_wp2_with fail
            refine (HOn.out _).mono ?_
            rintro e w0 ⟨rfl, hw0⟩
            have B0 : Hid (Below w.heap.size w w0) := hw0
            clear hw0
            go_wp2_with fail
            refine (HS.out _ B0.out).mono ?_
            rintro e w1 ⟨y1, rfl, hy1, hw1⟩
            have B1 : Hid (Below w.heap.size w w1) := B0.out.trans (hw1.mono B0.out.size)
            have HX : Hid (∀ u, Below w1.heap.size w1 u → IntsAt (fun _ => True) u y1 x) := fun u hu => (hy1.later hu).keep (fun _ _ _ => rfl) (fun _ _ _ => trivial)
            obtain ⟨ax, cx, rfl, _⟩ := hy1
            clear hw1
            go_wp2_with fail
            refine (HG.out _ B1.out).mono ?_
            rintro e w2 ⟨rfl, hw2⟩
            have B2 : Hid (Below w.heap.size w w2) := B1.out.trans (hw2.mono B1.out.size)
            have B2' : Hid (Below w1.heap.size w1 w2) := hw2
            have HG2 : Hid (Calls Try.prog 6 #[.slice ax x.length cx] w2 fun e w' => e = .returned (.tuple #[.int .i64 (gapL x), .nilIface]) ∧ Below w2.heap.size w2 w') := HGX.out _ w2 (HX.out _ B2'.out)
            clear hw2
            go_wp2_with fail
            refine HG2.out.mono ?_
            rintro e w3 ⟨rfl, hw3⟩
            have B3 : Hid (Below w.heap.size w w3) := B2.out.trans (hw3.mono B2.out.size)
            have B3' : Hid (Below w1.heap.size w1 w3) := B2'.out.trans (hw3.mono B2'.out.size)
            clear hw3 HG2
            go_wp2_with fail
            refine (HA1.out _ B3.out).mono ?_
            rintro e w4 ⟨y4, rfl, hy4, hw4⟩
            have B4 : Hid (Below w.heap.size w w4) := B3.out.trans (hw4.mono B3.out.size)
            have B4' : Hid (Below w1.heap.size w1 w4) := B3'.out.trans (hw4.mono B3'.out.size)
            have HG4 : Hid (Calls Try.prog 6 #[y4] w4 fun e w' => e = .returned (.tuple #[.int .i64 (gapL y0), .nilIface]) ∧ Below w4.heap.size w4 w') := HGy.out _ _ w4 hy4
            obtain ⟨a4, c4, rfl, _⟩ := hy4
            clear hw4
            go_wp2_with fail
            refine HG4.out.mono ?_
            rintro e w5 ⟨rfl, hw5⟩
            have B5 : Hid (Below w.heap.size w w5) := B4.out.trans (hw5.mono B4.out.size)
            have B5' : Hid (Below w1.heap.size w1 w5) := B4'.out.trans (hw5.mono B4'.out.size)
            clear hw5 HG4
            have HP1 : Hid (Calls Try.prog 8 #[.int .i64 many, .slice ax x.length cx] w5 fun e w' => ∃ a c, e = .returned (.tuple #[.slice a l.length c, .nilIface]) ∧ (Calls Try.prog 9 #[.slice a l.length c] w' fun e w2 => e = .returned (.int .i64 many) ∧ w2 = w') ∧ Below w5.heap.size w5 w') := HP0.out _ _ w5 (HX.out _ B5'.out)
            go_wp2_with fail
            refine HP1.out.mono ?_
            rintro e w6 ⟨a6, c6, rfl, ht6, hw6⟩
            have HT6 : Hid (Calls Try.prog 9 #[.slice a6 l.length c6] w6 fun e w2 => e = .returned (.int .i64 many) ∧ w2 = w6) := ht6
            have BB : Hid (Below w.heap.size w w6) := B5.out.trans (hw6.mono B5.out.size)
            clear hw6 ht6
            go_wp2_with fail
            refine HT6.out.mono ?_
            rintro e w6 ⟨rfl, rfl⟩
            go_wp2
            go_ret
            exact ⟨Ns.ret_bool rfl, BB.out⟩
          · have HP0 : Hid (∀ (R : Nat → Prop) (y : Value) (u : World), IntsAt R u y x → Calls Try.prog 8 #[.int .i64 many, y] u fun e w' => ∃ a c, e = .returned (.tuple #[.slice a 0 c, .iface 54 (.int .i64 k)]) ∧ Below u.heap.size u w') := hsp
            clear hsp
            go_enter Try.func3, Try.ntmps3
            go_wp2_with fail
            refine (HOn.out _).mono ?_
            rintro e w0 ⟨rfl, hw0⟩
            have B0 : Hid (Below w.heap.size w w0) := hw0
            clear hw0
            go_wp2_with fail
            refine (HS.out _ B0.out).mono ?_
            rintro e w1 ⟨y1, rfl, hy1, hw1⟩
            have B1 : Hid (Below w.heap.size w w1) := B0.out.trans (hw1.mono B0.out.size)
            have HX : Hid (∀ u, Below w1.heap.size w1 u → IntsAt (fun _ => True) u y1 x) := fun u hu => (hy1.later hu).keep (fun _ _ _ => rfl) (fun _ _ _ => trivial)
            obtain ⟨ax, cx, rfl, _⟩ := hy1
            clear hw1
            go_wp2_with fail
            refine (HG.out _ B1.out).mono ?_
            rintro e w2 ⟨rfl, hw2⟩
            have B2 : Hid (Below w.heap.size w w2) := B1.out.trans (hw2.mono B1.out.size)
            have B2' : Hid (Below w1.heap.size w1 w2) := hw2
            have HG2 : Hid (Calls Try.prog 6 #[.slice ax x.length cx] w2 fun e w' => e = .returned (.tuple #[.int .i64 (gapL x), .nilIface]) ∧ Below w2.heap.size w2 w') := HGX.out _ w2 (HX.out _ B2'.out)
            clear hw2
            go_wp2_with fail
            refine HG2.out.mono ?_
            rintro e w3 ⟨rfl, hw3⟩
            have B3 : Hid (Below w.heap.size w w3) := B2.out.trans (hw3.mono B2.out.size)
            have B3' : Hid (Below w1.heap.size w1 w3) := B2'.out.trans (hw3.mono B2'.out.size)
            clear hw3 HG2
            go_wp2_with fail
            refine (HA1.out _ B3.out).mono ?_
            rintro e w4 ⟨y4, rfl, hy4, hw4⟩
            have B4 : Hid (Below w.heap.size w w4) := B3.out.trans (hw4.mono B3.out.size)
            have B4' : Hid (Below w1.heap.size w1 w4) := B3'.out.trans (hw4.mono B3'.out.size)
            have HG4 : Hid (Calls Try.prog 6 #[y4] w4 fun e w' => e = .returned (.tuple #[.int .i64 (gapL y0), .nilIface]) ∧ Below w4.heap.size w4 w') := HGy.out _ _ w4 hy4
            obtain ⟨a4, c4, rfl, _⟩ := hy4
            clear hw4
            go_wp2_with fail
            refine HG4.out.mono ?_
            rintro e w5 ⟨rfl, hw5⟩
            have B5 : Hid (Below w.heap.size w w5) := B4.out.trans (hw5.mono B4.out.size)
            have B5' : Hid (Below w1.heap.size w1 w5) := B4'.out.trans (hw5.mono B4'.out.size)
            clear hw5 HG4
            have HP1 : Hid (Calls Try.prog 8 #[.int .i64 many, .slice ax x.length cx] w5 fun e w' => ∃ a c, e = .returned (.tuple #[.slice a 0 c, .iface 54 (.int .i64 k)]) ∧ Below w5.heap.size w5 w') := HP0.out _ _ w5 (HX.out _ B5'.out)
            go_wp2_with fail
            refine HP1.out.mono ?_
            rintro e w6 ⟨a6, c6, rfl, hw6⟩
            have BB : Hid (Below w.heap.size w w6) := B5.out.trans (hw6.mono B5.out.size)
            clear hw6
            go_wp2
            go_ret
            exact ⟨Ns.ret_bool rfl, BB.out⟩
        · have HA1 : Hid (∀ u : World, Below w.heap.size w u → Calls Try.prog 7 #[.slice a l.length cap, .int .i64 1000, .int .i64 1] u fun e w' => ∃ y, e = .returned (.tuple #[y, .nilIface]) ∧ IntsAt (fun b => u.heap.size ≤ b) w' y y0 ∧ Below u.heap.size u w') := fun u hu => by
            have := HA.out u hu
            rw [h1, errV_0, okL_0] at this
            exact this
          have HGy : Hid (∀ (R : Nat → Prop) (y : Value) (u : World), IntsAt R u y y0 → Calls Try.prog 6 #[y] u fun e w' => e = .returned (.tuple #[.int .i64 0, .iface 54 (.int .i64 (few y0 1000))]) ∧ Below u.heap.size u w') := fun R y u hy => by
            have := HGx.out _ _ y u hy
            rw [errV_ne h2, okI_ne h2] at this
            exact this
          generalize few y0 1000 = ey at *
          clear h1 h2
          rcases hsp with hsp | ⟨k, hsp⟩
          · have HP0 : Hid (∀ (R : Nat → Prop) (y : Value) (u : World), IntsAt R u y x → Calls Try.prog 8 #[.int .i64 many, y] u fun e w' => ∃ a c, e = .returned (.tuple #[.slice a l.length c, .nilIface]) ∧ (Calls Try.prog 9 #[.slice a l.length c] w' fun e w2 => e = .returned (.int .i64 many) ∧ w2 = w') ∧ Below u.heap.size u w') := hsp
            clear hsp
            go_enter Try.func3, Try.ntmps3
            go_wp2_with fail
            refine (HOn.out _).mono ?_
            rintro e w0 ⟨rfl, hw0⟩
            have B0 : Hid (Below w.heap.size w w0) := hw0
            clear hw0
            go_wp2_with fail
            refine (HS.out _ B0.out).mono ?_
            rintro e w1 ⟨y1, rfl, hy1, hw1⟩
            have B1 : Hid (Below w.heap.size w w1) := B0.out.trans (hw1.mono B0.out.size)
            have HX : Hid (∀ u, Below w1.heap.size w1 u → IntsAt (fun _ => True) u y1 x) := fun u hu => (hy1.later hu).keep (fun _ _ _ => rfl) (fun _ _ _ => trivial)
            obtain ⟨ax, cx, rfl, _⟩ := hy1
            clear hw1
            go_wp2_with fail
            refine (HG.out _ B1.out).mono ?_
            rintro e w2 ⟨rfl, hw2⟩
            have B2 : Hid (Below w.heap.size w w2) := B1.out.trans (hw2.mono B1.out.size)
            have B2' : Hid (Below w1.heap.size w1 w2) := hw2
            have HG2 : Hid (Calls Try.prog 6 #[.slice ax x.length cx] w2 fun e w' => e = .returned (.tuple #[.int .i64 (gapL x), .nilIface]) ∧ Below w2.heap.size w2 w') := HGX.out _ w2 (HX.out _ B2'.out)
            clear hw2
            go_wp2_with fail
            refine HG2.out.mono ?_
            rintro e w3 ⟨rfl, hw3⟩
            have B3 : Hid (Below w.heap.size w w3) := B2.out.trans (hw3.mono B2.out.size)
            have B3' : Hid (Below w1.heap.size w1 w3) := B2'.out.trans (hw3.mono B2'.out.size)
            clear hw3 HG2
            go_wp2_with fail
            refine (HA1.out _ B3.out).mono ?_
            rintro e w4 ⟨y4, rfl, hy4, hw4⟩
            have B4 : Hid (Below w.heap.size w w4) := B3.out.trans (hw4.mono B3.out.size)
            have B4' : Hid (Below w1.heap.size w1 w4) := B3'.out.trans (hw4.mono B3'.out.size)
            have HG4 : Hid (Calls Try.prog 6 #[y4] w4 fun e w' => e = .returned (.tuple #[.int .i64 0, .iface 54 (.int .i64 ey)]) ∧ Below w4.heap.size w4 w') := HGy.out _ _ w4 hy4
            obtain ⟨a4, c4, rfl, _⟩ := hy4
            clear hw4
            go_wp2_with fail
            refine HG4.out.mono ?_
            rintro e w5 ⟨rfl, hw5⟩
            have B5 : Hid (Below w.heap.size w w5) := B4.out.trans (hw5.mono B4.out.size)
            have B5' : Hid (Below w1.heap.size w1 w5) := B4'.out.trans (hw5.mono B4'.out.size)
            clear hw5 HG4
            have HP1 : Hid (Calls Try.prog 8 #[.int .i64 many, .slice ax x.length cx] w5 fun e w' => ∃ a c, e = .returned (.tuple #[.slice a l.length c, .nilIface]) ∧ (Calls Try.prog 9 #[.slice a l.length c] w' fun e w2 => e = .returned (.int .i64 many) ∧ w2 = w') ∧ Below w5.heap.size w5 w') := HP0.out _ _ w5 (HX.out _ B5'.out)
            go_wp2_with fail
            refine HP1.out.mono ?_
            rintro e w6 ⟨a6, c6, rfl, ht6, hw6⟩
            have HT6 : Hid (Calls Try.prog 9 #[.slice a6 l.length c6] w6 fun e w2 => e = .returned (.int .i64 many) ∧ w2 = w6) := ht6
            have BB : Hid (Below w.heap.size w w6) := B5.out.trans (hw6.mono B5.out.size)
            clear hw6 ht6
            go_wp2_with fail
            refine HT6.out.mono ?_
            rintro e w6 ⟨rfl, rfl⟩
            go_wp2
            go_ret
            exact ⟨Ns.ret_bool rfl, BB.out⟩
          · have HP0 : Hid (∀ (R : Nat → Prop) (y : Value) (u : World), IntsAt R u y x → Calls Try.prog 8 #[.int .i64 many, y] u fun e w' => ∃ a c, e = .returned (.tuple #[.slice a 0 c, .iface 54 (.int .i64 k)]) ∧ Below u.heap.size u w') := hsp
            clear hsp
            go_enter Try.func3, Try.ntmps3
            go_wp2_with fail
            refine (HOn.out _).mono ?_
            rintro e w0 ⟨rfl, hw0⟩
            have B0 : Hid (Below w.heap.size w w0) := hw0
            clear hw0
            go_wp2_with fail
            refine (HS.out _ B0.out).mono ?_
            rintro e w1 ⟨y1, rfl, hy1, hw1⟩
            have B1 : Hid (Below w.heap.size w w1) := B0.out.trans (hw1.mono B0.out.size)
            have HX : Hid (∀ u, Below w1.heap.size w1 u → IntsAt (fun _ => True) u y1 x) := fun u hu => (hy1.later hu).keep (fun _ _ _ => rfl) (fun _ _ _ => trivial)
            obtain ⟨ax, cx, rfl, _⟩ := hy1
            clear hw1
            go_wp2_with fail
            refine (HG.out _ B1.out).mono ?_
            rintro e w2 ⟨rfl, hw2⟩
            have B2 : Hid (Below w.heap.size w w2) := B1.out.trans (hw2.mono B1.out.size)
            have B2' : Hid (Below w1.heap.size w1 w2) := hw2
            have HG2 : Hid (Calls Try.prog 6 #[.slice ax x.length cx] w2 fun e w' => e = .returned (.tuple #[.int .i64 (gapL x), .nilIface]) ∧ Below w2.heap.size w2 w') := HGX.out _ w2 (HX.out _ B2'.out)
            clear hw2
            go_wp2_with fail
            refine HG2.out.mono ?_
            rintro e w3 ⟨rfl, hw3⟩
            have B3 : Hid (Below w.heap.size w w3) := B2.out.trans (hw3.mono B2.out.size)
            have B3' : Hid (Below w1.heap.size w1 w3) := B2'.out.trans (hw3.mono B2'.out.size)
            clear hw3 HG2
            go_wp2_with fail
            refine (HA1.out _ B3.out).mono ?_
            rintro e w4 ⟨y4, rfl, hy4, hw4⟩
            have B4 : Hid (Below w.heap.size w w4) := B3.out.trans (hw4.mono B3.out.size)
            have B4' : Hid (Below w1.heap.size w1 w4) := B3'.out.trans (hw4.mono B3'.out.size)
            have HG4 : Hid (Calls Try.prog 6 #[y4] w4 fun e w' => e = .returned (.tuple #[.int .i64 0, .iface 54 (.int .i64 ey)]) ∧ Below w4.heap.size w4 w') := HGy.out _ _ w4 hy4
            obtain ⟨a4, c4, rfl, _⟩ := hy4
            clear hw4
            go_wp2_with fail
            refine HG4.out.mono ?_
            rintro e w5 ⟨rfl, hw5⟩
            have B5 : Hid (Below w.heap.size w w5) := B4.out.trans (hw5.mono B4.out.size)
            have B5' : Hid (Below w1.heap.size w1 w5) := B4'.out.trans (hw5.mono B4'.out.size)
            clear hw5 HG4
            have HP1 : Hid (Calls Try.prog 8 #[.int .i64 many, .slice ax x.length cx] w5 fun e w' => ∃ a c, e = .returned (.tuple #[.slice a 0 c, .iface 54 (.int .i64 k)]) ∧ Below w5.heap.size w5 w') := HP0.out _ _ w5 (HX.out _ B5'.out)
            go_wp2_with fail
            refine HP1.out.mono ?_
            rintro e w6 ⟨a6, c6, rfl, hw6⟩
            have BB : Hid (Below w.heap.size w w6) := B5.out.trans (hw6.mono B5.out.size)
            clear hw6
            go_wp2
            go_ret
            exact ⟨Ns.ret_bool rfl, BB.out⟩
        · have HA1 : Hid (∀ u : World, Below w.heap.size w u → Calls Try.prog 7 #[.slice a l.length cap, .int .i64 1000, .int .i64 1] u fun e w' => ∃ y, e = .returned (.tuple #[y, .iface 54 (.int .i64 (stepE l 1000 1))]) ∧ IntsAt (fun b => u.heap.size ≤ b) w' y [] ∧ Below u.heap.size u w') := fun u hu => by
            have := HA.out u hu
            rw [errV_ne h1, okL_ne h1] at this
            exact this
          generalize stepE l 1000 1 = es at *
          clear h1
          rcases hsp with hsp | ⟨k, hsp⟩
          · have HP0 : Hid (∀ (R : Nat → Prop) (y : Value) (u : World), IntsAt R u y x → Calls Try.prog 8 #[.int .i64 many, y] u fun e w' => ∃ a c, e = .returned (.tuple #[.slice a l.length c, .nilIface]) ∧ (Calls Try.prog 9 #[.slice a l.length c] w' fun e w2 => e = .returned (.int .i64 many) ∧ w2 = w') ∧ Below u.heap.size u w') := hsp
            clear hsp
            go_enter Try.func3, Try.ntmps3
            go_wp2_with fail
            refine (HOn.out _).mono ?_
            rintro e w0 ⟨rfl, hw0⟩
            have B0 : Hid (Below w.heap.size w w0) := hw0
            clear hw0
            go_wp2_with fail
            refine (HS.out _ B0.out).mono ?_
            rintro e w1 ⟨y1, rfl, hy1, hw1⟩
            have B1 : Hid (Below w.heap.size w w1) := B0.out.trans (hw1.mono B0.out.size)
            have HX : Hid (∀ u, Below w1.heap.size w1 u → IntsAt (fun _ => True) u y1 x) := fun u hu => (hy1.later hu).keep (fun _ _ _ => rfl) (fun _ _ _ => trivial)
            obtain ⟨ax, cx, rfl, _⟩ := hy1
            clear hw1
            go_wp2_with fail
            refine (HG.out _ B1.out).mono ?_
            rintro e w2 ⟨rfl, hw2⟩
            have B2 : Hid (Below w.heap.size w w2) := B1.out.trans (hw2.mono B1.out.size)
            have B2' : Hid (Below w1.heap.size w1 w2) := hw2
            have HG2 : Hid (Calls Try.prog 6 #[.slice ax x.length cx] w2 fun e w' => e = .returned (.tuple #[.int .i64 (gapL x), .nilIface]) ∧ Below w2.heap.size w2 w') := HGX.out _ w2 (HX.out _ B2'.out)
            clear hw2
            go_wp2_with fail
            refine HG2.out.mono ?_
            rintro e w3 ⟨rfl, hw3⟩
            have B3 : Hid (Below w.heap.size w w3) := B2.out.trans (hw3.mono B2.out.size)
            have B3' : Hid (Below w1.heap.size w1 w3) := B2'.out.trans (hw3.mono B2'.out.size)
            clear hw3 HG2
            go_wp2_with fail
            refine (HA1.out _ B3.out).mono ?_
            rintro e w5 ⟨y4, rfl, hy4, hw5⟩
            have B5 : Hid (Below w.heap.size w w5) := B3.out.trans (hw5.mono B3.out.size)
            have B5' : Hid (Below w1.heap.size w1 w5) := B3'.out.trans (hw5.mono B3'.out.size)
            obtain ⟨a4, c4, rfl, _⟩ := hy4
            clear hw5
            have HP1 : Hid (Calls Try.prog 8 #[.int .i64 many, .slice ax x.length cx] w5 fun e w' => ∃ a c, e = .returned (.tuple #[.slice a l.length c, .nilIface]) ∧ (Calls Try.prog 9 #[.slice a l.length c] w' fun e w2 => e = .returned (.int .i64 many) ∧ w2 = w') ∧ Below w5.heap.size w5 w') := HP0.out _ _ w5 (HX.out _ B5'.out)
            go_wp2_with fail
            refine HP1.out.mono ?_
            rintro e w6 ⟨a6, c6, rfl, ht6, hw6⟩
            have HT6 : Hid (Calls Try.prog 9 #[.slice a6 l.length c6] w6 fun e w2 => e = .returned (.int .i64 many) ∧ w2 = w6) := ht6
            have BB : Hid (Below w.heap.size w w6) := B5.out.trans (hw6.mono B5.out.size)
            clear hw6 ht6
            go_wp2_with fail
            refine HT6.out.mono ?_
            rintro e w6 ⟨rfl, rfl⟩
            go_wp2
            go_ret
            exact ⟨Ns.ret_bool rfl, BB.out⟩
          · have HP0 : Hid (∀ (R : Nat → Prop) (y : Value) (u : World), IntsAt R u y x → Calls Try.prog 8 #[.int .i64 many, y] u fun e w' => ∃ a c, e = .returned (.tuple #[.slice a 0 c, .iface 54 (.int .i64 k)]) ∧ Below u.heap.size u w') := hsp
            clear hsp
            go_enter Try.func3, Try.ntmps3
            go_wp2_with fail
            refine (HOn.out _).mono ?_
            rintro e w0 ⟨rfl, hw0⟩
            have B0 : Hid (Below w.heap.size w w0) := hw0
            clear hw0
            go_wp2_with fail
            refine (HS.out _ B0.out).mono ?_
            rintro e w1 ⟨y1, rfl, hy1, hw1⟩
            have B1 : Hid (Below w.heap.size w w1) := B0.out.trans (hw1.mono B0.out.size)
            have HX : Hid (∀ u, Below w1.heap.size w1 u → IntsAt (fun _ => True) u y1 x) := fun u hu => (hy1.later hu).keep (fun _ _ _ => rfl) (fun _ _ _ => trivial)
            obtain ⟨ax, cx, rfl, _⟩ := hy1
            clear hw1
            go_wp2_with fail
            refine (HG.out _ B1.out).mono ?_
            rintro e w2 ⟨rfl, hw2⟩
            have B2 : Hid (Below w.heap.size w w2) := B1.out.trans (hw2.mono B1.out.size)
            have B2' : Hid (Below w1.heap.size w1 w2) := hw2
            have HG2 : Hid (Calls Try.prog 6 #[.slice ax x.length cx] w2 fun e w' => e = .returned (.tuple #[.int .i64 (gapL x), .nilIface]) ∧ Below w2.heap.size w2 w') := HGX.out _ w2 (HX.out _ B2'.out)
            clear hw2
            go_wp2_with fail
            refine HG2.out.mono ?_
            rintro e w3 ⟨rfl, hw3⟩
            have B3 : Hid (Below w.heap.size w w3) := B2.out.trans (hw3.mono B2.out.size)
            have B3' : Hid (Below w1.heap.size w1 w3) := B2'.out.trans (hw3.mono B2'.out.size)
            clear hw3 HG2
            go_wp2_with fail
            refine (HA1.out _ B3.out).mono ?_
            rintro e w5 ⟨y4, rfl, hy4, hw5⟩
            have B5 : Hid (Below w.heap.size w w5) := B3.out.trans (hw5.mono B3.out.size)
            have B5' : Hid (Below w1.heap.size w1 w5) := B3'.out.trans (hw5.mono B3'.out.size)
            obtain ⟨a4, c4, rfl, _⟩ := hy4
            clear hw5
            have HP1 : Hid (Calls Try.prog 8 #[.int .i64 many, .slice ax x.length cx] w5 fun e w' => ∃ a c, e = .returned (.tuple #[.slice a 0 c, .iface 54 (.int .i64 k)]) ∧ Below w5.heap.size w5 w') := HP0.out _ _ w5 (HX.out _ B5'.out)
            go_wp2_with fail
            refine HP1.out.mono ?_
            rintro e w6 ⟨a6, c6, rfl, hw6⟩
            have BB : Hid (Below w.heap.size w w6) := B5.out.trans (hw6.mono B5.out.size)
            clear hw6
            go_wp2
            go_ret
            exact ⟨Ns.ret_bool rfl, BB.out⟩
      · have HGX : Hid (∀ (y : Value) (u : World), IntsAt (fun _ => True) u y x → Calls Try.prog 6 #[y] u fun e w' => e = .returned (.tuple #[.int .i64 0, .iface 54 (.int .i64 (few x 1000))]) ∧ Below u.heap.size u w') := fun y u hy => by
          have := HGx.out _ _ y u hy
          rw [errV_ne hfx, okI_ne hfx] at this
          exact this
        generalize few x 1000 = ex at *
        clear hfx hf
        go_enter Try.func3, Try.ntmps3
        go_wp2_with fail
        refine (HOn.out _).mono ?_
        rintro e w0 ⟨rfl, hw0⟩
        have B0 : Hid (Below w.heap.size w w0) := hw0
        clear hw0
        go_wp2_with fail
        refine (HS.out _ B0.out).mono ?_
        rintro e w1 ⟨y1, rfl, hy1, hw1⟩
        have B1 : Hid (Below w.heap.size w w1) := B0.out.trans (hw1.mono B0.out.size)
        have HX : Hid (∀ u, Below w1.heap.size w1 u → IntsAt (fun _ => True) u y1 x) := fun u hu => (hy1.later hu).keep (fun _ _ _ => rfl) (fun _ _ _ => trivial)
        obtain ⟨ax, cx, rfl, _⟩ := hy1
        clear hw1
        go_wp2_with fail
        refine (HG.out _ B1.out).mono ?_
        rintro e w2 ⟨rfl, hw2⟩
        have B2 : Hid (Below w.heap.size w w2) := B1.out.trans (hw2.mono B1.out.size)
        have B2' : Hid (Below w1.heap.size w1 w2) := hw2
        have HG2 : Hid (Calls Try.prog 6 #[.slice ax x.length cx] w2 fun e w' => e = .returned (.tuple #[.int .i64 0, .iface 54 (.int .i64 ex)]) ∧ Below w2.heap.size w2 w') := HGX.out _ w2 (HX.out _ B2'.out)
        clear hw2
        go_wp2_with fail
        refine HG2.out.mono ?_
        rintro e w3 ⟨rfl, hw3⟩
        have B3 : Hid (Below w.heap.size w w3) := B2.out.trans (hw3.mono B2.out.size)
        have B3' : Hid (Below w1.heap.size w1 w3) := B2'.out.trans (hw3.mono B2'.out.size)
        clear hw3 HG2
        have BB := B3
        go_wp2
        go_ret
        exact ⟨Ns.ret_bool rfl, BB.out⟩
    · rw [errV_ne hf, okI_ne hf] at HG
      generalize few l 1000 = el at *
      clear hf
      obtain ⟨ge, hge⟩ : ∃ ge : Int × Int, ∀ (y : Value) (u : World), IntsAt (fun _ => True) u y x → Calls Try.prog 6 #[y] u fun e w' => e = .returned (.tuple #[.int .i64 ge.1, errV ge.2]) ∧ Below u.heap.size u w' := ⟨(_, _), fun y u hy => HGx.out _ x y u hy⟩
      obtain ⟨g2, e2⟩ := ge
      have HGX : Hid (∀ (y : Value) (u : World), IntsAt (fun _ => True) u y x → Calls Try.prog 6 #[y] u fun e w' => e = .returned (.tuple #[.int .i64 g2, errV e2]) ∧ Below u.heap.size u w') := hge
      clear hge
      go_enter Try.func3, Try.ntmps3
      go_wp2_with fail
      refine (HOn.out _).mono ?_
      rintro e w0 ⟨rfl, hw0⟩
      have B0 : Hid (Below w.heap.size w w0) := hw0
      clear hw0
      go_wp2_with fail
      refine (HS.out _ B0.out).mono ?_
      rintro e w1 ⟨y1, rfl, hy1, hw1⟩
      have B1 : Hid (Below w.heap.size w w1) := B0.out.trans (hw1.mono B0.out.size)
      have HX : Hid (∀ u, Below w1.heap.size w1 u → IntsAt (fun _ => True) u y1 x) := fun u hu => (hy1.later hu).keep (fun _ _ _ => rfl) (fun _ _ _ => trivial)
      obtain ⟨ax, cx, rfl, _⟩ := hy1
      clear hw1
      go_wp2_with fail
      refine (HG.out _ B1.out).mono ?_
      rintro e w2 ⟨rfl, hw2⟩
      have B2 : Hid (Below w.heap.size w w2) := B1.out.trans (hw2.mono B1.out.size)
      have B2' : Hid (Below w1.heap.size w1 w2) := hw2
      have HG2 : Hid (Calls Try.prog 6 #[.slice ax x.length cx] w2 fun e w' => e = .returned (.tuple #[.int .i64 g2, errV e2]) ∧ Below w2.heap.size w2 w') := HGX.out _ w2 (HX.out _ B2'.out)
      clear hw2
      go_wp2_with fail
      refine HG2.out.mono ?_
      rintro e w3 ⟨rfl, hw3⟩
      have B3 : Hid (Below w.heap.size w w3) := B2.out.trans (hw3.mono B2.out.size)
      have B3' : Hid (Below w1.heap.size w1 w3) := B2'.out.trans (hw3.mono B2'.out.size)
      clear hw3 HG2
      have BB := B3
      go_wp2
      go_ret
      exact ⟨Ns.ret_bool rfl, BB.out⟩
  · rw [errV_ne hE, okL_ne hE] at HS
    generalize shufE l part = es at *
    clear hE
    obtain ⟨gl, hgl⟩ : ∃ gl : Int × Int, ∀ u : World, Below w.heap.size w u → Calls Try.prog 6 #[.slice a l.length cap] u fun e w' => e = .returned (.tuple #[.int .i64 gl.1, errV gl.2]) ∧ Below u.heap.size u w' := ⟨(_, _), fun u hu => HG.out u hu⟩
    obtain ⟨g1, e1⟩ := gl
    replace HG : Hid (∀ u : World, Below w.heap.size w u → Calls Try.prog 6 #[.slice a l.length cap] u fun e w' => e = .returned (.tuple #[.int .i64 g1, errV e1]) ∧ Below u.heap.size u w') := hgl
    clear hgl
    obtain ⟨ge, hge⟩ : ∃ ge : Int × Int, ∀ (y : Value) (u : World), IntsAt (fun _ => True) u y [] → Calls Try.prog 6 #[y] u fun e w' => e = .returned (.tuple #[.int .i64 ge.1, errV ge.2]) ∧ Below u.heap.size u w' := ⟨(_, _), fun y u hy => HGx.out _ [] y u hy⟩
    obtain ⟨g2, e2⟩ := ge
    have HGX : Hid (∀ (y : Value) (u : World), IntsAt (fun _ => True) u y [] → Calls Try.prog 6 #[y] u fun e w' => e = .returned (.tuple #[.int .i64 g2, errV e2]) ∧ Below u.heap.size u w') := hge
    clear hge
    go_enter Try.func3, Try.ntmps3
    go_wp2_with fail
    refine (HOn.out _).mono ?_
    rintro e w0 ⟨rfl, hw0⟩
    have B0 : Hid (Below w.heap.size w w0) := hw0
    clear hw0
    go_wp2_with fail
    refine (HS.out _ B0.out).mono ?_
    rintro e w1 ⟨y1, rfl, hy1, hw1⟩
    have B1 : Hid (Below w.heap.size w w1) := B0.out.trans (hw1.mono B0.out.size)
    have HX : Hid (∀ u, Below w1.heap.size w1 u → IntsAt (fun _ => True) u y1 []) := fun u hu => (hy1.later hu).keep (fun _ _ _ => rfl) (fun _ _ _ => trivial)
    obtain ⟨ax, cx, rfl, _⟩ := hy1
    clear hw1
    go_wp2_with fail
    refine (HG.out _ B1.out).mono ?_
    rintro e w2 ⟨rfl, hw2⟩
    have B2 : Hid (Below w.heap.size w w2) := B1.out.trans (hw2.mono B1.out.size)
    have B2' : Hid (Below w1.heap.size w1 w2) := hw2
    have HG2 : Hid (Calls Try.prog 6 #[.slice ax 0 cx] w2 fun e w' => e = .returned (.tuple #[.int .i64 g2, errV e2]) ∧ Below w2.heap.size w2 w') := HGX.out _ w2 (HX.out _ B2'.out)
    clear hw2
    go_wp2_with fail
    refine HG2.out.mono ?_
    rintro e w3 ⟨rfl, hw3⟩
    have B3 : Hid (Below w.heap.size w w3) := B2.out.trans (hw3.mono B2.out.size)
    have B3' : Hid (Below w1.heap.size w1 w3) := B2'.out.trans (hw3.mono B2'.out.size)
    clear hw3 HG2
    have BB := B3
    go_wp2
    go_ret
    exact ⟨Ns.ret_bool rfl, BB.out⟩
end Ev
end Go.Proofs.Ytgbhknagmndbfai
