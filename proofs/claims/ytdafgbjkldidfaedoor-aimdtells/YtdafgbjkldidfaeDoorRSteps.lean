/- The document's Steps (package fairref1): so many of one up, all down. -/
import Derived.Test.YtdafgbjkldidfaeDoorRStep
import Derived.Test.YtdafgbjkldidfaeDoorPlains
namespace Go.Proofs.YtdafgbjkldidfaeDoor
namespace Ev
open Go.RowKit Fr Ns Ld Fl
set_option linter.unusedSimpArgs false
set_option linter.unusedVariables false

theorem st_next {l x : List Int} {limit up : Int} {k c : Nat} (h : stAt l limit up k = some (x, c)) (he : stepE x limit up = 0) : stAt l limit up (k + 1) = some (stepL x limit up, c + if limit < tot x then 1 else 0) := by
  simp only [stAt, h, Option.bind_some, oneO]
  rw [if_pos he]
theorem st_stop {l x : List Int} {limit up : Int} {k c n : Nat} (h : stAt l limit up k = some (x, c)) (he : stepE x limit up ≠ 0) (hn : k < n) : stAt l limit up n = none := by
  have h1 : stAt l limit up (k + 1) = none := by
    simp only [stAt, h, Option.bind_some, oneO]
    rw [if_neg he]
  cases hs : stAt l limit up n with
  | none => rfl
  | some p =>
    have := stAt_less (l := l) (limit := limit) (up := up) (k := k + 1) (m := n) hn (by rw [hs]; rfl)
    rw [h1] at this
    cases this

set_option maxRecDepth 100000 in
set_option maxHeartbeats 4000000 in
theorem RSteps_any {Q : Nat → Prop} (l : List Int) (limit up ticks : Int) (v : Value) (w : World) (hv : IntsAt Q w v l) :
    Calls Tryd.prog 11 #[v, .int .i64 limit, .int .i64 up, .int .i64 ticks] w fun e w' => ∃ y, e = .returned (.tuple #[y, .int .i64 (okI (runE l limit up ticks) (runC l limit up ticks : Int)), .int .i64 (runE l limit up ticks)]) ∧
      IntsAt (fun b => w.heap.size ≤ b) w' y (okL (runE l limit up ticks) (runL l limit up ticks)) ∧ Below w.heap.size w w' := by
  have HSt : Hid (∀ (R : Nat → Prop) (x : List Int) (y : Value) (u : World), IntsAt R u y x → Calls Tryd.prog 8 #[y, .int .i64 limit, .int .i64 up] u fun e w' => ∃ y, e = .returned (.tuple #[y, .bool (decide (stepE x limit up = 0) && decide (limit < tot x)), .int .i64 (stepE x limit up)]) ∧ IntsAt (fun b => u.heap.size ≤ b) w' y (okL (stepE x limit up) (stepL x limit up)) ∧ Below u.heap.size u w') := fun R x y u hy => RStep_any x limit up y u hy
  have HNil : Hid (∀ u : World, IntsAt (fun b => w.heap.size ≤ b) u (.slice none 0 0) []) := fun u => ⟨none, 0, rfl, ⟨Nat.le_refl _, by simp⟩, .inl rfl⟩
  have HS0 : Hid (∃ y1 w1, True) := ⟨v, w, trivial⟩
  have HL0 := (show Hid _ from HSt.out Q l v w hv)
  obtain ⟨a, cap, rfl, ⟨hm1, hm2⟩, hc⟩ := hv
  by_cases htk : ticks < 0 ∨ 60 < ticks
  · have HE : Hid (runE l limit up ticks = 1) := by show _ = _; rw [runE, if_pos htk]
    have hor : ticks < 0 ∨ (¬ ticks < 0 ∧ 60 < ticks) := by omega
    clear htk hc
    rcases hor with h1 | ⟨h1, h2⟩
    all_goals
      go_enter Tryd.func11, Tryd.ntmps11
      go_wp2
      refine bodyPost_ret (v := .tuple #[.slice none 0 0, .int .i64 0, .int .i64 1]) (by simp [results, Tryd.results11, go_sem]) rfl ?_
      rw [HE.out]
      exact ⟨_, rfl, HNil.out _, Below.refl _ _⟩
  · have t1 : ¬ ticks < 0 := by omega
    have t2 : ¬ 60 < ticks := by omega
    by_cases hgo : few l 10000 = 0 ∧ knobs limit up = true
    · obtain ⟨he, hk⟩ := hgo
      obtain ⟨n1, n6, hb⟩ := few_0.1 he
      have HE0 : Hid ((stAt l limit up ticks.toNat).isSome = true → runE l limit up ticks = 0) := fun h => by rw [runE, if_neg htk, if_pos he, if_pos hk, if_pos h]
      have HE4 : Hid (stAt l limit up ticks.toNat = none → runE l limit up ticks = 4) := fun h => by rw [runE, if_neg htk, if_pos he, if_pos hk, h]; rfl
      have HRn : Hid (∀ k x c, stAt l limit up k = some (x, c) → few x 10000 = 0 ∧ c ≤ k ∧ x.length = l.length) := fun k x c h => ⟨(ran he hk k x c h).few, (ran he hk k x c h).cuts, (ran he hk k x c h).len⟩
      have HKd : Hid (∀ x : List Int, few x 10000 = 0 → stepE x limit up = 0 ∨ stepE x limit up = 4) := fun x hx => stepE_kind hx hk
      have hk0 := stepE_kind he hk
      obtain ⟨tn, rfl⟩ : ∃ n : Nat, ticks = n := ⟨ticks.toNat, by omega⟩
      obtain ⟨bl, ol, rfl, hcl⟩ : ∃ b off, a = some ⟨b, off, none⟩ ∧ ∀ i, i < l.length → w.cell? ⟨b, off + i, none⟩ = some (.int .i64 (l.getD i 0)) := by
        rcases hc with h | ⟨b, off, rfl, h, _⟩
        · rw [h] at n1; simp at n1
        · exact ⟨b, off, rfl, h⟩
      have HNw : Hid (∀ u : World, Below w.heap.size w u → ∀ j z, (l.map (Value.int .i64))[j]? = some z → u.cell? ((⟨bl, ol, none⟩ : Addr).add j) = some z) := fun u hu j z hj => by
        rw [add_addr]
        have hl : j < l.length := by have := (List.getElem?_eq_some_iff.1 hj).1; simpa using this
        rw [cell_later hu (hcl j hl), ← hj]
        simp [List.getD, List.getElem?_eq_getElem hl]
      have q1 : (stepE l limit up != 0 && stepE l limit up != 4) = false := by rcases hk0 with h | h <;> rw [h] <;> rfl
      have hl6 : ¬ (6 : Int) < (l.length : Int) := by omega
      have HS0' : Hid (stAt l limit up 0 = some (l, 0)) := rfl
      have HRl : Hid (∀ p, stAt l limit up tn = some p → runL l limit up tn = p.1 ∧ runC l limit up tn = p.2) := fun p h => by
        unfold runL runC
        rw [Int.toNat_natCast, h]
        exact ⟨rfl, rfl⟩
      rw [Int.toNat_natCast] at HE0 HE4
      obtain ⟨i0, hi, hz0, hz1, hz2⟩ := info_parts infoInt
      replace HL0 : Hid (Calls Tryd.prog 8 #[.slice (some ⟨bl, ol, none⟩) l.length cap, .int .i64 limit, .int .i64 up] w fun e w' => ∃ y, e = .returned (.tuple #[y, .bool (decide (stepE l limit up = 0) && decide (limit < tot l)), .int .i64 (stepE l limit up)]) ∧ IntsAt (fun b => w.heap.size ≤ b) w' y (okL (stepE l limit up) (stepL l limit up)) ∧ Below w.heap.size w w') := HL0
      generalize hs0 : stepE l limit up = s0 at *
      have hs04 : s0 = 0 ∨ s0 = 4 := hk0
      clear hcl hc hb htk he hk hk0 hs0
      generalize (decide (s0 = 0) && decide (limit < tot l)) = d0 at *
      go_enter Tryd.func11, Tryd.ntmps11
      go_wp2_with fail
      refine HL0.out.mono ?_
      rintro e w1 ⟨y1, rfl, hy1, hw1⟩
      have B1 : Hid (Below w.heap.size w w1) := hw1
      have z1 : w.heap.size ≤ w1.heap.size := B1.out.size
      obtain ⟨ya, yn, yk, rfl⟩ : ∃ a n c, y1 = .slice a n c := by obtain ⟨a, c, e, _⟩ := hy1; exact ⟨_, _, _, e⟩
      clear hw1 hy1
      rcases hs04 with rfl | rfl
      all_goals
        go_wp2_with (at_builtin; go_must (refine wpList_append_own _ rfl (.tmp 46) (.tmp 47) 22 rfl w.heap.size 3 i0 (.int .i64 0) 1 8 Tryd.underlying22 hi hz0 hz1 hz2 rfl (by decide) _ _ _ rfl (World.ownsRow_nil _ _ _ _) ⟨bl, ol, none⟩ l.length cap (l.map (Value.int .i64)) rfl (by simp) (HNw.out _ B1.out) (by intro u hu; obtain ⟨x, _, rfl⟩ := List.mem_map.1 hu; rfl) (by unfold maxLen; omega) (by omega) z1 ?_))
        intro x2 w2 hown hgrow _
        have B2 : Hid (Below w.heap.size w w2) := B1.out.grown hgrow z1 (by intro k hk; cases hk)
        have X2 : Hid (IntsAt (fun b => w.heap.size ≤ b) w2 x2 l) := ints_of_owns (base := w.heap.size) (by omega) (by simpa using hown) (fun _ h => h)
        obtain ⟨xa, xn, xk, rfl⟩ : ∃ a n c, x2 = .slice a n c := by obtain ⟨a, c, e, _⟩ := X2.out; exact ⟨_, _, _, e⟩
        clear hown hgrow
        go_wp2
        go_loopw [14, 15, 16, 17, 18, 19] (fun o s15 i _ _ _ wq => ∃ (k c : Nat) (x : List Int), k ≤ tn ∧ c ≤ k ∧ i = .int .i64 k ∧ s15 = .int .i64 c ∧ (∃ a n q, o = .slice a n q) ∧ Hid (stAt l limit up k = some (x, c)) ∧ Hid (IntsAt (fun b => w.heap.size ≤ b) wq o x) ∧ Hid (Below w.heap.size w wq)) (fun _ _ i _ _ _ _ => tn - (intOf i).toNat)
        case atStart => exact ⟨0, 0, l, by omega, by omega, rfl, rfl, ⟨_, _, _, rfl⟩, HS0', X2, B2⟩
        case round =>
          obtain ⟨k, c, x, hk, hck, rfl, rfl, ⟨oa, on, oq, rfl⟩, hst, hx, hbel⟩ := hrel
          by_cases hlt : k < tn
          · obtain ⟨r1, _, _⟩ := HRn.out k x c hst.out
            have hkd := HKd.out x r1
            have HS := (show Hid _ from HSt.out _ x _ wr hx.out)
            replace HS : Hid (Calls Tryd.prog 8 #[.slice oa on oq, .int .i64 limit, .int .i64 up] wr fun e w' => ∃ y, e = .returned (.tuple #[y, .bool (decide (stepE x limit up = 0) && decide (limit < tot x)), .int .i64 (stepE x limit up)]) ∧ IntsAt (fun b => wr.heap.size ≤ b) w' y (okL (stepE x limit up) (stepL x limit up)) ∧ Below wr.heap.size wr w') := HS
            rcases hkd with he | he
            · have HN : Hid (stAt l limit up (k + 1) = some (stepL x limit up, c + if limit < tot x then 1 else 0)) := st_next hst.out he
              rw [he, okL_0] at HS
              by_cases hd : limit < tot x
              · have e1 : (decide ((0 : Int) = 0) && decide (limit < tot x)) = true := by rw [decide_eq_true hd]; rfl
                rw [e1] at HS
                rw [if_pos hd] at HN
                clear e1 hd he r1
                go_wp2_with fail
                refine HS.out.mono ?_
                rintro e w3 ⟨y3, rfl, hy3, hw3⟩
                have R1 : Hid (Below w.heap.size w w3) := Bel.call hbel.out (Nat.le_refl _) hw3
                have R2 : Hid (IntsAt (fun b => w.heap.size ≤ b) w3 y3 (stepL x limit up)) := hy3.keep (fun _ _ _ => rfl) (fun b hb _ => Nat.le_trans hbel.out.size hb)
                obtain ⟨pa, pn, pk, rfl⟩ : ∃ a n c, y3 = .slice a n c := by obtain ⟨a, c, e, _⟩ := hy3; exact ⟨_, _, _, e⟩
                clear hw3 hy3
                go_wp2
                go_roundw
                case rel => exact ⟨k + 1, c + 1, _, by omega, by omega, by go_num, by go_num, ⟨_, _, _, rfl⟩, HN, R2, R1⟩
                case measure => simp [intOf]; omega
              · have e1 : (decide ((0 : Int) = 0) && decide (limit < tot x)) = false := by rw [decide_eq_false hd]; rfl
                rw [e1] at HS
                rw [if_neg hd, Nat.add_zero] at HN
                clear e1 hd he r1
                go_wp2_with fail
                refine HS.out.mono ?_
                rintro e w3 ⟨y3, rfl, hy3, hw3⟩
                have R1 : Hid (Below w.heap.size w w3) := Bel.call hbel.out (Nat.le_refl _) hw3
                have R2 : Hid (IntsAt (fun b => w.heap.size ≤ b) w3 y3 (stepL x limit up)) := hy3.keep (fun _ _ _ => rfl) (fun b hb _ => Nat.le_trans hbel.out.size hb)
                obtain ⟨pa, pn, pk, rfl⟩ : ∃ a n c, y3 = .slice a n c := by obtain ⟨a, c, e, _⟩ := hy3; exact ⟨_, _, _, e⟩
                clear hw3 hy3
                go_wp2
                go_roundw
                case rel => exact ⟨k + 1, c, _, by omega, by omega, by go_num, by go_num, ⟨_, _, _, rfl⟩, HN, R2, R1⟩
                case measure => simp [intOf]; omega
            · have HN : Hid (runE l limit up tn = 4) := HE4.out (st_stop hst.out (by rw [he]; decide) hlt)
              rw [he] at HS
              clear he r1
              go_wp2_with fail
              refine HS.out.mono ?_
              rintro e w3 ⟨y3, rfl, hy3, hw3⟩
              have R1 : Hid (Below w.heap.size w w3) := Bel.call hbel.out (Nat.le_refl _) hw3
              obtain ⟨pa, pn, pk, rfl⟩ : ∃ a n c, y3 = .slice a n c := by obtain ⟨a, c, e, _⟩ := hy3; exact ⟨_, _, _, e⟩
              clear hw3 hy3
              go_wp2
              refine bodyPost_ret (v := .tuple #[.slice none 0 0, .int .i64 0, .int .i64 4]) (by simp [results, Tryd.results11, go_sem]) rfl ?_
              rw [HN.out]
              exact ⟨_, rfl, HNil.out _, R1.out⟩
          · obtain rfl : k = tn := by omega
            have HN : Hid (runE l limit up k = 0) := HE0.out (by rw [hst.out]; rfl)
            obtain ⟨g1, g2⟩ := HRl.out _ hst.out
            have HG1 : Hid (runL l limit up k = x) := g1
            have HG2 : Hid (runC l limit up k = c) := g2
            clear g1 g2
            go_wp2
            refine bodyPost_ret (v := .tuple #[.slice oa on oq, .int .i64 c, .int .i64 0]) (by simp [results, Tryd.results11, go_sem]) rfl ?_
            rw [HN.out, HG1.out, HG2.out]
            exact ⟨_, rfl, hx.out, hbel.out⟩
    · have HX : Hid (∃ ek : Int, ek ≠ 0 ∧ runE l limit up ticks = ek ∧ stepE l limit up = ek ∧ (ek ≠ 4 ∨ 6 < l.length)) := by
        by_cases he : few l 10000 = 0
        · have hk : ¬ knobs limit up = true := fun h => hgo ⟨he, h⟩
          exact ⟨1, by decide, by rw [runE, if_neg htk, if_pos he, if_neg hk], by rw [stepE, if_pos he, if_neg hk], .inl (by decide)⟩
        · refine ⟨few l 10000, he, by rw [runE, if_neg htk, if_neg he], by rw [stepE, if_neg he], ?_⟩
          unfold few
          split
          · exact .inl (by decide)
          · split
            · exact .inr (by assumption)
            · split <;> exact .inl (by decide)
      obtain ⟨ek, h1, h2, h3, h4⟩ := HX.out
      have HE : Hid (runE l limit up ticks = ek) := h2
      have HK : Hid (okL ek (runL l limit up ticks) = []) := okL_ne h1 _
      have HC0 : Hid (okI ek (runC l limit up ticks : Int) = 0) := okI_ne h1 _
      rw [h3, decide_eq_false h1, Bool.false_and] at HL0
      have q0 : (ek != 0) = true := by simp [h1]
      have hor : ((ek != 4) = true) ∨ ((ek != 4) = false ∧ (6 : Int) < (l.length : Int)) := by
        by_cases h : ek = 4
        · right
          refine ⟨by simp [h], ?_⟩
          rcases h4 with h4 | h4
          · exact absurd h h4
          · omega
        · left; simp [h]
      clear hgo HX h1 h2 h3 h4 hc htk
      rcases hor with q4 | ⟨q4, h6⟩
      all_goals
        go_enter Tryd.func11, Tryd.ntmps11
        go_wp2_with fail
        refine (Calls.mono HL0.out ?_)
        rintro e w1 ⟨y1, rfl, hy1, hw1⟩
        have B1 : Hid (Below w.heap.size w w1) := hw1
        obtain ⟨ya, yn, yk, rfl⟩ : ∃ a n c, y1 = .slice a n c := by obtain ⟨a, c, e, _⟩ := hy1; exact ⟨_, _, _, e⟩
        clear hw1 hy1
        go_wp2
        refine bodyPost_ret (v := .tuple #[.slice none 0 0, .int .i64 0, .int .i64 ek]) (by simp [results, Tryd.results11, go_sem]) rfl ?_
        rw [HE.out, HK.out, HC0.out]
        exact ⟨_, rfl, HNil.out _, B1.out⟩
end Ev
end Go.Proofs.YtdafgbjkldidfaeDoor
