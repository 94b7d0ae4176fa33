/- The document's Step (package fairref1): one up, all down. -/
import Derived.Test.YtdafgbjkldidfaeDoorRFew
import Derived.Test.YtdafgbjkldidfaeDoorRTot
import Derived.Test.YtdafgbjkldidfaeDoorPlains
import Derived.OwnWalk
namespace Go.Proofs.YtdafgbjkldidfaeDoor
namespace Ev
open Go.RowKit Fr Ns Ld Fl
set_option linter.unusedSimpArgs false
set_option linter.unusedVariables false

theorem st_one (w : World) (x : Value) (T : TypeId) : ∀ j u, [x][j]? = some u → (w.alloc (.cells #[x] T)).cell? ((⟨w.heap.size, 0, none⟩ : Addr).add j) = some u := by
  intro j u hj
  match j, hj with
  | 0, hj => simp at hj; subst hj; simp [Addr.add]
theorem map_take_succ (l : List Int) (g : Int → Int) (k : Nat) (h : k < l.length) : ((l.take (k + 1)).map g).map (Value.int .i64) = ((l.take k).map g).map (Value.int .i64) ++ [.int .i64 (g (l.getD k 0))] := by
  rw [take_snoc l k h 0, List.map_append, List.map_append]
  rfl
theorem half_div {x : Int} (h : 0 ≤ x) : x.tdiv 2 = x / 2 := Int.tdiv_eq_ediv_of_nonneg h

set_option maxRecDepth 100000 in
set_option maxHeartbeats 4000000 in
theorem RStep_any {Q : Nat → Prop} (l : List Int) (limit up : Int) (v : Value) (w : World) (hv : IntsAt Q w v l) :
    Calls Tryd.prog 8 #[v, .int .i64 limit, .int .i64 up] w fun e w' => ∃ y, e = .returned (.tuple #[y, .bool (decide (stepE l limit up = 0) && decide (limit < tot l)), .int .i64 (stepE l limit up)]) ∧
      IntsAt (fun b => w.heap.size ≤ b) w' y (okL (stepE l limit up) (stepL l limit up)) ∧ Below w.heap.size w w' := by
  have HFw : Hid (Calls Tryd.prog 21 #[v, .int .i64 10000] w fun e w' => e = .returned (.int .i64 (few l 10000)) ∧ w' = w) := RFew_any l 10000 v w hv
  have HVv : Hid (IntsAt Q w v l) := hv
  have HNil : Hid (∀ u : World, IntsAt (fun b => w.heap.size ≤ b) u (.slice none 0 0) []) := fun u => ⟨none, 0, rfl, ⟨Nat.le_refl _, by simp⟩, .inl rfl⟩
  obtain ⟨a, cap, rfl, ⟨hm1, hm2⟩, hc⟩ := hv
  have HC : Hid (∀ i, i < l.length → ∃ b off, a = some ⟨b, off, none⟩ ∧ ∀ u, Below w.heap.size w u → u.cell? ⟨b, off + i, none⟩ = some (.int .i64 (l.getD i 0))) := by
    intro i hi
    rcases hc with h | ⟨b, off, rfl, h, _⟩
    · rw [h] at hi; simp at hi
    · exact ⟨b, off, rfl, fun u hu => cell_later hu (h i hi)⟩
  clear hc
  by_cases he : few l 10000 = 0
  · obtain ⟨n1, n6, hb⟩ := few_0.1 he
    have HT : Hid (Calls Tryd.prog 22 #[.slice a l.length cap] w fun e w' => e = .returned (.int .i64 (tot l)) ∧ w' = w) := RTot_any l _ w HVv.out (by omega) (fun x hx => by have := hb x hx; omega)
    have Hb : Hid (∀ k, k < l.length → 0 ≤ l.getD k 0 ∧ l.getD k 0 ≤ 10000) := fun k hk => hb _ (getD_mem l k hk 0)
    by_cases hk : knobs limit up = true
    · obtain ⟨k1, k2, k3, k4⟩ := knobs_iff.1 hk
      rw [he] at HFw
      obtain ⟨i0, hi, hz0, hz1, hz2⟩ := info_parts infoInt
      by_cases hd : limit < tot l
      · have HE : Hid (stepE l limit up = 0) := by show _ = _; rw [stepE, if_pos he, if_pos hk, if_pos hd]
        have HL : Hid (stepL l limit up = l.map (· / 2)) := by show _ = _; rw [stepL, if_pos hd]
        have HD : Hid (decide (limit < tot l) = true) := decide_eq_true hd
        clear he hk hb
        go_enter Tryd.func8, Tryd.ntmps8
        go_wp2_with fail
        refine HFw.out.mono ?_
        rintro e w ⟨rfl, rfl⟩
        go_wp2_with fail
        refine HT.out.mono ?_
        rintro e w ⟨rfl, rfl⟩
        go_wp2
        go_loopw [11, 12, 13] (fun o i _ wq => ∃ k : Nat, k ≤ l.length ∧ i = .int .i64 k ∧ Hid (wq.ownsRow w.heap.size 3 1 o k (((l.take k).map (· / 2)).map (Value.int .i64))) ∧ Hid (Below w.heap.size w wq)) (fun _ i _ _ => l.length - (intOf i).toNat)
        case atStart => exact ⟨0, by omega, rfl, World.ownsRow_nil _ _ _ _, Below.refl _ _⟩
        case round =>
          obtain ⟨k, hk, rfl, hown, hbel⟩ := hrel
          by_cases hlt : k < l.length
          · obtain ⟨b, off, rfl, hcl⟩ := HC.out k hlt
            have c0 := hcl _ hbel.out
            obtain ⟨b1, b2⟩ := Hb.out k hlt
            have HS : Hid (((l.take (k + 1)).map (· / 2)).map (Value.int .i64) = ((l.take k).map (· / 2)).map (Value.int .i64) ++ [.int .i64 (l.getD k 0 / 2)]) := map_take_succ l _ k hlt
            have hq := half_div b1
            have hsr : w.heap.size ≤ wr.heap.size := hbel.out.size
            clear hcl
            generalize l.getD k 0 = y at *
            go_wp2_with (at_builtin; go_must (refine wpList_append_own _ rfl (.tmp 62) (.tmp 64) 22 rfl w.heap.size 3 i0 (.int .i64 0) 1 8 Tryd.underlying22 hi hz0 hz1 hz2 rfl (by decide) _ _ _ rfl (hown.out.alloc _) ⟨wr.heap.size, 0, none⟩ 1 1 [.int .i64 (y / 2)] rfl rfl (st_one _ _ _) (by intro u hu; simp at hu; subst hu; rfl) (by unfold maxLen; omega) (by omega) (by simp; omega) ?_))
            intro v' w3 hown' hgrow _
            have R1 : Hid (Below w.heap.size w w3) := rel_append hbel.out hsr hown.out hgrow
            have R2 : Hid (w3.ownsRow w.heap.size 3 1 v' (k + 1) (((l.take (k + 1)).map (· / 2)).map (Value.int .i64))) := by
              show World.ownsRow _ _ _ _ _ _ _
              rw [HS.out]
              simpa [List.map_map, Function.comp_def] using hown'
            clear hown' hgrow
            go_wp2
            go_roundw
            case rel => exact ⟨k + 1, by omega, by go_num, R2, R1⟩
            case measure => simp [intOf]; omega
          · obtain rfl : k = l.length := by omega
            have HX : Hid (IntsAt (fun b => w.heap.size ≤ b) wr u11 (l.map (· / 2))) := ints_of_owns (base := w.heap.size) (by simp; omega) (by have := hown.out; rw [List.take_of_length_le (Nat.le_refl _)] at this; simpa using this) (fun _ h => h)
            go_wp2
            refine bodyPost_ret (v := .tuple #[u11, .bool true, .int .i64 0]) (by simp [results, Tryd.results8, go_sem]) rfl ?_
            rw [HE.out, HL.out, HD.out]
            exact ⟨_, rfl, HX.out, hbel.out⟩
      · have HD : Hid (decide (limit < tot l) = false) := decide_eq_false hd
        have qd : decide (limit < tot l) = false := HD.out
        have qd2 : (!decide (limit < tot l)) = true := by rw [qd]; rfl
        have HE : Hid ((∀ j, j < l.length → l.getD j 0 + up ≤ 10000) → stepE l limit up = 0) := fun h => by
          rw [stepE, if_pos he, if_pos hk, if_neg hd, if_neg]
          rw [Bool.not_eq_true, List.any_eq_false]
          intro x hx
          obtain ⟨j, hj, rfl⟩ := List.mem_iff_getElem.1 hx
          have := h j hj
          simp [over]
          simpa [List.getD, List.getElem?_eq_getElem hj] using this
        have HE4 : Hid (∀ j, j < l.length → 10000 < l.getD j 0 + up → stepE l limit up = 4) := fun j hj h => by
          rw [stepE, if_pos he, if_pos hk, if_neg hd, if_pos]
          rw [List.any_eq_true]
          exact ⟨_, getD_mem l j hj 0, by simp only [over, decide_eq_true_eq]; exact h⟩
        have HL : Hid (stepL l limit up = l.map (· + up)) := by show _ = _; rw [stepL, if_neg hd]
        clear he hk hb
        go_enter Tryd.func8, Tryd.ntmps8
        go_wp2_with fail
        refine HFw.out.mono ?_
        rintro e w ⟨rfl, rfl⟩
        go_wp2_with fail
        refine HT.out.mono ?_
        rintro e w ⟨rfl, rfl⟩
        go_wp2
        go_loopw [11, 12, 13] (fun o i _ wq => ∃ k : Nat, k ≤ l.length ∧ i = .int .i64 k ∧ Hid (wq.ownsRow w.heap.size 3 1 o k (((l.take k).map (· + up)).map (Value.int .i64))) ∧ Hid (Below w.heap.size w wq) ∧ Hid (∀ j, j < k → l.getD j 0 + up ≤ 10000)) (fun _ i _ _ => l.length - (intOf i).toNat)
        case atStart => exact ⟨0, by omega, rfl, World.ownsRow_nil _ _ _ _, Below.refl _ _, fun j hj => by omega⟩
        case round =>
          obtain ⟨k, hk, rfl, hown, hbel, hall⟩ := hrel
          by_cases hlt : k < l.length
          · obtain ⟨b, off, rfl, hcl⟩ := HC.out k hlt
            have c0 := hcl _ hbel.out
            obtain ⟨b1, b2⟩ := Hb.out k hlt
            have HS : Hid (((l.take (k + 1)).map (· + up)).map (Value.int .i64) = ((l.take k).map (· + up)).map (Value.int .i64) ++ [.int .i64 (l.getD k 0 + up)]) := map_take_succ l _ k hlt
            have HA : Hid (l.getD k 0 + up ≤ 10000 → ∀ j, j < k + 1 → l.getD j 0 + up ≤ 10000) := fun h j hj => by
              by_cases e : j = k
              · rw [e]; exact h
              · exact hall.out j (by omega)
            have H4 : Hid (10000 < l.getD k 0 + up → stepE l limit up = 4) := fun h => HE4.out k hlt h
            have hq := half_div b1
            have hsr : w.heap.size ≤ wr.heap.size := hbel.out.size
            clear hcl
            generalize l.getD k 0 = y at *
            by_cases hbig : 10000 < y + up
            · have H4' : Hid (stepE l limit up = 4) := H4.out hbig
              have qb : decide (10000 < y + up) = true := decide_eq_true hbig
              clear H4 HA HS
              go_wp2
              refine bodyPost_ret (v := .tuple #[.slice none 0 0, .bool false, .int .i64 4]) (by simp [results, Tryd.results8, go_sem]) rfl ?_
              rw [H4'.out]
              exact ⟨_, rfl, HNil.out _, hbel.out⟩
            · have R3 : Hid (∀ j, j < k + 1 → l.getD j 0 + up ≤ 10000) := HA.out (by omega)
              go_wp2_with (at_builtin; go_must (refine wpList_append_own _ rfl (.tmp 62) (.tmp 64) 22 rfl w.heap.size 3 i0 (.int .i64 0) 1 8 Tryd.underlying22 hi hz0 hz1 hz2 rfl (by decide) _ _ _ rfl (hown.out.alloc _) ⟨wr.heap.size, 0, none⟩ 1 1 [.int .i64 (y + up)] rfl rfl (st_one _ _ _) (by intro u hu; simp at hu; subst hu; rfl) (by unfold maxLen; omega) (by omega) (by simp; omega) ?_))
              intro v' w3 hown' hgrow _
              have R1 : Hid (Below w.heap.size w w3) := rel_append hbel.out hsr hown.out hgrow
              have R2 : Hid (w3.ownsRow w.heap.size 3 1 v' (k + 1) (((l.take (k + 1)).map (· + up)).map (Value.int .i64))) := by
                show World.ownsRow _ _ _ _ _ _ _
                rw [HS.out]
                simpa [List.map_map, Function.comp_def] using hown'
              clear hown' hgrow
              go_wp2
              go_roundw
              case rel => exact ⟨k + 1, by omega, by go_num, R2, R1, R3⟩
              case measure => simp [intOf]; omega
          · obtain rfl : k = l.length := by omega
            have HX : Hid (IntsAt (fun b => w.heap.size ≤ b) wr u11 (l.map (· + up))) := ints_of_owns (base := w.heap.size) (by simp; omega) (by have := hown.out; rw [List.take_of_length_le (Nat.le_refl _)] at this; simpa using this) (fun _ h => h)
            have HE0 : Hid (stepE l limit up = 0) := HE.out hall.out
            go_wp2
            refine bodyPost_ret (v := .tuple #[u11, .bool false, .int .i64 0]) (by simp [results, Tryd.results8, go_sem]) rfl ?_
            rw [HE0.out, HL.out, HD.out]
            exact ⟨_, rfl, HX.out, hbel.out⟩
    · have HE : Hid (stepE l limit up = 1) := by show _ = _; rw [stepE, if_pos he, if_neg hk]
      have hor : limit < 1 ∨ (¬ limit < 1 ∧ 1000 < limit) ∨ (¬ limit < 1 ∧ ¬ 1000 < limit ∧ up < 1) ∨ (¬ limit < 1 ∧ ¬ 1000 < limit ∧ ¬ up < 1 ∧ 1000 < up) := by
        have : ¬ (1 ≤ limit ∧ limit ≤ 1000 ∧ 1 ≤ up ∧ up ≤ 1000) := fun h => hk (knobs_iff.2 h)
        omega
      rw [he] at HFw
      clear he hk hb
      rcases hor with h1 | ⟨h1, h2⟩ | ⟨h1, h2, h3⟩ | ⟨h1, h2, h3, h4⟩
      all_goals
        go_enter Tryd.func8, Tryd.ntmps8
        go_wp2_with fail
        refine HFw.out.mono ?_
        rintro e w ⟨rfl, rfl⟩
        go_wp2
        refine bodyPost_ret (v := .tuple #[.slice none 0 0, .bool false, .int .i64 1]) (by simp [results, Tryd.results8, go_sem]) rfl ?_
        rw [HE.out]
        exact ⟨_, rfl, HNil.out _, Below.refl _ _⟩
  · have HE : Hid (stepE l limit up = few l 10000) := by show _ = _; rw [stepE, if_neg he]
    have qe : (few l 10000 == 0) = false := beq_eq_false_iff_ne.2 he
    have qe2 : (few l 10000 != 0) = true := by simp [he]
    have hne : few l 10000 ≠ 0 := he
    generalize few l 10000 = ek at *
    have HK : Hid (okL ek (stepL l limit up) = []) := okL_ne hne _
    have HD : Hid ((decide (ek = 0) && decide (limit < tot l)) = false) := by show _ = _; rw [decide_eq_false hne]; rfl
    clear he hne
    go_enter Tryd.func8, Tryd.ntmps8
    go_wp2_with fail
    refine HFw.out.mono ?_
    rintro e w ⟨rfl, rfl⟩
    go_wp2
    refine bodyPost_ret (v := .tuple #[.slice none 0 0, .bool false, .int .i64 ek]) (by simp [results, Tryd.results8, go_sem]) rfl ?_
    rw [HE.out, HK.out, HD.out]
    exact ⟨_, rfl, HNil.out _, Below.refl _ _⟩
end Ev
end Go.Proofs.YtdafgbjkldidfaeDoor
