/- slices.SortFunc's insertion sort over few fractions, by package rank's order. -/
import Derived.Test.YtdldgefahgojaakGreatDoorRkA
import Derived.Test.YtdldgefahgojaakGreatDoorPlains
import Derived.Deep.RegionHeld3
namespace Go.Proofs.YtdldgefahgojaakGreatDoor
namespace Fl
open Go.RowKit Fr Ns Ld
set_option linter.unusedSimpArgs false
set_option linter.unusedVariables false

theorem flatS_set : ∀ (l : List (Int × Int)) (sp : List Value) (m : Nat) (a : Int × Int), m < l.length → flat (l.set m a) ++ sp = ((flat l ++ sp).set (m * 2) (.int .i64 a.1)).set (m * 2 + 1) (.int .i64 a.2) := by
  intro l sp
  induction l with
  | nil => intro m a h; simp at h
  | cons b r ih =>
    intro m a h
    cases m with
    | zero => rfl
    | succ m =>
      rw [show (m + 1) * 2 = m * 2 + 1 + 1 by omega]
      simp only [List.set_cons_succ, flat, List.cons_append]
      rw [ih m a (by simpa using h)]
theorem flatS_at (l : List (Int × Int)) (sp : List Value) (i : Nat) (h : i < l.length) : (flat l ++ sp)[i * 2]? = some (.int .i64 (l.getD i (0, 0)).1) ∧ (flat l ++ sp)[i * 2 + 1]? = some (.int .i64 (l.getD i (0, 0)).2) := by
  have e := flat_length l
  rw [List.getElem?_append_left (by omega), List.getElem?_append_left (by omega)]
  exact flat_at l i h

set_option maxRecDepth 100000 in
set_option maxHeartbeats 4000000 in
theorem insertion_any (l : List (Int × Int)) (g cap B : Nat) (sp : List Value) (w : World) (hf : ∀ a ∈ l, faultP a = 0) (h6 : l.length ≤ 6) (h1 : 1 ≤ l.length) (hB : B ≤ g) (hr : RowAt w g 50 (flat l ++ sp)) :
    Calls Tryz.prog 77 #[.slice (some ⟨g, 0, none⟩) l.length cap, .int .i64 0, .int .i64 l.length, .func (.func 36) #[] #[]] w fun e w' => e = .returned (.tuple #[]) ∧ RowAt w' g 50 (flat (sortP l) ++ sp) ∧ Below B w w' := by
  have hp : Pos l := fun a ha => by
    have := (fault_0 (hf a ha)).1
    omega
  have HO : Hid (∀ i k, i < l.length → k < i → ∀ u : World, Calls Tryz.prog 36 #[.agg #[.int .i64 (l.getD i (0, 0)).1, .int .i64 (l.getD i (0, 0)).2], .agg #[.int .i64 ((sortP (l.take i)).getD k (0, 0)).1, .int .i64 ((sortP (l.take i)).getD k (0, 0)).2]] u fun e w' => e = .returned (.int .i64 (ordP (l.getD i (0, 0)) ((sortP (l.take i)).getD k (0, 0)))) ∧ Below u.heap.size u w') := fun i k hi hk u =>
    order_any (hf _ (getD_mem l i hi _)) (hf _ (List.mem_of_mem_take (sortP_mem.1 (getD_mem (sortP (l.take i)) k (by rw [sortTake_length (by omega)]; exact hk) _)))) u
  have H1 : Hid (stL l 1 = l) := stL_1 l
  have HA : Hid (stL l l.length = sortP l) := stL_all l _ (Nat.le_refl _)
  have HCs : Hid (∀ i, i < l.length → curL l i i = stL l i) := fun i hi => curL_start hi
  have HCl : Hid (∀ i j, i < l.length → j ≤ i → (curL l i j).length = l.length) := fun i j hi hj => curL_length hi hj
  have HCa : Hid (∀ i j, i < l.length → j ≤ i → (curL l i j).getD j (0, 0) = l.getD i (0, 0)) := fun i j hi hj => curL_at hi hj
  have HCb : Hid (∀ i j, i < l.length → j < i → (curL l i (j + 1)).getD j (0, 0) = (sortP (l.take i)).getD j (0, 0)) := fun i j hi hj => curL_ahead hi hj
  have HCw : Hid (∀ i j, i < l.length → j < i → ((curL l i (j + 1)).set (j + 1) ((sortP (l.take i)).getD j (0, 0))).set j (l.getD i (0, 0)) = curL l i j) := fun i j hi hj => curL_swap hi hj
  have HCe : Hid (∀ i j, i < l.length → j ≤ i → (∀ k, j ≤ k → k < i → ordP (l.getD i (0, 0)) ((sortP (l.take i)).getD k (0, 0)) < 0) → (j = 0 ∨ ¬ ordP (l.getD i (0, 0)) ((sortP (l.take i)).getD (j - 1) (0, 0)) < 0) → curL l i j = stL l (i + 1)) := fun i j hi hj a b => curL_end hp hi hj a b
  have HR0 : Hid (RowAt w g 50 (flat (stL l 1) ++ sp)) := by rw [H1.out]; exact hr
  obtain ⟨S, hS⟩ : ∃ S : Nat → List (Int × Int), ∀ i, sortP (l.take i) = S i := ⟨_, fun _ => rfl⟩
  simp only [hS] at HO HCb HCw HCe
  generalize sortP l = sl at *
  have hg0 : g < w.heap.size := hr.lt
  clear hS hp hf hr H1
  go_enter Tryz.func77, Tryz.ntmps77
  go_wp2
  go_loopw [8, 9] (fun s8 _ wr => ∃ i : Nat, 1 ≤ i ∧ i ≤ l.length ∧ s8 = .int .i64 i ∧ Hid (RowAt wr g 50 (flat (stL l i) ++ sp)) ∧ Hid (Below B w wr)) (fun s8 _ _ => l.length - (intOf s8).toNat)
  case atStart => exact ⟨1, by omega, by omega, by go_num, HR0, Below.refl _ _⟩
  case round =>
    obtain ⟨i, hi1, hi, rfl, hro, hbo⟩ := hrel
    by_cases hlt : i < l.length
    · go_wp2
      go_loopw [9] (fun s9 wq => ∃ j : Nat, j ≤ i ∧ s9 = .int .i64 j ∧ Hid (∀ k, j ≤ k → k < i → ordP (l.getD i (0, 0)) ((S i).getD k (0, 0)) < 0) ∧ Hid (RowAt wq g 50 (flat (curL l i j) ++ sp)) ∧ Hid (Below B w wq)) (fun s9 _ => (intOf s9).toNat)
      case atStart => exact ⟨i, Nat.le_refl _, rfl, fun k h1 h2 => by omega, by rw [HCs.out i hlt]; exact hro, hbo⟩
      case round =>
        obtain ⟨j, hj, rfl, hgt, hrj, hbj⟩ := hrel
        cases j with
        | zero =>
          have HN : Hid (RowAt wr g 50 (flat (stL l (i + 1)) ++ sp)) := by rw [← HCe.out i 0 hlt hj hgt.out (.inl rfl)]; exact hrj
          go_wp2_with fail
          go_quiet (fail)
          have HN2 : Hid (RowAt (wr.drewN nq) g 50 (flat (stL l (i + 1)) ++ sp)) := HN.out
          have HB2 : Hid (Below B w (wr.drewN nq)) := below_drewN hbj.out _
          generalize wr.drewN nq = wz at *
          go_wp2
          go_roundw
          case rel => exact ⟨i + 1, by omega, by omega, by go_num, HN2, HB2⟩
          case measure => simp [intOf]; omega
        | succ jp =>
          have hji : jp < i := by omega
          have hlen := HCl.out i (jp + 1) hlt hj
          obtain ⟨f1, f2⟩ := flatS_at (curL l i (jp + 1)) sp (jp + 1) (by omega)
          obtain ⟨f3, f4⟩ := flatS_at (curL l i (jp + 1)) sp jp (by omega)
          rw [HCa.out i (jp + 1) hlt hj] at f1 f2
          rw [HCb.out i jp hlt hji] at f3 f4
          have hO := HO.out i jp hlt hji
          have hW := HCw.out i jp hlt hji
          have hE := HCe.out i (jp + 1) hlt hj hgt.out
          rw [Nat.add_sub_cancel] at hE
          have hgt' : ordP (l.getD i (0, 0)) ((S i).getD jp (0, 0)) < 0 → ∀ k, jp ≤ k → k < i → ordP (l.getD i (0, 0)) ((S i).getD k (0, 0)) < 0 := fun h k hk1 hk2 => by
            by_cases e : k = jp
            · rw [e]; exact h
            · exact hgt.out k (by omega) hk2
          have HGT : Hid (ordP (l.getD i (0, 0)) ((S i).getD jp (0, 0)) < 0 → ∀ k, jp ≤ k → k < i → ordP (l.getD i (0, 0)) ((S i).getD k (0, 0)) < 0) := hgt'
          have hgoal : ordP (l.getD i (0, 0)) ((S i).getD jp (0, 0)) < 0 ∨ ¬ ordP (l.getD i (0, 0)) ((S i).getD jp (0, 0)) < 0 := Decidable.em _
          have hz : g < wr.heap.size := hrj.out.lt
          have jz : (jp : Int) + 1 < (l.length : Int) := by omega
          have jz1 : (jp : Int) < (l.length : Int) := by omega
          have hwp : IntKind.i64.wrap (jp : Int) = (jp : Int) := by rw [IntKind.wrap_i64]; omega
          have p0 : (0 : Int) ≤ (jp : Int) + 1 := by omega
          have e0 : ((jp : Int) + 1).toNat = jp + 1 := by omega
          have p1 : (0 : Int) < (jp : Int) + 1 := by omega
          rcases hgoal with hlt0 | hge0
          · have HNX : Hid (∀ k, jp ≤ k → k < i → ordP (l.getD i (0, 0)) ((S i).getD k (0, 0)) < 0) := HGT.out hlt0
            clear hgt' hE HGT
            have HW : Hid (((curL l i (jp + 1)).set (jp + 1) ((S i).getD jp (0, 0))).set jp (l.getD i (0, 0)) = curL l i jp) := hW
            have HO' : Hid (∀ u : World, Calls Tryz.prog 36 #[.agg #[.int .i64 (l.getD i (0, 0)).1, .int .i64 (l.getD i (0, 0)).2], .agg #[.int .i64 ((S i).getD jp (0, 0)).1, .int .i64 ((S i).getD jp (0, 0)).2]] u fun e w' => e = .returned (.int .i64 (ordP (l.getD i (0, 0)) ((S i).getD jp (0, 0)))) ∧ Below u.heap.size u w') := hO
            clear hW hO
            generalize ordP (l.getD i (0, 0)) ((S i).getD jp (0, 0)) = od at HO' hlt0
            have HL : Hid (jp + 1 < (curL l i (jp + 1)).length ∧ jp < ((curL l i (jp + 1)).set (jp + 1) ((S i).getD jp (0, 0))).length) := ⟨by omega, by rw [List.length_set]; omega⟩
            obtain ⟨X, HX⟩ : ∃ X, Hid (l.getD i (0, 0) = X) := ⟨_, rfl⟩
            obtain ⟨Y, HY⟩ : ∃ Y, Hid ((S i).getD jp (0, 0) = Y) := ⟨_, rfl⟩
            rw [HX.out] at HO' f1 f2 HW
            rw [HY.out] at HO' f3 f4 HW HL
            obtain ⟨x1, x2⟩ := X
            obtain ⟨y1, y2⟩ := Y
            simp only at HO' f1 f2 f3 f4
            have c1 := hrj.out.cell f1
            have c2 := hrj.out.cell f2
            have c3 := hrj.out.cell f3
            have c4 := hrj.out.cell f4
            clear f1 f2 f3 f4 hlen
            go_wp2_with fail
            have P1 : Hid (Below wr.heap.size wr wr.drew) := (Below.refl _ _).drew
            have HSA : Hid (∀ u : World, Below wr.heap.size wr u → u.cell? ⟨g, (jp + 1) * 2, none⟩ = some (.int .i64 x1) ∧ u.cell? ⟨g, (jp + 1) * 2 + 1, none⟩ = some (.int .i64 x2) ∧ u.cell? ⟨g, jp * 2, none⟩ = some (.int .i64 y1) ∧ u.cell? ⟨g, jp * 2 + 1, none⟩ = some (.int .i64 y2)) := fun u hu => ⟨cell_later hu c1, cell_later hu c2, cell_later hu c3, cell_later hu c4⟩
            go_region_held3 (fun u => u.cell? ⟨g, (jp + 1) * 2, none⟩ = some (.int .i64 x1) ∧ u.cell? ⟨g, (jp + 1) * 2 + 1, none⟩ = some (.int .i64 x2) ∧ u.cell? ⟨g, jp * 2, none⟩ = some (.int .i64 y1) ∧ u.cell? ⟨g, jp * 2 + 1, none⟩ = some (.int .i64 y2))
              ((refine HSA.out _ ?_; first | exact P1.out | exact Hbo.out))
              (first | (go_at_call 36; refine (HO'.out _).mono ?_; rintro e wo ⟨rfl, hwo⟩; have Hbo : Hid (Below wr.heap.size wr wo) := Bel.call P1.out (Nat.le_refl _) hwo))
            all_goals
              have HRw : Hid (RowAt wo g 50 (flat (curL l i (jp + 1)) ++ sp)) := hrj.out.later Hbo.out hz
              have HBo : Hid (Below B w wo) := Bel.call hbj.out (by omega) Hbo.out
              obtain ⟨d1, d2, d3, d4⟩ := HSA.out _ Hbo.out
              have z1 := HRw.out.frozen ((jp + 1) * 2)
              have z2 := HRw.out.frozen ((jp + 1) * 2 + 1)
              have z3 := HRw.out.frozen (jp * 2)
              have z4 := HRw.out.frozen (jp * 2 + 1)
              have hzo : g < wo.heap.size := HRw.out.lt
              clear hwo c1 c2 c3 c4 P1 HSA Hbo
              go_wp2_with fail
              go_region
              have HRn : Hid (RowAt (((((wo.setCell ⟨g, (jp + 1) * 2, none⟩ (.int .i64 y1)).setCell ⟨g, (jp + 1) * 2 + 1, none⟩ (.int .i64 y2)).setCell ⟨g, jp * 2, none⟩ (.int .i64 x1)).setCell ⟨g, jp * 2 + 1, none⟩ (.int .i64 x2)).drew) g 50 (flat (curL l i jp) ++ sp)) := by
                show RowAt _ _ _ _
                rw [← HW.out, flatS_set _ _ _ _ HL.out.2, flatS_set _ _ _ _ HL.out.1]
                exact (((HRw.out.set ((jp + 1) * 2) (.int .i64 y1)).set ((jp + 1) * 2 + 1) (.int .i64 y2)).set (jp * 2) (.int .i64 x1)).set (jp * 2 + 1) (.int .i64 x2)
              have HBn : Hid (Below B w (((((wo.setCell ⟨g, (jp + 1) * 2, none⟩ (.int .i64 y1)).setCell ⟨g, (jp + 1) * 2 + 1, none⟩ (.int .i64 y2)).setCell ⟨g, jp * 2, none⟩ (.int .i64 x1)).setCell ⟨g, jp * 2 + 1, none⟩ (.int .i64 x2)).drew)) := ((((HBo.out.setCell hB _).setCell hB _).setCell hB _).setCell hB _).drew
              clear d1 d2 d3 d4 z1 z2 z3 z4 hzo
              generalize (((((wo.setCell ⟨g, (jp + 1) * 2, none⟩ (.int .i64 y1)).setCell ⟨g, (jp + 1) * 2 + 1, none⟩ (.int .i64 y2)).setCell ⟨g, jp * 2, none⟩ (.int .i64 x1)).setCell ⟨g, jp * 2 + 1, none⟩ (.int .i64 x2)).drew) = wz at *
              go_wp2
              go_roundw
              case rel => exact ⟨jp, by omega, by go_num, HNX, HRn, HBn⟩
              case measure => simp [intOf] <;> omega
          · have HN : Hid (curL l i (jp + 1) = stL l (i + 1)) := hE (by first | exact .inr hge0 | exact .inr (by omega))
            have HO' : Hid (∀ u : World, Calls Tryz.prog 36 #[.agg #[.int .i64 (l.getD i (0, 0)).1, .int .i64 (l.getD i (0, 0)).2], .agg #[.int .i64 ((S i).getD jp (0, 0)).1, .int .i64 ((S i).getD jp (0, 0)).2]] u fun e w' => e = .returned (.int .i64 (ordP (l.getD i (0, 0)) ((S i).getD jp (0, 0)))) ∧ Below u.heap.size u w') := hO
            clear hgt' hE HGT hW hO
            generalize ordP (l.getD i (0, 0)) ((S i).getD jp (0, 0)) = od at HO' hge0
            obtain ⟨X, HX⟩ : ∃ X, Hid (l.getD i (0, 0) = X) := ⟨_, rfl⟩
            obtain ⟨Y, HY⟩ : ∃ Y, Hid ((S i).getD jp (0, 0) = Y) := ⟨_, rfl⟩
            rw [HX.out] at HO' f1 f2
            rw [HY.out] at HO' f3 f4
            obtain ⟨x1, x2⟩ := X
            obtain ⟨y1, y2⟩ := Y
            simp only at HO' f1 f2 f3 f4
            have c1 := hrj.out.cell f1
            have c2 := hrj.out.cell f2
            have c3 := hrj.out.cell f3
            have c4 := hrj.out.cell f4
            clear f1 f2 f3 f4 hlen
            go_wp2_with fail
            have P1 : Hid (Below wr.heap.size wr wr.drew) := (Below.refl _ _).drew
            have HSA : Hid (∀ u : World, Below wr.heap.size wr u → u.cell? ⟨g, (jp + 1) * 2, none⟩ = some (.int .i64 x1) ∧ u.cell? ⟨g, (jp + 1) * 2 + 1, none⟩ = some (.int .i64 x2) ∧ u.cell? ⟨g, jp * 2, none⟩ = some (.int .i64 y1) ∧ u.cell? ⟨g, jp * 2 + 1, none⟩ = some (.int .i64 y2)) := fun u hu => ⟨cell_later hu c1, cell_later hu c2, cell_later hu c3, cell_later hu c4⟩
            go_region_held3 (fun u => u.cell? ⟨g, (jp + 1) * 2, none⟩ = some (.int .i64 x1) ∧ u.cell? ⟨g, (jp + 1) * 2 + 1, none⟩ = some (.int .i64 x2) ∧ u.cell? ⟨g, jp * 2, none⟩ = some (.int .i64 y1) ∧ u.cell? ⟨g, jp * 2 + 1, none⟩ = some (.int .i64 y2))
              ((refine HSA.out _ ?_; first | exact P1.out | exact Hbo.out))
              (first | (go_at_call 36; refine (HO'.out _).mono ?_; rintro e wo ⟨rfl, hwo⟩; have Hbo : Hid (Below wr.heap.size wr wo) := Bel.call P1.out (Nat.le_refl _) hwo))
            all_goals
              have HRw : Hid (RowAt wo g 50 (flat (stL l (i + 1)) ++ sp)) := by rw [← HN.out]; exact hrj.out.later Hbo.out hz
              have HBo : Hid (Below B w wo) := Bel.call hbj.out (by omega) Hbo.out
              clear hwo c1 c2 c3 c4 P1 HSA Hbo
              go_wp2
              go_roundw
              case rel => exact ⟨i + 1, by omega, by omega, by go_num, HRw, HBo⟩
              case measure => simp [intOf]; omega
    · obtain rfl : i = l.length := by omega
      have HN : Hid (RowAt wr g 50 (flat sl ++ sp)) := by rw [← HA.out]; exact hro
      go_wp2
      go_end0
      exact ⟨rfl, HN.out, hbo.out⟩
end Fl
end Go.Proofs.YtdldgefahgojaakGreatDoor
