/- Pieces of one walk, one text behind the other. -/
import Derived.Test.YtpnmmmlckdkcdakGreatDoorPlains
import Derived.Test.YtpnmmmlckdkcdakGreatDoorFracAll
import Derived.Deep.RegionHeld3
/- Package rank's order and check; math/bits.Len of few. -/
namespace Go.Proofs.YtpnmmmlckdkcdakGreatDoor
namespace Fl
open Go.RowKit Fr Ns Ld
set_option linter.unusedSimpArgs false
set_option linter.unusedVariables false

theorem RkCmp_right {a b : Int × Int} (ha : faultP a = 0) (hb : faultP b = 0) (w : World) :
    Calls Tryz.prog 40 #[.agg #[.int .i64 a.1, .int .i64 a.2], .agg #[.int .i64 b.1, .int .i64 b.2]] w fun e w' => e = .returned (.tuple #[.int .i64 (ordP a b), .nilIface]) ∧ Below w.heap.size w w' := by
  have := Compare_any a.1 a.2 b.1 b.2 w
  have h1 : fault a.1 a.2 = 0 := ha
  have hf : fault2 a.1 a.2 b.1 b.2 = 0 := by rw [fault2, if_pos h1]; exact hb
  rw [cmpV, if_pos hf, hf, errV_0] at this
  exact this

theorem order_any {a b : Int × Int} (ha : faultP a = 0) (hb : faultP b = 0) (w : World) :
    Calls Tryz.prog 44 #[.agg #[.int .i64 a.1, .int .i64 a.2], .agg #[.int .i64 b.1, .int .i64 b.2]] w fun e w' => e = .returned (.int .i64 (ordP a b)) ∧ Below w.heap.size w w' := by
  have HC : Hid (∀ u : World, Calls Tryz.prog 40 #[.agg #[.int .i64 a.1, .int .i64 a.2], .agg #[.int .i64 b.1, .int .i64 b.2]] u fun e w' => e = .returned (.tuple #[.int .i64 (ordP a b), .nilIface]) ∧ Below u.heap.size u w') := fun u => RkCmp_right ha hb u
  generalize ordP a b = c at *
  generalize a.1 = a1 at *
  generalize a.2 = a2 at *
  generalize b.1 = b1 at *
  generalize b.2 = b2 at *
  clear ha hb
  go_enter Tryz.func44, Tryz.ntmps44
  go_wp2_with fail
  refine (HC.out _).mono ?_
  rintro e w1 ⟨rfl, hw1⟩
  have HB : Hid (Below w.heap.size w w1) := (((Below.refl _ _).alloc (Nat.le_refl _) _).alloc (by simp) _).trans (hw1.mono (by simp; omega))
  clear hw1
  go_wp2
  go_ret
  exact ⟨rfl, HB.out⟩

set_option maxRecDepth 100000 in
set_option maxHeartbeats 1000000 in
theorem Len64_few (n : Nat) (hn : n ≤ 6) (w : World) :
    Calls Tryz.prog 138 #[.int .u64 n] w fun e w' => (∃ k : Int, e = .returned (.int .i64 k)) ∧ w' = w := by
  obtain rfl | rfl | rfl | rfl | rfl | rfl | rfl : n = 0 ∨ n = 1 ∨ n = 2 ∨ n = 3 ∨ n = 4 ∨ n = 5 ∨ n = 6 := by omega
  all_goals
    go_enter Tryz.func138, Tryz.ntmps138
    go_wp2
    go_ret
    exact ⟨⟨_, rfl⟩, rfl⟩

theorem Len_few (n : Nat) (hn : n ≤ 6) (w : World) :
    Calls Tryz.prog 106 #[.int .u64 n] w fun e w' => (∃ k : Int, e = .returned (.int .i64 k)) ∧ w' = w := by
  have HL : Hid (Calls Tryz.prog 138 #[.int .u64 n] w fun e w' => (∃ k : Int, e = .returned (.int .i64 k)) ∧ w' = w) := Len64_few n hn w
  go_enter Tryz.func106, Tryz.ntmps106
  go_wp2_with fail
  refine HL.out.mono ?_
  rintro e w1 ⟨⟨k, rfl⟩, rfl⟩
  go_wp2
  go_ret
  exact ⟨⟨_, rfl⟩, rfl⟩

set_option maxHeartbeats 1000000 in
theorem RCheck_any {Q : Nat → Prop} (r : List (Int × Int)) (x : Value) (w : World) (hx : FracsAt Q w x r) :
    Calls Tryz.prog 76 #[x] w fun e w' => e = .returned (errV (sortE r)) ∧ Below w.heap.size w w' := by
  obtain ⟨ar, capr, rfl, ⟨hm3, hn3⟩, hc⟩ := hx
  have HR : Hid (∀ k, k < r.length → ∃ b off, ar = some ⟨b, off, none⟩ ∧ ∀ u, Below w.heap.size w u → u.cell? ⟨b, off + k * 2, none⟩ = some (.int .i64 (r.getD k (0, 0)).1) ∧ u.cell? ⟨b, off + k * 2 + 1, none⟩ = some (.int .i64 (r.getD k (0, 0)).2)) := by
    intro k hk
    rcases hc with h0 | ⟨b, off, rfl, hc, _⟩
    · rw [h0] at hk; simp at hk
    · exact ⟨b, off, rfl, fun u hu => ⟨cell_later hu (hc k hk).1, cell_later hu (hc k hk).2⟩⟩
  clear hc
  by_cases h6 : 6 < r.length
  · have HE : Hid (sortE r = 4) := by show _ = _; rw [sortE, if_pos h6]
    have HV : Hid (errV (sortE r) = .iface 65 (.int .i64 4)) := by show _ = _; rw [HE.out]; exact errV_ne (by decide)
    have h6' : (6 : Int) < (r.length : Int) := by omega
    go_enter Tryz.func76, Tryz.ntmps76
    go_wp2
    go_ret
    exact ⟨by rw [HV.out]; rfl, Below.refl _ _⟩
  · have HE : Hid (sortE r = ratesE r) := by show _ = _; rw [sortE, if_neg h6]
    have HRd : Hid (∀ k, k < r.length → ratesE (r.drop k) = if faultP (r.getD k (0, 0)) = 0 then ratesE (r.drop (k + 1)) else faultP (r.getD k (0, 0))) := fun k hk => ratesE_drop r k hk
    have HRe : Hid (ratesE (r.drop r.length) = 0) := by show _ = _; rw [List.drop_of_length_le (Nat.le_refl _)]; rfl
    have h6' : ¬ (6 : Int) < (r.length : Int) := by omega
    have hr6 : r.length ≤ 6 := by omega
    clear h6
    go_enter Tryz.func76, Tryz.ntmps76
    go_wp2
    go_loopw [4, 12] (fun _ i wr => ∃ k : Nat, k ≤ r.length ∧ i = .int .i64 k ∧ Hid (Below w.heap.size w wr) ∧ Hid (ratesE r = ratesE (r.drop k))) (fun _ i _ => r.length - (intOf i).toNat)
    case atStart => exact ⟨0, by omega, rfl, Below.refl _ _, rfl⟩
    case round =>
      obtain ⟨k, hk, rfl, hbel, hn⟩ := hrel
      have hz : w.heap.size ≤ wr.heap.size := hbel.out.size
      by_cases hlt : k < r.length
      · obtain ⟨b, off, rfl, hc⟩ := HR.out k hlt
        obtain ⟨c1, c2⟩ := hc _ hbel.out
        have hs := HRd.out k hlt
        have HF : Hid (∀ u, Calls Tryz.prog 99 #[.agg #[.int .i64 (r.getD k (0, 0)).1, .int .i64 (r.getD k (0, 0)).2]] u fun e w' => e = .returned (errV (faultP (r.getD k (0, 0)))) ∧ Below u.heap.size u w') := fun u => Check_any _ _ u
        by_cases hf : faultP (r.getD k (0, 0)) = 0
        · have HN2 : Hid (ratesE r = ratesE (r.drop (k + 1))) := by show _ = _; rw [hn.out, hs, if_pos hf]
          rw [hf, errV_0] at HF
          generalize (r.getD k (0, 0)).1 = t at *
          generalize (r.getD k (0, 0)).2 = bo at *
          clear hs hc hf
          go_wp2_with fail
          refine (HF.out _).mono ?_
          rintro e w2 ⟨rfl, hw2⟩
          have HB2 : Hid (Below w.heap.size w w2) := (hbel.out.alloc hz _).trans (hw2.mono (by simp; omega))
          clear hw2
          go_wp2
          go_roundw
          case rel => exact ⟨k + 1, by omega, by go_num, HB2, HN2⟩
          case measure => simp [intOf]; omega
        · have HN2 : Hid (sortE r = faultP (r.getD k (0, 0))) := by show _ = _; rw [HE.out, hn.out, hs, if_neg hf]
          have HV : Hid (errV (faultP (r.getD k (0, 0))) = .iface 65 (.int .i64 (faultP (r.getD k (0, 0))))) := errV_ne hf
          rw [HV.out] at HF
          generalize faultP (r.getD k (0, 0)) = fk at *
          generalize (r.getD k (0, 0)).1 = t at *
          generalize (r.getD k (0, 0)).2 = bo at *
          clear hs hc hf
          go_wp2_with fail
          refine (HF.out _).mono ?_
          rintro e w2 ⟨rfl, hw2⟩
          have HB2 : Hid (Below w.heap.size w w2) := (hbel.out.alloc hz _).trans (hw2.mono (by simp; omega))
          clear hw2
          go_wp2
          go_ret
          exact ⟨by rw [HN2.out, HV.out]; rfl, HB2.out⟩
      · obtain rfl : k = r.length := by omega
        have HN2 : Hid (sortE r = 0) := by show _ = _; rw [HE.out, hn.out, HRe.out]
        go_wp2
        go_ret
        exact ⟨by rw [HN2.out, errV_0]; rfl, hbel.out⟩
end Fl
end Go.Proofs.YtpnmmmlckdkcdakGreatDoor

/- slices.SortFunc's insertion sort over few fractions, by package rank's order. -/
namespace Go.Proofs.YtpnmmmlckdkcdakGreatDoor
namespace Fl
open Go.RowKit Fr Ns Ld
set_option linter.unusedSimpArgs false
set_option linter.unusedVariables false

theorem flatS_set : ∀ (l : List (Int × Int)) (sp : List Value) (m : Nat) (a : Int × Int), m < l.length → flat (l.set m a) ++ sp = ((flat l ++ sp).set (m * 2) (.int .i64 a.1)).set (m * 2 + 1) (.int .i64 a.2) := by
  intro l sp
  induction l with
  | nil => intro m a h; simp at h
  | cons b r ih =>
    intro m a h
    cases m with
    | zero => rfl
    | succ m =>
      rw [show (m + 1) * 2 = m * 2 + 1 + 1 by omega]
      simp only [List.set_cons_succ, flat, List.cons_append]
      rw [ih m a (by simpa using h)]
theorem flatS_at (l : List (Int × Int)) (sp : List Value) (i : Nat) (h : i < l.length) : (flat l ++ sp)[i * 2]? = some (.int .i64 (l.getD i (0, 0)).1) ∧ (flat l ++ sp)[i * 2 + 1]? = some (.int .i64 (l.getD i (0, 0)).2) := by
  have e := flat_length l
  rw [List.getElem?_append_left (by omega), List.getElem?_append_left (by omega)]
  exact flat_at l i h

set_option maxRecDepth 100000 in
set_option maxHeartbeats 4000000 in
theorem insertion_any (l : List (Int × Int)) (g cap B : Nat) (sp : List Value) (w : World) (hf : ∀ a ∈ l, faultP a = 0) (h6 : l.length ≤ 6) (h1 : 1 ≤ l.length) (hB : B ≤ g) (hr : RowAt w g 58 (flat l ++ sp)) :
    Calls Tryz.prog 129 #[.slice (some ⟨g, 0, none⟩) l.length cap, .int .i64 0, .int .i64 l.length, .func (.func 44) #[] #[]] w fun e w' => e = .returned (.tuple #[]) ∧ RowAt w' g 58 (flat (sortP l) ++ sp) ∧ Below B w w' := by
  have hp : Pos l := fun a ha => by
    have := (fault_0 (hf a ha)).1
    omega
  have HO : Hid (∀ i k, i < l.length → k < i → ∀ u : World, Calls Tryz.prog 44 #[.agg #[.int .i64 (l.getD i (0, 0)).1, .int .i64 (l.getD i (0, 0)).2], .agg #[.int .i64 ((sortP (l.take i)).getD k (0, 0)).1, .int .i64 ((sortP (l.take i)).getD k (0, 0)).2]] u fun e w' => e = .returned (.int .i64 (ordP (l.getD i (0, 0)) ((sortP (l.take i)).getD k (0, 0)))) ∧ Below u.heap.size u w') := fun i k hi hk u =>
    order_any (hf _ (getD_mem l i hi _)) (hf _ (List.mem_of_mem_take (sortP_mem.1 (getD_mem (sortP (l.take i)) k (by rw [sortTake_length (by omega)]; exact hk) _)))) u
  have H1 : Hid (stL l 1 = l) := stL_1 l
  have HA : Hid (stL l l.length = sortP l) := stL_all l _ (Nat.le_refl _)
  have HCs : Hid (∀ i, i < l.length → curL l i i = stL l i) := fun i hi => curL_start hi
  have HCl : Hid (∀ i j, i < l.length → j ≤ i → (curL l i j).length = l.length) := fun i j hi hj => curL_length hi hj
  have HCa : Hid (∀ i j, i < l.length → j ≤ i → (curL l i j).getD j (0, 0) = l.getD i (0, 0)) := fun i j hi hj => curL_at hi hj
  have HCb : Hid (∀ i j, i < l.length → j < i → (curL l i (j + 1)).getD j (0, 0) = (sortP (l.take i)).getD j (0, 0)) := fun i j hi hj => curL_ahead hi hj
  have HCw : Hid (∀ i j, i < l.length → j < i → ((curL l i (j + 1)).set (j + 1) ((sortP (l.take i)).getD j (0, 0))).set j (l.getD i (0, 0)) = curL l i j) := fun i j hi hj => curL_swap hi hj
  have HCe : Hid (∀ i j, i < l.length → j ≤ i → (∀ k, j ≤ k → k < i → ordP (l.getD i (0, 0)) ((sortP (l.take i)).getD k (0, 0)) < 0) → (j = 0 ∨ ¬ ordP (l.getD i (0, 0)) ((sortP (l.take i)).getD (j - 1) (0, 0)) < 0) → curL l i j = stL l (i + 1)) := fun i j hi hj a b => curL_end hp hi hj a b
  have HR0 : Hid (RowAt w g 58 (flat (stL l 1) ++ sp)) := by rw [H1.out]; exact hr
  obtain ⟨S, hS⟩ : ∃ S : Nat → List (Int × Int), ∀ i, sortP (l.take i) = S i := ⟨_, fun _ => rfl⟩
  simp only [hS] at HO HCb HCw HCe
  generalize sortP l = sl at *
  have hg0 : g < w.heap.size := hr.lt
  clear hS hp hf hr H1
  go_enter Tryz.func129, Tryz.ntmps129
  go_wp2
  go_loopw [8, 9] (fun s8 _ wr => ∃ i : Nat, 1 ≤ i ∧ i ≤ l.length ∧ s8 = .int .i64 i ∧ Hid (RowAt wr g 58 (flat (stL l i) ++ sp)) ∧ Hid (Below B w wr)) (fun s8 _ _ => l.length - (intOf s8).toNat)
  case atStart => exact ⟨1, by omega, by omega, by go_num, HR0, Below.refl _ _⟩
  case round =>
    obtain ⟨i, hi1, hi, rfl, hro, hbo⟩ := hrel
    by_cases hlt : i < l.length
    · go_wp2
      go_loopw [9] (fun s9 wq => ∃ j : Nat, j ≤ i ∧ s9 = .int .i64 j ∧ Hid (∀ k, j ≤ k → k < i → ordP (l.getD i (0, 0)) ((S i).getD k (0, 0)) < 0) ∧ Hid (RowAt wq g 58 (flat (curL l i j) ++ sp)) ∧ Hid (Below B w wq)) (fun s9 _ => (intOf s9).toNat)
      case atStart => exact ⟨i, Nat.le_refl _, rfl, fun k h1 h2 => by omega, by rw [HCs.out i hlt]; exact hro, hbo⟩
      case round =>
        obtain ⟨j, hj, rfl, hgt, hrj, hbj⟩ := hrel
        cases j with
        | zero =>
          have HN : Hid (RowAt wr g 58 (flat (stL l (i + 1)) ++ sp)) := by rw [← HCe.out i 0 hlt hj hgt.out (.inl rfl)]; exact hrj
          go_wp2_with fail
          go_quiet (fail)
          have HN2 : Hid (RowAt (wr.drewN nq) g 58 (flat (stL l (i + 1)) ++ sp)) := HN.out
          have HB2 : Hid (Below B w (wr.drewN nq)) := below_drewN hbj.out _
          generalize wr.drewN nq = wz at *
          go_wp2
          go_roundw
          case rel => exact ⟨i + 1, by omega, by omega, by go_num, HN2, HB2⟩
          case measure => simp [intOf]; omega
        | succ jp =>
          have hji : jp < i := by omega
          have hlen := HCl.out i (jp + 1) hlt hj
          obtain ⟨f1, f2⟩ := flatS_at (curL l i (jp + 1)) sp (jp + 1) (by omega)
          obtain ⟨f3, f4⟩ := flatS_at (curL l i (jp + 1)) sp jp (by omega)
          rw [HCa.out i (jp + 1) hlt hj] at f1 f2
          rw [HCb.out i jp hlt hji] at f3 f4
          have hO := HO.out i jp hlt hji
          have hW := HCw.out i jp hlt hji
          have hE := HCe.out i (jp + 1) hlt hj hgt.out
          rw [Nat.add_sub_cancel] at hE
          have hgt' : ordP (l.getD i (0, 0)) ((S i).getD jp (0, 0)) < 0 → ∀ k, jp ≤ k → k < i → ordP (l.getD i (0, 0)) ((S i).getD k (0, 0)) < 0 := fun h k hk1 hk2 => by
            by_cases e : k = jp
            · rw [e]; exact h
            · exact hgt.out k (by omega) hk2
          have HGT : Hid (ordP (l.getD i (0, 0)) ((S i).getD jp (0, 0)) < 0 → ∀ k, jp ≤ k → k < i → ordP (l.getD i (0, 0)) ((S i).getD k (0, 0)) < 0) := hgt'
          have hgoal : ordP (l.getD i (0, 0)) ((S i).getD jp (0, 0)) < 0 ∨ ¬ ordP (l.getD i (0, 0)) ((S i).getD jp (0, 0)) < 0 := Decidable.em _
          have hz : g < wr.heap.size := hrj.out.lt
          have jz : (jp : Int) + 1 < (l.length : Int) := by omega
          have jz1 : (jp : Int) < (l.length : Int) := by omega
          have hwp : IntKind.i64.wrap (jp : Int) = (jp : Int) := by rw [IntKind.wrap_i64]; omega
          have p0 : (0 : Int) ≤ (jp : Int) + 1 := by omega
          have e0 : ((jp : Int) + 1).toNat = jp + 1 := by omega
          have p1 : (0 : Int) < (jp : Int) + 1 := by omega
          rcases hgoal with hlt0 | hge0
          · have HNX : Hid (∀ k, jp ≤ k → k < i → ordP (l.getD i (0, 0)) ((S i).getD k (0, 0)) < 0) := HGT.out hlt0
            clear hgt' hE HGT
            have HW : Hid (((curL l i (jp + 1)).set (jp + 1) ((S i).getD jp (0, 0))).set jp (l.getD i (0, 0)) = curL l i jp) := hW
            have HO' : Hid (∀ u : World, Calls Tryz.prog 44 #[.agg #[.int .i64 (l.getD i (0, 0)).1, .int .i64 (l.getD i (0, 0)).2], .agg #[.int .i64 ((S i).getD jp (0, 0)).1, .int .i64 ((S i).getD jp (0, 0)).2]] u fun e w' => e = .returned (.int .i64 (ordP (l.getD i (0, 0)) ((S i).getD jp (0, 0)))) ∧ Below u.heap.size u w') := hO
            clear hW hO
            generalize ordP (l.getD i (0, 0)) ((S i).getD jp (0, 0)) = od at HO' hlt0
            have HL : Hid (jp + 1 < (curL l i (jp + 1)).length ∧ jp < ((curL l i (jp + 1)).set (jp + 1) ((S i).getD jp (0, 0))).length) := ⟨by omega, by rw [List.length_set]; omega⟩
            obtain ⟨X, HX⟩ : ∃ X, Hid (l.getD i (0, 0) = X) := ⟨_, rfl⟩
            obtain ⟨Y, HY⟩ : ∃ Y, Hid ((S i).getD jp (0, 0) = Y) := ⟨_, rfl⟩
            rw [HX.out] at HO' f1 f2 HW
            rw [HY.out] at HO' f3 f4 HW HL
            obtain ⟨x1, x2⟩ := X
            obtain ⟨y1, y2⟩ := Y
            simp only at HO' f1 f2 f3 f4
            have c1 := hrj.out.cell f1
            have c2 := hrj.out.cell f2
            have c3 := hrj.out.cell f3
            have c4 := hrj.out.cell f4
            clear f1 f2 f3 f4 hlen
            go_wp2_with fail
            have P1 : Hid (Below wr.heap.size wr wr.drew) := (Below.refl _ _).drew
            have HSA : Hid (∀ u : World, Below wr.heap.size wr u → u.cell? ⟨g, (jp + 1) * 2, none⟩ = some (.int .i64 x1) ∧ u.cell? ⟨g, (jp + 1) * 2 + 1, none⟩ = some (.int .i64 x2) ∧ u.cell? ⟨g, jp * 2, none⟩ = some (.int .i64 y1) ∧ u.cell? ⟨g, jp * 2 + 1, none⟩ = some (.int .i64 y2)) := fun u hu => ⟨cell_later hu c1, cell_later hu c2, cell_later hu c3, cell_later hu c4⟩
            go_region_held3 (fun u => u.cell? ⟨g, (jp + 1) * 2, none⟩ = some (.int .i64 x1) ∧ u.cell? ⟨g, (jp + 1) * 2 + 1, none⟩ = some (.int .i64 x2) ∧ u.cell? ⟨g, jp * 2, none⟩ = some (.int .i64 y1) ∧ u.cell? ⟨g, jp * 2 + 1, none⟩ = some (.int .i64 y2))
              ((refine HSA.out _ ?_; first | exact P1.out | exact Hbo.out))
              (first | (go_at_call 44; refine (HO'.out _).mono ?_; rintro e wo ⟨rfl, hwo⟩; have Hbo : Hid (Below wr.heap.size wr wo) := Bel.call P1.out (Nat.le_refl _) hwo))
            all_goals
              have HRw : Hid (RowAt wo g 58 (flat (curL l i (jp + 1)) ++ sp)) := hrj.out.later Hbo.out hz
              have HBo : Hid (Below B w wo) := Bel.call hbj.out (by omega) Hbo.out
              obtain ⟨d1, d2, d3, d4⟩ := HSA.out _ Hbo.out
              have z1 := HRw.out.frozen ((jp + 1) * 2)
              have z2 := HRw.out.frozen ((jp + 1) * 2 + 1)
              have z3 := HRw.out.frozen (jp * 2)
              have z4 := HRw.out.frozen (jp * 2 + 1)
              have hzo : g < wo.heap.size := HRw.out.lt
              clear hwo c1 c2 c3 c4 P1 HSA Hbo
              go_wp2_with fail
              go_region
              have HRn : Hid (RowAt (((((wo.setCell ⟨g, (jp + 1) * 2, none⟩ (.int .i64 y1)).setCell ⟨g, (jp + 1) * 2 + 1, none⟩ (.int .i64 y2)).setCell ⟨g, jp * 2, none⟩ (.int .i64 x1)).setCell ⟨g, jp * 2 + 1, none⟩ (.int .i64 x2)).drew) g 58 (flat (curL l i jp) ++ sp)) := by
                show RowAt _ _ _ _
                rw [← HW.out, flatS_set _ _ _ _ HL.out.2, flatS_set _ _ _ _ HL.out.1]
                exact (((HRw.out.set ((jp + 1) * 2) (.int .i64 y1)).set ((jp + 1) * 2 + 1) (.int .i64 y2)).set (jp * 2) (.int .i64 x1)).set (jp * 2 + 1) (.int .i64 x2)
              have HBn : Hid (Below B w (((((wo.setCell ⟨g, (jp + 1) * 2, none⟩ (.int .i64 y1)).setCell ⟨g, (jp + 1) * 2 + 1, none⟩ (.int .i64 y2)).setCell ⟨g, jp * 2, none⟩ (.int .i64 x1)).setCell ⟨g, jp * 2 + 1, none⟩ (.int .i64 x2)).drew)) := ((((HBo.out.setCell hB _).setCell hB _).setCell hB _).setCell hB _).drew
              clear d1 d2 d3 d4 z1 z2 z3 z4 hzo
              generalize (((((wo.setCell ⟨g, (jp + 1) * 2, none⟩ (.int .i64 y1)).setCell ⟨g, (jp + 1) * 2 + 1, none⟩ (.int .i64 y2)).setCell ⟨g, jp * 2, none⟩ (.int .i64 x1)).setCell ⟨g, jp * 2 + 1, none⟩ (.int .i64 x2)).drew) = wz at *
              go_wp2
              go_roundw
              case rel => exact ⟨jp, by omega, by go_num, HNX, HRn, HBn⟩
              case measure => simp [intOf] <;> omega
          · have HN : Hid (curL l i (jp + 1) = stL l (i + 1)) := hE (by first | exact .inr hge0 | exact .inr (by omega))
            have HO' : Hid (∀ u : World, Calls Tryz.prog 44 #[.agg #[.int .i64 (l.getD i (0, 0)).1, .int .i64 (l.getD i (0, 0)).2], .agg #[.int .i64 ((S i).getD jp (0, 0)).1, .int .i64 ((S i).getD jp (0, 0)).2]] u fun e w' => e = .returned (.int .i64 (ordP (l.getD i (0, 0)) ((S i).getD jp (0, 0)))) ∧ Below u.heap.size u w') := hO
            clear hgt' hE HGT hW hO
            generalize ordP (l.getD i (0, 0)) ((S i).getD jp (0, 0)) = od at HO' hge0
            obtain ⟨X, HX⟩ : ∃ X, Hid (l.getD i (0, 0) = X) := ⟨_, rfl⟩
            obtain ⟨Y, HY⟩ : ∃ Y, Hid ((S i).getD jp (0, 0) = Y) := ⟨_, rfl⟩
            rw [HX.out] at HO' f1 f2
            rw [HY.out] at HO' f3 f4
            obtain ⟨x1, x2⟩ := X
            obtain ⟨y1, y2⟩ := Y
            simp only at HO' f1 f2 f3 f4
            have c1 := hrj.out.cell f1
            have c2 := hrj.out.cell f2
            have c3 := hrj.out.cell f3
            have c4 := hrj.out.cell f4
            clear f1 f2 f3 f4 hlen
            go_wp2_with fail
            have P1 : Hid (Below wr.heap.size wr wr.drew) := (Below.refl _ _).drew
            have HSA : Hid (∀ u : World, Below wr.heap.size wr u → u.cell? ⟨g, (jp + 1) * 2, none⟩ = some (.int .i64 x1) ∧ u.cell? ⟨g, (jp + 1) * 2 + 1, none⟩ = some (.int .i64 x2) ∧ u.cell? ⟨g, jp * 2, none⟩ = some (.int .i64 y1) ∧ u.cell? ⟨g, jp * 2 + 1, none⟩ = some (.int .i64 y2)) := fun u hu => ⟨cell_later hu c1, cell_later hu c2, cell_later hu c3, cell_later hu c4⟩
            go_region_held3 (fun u => u.cell? ⟨g, (jp + 1) * 2, none⟩ = some (.int .i64 x1) ∧ u.cell? ⟨g, (jp + 1) * 2 + 1, none⟩ = some (.int .i64 x2) ∧ u.cell? ⟨g, jp * 2, none⟩ = some (.int .i64 y1) ∧ u.cell? ⟨g, jp * 2 + 1, none⟩ = some (.int .i64 y2))
              ((refine HSA.out _ ?_; first | exact P1.out | exact Hbo.out))
              (first | (go_at_call 44; refine (HO'.out _).mono ?_; rintro e wo ⟨rfl, hwo⟩; have Hbo : Hid (Below wr.heap.size wr wo) := Bel.call P1.out (Nat.le_refl _) hwo))
            all_goals
              have HRw : Hid (RowAt wo g 58 (flat (stL l (i + 1)) ++ sp)) := by rw [← HN.out]; exact hrj.out.later Hbo.out hz
              have HBo : Hid (Below B w wo) := Bel.call hbj.out (by omega) Hbo.out
              clear hwo c1 c2 c3 c4 P1 HSA Hbo
              go_wp2
              go_roundw
              case rel => exact ⟨i + 1, by omega, by omega, by go_num, HRw, HBo⟩
              case measure => simp [intOf]; omega
    · obtain rfl : i = l.length := by omega
      have HN : Hid (RowAt wr g 58 (flat sl ++ sp)) := by rw [← HA.out]; exact hro
      go_wp2
      go_end0
      exact ⟨rfl, HN.out, hbo.out⟩
end Fl
end Go.Proofs.YtpnmmmlckdkcdakGreatDoor

/- slices.SortFunc over few fractions; package rank's Sorted keeps what the document says. -/
namespace Go.Proofs.YtpnmmmlckdkcdakGreatDoor
namespace Fl
open Go.RowKit Fr Ns Ld
set_option linter.unusedSimpArgs false
set_option linter.unusedVariables false

/-- a row of one's own, with room behind it -/
def SortW (w : World) (a : Option Addr) (g : Nat) (sp : List Value) (l : List (Int × Int)) : Prop := l = [] ∨ (a = some ⟨g, 0, none⟩ ∧ RowAt w g 58 (flat l ++ sp))

theorem insertion_none (a : Option Addr) (cap : Nat) (w : World) :
    Calls Tryz.prog 129 #[.slice a 0 cap, .int .i64 0, .int .i64 0, .func (.func 44) #[] #[]] w fun e w' => e = .returned (.tuple #[]) ∧ w' = w := by
  go_enter Tryz.func129, Tryz.ntmps129
  go_wp2
  go_loopw [8, 9] (fun s8 _ wr => s8 = .int .i64 1 ∧ wr = w) (fun _ _ _ => 0)
  case atStart => exact ⟨by go_num, rfl⟩
  case round =>
    obtain ⟨rfl, rfl⟩ := hrel
    go_wp2
    go_end0
    exact ⟨rfl, rfl⟩

theorem insertion_all (l : List (Int × Int)) (a : Option Addr) (g cap B : Nat) (sp : List Value) (w : World) (hf : ∀ a ∈ l, faultP a = 0) (h6 : l.length ≤ 6) (hB : B ≤ g) (hr : SortW w a g sp l) :
    Calls Tryz.prog 129 #[.slice a l.length cap, .int .i64 0, .int .i64 l.length, .func (.func 44) #[] #[]] w fun e w' => e = .returned (.tuple #[]) ∧ SortW w' a g sp (sortP l) ∧ Below B w w' := by
  by_cases h1 : l = []
  · subst h1
    exact (insertion_none a cap w).mono fun e w' ⟨he, hw⟩ => ⟨he, .inl rfl, by rw [hw]; exact Below.refl _ _⟩
  · rcases hr with hr | ⟨rfl, hr⟩
    · exact absurd hr h1
    · exact (insertion_any l g cap B sp w hf h6 (List.length_pos_iff.2 h1) hB hr).mono fun e w' ⟨he, hw, hb⟩ => ⟨he, .inr ⟨rfl, hw⟩, hb⟩

set_option maxHeartbeats 2000000 in
set_option maxRecDepth 100000 in
theorem pdq_all (l : List (Int × Int)) (a : Option Addr) (g cap B : Nat) (lim : Int) (sp : List Value) (w : World) (hf : ∀ a ∈ l, faultP a = 0) (h6 : l.length ≤ 6) (hB : B ≤ g) (hr : SortW w a g sp l) :
    Calls Tryz.prog 105 #[.slice a l.length cap, .int .i64 0, .int .i64 l.length, .int .i64 lim, .func (.func 44) #[] #[]] w fun e w' => e = .returned (.tuple #[]) ∧ SortW w' a g sp (sortP l) ∧ Below B w w' := by
  have HI : Hid (Calls Tryz.prog 129 #[.slice a l.length cap, .int .i64 0, .int .i64 l.length, .func (.func 44) #[] #[]] w fun e w' => e = .returned (.tuple #[]) ∧ SortW w' a g sp (sortP l) ∧ Below B w w') := insertion_all l a g cap B sp w hf h6 hB hr
  have h12 : (l.length : Int) ≤ 12 := by omega
  have hwp : IntKind.i64.wrap (l.length : Int) = (l.length : Int) := by rw [IntKind.wrap_i64]; omega
  generalize sortP l = sl at *
  clear hr hf
  go_enter Tryz.func105, Tryz.ntmps105
  go_wp2
  refine wp_loop_rounds 1 ?_
  rw [rounds_succ]
  go_wp2_with fail
  refine HI.out.mono ?_
  rintro e w1 ⟨rfl, hs, hb⟩
  have HS : Hid (SortW w1 a g sp sl ∧ Below B w w1) := ⟨hs, hb⟩
  clear hs hb
  go_wp2
  (try simp only [Exit.inBlock, Exit.then]); refine bodyPost_ret (results_none rfl _ _ _) rfl ?_
  exact ⟨rfl, HS.out.1, HS.out.2⟩

set_option maxHeartbeats 1000000 in
theorem SortFunc_any (l : List (Int × Int)) (a : Option Addr) (g cap B : Nat) (sp : List Value) (w : World) (hf : ∀ a ∈ l, faultP a = 0) (h6 : l.length ≤ 6) (hB : B ≤ g) (hr : SortW w a g sp l) :
    Calls Tryz.prog 77 #[.slice a l.length cap, .func (.func 44) #[] #[]] w fun e w' => e = .returned (.tuple #[]) ∧ SortW w' a g sp (sortP l) ∧ Below B w w' := by
  have HP : Hid (∀ lim, Calls Tryz.prog 105 #[.slice a l.length cap, .int .i64 0, .int .i64 l.length, .int .i64 lim, .func (.func 44) #[] #[]] w fun e w' => e = .returned (.tuple #[]) ∧ SortW w' a g sp (sortP l) ∧ Below B w w') := fun lim => pdq_all l a g cap B lim sp w hf h6 hB hr
  have HL : Hid (Calls Tryz.prog 106 #[.int .u64 l.length] w fun e w' => (∃ k : Int, e = .returned (.int .i64 k)) ∧ w' = w) := Len_few l.length h6 w
  have hwp : IntKind.u64.wrap (l.length : Int) = (l.length : Int) := by
    have h0 : (l.length : Int) ≤ 6 := by omega
    simp [IntKind.wrap, IntKind.bits, IntKind.signed]
    omega
  generalize sortP l = sl at *
  clear hr hf
  go_enter Tryz.func77, Tryz.ntmps77
  go_wp2_with fail
  refine HL.out.mono ?_
  rintro e w1 ⟨⟨k, rfl⟩, rfl⟩
  go_wp2_with fail
  refine (HP.out k).mono ?_
  rintro e w2 ⟨rfl, hs, hb⟩
  have HS : Hid (SortW w2 a g sp sl ∧ Below B w1 w2) := ⟨hs, hb⟩
  clear hs hb
  go_wp2
  go_end0
  exact ⟨rfl, HS.out.1, HS.out.2⟩

theorem ones_row : ∀ (l : List (Int × Int)) (y : Value), y ∈ flat l → y.oneCell' = true := by
  intro l
  induction l with
  | nil => intro y h; simp [flat] at h
  | cons a r ih =>
    intro y h
    simp only [flat, List.mem_cons] at h
    rcases h with rfl | rfl | h
    · rfl
    · rfl
    · exact ih y h
/-- a row of one's own as one to be sorted -/
theorem sortW_of_owns {w : World} {base : Nat} {v : Value} {l : List (Int × Int)} (h : w.ownsRow base 58 2 v l.length (flat l)) : ∃ a g cap sp, v = .slice a l.length cap ∧ l.length ≤ cap ∧ base ≤ g ∧ SortW w a g sp l := by
  obtain ⟨h0, h⟩ := h
  rcases h with ⟨rfl, h⟩ | ⟨g, cap, cur, rfl, hb, hg, hc, hm, hs, ht⟩
  · have : l = [] := List.eq_nil_of_length_eq_zero h
    subst this
    exact ⟨none, base, 0, [], rfl, Nat.le_refl _, Nat.le_refl _, .inl rfl⟩
  · refine ⟨_, g, cap, cur.toList.drop (l.length * 2), rfl, hc, hb, .inr ⟨rfl, ?_⟩⟩
    unfold RowAt
    rw [hg, ← ht, List.take_append_drop]
/-- and what was sorted as a list -/
theorem fracs_of_sortW {w : World} {base g cap : Nat} {a : Option Addr} {sp : List Value} {l : List (Int × Int)} {n : Nat} (hn : n = l.length) (hl : n ≤ cap) (h6 : n ≤ 6) (hb : base ≤ g) (h : SortW w a g sp l) : FracsAt (fun b => base ≤ b) w (.slice a n cap) l := by
  subst hn
  refine ⟨a, cap, rfl, ⟨hl, by omega⟩, ?_⟩
  rcases h with h | ⟨rfl, h⟩
  · exact .inl h
  · refine .inr ⟨g, 0, rfl, fun i hi => ?_, hb⟩
    obtain ⟨f1, f2⟩ := flatS_at l sp i hi
    rw [Nat.zero_add]
    exact ⟨h.cell f1, h.cell f2⟩

set_option maxRecDepth 100000 in
set_option maxHeartbeats 2000000 in
theorem sorted_said : SortedSaid := by
  intro Q r x w hx
  have HCk : Hid (Calls Tryz.prog 76 #[x] w fun e w' => e = .returned (errV (sortE r)) ∧ Below w.heap.size w w') := RCheck_any r x w hx
  by_cases he : sortE r = 0
  · obtain ⟨h6, hf⟩ := sortE_0 he
    rw [he, errV_0] at HCk ⊢
    have HFi : Hid (∀ a g cap sp u, r.length ≤ cap → w.heap.size ≤ g → SortW u a g sp r → Calls Tryz.prog 77 #[.slice a r.length cap, .func (.func 44) #[] #[]] u fun e w' => e = .returned (.tuple #[]) ∧ FracsAt (fun b => w.heap.size ≤ b) w' (.slice a r.length cap) (sortP r) ∧ Below w.heap.size u w') := fun a g cap sp u hl hb hs =>
      (SortFunc_any r a g cap w.heap.size sp u hf h6 hb hs).mono fun e w' ⟨h1, h2, h3⟩ => ⟨h1, fracs_of_sortW (sortP_length r).symm hl h6 hb h2, h3⟩
    have HOk : Hid (okL (0 : Int) (sortP r) = sortP r) := if_pos rfl
    rw [HOk.out]
    generalize sortP r = sr at *
    obtain ⟨ar, capr, rfl, ⟨hm, hn⟩, hc⟩ := hx
    obtain ⟨i0, hi0, hz0, hz1, hz2⟩ := info_parts infoFrac
    cases ar with
    | none =>
      have hr0 : r = [] := by
        rcases hc with h | ⟨b, off, h, _⟩
        · exact h
        · cases h
      subst hr0
      have HF0 : Hid (∀ u, Calls Tryz.prog 77 #[.slice none 0 0, .func (.func 44) #[] #[]] u fun e w' => e = .returned (.tuple #[]) ∧ FracsAt (fun b => w.heap.size ≤ b) w' (.slice none 0 0) sr ∧ Below w.heap.size u w') := fun u => HFi.out none w.heap.size 0 [] u (Nat.le_refl _) (Nat.le_refl _) (.inl rfl)
      clear hc hf h6 HFi
      go_enter Tryz.func42, Tryz.ntmps42
      go_wp2_with fail
      refine HCk.out.mono ?_
      rintro e w1 ⟨rfl, hw1⟩
      have HB1 : Hid (Below w.heap.size w w1) := hw1
      clear hw1
      go_wp2_with fail
      refine (HF0.out _).mono ?_
      rintro e w2 ⟨rfl, hfr, hw2⟩
      have HB2 : Hid (FracsAt (fun b => w.heap.size ≤ b) w2 (.slice none 0 0) sr ∧ Below w.heap.size w w2) := ⟨hfr, HB1.out.trans hw2⟩
      clear hfr hw2
      go_wp2
      refine bodyPost_ret (v := .tuple #[.slice none 0 0, .nilIface]) (by simp [results, Tryz.results42, go_sem]) rfl ⟨_, rfl, HB2.out.1, HB2.out.2⟩
    | some ad =>
      have A : Hid (∀ u, Below w.heap.size w u → ∀ j y, (flat r)[j]? = some y → u.cell? (ad.add j) = some y) := by
        intro u hu
        rcases hc with rfl | ⟨b, off, h, hc, _⟩
        · intro j y hj; simp [flat] at hj
        · cases h
          exact cells_flat fun i hi => ⟨cell_later hu (hc i hi).1, cell_later hu (hc i hi).2⟩
      have U1 : Hid (∀ u ∈ flat r, u.oneCell' = true) := ones_row r
      have L1 : Hid ((flat r).length = r.length * 2) := flat_length r
      clear hc hf
      go_enter Tryz.func42, Tryz.ntmps42
      go_wp2_with fail
      refine HCk.out.mono ?_
      rintro e w1 ⟨rfl, hw1⟩
      have HB1 : Hid (Below w.heap.size w w1) := hw1
      have hs1 : w.heap.size ≤ w1.heap.size := hw1.size
      clear hw1
      go_wp2_with (at_builtin; go_must (refine wpList_append_own _ rfl _ _ 24 rfl w.heap.size 58 i0 (.agg #[.int .i64 0, .int .i64 0]) 2 16 Tryz.underlying24 hi0 hz0 hz1 hz2 rfl (by decide) _ _ _ rfl (World.ownsRow_nil _ _ _ _) ad r.length capr (flat r) rfl L1.out ?c1 U1.out ?c3 ?c4 ?c5 ?_))
      case c1 => exact A.out w1 HB1.out
      case c3 => unfold maxLen; omega
      case c4 => omega
      case c5 => exact hs1
      intro v1 w2 hown hgrow _
      have hown' : w2.ownsRow w.heap.size 58 2 v1 r.length (flat r) := by simpa using hown
      have HB2 : Hid (Below w.heap.size w w2) := HB1.out.grown hgrow hs1 (by intro k hk; cases hk)
      obtain ⟨a, g, cap, sp, rfl, hcap, hg, hS⟩ := sortW_of_owns hown'
      have HF1 : Hid (Calls Tryz.prog 77 #[.slice a r.length cap, .func (.func 44) #[] #[]] w2 fun e w' => e = .returned (.tuple #[]) ∧ FracsAt (fun b => w.heap.size ≤ b) w' (.slice a r.length cap) sr ∧ Below w.heap.size w2 w') := HFi.out a g cap sp w2 hcap hg hS
      clear hown hown' hgrow hS HFi
      go_wp2_with fail
      refine HF1.out.mono ?_
      rintro e w3 ⟨rfl, hfr, hw3⟩
      have HB3 : Hid (FracsAt (fun b => w.heap.size ≤ b) w3 (.slice a r.length cap) sr ∧ Below w.heap.size w w3) := ⟨hfr, HB2.out.trans hw3⟩
      clear hfr hw3
      go_wp2
      refine bodyPost_ret (v := .tuple #[.slice a r.length cap, .nilIface]) (by simp [results, Tryz.results42, go_sem]) rfl ⟨_, rfl, HB3.out.1, HB3.out.2⟩
  · have HV : Hid (errV (sortE r) = .iface 65 (.int .i64 (sortE r))) := errV_ne he
    have HOk : Hid (okL (sortE r) (sortP r) = []) := if_neg he
    rw [HOk.out]
    rw [HV.out] at HCk ⊢
    generalize sortE r = er at *
    obtain ⟨ar, capr, rfl, ⟨hm, hn⟩, hc⟩ := hx
    clear hc
    go_enter Tryz.func42, Tryz.ntmps42
    go_wp2_with fail
    refine HCk.out.mono ?_
    rintro e w1 ⟨rfl, hw1⟩
    have HB1 : Hid (Below w.heap.size w w1) := hw1
    clear hw1
    go_wp2
    refine bodyPost_ret (v := .tuple #[.slice none 0 0, .iface 65 (.int .i64 er)]) (by simp [results, Tryz.results42, go_sem]) rfl ⟨_, rfl, fracs_nil _ _, HB1.out⟩
end Fl
end Go.Proofs.YtpnmmmlckdkcdakGreatDoor

/- Package rank's Least keeps what the document says. -/
namespace Go.Proofs.YtpnmmmlckdkcdakGreatDoor
namespace Fl
open Go.RowKit Fr Ns Ld
set_option linter.unusedSimpArgs false
set_option linter.unusedVariables false

set_option maxHeartbeats 2000000 in
theorem least_said : LeastSaid := by
  intro Q r x w hx
  have HA : Hid (∀ u, Below w.heap.size w u → Calls Tryz.prog 42 #[x] u fun e w' => ∃ z, e = .returned (.tuple #[z, errV (sortE r)]) ∧ FracsAt (fun b => u.heap.size ≤ b) w' z (okL (sortE r) (sortP r)) ∧ Below u.heap.size u w') := fun u hu => sorted_said Q r x u (hx.later hu)
  obtain ⟨ax, cx, nx, rfl⟩ := hx.shape
  have hP0 : Below w.heap.size w (w.alloc (.cells #[.int .i64 0, .int .i64 0] 58)) := (Below.refl _ _).alloc (Nat.le_refl _) _
  have HP0 : Hid (Below w.heap.size w (w.alloc (.cells #[.int .i64 0, .int .i64 0] 58))) := hP0
  clear hP0
  by_cases he : sortE r = 0
  · rw [he, errV_0, show okL (0 : Int) (sortP r) = sortP r from if_pos rfl] at HA
    have hls := sortP_length r
    by_cases hl : r.length = 0
    · have r1 : leastE r = 5 := by rw [leastE, if_pos he, if_pos hl]
      have r2 : leastV r = (0, 0) := by rw [leastV, if_neg (by rw [r1]; decide)]
      rw [r1, r2, errV_ne (by decide)]
      generalize sortP r = sr at *
      have hs0 : sr.length = 0 := by omega
      clear hx he r1 r2 hls hl
      go_enter Tryz.func142, Tryz.ntmps142
      go_wp2_with fail
      refine (HA.out _ HP0.out).mono ?_
      rintro e w1 ⟨z1, rfl, hz1, hw1⟩
      have HB1 : Hid (Below w.heap.size w w1) := Bel.call HP0.out (Nat.le_refl _) hw1
      have hzz : w.heap.size < w1.heap.size := by have := hw1.size; simp at this; omega
      obtain ⟨hc1, hf1⟩ := bcell hw1
      obtain ⟨a1, k1, rfl, _⟩ := hz1
      clear hw1
      go_wp2
      refine bodyPost_ret (v := .tuple #[.agg #[.int .i64 0, .int .i64 0], .iface 65 (.int .i64 5)]) (by simp [results, Tryz.results142, go_sem, hc1, hzz]) rfl ⟨rfl, ?_⟩
      repeat (first | exact HB1.out | refine Below.setCell ?_ (by simp) _ | refine Below.drew ?_)
    · obtain ⟨r1, r2, _⟩ := least_mk he hl
      rw [r1, r2, errV_0]
      generalize sortP r = sr at *
      have hs0 : 0 < sr.length := by omega
      have hs0' : (0 : Int) < (sr.length : Int) := by omega
      have hne : ¬ sr.length = 0 := by omega
      obtain ⟨p, HPp⟩ : ∃ p, Hid (sr.getD 0 (0, 0) = p) := ⟨_, rfl⟩
      rw [HPp.out]
      obtain ⟨t1, t2⟩ := p
      clear hx he r1 r2 hls hl
      go_enter Tryz.func142, Tryz.ntmps142
      go_wp2_with fail
      refine (HA.out _ HP0.out).mono ?_
      rintro e w1 ⟨z1, rfl, hz1, hw1⟩
      have HB1 : Hid (Below w.heap.size w w1) := Bel.call HP0.out (Nat.le_refl _) hw1
      have hzz : w.heap.size < w1.heap.size := by have := hw1.size; simp at this; omega
      obtain ⟨hc1, hf1⟩ := bcell hw1
      obtain ⟨a1, k1, rfl, _, hcs⟩ := hz1
      rcases hcs with rfl | ⟨b, off, rfl, hcs, hQ⟩
      · simp at hs0
      obtain ⟨c1, c2⟩ := hcs 0 hs0
      rw [Nat.zero_mul, Nat.add_zero, HPp.out] at c1 c2
      clear hw1 hcs hQ
      go_wp2
      refine bodyPost_ret (v := .tuple #[.agg #[.int .i64 t1, .int .i64 t2], .nilIface]) (by simp [results, Tryz.results142, go_sem, hc1, hzz]) rfl ⟨rfl, ?_⟩
      repeat (first | exact HB1.out | refine Below.setCell ?_ (by simp) _ | refine Below.drew ?_)
  · have HV : Hid (errV (sortE r) = .iface 65 (.int .i64 (sortE r))) := errV_ne he
    have r1 : leastE r = sortE r := by rw [leastE, if_neg he]
    have r2 : leastV r = (0, 0) := by rw [leastV, if_neg (by rw [r1]; exact he)]
    rw [r1, r2, HV.out]
    rw [HV.out] at HA
    generalize okL (sortE r) (sortP r) = oa at *
    generalize sortE r = er at *
    clear hx he r1 r2
    go_enter Tryz.func142, Tryz.ntmps142
    go_wp2_with fail
    refine (HA.out _ HP0.out).mono ?_
    rintro e w1 ⟨z1, rfl, hz1, hw1⟩
    have HB1 : Hid (Below w.heap.size w w1) := Bel.call HP0.out (Nat.le_refl _) hw1
    have hzz : w.heap.size < w1.heap.size := by have := hw1.size; simp at this; omega
    obtain ⟨hc1, hf1⟩ := bcell hw1
    obtain ⟨a1, k1, rfl, _⟩ := hz1
    clear hw1
    go_wp2
    refine bodyPost_ret (v := .tuple #[.agg #[.int .i64 0, .int .i64 0], .iface 65 (.int .i64 er)]) (by simp [results, Tryz.results142, go_sem, hc1, hzz]) rfl ⟨rfl, ?_⟩
    repeat (first | exact HB1.out | refine Below.setCell ?_ (by simp) _ | refine Below.drew ?_)
end Fl
end Go.Proofs.YtpnmmmlckdkcdakGreatDoor
