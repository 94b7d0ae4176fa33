/- Package give's order of places by their rests; the library's insertion sort over few of them. -/
import Derived.Test.YtpnmmmlckdkcdakGreatDoorGvA
import Derived.Test.YtpnmmmlckdkcdakGreatDoorPlains
import Derived.Test.YtpnmmmlckdkcdakGreatDoorFracAll
import Derived.Deep.RegionHeld3
import Derived.BigQuiet
namespace Go.Proofs.YtpnmmmlckdkcdakGreatDoor
namespace Ev
open Go.RowKit Fr Ns Ld Fl
set_option linter.unusedSimpArgs false
set_option linter.unusedVariables false

/-- the number that the places are sorted by -/
def keyZ (rs : List Int) (x : Int) : Int := -rs.getD x.toNat 0
theorem cmp_key (rs : List Int) (x y : Nat) : cmpI (rs.getD y 0) (rs.getD x 0) < 0 ↔ keyZ rs x < keyZ rs y := by
  unfold keyZ
  rw [Int.toNat_natCast, Int.toNat_natCast]
  unfold cmpI
  split
  · omega
  · split <;> omega

set_option maxHeartbeats 1000000 in
theorem gorder_any {Q : Nat → Prop} (rs : List Int) (v : Value) (g : Nat) (x y : Nat) (w : World) (h : IntsAt Q w v rs) (hx : x < rs.length) (hy : y < rs.length) (hg : w.cell? ⟨g, 0, none⟩ = some v) :
    Calls Tryz.prog 183 #[.int .i64 x, .int .i64 y, .pointer (some ⟨g, 0, none⟩)] w fun e w' => e = .returned (.int .i64 (cmpI (rs.getD y 0) (rs.getD x 0))) ∧ Below w.heap.size w w' := by
  obtain ⟨a, cap, rfl, ⟨hm, hm2⟩, h'⟩ := id h
  obtain ⟨b, off, rfl, hc⟩ := ints_cells h x hx
  obtain ⟨b', off', hbe, hc'⟩ := ints_cells h y hy
  simp only [Option.some.injEq, Addr.mk.injEq, and_true] at hbe
  obtain ⟨rfl, rfl⟩ := hbe
  have c0 := hc _ (Below.refl _ _)
  have c1 := hc' _ (Below.refl _ _)
  have z1 : (x : Int) < (rs.length : Int) := by omega
  have z2 : (y : Int) < (rs.length : Int) := by omega
  clear h h' hc hc'
  generalize rs.getD x 0 = rx at *
  generalize rs.getD y 0 = ry at *
  have HC : Hid (∀ u : World, Calls Tryz.prog 74 #[.int .i64 ry, .int .i64 rx] u fun e w' => e = .returned (.int .i64 (cmpI ry rx)) ∧ w' = u) := fun u => cmp_any ry rx u
  generalize cmpI ry rx = k at *
  go_enter Tryz.func183, Tryz.ntmps183
  go_wp2_with fail
  go_quiet (exact Calls.quiet_of_same (HC.out _))
  go_wp2
  go_ret
  exact ⟨rfl, below_drewN (Below.refl _ _) _⟩

set_option maxRecDepth 100000 in
set_option maxHeartbeats 4000000 in
theorem ginsertion_any (rs l : List Int) (c g cap B : Nat) (sp : List Value) (w : World) (hl : ∀ x ∈ l, 0 ≤ x)
    (hO : ∀ x y : Nat, (x : Int) ∈ l → (y : Int) ∈ l → ∀ u, Below B w u → Calls Tryz.prog 183 #[.int .i64 x, .int .i64 y, .pointer (some ⟨c, 0, none⟩)] u fun e w' => e = .returned (.int .i64 (cmpI (rs.getD y 0) (rs.getD x 0))) ∧ Below u.heap.size u w')
    (h6 : l.length ≤ 6) (h1 : 1 ≤ l.length) (hB : B ≤ g) (hr : RowAt w g 3 (l.map (Value.int .i64) ++ sp)) :
    Calls Tryz.prog 196 #[.slice (some ⟨g, 0, none⟩) l.length cap, .int .i64 0, .int .i64 l.length, .func (.func 183) #[] #[.pointer (some ⟨c, 0, none⟩)]] w fun e w' => e = .returned (.tuple #[]) ∧ RowAt w' g 3 ((sortS (keyZ rs) l).map (Value.int .i64) ++ sp) ∧ Below B w w' := by
  have HO : Hid (∀ i k, i < l.length → k < i → ∃ od : Int, (od < 0 ↔ keyZ rs (l.getD i 0) < keyZ rs ((sortS (keyZ rs) (l.take i)).getD k 0)) ∧ ∀ u : World, Below B w u → Calls Tryz.prog 183 #[.int .i64 (l.getD i 0), .int .i64 ((sortS (keyZ rs) (l.take i)).getD k 0), .pointer (some ⟨c, 0, none⟩)] u fun e w' => e = .returned (.int .i64 od) ∧ Below u.heap.size u w') := fun i k hi hk => by
    have m1 := getD_mem l i hi 0
    have m2 : (sortS (keyZ rs) (l.take i)).getD k 0 ∈ l := List.mem_of_mem_take ((sortS_perm _ _).mem_iff.1 (getD_mem (sortS (keyZ rs) (l.take i)) k (by rw [sortSTake_length (by omega)]; exact hk) 0))
    obtain ⟨x, hx⟩ : ∃ x : Nat, l.getD i 0 = x := ⟨(l.getD i 0).toNat, by have := hl _ m1; omega⟩
    obtain ⟨y, hy⟩ : ∃ y : Nat, (sortS (keyZ rs) (l.take i)).getD k 0 = y := ⟨((sortS (keyZ rs) (l.take i)).getD k 0).toNat, by have := hl _ m2; omega⟩
    rw [hx] at m1 ⊢
    rw [hy] at m2 ⊢
    exact ⟨_, cmp_key rs x y, fun u hu => hO x y m1 m2 u hu⟩
  have H1 : Hid (stS (keyZ rs) l 1 = l) := stS_1 _ l
  have HA : Hid (stS (keyZ rs) l l.length = sortS (keyZ rs) l) := stS_all _ l _ (Nat.le_refl _)
  have HCs : Hid (∀ i, i < l.length → curS (keyZ rs) l i i = stS (keyZ rs) l i) := fun i hi => curS_start hi
  have HCl : Hid (∀ i j, i < l.length → j ≤ i → (curS (keyZ rs) l i j).length = l.length) := fun i j hi hj => curS_length hi hj
  have HCa : Hid (∀ i j, i < l.length → j ≤ i → (curS (keyZ rs) l i j).getD j 0 = l.getD i 0) := fun i j hi hj => curS_at hi hj
  have HCb : Hid (∀ i j, i < l.length → j < i → (curS (keyZ rs) l i (j + 1)).getD j 0 = (sortS (keyZ rs) (l.take i)).getD j 0) := fun i j hi hj => curS_ahead hi hj
  have HCw : Hid (∀ i j, i < l.length → j < i → ((curS (keyZ rs) l i (j + 1)).set (j + 1) ((sortS (keyZ rs) (l.take i)).getD j 0)).set j (l.getD i 0) = curS (keyZ rs) l i j) := fun i j hi hj => curS_swap hi hj
  have HCe : Hid (∀ i j, i < l.length → j ≤ i → (∀ k, j ≤ k → k < i → keyZ rs (l.getD i 0) < keyZ rs ((sortS (keyZ rs) (l.take i)).getD k 0)) → (j = 0 ∨ ¬ keyZ rs (l.getD i 0) < keyZ rs ((sortS (keyZ rs) (l.take i)).getD (j - 1) 0)) → curS (keyZ rs) l i j = stS (keyZ rs) l (i + 1)) := fun i j hi hj a b => curS_end hi hj a b
  have HR0 : Hid (RowAt w g 3 ((stS (keyZ rs) l 1).map (Value.int .i64) ++ sp)) := by rw [H1.out]; exact hr
  obtain ⟨S, hS⟩ : ∃ S : Nat → List Int, ∀ i, sortS (keyZ rs) (l.take i) = S i := ⟨_, fun _ => rfl⟩
  simp only [hS] at HO HCb HCw HCe
  generalize sortS (keyZ rs) l = sl at *
  generalize curS (keyZ rs) l = cur at *
  generalize stS (keyZ rs) l = st at *
  generalize keyZ rs = κ at *
  have hg0 : g < w.heap.size := hr.lt
  clear hS hr H1 hl hO
  go_enter Tryz.func196, Tryz.ntmps196
  go_wp2
  go_loopw [8, 9] (fun s8 _ wr => ∃ i : Nat, 1 ≤ i ∧ i ≤ l.length ∧ s8 = .int .i64 i ∧ Hid (RowAt wr g 3 ((st i).map (Value.int .i64) ++ sp)) ∧ Hid (Below B w wr)) (fun s8 _ _ => l.length - (intOf s8).toNat)
  case atStart => exact ⟨1, by omega, by omega, by go_num, HR0, Below.refl _ _⟩
  case round =>
    obtain ⟨i, hi1, hi, rfl, hro, hbo⟩ := hrel
    by_cases hlt : i < l.length
    · go_wp2
      go_loopw [9] (fun s9 wq => ∃ j : Nat, j ≤ i ∧ s9 = .int .i64 j ∧ Hid (∀ k, j ≤ k → k < i → κ (l.getD i 0) < κ ((S i).getD k 0)) ∧ Hid (RowAt wq g 3 ((cur i j).map (Value.int .i64) ++ sp)) ∧ Hid (Below B w wq)) (fun s9 _ => (intOf s9).toNat)
      case atStart => exact ⟨i, Nat.le_refl _, rfl, fun k h1 h2 => by omega, by rw [HCs.out i hlt]; exact hro, hbo⟩
      case round =>
        obtain ⟨j, hj, rfl, hgt, hrj, hbj⟩ := hrel
        cases j with
        | zero =>
          have HN : Hid (RowAt wr g 3 ((st (i + 1)).map (Value.int .i64) ++ sp)) := by rw [← HCe.out i 0 hlt hj hgt.out (.inl rfl)]; exact hrj
          go_wp2_with fail
          go_quiet (fail)
          have HN2 : Hid (RowAt (wr.drewN nq) g 3 ((st (i + 1)).map (Value.int .i64) ++ sp)) := HN.out
          have HB2 : Hid (Below B w (wr.drewN nq)) := below_drewN hbj.out _
          generalize wr.drewN nq = wz at *
          go_wp2
          go_roundw
          case rel => exact ⟨i + 1, by omega, by omega, by go_num, HN2, HB2⟩
          case measure => simp [intOf]; omega
        | succ jp =>
          have hji : jp < i := by omega
          have hlen := HCl.out i (jp + 1) hlt hj
          have f1 := intsCell (l := cur i (jp + 1)) (sp := sp) (i := jp + 1) (by omega)
          have f3 := intsCell (l := cur i (jp + 1)) (sp := sp) (i := jp) (by omega)
          rw [HCa.out i (jp + 1) hlt hj] at f1
          rw [HCb.out i jp hlt hji] at f3
          obtain ⟨od, hod, hO⟩ := HO.out i jp hlt hji
          have hW := HCw.out i jp hlt hji
          have hE := HCe.out i (jp + 1) hlt hj hgt.out
          rw [Nat.add_sub_cancel] at hE
          have hgt' : κ (l.getD i 0) < κ ((S i).getD jp 0) → ∀ k, jp ≤ k → k < i → κ (l.getD i 0) < κ ((S i).getD k 0) := fun h k hk1 hk2 => by
            by_cases e : k = jp
            · rw [e]; exact h
            · exact hgt.out k (by omega) hk2
          have hz : g < wr.heap.size := hrj.out.lt
          have jz : (jp : Int) + 1 < (l.length : Int) := by omega
          have jz1 : (jp : Int) < (l.length : Int) := by omega
          have hwp : IntKind.i64.wrap (jp : Int) = (jp : Int) := by rw [IntKind.wrap_i64]; omega
          have p0 : (0 : Int) ≤ (jp : Int) + 1 := by omega
          have e0 : ((jp : Int) + 1).toNat = jp + 1 := by omega
          have p1 : (0 : Int) < (jp : Int) + 1 := by omega
          have HO' : Hid (∀ u : World, Below B w u → Calls Tryz.prog 183 #[.int .i64 (l.getD i 0), .int .i64 ((S i).getD jp 0), .pointer (some ⟨c, 0, none⟩)] u fun e w' => e = .returned (.int .i64 od) ∧ Below u.heap.size u w') := hO
          clear hO
          by_cases hlt0 : od < 0
          · have HNX : Hid (∀ k, jp ≤ k → k < i → κ (l.getD i 0) < κ ((S i).getD k 0)) := hgt' (hod.1 hlt0)
            clear hgt' hE hod
            have HW : Hid (((cur i (jp + 1)).set (jp + 1) ((S i).getD jp 0)).set jp (l.getD i 0) = cur i jp) := hW
            clear hW
            have HL : Hid (jp + 1 < (cur i (jp + 1)).length ∧ jp < ((cur i (jp + 1)).set (jp + 1) ((S i).getD jp 0)).length) := ⟨by omega, by rw [List.length_set]; omega⟩
            obtain ⟨X, HX⟩ : ∃ X, Hid (l.getD i 0 = X) := ⟨_, rfl⟩
            obtain ⟨Y, HY⟩ : ∃ Y, Hid ((S i).getD jp 0 = Y) := ⟨_, rfl⟩
            rw [HX.out] at HO' f1 HW
            rw [HY.out] at HO' f3 HW HL
            have c1 := hrj.out.cell f1
            have c3 := hrj.out.cell f3
            clear f1 f3 hlen
            go_wp2_with fail
            have P1 : Hid (Below wr.heap.size wr wr.drew) := (Below.refl _ _).drew
            have PB : Hid (Below B w wr.drew) := hbj.out.drew
            have HSA : Hid (∀ u : World, Below wr.heap.size wr u → u.cell? ⟨g, jp + 1, none⟩ = some (.int .i64 X) ∧ u.cell? ⟨g, jp, none⟩ = some (.int .i64 Y)) := fun u hu => ⟨cell_later hu c1, cell_later hu c3⟩
            go_region_held3 (fun u => u.cell? ⟨g, jp + 1, none⟩ = some (.int .i64 X) ∧ u.cell? ⟨g, jp, none⟩ = some (.int .i64 Y))
              ((refine HSA.out _ ?_; first | exact P1.out | exact Hbo.out))
              (first | (go_at_call 183; refine (HO'.out _ PB.out).mono ?_; rintro e wo ⟨rfl, hwo⟩; have Hbo : Hid (Below wr.heap.size wr wo) := Bel.call P1.out (Nat.le_refl _) hwo))
            all_goals
              have HRw : Hid (RowAt wo g 3 ((cur i (jp + 1)).map (Value.int .i64) ++ sp)) := hrj.out.later Hbo.out hz
              have HBo : Hid (Below B w wo) := Bel.call hbj.out (by omega) Hbo.out
              obtain ⟨d1, d3⟩ := HSA.out _ Hbo.out
              have z1 := HRw.out.frozen (jp + 1)
              have z3 := HRw.out.frozen jp
              have hzo : g < wo.heap.size := HRw.out.lt
              clear hwo c1 c3 P1 PB HSA Hbo
              go_wp2_with fail
              go_region
              have HRn : Hid (RowAt (((wo.setCell ⟨g, jp + 1, none⟩ (.int .i64 Y)).setCell ⟨g, jp, none⟩ (.int .i64 X)).drew) g 3 ((cur i jp).map (Value.int .i64) ++ sp)) := by
                show RowAt _ _ _ _
                rw [← HW.out, ← intsSet HL.out.2, ← intsSet HL.out.1]
                exact (HRw.out.set (jp + 1) (.int .i64 Y)).set jp (.int .i64 X)
              have HBn : Hid (Below B w (((wo.setCell ⟨g, jp + 1, none⟩ (.int .i64 Y)).setCell ⟨g, jp, none⟩ (.int .i64 X)).drew)) := ((HBo.out.setCell hB _).setCell hB _).drew
              clear d1 d3 z1 z3 hzo
              generalize (((wo.setCell ⟨g, jp + 1, none⟩ (.int .i64 Y)).setCell ⟨g, jp, none⟩ (.int .i64 X)).drew) = wz at *
              go_wp2
              go_roundw
              case rel => exact ⟨jp, by omega, by go_num, HNX, HRn, HBn⟩
              case measure => simp [intOf] <;> omega
          · have hn : ¬ κ (l.getD i 0) < κ ((S i).getD jp 0) := fun h => hlt0 (hod.2 h)
            have HN : Hid (cur i (jp + 1) = st (i + 1)) := hE (.inr (by omega))
            clear hn
            clear hgt' hE hod hW
            obtain ⟨X, HX⟩ : ∃ X, Hid (l.getD i 0 = X) := ⟨_, rfl⟩
            obtain ⟨Y, HY⟩ : ∃ Y, Hid ((S i).getD jp 0 = Y) := ⟨_, rfl⟩
            rw [HX.out] at HO' f1
            rw [HY.out] at HO' f3
            have c1 := hrj.out.cell f1
            have c3 := hrj.out.cell f3
            clear f1 f3 hlen
            go_wp2_with fail
            have P1 : Hid (Below wr.heap.size wr wr.drew) := (Below.refl _ _).drew
            have PB : Hid (Below B w wr.drew) := hbj.out.drew
            have HSA : Hid (∀ u : World, Below wr.heap.size wr u → u.cell? ⟨g, jp + 1, none⟩ = some (.int .i64 X) ∧ u.cell? ⟨g, jp, none⟩ = some (.int .i64 Y)) := fun u hu => ⟨cell_later hu c1, cell_later hu c3⟩
            go_region_held3 (fun u => u.cell? ⟨g, jp + 1, none⟩ = some (.int .i64 X) ∧ u.cell? ⟨g, jp, none⟩ = some (.int .i64 Y))
              ((refine HSA.out _ ?_; first | exact P1.out | exact Hbo.out))
              (first | (go_at_call 183; refine (HO'.out _ PB.out).mono ?_; rintro e wo ⟨rfl, hwo⟩; have Hbo : Hid (Below wr.heap.size wr wo) := Bel.call P1.out (Nat.le_refl _) hwo))
            all_goals
              have HRw : Hid (RowAt wo g 3 ((st (i + 1)).map (Value.int .i64) ++ sp)) := by rw [← HN.out]; exact hrj.out.later Hbo.out hz
              have HBo : Hid (Below B w wo) := Bel.call hbj.out (by omega) Hbo.out
              clear hwo c1 c3 P1 PB HSA Hbo
              go_wp2
              go_roundw
              case rel => exact ⟨i + 1, by omega, by omega, by go_num, HRw, HBo⟩
              case measure => simp [intOf]; omega
    · obtain rfl : i = l.length := by omega
      have HN : Hid (RowAt wr g 3 (sl.map (Value.int .i64) ++ sp)) := by rw [← HA.out]; exact hro
      go_wp2
      go_end0
      exact ⟨rfl, HN.out, hbo.out⟩
end Ev
end Go.Proofs.YtpnmmmlckdkcdakGreatDoor
