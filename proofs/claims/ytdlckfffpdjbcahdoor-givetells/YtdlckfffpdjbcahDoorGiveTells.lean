/- The law GiveTells returns true for every input, from what is asked of package give's calls: any so many in parts, and any part. -/
import Derived.Test.YtdlckfffpdjbcahDoorPlains
import Derived.Test.YtdlckfffpdjbcahDoorRSplit
import Derived.Test.YtdlckfffpdjbcahDoorToldB
import Derived.Test.YtdlckfffpdjbcahDoorSameI
import Derived.Deep.DeepCutAuto
namespace Go.Proofs.YtdlckfffpdjbcahDoor
namespace Ev
open Go.RowKit Fr Ns Ld Fl
set_option linter.unusedSimpArgs false
set_option linter.unusedVariables false

theorem gt_nil (Q : Nat → Prop) (w : World) : IntsAt Q w (.slice none 0 0) [] := ⟨none, 0, rfl, ⟨Nat.le_refl _, by simp⟩, .inl rfl⟩
/-- the first k the other way -/
def negK (l : List Int) (k : Nat) : List Int := (l.take k).map (fun x => -x) ++ l.drop k
theorem negK_length (l : List Int) (k : Nat) : (negK l k).length = l.length := by simp [negK]; omega
theorem negK_0 (l : List Int) : negK l 0 = l := by simp [negK]
theorem negK_all (l : List Int) : negK l l.length = l.map (fun x => -x) := by simp [negK]
theorem negK_at {l : List Int} {k : Nat} (h : k < l.length) : (negK l k).getD k 0 = l.getD k 0 := by
  unfold negK
  simp only [List.getD]
  rw [List.getElem?_append_right (by simp; omega)]
  simp
  congr 2
  omega
theorem negK_next {l : List Int} {k : Nat} (h : k < l.length) : negK l (k + 1) = (negK l k).set k (-(l.getD k 0)) := by
  unfold negK
  have hl : ((l.take k).map (fun x => -x)).length = k := by simp; omega
  rw [List.set_append_right _ _ (by omega), hl, Nat.sub_self, take_snoc l k h 0, List.map_append, List.append_assoc]
  congr 1
  have : l.drop k = l.getD k 0 :: l.drop (k + 1) := by
    rw [List.drop_eq_getElem_cons h]
    simp [List.getD, List.getElem?_eq_getElem h]
  rw [this]
  rfl

set_option maxRecDepth 100000 in
set_option maxHeartbeats 8000000 in
theorem giveTells_walk (hS : GSplitSaid) (hP : GPartSaid) (many : Int) (l : List Int) (i : Int) (v : Value) (w : World)
    (hg : w.cell? ⟨0, 0, none⟩ = some handleV) (hv : IntsAt (fun b => b < w.heap.size) w v l) :
    Calls Tryd.prog 3 #[.int .i64 many, v, .int .i64 i] w fun e w' => e = .returned (.bool true) ∧ Below w.heap.size w w' := by
  have HW : Hid (Calls Tryd.prog 5 #[v] w fun e w' => e = .returned (.int .i64 (idxE l)) ∧ w' = w) := RWeights_any l v w hv
  have HS : Hid (∀ u : World, Below w.heap.size w u → Calls Tryd.prog 7 #[.int .i64 many, v] u fun e w' => ∃ y, e = .returned (.tuple #[y, errV (splitE many l)]) ∧ IntsAt (fun b => u.heap.size ≤ b) w' y (okL (splitE many l) (splitS many l)) ∧ Below u.heap.size u w') := fun u hu => hS _ many l v u (hv.later hu)
  have HPa : Hid (∀ u : World, Below w.heap.size w u → Calls Tryd.prog 10 #[.int .i64 many, v, .int .i64 i] u fun e w' => e = .returned (.tuple #[.int .i64 (okI (partE many l i) ((splitS many l).getD i.toNat 0)), errV (partE many l i)]) ∧ Below u.heap.size u w') := fun u hu => hP _ many l i v u (hv.later hu)
  have HEr : Hid (∀ (k : Int) (u : World), Below w.heap.size w u → Calls Tryd.prog 8 #[errV k, .int .i64 k] u fun e w' => e = .returned (.bool true) ∧ Below u.heap.size u w') := fun k u hu => by
    have := Error_any k k u (cell_later hu hg)
    rw [beq_self_eq_true] at this
    exact this
  have HIn : Hid (∀ (R R' : Nat → Prop) (y z : Value) (x : List Int) (u : World), IntsAt R u y x → IntsAt R' u z x → Calls Tryd.prog 9 #[y, z] u fun e w' => e = .returned (.bool true) ∧ Below u.heap.size u w') := fun R R' y z x u hy hz => by
    refine (SInts_any x x y z u hy hz).mono ?_
    rintro e w' ⟨rfl, n, rfl⟩
    exact ⟨by rw [show eqI x x = true by simp [eqI]], below_drewN (Below.refl _ _) _⟩
  by_cases hE : splitE many l = 0
  · obtain ⟨e1, e2, e3⟩ := splitE_0 hE
    obtain ⟨t1, n1, n6, hb⟩ := idx_tot e1
    have HR : Hid (∀ N, 0 ≤ N → N ≤ 10000 → Calls Tryd.prog 6 #[.int .i64 N, v] w fun e w' => ∃ y, e = .returned y ∧ OwnInts w.heap.size w' y (splitL N l) ∧ Below w.heap.size w w') := fun N a b => RSplit_row N l v w hv e1 a b
    have HB : Hid (∀ k, k < l.length → 0 ≤ (splitL (absM many) l).getD k 0 ∧ (splitL (absM many) l).getD k 0 ≤ 10001) := fun k hk => by
      obtain ⟨B, p, hB, hp, b0, b1, p1, p2, _⟩ := part_at hE hk
      rw [hp]; omega
    have HSl : Hid ((splitS many l).length = l.length) := splitS_length _ _
    have HLl : Hid ((splitL (absM many) l).length = l.length) := splitL_length _ _
    have HPe : Hid (partE many l i = if i < 0 ∨ l.length ≤ i then 1 else 0) := by show _ = _; rw [partE, if_pos hE]
    rw [hE, errV_0, okL_0] at HS
    rw [e1] at HW
    have HSS : Hid (splitS many l = if many < 0 then (splitL (absM many) l).map (fun x => -x) else splitL (absM many) l) := by
      show _ = _
      unfold splitS absM
      split <;> rfl
    obtain ⟨N, hN⟩ : ∃ N, absM many = N := ⟨_, rfl⟩
    have hN' : (many < 0 ∧ -many = N) ∨ (¬ many < 0 ∧ many = N) := by
      unfold absM at hN
      split at hN
      · exact .inl ⟨by assumption, hN⟩
      · exact .inr ⟨by assumption, hN⟩
    rw [hN] at HB HSS HLl
    have hN0 : 0 ≤ N := by omega
    have hN1 : N ≤ 10000 := by omega
    replace HR : Hid (Calls Tryd.prog 6 #[.int .i64 N, v] w fun e w' => ∃ y, e = .returned y ∧ OwnInts w.heap.size w' y (splitL N l) ∧ Below w.heap.size w w') := HR.out N hN0 hN1
    have H0 : Hid (negK (splitL N l) 0 = splitL N l) := negK_0 _
    have Hn : Hid (∀ k, k < l.length → (negK (splitL N l) k).getD k 0 = (splitL N l).getD k 0 ∧ negK (splitL N l) (k + 1) = (negK (splitL N l) k).set k (-((splitL N l).getD k 0))) := fun k hk => ⟨negK_at (by rw [splitL_length]; exact hk), negK_next (by rw [splitL_length]; exact hk)⟩
    have Hnl : Hid (∀ k, (negK (splitL N l) k).length = l.length) := fun k => by rw [negK_length, splitL_length]
    have Hna : Hid (negK (splitL N l) l.length = (splitL N l).map (fun x => -x)) := by
      have := negK_all (splitL N l)
      rwa [splitL_length] at this
    generalize negK (splitL N l) = nK at *
    generalize splitL N l = sl at *
    generalize splitS many l = x at *
    obtain ⟨a, cap, rfl, ⟨hm1, hm2⟩, hc⟩ := hv
    clear hc hE e1 hb hg hN
    have q1 : decide (many < -10000) = false := by simp; omega
    have q2 : decide (many > 10000) = false := by simp; omega
    have hi : (i < 0 ∧ Hid (partE many l i = 1)) ∨ ((¬ i < 0 ∧ (l.length : Int) ≤ i) ∧ Hid (partE many l i = 1)) ∨ ((0 ≤ i ∧ i < l.length) ∧ Hid (partE many l i = 0)) := by
      by_cases h1 : i < 0
      · exact .inl ⟨h1, by show _ = _; rw [HPe.out, if_pos (.inl h1)]⟩
      · by_cases h2 : (l.length : Int) ≤ i
        · exact .inr (.inl ⟨⟨h1, h2⟩, by show _ = _; rw [HPe.out, if_pos (.inr h2)]⟩)
        · exact .inr (.inr ⟨⟨by omega, by omega⟩, by show _ = _; rw [HPe.out, if_neg (by omega)]⟩)
    generalize partE many l i = pe at *
    go_enter Tryd.func3, Tryd.ntmps3
    go_wp2_with fail
    refine HW.out.mono ?_
    rintro e w ⟨rfl, rfl⟩
    go_upto_if 30 with fail
    go_cut [8, 9, 10] (fun s8 _ _ wc => ∃ a8 c8, s8 = .slice a8 l.length c8 ∧ Hid (IntsAt (fun b => w.heap.size ≤ b) wc (.slice a8 l.length c8) x) ∧ Hid (Below w.heap.size w wc))
    case first =>
      rcases hN' with ⟨hneg, rfl⟩ | ⟨hneg, rfl⟩
      · rw [if_pos hneg] at HSS
        have hng : IntKind.i64.wrap (-many) = -many := by rw [IntKind.wrap_i64]; omega
        go_wp2_with fail
        refine HR.out.mono ?_
        rintro e w1 ⟨y, rfl, ⟨g, c, sp, rfl, hc, hg, hr⟩, hw1⟩
        have R1 : Hid (RowAt w1 g 3 ((nK 0).map (Value.int .i64) ++ sp)) := by rw [H0.out]; exact hr
        have B1 : Hid (Below w.heap.size w w1) := hw1
        rw [HLl.out] at hc ⊢
        clear hr hw1
        go_wp2
        go_loopw [10] (fun s10 wr => ∃ k : Nat, k ≤ l.length ∧ s10 = .int .i64 k ∧ Hid (RowAt wr g 3 ((nK k).map (Value.int .i64) ++ sp)) ∧ Hid (Below w.heap.size w wr)) (fun s10 _ => l.length - (intOf s10).toNat)
        case atStart => exact ⟨0, by omega, rfl, R1, B1⟩
        case round =>
          obtain ⟨k, hk, rfl, ro, hbl⟩ := hrel
          by_cases hlt : k < l.length
          · obtain ⟨e1, e2⟩ := Hn.out k hlt
            obtain ⟨b0, b1⟩ := HB.out k hlt
            have c0 := ro.out.cell (intsCell (l := nK k) (sp := sp) (i := k) (by rw [Hnl.out]; exact hlt))
            rw [e1] at c0
            have c1 := ro.out.frozen k
            have R3 : Hid (RowAt (wr.setCell ⟨g, k, none⟩ (.int .i64 (-(sl.getD k 0)))) g 3 ((nK (k + 1)).map (Value.int .i64) ++ sp)) := by
              show RowAt _ _ _ _
              rw [e2, ← intsSet (by rw [Hnl.out]; exact hlt)]
              exact ro.out.set k _
            have B3 : Hid (Below w.heap.size w (wr.setCell ⟨g, k, none⟩ (.int .i64 (-(sl.getD k 0))))) := hbl.out.setCell hg _
            clear e1 e2
            generalize sl.getD k 0 = sk at *
            have hng2 : IntKind.i64.wrap (-sk) = -sk := by rw [IntKind.wrap_i64]; omega
            go_wp2
            go_roundw
            case rel => exact ⟨k + 1, by omega, by go_num, R3, B3⟩
            case measure => simp [intOf]; omega
          · obtain rfl : k = l.length := by omega
            have RX : Hid (IntsAt (fun b => w.heap.size ≤ b) wr (.slice (some ⟨g, 0, none⟩) l.length c) x) := by
              have := intsRow (Q := fun b => w.heap.size ≤ b) (c := c) ro.out (by rw [Hnl.out]; exact hc) (by rw [Hnl.out]; omega) hg
              rw [Hnl.out, Hna.out, ← HSS.out] at this
              exact this
            go_wp2_with fail
            go_meet
            case rel => exact ⟨_, _, rfl, RX, hbl⟩
      · rw [if_neg (by omega)] at HSS
        go_wp2_with fail
        refine HR.out.mono ?_
        rintro e w1 ⟨y, rfl, ⟨g, c, sp, rfl, hc, hg, hr⟩, hw1⟩
        have B1 : Hid (Below w.heap.size w w1) := hw1
        have RX : Hid (IntsAt (fun b => w.heap.size ≤ b) w1 (.slice (some ⟨g, 0, none⟩) l.length c) x) := by
          have := intsRow (Q := fun b => w.heap.size ≤ b) (c := c) hr hc (by rw [HLl.out]; omega) hg
          rw [← HSS.out, HSl.out] at this
          exact this
        rw [HLl.out] at hc ⊢
        clear hr hw1
        go_wp2
        go_loopw [10] (fun s10 wr => s10 = .int .i64 0 ∧ Hid (wr = w1)) (fun s10 _ => 0)
        case atStart => exact ⟨rfl, rfl⟩
        case round =>
          obtain ⟨rfl, hw⟩ := hrel
          have RX' : Hid (IntsAt (fun b => w.heap.size ≤ b) wr (.slice (some ⟨g, 0, none⟩) l.length c) x) := by rw [hw.out]; exact RX
          have B1' : Hid (Below w.heap.size w wr) := by rw [hw.out]; exact B1
          clear hw
          go_wp2_with fail
          go_meet
          case rel => exact ⟨_, _, rfl, RX', B1'⟩
    case rest =>
      obtain ⟨a8, c8, rfl, RX, BX⟩ := hcut
      have HX2 : Hid (∀ u, Below wc.heap.size wc u → IntsAt (fun b => w.heap.size ≤ b) u (.slice a8 l.length c8) x) := fun u hu => RX.out.later hu
      have HCx : Hid (∀ k, k < l.length → ∃ b off, a8 = some ⟨b, off, none⟩ ∧ ∀ u, Below wc.heap.size wc u → u.cell? ⟨b, off + k, none⟩ = some (.int .i64 (x.getD k 0))) := fun k hk => ints_cells RX.out k (by rw [HSl.out]; exact hk)
      have HE0 : Hid (∀ u : World, Below w.heap.size w u → Calls Tryd.prog 8 #[.nilIface, .int .i64 0] u fun e w' => e = .returned (.bool true) ∧ Below u.heap.size u w') := fun u hu => by
        have := HEr.out 0 u hu
        rwa [errV_0] at this
      obtain ⟨w0, hw0⟩ : ∃ w0, w0 = wc := ⟨_, rfl⟩
      rw [← hw0] at HX2 HCx
      have BX0 : Hid (Below w0.heap.size w0 wc) := by rw [hw0]; exact Below.refl _ _
      clear hw0
      go_wp2_with fail
      refine (HS.out _ BX.out).mono ?_
      rintro e w1 ⟨y, rfl, hy, hw1⟩
      have B1 : Hid (Below w.heap.size w w1) := BX.out.trans (hw1.mono BX.out.size)
      have B1' : Hid (Below w0.heap.size w0 w1) := BX0.out.trans (hw1.mono BX0.out.size)
      have HY : Hid (IntsAt (fun b => wc.heap.size ≤ b) w1 y x) := hy
      obtain ⟨ay, cy, rfl, _⟩ := hy
      clear hw1
      rw [HSl.out] at HY ⊢
      go_wp2_with fail
      refine (HE0.out _ B1.out).mono ?_
      rintro e w2 ⟨rfl, hw2⟩
      have B2 : Hid (Below w.heap.size w w2) := B1.out.trans (hw2.mono B1.out.size)
      have B2' : Hid (Below w0.heap.size w0 w2) := B1'.out.trans (hw2.mono B1'.out.size)
      have HY2 : Hid (IntsAt (fun b => wc.heap.size ≤ b) w2 (.slice ay l.length cy) x) := HY.out.later hw2
      have HI2 : Hid (Calls Tryd.prog 9 #[.slice ay l.length cy, .slice a8 l.length c8] w2 fun e w' => e = .returned (.bool true) ∧ Below w2.heap.size w2 w') := HIn.out _ _ _ _ x w2 HY2.out (HX2.out _ B2'.out)
      clear hw2 HY
      go_wp2_with fail
      refine HI2.out.mono ?_
      rintro e w3 ⟨rfl, hw3⟩
      have B3 : Hid (Below w.heap.size w w3) := B2.out.trans (hw3.mono B2.out.size)
      have B3' : Hid (Below w0.heap.size w0 w3) := B2'.out.trans (hw3.mono B2'.out.size)
      clear hw3
      rcases hi with ⟨hi, hpe⟩ | ⟨⟨hi, hi2⟩, hpe⟩ | ⟨⟨hi, hi2⟩, hpe⟩
      · rw [hpe.out, okI_ne (by decide)] at HPa
        have HE1 := (show Hid _ from HEr.out 1)
        go_wp2_with fail
        refine (HPa.out _ B3.out).mono ?_
        rintro e w4 ⟨rfl, hw4⟩
        have B4 : Hid (Below w.heap.size w w4) := B3.out.trans (hw4.mono B3.out.size)
        clear hw4
        go_wp2_with fail
        refine (HE1.out _ B4.out).mono ?_
        rintro e w5 ⟨rfl, hw5⟩
        have B5 : Hid (Below w.heap.size w w5) := B4.out.trans (hw5.mono B4.out.size)
        clear hw5
        go_wp2
        go_ret
        exact ⟨Ns.ret_bool rfl, B5.out⟩
      · rw [hpe.out, okI_ne (by decide)] at HPa
        have HE1 := (show Hid _ from HEr.out 1)
        go_wp2_with fail
        refine (HPa.out _ B3.out).mono ?_
        rintro e w4 ⟨rfl, hw4⟩
        have B4 : Hid (Below w.heap.size w w4) := B3.out.trans (hw4.mono B3.out.size)
        clear hw4
        go_wp2_with fail
        refine (HE1.out _ B4.out).mono ?_
        rintro e w5 ⟨rfl, hw5⟩
        have B5 : Hid (Below w.heap.size w w5) := B4.out.trans (hw5.mono B4.out.size)
        clear hw5
        go_wp2
        go_ret
        exact ⟨Ns.ret_bool rfl, B5.out⟩
      · rw [hpe.out, okI_0, errV_0] at HPa
        obtain ⟨k, rfl⟩ : ∃ k : Nat, i = (k : Int) := ⟨i.toNat, by omega⟩
        rw [Int.toNat_natCast] at HPa
        obtain ⟨b, off, rfl, hcx⟩ := HCx.out k (by omega)
        have c0 := hcx _ B3'.out
        generalize x.getD k 0 = xk at *
        clear hcx
        go_wp2_with fail
        refine (HPa.out _ B3.out).mono ?_
        rintro e w4 ⟨rfl, hw4⟩
        have B4 : Hid (Below w.heap.size w w4) := B3.out.trans (hw4.mono B3.out.size)
        clear hw4 c0
        go_wp2_with fail
        refine (HE0.out _ B4.out).mono ?_
        rintro e w5 ⟨rfl, hw5⟩
        have B5 : Hid (Below w.heap.size w w5) := B4.out.trans (hw5.mono B4.out.size)
        clear hw5
        go_wp2
        go_ret
        exact ⟨Ns.ret_bool rfl, B5.out⟩
  · have HPe : partE many l i = splitE many l := by rw [partE, if_neg hE]
    rw [okL_ne hE] at HS
    rw [HPe, okI_ne hE] at HPa
    have HEn : Hid (∀ u : World, Calls Tryd.prog 9 #[.slice none 0 0, .slice none 0 0] u fun e w' => e = .returned (.bool true) ∧ Below u.heap.size u w') := fun u => HIn.out (fun _ => True) (fun _ => True) _ _ [] u (gt_nil _ _) (gt_nil _ _)
    have hcase : (idxE l ≠ 0 ∧ Hid (splitE many l = idxE l)) ∨ (idxE l = 0 ∧ many < -10000 ∧ Hid (splitE many l = 1)) ∨ (idxE l = 0 ∧ ¬ many < -10000 ∧ 10000 < many ∧ Hid (splitE many l = 1)) := by
      by_cases h0 : idxE l = 0
      · right
        by_cases h1 : many < -10000
        · exact .inl ⟨h0, h1, by show _ = _; rw [splitE, if_pos h0, if_pos (.inl h1)]⟩
        · by_cases h2 : 10000 < many
          · exact .inr ⟨h0, h1, h2, by show _ = _; rw [splitE, if_pos h0, if_pos (.inr h2)]⟩
          · exfalso; apply hE; rw [splitE, if_pos h0, if_neg (by omega)]
      · exact .inl ⟨h0, by show _ = _; rw [splitE, if_neg h0]⟩
    have HEk := (show Hid _ from HEr.out (splitE many l))
    have HSl0 : Hid (∀ (u : World) (y : Value) (B : Nat), IntsAt (fun b => B ≤ b) u y [] → Calls Tryd.prog 9 #[y, .slice none 0 0] u fun e w' => e = .returned (.bool true) ∧ Below u.heap.size u w') := fun u y B hy => HIn.out _ (fun _ => True) _ _ [] u hy (gt_nil _ _)
    have HV : Hid (errV (splitE many l) = .iface 39 (.int .i64 (splitE many l))) := errV_ne hE
    rw [HV.out] at HS HPa HEk
    have hEk : ((splitE many l) == 0) = false := beq_eq_false_iff_ne.2 hE
    obtain ⟨a, cap, rfl, ⟨hm1, hm2⟩, hc⟩ := hv
    clear hc hg HPe HV hE
    rcases hcase with ⟨h0, hs⟩ | ⟨h0, h1, hs⟩ | ⟨h0, h1, h2, hs⟩
    · rw [← hs.out] at HW
      generalize splitE many l = ek at *
      clear hs h0
      go_enter Tryd.func3, Tryd.ntmps3
      go_wp2_with fail
      refine HW.out.mono ?_
      rintro e w ⟨rfl, rfl⟩
      go_wp2_with fail
      refine (HS.out _ (Below.refl _ _)).mono ?_
      rintro e w1 ⟨y, rfl, hy, hw1⟩
      have B1 : Hid (Below w.heap.size w w1) := hw1
      have HY : Hid (IntsAt (fun b => w.heap.size ≤ b) w1 y []) := hy
      obtain ⟨ay, cy, rfl, _⟩ := hy
      clear hw1
      go_wp2_with fail
      refine (HEk.out _ B1.out).mono ?_
      rintro e w2 ⟨rfl, hw2⟩
      have B2 : Hid (Below w.heap.size w w2) := B1.out.trans (hw2.mono B1.out.size)
      have HI2 : Hid (Calls Tryd.prog 9 #[.slice ay 0 cy, .slice none 0 0] w2 fun e w' => e = .returned (.bool true) ∧ Below w2.heap.size w2 w') := HSl0.out w2 _ _ (HY.out.later hw2)
      clear hw2 HY
      go_wp2_with fail
      refine HI2.out.mono ?_
      rintro e w3 ⟨rfl, hw3⟩
      have B3 : Hid (Below w.heap.size w w3) := B2.out.trans (hw3.mono B2.out.size)
      clear hw3
      go_wp2_with fail
      refine (HPa.out _ B3.out).mono ?_
      rintro e w4 ⟨rfl, hw4⟩
      have B4 : Hid (Below w.heap.size w w4) := B3.out.trans (hw4.mono B3.out.size)
      clear hw4
      go_wp2_with fail
      refine (HEk.out _ B4.out).mono ?_
      rintro e w5 ⟨rfl, hw5⟩
      have B5 : Hid (Below w.heap.size w w5) := B4.out.trans (hw5.mono B4.out.size)
      clear hw5
      go_wp2
      go_ret
      exact ⟨Ns.ret_bool rfl, B5.out⟩
    · rw [h0] at HW
      rw [hs.out] at HS HPa HEk
      have q1 : decide (many < -10000) = true := by simp; omega
      clear hEk hs h0
      go_enter Tryd.func3, Tryd.ntmps3
      go_wp2_with fail
      refine HW.out.mono ?_
      rintro e w ⟨rfl, rfl⟩
      go_wp2_with fail
      refine (HS.out _ (Below.refl _ _)).mono ?_
      rintro e w1 ⟨y, rfl, hy, hw1⟩
      have B1 : Hid (Below w.heap.size w w1) := hw1
      have HY : Hid (IntsAt (fun b => w.heap.size ≤ b) w1 y []) := hy
      obtain ⟨ay, cy, rfl, _⟩ := hy
      clear hw1
      go_wp2_with fail
      refine (HEk.out _ B1.out).mono ?_
      rintro e w2 ⟨rfl, hw2⟩
      have B2 : Hid (Below w.heap.size w w2) := B1.out.trans (hw2.mono B1.out.size)
      have HI2 : Hid (Calls Tryd.prog 9 #[.slice ay 0 cy, .slice none 0 0] w2 fun e w' => e = .returned (.bool true) ∧ Below w2.heap.size w2 w') := HSl0.out w2 _ _ (HY.out.later hw2)
      clear hw2 HY
      go_wp2_with fail
      refine HI2.out.mono ?_
      rintro e w3 ⟨rfl, hw3⟩
      have B3 : Hid (Below w.heap.size w w3) := B2.out.trans (hw3.mono B2.out.size)
      clear hw3
      go_wp2_with fail
      refine (HPa.out _ B3.out).mono ?_
      rintro e w4 ⟨rfl, hw4⟩
      have B4 : Hid (Below w.heap.size w w4) := B3.out.trans (hw4.mono B3.out.size)
      clear hw4
      go_wp2_with fail
      refine (HEk.out _ B4.out).mono ?_
      rintro e w5 ⟨rfl, hw5⟩
      have B5 : Hid (Below w.heap.size w w5) := B4.out.trans (hw5.mono B4.out.size)
      clear hw5
      go_wp2
      go_ret
      exact ⟨Ns.ret_bool rfl, B5.out⟩
    · rw [h0] at HW
      rw [hs.out] at HS HPa HEk
      have q1 : decide (many < -10000) = false := by simp; omega
      have q2 : decide (many > 10000) = true := by simp; omega
      clear hEk hs h0
      go_enter Tryd.func3, Tryd.ntmps3
      go_wp2_with fail
      refine HW.out.mono ?_
      rintro e w ⟨rfl, rfl⟩
      go_wp2_with fail
      refine (HS.out _ (Below.refl _ _)).mono ?_
      rintro e w1 ⟨y, rfl, hy, hw1⟩
      have B1 : Hid (Below w.heap.size w w1) := hw1
      have HY : Hid (IntsAt (fun b => w.heap.size ≤ b) w1 y []) := hy
      obtain ⟨ay, cy, rfl, _⟩ := hy
      clear hw1
      go_wp2_with fail
      refine (HEk.out _ B1.out).mono ?_
      rintro e w2 ⟨rfl, hw2⟩
      have B2 : Hid (Below w.heap.size w w2) := B1.out.trans (hw2.mono B1.out.size)
      have HI2 : Hid (Calls Tryd.prog 9 #[.slice ay 0 cy, .slice none 0 0] w2 fun e w' => e = .returned (.bool true) ∧ Below w2.heap.size w2 w') := HSl0.out w2 _ _ (HY.out.later hw2)
      clear hw2 HY
      go_wp2_with fail
      refine HI2.out.mono ?_
      rintro e w3 ⟨rfl, hw3⟩
      have B3 : Hid (Below w.heap.size w w3) := B2.out.trans (hw3.mono B2.out.size)
      clear hw3
      go_wp2_with fail
      refine (HPa.out _ B3.out).mono ?_
      rintro e w4 ⟨rfl, hw4⟩
      have B4 : Hid (Below w.heap.size w w4) := B3.out.trans (hw4.mono B3.out.size)
      clear hw4
      go_wp2_with fail
      refine (HEk.out _ B4.out).mono ?_
      rintro e w5 ⟨rfl, hw5⟩
      have B5 : Hid (Below w.heap.size w w5) := B4.out.trans (hw5.mono B4.out.size)
      clear hw5
      go_wp2
      go_ret
      exact ⟨Ns.ret_bool rfl, B5.out⟩
end Ev
end Go.Proofs.YtdlckfffpdjbcahDoor
