/- Pieces of one walk, one text behind the other. -/
import Derived.Test.YtpnmmmlckdkcdakGreatDoorRLnA
import Derived.Test.YtpnmmmlckdkcdakGreatDoorRWts
import Derived.Test.YtpnmmmlckdkcdakGreatDoorRTot
import Derived.Test.YtpnmmmlckdkcdakGreatDoorRefLo
import Derived.Test.YtpnmmmlckdkcdakGreatDoorRSplit
/- The document's Line at 'index'. -/
namespace Go.Proofs.YtpnmmmlckdkcdakGreatDoor
namespace Ev
open Go.RowKit Fr Ns Ld Fl
set_option linter.unusedSimpArgs false
set_option linter.unusedVariables false

theorem idxE_few (L : List Int) : 0 ≤ idxE L ∧ idxE L ≤ 8 := by
  unfold idxE few
  repeat' split
  all_goals omega
theorem idx_told {L : List Int} (h : idxE L = 0) : 0 ≤ (idx L).1 ∧ (idx L).1 < 1000000000000000000 ∧ 0 ≤ (idx L).2 ∧ (idx L).2 < 1000000000000000000 := by
  have hf := fault_0 (idx_right h)
  have hp := idx_parts h
  have hr := low_ratio (tot L * tot L) (L.length * sqs L)
  have h0 : 0 ≤ (idx L).1 := by
    rcases Int.lt_or_le (idx L).1 0 with hn | hn
    · exfalso
      have e1 : (idx L).1 * ((L.length : Int) * sqs L) = tot L * tot L * (idx L).2 := hr
      have e2 : 0 ≤ tot L * tot L * (idx L).2 := Int.mul_nonneg hp.2.2.2.2.2.2.1 (by omega)
      have e3 : (idx L).1 * ((L.length : Int) * sqs L) < 0 := Int.mul_neg_of_neg_of_pos hn (by omega)
      omega
    · exact hn
  exact ⟨h0, by omega, by omega, by omega⟩

set_option maxRecDepth 100000 in
set_option maxHeartbeats 8000000 in
theorem line_index {Q : Nat → Prop} (f : Flows) (s : Txt) (v : Value) (w : World) (h : NetAt Q w v capsR f) (hf : RightF f) (hs : s.length ≤ 3000) (hr : readT s = true) (hw0 : wordT s = tIndex) (hc : 1 ≤ (numsT s).length) :
    Calls Tryz.prog 23 #[v, .string ⟨s.toArray⟩] w fun e w' => ∃ x, e = .returned (.tuple #[.string ⟨(lineT f s).toArray⟩, x]) ∧ NetAt (fun b => Q b ∨ w.heap.size ≤ b) w' x capsR (lineF f s) ∧ Below w.heap.size w w' := by
  have hfit : fitsT s = true := by simp [fitsT, hr, hw0, tRates, tAdd, tIndex, tDrop, tLeast, tSplit, hc]
  have HLT : Hid (lineT f s = if idxE (numsT s) = 0 then toldT (idx (numsT s)) else nameT (idxE (numsT s))) := by show _ = _; simp [lineT, hfit, hw0, tRates, tAdd, tDrop, tLeast, tIndex, tSplit]
  have HLF : lineF f s = f := by simp [lineF, hfit, hw0, tRates, tAdd, tDrop, tLeast, tIndex, tSplit]
  rw [HLF]
  clear hfit HLF
  obtain ⟨W, hCut, hWl, hLl, hW0, hNum, hLb⟩ := line_parts hs hr
  rw [hw0] at hW0
  clear hw0
  have HCn : Hid (1 ≤ (numsT s).length) := hc
  clear hc
  generalize numsT s = L at *
  have HC : Hid (∀ u : World, Calls Tryz.prog 22 #[.string ⟨s.toArray⟩, .int .u8 32] u fun e w' => ∃ v, e = .returned v ∧ StrsAt (fun b => u.heap.size ≤ b) w' v W ∧ Below u.heap.size u w') := hCut
  have HN : Hid (∀ i, i < L.length → ∀ u : World, Calls Tryz.prog 51 #[.string ⟨(W.getD (i + 1) []).toArray⟩] u fun e w' => e = .returned (.tuple #[.int .i64 (L.getD i 0), .bool true]) ∧ w' = u) := hNum
  have HLb : Hid (∀ x ∈ L, 0 ≤ x ∧ x ≤ 9999) := hLb
  have HF : Hid (f ≠ [] → ∀ u : World, Below w.heap.size w u → Calls Tryz.prog 52 #[v] u fun e w' => ∃ y z, e = .returned (.tuple #[y, z]) ∧ FracsAt (fun b => u.heap.size ≤ b) w' y (ratesR f) ∧ ListsAt (fun b => u.heap.size ≤ b) w' z (fill capsR f).2 ∧ Below u.heap.size u w') := fun hne u hu => RFill_any capsR f v u (h.later hu) (right_good hf hne) (by decide)
  have HNet : Hid (∀ u : World, Below w.heap.size w u → NetAt (fun b => Q b ∨ w.heap.size ≤ b) u v capsR f) := fun u hu => by
    obtain ⟨x1, x2, rfl, _⟩ := id h
    exact line_end h hu
  obtain ⟨v1, v2, rfl, h1, h2⟩ := id h
  have HNAt : Hid (NetAt Q w (.agg #[v1, v2]) capsR f) := h
  obtain ⟨a2, c2, e2, hm2⟩ : ∃ a2 c2, v2 = .slice a2 f.length c2 ∧ f.length ≤ 9223372036854775807 := by
    obtain ⟨a2, c2, e, hm, _⟩ := h2
    exact ⟨a2, c2, e, hm.2⟩
  obtain ⟨a1, c1, e1⟩ : ∃ a1 c1, v1 = .slice a1 capsR.length c1 := by
    obtain ⟨a1, c1, e, _⟩ := h1
    exact ⟨a1, c1, e⟩
  subst e2
  subst e1
  generalize capsR.length = nc at *
  obtain ⟨k0, hKI, hx0, hx1, hx2⟩ := info_parts infoInt
  clear hCut hNum hLb h h1 h2 hr hs
  go_enter Tryz.func23, Tryz.ntmps23
  go_wp2_with fail
  refine (HC.out _).mono ?_
  rintro e w1 ⟨vw, rfl, hvw, hw1⟩
  obtain ⟨aw, cw, rfl, hmw, hcw⟩ := id hvw
  have HW0 : Hid (∃ b off, aw = some ⟨b, off, none⟩ ∧ ∀ u, Below w1.heap.size w1 u → u.cell? ⟨b, off, none⟩ = some (.string ⟨#[105, 110, 100, 101, 120]⟩)) := by
    obtain ⟨b, off, e, hcc⟩ := strs_cells hvw 0 (by omega)
    refine ⟨b, off, e, fun u hu => ?_⟩
    have := hcc u hu
    rw [hW0] at this
    exact this
  have HWs : Hid (∀ i, i < L.length → ∃ b off, aw = some ⟨b, off, none⟩ ∧ ∀ u, Below w1.heap.size w1 u → u.cell? ⟨b, off + (i + 1), none⟩ = some (.string ⟨(W.getD (i + 1) []).toArray⟩)) := fun i hi => strs_cells hvw (i + 1) (by omega)
  have hsz1 : w.heap.size + 1 + 1 ≤ w1.heap.size := by have := hw1.size; simpa using this
  have HR0 : Hid (RowAt w1 w.heap.size 37 [.slice a1 nc c1, .slice a2 f.length c2]) := ((row_made w _ _ _ _ rfl rfl).alloc _).later hw1 (by simp <;> omega)
  have HR1 : Hid (RowAt w1 (w.heap.size + 1) 37 [.slice none 0 0, .slice none 0 0]) := (row_made (w.alloc (.cells #[.slice a1 nc c1, .slice a2 f.length c2] 37)) _ _ _ _ (by simp) rfl).later hw1 (by simp <;> omega)
  have HB1 : Hid (Below w.heap.size w w1) := (((Below.refl _ _).alloc (Nat.le_refl _) _).alloc (by simp) _).trans (hw1.mono (by simp; omega))
  have hmw1 := hmw.1
  rw [hWl] at hmw1 ⊢
  clear hvw hw1 hcw hmw hW0 hWl
  go_wp2_with fail
  go_loopw [7, 8, 9, 10] (fun s7 s8 _ _ wr => ∃ k : Nat, k ≤ L.length ∧ s8 = .int .i64 ((k : Int) + 1) ∧ Hid (wr.ownsRow w1.heap.size 3 1 s7 k ((L.take k).map (Value.int .i64))) ∧ Hid (Below w1.heap.size w1 wr)) (fun _ s8 _ _ _ => L.length + 1 - (intOf s8).toNat)
  case atStart => exact ⟨0, by omega, by go_num, ⟨rfl, .inl ⟨rfl, rfl⟩⟩, Below.refl _ _⟩
  case round =>
    obtain ⟨k, hk, rfl, ho, hbl⟩ := hrel
    obtain ⟨a7, c7, rfl⟩ := own_slice ho.out
    have hwz : w1.heap.size ≤ wr.heap.size := hbl.out.size
    by_cases hlt : k < L.length
    · obtain ⟨b, off, rfl, hcc⟩ := HWs.out k hlt
      have c0 := hcc _ hbl.out
      have HN1 : Hid (∀ u : World, Calls Tryz.prog 51 #[.string ⟨(W.getD (k + 1) []).toArray⟩] u fun e w' => e = .returned (.tuple #[.int .i64 (L.getD k 0), .bool true]) ∧ w' = u) := HN.out k hlt
      have HX : Hid ((L.take (k + 1)).map (Value.int .i64) = (L.take k).map (Value.int .i64) ++ [.int .i64 (L.getD k 0)]) := take_map_snoc _ L k hlt 0
      have HON : Hid (wr.ownsRow w1.heap.size 3 1 (.slice a7 k c7) k ((L.take k).map (Value.int .i64))) := ho
      clear hcc ho
      generalize (L.take k).map (Value.int .i64) = ys at *
      generalize L.getD k 0 = x at *
      generalize W.getD (k + 1) [] = tx at *
      have hc8 : ((k : Int) + 1) < ((L.length + 1 : Nat) : Int) := by omega
      have hk8 : ((k : Int) + 1).toNat = k + 1 := by omega
      have hk9 : IntKind.i64.wrap ((k : Int) + 1 + 1) = (k : Int) + 1 + 1 := by rw [IntKind.wrap_i64]; omega
      go_wp2_with fail
      refine (HN1.out _).mono ?_
      rintro e w2 ⟨rfl, rfl⟩
      go_wp2_with (at_builtin; go_must (refine wpList_append_own _ rfl _ _ 22 rfl w1.heap.size 3 k0 (.int .i64 0) 1 8 Tryz.underlying22 hKI hx0 hx1 hx2 rfl (by decide) _ _ _ rfl (HON.out.alloc _) ⟨_, 0, none⟩ 1 1 [.int .i64 x] rfl rfl (new1 _ _ _ _ ?c1) (by intro u hu; simp at hu; subst hu; rfl) (by unfold maxLen; omega) (by omega) ?c2 ?_))
      case c1 => simp
      case c2 => simp; omega
      intro v' wg hown hgrow _
      have HO2 : Hid (wg.ownsRow w1.heap.size 3 1 v' (k + 1) ((L.take (k + 1)).map (Value.int .i64))) := by rw [HX.out]; exact hown
      have HB2 : Hid (Below w1.heap.size w1 wg) := hbl.out.trans (grew1 hwz hgrow (fun k hk => (HON.out.lt k hk).1))
      clear hown hgrow
      go_wp2
      go_roundw
      case rel => exact ⟨k + 1, by omega, by go_num, HO2, HB2⟩
      case measure => simp [intOf]; omega
    · obtain rfl : k = L.length := by omega
      have HI : Hid (IntsAt (fun b => w1.heap.size ≤ b) wr (.slice a7 L.length c7) L) := ints_of_owns (base := w1.heap.size) (by omega) (by have := ho.out; rwa [List.take_length] at this) (fun g hg => hg)
      have HRa : Hid (RowAt wr w.heap.size 37 [.slice a1 nc c1, .slice a2 f.length c2]) := HR0.out.later hbl.out (by omega)
      have HRb : Hid (RowAt wr (w.heap.size + 1) 37 [.slice none 0 0, .slice none 0 0]) := HR1.out.later hbl.out (by omega)
      have HBr : Hid (Below w.heap.size w wr) := HB1.out.trans (hbl.out.mono (by omega))
      have hLc : L.length ≤ c7 := by obtain ⟨_, _, e, hm, _⟩ := HI.out; simp only [Value.slice.injEq] at e; obtain ⟨_, _, rfl⟩ := e; exact hm.1
      obtain ⟨bw, ow, rfl, hcw⟩ := HW0.out
      have cw0 := hcw _ hbl.out
      have hcl : ¬ (((L.length : Int) + 1) < ((L.length + 1 : Nat) : Int)) := by omega
      obtain ⟨ca0, ca1, fa0, fa1, za⟩ := RowTwo HRa.out
      clear HWs HW0 HN ho HR0 HR1
      clear hmw1 hwz
      have hcI : ¬ (L.length : Int) < 1 := by have := HCn.out; omega
      go_upto_region 25 with fail
      go_cut [82] (fun s82 wc => s82 = .bool false ∧ Hid (wc = wr))
      case first =>
        by_cases hq : 1 < (L.length : Int)
        · go_wp2
          go_meet
          case rel => exact ⟨rfl, rfl⟩
        · go_wp2
          go_meet
          case rel => exact ⟨rfl, rfl⟩
      obtain ⟨rfl, hwc⟩ := hcut
      obtain rfl : wr = wc := hwc.out.symm
      go_upto_if 87 with fail
      go_cut [13] (fun s13 wc => Hid (FracsAt (fun b => wr.heap.size ≤ b) wc s13 (ratesL f)) ∧ Hid (Below wr.heap.size wr wc))
      case first =>
        by_cases hne : f = []
        · have hl0 : ¬ 0 < (f.length : Int) := by rw [hne]; decide
          have HFe : Hid (ratesL f = []) := if_pos hne
          clear hne
          go_wp2
          go_meet
          case rel => exact ⟨by rw [HFe.out]; exact fracs_nil _ _, Below.refl _ _⟩
        · have hl0 : 0 < (f.length : Int) := by have : f.length ≠ 0 := fun e => hne (List.eq_nil_of_length_eq_zero e); omega
          have HFe : Hid (ratesL f = ratesR f) := if_neg hne
          have HF1 := HF.out hne
          have HF2 : Hid (∀ u : World, Below w.heap.size w u → Calls Tryz.prog 52 #[.agg #[.slice a1 nc c1, .slice a2 f.length c2]] u fun e w' => ∃ y z, e = .returned (.tuple #[y, z]) ∧ FracsAt (fun b => u.heap.size ≤ b) w' y (ratesR f) ∧ ListsAt (fun b => u.heap.size ≤ b) w' z (fill capsR f).2 ∧ Below u.heap.size u w') := HF1
          clear HF1 HF
          go_wp2_with fail
          refine (HF2.out _ HBr.out).mono ?_
          rintro e w3 ⟨y, z, rfl, hy, hz, hw3⟩
          have HY : Hid (FracsAt (fun b => wr.heap.size ≤ b) w3 y (ratesL f)) := by rw [HFe.out]; exact hy
          have HB3 : Hid (Below wr.heap.size wr w3) := hw3
          clear hy hz hw3
          go_wp2
          go_meet
          case rel => exact ⟨HY, HB3⟩
      case rest =>
        obtain ⟨hfr, hbc⟩ := hcut
        have HRA : Hid (RowAt wc w.heap.size 37 [.slice a1 nc c1, .slice a2 f.length c2]) := HRa.out.later hbc.out HRa.out.lt
        have HRB : Hid (RowAt wc (w.heap.size + 1) 37 [.slice none 0 0, .slice none 0 0]) := HRb.out.later hbc.out HRb.out.lt
        have HBC : Hid (Below w.heap.size w wc) := Bel.call HBr.out (Nat.le_refl _) hbc.out
        have HIC : Hid (IntsAt (fun b => w1.heap.size ≤ b) wc (.slice a7 L.length c7) L) := HI.out.later hbc.out
        have cwc := hcw _ (hbl.out.trans (hbc.out.mono hbl.out.size))
        have zw1 : w1.heap.size ≤ wc.heap.size := Nat.le_trans hbl.out.size hbc.out.size
        have HFr : Hid (FracsAt (fun _ => True) wc u13 (ratesL f)) := hfr.out.keep (fun _ _ _ => rfl) (fun _ _ _ => trivial)
        clear hfr
        clear cw0 ca0 ca1 fa0 fa1 za HRa HRb HBr HI HF hcw hbl hbc HB1
        obtain ⟨ca0, ca1, fa0, fa1, za⟩ := RowTwo HRA.out
        obtain ⟨cb0, cb1, fb0, fb1, zb⟩ := RowTwo HRB.out
        have zne : w.heap.size ≠ w.heap.size + 1 := by omega
        have HWt : Hid (Calls Tryz.prog 58 #[.slice a7 L.length c7] wc fun e w' => e = .returned (.int .i64 (idxE L)) ∧ w' = wc) := RWeights_any L _ wc HIC.out
        by_cases hi : idxE L = 0
        · have HTx : Hid (lineT f s = toldT (idx L)) := by show _ = _; rw [HLT.out, if_pos hi]
          obtain ⟨q1, q2, q3, q4⟩ := idx_told hi
          obtain ⟨p1, p2, p3, p4, p5, p6, p7, p8⟩ := idx_parts hi
          obtain ⟨_, _, n6, hb⟩ := idx_tot hi
          have HTt : Hid (Calls Tryz.prog 59 #[.slice a7 L.length c7] wc fun e w' => e = .returned (.int .i64 (tot L)) ∧ w' = wc) := RTot_any L _ wc HIC.out (by omega) (fun x hx => by have := hb x hx; omega)
          have HLo : Hid (∀ u : World, Calls Tryz.prog 25 #[.int .i64 (tot L * tot L), .int .i64 ((L.length : Int) * sqs L)] u fun e w' => e = .returned (.agg #[.int .i64 (idx L).1, .int .i64 (idx L).2]) ∧ Below u.heap.size u w') := fun u => Low_any _ _ u (by omega) (by omega) (by omega) (by omega)
          have HTo : Hid (∀ u : World, Calls Tryz.prog 24 #[.agg #[.int .i64 (idx L).1, .int .i64 (idx L).2]] u fun e w' => e = .returned (.string ⟨(toldT (idx L)).toArray⟩) ∧ Below u.heap.size u w') := fun u => RTold_any _ u q1 q2 q3 q4
          have HSq : Hid (∀ k, k ≤ L.length → 0 ≤ sqs (L.take k) ∧ sqs (L.take k) ≤ 6000000) := fun k hk => by
            have h1 := sqs_bd (M := 1000) (l := L.take k) (fun x hx => hb x (List.mem_of_mem_take hx))
            have h2 : ((L.take k).length : Int) ≤ 6 := by rw [List.length_take]; omega
            have h3 := Int.mul_le_mul_of_nonneg_right h2 (show (0 : Int) ≤ 1000 * 1000 by decide)
            omega
          have HSs : Hid (∀ k, k < L.length → sqs (L.take (k + 1)) = sqs (L.take k) + L.getD k 0 * L.getD k 0) := fun k hk => sqs_step L k hk
          have HS0 : Hid (sqs (L.take 0) = 0) := rfl
          have HSn : Hid (sqs (L.take L.length) = sqs L) := by show _ = _; rw [List.take_length]
          have HSx : Hid (∀ k, k < L.length → 0 ≤ L.getD k 0 * L.getD k 0 ∧ L.getD k 0 * L.getD k 0 ≤ 1000000) := fun k hk => by
            have := hb _ (getD_mem L k hk 0)
            exact ⟨Int.mul_nonneg this.1 this.1, Int.mul_le_mul this.2 this.2 this.1 (by decide)⟩
          have HCl : Hid (∀ i, i < L.length → ∃ b off, a7 = some ⟨b, off, none⟩ ∧ ∀ u, Below wc.heap.size wc u → u.cell? ⟨b, off + i, none⟩ = some (.int .i64 (L.getD i 0))) := ints_cells HIC.out
          have hw1 : IntKind.i64.wrap (tot L * tot L) = tot L * tot L := by rw [IntKind.wrap_i64]; omega
          have hw2 : IntKind.i64.wrap ((L.length : Int) * sqs L) = (L.length : Int) * sqs L := by rw [IntKind.wrap_i64]; omega
          rw [hi] at HWt
          clear HLT hi hb p1 p2 p3 p4 p5 p6 p7 p8 q1 q2 q3 q4 HLb
          generalize toldT (idx L) = NT at *
          generalize (idx L).1 = i1 at *
          generalize (idx L).2 = i2 at *
          generalize tot L = tt at *
          obtain ⟨S, hS⟩ : ∃ S : Nat → Int, ∀ k, sqs (L.take k) = S k := ⟨_, fun _ => rfl⟩
          simp only [hS] at HSq HSs HS0 HSn
          clear hS
          generalize sqs L = sL at *
          go_wp2_with fail
          refine HWt.out.mono ?_
          rintro e w4 ⟨rfl, rfl⟩
          go_wp2_with fail
          refine HTt.out.mono ?_
          rintro e w4 ⟨rfl, rfl⟩
          go_wp2_with fail
          go_loopw [22, 23] (fun s22 s23 wr => ∃ k : Nat, k ≤ L.length ∧ s23 = .int .i64 k ∧ s22 = .int .i64 (S k) ∧ Hid (Below w4.heap.size w4 wr)) (fun _ s23 _ => L.length - (intOf s23).toNat)
          case atStart => exact ⟨0, by omega, rfl, by rw [HS0.out], Below.refl _ _⟩
          case round =>
            obtain ⟨k, hk, rfl, rfl, hbr⟩ := hrel
            by_cases hlt : k < L.length
            · obtain ⟨b, off, rfl, hcc⟩ := HCl.out k hlt
              have d0 := hcc _ hbr.out
              obtain ⟨x0, x1⟩ := HSx.out k hlt
              obtain ⟨y0, y1⟩ := HSq.out k hk
              have HE : Hid (S (k + 1) = S k + L.getD k 0 * L.getD k 0) := HSs.out k hlt
              clear hcc
              generalize L.getD k 0 = x at *
              have g1 : IntKind.i64.wrap (x * x) = x * x := by rw [IntKind.wrap_i64]; omega
              have g2 : IntKind.i64.wrap (S k + x * x) = S k + x * x := by rw [IntKind.wrap_i64]; omega
              clear hw1 hw2
              go_wp2_with fail
              go_quiet (fail)
              have HBq : Hid (Below w4.heap.size w4 (wr.drewN nq)) := below_drewN hbr.out nq
              generalize wr.drewN nq = wz at *
              go_wp2
              go_roundw
              case rel => exact ⟨k + 1, by omega, by go_num, by rw [HE.out], HBq⟩
              case measure => simp [intOf]; omega
            · obtain rfl : k = L.length := by omega
              have hSn := HSn.out
              have HRA2 := HRA.out.later hbr.out za
              have HRB2 := HRB.out.later hbr.out zb
              clear ca0 ca1 fa0 fa1 cb0 cb1 fb0 fb1
              obtain ⟨ca0, ca1, fa0, fa1, za2⟩ := RowTwo HRA2
              obtain ⟨cb0, cb1, fb0, fb1, zb2⟩ := RowTwo HRB2
              have HBZ : Hid (Below w.heap.size w wr) := Bel.call HBC.out (Nat.le_refl _) hbr.out
              have P1 : Hid (Below wr.heap.size wr wr.drew) := (Below.refl _ _).drew
              rw [hSn]
              go_wp2_with fail
              go_region_law (first | (go_simp; refine (HLo.out _).mono ?_; rintro e w5 ⟨rfl, hw5⟩; have Hb3 : Hid (Below wr.heap.size wr w5) := Bel.call P1.out (Nat.le_refl _) hw5; obtain ⟨ca0', ca1', fa0', fa1', za'⟩ := RowTwo (HRA2.later Hb3.out za2); obtain ⟨cb0', cb1', fb0', fb1', zb'⟩ := RowTwo (HRB2.later Hb3.out zb2)) | (go_simp; refine (HTo.out _).mono ?_; rintro e w6 ⟨rfl, hw6⟩; have Hb4 : Hid (Below wr.heap.size wr w6) := Bel.call Hb3.out (Nat.le_refl _) hw6; obtain ⟨ca0'', ca1'', fa0'', fa1'', za''⟩ := RowTwo (HRA2.later Hb4.out za2); obtain ⟨cb0'', cb1'', fb0'', fb1'', zb''⟩ := RowTwo (HRB2.later Hb4.out zb2)))
              all_goals
                have HBE : Hid (Below w.heap.size w w6) := Bel.call HBZ.out (Nat.le_refl _) Hb4.out
                clear hw5 hw6
                go_wp2
                refine bodyPost_ret (v := .tuple #[.string ⟨NT.toArray⟩, .agg #[.slice a1 nc c1, .slice a2 f.length c2]]) (by simp [results, Tryz.results23, go_sem, ca0'', ca1'', cb0'', cb1'', fa0'', fa1'', fb0'', fb1'']) rfl ⟨_, by rw [HTx.out], HNet.out _ ?_, ?_⟩
                all_goals repeat (first | with_reducible exact HBE.out | with_reducible refine Below.setCell ?_ (by simp) _ | with_reducible refine Below.drew ?_)
        · have HTx : Hid (lineT f s = nameT (idxE L)) := by show _ = _; rw [HLT.out, if_neg hi]
          have hpf := idxE_few L
          clear HLT
          generalize idxE L = pe at *
          have hpe : (pe != 0) = true := by simpa using hi
          go_wp2_with fail
          refine HWt.out.mono ?_
          rintro e w4 ⟨rfl, rfl⟩
          have P1 : Hid (Below w4.heap.size w4 w4.drew) := (Below.refl _ _).drew
          have HBZ : Hid (Below w.heap.size w w4) := HBC.out
          have HNm : Hid (∀ u : World, Calls Tryz.prog 53 #[.int .i64 pe] u fun e' w' => e' = .returned (.string ⟨(nameT pe).toArray⟩) ∧ Below u.heap.size u w') := fun u => RName_any pe u (by omega) (by omega)
          generalize nameT pe = NT at *
          go_wp2_with fail
          go_region_law (first | (go_simp; refine (HNm.out _).mono ?_; rintro e w5 ⟨rfl, hw5⟩; have Hb5 : Hid (Below w4.heap.size w4 w5) := Bel.call P1.out (Nat.le_refl _) hw5; obtain ⟨ca0', ca1', fa0', fa1', za'⟩ := RowTwo (HRA.out.later Hb5.out za); obtain ⟨cb0', cb1', fb0', fb1', zb'⟩ := RowTwo (HRB.out.later Hb5.out zb)))
          all_goals
            have HBE : Hid (Below w.heap.size w w5) := Bel.call HBZ.out (Nat.le_refl _) Hb5.out
            clear hw5
            go_wp2
            refine bodyPost_ret (v := .tuple #[.string ⟨NT.toArray⟩, .agg #[.slice a1 nc c1, .slice a2 f.length c2]]) (by simp [results, Tryz.results23, go_sem, ca0', ca1', cb0', cb1', fa0', fa1', fb0', fb1']) rfl ⟨_, by rw [HTx.out], HNet.out _ ?_, ?_⟩
            all_goals repeat (first | with_reducible exact HBE.out | with_reducible refine Below.setCell ?_ (by simp) _ | with_reducible refine Below.drew ?_)
end Ev
end Go.Proofs.YtpnmmmlckdkcdakGreatDoor

/- The document's Line at 'split'. -/
namespace Go.Proofs.YtpnmmmlckdkcdakGreatDoor
namespace Ev
open Go.RowKit Fr Ns Ld Fl
set_option linter.unusedSimpArgs false
set_option linter.unusedVariables false

theorem ints_tail {Q : Nat → Prop} {w : World} {b off n c : Nat} {l : List Int} (h : IntsAt Q w (.slice (some ⟨b, off, none⟩) n c) l) (h1 : 1 ≤ l.length) : IntsAt (fun _ => True) w (.slice (some ⟨b, off + 1, none⟩) (n - 1) (c - 1)) l.tail := by
  obtain ⟨a, cap, e, hm, hc⟩ := h
  simp only [Value.slice.injEq] at e
  obtain ⟨rfl, rfl, rfl⟩ := e
  rcases hc with h | ⟨b', off', e, hc, _⟩
  · rw [h] at h1; simp at h1
  · simp only [Option.some.injEq, Addr.mk.injEq, and_true] at e
    obtain ⟨rfl, rfl⟩ := e
    refine ⟨_, _, by rw [List.length_tail], ⟨by rw [List.length_tail]; omega, by rw [List.length_tail]; omega⟩, .inr ⟨b, off + 1, rfl, fun i hi => ?_, trivial⟩⟩
    rw [List.length_tail] at hi
    have := hc (i + 1) (by omega)
    rw [show off + 1 + i = off + (i + 1) by omega, this]
    cases l with
    | nil => simp at h1
    | cons x r => simp
theorem idxE_fewS (L : List Int) : 0 ≤ idxE L ∧ idxE L ≤ 8 := by
  unfold idxE few
  repeat' split
  all_goals omega
theorem split_told {m : Int} {l : List Int} (h : idxE l = 0) (m0 : 0 ≤ m) (m1 : m ≤ 9999) : ∀ i, i < (splitL m l).length → 0 ≤ (splitL m l).getD i 0 ∧ (splitL m l).getD i 0 < 1000000000000000000 := by
  intro i hi
  rw [splitL_length] at hi
  obtain ⟨t1, _, _, hb⟩ := idx_tot h
  obtain ⟨h1, h2, _⟩ := split_part (many := m) (w := l) m0 t1 hi
  have hx := hb _ (getD_mem l i hi 0)
  have q0 : 0 ≤ m * l.getD i 0 := Int.mul_nonneg m0 hx.1
  have q1 : m * l.getD i 0 ≤ 9999 * 1000 := Int.mul_le_mul m1 hx.2 hx.1 (by decide)
  have b0 : 0 ≤ baseG m (tot l) (l.getD i 0) := Int.ediv_nonneg q0 (by omega)
  have b1 : baseG m (tot l) (l.getD i 0) ≤ 9999 * 1000 := Int.le_trans (Int.ediv_le_self _ q0) q1
  omega

set_option maxRecDepth 100000 in
set_option maxHeartbeats 8000000 in
theorem line_split {Q : Nat → Prop} (f : Flows) (s : Txt) (v : Value) (w : World) (h : NetAt Q w v capsR f) (hf : RightF f) (hs : s.length ≤ 3000) (hr : readT s = true) (hw0 : wordT s = tSplit) (hc : 2 ≤ (numsT s).length) :
    Calls Tryz.prog 23 #[v, .string ⟨s.toArray⟩] w fun e w' => ∃ x, e = .returned (.tuple #[.string ⟨(lineT f s).toArray⟩, x]) ∧ NetAt (fun b => Q b ∨ w.heap.size ≤ b) w' x capsR (lineF f s) ∧ Below w.heap.size w w' := by
  have hfit : fitsT s = true := by simp [fitsT, hr, hw0, tRates, tAdd, tIndex, tDrop, tLeast, tSplit, hc]
  have HLT : Hid (lineT f s = if idxE (numsT s).tail = 0 then joinT ((splitL ((numsT s).getD 0 0) (numsT s).tail).map digT) else nameT (idxE (numsT s).tail)) := by show _ = _; simp [lineT, hfit, hw0, tRates, tAdd, tDrop, tLeast, tIndex, tSplit]
  have HLF : lineF f s = f := by simp [lineF, hfit, hw0, tRates, tAdd, tDrop, tLeast, tIndex, tSplit]
  rw [HLF]
  clear hfit HLF
  obtain ⟨W, hCut, hWl, hLl, hW0, hNum, hLb⟩ := line_parts hs hr
  rw [hw0] at hW0
  clear hw0
  have HCn : Hid (2 ≤ (numsT s).length) := hc
  clear hc
  generalize numsT s = L at *
  have HC : Hid (∀ u : World, Calls Tryz.prog 22 #[.string ⟨s.toArray⟩, .int .u8 32] u fun e w' => ∃ v, e = .returned v ∧ StrsAt (fun b => u.heap.size ≤ b) w' v W ∧ Below u.heap.size u w') := hCut
  have HN : Hid (∀ i, i < L.length → ∀ u : World, Calls Tryz.prog 51 #[.string ⟨(W.getD (i + 1) []).toArray⟩] u fun e w' => e = .returned (.tuple #[.int .i64 (L.getD i 0), .bool true]) ∧ w' = u) := hNum
  have HLb : Hid (∀ x ∈ L, 0 ≤ x ∧ x ≤ 9999) := hLb
  have HF : Hid (f ≠ [] → ∀ u : World, Below w.heap.size w u → Calls Tryz.prog 52 #[v] u fun e w' => ∃ y z, e = .returned (.tuple #[y, z]) ∧ FracsAt (fun b => u.heap.size ≤ b) w' y (ratesR f) ∧ ListsAt (fun b => u.heap.size ≤ b) w' z (fill capsR f).2 ∧ Below u.heap.size u w') := fun hne u hu => RFill_any capsR f v u (h.later hu) (right_good hf hne) (by decide)
  have HNet : Hid (∀ u : World, Below w.heap.size w u → NetAt (fun b => Q b ∨ w.heap.size ≤ b) u v capsR f) := fun u hu => by
    obtain ⟨x1, x2, rfl, _⟩ := id h
    exact line_end h hu
  obtain ⟨v1, v2, rfl, h1, h2⟩ := id h
  have HNAt : Hid (NetAt Q w (.agg #[v1, v2]) capsR f) := h
  obtain ⟨a2, c2, e2, hm2⟩ : ∃ a2 c2, v2 = .slice a2 f.length c2 ∧ f.length ≤ 9223372036854775807 := by
    obtain ⟨a2, c2, e, hm, _⟩ := h2
    exact ⟨a2, c2, e, hm.2⟩
  obtain ⟨a1, c1, e1⟩ : ∃ a1 c1, v1 = .slice a1 capsR.length c1 := by
    obtain ⟨a1, c1, e, _⟩ := h1
    exact ⟨a1, c1, e⟩
  subst e2
  subst e1
  generalize capsR.length = nc at *
  obtain ⟨k0, hKI, hx0, hx1, hx2⟩ := info_parts infoInt
  clear hCut hNum hLb h h1 h2 hr hs
  go_enter Tryz.func23, Tryz.ntmps23
  go_wp2_with fail
  refine (HC.out _).mono ?_
  rintro e w1 ⟨vw, rfl, hvw, hw1⟩
  obtain ⟨aw, cw, rfl, hmw, hcw⟩ := id hvw
  have HW0 : Hid (∃ b off, aw = some ⟨b, off, none⟩ ∧ ∀ u, Below w1.heap.size w1 u → u.cell? ⟨b, off, none⟩ = some (.string ⟨#[115, 112, 108, 105, 116]⟩)) := by
    obtain ⟨b, off, e, hcc⟩ := strs_cells hvw 0 (by omega)
    refine ⟨b, off, e, fun u hu => ?_⟩
    have := hcc u hu
    rw [hW0] at this
    exact this
  have HWs : Hid (∀ i, i < L.length → ∃ b off, aw = some ⟨b, off, none⟩ ∧ ∀ u, Below w1.heap.size w1 u → u.cell? ⟨b, off + (i + 1), none⟩ = some (.string ⟨(W.getD (i + 1) []).toArray⟩)) := fun i hi => strs_cells hvw (i + 1) (by omega)
  have hsz1 : w.heap.size + 1 + 1 ≤ w1.heap.size := by have := hw1.size; simpa using this
  have HR0 : Hid (RowAt w1 w.heap.size 37 [.slice a1 nc c1, .slice a2 f.length c2]) := ((row_made w _ _ _ _ rfl rfl).alloc _).later hw1 (by simp <;> omega)
  have HR1 : Hid (RowAt w1 (w.heap.size + 1) 37 [.slice none 0 0, .slice none 0 0]) := (row_made (w.alloc (.cells #[.slice a1 nc c1, .slice a2 f.length c2] 37)) _ _ _ _ (by simp) rfl).later hw1 (by simp <;> omega)
  have HB1 : Hid (Below w.heap.size w w1) := (((Below.refl _ _).alloc (Nat.le_refl _) _).alloc (by simp) _).trans (hw1.mono (by simp; omega))
  have hmw1 := hmw.1
  rw [hWl] at hmw1 ⊢
  clear hvw hw1 hcw hmw hW0 hWl
  go_wp2_with fail
  go_loopw [7, 8, 9, 10] (fun s7 s8 _ _ wr => ∃ k : Nat, k ≤ L.length ∧ s8 = .int .i64 ((k : Int) + 1) ∧ Hid (wr.ownsRow w1.heap.size 3 1 s7 k ((L.take k).map (Value.int .i64))) ∧ Hid (Below w1.heap.size w1 wr)) (fun _ s8 _ _ _ => L.length + 1 - (intOf s8).toNat)
  case atStart => exact ⟨0, by omega, by go_num, ⟨rfl, .inl ⟨rfl, rfl⟩⟩, Below.refl _ _⟩
  case round =>
    obtain ⟨k, hk, rfl, ho, hbl⟩ := hrel
    obtain ⟨a7, c7, rfl⟩ := own_slice ho.out
    have hwz : w1.heap.size ≤ wr.heap.size := hbl.out.size
    by_cases hlt : k < L.length
    · obtain ⟨b, off, rfl, hcc⟩ := HWs.out k hlt
      have c0 := hcc _ hbl.out
      have HN1 : Hid (∀ u : World, Calls Tryz.prog 51 #[.string ⟨(W.getD (k + 1) []).toArray⟩] u fun e w' => e = .returned (.tuple #[.int .i64 (L.getD k 0), .bool true]) ∧ w' = u) := HN.out k hlt
      have HX : Hid ((L.take (k + 1)).map (Value.int .i64) = (L.take k).map (Value.int .i64) ++ [.int .i64 (L.getD k 0)]) := take_map_snoc _ L k hlt 0
      have HON : Hid (wr.ownsRow w1.heap.size 3 1 (.slice a7 k c7) k ((L.take k).map (Value.int .i64))) := ho
      clear hcc ho
      generalize (L.take k).map (Value.int .i64) = ys at *
      generalize L.getD k 0 = x at *
      generalize W.getD (k + 1) [] = tx at *
      have hc8 : ((k : Int) + 1) < ((L.length + 1 : Nat) : Int) := by omega
      have hk8 : ((k : Int) + 1).toNat = k + 1 := by omega
      have hk9 : IntKind.i64.wrap ((k : Int) + 1 + 1) = (k : Int) + 1 + 1 := by rw [IntKind.wrap_i64]; omega
      go_wp2_with fail
      refine (HN1.out _).mono ?_
      rintro e w2 ⟨rfl, rfl⟩
      go_wp2_with (at_builtin; go_must (refine wpList_append_own _ rfl _ _ 22 rfl w1.heap.size 3 k0 (.int .i64 0) 1 8 Tryz.underlying22 hKI hx0 hx1 hx2 rfl (by decide) _ _ _ rfl (HON.out.alloc _) ⟨_, 0, none⟩ 1 1 [.int .i64 x] rfl rfl (new1 _ _ _ _ ?c1) (by intro u hu; simp at hu; subst hu; rfl) (by unfold maxLen; omega) (by omega) ?c2 ?_))
      case c1 => simp
      case c2 => simp; omega
      intro v' wg hown hgrow _
      have HO2 : Hid (wg.ownsRow w1.heap.size 3 1 v' (k + 1) ((L.take (k + 1)).map (Value.int .i64))) := by rw [HX.out]; exact hown
      have HB2 : Hid (Below w1.heap.size w1 wg) := hbl.out.trans (grew1 hwz hgrow (fun k hk => (HON.out.lt k hk).1))
      clear hown hgrow
      go_wp2
      go_roundw
      case rel => exact ⟨k + 1, by omega, by go_num, HO2, HB2⟩
      case measure => simp [intOf]; omega
    · obtain rfl : k = L.length := by omega
      have HI : Hid (IntsAt (fun b => w1.heap.size ≤ b) wr (.slice a7 L.length c7) L) := ints_of_owns (base := w1.heap.size) (by omega) (by have := ho.out; rwa [List.take_length] at this) (fun g hg => hg)
      have HRa : Hid (RowAt wr w.heap.size 37 [.slice a1 nc c1, .slice a2 f.length c2]) := HR0.out.later hbl.out (by omega)
      have HRb : Hid (RowAt wr (w.heap.size + 1) 37 [.slice none 0 0, .slice none 0 0]) := HR1.out.later hbl.out (by omega)
      have HBr : Hid (Below w.heap.size w wr) := HB1.out.trans (hbl.out.mono (by omega))
      have hLc : L.length ≤ c7 := by obtain ⟨_, _, e, hm, _⟩ := HI.out; simp only [Value.slice.injEq] at e; obtain ⟨_, _, rfl⟩ := e; exact hm.1
      obtain ⟨bw, ow, rfl, hcw⟩ := HW0.out
      have cw0 := hcw _ hbl.out
      have hcl : ¬ (((L.length : Int) + 1) < ((L.length + 1 : Nat) : Int)) := by omega
      obtain ⟨ca0, ca1, fa0, fa1, za⟩ := RowTwo HRa.out
      clear HWs HW0 HN ho HR0 HR1
      clear hmw1 hwz
      have hcI : ¬ (L.length : Int) < 2 := by have := HCn.out; omega
      go_upto_region 25 with fail
      go_cut [82] (fun s82 wc => s82 = .bool false ∧ Hid (wc = wr))
      case first =>
        by_cases hq : 2 < (L.length : Int)
        · go_wp2
          go_meet
          case rel => exact ⟨rfl, rfl⟩
        · go_wp2
          go_meet
          case rel => exact ⟨rfl, rfl⟩
      obtain ⟨rfl, hwc⟩ := hcut
      obtain rfl : wr = wc := hwc.out.symm
      go_upto_if 87 with fail
      go_cut [13] (fun s13 wc => Hid (FracsAt (fun b => wr.heap.size ≤ b) wc s13 (ratesL f)) ∧ Hid (Below wr.heap.size wr wc))
      case first =>
        by_cases hne : f = []
        · have hl0 : ¬ 0 < (f.length : Int) := by rw [hne]; decide
          have HFe : Hid (ratesL f = []) := if_pos hne
          clear hne
          go_wp2
          go_meet
          case rel => exact ⟨by rw [HFe.out]; exact fracs_nil _ _, Below.refl _ _⟩
        · have hl0 : 0 < (f.length : Int) := by have : f.length ≠ 0 := fun e => hne (List.eq_nil_of_length_eq_zero e); omega
          have HFe : Hid (ratesL f = ratesR f) := if_neg hne
          have HF1 := HF.out hne
          have HF2 : Hid (∀ u : World, Below w.heap.size w u → Calls Tryz.prog 52 #[.agg #[.slice a1 nc c1, .slice a2 f.length c2]] u fun e w' => ∃ y z, e = .returned (.tuple #[y, z]) ∧ FracsAt (fun b => u.heap.size ≤ b) w' y (ratesR f) ∧ ListsAt (fun b => u.heap.size ≤ b) w' z (fill capsR f).2 ∧ Below u.heap.size u w') := HF1
          clear HF1 HF
          go_wp2_with fail
          refine (HF2.out _ HBr.out).mono ?_
          rintro e w3 ⟨y, z, rfl, hy, hz, hw3⟩
          have HY : Hid (FracsAt (fun b => wr.heap.size ≤ b) w3 y (ratesL f)) := by rw [HFe.out]; exact hy
          have HB3 : Hid (Below wr.heap.size wr w3) := hw3
          clear hy hz hw3
          go_wp2
          go_meet
          case rel => exact ⟨HY, HB3⟩
      case rest =>
        obtain ⟨hfr, hbc⟩ := hcut
        have HRA : Hid (RowAt wc w.heap.size 37 [.slice a1 nc c1, .slice a2 f.length c2]) := HRa.out.later hbc.out HRa.out.lt
        have HRB : Hid (RowAt wc (w.heap.size + 1) 37 [.slice none 0 0, .slice none 0 0]) := HRb.out.later hbc.out HRb.out.lt
        have HBC : Hid (Below w.heap.size w wc) := Bel.call HBr.out (Nat.le_refl _) hbc.out
        have HIC : Hid (IntsAt (fun b => w1.heap.size ≤ b) wc (.slice a7 L.length c7) L) := HI.out.later hbc.out
        have cwc := hcw _ (hbl.out.trans (hbc.out.mono hbl.out.size))
        have zw1 : w1.heap.size ≤ wc.heap.size := Nat.le_trans hbl.out.size hbc.out.size
        have HFr : Hid (FracsAt (fun _ => True) wc u13 (ratesL f)) := hfr.out.keep (fun _ _ _ => rfl) (fun _ _ _ => trivial)
        clear hfr
        clear cw0 ca0 ca1 fa0 fa1 za HRa HRb HBr HI HF hcw hbl hbc HB1
        obtain ⟨ca0, ca1, fa0, fa1, za⟩ := RowTwo HRA.out
        obtain ⟨cb0, cb1, fb0, fb1, zb⟩ := RowTwo HRB.out
        have zne : w.heap.size ≠ w.heap.size + 1 := by omega
        have HIa : Hid (∃ b off, a7 = some ⟨b, off, none⟩ ∧ ∀ u, Below wc.heap.size wc u → u.cell? ⟨b, off, none⟩ = some (.int .i64 (L.getD 0 0))) := by
          obtain ⟨b, off, e, hcc⟩ := ints_cells HIC.out 0 (by have := HCn.out; omega)
          exact ⟨b, off, e, hcc⟩
        obtain ⟨b, off, rfl, hcc⟩ := HIa.out
        have d0 := hcc _ (Below.refl _ _)
        have hx := HLb.out (L.getD 0 0) (getD_mem L 0 (by have := HCn.out; omega) 0)
        have hl2 : 2 ≤ L.length := HCn.out
        have HWt : Hid (Calls Tryz.prog 58 #[.slice (some ⟨b, off + 1, none⟩) (L.length - 1) (c7 - 1)] wc fun e w' => e = .returned (.int .i64 (idxE L.tail)) ∧ w' = wc) := RWeights_any L.tail _ wc (ints_tail HIC.out (by omega))
        have e1 : ((L.length : Int) - 1).toNat = L.length - 1 := by omega
        have e2 : ((c7 : Int) - 1).toNat = c7 - 1 := by omega
        have e3 : (1 : Int) ≤ (L.length : Int) := by omega
        have e4 : (1 : Int) ≤ (c7 : Int) := by omega
        have e5 : ¬ c7 = 1 := by omega
        have e6 : 0 < L.length := by omega
        have e7 : (0 : Int) < (L.length : Int) := by omega
        by_cases hi : idxE L.tail = 0
        · have HTx : Hid (lineT f s = joinT ((splitL (L.getD 0 0) L.tail).map digT)) := by show _ = _; rw [HLT.out, if_pos hi]
          have HSp : Hid (∀ u : World, Below wc.heap.size wc u → Calls Tryz.prog 60 #[.int .i64 (L.getD 0 0), .slice (some ⟨b, off + 1, none⟩) (L.length - 1) (c7 - 1)] u fun e w' => ∃ y, e = .returned y ∧ IntsAt (fun b => u.heap.size ≤ b) w' y (splitL (L.getD 0 0) L.tail) ∧ Below u.heap.size u w') := fun u hu => RSplit_any _ L.tail _ u ((ints_tail HIC.out (by omega)).later hu) hi hx.1 (by omega)
          have HSt := split_told hi hx.1 hx.2
          have hS6 : (splitL (L.getD 0 0) L.tail).length ≤ 6 := by rw [splitL_length]; exact (idx_tot hi).2.2.1
          rw [hi] at HWt
          clear HLT hi
          generalize splitL (L.getD 0 0) L.tail = R at *
          generalize L.getD 0 0 = x at *
          have HTo : Hid (∀ i, i < R.length → ∀ u : World, Calls Tryz.prog 61 #[.int .i64 (R.getD i 0)] u fun e w' => e = .returned (.string ⟨(digT (R.getD i 0)).toArray⟩) ∧ w' = u) := fun i hi u => RDigits_is _ u (HSt i hi).1 (HSt i hi).2
          obtain ⟨J, hJ⟩ : ∃ J : Nat → Txt, ∀ k, joinT ((R.take k).map digT) = J k := ⟨_, fun _ => rfl⟩
          have HJ0 : Hid (J 0 = []) := by show _ = _; rw [← hJ]; rfl
          have HJl : Hid (∀ k, (J k).length ≤ 252) := fun k => by
            rw [← hJ]
            have h1 := joinT_len (l := (R.take k).map digT) (M := 41) (fun x hx => by obtain ⟨a, _, rfl⟩ := List.mem_map.1 hx; exact Nat.le_trans (digT_len a) (by decide))
            have h2 : ((R.take k).map digT).length ≤ 6 := by simp; omega
            have h3 := Nat.mul_le_mul_right (41 + 1) h2
            omega
          have HJs : Hid (∀ k, k < R.length → k ≠ 0 → (⟨(J k).toArray⟩ : ByteArray) ++ ⟨#[32]⟩ ++ ⟨(digT (R.getD k 0)).toArray⟩ = ⟨(J (k + 1)).toArray⟩) := fun k hk h0 => by
            rw [← hJ, ← hJ, join_step digT R k hk 0, if_neg h0]
            apply ByteArray.ext
            simp
          have HJ1 : Hid (0 < R.length → (⟨(J 0).toArray⟩ : ByteArray) ++ ⟨(digT (R.getD 0 0)).toArray⟩ = ⟨(J 1).toArray⟩) := fun hk => by
            rw [← hJ, ← hJ, join_step digT R 0 hk 0, if_pos rfl]
            apply ByteArray.ext
            simp [joinT]
          have HTx : Hid (lineT f s = J R.length) := by show _ = _; rw [HTx.out, ← hJ, List.take_length]
          clear hJ HSt HLb
          have P0 : Hid (Below wc.heap.size wc wc.drew) := (Below.refl _ _).drew
          have HSA : Hid (∀ u : World, Below wc.heap.size wc u → u.cell? ⟨b, off, none⟩ = some (.int .i64 x)) := hcc
          go_wp2_with fail
          refine HWt.out.mono ?_
          rintro e w4 ⟨rfl, rfl⟩
          go_wp2_with fail
          go_region_held3 (fun u => u.cell? ⟨b, off, none⟩ = some (.int .i64 x))
            ((refine HSA.out _ ?_; first | exact P0.out | exact Hbo.out))
            (first | (go_at_call 60; refine (HSp.out _ ?_).mono ?_; (first | exact P0.out | exact Below.refl _ _); rintro e wo ⟨y, rfl, hy, hwo⟩; have Hbo : Hid (Below w4.heap.size w4 wo) := Bel.call P0.out (Nat.le_refl _) hwo))
          all_goals
            obtain ⟨ar, cr, rfl, hmr, hcr⟩ := id hy
            have HFc : Hid (∀ i, i < R.length → ∃ b off, ar = some ⟨b, off, none⟩ ∧ ∀ u, Below wo.heap.size wo u → u.cell? ⟨b, off + i, none⟩ = some (.int .i64 (R.getD i 0))) := ints_cells hy
            have HRA1 : Hid (RowAt wo w.heap.size 37 [.slice a1 nc c1, .slice a2 f.length c2]) := HRA.out.later Hbo.out za
            have HRB1 : Hid (RowAt wo (w.heap.size + 1) 37 [.slice none 0 0, .slice none 0 0]) := HRB.out.later Hbo.out zb
            have HBO : Hid (Below w.heap.size w wo) := Bel.call HBC.out (Nat.le_refl _) Hbo.out
            have za1 := HRA1.out.lt
            have zb1 := HRB1.out.lt
            clear hcr hy hwo Hbo HSA P0 HSp HRA HRB ca0 ca1 fa0 fa1 cb0 cb1 fb0 fb1 d0 hcc HIa
            go_wp2_with fail
            go_loopw [26, 27, 28] (fun s26 s27 _ wr => ∃ k : Nat, k ≤ R.length ∧ s27 = .int .i64 k ∧ s26 = .string ⟨(J k).toArray⟩ ∧ Hid (Below wo.heap.size wo wr)) (fun _ s27 _ _ => R.length - (intOf s27).toNat)
            case atStart => exact ⟨0, by omega, rfl, by rw [HJ0.out], Below.refl _ _⟩
            case round =>
              obtain ⟨k, hk, rfl, rfl, hbr⟩ := hrel
              have hjl := HJl.out k
              by_cases hlt : k < R.length
              · obtain ⟨b', off', rfl, hcc⟩ := HFc.out k hlt
                have d0 := hcc _ hbr.out
                have hxl := digT_len (R.getD k 0)
                have HT2 : Hid (∀ u : World, Calls Tryz.prog 61 #[.int .i64 (R.getD k 0)] u fun e w' => e = .returned (.string ⟨(digT (R.getD k 0)).toArray⟩) ∧ w' = u) := fun u => HTo.out k hlt u
                clear hcc
                by_cases h0 : k = 0
                · subst h0
                  have HS1 : Hid ((⟨(J 0).toArray⟩ : ByteArray) ++ ⟨(digT (R.getD 0 0)).toArray⟩ = ⟨(J 1).toArray⟩) := HJ1.out hlt
                  generalize digT (R.getD 0 0) = X at *
                  generalize R.getD 0 0 = p1 at *
                  have d0' : wr.cell? ⟨b', off', none⟩ = some (.int .i64 p1) := d0
                  clear d0
                  go_wp2_with fail
                  refine (HT2.out _).mono ?_
                  rintro e w5 ⟨rfl, rfl⟩
                  go_wp2
                  go_roundw
                  case rel => exact ⟨0 + 1, by omega, by go_num, by rw [HS1.out], hbr⟩
                  case measure => simp [intOf]; omega
                · have HS1 : Hid ((⟨(J k).toArray⟩ : ByteArray) ++ ⟨#[32]⟩ ++ ⟨(digT (R.getD k 0)).toArray⟩ = ⟨(J (k + 1)).toArray⟩) := HJs.out k hlt h0
                  generalize digT (R.getD k 0) = X at *
                  generalize R.getD k 0 = p1 at *
                  have hk0 : 0 < (k : Int) := by omega
                  clear h0
                  go_wp2_with fail
                  refine (HT2.out _).mono ?_
                  rintro e w5 ⟨rfl, rfl⟩
                  go_wp2
                  go_roundw
                  case rel => exact ⟨k + 1, by omega, by go_num, by rw [HS1.out], hbr⟩
                  case measure => simp [intOf]; omega
              · obtain rfl : k = R.length := by omega
                have HRA2 := HRA1.out.later hbr.out za1
                have HRB2 := HRB1.out.later hbr.out zb1
                obtain ⟨ca0, ca1, fa0, fa1, za2⟩ := RowTwo HRA2
                obtain ⟨cb0, cb1, fb0, fb1, zb2⟩ := RowTwo HRB2
                have HBE : Hid (Below w.heap.size w wr) := Bel.call HBO.out (Nat.le_refl _) hbr.out
                go_wp2_with fail
                go_region
                go_wp2
                refine bodyPost_ret (v := .tuple #[.string ⟨(J R.length).toArray⟩, .agg #[.slice a1 nc c1, .slice a2 f.length c2]]) (by simp [results, Tryz.results23, go_sem, ca0, ca1, cb0, cb1, fa0, fa1, fb0, fb1]) rfl ⟨_, by rw [HTx.out], HNet.out _ ?_, ?_⟩
                all_goals repeat (first | with_reducible exact HBE.out | with_reducible refine Below.setCell ?_ (by simp) _ | with_reducible refine Below.drew ?_)
        · have HTx : Hid (lineT f s = nameT (idxE L.tail)) := by show _ = _; rw [HLT.out, if_neg hi]
          have hpf := idxE_fewS L.tail
          clear HLT
          generalize idxE L.tail = pe at *
          have hpe : (pe != 0) = true := by simpa using hi
          go_wp2_with fail
          refine HWt.out.mono ?_
          rintro e w4 ⟨rfl, rfl⟩
          have P1 : Hid (Below w4.heap.size w4 w4.drew) := (Below.refl _ _).drew
          have HBZ : Hid (Below w.heap.size w w4) := HBC.out
          have HNm : Hid (∀ u : World, Calls Tryz.prog 53 #[.int .i64 pe] u fun e' w' => e' = .returned (.string ⟨(nameT pe).toArray⟩) ∧ Below u.heap.size u w') := fun u => RName_any pe u (by omega) (by omega)
          generalize nameT pe = NT at *
          go_wp2_with fail
          go_region_law (first | (go_simp; refine (HNm.out _).mono ?_; rintro e w5 ⟨rfl, hw5⟩; have Hb5 : Hid (Below w4.heap.size w4 w5) := Bel.call P1.out (Nat.le_refl _) hw5; obtain ⟨ca0', ca1', fa0', fa1', za'⟩ := RowTwo (HRA.out.later Hb5.out za); obtain ⟨cb0', cb1', fb0', fb1', zb'⟩ := RowTwo (HRB.out.later Hb5.out zb)))
          all_goals
            have HBE : Hid (Below w.heap.size w w5) := Bel.call HBZ.out (Nat.le_refl _) Hb5.out
            clear hw5
            go_wp2
            refine bodyPost_ret (v := .tuple #[.string ⟨NT.toArray⟩, .agg #[.slice a1 nc c1, .slice a2 f.length c2]]) (by simp [results, Tryz.results23, go_sem, ca0', ca1', cb0', cb1', fa0', fa1', fb0', fb1']) rfl ⟨_, by rw [HTx.out], HNet.out _ ?_, ?_⟩
            all_goals repeat (first | with_reducible exact HBE.out | with_reducible refine Below.setCell ?_ (by simp) _ | with_reducible refine Below.drew ?_)
end Ev
end Go.Proofs.YtpnmmmlckdkcdakGreatDoor
