/- Pieces of one walk, one text behind the other. -/
import Derived.Test.YtpnmmmlckdkcdakGreatDoorRLnA
import Derived.Test.YtpnmmmlckdkcdakGreatDoorWith0
import Derived.Test.YtpnmmmlckdkcdakGreatDoorWithout
/- The document's Line at 'add'. -/
namespace Go.Proofs.YtpnmmmlckdkcdakGreatDoor
namespace Ev
open Go.RowKit Fr Ns Ld Fl
set_option linter.unusedSimpArgs false
set_option linter.unusedVariables false

theorem pathE_few (L : List Int) : 0 ≤ pathE 4 L ∧ pathE 4 L ≤ 7 := by
  unfold pathE
  split
  · omega
  · exact pathFrom_bd 4 [] L
theorem below_drawn {P : Program} {g : Nat} {args : Array Value} {w : World} {v : Value} (h : Calls P g args w fun e w' => e = .returned v ∧ ∃ n, w' = w.drewN n) : Calls P g args w fun e w' => e = .returned v ∧ Below w.heap.size w w' :=
  h.mono (fun e w' ⟨h1, n, h2⟩ => ⟨h1, by rw [h2]; exact below_drewN (Below.refl _ _) n⟩)

set_option maxRecDepth 100000 in
set_option maxHeartbeats 8000000 in
theorem line_add {Q : Nat → Prop} (f : Flows) (s : Txt) (v : Value) (w : World) (h : NetAt Q w v capsR f) (hf : RightF f) (hs : s.length ≤ 3000) (hr : readT s = true) (hw0 : wordT s = tAdd) (hc : 1 ≤ (numsT s).length) :
    Calls Tryz.prog 23 #[v, .string ⟨s.toArray⟩] w fun e w' => ∃ x, e = .returned (.tuple #[.string ⟨(lineT f s).toArray⟩, x]) ∧ NetAt (fun b => Q b ∨ w.heap.size ≤ b) w' x capsR (lineF f s) ∧ Below w.heap.size w w' := by
  have hfit : fitsT s = true := by simp [fitsT, hr, hw0, tRates, tAdd, tIndex, tDrop, tLeast, tSplit, hc]
  have HLT : Hid (lineT f s = if addR f (numsT s) = 0 then tOk else nameT (addR f (numsT s))) := by show _ = _; simp [lineT, hfit, hw0]
  have HLF : Hid (lineF f s = if addR f (numsT s) = 0 then f ++ [numsT s] else f) := by show _ = _; simp [lineF, hfit, hw0]
  clear hfit
  obtain ⟨W, hCut, hWl, hLl, hW0, hNum, hLb⟩ := line_parts hs hr
  rw [hw0] at hW0
  clear hw0
  have HCn : Hid (1 ≤ (numsT s).length) := hc
  clear hc
  generalize numsT s = L at *
  have HC : Hid (∀ u : World, Calls Tryz.prog 22 #[.string ⟨s.toArray⟩, .int .u8 32] u fun e w' => ∃ v, e = .returned v ∧ StrsAt (fun b => u.heap.size ≤ b) w' v W ∧ Below u.heap.size u w') := hCut
  have HN : Hid (∀ i, i < L.length → ∀ u : World, Calls Tryz.prog 51 #[.string ⟨(W.getD (i + 1) []).toArray⟩] u fun e w' => e = .returned (.tuple #[.int .i64 (L.getD i 0), .bool true]) ∧ w' = u) := hNum
  have HLb : Hid (∀ x ∈ L, 0 ≤ x ∧ x ≤ 9999) := hLb
  have HF : Hid (f ≠ [] → ∀ u : World, Below w.heap.size w u → Calls Tryz.prog 52 #[v] u fun e w' => ∃ y z, e = .returned (.tuple #[y, z]) ∧ FracsAt (fun b => u.heap.size ≤ b) w' y (ratesR f) ∧ ListsAt (fun b => u.heap.size ≤ b) w' z (fill capsR f).2 ∧ Below u.heap.size u w') := fun hne u hu => RFill_any capsR f v u (h.later hu) (right_good hf hne) (by decide)
  have HNet : Hid (∀ u : World, Below w.heap.size w u → NetAt (fun b => Q b ∨ w.heap.size ≤ b) u v capsR f) := fun u hu => by
    obtain ⟨x1, x2, rfl, _⟩ := id h
    exact line_end h hu
  obtain ⟨v1, v2, rfl, h1, h2⟩ := id h
  have HNAt : Hid (NetAt Q w (.agg #[v1, v2]) capsR f) := h
  obtain ⟨a2, c2, e2, hm2⟩ : ∃ a2 c2, v2 = .slice a2 f.length c2 ∧ f.length ≤ 9223372036854775807 := by
    obtain ⟨a2, c2, e, hm, _⟩ := h2
    exact ⟨a2, c2, e, hm.2⟩
  obtain ⟨a1, c1, e1⟩ : ∃ a1 c1, v1 = .slice a1 capsR.length c1 := by
    obtain ⟨a1, c1, e, _⟩ := h1
    exact ⟨a1, c1, e⟩
  subst e2
  subst e1
  generalize capsR.length = nc at *
  obtain ⟨k0, hKI, hx0, hx1, hx2⟩ := info_parts infoInt
  clear hCut hNum hLb h h1 h2 hr hs
  go_enter Tryz.func23, Tryz.ntmps23
  go_wp2_with fail
  refine (HC.out _).mono ?_
  rintro e w1 ⟨vw, rfl, hvw, hw1⟩
  obtain ⟨aw, cw, rfl, hmw, hcw⟩ := id hvw
  have HW0 : Hid (∃ b off, aw = some ⟨b, off, none⟩ ∧ ∀ u, Below w1.heap.size w1 u → u.cell? ⟨b, off, none⟩ = some (.string ⟨#[97, 100, 100]⟩)) := by
    obtain ⟨b, off, e, hcc⟩ := strs_cells hvw 0 (by omega)
    refine ⟨b, off, e, fun u hu => ?_⟩
    have := hcc u hu
    rw [hW0] at this
    exact this
  have HWs : Hid (∀ i, i < L.length → ∃ b off, aw = some ⟨b, off, none⟩ ∧ ∀ u, Below w1.heap.size w1 u → u.cell? ⟨b, off + (i + 1), none⟩ = some (.string ⟨(W.getD (i + 1) []).toArray⟩)) := fun i hi => strs_cells hvw (i + 1) (by omega)
  have hsz1 : w.heap.size + 1 + 1 ≤ w1.heap.size := by have := hw1.size; simpa using this
  have HR0 : Hid (RowAt w1 w.heap.size 37 [.slice a1 nc c1, .slice a2 f.length c2]) := ((row_made w _ _ _ _ rfl rfl).alloc _).later hw1 (by simp <;> omega)
  have HR1 : Hid (RowAt w1 (w.heap.size + 1) 37 [.slice none 0 0, .slice none 0 0]) := (row_made (w.alloc (.cells #[.slice a1 nc c1, .slice a2 f.length c2] 37)) _ _ _ _ (by simp) rfl).later hw1 (by simp <;> omega)
  have HB1 : Hid (Below w.heap.size w w1) := (((Below.refl _ _).alloc (Nat.le_refl _) _).alloc (by simp) _).trans (hw1.mono (by simp; omega))
  have hmw1 := hmw.1
  rw [hWl] at hmw1 ⊢
  clear hvw hw1 hcw hmw hW0 hWl
  go_wp2_with fail
  go_loopw [7, 8, 9, 10] (fun s7 s8 _ _ wr => ∃ k : Nat, k ≤ L.length ∧ s8 = .int .i64 ((k : Int) + 1) ∧ Hid (wr.ownsRow w1.heap.size 3 1 s7 k ((L.take k).map (Value.int .i64))) ∧ Hid (Below w1.heap.size w1 wr)) (fun _ s8 _ _ _ => L.length + 1 - (intOf s8).toNat)
  case atStart => exact ⟨0, by omega, by go_num, ⟨rfl, .inl ⟨rfl, rfl⟩⟩, Below.refl _ _⟩
  case round =>
    obtain ⟨k, hk, rfl, ho, hbl⟩ := hrel
    obtain ⟨a7, c7, rfl⟩ := own_slice ho.out
    have hwz : w1.heap.size ≤ wr.heap.size := hbl.out.size
    by_cases hlt : k < L.length
    · obtain ⟨b, off, rfl, hcc⟩ := HWs.out k hlt
      have c0 := hcc _ hbl.out
      have HN1 : Hid (∀ u : World, Calls Tryz.prog 51 #[.string ⟨(W.getD (k + 1) []).toArray⟩] u fun e w' => e = .returned (.tuple #[.int .i64 (L.getD k 0), .bool true]) ∧ w' = u) := HN.out k hlt
      have HX : Hid ((L.take (k + 1)).map (Value.int .i64) = (L.take k).map (Value.int .i64) ++ [.int .i64 (L.getD k 0)]) := take_map_snoc _ L k hlt 0
      have HON : Hid (wr.ownsRow w1.heap.size 3 1 (.slice a7 k c7) k ((L.take k).map (Value.int .i64))) := ho
      clear hcc ho
      generalize (L.take k).map (Value.int .i64) = ys at *
      generalize L.getD k 0 = x at *
      generalize W.getD (k + 1) [] = tx at *
      have hc8 : ((k : Int) + 1) < ((L.length + 1 : Nat) : Int) := by omega
      have hk8 : ((k : Int) + 1).toNat = k + 1 := by omega
      have hk9 : IntKind.i64.wrap ((k : Int) + 1 + 1) = (k : Int) + 1 + 1 := by rw [IntKind.wrap_i64]; omega
      go_wp2_with fail
      refine (HN1.out _).mono ?_
      rintro e w2 ⟨rfl, rfl⟩
      go_wp2_with (at_builtin; go_must (refine wpList_append_own _ rfl _ _ 22 rfl w1.heap.size 3 k0 (.int .i64 0) 1 8 Tryz.underlying22 hKI hx0 hx1 hx2 rfl (by decide) _ _ _ rfl (HON.out.alloc _) ⟨_, 0, none⟩ 1 1 [.int .i64 x] rfl rfl (new1 _ _ _ _ ?c1) (by intro u hu; simp at hu; subst hu; rfl) (by unfold maxLen; omega) (by omega) ?c2 ?_))
      case c1 => simp
      case c2 => simp; omega
      intro v' wg hown hgrow _
      have HO2 : Hid (wg.ownsRow w1.heap.size 3 1 v' (k + 1) ((L.take (k + 1)).map (Value.int .i64))) := by rw [HX.out]; exact hown
      have HB2 : Hid (Below w1.heap.size w1 wg) := hbl.out.trans (grew1 hwz hgrow (fun k hk => (HON.out.lt k hk).1))
      clear hown hgrow
      go_wp2
      go_roundw
      case rel => exact ⟨k + 1, by omega, by go_num, HO2, HB2⟩
      case measure => simp [intOf]; omega
    · obtain rfl : k = L.length := by omega
      have HI : Hid (IntsAt (fun b => w1.heap.size ≤ b) wr (.slice a7 L.length c7) L) := ints_of_owns (base := w1.heap.size) (by omega) (by have := ho.out; rwa [List.take_length] at this) (fun g hg => hg)
      have HRa : Hid (RowAt wr w.heap.size 37 [.slice a1 nc c1, .slice a2 f.length c2]) := HR0.out.later hbl.out (by omega)
      have HRb : Hid (RowAt wr (w.heap.size + 1) 37 [.slice none 0 0, .slice none 0 0]) := HR1.out.later hbl.out (by omega)
      have HBr : Hid (Below w.heap.size w wr) := HB1.out.trans (hbl.out.mono (by omega))
      have hLc : L.length ≤ c7 := by obtain ⟨_, _, e, hm, _⟩ := HI.out; simp only [Value.slice.injEq] at e; obtain ⟨_, _, rfl⟩ := e; exact hm.1
      obtain ⟨bw, ow, rfl, hcw⟩ := HW0.out
      have cw0 := hcw _ hbl.out
      have hcl : ¬ (((L.length : Int) + 1) < ((L.length + 1 : Nat) : Int)) := by omega
      obtain ⟨ca0, ca1, fa0, fa1, za⟩ := RowTwo HRa.out
      clear HWs HW0 HN ho HR0 HR1
      clear hmw1 hwz
      have hcI : ¬ (L.length : Int) < 1 := by have := HCn.out; omega
      go_upto_region 25 with fail
      go_cut [82] (fun s82 wc => s82 = .bool false ∧ Hid (wc = wr))
      case first =>
        by_cases hq : 1 < (L.length : Int)
        · go_wp2
          go_meet
          case rel => exact ⟨rfl, rfl⟩
        · go_wp2
          go_meet
          case rel => exact ⟨rfl, rfl⟩
      obtain ⟨rfl, hwc⟩ := hcut
      obtain rfl : wr = wc := hwc.out.symm
      go_upto_if 87 with fail
      go_cut [13] (fun s13 wc => Hid (FracsAt (fun b => wr.heap.size ≤ b) wc s13 (ratesL f)) ∧ Hid (Below wr.heap.size wr wc))
      case first =>
        by_cases hne : f = []
        · have hl0 : ¬ 0 < (f.length : Int) := by rw [hne]; decide
          have HFe : Hid (ratesL f = []) := if_pos hne
          clear hne
          go_wp2
          go_meet
          case rel => exact ⟨by rw [HFe.out]; exact fracs_nil _ _, Below.refl _ _⟩
        · have hl0 : 0 < (f.length : Int) := by have : f.length ≠ 0 := fun e => hne (List.eq_nil_of_length_eq_zero e); omega
          have HFe : Hid (ratesL f = ratesR f) := if_neg hne
          have HF1 := HF.out hne
          have HF2 : Hid (∀ u : World, Below w.heap.size w u → Calls Tryz.prog 52 #[.agg #[.slice a1 nc c1, .slice a2 f.length c2]] u fun e w' => ∃ y z, e = .returned (.tuple #[y, z]) ∧ FracsAt (fun b => u.heap.size ≤ b) w' y (ratesR f) ∧ ListsAt (fun b => u.heap.size ≤ b) w' z (fill capsR f).2 ∧ Below u.heap.size u w') := HF1
          clear HF1 HF
          go_wp2_with fail
          refine (HF2.out _ HBr.out).mono ?_
          rintro e w3 ⟨y, z, rfl, hy, hz, hw3⟩
          have HY : Hid (FracsAt (fun b => wr.heap.size ≤ b) w3 y (ratesL f)) := by rw [HFe.out]; exact hy
          have HB3 : Hid (Below wr.heap.size wr w3) := hw3
          clear hy hz hw3
          go_wp2
          go_meet
          case rel => exact ⟨HY, HB3⟩
      case rest =>
        obtain ⟨hfr, hbc⟩ := hcut
        have HRA : Hid (RowAt wc w.heap.size 37 [.slice a1 nc c1, .slice a2 f.length c2]) := HRa.out.later hbc.out HRa.out.lt
        have HRB : Hid (RowAt wc (w.heap.size + 1) 37 [.slice none 0 0, .slice none 0 0]) := HRb.out.later hbc.out HRb.out.lt
        have HBC : Hid (Below w.heap.size w wc) := Bel.call HBr.out (Nat.le_refl _) hbc.out
        have HIC : Hid (IntsAt (fun b => w1.heap.size ≤ b) wc (.slice a7 L.length c7) L) := HI.out.later hbc.out
        have cwc := hcw _ (hbl.out.trans (hbc.out.mono hbl.out.size))
        have zw1 : w1.heap.size ≤ wc.heap.size := Nat.le_trans hbl.out.size hbc.out.size
        have HFr : Hid (FracsAt (fun _ => True) wc u13 (ratesL f)) := hfr.out.keep (fun _ _ _ => rfl) (fun _ _ _ => trivial)
        clear hfr
        clear cw0 ca0 ca1 fa0 fa1 za HRa HRb HBr HI HF hcw hbl hbc HB1
        obtain ⟨ca0, ca1, fa0, fa1, za⟩ := RowTwo HRA.out
        obtain ⟨cb0, cb1, fb0, fb1, zb⟩ := RowTwo HRB.out
        have zne : w.heap.size ≠ w.heap.size + 1 := by omega
        have HPa : Hid (∀ u : World, Below wc.heap.size wc u → Calls Tryz.prog 54 #[.int .i64 4, .slice a7 L.length c7] u fun e w' => e = .returned (.int .i64 (pathE 4 L)) ∧ Below u.heap.size u w') := fun u hu => below_drawn (Path_any 4 L _ u (HIC.out.later hu))
        by_cases h6 : f.length = 6
        · have hA : addR f L = 4 := by rw [addR, if_pos h6]
          have HTx : Hid (lineT f s = nameT 4) := by show _ = _; rw [HLT.out, hA]; rfl
          have HLF2 : lineF f s = f := by rw [HLF.out, hA]; rfl
          have HNet2 : Hid (∀ u : World, Below w.heap.size w u → NetAt (fun b => Q b ∨ w.heap.size ≤ b) u (.agg #[.slice a1 nc c1, .slice a2 f.length c2]) capsR (lineF f s)) := by rw [HLF2]; exact HNet
          have hr0 : ((f.length : Int) == 6) = true := by rw [h6]; rfl
          clear HLT HLF hA HLF2 h6
          have P1 : Hid (Below wc.heap.size wc wc.drew) := (Below.refl _ _).drew
          have HBZ : Hid (Below w.heap.size w wc) := HBC.out
          have HNm : Hid (∀ u : World, Calls Tryz.prog 53 #[.int .i64 4] u fun e' w' => e' = .returned (.string ⟨(nameT 4).toArray⟩) ∧ Below u.heap.size u w') := fun u => RName_any 4 u (by decide) (by decide)
          generalize nameT 4 = NT at *
          go_wp2_with fail
          go_region_law (first | (go_simp; refine (HNm.out _).mono ?_; rintro e w4 ⟨rfl, hw4⟩; have Hb4 : Hid (Below wc.heap.size wc w4) := Bel.call P1.out (Nat.le_refl _) hw4; obtain ⟨ca0', ca1', fa0', fa1', za'⟩ := RowTwo (HRA.out.later Hb4.out za); obtain ⟨cb0', cb1', fb0', fb1', zb'⟩ := RowTwo (HRB.out.later Hb4.out zb)))
          all_goals
            have HBE : Hid (Below w.heap.size w w4) := Bel.call HBZ.out (Nat.le_refl _) Hb4.out
            clear hw4
            go_wp2
            refine bodyPost_ret (v := .tuple #[.string ⟨NT.toArray⟩, .agg #[.slice a1 nc c1, .slice a2 f.length c2]]) (by simp [results, Tryz.results23, go_sem, ca0', ca1', cb0', cb1', fa0', fa1', fb0', fb1']) rfl ⟨_, by rw [HTx.out], HNet2.out _ ?_, ?_⟩
            all_goals repeat (first | with_reducible exact HBE.out | with_reducible refine Below.setCell ?_ (by simp) _ | with_reducible refine Below.drew ?_)
        · have hr0 : ((f.length : Int) == 6) = false := by rw [beq_eq_false_iff_ne]; omega
          have hA : addR f L = pathE 4 L := by rw [addR, if_neg h6]
          by_cases hp : pathE 4 L = 0
          · have HTx : Hid (lineT f s = tOk) := by show _ = _; rw [HLT.out, hA, if_pos hp]
            have HLF2 : Hid (lineF f s = f ++ [L]) := by show _ = _; rw [HLF.out, hA, if_pos hp]
            have HWi : Hid (∀ u : World, Below wc.heap.size wc u → Calls Tryz.prog 55 #[.agg #[.slice a1 nc c1, .slice a2 f.length c2], .slice a7 L.length c7] u fun e w' => ∃ x, e = .returned x ∧ NetAt (NewQ Q w) w' x capsR (f ++ [L]) ∧ Below u.heap.size u w') := fun u hu => by
              have hwu : Below w.heap.size w u := Bel.call HBC.out (Nat.le_refl _) hu
              have hu1 := hu.size
              have i1 : IntsAt (NewQ Q w) u (.slice a7 L.length c7) L := (HIC.out.later hu).keep (fun _ _ _ => rfl) (fun b hb _ => .inr (by omega))
              refine (RWith_all capsR f L _ _ u (net_in HNAt.out hwu) i1 (by have := hf.1; omega)).mono ?_
              rintro e w' ⟨x, rfl, hx, hb⟩
              exact ⟨x, rfl, hx.keep (fun _ _ _ => rfl) (fun b h _ => h.elim id (fun h => .inr (by omega))), hb⟩
            clear HLT HLF hA h6
            rw [hp] at HPa
            clear hp
            go_wp2_with fail
            refine (HPa.out _ (Below.refl _ _)).mono ?_
            rintro e w4 ⟨rfl, hw4⟩
            obtain ⟨ca0', ca1', fa0', fa1', za'⟩ := RowTwo (HRA.out.later hw4 za)
            have HB4 : Hid (Below wc.heap.size wc w4) := hw4
            have HRB4 : Hid (RowAt w4 (w.heap.size + 1) 37 [.slice none 0 0, .slice none 0 0]) := HRB.out.later hw4 zb
            have zb4 := HRB4.out.lt
            clear hw4 ca0 ca1 fa0 fa1 cb0 cb1 fb0 fb1
            go_wp2_with fail
            refine (HWi.out _ HB4.out).mono ?_
            rintro e w5 ⟨x, rfl, hx, hw5⟩
            obtain ⟨ax1, nx1, kx1, ax2, nx2, kx2, rfl⟩ := hx.shape
            obtain ⟨cb0', cb1', fb0', fb1', zb'⟩ := RowTwo (HRB4.out.later hw5 zb4)
            have HX : Hid (NetAt (NewQ Q w) w5 (.agg #[.slice ax1 nx1 kx1, .slice ax2 nx2 kx2]) capsR (f ++ [L])) := hx
            have HBE : Hid (Below w.heap.size w w5) := Bel.call (Bel.call HBC.out (Nat.le_refl _) HB4.out) (Nat.le_refl _) hw5
            have HRB5 : Hid (RowAt w5 (w.heap.size + 1) 37 [.slice none 0 0, .slice none 0 0]) := HRB4.out.later hw5 zb4
            clear hw5 hx
            go_wp2
            refine bodyPost_ret (v := .tuple #[.string ⟨#[111, 107]⟩, .agg #[.slice ax1 nx1 kx1, .slice ax2 nx2 kx2]]) (by simp [results, Tryz.results23, go_sem, cb0', cb1', fb0', fb1']) rfl ⟨_, by rw [HTx.out]; rfl, ?_, ?_⟩
            · rw [HLF2.out]
              refine net_out ?_
              repeat (first | with_reducible exact HX.out | with_reducible refine NetAt.setCell ?_ not_new _)
            · repeat (first | with_reducible exact HBE.out | with_reducible refine Below.setCell ?_ (by simp) _ | with_reducible refine Below.drew ?_)
          · have HTx : Hid (lineT f s = nameT (pathE 4 L)) := by show _ = _; rw [HLT.out, hA, if_neg hp]
            have HLF2 : lineF f s = f := by rw [HLF.out, hA, if_neg hp]
            have HNet2 : Hid (∀ u : World, Below w.heap.size w u → NetAt (fun b => Q b ∨ w.heap.size ≤ b) u (.agg #[.slice a1 nc c1, .slice a2 f.length c2]) capsR (lineF f s)) := by rw [HLF2]; exact HNet
            have hpf := pathE_few L
            clear HLT HLF hA HLF2 h6
            generalize pathE 4 L = pe at *
            have hpe : (pe != 0) = true := by simpa using hp
            go_wp2_with fail
            refine (HPa.out _ (Below.refl _ _)).mono ?_
            rintro e w5 ⟨rfl, hw5⟩
            have HRA5 : Hid (RowAt w5 w.heap.size 37 [.slice a1 nc c1, .slice a2 f.length c2]) := HRA.out.later hw5 za
            have HRB5 : Hid (RowAt w5 (w.heap.size + 1) 37 [.slice none 0 0, .slice none 0 0]) := HRB.out.later hw5 zb
            have HB5 : Hid (Below w.heap.size w w5) := Bel.call HBC.out (Nat.le_refl _) hw5
            clear hw5 HRA HRB ca0 ca1 fa0 fa1 cb0 cb1 fb0 fb1 za zb
            obtain ⟨ca0, ca1, fa0, fa1, za⟩ := RowTwo HRA5.out
            obtain ⟨cb0, cb1, fb0, fb1, zb⟩ := RowTwo HRB5.out
            have P1 : Hid (Below w5.heap.size w5 w5.drew) := (Below.refl _ _).drew
            have HBZ : Hid (Below w.heap.size w w5) := HB5.out
            have HNm : Hid (∀ u : World, Calls Tryz.prog 53 #[.int .i64 pe] u fun e' w' => e' = .returned (.string ⟨(nameT pe).toArray⟩) ∧ Below u.heap.size u w') := fun u => RName_any pe u (by omega) (by omega)
            generalize nameT pe = NT at *
            go_wp2_with fail
            go_region_law (first | (go_simp; refine (HNm.out _).mono ?_; rintro e w4 ⟨rfl, hw4⟩; have Hb4 : Hid (Below w5.heap.size w5 w4) := Bel.call P1.out (Nat.le_refl _) hw4; obtain ⟨ca0', ca1', fa0', fa1', za'⟩ := RowTwo (HRA5.out.later Hb4.out za); obtain ⟨cb0', cb1', fb0', fb1', zb'⟩ := RowTwo (HRB5.out.later Hb4.out zb)))
            all_goals
              have HBE : Hid (Below w.heap.size w w4) := Bel.call HBZ.out (Nat.le_refl _) Hb4.out
              clear hw4
              go_wp2
              refine bodyPost_ret (v := .tuple #[.string ⟨NT.toArray⟩, .agg #[.slice a1 nc c1, .slice a2 f.length c2]]) (by simp [results, Tryz.results23, go_sem, ca0', ca1', cb0', cb1', fa0', fa1', fb0', fb1']) rfl ⟨_, by rw [HTx.out], HNet2.out _ ?_, ?_⟩
              all_goals repeat (first | with_reducible exact HBE.out | with_reducible refine Below.setCell ?_ (by simp) _ | with_reducible refine Below.drew ?_)
end Ev
end Go.Proofs.YtpnmmmlckdkcdakGreatDoor

/- The document's Line at 'drop'. -/
namespace Go.Proofs.YtpnmmmlckdkcdakGreatDoor
namespace Ev
open Go.RowKit Fr Ns Ld Fl
set_option linter.unusedSimpArgs false
set_option linter.unusedVariables false

set_option maxRecDepth 100000 in
set_option maxHeartbeats 8000000 in
theorem line_drop {Q : Nat → Prop} (f : Flows) (s : Txt) (v : Value) (w : World) (h : NetAt Q w v capsR f) (hf : RightF f) (hs : s.length ≤ 3000) (hr : readT s = true) (hw0 : wordT s = tDrop) (hc : (numsT s).length = 1) :
    Calls Tryz.prog 23 #[v, .string ⟨s.toArray⟩] w fun e w' => ∃ x, e = .returned (.tuple #[.string ⟨(lineT f s).toArray⟩, x]) ∧ NetAt (fun b => Q b ∨ w.heap.size ≤ b) w' x capsR (lineF f s) ∧ Below w.heap.size w w' := by
  have hfit : fitsT s = true := by simp [fitsT, hr, hw0, tRates, tAdd, tIndex, tDrop, tLeast, tSplit, hc]
  have HLT : Hid (lineT f s = if dropR f (numsT s) = 0 then tOk else nameT (dropR f (numsT s))) := by show _ = _; simp [lineT, hfit, hw0, tDrop, tAdd]
  have HLF : Hid (lineF f s = if dropR f (numsT s) = 0 then lessF f ((numsT s).getD 0 0) else f) := by show _ = _; simp [lineF, hfit, hw0, tDrop, tAdd]
  clear hfit
  obtain ⟨W, hCut, hWl, hLl, hW0, hNum, hLb⟩ := line_parts hs hr
  rw [hw0] at hW0
  clear hw0
  have HCn : Hid ((numsT s).length = 1) := hc
  clear hc
  generalize numsT s = L at *
  have HC : Hid (∀ u : World, Calls Tryz.prog 22 #[.string ⟨s.toArray⟩, .int .u8 32] u fun e w' => ∃ v, e = .returned v ∧ StrsAt (fun b => u.heap.size ≤ b) w' v W ∧ Below u.heap.size u w') := hCut
  have HN : Hid (∀ i, i < L.length → ∀ u : World, Calls Tryz.prog 51 #[.string ⟨(W.getD (i + 1) []).toArray⟩] u fun e w' => e = .returned (.tuple #[.int .i64 (L.getD i 0), .bool true]) ∧ w' = u) := hNum
  have HLb : Hid (∀ x ∈ L, 0 ≤ x ∧ x ≤ 9999) := hLb
  have HF : Hid (f ≠ [] → ∀ u : World, Below w.heap.size w u → Calls Tryz.prog 52 #[v] u fun e w' => ∃ y z, e = .returned (.tuple #[y, z]) ∧ FracsAt (fun b => u.heap.size ≤ b) w' y (ratesR f) ∧ ListsAt (fun b => u.heap.size ≤ b) w' z (fill capsR f).2 ∧ Below u.heap.size u w') := fun hne u hu => RFill_any capsR f v u (h.later hu) (right_good hf hne) (by decide)
  have HNet : Hid (∀ u : World, Below w.heap.size w u → NetAt (fun b => Q b ∨ w.heap.size ≤ b) u v capsR f) := fun u hu => by
    obtain ⟨x1, x2, rfl, _⟩ := id h
    exact line_end h hu
  obtain ⟨v1, v2, rfl, h1, h2⟩ := id h
  have HNAt : Hid (NetAt Q w (.agg #[v1, v2]) capsR f) := h
  obtain ⟨a2, c2, e2, hm2⟩ : ∃ a2 c2, v2 = .slice a2 f.length c2 ∧ f.length ≤ 9223372036854775807 := by
    obtain ⟨a2, c2, e, hm, _⟩ := h2
    exact ⟨a2, c2, e, hm.2⟩
  obtain ⟨a1, c1, e1⟩ : ∃ a1 c1, v1 = .slice a1 capsR.length c1 := by
    obtain ⟨a1, c1, e, _⟩ := h1
    exact ⟨a1, c1, e⟩
  subst e2
  subst e1
  generalize capsR.length = nc at *
  obtain ⟨k0, hKI, hx0, hx1, hx2⟩ := info_parts infoInt
  clear hCut hNum hLb h h1 h2 hr hs
  go_enter Tryz.func23, Tryz.ntmps23
  go_wp2_with fail
  refine (HC.out _).mono ?_
  rintro e w1 ⟨vw, rfl, hvw, hw1⟩
  obtain ⟨aw, cw, rfl, hmw, hcw⟩ := id hvw
  have HW0 : Hid (∃ b off, aw = some ⟨b, off, none⟩ ∧ ∀ u, Below w1.heap.size w1 u → u.cell? ⟨b, off, none⟩ = some (.string ⟨#[100, 114, 111, 112]⟩)) := by
    obtain ⟨b, off, e, hcc⟩ := strs_cells hvw 0 (by omega)
    refine ⟨b, off, e, fun u hu => ?_⟩
    have := hcc u hu
    rw [hW0] at this
    exact this
  have HWs : Hid (∀ i, i < L.length → ∃ b off, aw = some ⟨b, off, none⟩ ∧ ∀ u, Below w1.heap.size w1 u → u.cell? ⟨b, off + (i + 1), none⟩ = some (.string ⟨(W.getD (i + 1) []).toArray⟩)) := fun i hi => strs_cells hvw (i + 1) (by omega)
  have hsz1 : w.heap.size + 1 + 1 ≤ w1.heap.size := by have := hw1.size; simpa using this
  have HR0 : Hid (RowAt w1 w.heap.size 37 [.slice a1 nc c1, .slice a2 f.length c2]) := ((row_made w _ _ _ _ rfl rfl).alloc _).later hw1 (by simp <;> omega)
  have HR1 : Hid (RowAt w1 (w.heap.size + 1) 37 [.slice none 0 0, .slice none 0 0]) := (row_made (w.alloc (.cells #[.slice a1 nc c1, .slice a2 f.length c2] 37)) _ _ _ _ (by simp) rfl).later hw1 (by simp <;> omega)
  have HB1 : Hid (Below w.heap.size w w1) := (((Below.refl _ _).alloc (Nat.le_refl _) _).alloc (by simp) _).trans (hw1.mono (by simp; omega))
  have hmw1 := hmw.1
  rw [hWl] at hmw1 ⊢
  clear hvw hw1 hcw hmw hW0 hWl
  go_wp2_with fail
  go_loopw [7, 8, 9, 10] (fun s7 s8 _ _ wr => ∃ k : Nat, k ≤ L.length ∧ s8 = .int .i64 ((k : Int) + 1) ∧ Hid (wr.ownsRow w1.heap.size 3 1 s7 k ((L.take k).map (Value.int .i64))) ∧ Hid (Below w1.heap.size w1 wr)) (fun _ s8 _ _ _ => L.length + 1 - (intOf s8).toNat)
  case atStart => exact ⟨0, by omega, by go_num, ⟨rfl, .inl ⟨rfl, rfl⟩⟩, Below.refl _ _⟩
  case round =>
    obtain ⟨k, hk, rfl, ho, hbl⟩ := hrel
    obtain ⟨a7, c7, rfl⟩ := own_slice ho.out
    have hwz : w1.heap.size ≤ wr.heap.size := hbl.out.size
    by_cases hlt : k < L.length
    · obtain ⟨b, off, rfl, hcc⟩ := HWs.out k hlt
      have c0 := hcc _ hbl.out
      have HN1 : Hid (∀ u : World, Calls Tryz.prog 51 #[.string ⟨(W.getD (k + 1) []).toArray⟩] u fun e w' => e = .returned (.tuple #[.int .i64 (L.getD k 0), .bool true]) ∧ w' = u) := HN.out k hlt
      have HX : Hid ((L.take (k + 1)).map (Value.int .i64) = (L.take k).map (Value.int .i64) ++ [.int .i64 (L.getD k 0)]) := take_map_snoc _ L k hlt 0
      have HON : Hid (wr.ownsRow w1.heap.size 3 1 (.slice a7 k c7) k ((L.take k).map (Value.int .i64))) := ho
      clear hcc ho
      generalize (L.take k).map (Value.int .i64) = ys at *
      generalize L.getD k 0 = x at *
      generalize W.getD (k + 1) [] = tx at *
      have hc8 : ((k : Int) + 1) < ((L.length + 1 : Nat) : Int) := by omega
      have hk8 : ((k : Int) + 1).toNat = k + 1 := by omega
      have hk9 : IntKind.i64.wrap ((k : Int) + 1 + 1) = (k : Int) + 1 + 1 := by rw [IntKind.wrap_i64]; omega
      go_wp2_with fail
      refine (HN1.out _).mono ?_
      rintro e w2 ⟨rfl, rfl⟩
      go_wp2_with (at_builtin; go_must (refine wpList_append_own _ rfl _ _ 22 rfl w1.heap.size 3 k0 (.int .i64 0) 1 8 Tryz.underlying22 hKI hx0 hx1 hx2 rfl (by decide) _ _ _ rfl (HON.out.alloc _) ⟨_, 0, none⟩ 1 1 [.int .i64 x] rfl rfl (new1 _ _ _ _ ?c1) (by intro u hu; simp at hu; subst hu; rfl) (by unfold maxLen; omega) (by omega) ?c2 ?_))
      case c1 => simp
      case c2 => simp; omega
      intro v' wg hown hgrow _
      have HO2 : Hid (wg.ownsRow w1.heap.size 3 1 v' (k + 1) ((L.take (k + 1)).map (Value.int .i64))) := by rw [HX.out]; exact hown
      have HB2 : Hid (Below w1.heap.size w1 wg) := hbl.out.trans (grew1 hwz hgrow (fun k hk => (HON.out.lt k hk).1))
      clear hown hgrow
      go_wp2
      go_roundw
      case rel => exact ⟨k + 1, by omega, by go_num, HO2, HB2⟩
      case measure => simp [intOf]; omega
    · obtain rfl : k = L.length := by omega
      have HI : Hid (IntsAt (fun b => w1.heap.size ≤ b) wr (.slice a7 L.length c7) L) := ints_of_owns (base := w1.heap.size) (by omega) (by have := ho.out; rwa [List.take_length] at this) (fun g hg => hg)
      have HRa : Hid (RowAt wr w.heap.size 37 [.slice a1 nc c1, .slice a2 f.length c2]) := HR0.out.later hbl.out (by omega)
      have HRb : Hid (RowAt wr (w.heap.size + 1) 37 [.slice none 0 0, .slice none 0 0]) := HR1.out.later hbl.out (by omega)
      have HBr : Hid (Below w.heap.size w wr) := HB1.out.trans (hbl.out.mono (by omega))
      have hLc : L.length ≤ c7 := by obtain ⟨_, _, e, hm, _⟩ := HI.out; simp only [Value.slice.injEq] at e; obtain ⟨_, _, rfl⟩ := e; exact hm.1
      obtain ⟨bw, ow, rfl, hcw⟩ := HW0.out
      have cw0 := hcw _ hbl.out
      have hcl : ¬ (((L.length : Int) + 1) < ((L.length + 1 : Nat) : Int)) := by omega
      obtain ⟨ca0, ca1, fa0, fa1, za⟩ := RowTwo HRa.out
      clear HWs HW0 HN ho HR0 HR1
      clear hmw1 hwz
      have hcI : ¬ (L.length : Int) < 1 := by have := HCn.out; omega
      have hcJ : ¬ 1 < (L.length : Int) := by have := HCn.out; omega
      go_upto_if 87 with fail
      go_cut [13] (fun s13 wc => Hid (FracsAt (fun b => wr.heap.size ≤ b) wc s13 (ratesL f)) ∧ Hid (Below wr.heap.size wr wc))
      case first =>
        by_cases hne : f = []
        · have hl0 : ¬ 0 < (f.length : Int) := by rw [hne]; decide
          have HFe : Hid (ratesL f = []) := if_pos hne
          clear hne
          go_wp2
          go_meet
          case rel => exact ⟨by rw [HFe.out]; exact fracs_nil _ _, Below.refl _ _⟩
        · have hl0 : 0 < (f.length : Int) := by have : f.length ≠ 0 := fun e => hne (List.eq_nil_of_length_eq_zero e); omega
          have HFe : Hid (ratesL f = ratesR f) := if_neg hne
          have HF1 := HF.out hne
          have HF2 : Hid (∀ u : World, Below w.heap.size w u → Calls Tryz.prog 52 #[.agg #[.slice a1 nc c1, .slice a2 f.length c2]] u fun e w' => ∃ y z, e = .returned (.tuple #[y, z]) ∧ FracsAt (fun b => u.heap.size ≤ b) w' y (ratesR f) ∧ ListsAt (fun b => u.heap.size ≤ b) w' z (fill capsR f).2 ∧ Below u.heap.size u w') := HF1
          clear HF1 HF
          go_wp2_with fail
          refine (HF2.out _ HBr.out).mono ?_
          rintro e w3 ⟨y, z, rfl, hy, hz, hw3⟩
          have HY : Hid (FracsAt (fun b => wr.heap.size ≤ b) w3 y (ratesL f)) := by rw [HFe.out]; exact hy
          have HB3 : Hid (Below wr.heap.size wr w3) := hw3
          clear hy hz hw3
          go_wp2
          go_meet
          case rel => exact ⟨HY, HB3⟩
      case rest =>
        obtain ⟨hfr, hbc⟩ := hcut
        have HRA : Hid (RowAt wc w.heap.size 37 [.slice a1 nc c1, .slice a2 f.length c2]) := HRa.out.later hbc.out HRa.out.lt
        have HRB : Hid (RowAt wc (w.heap.size + 1) 37 [.slice none 0 0, .slice none 0 0]) := HRb.out.later hbc.out HRb.out.lt
        have HBC : Hid (Below w.heap.size w wc) := Bel.call HBr.out (Nat.le_refl _) hbc.out
        have HIC : Hid (IntsAt (fun b => w1.heap.size ≤ b) wc (.slice a7 L.length c7) L) := HI.out.later hbc.out
        have cwc := hcw _ (hbl.out.trans (hbc.out.mono hbl.out.size))
        have zw1 : w1.heap.size ≤ wc.heap.size := Nat.le_trans hbl.out.size hbc.out.size
        have HFr : Hid (FracsAt (fun _ => True) wc u13 (ratesL f)) := hfr.out.keep (fun _ _ _ => rfl) (fun _ _ _ => trivial)
        clear hfr
        clear cw0 ca0 ca1 fa0 fa1 za HRa HRb HBr HI HF hcw hbl hbc HB1
        obtain ⟨ca0, ca1, fa0, fa1, za⟩ := RowTwo HRA.out
        obtain ⟨cb0, cb1, fb0, fb1, zb⟩ := RowTwo HRB.out
        have zne : w.heap.size ≠ w.heap.size + 1 := by omega
        have HIa : Hid (∃ b off, a7 = some ⟨b, off, none⟩ ∧ ∀ u, Below wc.heap.size wc u → u.cell? ⟨b, off, none⟩ = some (.int .i64 (L.getD 0 0))) := by
          obtain ⟨b, off, e, hcc⟩ := ints_cells HIC.out 0 (by have := HCn.out; omega)
          exact ⟨b, off, e, hcc⟩
        obtain ⟨b, off, rfl, hcc⟩ := HIa.out
        have d0 := hcc _ (Below.refl _ _)
        have hx := HLb.out (L.getD 0 0) (getD_mem L 0 (by have := HCn.out; omega) 0)
        have hl1 : 0 < (L.length : Int) := by have := HCn.out; omega
        have hl1n : 0 < L.length := by omega
        have HA1 : Hid ((f.length : Int) ≤ L.getD 0 0 → dropR f L = 1) := fun h => if_pos h
        have HA2 : Hid (¬ (f.length : Int) ≤ L.getD 0 0 → dropR f L = 0) := fun h => if_neg h
        generalize L.getD 0 0 = x at *
        by_cases hd : (f.length : Int) ≤ x
        · have hA := HA1.out hd
          have HTx : Hid (lineT f s = nameT 1) := by show _ = _; rw [HLT.out, hA]; rfl
          have HLF2 : lineF f s = f := by rw [HLF.out, hA]; rfl
          have HNet2 : Hid (∀ u : World, Below w.heap.size w u → NetAt (fun b => Q b ∨ w.heap.size ≤ b) u (.agg #[.slice a1 nc c1, .slice a2 f.length c2]) capsR (lineF f s)) := by rw [HLF2]; exact HNet
          clear HLT HLF hA HLF2 HA1 HA2
          go_wp2_with fail
          go_quiet (fail)
          have HBq : Hid (Below wc.heap.size wc (wc.drewN nq)) := below_drewN (Below.refl _ _) nq
          generalize wc.drewN nq = wz at *
          have HRA5 : Hid (RowAt wz w.heap.size 37 [.slice a1 nc c1, .slice a2 f.length c2]) := HRA.out.later HBq.out za
          have HRB5 : Hid (RowAt wz (w.heap.size + 1) 37 [.slice none 0 0, .slice none 0 0]) := HRB.out.later HBq.out zb
          have HB5 : Hid (Below w.heap.size w wz) := Bel.call HBC.out (Nat.le_refl _) HBq.out
          have d1 := hcc _ HBq.out
          clear d0 HRA HRB ca0 ca1 fa0 fa1 cb0 cb1 fb0 fb1 za zb hcc
          obtain ⟨ca0, ca1, fa0, fa1, za⟩ := RowTwo HRA5.out
          obtain ⟨cb0, cb1, fb0, fb1, zb⟩ := RowTwo HRB5.out
          have P1 : Hid (Below wz.heap.size wz wz.drew) := (Below.refl _ _).drew
          have HBZ : Hid (Below w.heap.size w wz) := HB5.out
          have HNm : Hid (∀ u : World, Calls Tryz.prog 53 #[.int .i64 1] u fun e' w' => e' = .returned (.string ⟨(nameT 1).toArray⟩) ∧ Below u.heap.size u w') := fun u => RName_any 1 u (by decide) (by decide)
          generalize nameT 1 = NT at *
          go_wp2_with fail
          go_region_law (first | (go_simp; refine (HNm.out _).mono ?_; rintro e w4 ⟨rfl, hw4⟩; have Hb4 : Hid (Below wz.heap.size wz w4) := Bel.call P1.out (Nat.le_refl _) hw4; obtain ⟨ca0', ca1', fa0', fa1', za'⟩ := RowTwo (HRA5.out.later Hb4.out za); obtain ⟨cb0', cb1', fb0', fb1', zb'⟩ := RowTwo (HRB5.out.later Hb4.out zb)))
          all_goals
            have HBE : Hid (Below w.heap.size w w4) := Bel.call HBZ.out (Nat.le_refl _) Hb4.out
            clear hw4
            go_wp2
            refine bodyPost_ret (v := .tuple #[.string ⟨NT.toArray⟩, .agg #[.slice a1 nc c1, .slice a2 f.length c2]]) (by simp [results, Tryz.results23, go_sem, ca0', ca1', cb0', cb1', fa0', fa1', fb0', fb1']) rfl ⟨_, by rw [HTx.out], HNet2.out _ ?_, ?_⟩
            all_goals repeat (first | with_reducible exact HBE.out | with_reducible refine Below.setCell ?_ (by simp) _ | with_reducible refine Below.drew ?_)
        · have hA := HA2.out hd
          have HTx : Hid (lineT f s = tOk) := by show _ = _; rw [HLT.out, hA]; rfl
          obtain ⟨k, rfl⟩ : ∃ k : Nat, x = k := ⟨x.toNat, by omega⟩
          have HLF2 : Hid (lineF f s = f.take k ++ f.drop (k + 1)) := by show _ = _; rw [HLF.out, hA]; rfl
          have hkf : k < f.length := by omega
          have HWo : Hid (∀ u : World, Below wc.heap.size wc u → Calls Tryz.prog 56 #[.agg #[.slice a1 nc c1, .slice a2 f.length c2], .int .i64 k] u fun e w' => ∃ x, e = .returned x ∧ NetAt (NewQ Q w) w' x capsR (f.take k ++ f.drop (k + 1)) ∧ Below u.heap.size u w') := fun u hu => by
            have hwu : Below w.heap.size w u := Bel.call HBC.out (Nat.le_refl _) hu
            have hu1 := hu.size
            refine (RWithout_any capsR f k _ u (net_in HNAt.out hwu) hkf (by have := hf.1; omega)).mono ?_
            rintro e w' ⟨x, rfl, hx, hb⟩
            exact ⟨x, rfl, hx.keep (fun _ _ _ => rfl) (fun b h _ => h.elim id (fun h => .inr (by omega))), hb⟩
          clear HLT HLF hA HA1 HA2
          go_wp2_with fail
          go_quiet (fail)
          have HBq : Hid (Below wc.heap.size wc (wc.drewN nq)) := below_drewN (Below.refl _ _) nq
          generalize wc.drewN nq = wz at *
          have HRA5 : Hid (RowAt wz w.heap.size 37 [.slice a1 nc c1, .slice a2 f.length c2]) := HRA.out.later HBq.out za
          have HRB5 : Hid (RowAt wz (w.heap.size + 1) 37 [.slice none 0 0, .slice none 0 0]) := HRB.out.later HBq.out zb
          have HB5 : Hid (Below w.heap.size w wz) := Bel.call HBC.out (Nat.le_refl _) HBq.out
          have d1 := hcc _ HBq.out
          clear d0 HRA HRB ca0 ca1 fa0 fa1 cb0 cb1 fb0 fb1 za zb hcc
          obtain ⟨ca0, ca1, fa0, fa1, za⟩ := RowTwo HRA5.out
          obtain ⟨cb0, cb1, fb0, fb1, zb⟩ := RowTwo HRB5.out
          have P1 : Hid (Below wz.heap.size wz wz.drew) := (Below.refl _ _).drew
          have P2 : Hid (Below wc.heap.size wc wz.drew) := HBq.out.drew
          go_wp2_with fail
          go_region_law (first | (go_simp; refine (HWo.out _ ?_).mono ?_; (exact P2.out); rintro e w5 ⟨x, rfl, hx, hw5⟩; obtain ⟨ax1, nx1, kx1, ax2, nx2, kx2, rfl⟩ := hx.shape; have Hb4 : Hid (Below wz.heap.size wz w5) := Bel.call P1.out (Nat.le_refl _) hw5; obtain ⟨cb0', cb1', fb0', fb1', zb'⟩ := RowTwo (HRB5.out.later Hb4.out zb)))
          all_goals
            have HX : Hid (NetAt (NewQ Q w) w5 (.agg #[.slice ax1 nx1 kx1, .slice ax2 nx2 kx2]) capsR (f.take k ++ f.drop (k + 1))) := hx
            have HBE : Hid (Below w.heap.size w w5) := Bel.call HB5.out (Nat.le_refl _) Hb4.out
            clear hw5 hx
            go_wp2
            refine bodyPost_ret (v := .tuple #[.string ⟨#[111, 107]⟩, .agg #[.slice ax1 nx1 kx1, .slice ax2 nx2 kx2]]) (by simp [results, Tryz.results23, go_sem, cb0', cb1', fb0', fb1']) rfl ⟨_, by rw [HTx.out]; rfl, ?_, ?_⟩
            · rw [HLF2.out]
              refine net_out ?_
              repeat (first | with_reducible exact HX.out | with_reducible refine NetAt.setCell ?_ not_new _ | with_reducible refine net_drew ?_)
            · repeat (first | with_reducible exact HBE.out | with_reducible refine Below.setCell ?_ (by simp) _ | with_reducible refine Below.drew ?_)
end Ev
end Go.Proofs.YtpnmmmlckdkcdakGreatDoor
