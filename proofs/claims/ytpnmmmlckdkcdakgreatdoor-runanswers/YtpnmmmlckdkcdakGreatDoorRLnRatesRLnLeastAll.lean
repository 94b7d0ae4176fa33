/- Pieces of one walk, one text behind the other. -/
import Derived.Test.YtpnmmmlckdkcdakGreatDoorRLnA
/- The document's Line at 'rates'. -/
namespace Go.Proofs.YtpnmmmlckdkcdakGreatDoor
namespace Ev
open Go.RowKit Fr Ns Ld Fl
set_option linter.unusedSimpArgs false
set_option linter.unusedVariables false

set_option maxRecDepth 100000 in
set_option maxHeartbeats 8000000 in
theorem line_rates {Q : Nat → Prop} (f : Flows) (s : Txt) (v : Value) (w : World) (h : NetAt Q w v capsR f) (hf : RightF f) (hs : s.length ≤ 3000) (hr : readT s = true) (hw0 : wordT s = tRates) (hc : (numsT s).length = 0) :
    Calls Tryz.prog 23 #[v, .string ⟨s.toArray⟩] w fun e w' => ∃ x, e = .returned (.tuple #[.string ⟨(lineT f s).toArray⟩, x]) ∧ NetAt (fun b => Q b ∨ w.heap.size ≤ b) w' x capsR (lineF f s) ∧ Below w.heap.size w w' := by
  have hfit : fitsT s = true := by simp [fitsT, hr, hw0, tRates, tAdd, tIndex, tDrop, tLeast, tSplit, hc]
  have HLT : Hid (lineT f s = if f = [] then [45] else joinT ((ratesR f).map toldT)) := by show _ = _; simp [lineT, hfit, hw0, tRates, tAdd, tDrop]
  have HLF : lineF f s = f := by simp [lineF, hfit, hw0, tRates, tAdd, tDrop]
  rw [HLF]
  clear HLF hfit
  obtain ⟨W, hCut, hWl, hLl, hW0, hNum, hLb⟩ := line_parts hs hr
  rw [hw0] at hW0
  clear hw0
  have HCn : Hid ((numsT s).length = 0) := hc
  clear hc
  generalize numsT s = L at *
  have HC : Hid (∀ u : World, Calls Tryz.prog 22 #[.string ⟨s.toArray⟩, .int .u8 32] u fun e w' => ∃ v, e = .returned v ∧ StrsAt (fun b => u.heap.size ≤ b) w' v W ∧ Below u.heap.size u w') := hCut
  have HN : Hid (∀ i, i < L.length → ∀ u : World, Calls Tryz.prog 51 #[.string ⟨(W.getD (i + 1) []).toArray⟩] u fun e w' => e = .returned (.tuple #[.int .i64 (L.getD i 0), .bool true]) ∧ w' = u) := hNum
  have HLb : Hid (∀ x ∈ L, 0 ≤ x ∧ x ≤ 9999) := hLb
  have HF : Hid (f ≠ [] → ∀ u : World, Below w.heap.size w u → Calls Tryz.prog 52 #[v] u fun e w' => ∃ y z, e = .returned (.tuple #[y, z]) ∧ FracsAt (fun b => u.heap.size ≤ b) w' y (ratesR f) ∧ ListsAt (fun b => u.heap.size ≤ b) w' z (fill capsR f).2 ∧ Below u.heap.size u w') := fun hne u hu => RFill_any capsR f v u (h.later hu) (right_good hf hne) (by decide)
  have HNet : Hid (∀ u : World, Below w.heap.size w u → NetAt (fun b => Q b ∨ w.heap.size ≤ b) u v capsR f) := fun u hu => by
    obtain ⟨x1, x2, rfl, _⟩ := id h
    exact line_end h hu
  obtain ⟨v1, v2, rfl, h1, h2⟩ := id h
  have HNAt : Hid (NetAt Q w (.agg #[v1, v2]) capsR f) := h
  obtain ⟨a2, c2, e2, hm2⟩ : ∃ a2 c2, v2 = .slice a2 f.length c2 ∧ f.length ≤ 9223372036854775807 := by
    obtain ⟨a2, c2, e, hm, _⟩ := h2
    exact ⟨a2, c2, e, hm.2⟩
  obtain ⟨a1, c1, e1⟩ : ∃ a1 c1, v1 = .slice a1 capsR.length c1 := by
    obtain ⟨a1, c1, e, _⟩ := h1
    exact ⟨a1, c1, e⟩
  subst e2
  subst e1
  generalize capsR.length = nc at *
  obtain ⟨k0, hKI, hx0, hx1, hx2⟩ := info_parts infoInt
  clear hCut hNum hLb h h1 h2 hr hs
  go_enter Tryz.func23, Tryz.ntmps23
  go_wp2_with fail
  refine (HC.out _).mono ?_
  rintro e w1 ⟨vw, rfl, hvw, hw1⟩
  obtain ⟨aw, cw, rfl, hmw, hcw⟩ := id hvw
  have HW0 : Hid (∃ b off, aw = some ⟨b, off, none⟩ ∧ ∀ u, Below w1.heap.size w1 u → u.cell? ⟨b, off, none⟩ = some (.string ⟨#[114, 97, 116, 101, 115]⟩)) := by
    obtain ⟨b, off, e, hcc⟩ := strs_cells hvw 0 (by omega)
    refine ⟨b, off, e, fun u hu => ?_⟩
    have := hcc u hu
    rw [hW0] at this
    exact this
  have HWs : Hid (∀ i, i < L.length → ∃ b off, aw = some ⟨b, off, none⟩ ∧ ∀ u, Below w1.heap.size w1 u → u.cell? ⟨b, off + (i + 1), none⟩ = some (.string ⟨(W.getD (i + 1) []).toArray⟩)) := fun i hi => strs_cells hvw (i + 1) (by omega)
  have hsz1 : w.heap.size + 1 + 1 ≤ w1.heap.size := by have := hw1.size; simpa using this
  have HR0 : Hid (RowAt w1 w.heap.size 37 [.slice a1 nc c1, .slice a2 f.length c2]) := ((row_made w _ _ _ _ rfl rfl).alloc _).later hw1 (by simp <;> omega)
  have HR1 : Hid (RowAt w1 (w.heap.size + 1) 37 [.slice none 0 0, .slice none 0 0]) := (row_made (w.alloc (.cells #[.slice a1 nc c1, .slice a2 f.length c2] 37)) _ _ _ _ (by simp) rfl).later hw1 (by simp <;> omega)
  have HB1 : Hid (Below w.heap.size w w1) := (((Below.refl _ _).alloc (Nat.le_refl _) _).alloc (by simp) _).trans (hw1.mono (by simp; omega))
  have hmw1 := hmw.1
  rw [hWl] at hmw1 ⊢
  clear hvw hw1 hcw hmw hW0 hWl
  go_wp2_with fail
  go_loopw [7, 8, 9, 10] (fun s7 s8 _ _ wr => ∃ k : Nat, k ≤ L.length ∧ s8 = .int .i64 ((k : Int) + 1) ∧ Hid (wr.ownsRow w1.heap.size 3 1 s7 k ((L.take k).map (Value.int .i64))) ∧ Hid (Below w1.heap.size w1 wr)) (fun _ s8 _ _ _ => L.length + 1 - (intOf s8).toNat)
  case atStart => exact ⟨0, by omega, by go_num, ⟨rfl, .inl ⟨rfl, rfl⟩⟩, Below.refl _ _⟩
  case round =>
    obtain ⟨k, hk, rfl, ho, hbl⟩ := hrel
    obtain ⟨a7, c7, rfl⟩ := own_slice ho.out
    have hwz : w1.heap.size ≤ wr.heap.size := hbl.out.size
    by_cases hlt : k < L.length
    · obtain ⟨b, off, rfl, hcc⟩ := HWs.out k hlt
      have c0 := hcc _ hbl.out
      have HN1 : Hid (∀ u : World, Calls Tryz.prog 51 #[.string ⟨(W.getD (k + 1) []).toArray⟩] u fun e w' => e = .returned (.tuple #[.int .i64 (L.getD k 0), .bool true]) ∧ w' = u) := HN.out k hlt
      have HX : Hid ((L.take (k + 1)).map (Value.int .i64) = (L.take k).map (Value.int .i64) ++ [.int .i64 (L.getD k 0)]) := take_map_snoc _ L k hlt 0
      have HON : Hid (wr.ownsRow w1.heap.size 3 1 (.slice a7 k c7) k ((L.take k).map (Value.int .i64))) := ho
      clear hcc ho
      generalize (L.take k).map (Value.int .i64) = ys at *
      generalize L.getD k 0 = x at *
      generalize W.getD (k + 1) [] = tx at *
      have hc8 : ((k : Int) + 1) < ((L.length + 1 : Nat) : Int) := by omega
      have hk8 : ((k : Int) + 1).toNat = k + 1 := by omega
      have hk9 : IntKind.i64.wrap ((k : Int) + 1 + 1) = (k : Int) + 1 + 1 := by rw [IntKind.wrap_i64]; omega
      go_wp2_with fail
      refine (HN1.out _).mono ?_
      rintro e w2 ⟨rfl, rfl⟩
      go_wp2_with (at_builtin; go_must (refine wpList_append_own _ rfl _ _ 22 rfl w1.heap.size 3 k0 (.int .i64 0) 1 8 Tryz.underlying22 hKI hx0 hx1 hx2 rfl (by decide) _ _ _ rfl (HON.out.alloc _) ⟨_, 0, none⟩ 1 1 [.int .i64 x] rfl rfl (new1 _ _ _ _ ?c1) (by intro u hu; simp at hu; subst hu; rfl) (by unfold maxLen; omega) (by omega) ?c2 ?_))
      case c1 => simp
      case c2 => simp; omega
      intro v' wg hown hgrow _
      have HO2 : Hid (wg.ownsRow w1.heap.size 3 1 v' (k + 1) ((L.take (k + 1)).map (Value.int .i64))) := by rw [HX.out]; exact hown
      have HB2 : Hid (Below w1.heap.size w1 wg) := hbl.out.trans (grew1 hwz hgrow (fun k hk => (HON.out.lt k hk).1))
      clear hown hgrow
      go_wp2
      go_roundw
      case rel => exact ⟨k + 1, by omega, by go_num, HO2, HB2⟩
      case measure => simp [intOf]; omega
    · obtain rfl : k = L.length := by omega
      have HI : Hid (IntsAt (fun b => w1.heap.size ≤ b) wr (.slice a7 L.length c7) L) := ints_of_owns (base := w1.heap.size) (by omega) (by have := ho.out; rwa [List.take_length] at this) (fun g hg => hg)
      have HRa : Hid (RowAt wr w.heap.size 37 [.slice a1 nc c1, .slice a2 f.length c2]) := HR0.out.later hbl.out (by omega)
      have HRb : Hid (RowAt wr (w.heap.size + 1) 37 [.slice none 0 0, .slice none 0 0]) := HR1.out.later hbl.out (by omega)
      have HBr : Hid (Below w.heap.size w wr) := HB1.out.trans (hbl.out.mono (by omega))
      have hLc : L.length ≤ c7 := by obtain ⟨_, _, e, hm, _⟩ := HI.out; simp only [Value.slice.injEq] at e; obtain ⟨_, _, rfl⟩ := e; exact hm.1
      obtain ⟨bw, ow, rfl, hcw⟩ := HW0.out
      have cw0 := hcw _ hbl.out
      have hcl : ¬ (((L.length : Int) + 1) < ((L.length + 1 : Nat) : Int)) := by omega
      obtain ⟨ca0, ca1, fa0, fa1, za⟩ := RowTwo HRa.out
      clear HWs HW0 HN ho HR0 HR1
      clear hmw1 hwz
      have hcI : ¬ 0 < (L.length : Int) := by have := HCn.out; omega
      have hcJ : ¬ (L.length : Int) < 0 := by omega
      go_upto_if 87 with fail
      go_cut [13] (fun s13 wc => Hid (FracsAt (fun b => wr.heap.size ≤ b) wc s13 (ratesL f)) ∧ Hid (Below wr.heap.size wr wc))
      case first =>
        by_cases hne : f = []
        · have hl0 : ¬ 0 < (f.length : Int) := by rw [hne]; decide
          have HFe : Hid (ratesL f = []) := if_pos hne
          clear hne
          go_wp2
          go_meet
          case rel => exact ⟨by rw [HFe.out]; exact fracs_nil _ _, Below.refl _ _⟩
        · have hl0 : 0 < (f.length : Int) := by have : f.length ≠ 0 := fun e => hne (List.eq_nil_of_length_eq_zero e); omega
          have HFe : Hid (ratesL f = ratesR f) := if_neg hne
          have HF1 := HF.out hne
          have HF2 : Hid (∀ u : World, Below w.heap.size w u → Calls Tryz.prog 52 #[.agg #[.slice a1 nc c1, .slice a2 f.length c2]] u fun e w' => ∃ y z, e = .returned (.tuple #[y, z]) ∧ FracsAt (fun b => u.heap.size ≤ b) w' y (ratesR f) ∧ ListsAt (fun b => u.heap.size ≤ b) w' z (fill capsR f).2 ∧ Below u.heap.size u w') := HF1
          clear HF1 HF
          go_wp2_with fail
          refine (HF2.out _ HBr.out).mono ?_
          rintro e w3 ⟨y, z, rfl, hy, hz, hw3⟩
          have HY : Hid (FracsAt (fun b => wr.heap.size ≤ b) w3 y (ratesL f)) := by rw [HFe.out]; exact hy
          have HB3 : Hid (Below wr.heap.size wr w3) := hw3
          clear hy hz hw3
          go_wp2
          go_meet
          case rel => exact ⟨HY, HB3⟩
      case rest =>
        obtain ⟨hfr, hbc⟩ := hcut
        have HRA : Hid (RowAt wc w.heap.size 37 [.slice a1 nc c1, .slice a2 f.length c2]) := HRa.out.later hbc.out HRa.out.lt
        have HRB : Hid (RowAt wc (w.heap.size + 1) 37 [.slice none 0 0, .slice none 0 0]) := HRb.out.later hbc.out HRb.out.lt
        have HBC : Hid (Below w.heap.size w wc) := Bel.call HBr.out (Nat.le_refl _) hbc.out
        have HIC : Hid (IntsAt (fun b => w1.heap.size ≤ b) wc (.slice a7 L.length c7) L) := HI.out.later hbc.out
        have cwc := hcw _ (hbl.out.trans (hbc.out.mono hbl.out.size))
        have zw1 : w1.heap.size ≤ wc.heap.size := Nat.le_trans hbl.out.size hbc.out.size
        have HFr : Hid (FracsAt (fun _ => True) wc u13 (ratesL f)) := hfr.out.keep (fun _ _ _ => rfl) (fun _ _ _ => trivial)
        clear hfr
        clear cw0 ca0 ca1 fa0 fa1 za HRa HRb HBr HI HF hcw hbl hbc HB1
        obtain ⟨ca0, ca1, fa0, fa1, za⟩ := RowTwo HRA.out
        obtain ⟨cb0, cb1, fb0, fb1, zb⟩ := RowTwo HRB.out
        have zne : w.heap.size ≠ w.heap.size + 1 := by omega
        obtain ⟨R, hRe⟩ : ∃ R, ratesL f = R := ⟨_, rfl⟩
        rw [hRe] at HFr
        have hR6 : R.length ≤ 6 := by
          rw [← hRe, ratesL]
          split
          · simp
          · rename_i hne; rw [(rates_R hf hne).1]; exact hf.1
        have HRn : Hid (∀ i, i < R.length → 0 ≤ (R.getD i (0, 0)).1 ∧ (R.getD i (0, 0)).1 < 1000000000000000000 ∧ 0 ≤ (R.getD i (0, 0)).2 ∧ (R.getD i (0, 0)).2 < 1000000000000000000) := fun i hi => by
          have hm := getD_mem R i hi (0, 0)
          generalize R.getD i (0, 0) = a at hm ⊢
          rw [← hRe, ratesL] at hm
          split at hm
          · simp at hm
          · rename_i hne
            obtain ⟨q1, q2⟩ := (rates_R hf hne).2.2 a hm
            have := fault_0 q1
            omega
        have HTl : Hid (lineT f s = if R = [] then [45] else joinT (R.map toldT)) := by
          show _ = _
          rw [HLT.out, ← hRe, ratesL]
          by_cases hne : f = []
          · simp [hne]
          · have h1 : ratesR f ≠ [] := fun e => by have := (rates_R hf hne).1; rw [e] at this; exact hne (List.eq_nil_of_length_eq_zero (by simpa using this.symm))
            simp [hne, h1]
        clear HLT hRe hf HCn
        have HTo : Hid (∀ i, i < R.length → ∀ u : World, Calls Tryz.prog 24 #[.agg #[.int .i64 (R.getD i (0, 0)).1, .int .i64 (R.getD i (0, 0)).2]] u fun e w' => e = .returned (.string ⟨(toldT (R.getD i (0, 0))).toArray⟩) ∧ Below u.heap.size u w') := fun i hi u => by
          obtain ⟨q1, q2, q3, q4⟩ := HRn.out i hi
          exact RTold_any _ u q1 q2 q3 q4
        obtain ⟨J, hJ⟩ : ∃ J : Nat → Txt, ∀ k, joinT ((R.take k).map toldT) = J k := ⟨_, fun _ => rfl⟩
        have HJ0 : Hid (J 0 = []) := by show _ = _; rw [← hJ]; rfl
        have HJl : Hid (∀ k, (J k).length ≤ 252) := fun k => by
          rw [← hJ]
          have h1 := joinT_len (l := (R.take k).map toldT) (M := 41) (fun x hx => by obtain ⟨a, _, rfl⟩ := List.mem_map.1 hx; exact toldT_len a)
          have h2 : ((R.take k).map toldT).length ≤ 6 := by simp; omega
          have h3 := Nat.mul_le_mul_right (41 + 1) h2
          omega
        have HJs : Hid (∀ k, k < R.length → k ≠ 0 → (⟨(J k).toArray⟩ : ByteArray) ++ ⟨#[32]⟩ ++ ⟨(toldT (R.getD k (0, 0))).toArray⟩ = ⟨(J (k + 1)).toArray⟩) := fun k hk h0 => by
          rw [← hJ, ← hJ, join_step toldT R k hk (0, 0), if_neg h0]
          apply ByteArray.ext
          simp
        have HJ1 : Hid (0 < R.length → (⟨(J 0).toArray⟩ : ByteArray) ++ ⟨(toldT (R.getD 0 (0, 0))).toArray⟩ = ⟨(J 1).toArray⟩) := fun hk => by
          rw [← hJ, ← hJ, join_step toldT R 0 hk (0, 0), if_pos rfl]
          apply ByteArray.ext
          simp [joinT]
        have HJn : Hid (if R.length = 0 then (J R.length).isEmpty = true ∧ lineT f s = [45] else (J R.length).isEmpty = false ∧ lineT f s = J R.length) := by
          show ite _ _ _
          by_cases h0 : R.length = 0
          · have hR0 : R = [] := List.eq_nil_of_length_eq_zero h0
            rw [if_pos h0, HTl.out, if_pos hR0, h0, HJ0.out]
            exact ⟨rfl, rfl⟩
          · have hR0 : R ≠ [] := fun e => h0 (by rw [e]; rfl)
            rw [if_neg h0, HTl.out, if_neg hR0, ← hJ, List.take_length]
            refine ⟨?_, rfl⟩
            have := joinT_ne (l := R.map toldT) (by simpa using hR0) (fun x hx => by obtain ⟨a, _, rfl⟩ := List.mem_map.1 hx; exact toldT_ne a)
            simpa using this
        clear hJ HTl HRn
        obtain ⟨ar, cr, rfl, hmr, hcr⟩ := id HFr.out
        have HFc : Hid (∀ i, i < R.length → ∃ b off, ar = some ⟨b, off, none⟩ ∧ ∀ u, Below wc.heap.size wc u → u.cell? ⟨b, off + i * 2, none⟩ = some (.int .i64 (R.getD i (0, 0)).1) ∧ u.cell? ⟨b, off + i * 2 + 1, none⟩ = some (.int .i64 (R.getD i (0, 0)).2)) := fun i hi => by
          rcases hcr with h | ⟨b, off, rfl, h, _⟩
          · rw [h] at hi; simp at hi
          · exact ⟨b, off, rfl, fun u hu => ⟨cell_later hu (h i hi).1, cell_later hu (h i hi).2⟩⟩
        clear hcr HFr
        go_wp2_with fail
        go_loopw [15, 16, 17] (fun s15 s16 _ wr => ∃ k : Nat, k ≤ R.length ∧ s16 = .int .i64 k ∧ s15 = .string ⟨(J k).toArray⟩ ∧ Hid (Below wc.heap.size wc wr)) (fun _ s16 _ _ => R.length - (intOf s16).toNat)
        case atStart => exact ⟨0, by omega, rfl, by rw [HJ0.out], Below.refl _ _⟩
        case round =>
          obtain ⟨k, hk, rfl, rfl, hbr⟩ := hrel
          have hjl := HJl.out k
          by_cases hlt : k < R.length
          · obtain ⟨b, off, rfl, hcc⟩ := HFc.out k hlt
            obtain ⟨d0, d1⟩ := hcc _ hbr.out
            have hxl := toldT_len (R.getD k (0, 0))
            have HT1 := HTo.out k hlt
            have HT2 : Hid (∀ u : World, Calls Tryz.prog 24 #[.agg #[.int .i64 (R.getD k (0, 0)).1, .int .i64 (R.getD k (0, 0)).2]] u fun e w' => e = .returned (.string ⟨(toldT (R.getD k (0, 0))).toArray⟩) ∧ Below u.heap.size u w') := HT1
            clear HT1 hcc
            by_cases h0 : k = 0
            · subst h0
              have HS1 : Hid ((⟨(J 0).toArray⟩ : ByteArray) ++ ⟨(toldT (R.getD 0 (0, 0))).toArray⟩ = ⟨(J 1).toArray⟩) := HJ1.out hlt
              generalize toldT (R.getD 0 (0, 0)) = X at *
              generalize (R.getD 0 (0, 0)).1 = p1 at *
              generalize (R.getD 0 (0, 0)).2 = p2 at *
              have d0' : wr.cell? ⟨b, off, none⟩ = some (.int .i64 p1) := d0
              have d1' : wr.cell? ⟨b, off + 1, none⟩ = some (.int .i64 p2) := by rw [show off + 1 = off + 0 * 2 + 1 by omega]; exact d1
              clear d0 d1
              go_wp2_with fail
              refine (HT2.out _).mono ?_
              rintro e w4 ⟨rfl, hw4⟩
              have HB4 : Hid (Below wc.heap.size wc w4) := Bel.call hbr.out (Nat.le_refl _) hw4
              clear hw4
              go_wp2
              go_roundw
              case rel => exact ⟨0 + 1, by omega, by go_num, by rw [HS1.out], HB4⟩
              case measure => simp [intOf]; omega
            · have HS1 : Hid ((⟨(J k).toArray⟩ : ByteArray) ++ ⟨#[32]⟩ ++ ⟨(toldT (R.getD k (0, 0))).toArray⟩ = ⟨(J (k + 1)).toArray⟩) := HJs.out k hlt h0
              generalize toldT (R.getD k (0, 0)) = X at *
              generalize (R.getD k (0, 0)).1 = p1 at *
              generalize (R.getD k (0, 0)).2 = p2 at *
              have hk0 : 0 < (k : Int) := by omega
              clear h0
              go_wp2_with fail
              refine (HT2.out _).mono ?_
              rintro e w4 ⟨rfl, hw4⟩
              have HB4 : Hid (Below wc.heap.size wc w4) := Bel.call hbr.out (Nat.le_refl _) hw4
              clear hw4
              go_wp2
              go_roundw
              case rel => exact ⟨k + 1, by omega, by go_num, by rw [HS1.out], HB4⟩
              case measure => simp [intOf]; omega
          · obtain rfl : k = R.length := by omega
            have HRA2 := HRA.out.later hbr.out za
            have HRB2 := HRB.out.later hbr.out zb
            clear ca0 ca1 fa0 fa1 za cb0 cb1 fb0 fb1 zb
            obtain ⟨ca0, ca1, fa0, fa1, za⟩ := RowTwo HRA2
            obtain ⟨cb0, cb1, fb0, fb1, zb⟩ := RowTwo HRB2
            have HBE : Hid (Below w.heap.size w wr) := Bel.call HBC.out (Nat.le_refl _) hbr.out
            have hj := HJn.out
            by_cases h0 : R.length = 0
            · rw [if_pos h0] at hj
              obtain ⟨hje, hjt⟩ := hj
              have HTx : Hid (lineT f s = [45]) := hjt
              clear hjt h0
              go_wp2_with fail
              go_region
              go_wp2
              refine bodyPost_ret (v := .tuple #[.string ⟨#[45]⟩, .agg #[.slice a1 nc c1, .slice a2 f.length c2]]) (by simp [results, Tryz.results23, go_sem, ca0, ca1, cb0, cb1, fa0, fa1, fb0, fb1]) rfl ⟨_, by rw [HTx.out], HNet.out _ ?_, ?_⟩
              all_goals repeat (first | with_reducible exact HBE.out | with_reducible refine Below.setCell ?_ (by simp) _ | with_reducible refine Below.drew ?_)
            · rw [if_neg h0] at hj
              obtain ⟨hje, hjt⟩ := hj
              have HTx : Hid (lineT f s = J R.length) := hjt
              clear hjt h0
              go_wp2_with fail
              go_region
              go_wp2
              refine bodyPost_ret (v := .tuple #[.string ⟨(J R.length).toArray⟩, .agg #[.slice a1 nc c1, .slice a2 f.length c2]]) (by simp [results, Tryz.results23, go_sem, ca0, ca1, cb0, cb1, fa0, fa1, fb0, fb1]) rfl ⟨_, by rw [HTx.out], HNet.out _ ?_, ?_⟩
              all_goals repeat (first | with_reducible exact HBE.out | with_reducible refine Below.setCell ?_ (by simp) _ | with_reducible refine Below.drew ?_)
end Ev
end Go.Proofs.YtpnmmmlckdkcdakGreatDoor

/- The document's Line at 'least'. -/
namespace Go.Proofs.YtpnmmmlckdkcdakGreatDoor
namespace Ev
open Go.RowKit Fr Ns Ld Fl
set_option linter.unusedSimpArgs false
set_option linter.unusedVariables false

set_option maxRecDepth 100000 in
set_option maxHeartbeats 8000000 in
theorem line_least {Q : Nat → Prop} (f : Flows) (s : Txt) (v : Value) (w : World) (h : NetAt Q w v capsR f) (hf : RightF f) (hs : s.length ≤ 3000) (hr : readT s = true) (hw0 : wordT s = tLeast) (hc : (numsT s).length = 0) :
    Calls Tryz.prog 23 #[v, .string ⟨s.toArray⟩] w fun e w' => ∃ x, e = .returned (.tuple #[.string ⟨(lineT f s).toArray⟩, x]) ∧ NetAt (fun b => Q b ∨ w.heap.size ≤ b) w' x capsR (lineF f s) ∧ Below w.heap.size w w' := by
  have hfit : fitsT s = true := by simp [fitsT, hr, hw0, tRates, tAdd, tIndex, tDrop, tLeast, tSplit, hc]
  have HLT : Hid (lineT f s = if f = [] then nameT 5 else toldT (leastV (ratesR f))) := by show _ = _; simp [lineT, hfit, hw0, tRates, tAdd, tDrop, tLeast]
  have HLF : lineF f s = f := by simp [lineF, hfit, hw0, tLeast, tAdd, tDrop]
  rw [HLF]
  clear HLF hfit
  obtain ⟨W, hCut, hWl, hLl, hW0, hNum, hLb⟩ := line_parts hs hr
  rw [hw0] at hW0
  clear hw0
  have HCn : Hid ((numsT s).length = 0) := hc
  clear hc
  generalize numsT s = L at *
  have HC : Hid (∀ u : World, Calls Tryz.prog 22 #[.string ⟨s.toArray⟩, .int .u8 32] u fun e w' => ∃ v, e = .returned v ∧ StrsAt (fun b => u.heap.size ≤ b) w' v W ∧ Below u.heap.size u w') := hCut
  have HN : Hid (∀ i, i < L.length → ∀ u : World, Calls Tryz.prog 51 #[.string ⟨(W.getD (i + 1) []).toArray⟩] u fun e w' => e = .returned (.tuple #[.int .i64 (L.getD i 0), .bool true]) ∧ w' = u) := hNum
  have HLb : Hid (∀ x ∈ L, 0 ≤ x ∧ x ≤ 9999) := hLb
  have HF : Hid (f ≠ [] → ∀ u : World, Below w.heap.size w u → Calls Tryz.prog 52 #[v] u fun e w' => ∃ y z, e = .returned (.tuple #[y, z]) ∧ FracsAt (fun b => u.heap.size ≤ b) w' y (ratesR f) ∧ ListsAt (fun b => u.heap.size ≤ b) w' z (fill capsR f).2 ∧ Below u.heap.size u w') := fun hne u hu => RFill_any capsR f v u (h.later hu) (right_good hf hne) (by decide)
  have HNet : Hid (∀ u : World, Below w.heap.size w u → NetAt (fun b => Q b ∨ w.heap.size ≤ b) u v capsR f) := fun u hu => by
    obtain ⟨x1, x2, rfl, _⟩ := id h
    exact line_end h hu
  obtain ⟨v1, v2, rfl, h1, h2⟩ := id h
  have HNAt : Hid (NetAt Q w (.agg #[v1, v2]) capsR f) := h
  obtain ⟨a2, c2, e2, hm2⟩ : ∃ a2 c2, v2 = .slice a2 f.length c2 ∧ f.length ≤ 9223372036854775807 := by
    obtain ⟨a2, c2, e, hm, _⟩ := h2
    exact ⟨a2, c2, e, hm.2⟩
  obtain ⟨a1, c1, e1⟩ : ∃ a1 c1, v1 = .slice a1 capsR.length c1 := by
    obtain ⟨a1, c1, e, _⟩ := h1
    exact ⟨a1, c1, e⟩
  subst e2
  subst e1
  generalize capsR.length = nc at *
  obtain ⟨k0, hKI, hx0, hx1, hx2⟩ := info_parts infoInt
  clear hCut hNum hLb h h1 h2 hr hs
  go_enter Tryz.func23, Tryz.ntmps23
  go_wp2_with fail
  refine (HC.out _).mono ?_
  rintro e w1 ⟨vw, rfl, hvw, hw1⟩
  obtain ⟨aw, cw, rfl, hmw, hcw⟩ := id hvw
  have HW0 : Hid (∃ b off, aw = some ⟨b, off, none⟩ ∧ ∀ u, Below w1.heap.size w1 u → u.cell? ⟨b, off, none⟩ = some (.string ⟨#[108, 101, 97, 115, 116]⟩)) := by
    obtain ⟨b, off, e, hcc⟩ := strs_cells hvw 0 (by omega)
    refine ⟨b, off, e, fun u hu => ?_⟩
    have := hcc u hu
    rw [hW0] at this
    exact this
  have HWs : Hid (∀ i, i < L.length → ∃ b off, aw = some ⟨b, off, none⟩ ∧ ∀ u, Below w1.heap.size w1 u → u.cell? ⟨b, off + (i + 1), none⟩ = some (.string ⟨(W.getD (i + 1) []).toArray⟩)) := fun i hi => strs_cells hvw (i + 1) (by omega)
  have hsz1 : w.heap.size + 1 + 1 ≤ w1.heap.size := by have := hw1.size; simpa using this
  have HR0 : Hid (RowAt w1 w.heap.size 37 [.slice a1 nc c1, .slice a2 f.length c2]) := ((row_made w _ _ _ _ rfl rfl).alloc _).later hw1 (by simp <;> omega)
  have HR1 : Hid (RowAt w1 (w.heap.size + 1) 37 [.slice none 0 0, .slice none 0 0]) := (row_made (w.alloc (.cells #[.slice a1 nc c1, .slice a2 f.length c2] 37)) _ _ _ _ (by simp) rfl).later hw1 (by simp <;> omega)
  have HB1 : Hid (Below w.heap.size w w1) := (((Below.refl _ _).alloc (Nat.le_refl _) _).alloc (by simp) _).trans (hw1.mono (by simp; omega))
  have hmw1 := hmw.1
  rw [hWl] at hmw1 ⊢
  clear hvw hw1 hcw hmw hW0 hWl
  go_wp2_with fail
  go_loopw [7, 8, 9, 10] (fun s7 s8 _ _ wr => ∃ k : Nat, k ≤ L.length ∧ s8 = .int .i64 ((k : Int) + 1) ∧ Hid (wr.ownsRow w1.heap.size 3 1 s7 k ((L.take k).map (Value.int .i64))) ∧ Hid (Below w1.heap.size w1 wr)) (fun _ s8 _ _ _ => L.length + 1 - (intOf s8).toNat)
  case atStart => exact ⟨0, by omega, by go_num, ⟨rfl, .inl ⟨rfl, rfl⟩⟩, Below.refl _ _⟩
  case round =>
    obtain ⟨k, hk, rfl, ho, hbl⟩ := hrel
    obtain ⟨a7, c7, rfl⟩ := own_slice ho.out
    have hwz : w1.heap.size ≤ wr.heap.size := hbl.out.size
    by_cases hlt : k < L.length
    · obtain ⟨b, off, rfl, hcc⟩ := HWs.out k hlt
      have c0 := hcc _ hbl.out
      have HN1 : Hid (∀ u : World, Calls Tryz.prog 51 #[.string ⟨(W.getD (k + 1) []).toArray⟩] u fun e w' => e = .returned (.tuple #[.int .i64 (L.getD k 0), .bool true]) ∧ w' = u) := HN.out k hlt
      have HX : Hid ((L.take (k + 1)).map (Value.int .i64) = (L.take k).map (Value.int .i64) ++ [.int .i64 (L.getD k 0)]) := take_map_snoc _ L k hlt 0
      have HON : Hid (wr.ownsRow w1.heap.size 3 1 (.slice a7 k c7) k ((L.take k).map (Value.int .i64))) := ho
      clear hcc ho
      generalize (L.take k).map (Value.int .i64) = ys at *
      generalize L.getD k 0 = x at *
      generalize W.getD (k + 1) [] = tx at *
      have hc8 : ((k : Int) + 1) < ((L.length + 1 : Nat) : Int) := by omega
      have hk8 : ((k : Int) + 1).toNat = k + 1 := by omega
      have hk9 : IntKind.i64.wrap ((k : Int) + 1 + 1) = (k : Int) + 1 + 1 := by rw [IntKind.wrap_i64]; omega
      go_wp2_with fail
      refine (HN1.out _).mono ?_
      rintro e w2 ⟨rfl, rfl⟩
      go_wp2_with (at_builtin; go_must (refine wpList_append_own _ rfl _ _ 22 rfl w1.heap.size 3 k0 (.int .i64 0) 1 8 Tryz.underlying22 hKI hx0 hx1 hx2 rfl (by decide) _ _ _ rfl (HON.out.alloc _) ⟨_, 0, none⟩ 1 1 [.int .i64 x] rfl rfl (new1 _ _ _ _ ?c1) (by intro u hu; simp at hu; subst hu; rfl) (by unfold maxLen; omega) (by omega) ?c2 ?_))
      case c1 => simp
      case c2 => simp; omega
      intro v' wg hown hgrow _
      have HO2 : Hid (wg.ownsRow w1.heap.size 3 1 v' (k + 1) ((L.take (k + 1)).map (Value.int .i64))) := by rw [HX.out]; exact hown
      have HB2 : Hid (Below w1.heap.size w1 wg) := hbl.out.trans (grew1 hwz hgrow (fun k hk => (HON.out.lt k hk).1))
      clear hown hgrow
      go_wp2
      go_roundw
      case rel => exact ⟨k + 1, by omega, by go_num, HO2, HB2⟩
      case measure => simp [intOf]; omega
    · obtain rfl : k = L.length := by omega
      have HI : Hid (IntsAt (fun b => w1.heap.size ≤ b) wr (.slice a7 L.length c7) L) := ints_of_owns (base := w1.heap.size) (by omega) (by have := ho.out; rwa [List.take_length] at this) (fun g hg => hg)
      have HRa : Hid (RowAt wr w.heap.size 37 [.slice a1 nc c1, .slice a2 f.length c2]) := HR0.out.later hbl.out (by omega)
      have HRb : Hid (RowAt wr (w.heap.size + 1) 37 [.slice none 0 0, .slice none 0 0]) := HR1.out.later hbl.out (by omega)
      have HBr : Hid (Below w.heap.size w wr) := HB1.out.trans (hbl.out.mono (by omega))
      have hLc : L.length ≤ c7 := by obtain ⟨_, _, e, hm, _⟩ := HI.out; simp only [Value.slice.injEq] at e; obtain ⟨_, _, rfl⟩ := e; exact hm.1
      obtain ⟨bw, ow, rfl, hcw⟩ := HW0.out
      have cw0 := hcw _ hbl.out
      have hcl : ¬ (((L.length : Int) + 1) < ((L.length + 1 : Nat) : Int)) := by omega
      obtain ⟨ca0, ca1, fa0, fa1, za⟩ := RowTwo HRa.out
      clear HWs HW0 HN ho HR0 HR1
      clear hmw1 hwz
      have hcI : ¬ 0 < (L.length : Int) := by have := HCn.out; omega
      have hcJ : ¬ (L.length : Int) < 0 := by omega
      go_upto_if 87 with fail
      go_cut [13] (fun s13 wc => Hid (FracsAt (fun b => wr.heap.size ≤ b) wc s13 (ratesL f)) ∧ Hid (Below wr.heap.size wr wc))
      case first =>
        by_cases hne : f = []
        · have hl0 : ¬ 0 < (f.length : Int) := by rw [hne]; decide
          have HFe : Hid (ratesL f = []) := if_pos hne
          clear hne
          go_wp2
          go_meet
          case rel => exact ⟨by rw [HFe.out]; exact fracs_nil _ _, Below.refl _ _⟩
        · have hl0 : 0 < (f.length : Int) := by have : f.length ≠ 0 := fun e => hne (List.eq_nil_of_length_eq_zero e); omega
          have HFe : Hid (ratesL f = ratesR f) := if_neg hne
          have HF1 := HF.out hne
          have HF2 : Hid (∀ u : World, Below w.heap.size w u → Calls Tryz.prog 52 #[.agg #[.slice a1 nc c1, .slice a2 f.length c2]] u fun e w' => ∃ y z, e = .returned (.tuple #[y, z]) ∧ FracsAt (fun b => u.heap.size ≤ b) w' y (ratesR f) ∧ ListsAt (fun b => u.heap.size ≤ b) w' z (fill capsR f).2 ∧ Below u.heap.size u w') := HF1
          clear HF1 HF
          go_wp2_with fail
          refine (HF2.out _ HBr.out).mono ?_
          rintro e w3 ⟨y, z, rfl, hy, hz, hw3⟩
          have HY : Hid (FracsAt (fun b => wr.heap.size ≤ b) w3 y (ratesL f)) := by rw [HFe.out]; exact hy
          have HB3 : Hid (Below wr.heap.size wr w3) := hw3
          clear hy hz hw3
          go_wp2
          go_meet
          case rel => exact ⟨HY, HB3⟩
      case rest =>
        obtain ⟨hfr, hbc⟩ := hcut
        have HRA : Hid (RowAt wc w.heap.size 37 [.slice a1 nc c1, .slice a2 f.length c2]) := HRa.out.later hbc.out HRa.out.lt
        have HRB : Hid (RowAt wc (w.heap.size + 1) 37 [.slice none 0 0, .slice none 0 0]) := HRb.out.later hbc.out HRb.out.lt
        have HBC : Hid (Below w.heap.size w wc) := Bel.call HBr.out (Nat.le_refl _) hbc.out
        have HIC : Hid (IntsAt (fun b => w1.heap.size ≤ b) wc (.slice a7 L.length c7) L) := HI.out.later hbc.out
        have cwc := hcw _ (hbl.out.trans (hbc.out.mono hbl.out.size))
        have zw1 : w1.heap.size ≤ wc.heap.size := Nat.le_trans hbl.out.size hbc.out.size
        have HFr : Hid (FracsAt (fun _ => True) wc u13 (ratesL f)) := hfr.out.keep (fun _ _ _ => rfl) (fun _ _ _ => trivial)
        clear hfr
        clear cw0 ca0 ca1 fa0 fa1 za HRa HRb HBr HI HF hcw hbl hbc HB1
        obtain ⟨ca0, ca1, fa0, fa1, za⟩ := RowTwo HRA.out
        obtain ⟨cb0, cb1, fb0, fb1, zb⟩ := RowTwo HRB.out
        have zne : w.heap.size ≠ w.heap.size + 1 := by omega
        obtain ⟨R, hRe⟩ : ∃ R, ratesL f = R := ⟨_, rfl⟩
        rw [hRe] at HFr
        have hR6 : R.length ≤ 6 := by
          rw [← hRe, ratesL]
          split
          · simp
          · rename_i hne; rw [(rates_R hf hne).1]; exact hf.1
        have HRn : Hid (∀ i, i < R.length → 0 ≤ (R.getD i (0, 0)).1 ∧ (R.getD i (0, 0)).1 < 1000000000000000000 ∧ 0 ≤ (R.getD i (0, 0)).2 ∧ (R.getD i (0, 0)).2 < 1000000000000000000) := fun i hi => by
          have hm := getD_mem R i hi (0, 0)
          generalize R.getD i (0, 0) = a at hm ⊢
          rw [← hRe, ratesL] at hm
          split at hm
          · simp at hm
          · rename_i hne
            obtain ⟨q1, q2⟩ := (rates_R hf hne).2.2 a hm
            have := fault_0 q1
            omega
        have HTl : Hid (if R.length = 0 then lineT f s = nameT 5 else lineT f s = toldT (minS R R.length)) := by
          show ite _ _ _
          by_cases hne : f = []
          · rw [if_pos (by rw [← hRe, ratesL, if_pos hne]; rfl), HLT.out, if_pos hne]
          · have hrr := rates_R hf hne
            have e : R = ratesR f := by rw [← hRe, ratesL, if_neg hne]
            have hl0 : R.length ≠ 0 := by rw [e, hrr.1]; exact fun e => hne (List.eq_nil_of_length_eq_zero e)
            rw [if_neg hl0, HLT.out, if_neg hne, e, minS_least hrr.2.1 (by rw [← e]; omega)]
        have HRf : Hid (∀ a ∈ R, faultP a = 0) := fun a ha => by
          rw [← hRe, ratesL] at ha
          split at ha
          · simp at ha
          · rename_i hne; exact ((rates_R hf hne).2.2 a ha).1
        clear HLT hRe hf HCn
        obtain ⟨ar, cr, rfl, hmr, hcr⟩ := id HFr.out
        have HFc : Hid (∀ i, i < R.length → ∃ b off, ar = some ⟨b, off, none⟩ ∧ ∀ u, Below wc.heap.size wc u → u.cell? ⟨b, off + i * 2, none⟩ = some (.int .i64 (R.getD i (0, 0)).1) ∧ u.cell? ⟨b, off + i * 2 + 1, none⟩ = some (.int .i64 (R.getD i (0, 0)).2)) := fun i hi => by
          rcases hcr with h | ⟨b, off, rfl, h, _⟩
          · rw [h] at hi; simp at hi
          · exact ⟨b, off, rfl, fun u hu => ⟨cell_later hu (h i hi).1, cell_later hu (h i hi).2⟩⟩
        clear hcr HFr
        by_cases h0 : R.length = 0
        · have HTx := HTl.out
          rw [if_pos h0] at HTx
          have HTx : Hid (lineT f s = nameT 5) := HTx
          have hr0 : ((R.length : Int) == 0) = true := by rw [h0]; rfl
          clear h0 HTl HRf HRn HFc
          have P1 : Hid (Below wc.heap.size wc wc.drew) := (Below.refl _ _).drew
          have HBZ : Hid (Below w.heap.size w wc) := HBC.out
          have HNm : Hid (∀ u : World, Calls Tryz.prog 53 #[.int .i64 5] u fun e' w' => e' = .returned (.string ⟨(nameT 5).toArray⟩) ∧ Below u.heap.size u w') := fun u => RName_any 5 u (by decide) (by decide)
          generalize nameT 5 = NT at *
          go_wp2_with fail
          go_region_law (first | (go_simp; refine (HNm.out _).mono ?_; rintro e w4 ⟨rfl, hw4⟩; have Hb4 : Hid (Below wc.heap.size wc w4) := Bel.call P1.out (Nat.le_refl _) hw4; obtain ⟨ca0', ca1', fa0', fa1', za'⟩ := RowTwo (HRA.out.later Hb4.out za); obtain ⟨cb0', cb1', fb0', fb1', zb'⟩ := RowTwo (HRB.out.later Hb4.out zb)))
          all_goals
            have HBE : Hid (Below w.heap.size w w4) := Bel.call HBZ.out (Nat.le_refl _) Hb4.out
            clear hw4
            go_wp2
            refine bodyPost_ret (v := .tuple #[.string ⟨NT.toArray⟩, .agg #[.slice a1 nc c1, .slice a2 f.length c2]]) (by simp [results, Tryz.results23, go_sem, ca0', ca1', cb0', cb1', fa0', fa1', fb0', fb1']) rfl ⟨_, by rw [HTx.out], HNet.out _ ?_, ?_⟩
            all_goals repeat (first | with_reducible exact HBE.out | with_reducible refine Below.setCell ?_ (by simp) _ | with_reducible refine Below.drew ?_)
        · have HTx0 := HTl.out
          rw [if_neg h0] at HTx0
          have HTx : Hid (lineT f s = toldT (minS R R.length)) := HTx0
          clear HTx0 HTl
          have hr0 : ((R.length : Int) == 0) = false := by rw [beq_eq_false_iff_ne]; omega
          have hrp : 0 < R.length := by omega
          have HOr : Hid (∀ k, k < R.length → ∀ u : World, Calls Tryz.prog 57 #[.agg #[.int .i64 (R.getD k (0, 0)).1, .int .i64 (R.getD k (0, 0)).2], .agg #[.int .i64 (minS R k).1, .int .i64 (minS R k).2]] u fun e w' => e = .returned (.int .i64 (ordP (R.getD k (0, 0)) (minS R k))) ∧ Below u.heap.size u w') := fun k hk u => Order_any _ _ _ _ u (HRf.out _ (getD_mem R k hk (0, 0))) (HRf.out _ (minS_mem hrp k (by omega)))
          have HTo : Hid (∀ u : World, Calls Tryz.prog 24 #[.agg #[.int .i64 (minS R R.length).1, .int .i64 (minS R R.length).2]] u fun e w' => e = .returned (.string ⟨(toldT (minS R R.length)).toArray⟩) ∧ Below u.heap.size u w') := fun u => by
            obtain ⟨j, hj, he⟩ := List.mem_iff_getElem.1 (minS_mem hrp R.length (Nat.le_refl _))
            obtain ⟨q1, q2, q3, q4⟩ := HRn.out j hj
            rw [List.getD, List.getElem?_eq_getElem hj, Option.getD_some, he] at q1 q2 q3 q4
            exact RTold_any _ u q1 q2 q3 q4
          have HM1 : Hid (∀ k, ordP (R.getD k (0, 0)) (minS R k) < 0 → minS R (k + 1) = R.getD k (0, 0)) := fun k h => by rw [minS, if_pos h]
          have HM2 : Hid (∀ k, ¬ ordP (R.getD k (0, 0)) (minS R k) < 0 → minS R (k + 1) = minS R k) := fun k h => by rw [minS, if_neg h]
          have HM0 : Hid (minS R 0 = R.getD 0 (0, 0)) := rfl
          obtain ⟨M, hM⟩ : ∃ M : Nat → Int × Int, ∀ k, minS R k = M k := ⟨_, fun _ => rfl⟩
          simp only [hM] at HOr HTo HM1 HM2 HM0 HTx
          clear hM HRf HRn h0
          obtain ⟨b, off, rfl, hcc⟩ := HFc.out 0 hrp
          obtain ⟨d0, d1⟩ := hcc _ (Below.refl _ _)
          have HM01 : Hid ((M 0).1 = (R.getD 0 (0, 0)).1 ∧ (M 0).2 = (R.getD 0 (0, 0)).2) := by rw [HM0.out]; exact ⟨rfl, rfl⟩
          generalize (R.getD 0 (0, 0)).1 = p1 at d0 d1 HM01
          generalize (R.getD 0 (0, 0)).2 = p2 at d0 d1 HM01
          have d0' : wc.cell? ⟨b, off, none⟩ = some (.int .i64 p1) := d0
          have d1' : wc.cell? ⟨b, off + 1, none⟩ = some (.int .i64 p2) := by rw [show off + 1 = off + 0 * 2 + 1 by omega]; exact d1
          have hrp2 : 0 < (R.length : Int) := by omega
          clear d0 d1 hcc
          have HBk : Hid (RowAt (wc.alloc (.cells #[.int .i64 p1, .int .i64 p2] 58)) wc.heap.size 58 [.int .i64 (M 0).1, .int .i64 (M 0).2]) := by
            rw [HM01.out.1, HM01.out.2]; exact row_made _ _ _ _ _ rfl rfl
          have HBl : Hid (Below wc.heap.size wc (wc.alloc (.cells #[.int .i64 p1, .int .i64 p2] 58))) := (Below.refl _ _).alloc (Nat.le_refl _) _
          clear HM01
          go_wp2_with fail
          go_loopw [19] (fun s19 wr => ∃ k : Nat, k ≤ R.length ∧ s19 = .int .i64 k ∧ Hid (RowAt wr wc.heap.size 58 [.int .i64 (M k).1, .int .i64 (M k).2]) ∧ Hid (Below wc.heap.size wc wr)) (fun s19 _ => R.length - (intOf s19).toNat)
          case atStart => exact ⟨0, by omega, rfl, HBk, HBl⟩
          case round =>
            clear HBk HBl d0' d1'
            obtain ⟨k, hk, rfl, hbk, hbr⟩ := hrel
            obtain ⟨m0, m1, n0, n1, zg⟩ := RowTwo hbk.out
            by_cases hlt : k < R.length
            · obtain ⟨b', off', e', hcc⟩ := HFc.out k hlt
              simp only [Option.some.injEq, Addr.mk.injEq, and_true] at e'
              obtain ⟨rfl, rfl⟩ := e'
              obtain ⟨d0, d1⟩ := hcc _ hbr.out
              have HO1 : Hid (∀ u : World, Calls Tryz.prog 57 #[.agg #[.int .i64 (R.getD k (0, 0)).1, .int .i64 (R.getD k (0, 0)).2], .agg #[.int .i64 (M k).1, .int .i64 (M k).2]] u fun e w' => e = .returned (.int .i64 (ordP (R.getD k (0, 0)) (M k))) ∧ Below u.heap.size u w') := fun u => HOr.out k hlt u
              have HA1 := HM1.out k
              have HA2 := HM2.out k
              have HA : Hid (ordP (R.getD k (0, 0)) (M k) < 0 → M (k + 1) = R.getD k (0, 0)) := HA1
              have HA' : Hid (0 ≤ ordP (R.getD k (0, 0)) (M k) → M (k + 1) = M k) := fun h => HA2 (by omega)
              clear hcc HA1 HA2
              obtain ⟨P, hP⟩ : ∃ P, R.getD k (0, 0) = P := ⟨_, rfl⟩
              obtain ⟨p1', p2'⟩ := P
              rw [hP] at HO1 HA HA' d0 d1
              clear hP
              generalize ordP (p1', p2') (M k) = od at *
              have P1 : Hid (Below wr.heap.size wr wr.drew) := (Below.refl _ _).drew
              have HSA : Hid (∀ u : World, Below wr.heap.size wr u → u.cell? ⟨b, off + k * 2, none⟩ = some (.int .i64 p1') ∧ u.cell? ⟨b, off + k * 2 + 1, none⟩ = some (.int .i64 p2') ∧ u.cell? ⟨wc.heap.size, 0, none⟩ = some (.int .i64 (M k).1) ∧ u.cell? ⟨wc.heap.size, 1, none⟩ = some (.int .i64 (M k).2)) := fun u hu => ⟨cell_later hu d0, cell_later hu d1, cell_later hu m0, cell_later hu m1⟩
              go_wp2_with fail
              go_region_held3 (fun u => u.cell? ⟨b, off + k * 2, none⟩ = some (.int .i64 p1') ∧ u.cell? ⟨b, off + k * 2 + 1, none⟩ = some (.int .i64 p2') ∧ u.cell? ⟨wc.heap.size, 0, none⟩ = some (.int .i64 (M k).1) ∧ u.cell? ⟨wc.heap.size, 1, none⟩ = some (.int .i64 (M k).2))
                ((refine HSA.out _ ?_; first | exact P1.out | exact Hbo.out))
                (first | (go_at_call 57; refine (HO1.out _).mono ?_; rintro e wo ⟨rfl, hwo⟩; have Hbo : Hid (Below wr.heap.size wr wo) := Bel.call P1.out (Nat.le_refl _) hwo))
              all_goals
                have HBo : Hid (Below wc.heap.size wc wo) := Bel.call hbr.out (Nat.le_refl _) Hbo.out
                have HRo : Hid (RowAt wo wc.heap.size 58 [.int .i64 (M k).1, .int .i64 (M k).2]) := hbk.out.later Hbo.out zg
                obtain ⟨x0, x1, y0, y1, zo⟩ := RowTwo HRo.out
                have e0 := cell_later Hbo.out d0
                have e1 := cell_later Hbo.out d1
                clear hwo m0 m1 n0 n1 d0 d1
                by_cases ho : od < 0
                · have HE : Hid (M (k + 1) = (p1', p2')) := HA.out ho
                  have HRn' : Hid (RowAt ((wo.setCell ⟨wc.heap.size, 0, none⟩ (.int .i64 p1')).setCell ⟨wc.heap.size, 1, none⟩ (.int .i64 p2')) wc.heap.size 58 [.int .i64 (M (k + 1)).1, .int .i64 (M (k + 1)).2]) := by rw [HE.out]; exact (HRo.out.set 0 _).set 1 _
                  have HBn : Hid (Below wc.heap.size wc ((wo.setCell ⟨wc.heap.size, 0, none⟩ (.int .i64 p1')).setCell ⟨wc.heap.size, 1, none⟩ (.int .i64 p2'))) := (HBo.out.setCell (Nat.le_refl _) _).setCell (Nat.le_refl _) _
                  go_wp2
                  go_roundw
                  case rel => exact ⟨k + 1, by omega, by go_num, HRn', HBn⟩
                  case measure => simp [intOf]; omega
                · have HE : Hid (M (k + 1) = M k) := HA'.out (by omega)
                  have HRn' : Hid (RowAt wo wc.heap.size 58 [.int .i64 (M (k + 1)).1, .int .i64 (M (k + 1)).2]) := by rw [HE.out]; exact HRo.out
                  go_wp2
                  go_roundw
                  case rel => exact ⟨k + 1, by omega, by go_num, HRn', HBo⟩
                  case measure => simp [intOf]; omega
            · obtain rfl : k = R.length := by omega
              have HRA2 := HRA.out.later hbr.out za
              have HRB2 := HRB.out.later hbr.out zb
              clear ca0 ca1 fa0 fa1 cb0 cb1 fb0 fb1
              obtain ⟨ca0, ca1, fa0, fa1, za2⟩ := RowTwo HRA2
              obtain ⟨cb0, cb1, fb0, fb1, zb2⟩ := RowTwo HRB2
              have HBZ : Hid (Below w.heap.size w wr) := Bel.call HBC.out (Nat.le_refl _) hbr.out
              have P1 : Hid (Below wr.heap.size wr wr.drew) := (Below.refl _ _).drew
              generalize toldT (M R.length) = NT at *
              go_wp2_with fail
              go_region_law (first | (go_simp; refine (HTo.out _).mono ?_; rintro e w4 ⟨rfl, hw4⟩; have Hb4 : Hid (Below wr.heap.size wr w4) := Bel.call P1.out (Nat.le_refl _) hw4; obtain ⟨ca0', ca1', fa0', fa1', za'⟩ := RowTwo (HRA2.later Hb4.out za2); obtain ⟨cb0', cb1', fb0', fb1', zb'⟩ := RowTwo (HRB2.later Hb4.out zb2)))
              all_goals
                have HBE : Hid (Below w.heap.size w w4) := Bel.call HBZ.out (Nat.le_refl _) Hb4.out
                clear hw4
                go_wp2
                refine bodyPost_ret (v := .tuple #[.string ⟨NT.toArray⟩, .agg #[.slice a1 nc c1, .slice a2 f.length c2]]) (by simp [results, Tryz.results23, go_sem, ca0', ca1', cb0', cb1', fa0', fa1', fb0', fb1']) rfl ⟨_, by rw [HTx.out], HNet.out _ ?_, ?_⟩
                all_goals repeat (first | with_reducible exact HBE.out | with_reducible refine Below.setCell ?_ (by simp) _ | with_reducible refine Below.drew ?_)
end Ev
end Go.Proofs.YtpnmmmlckdkcdakGreatDoor
