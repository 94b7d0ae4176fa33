/- Pieces of one walk, one text behind the other. -/
import Derived.Test.YtpnmmmlckdkcdakGreatDoorRLnA
/- The document's Line at 'bada'. -/
namespace Go.Proofs.YtpnmmmlckdkcdakGreatDoor
namespace Ev
open Go.RowKit Fr Ns Ld Fl
set_option linter.unusedSimpArgs false
set_option linter.unusedVariables false

set_option maxRecDepth 100000 in
set_option maxHeartbeats 8000000 in
theorem line_bad_add {Q : Nat → Prop} (f : Flows) (s : Txt) (v : Value) (w : World) (h : NetAt Q w v capsR f) (hf : RightF f) (hs : s.length ≤ 3000) (hr : readT s = true) (hfit : fitsT s = false) (hw0 : wordT s = tAdd) (hc : (numsT s).length = 0) :
    Calls Tryz.prog 23 #[v, .string ⟨s.toArray⟩] w fun e w' => ∃ x, e = .returned (.tuple #[.string ⟨(lineT f s).toArray⟩, x]) ∧ NetAt (fun b => Q b ∨ w.heap.size ≤ b) w' x capsR (lineF f s) ∧ Below w.heap.size w w' := by
  have HTx : Hid (lineT f s = tBad) := by show _ = _; rw [lineT, hfit]; rfl
  have HLF : lineF f s = f := by rw [lineF, hfit]; rfl
  rw [HLF]
  clear hfit HLF
  obtain ⟨W, hCut, hWl, hLl, hW0, hNum, hLb⟩ := line_parts hs hr
  rw [hw0] at hW0
  clear hw0
  have HCn : Hid ((numsT s).length = 0) := hc
  clear hc
  generalize numsT s = L at *
  have HC : Hid (∀ u : World, Calls Tryz.prog 22 #[.string ⟨s.toArray⟩, .int .u8 32] u fun e w' => ∃ v, e = .returned v ∧ StrsAt (fun b => u.heap.size ≤ b) w' v W ∧ Below u.heap.size u w') := hCut
  have HN : Hid (∀ i, i < L.length → ∀ u : World, Calls Tryz.prog 51 #[.string ⟨(W.getD (i + 1) []).toArray⟩] u fun e w' => e = .returned (.tuple #[.int .i64 (L.getD i 0), .bool true]) ∧ w' = u) := hNum
  have HLb : Hid (∀ x ∈ L, 0 ≤ x ∧ x ≤ 9999) := hLb
  have HF : Hid (f ≠ [] → ∀ u : World, Below w.heap.size w u → Calls Tryz.prog 52 #[v] u fun e w' => ∃ y z, e = .returned (.tuple #[y, z]) ∧ FracsAt (fun b => u.heap.size ≤ b) w' y (ratesR f) ∧ ListsAt (fun b => u.heap.size ≤ b) w' z (fill capsR f).2 ∧ Below u.heap.size u w') := fun hne u hu => RFill_any capsR f v u (h.later hu) (right_good hf hne) (by decide)
  have HNet : Hid (∀ u : World, Below w.heap.size w u → NetAt (fun b => Q b ∨ w.heap.size ≤ b) u v capsR f) := fun u hu => by
    obtain ⟨x1, x2, rfl, _⟩ := id h
    exact line_end h hu
  obtain ⟨v1, v2, rfl, h1, h2⟩ := id h
  have HNAt : Hid (NetAt Q w (.agg #[v1, v2]) capsR f) := h
  obtain ⟨a2, c2, e2, hm2⟩ : ∃ a2 c2, v2 = .slice a2 f.length c2 ∧ f.length ≤ 9223372036854775807 := by
    obtain ⟨a2, c2, e, hm, _⟩ := h2
    exact ⟨a2, c2, e, hm.2⟩
  obtain ⟨a1, c1, e1⟩ : ∃ a1 c1, v1 = .slice a1 capsR.length c1 := by
    obtain ⟨a1, c1, e, _⟩ := h1
    exact ⟨a1, c1, e⟩
  subst e2
  subst e1
  generalize capsR.length = nc at *
  obtain ⟨k0, hKI, hx0, hx1, hx2⟩ := info_parts infoInt
  clear hCut hNum hLb h h1 h2 hr hs
  go_enter Tryz.func23, Tryz.ntmps23
  go_wp2_with fail
  refine (HC.out _).mono ?_
  rintro e w1 ⟨vw, rfl, hvw, hw1⟩
  obtain ⟨aw, cw, rfl, hmw, hcw⟩ := id hvw
  have HW0 : Hid (∃ b off, aw = some ⟨b, off, none⟩ ∧ ∀ u, Below w1.heap.size w1 u → u.cell? ⟨b, off, none⟩ = some (.string ⟨#[97, 100, 100]⟩)) := by
    obtain ⟨b, off, e, hcc⟩ := strs_cells hvw 0 (by omega)
    refine ⟨b, off, e, fun u hu => ?_⟩
    have := hcc u hu
    rw [hW0] at this
    exact this
  have HWs : Hid (∀ i, i < L.length → ∃ b off, aw = some ⟨b, off, none⟩ ∧ ∀ u, Below w1.heap.size w1 u → u.cell? ⟨b, off + (i + 1), none⟩ = some (.string ⟨(W.getD (i + 1) []).toArray⟩)) := fun i hi => strs_cells hvw (i + 1) (by omega)
  have hsz1 : w.heap.size + 1 + 1 ≤ w1.heap.size := by have := hw1.size; simpa using this
  have HR0 : Hid (RowAt w1 w.heap.size 37 [.slice a1 nc c1, .slice a2 f.length c2]) := ((row_made w _ _ _ _ rfl rfl).alloc _).later hw1 (by simp <;> omega)
  have HR1 : Hid (RowAt w1 (w.heap.size + 1) 37 [.slice none 0 0, .slice none 0 0]) := (row_made (w.alloc (.cells #[.slice a1 nc c1, .slice a2 f.length c2] 37)) _ _ _ _ (by simp) rfl).later hw1 (by simp <;> omega)
  have HB1 : Hid (Below w.heap.size w w1) := (((Below.refl _ _).alloc (Nat.le_refl _) _).alloc (by simp) _).trans (hw1.mono (by simp; omega))
  have hmw1 := hmw.1
  rw [hWl] at hmw1 ⊢
  clear hvw hw1 hcw hmw hW0 hWl
  go_wp2_with fail
  go_loopw [7, 8, 9, 10] (fun s7 s8 _ _ wr => ∃ k : Nat, k ≤ L.length ∧ s8 = .int .i64 ((k : Int) + 1) ∧ Hid (wr.ownsRow w1.heap.size 3 1 s7 k ((L.take k).map (Value.int .i64))) ∧ Hid (Below w1.heap.size w1 wr)) (fun _ s8 _ _ _ => L.length + 1 - (intOf s8).toNat)
  case atStart => exact ⟨0, by omega, by go_num, ⟨rfl, .inl ⟨rfl, rfl⟩⟩, Below.refl _ _⟩
  case round =>
    obtain ⟨k, hk, rfl, ho, hbl⟩ := hrel
    obtain ⟨a7, c7, rfl⟩ := own_slice ho.out
    have hwz : w1.heap.size ≤ wr.heap.size := hbl.out.size
    by_cases hlt : k < L.length
    · obtain ⟨b, off, rfl, hcc⟩ := HWs.out k hlt
      have c0 := hcc _ hbl.out
      have HN1 : Hid (∀ u : World, Calls Tryz.prog 51 #[.string ⟨(W.getD (k + 1) []).toArray⟩] u fun e w' => e = .returned (.tuple #[.int .i64 (L.getD k 0), .bool true]) ∧ w' = u) := HN.out k hlt
      have HX : Hid ((L.take (k + 1)).map (Value.int .i64) = (L.take k).map (Value.int .i64) ++ [.int .i64 (L.getD k 0)]) := take_map_snoc _ L k hlt 0
      have HON : Hid (wr.ownsRow w1.heap.size 3 1 (.slice a7 k c7) k ((L.take k).map (Value.int .i64))) := ho
      clear hcc ho
      generalize (L.take k).map (Value.int .i64) = ys at *
      generalize L.getD k 0 = x at *
      generalize W.getD (k + 1) [] = tx at *
      have hc8 : ((k : Int) + 1) < ((L.length + 1 : Nat) : Int) := by omega
      have hk8 : ((k : Int) + 1).toNat = k + 1 := by omega
      have hk9 : IntKind.i64.wrap ((k : Int) + 1 + 1) = (k : Int) + 1 + 1 := by rw [IntKind.wrap_i64]; omega
      go_wp2_with fail
      refine (HN1.out _).mono ?_
      rintro e w2 ⟨rfl, rfl⟩
      go_wp2_with (at_builtin; go_must (refine wpList_append_own _ rfl _ _ 22 rfl w1.heap.size 3 k0 (.int .i64 0) 1 8 Tryz.underlying22 hKI hx0 hx1 hx2 rfl (by decide) _ _ _ rfl (HON.out.alloc _) ⟨_, 0, none⟩ 1 1 [.int .i64 x] rfl rfl (new1 _ _ _ _ ?c1) (by intro u hu; simp at hu; subst hu; rfl) (by unfold maxLen; omega) (by omega) ?c2 ?_))
      case c1 => simp
      case c2 => simp; omega
      intro v' wg hown hgrow _
      have HO2 : Hid (wg.ownsRow w1.heap.size 3 1 v' (k + 1) ((L.take (k + 1)).map (Value.int .i64))) := by rw [HX.out]; exact hown
      have HB2 : Hid (Below w1.heap.size w1 wg) := hbl.out.trans (grew1 hwz hgrow (fun k hk => (HON.out.lt k hk).1))
      clear hown hgrow
      go_wp2
      go_roundw
      case rel => exact ⟨k + 1, by omega, by go_num, HO2, HB2⟩
      case measure => simp [intOf]; omega
    · obtain rfl : k = L.length := by omega
      have HI : Hid (IntsAt (fun b => w1.heap.size ≤ b) wr (.slice a7 L.length c7) L) := ints_of_owns (base := w1.heap.size) (by omega) (by have := ho.out; rwa [List.take_length] at this) (fun g hg => hg)
      have HRa : Hid (RowAt wr w.heap.size 37 [.slice a1 nc c1, .slice a2 f.length c2]) := HR0.out.later hbl.out (by omega)
      have HRb : Hid (RowAt wr (w.heap.size + 1) 37 [.slice none 0 0, .slice none 0 0]) := HR1.out.later hbl.out (by omega)
      have HBr : Hid (Below w.heap.size w wr) := HB1.out.trans (hbl.out.mono (by omega))
      have hLc : L.length ≤ c7 := by obtain ⟨_, _, e, hm, _⟩ := HI.out; simp only [Value.slice.injEq] at e; obtain ⟨_, _, rfl⟩ := e; exact hm.1
      obtain ⟨bw, ow, rfl, hcw⟩ := HW0.out
      have cw0 := hcw _ hbl.out
      have hcl : ¬ (((L.length : Int) + 1) < ((L.length + 1 : Nat) : Int)) := by omega
      obtain ⟨ca0, ca1, fa0, fa1, za⟩ := RowTwo HRa.out
      clear HWs HW0 HN ho HR0 HR1
      clear hmw1 hwz
      have hcI : (L.length : Int) < 1 := by have := HCn.out; omega
      obtain ⟨cb0, cb1, fb0, fb1, zb⟩ := RowTwo HRb.out
      have HBE : Hid (Below w.heap.size w wr) := HBr
      have zne : w.heap.size ≠ w.heap.size + 1 := by omega
      go_wp2_with fail
      go_region
      go_wp2
      refine bodyPost_ret (v := .tuple #[.string ⟨#[98, 97, 100]⟩, .agg #[.slice a1 nc c1, .slice a2 f.length c2]]) (by simp [results, Tryz.results23, go_sem, ca0, ca1, cb0, cb1, fa0, fa1, fb0, fb1]) rfl ⟨_, by rw [HTx.out]; rfl, HNet.out _ ?_, ?_⟩
      all_goals repeat (first | with_reducible exact HBE.out | with_reducible refine Below.setCell ?_ (by simp) _ | with_reducible refine Below.drew ?_)
set_option maxRecDepth 100000 in
set_option maxHeartbeats 8000000 in
theorem line_bad_index {Q : Nat → Prop} (f : Flows) (s : Txt) (v : Value) (w : World) (h : NetAt Q w v capsR f) (hf : RightF f) (hs : s.length ≤ 3000) (hr : readT s = true) (hfit : fitsT s = false) (hw0 : wordT s = tIndex) (hc : (numsT s).length = 0) :
    Calls Tryz.prog 23 #[v, .string ⟨s.toArray⟩] w fun e w' => ∃ x, e = .returned (.tuple #[.string ⟨(lineT f s).toArray⟩, x]) ∧ NetAt (fun b => Q b ∨ w.heap.size ≤ b) w' x capsR (lineF f s) ∧ Below w.heap.size w w' := by
  have HTx : Hid (lineT f s = tBad) := by show _ = _; rw [lineT, hfit]; rfl
  have HLF : lineF f s = f := by rw [lineF, hfit]; rfl
  rw [HLF]
  clear hfit HLF
  obtain ⟨W, hCut, hWl, hLl, hW0, hNum, hLb⟩ := line_parts hs hr
  rw [hw0] at hW0
  clear hw0
  have HCn : Hid ((numsT s).length = 0) := hc
  clear hc
  generalize numsT s = L at *
  have HC : Hid (∀ u : World, Calls Tryz.prog 22 #[.string ⟨s.toArray⟩, .int .u8 32] u fun e w' => ∃ v, e = .returned v ∧ StrsAt (fun b => u.heap.size ≤ b) w' v W ∧ Below u.heap.size u w') := hCut
  have HN : Hid (∀ i, i < L.length → ∀ u : World, Calls Tryz.prog 51 #[.string ⟨(W.getD (i + 1) []).toArray⟩] u fun e w' => e = .returned (.tuple #[.int .i64 (L.getD i 0), .bool true]) ∧ w' = u) := hNum
  have HLb : Hid (∀ x ∈ L, 0 ≤ x ∧ x ≤ 9999) := hLb
  have HF : Hid (f ≠ [] → ∀ u : World, Below w.heap.size w u → Calls Tryz.prog 52 #[v] u fun e w' => ∃ y z, e = .returned (.tuple #[y, z]) ∧ FracsAt (fun b => u.heap.size ≤ b) w' y (ratesR f) ∧ ListsAt (fun b => u.heap.size ≤ b) w' z (fill capsR f).2 ∧ Below u.heap.size u w') := fun hne u hu => RFill_any capsR f v u (h.later hu) (right_good hf hne) (by decide)
  have HNet : Hid (∀ u : World, Below w.heap.size w u → NetAt (fun b => Q b ∨ w.heap.size ≤ b) u v capsR f) := fun u hu => by
    obtain ⟨x1, x2, rfl, _⟩ := id h
    exact line_end h hu
  obtain ⟨v1, v2, rfl, h1, h2⟩ := id h
  have HNAt : Hid (NetAt Q w (.agg #[v1, v2]) capsR f) := h
  obtain ⟨a2, c2, e2, hm2⟩ : ∃ a2 c2, v2 = .slice a2 f.length c2 ∧ f.length ≤ 9223372036854775807 := by
    obtain ⟨a2, c2, e, hm, _⟩ := h2
    exact ⟨a2, c2, e, hm.2⟩
  obtain ⟨a1, c1, e1⟩ : ∃ a1 c1, v1 = .slice a1 capsR.length c1 := by
    obtain ⟨a1, c1, e, _⟩ := h1
    exact ⟨a1, c1, e⟩
  subst e2
  subst e1
  generalize capsR.length = nc at *
  obtain ⟨k0, hKI, hx0, hx1, hx2⟩ := info_parts infoInt
  clear hCut hNum hLb h h1 h2 hr hs
  go_enter Tryz.func23, Tryz.ntmps23
  go_wp2_with fail
  refine (HC.out _).mono ?_
  rintro e w1 ⟨vw, rfl, hvw, hw1⟩
  obtain ⟨aw, cw, rfl, hmw, hcw⟩ := id hvw
  have HW0 : Hid (∃ b off, aw = some ⟨b, off, none⟩ ∧ ∀ u, Below w1.heap.size w1 u → u.cell? ⟨b, off, none⟩ = some (.string ⟨#[105, 110, 100, 101, 120]⟩)) := by
    obtain ⟨b, off, e, hcc⟩ := strs_cells hvw 0 (by omega)
    refine ⟨b, off, e, fun u hu => ?_⟩
    have := hcc u hu
    rw [hW0] at this
    exact this
  have HWs : Hid (∀ i, i < L.length → ∃ b off, aw = some ⟨b, off, none⟩ ∧ ∀ u, Below w1.heap.size w1 u → u.cell? ⟨b, off + (i + 1), none⟩ = some (.string ⟨(W.getD (i + 1) []).toArray⟩)) := fun i hi => strs_cells hvw (i + 1) (by omega)
  have hsz1 : w.heap.size + 1 + 1 ≤ w1.heap.size := by have := hw1.size; simpa using this
  have HR0 : Hid (RowAt w1 w.heap.size 37 [.slice a1 nc c1, .slice a2 f.length c2]) := ((row_made w _ _ _ _ rfl rfl).alloc _).later hw1 (by simp <;> omega)
  have HR1 : Hid (RowAt w1 (w.heap.size + 1) 37 [.slice none 0 0, .slice none 0 0]) := (row_made (w.alloc (.cells #[.slice a1 nc c1, .slice a2 f.length c2] 37)) _ _ _ _ (by simp) rfl).later hw1 (by simp <;> omega)
  have HB1 : Hid (Below w.heap.size w w1) := (((Below.refl _ _).alloc (Nat.le_refl _) _).alloc (by simp) _).trans (hw1.mono (by simp; omega))
  have hmw1 := hmw.1
  rw [hWl] at hmw1 ⊢
  clear hvw hw1 hcw hmw hW0 hWl
  go_wp2_with fail
  go_loopw [7, 8, 9, 10] (fun s7 s8 _ _ wr => ∃ k : Nat, k ≤ L.length ∧ s8 = .int .i64 ((k : Int) + 1) ∧ Hid (wr.ownsRow w1.heap.size 3 1 s7 k ((L.take k).map (Value.int .i64))) ∧ Hid (Below w1.heap.size w1 wr)) (fun _ s8 _ _ _ => L.length + 1 - (intOf s8).toNat)
  case atStart => exact ⟨0, by omega, by go_num, ⟨rfl, .inl ⟨rfl, rfl⟩⟩, Below.refl _ _⟩
  case round =>
    obtain ⟨k, hk, rfl, ho, hbl⟩ := hrel
    obtain ⟨a7, c7, rfl⟩ := own_slice ho.out
    have hwz : w1.heap.size ≤ wr.heap.size := hbl.out.size
    by_cases hlt : k < L.length
    · obtain ⟨b, off, rfl, hcc⟩ := HWs.out k hlt
      have c0 := hcc _ hbl.out
      have HN1 : Hid (∀ u : World, Calls Tryz.prog 51 #[.string ⟨(W.getD (k + 1) []).toArray⟩] u fun e w' => e = .returned (.tuple #[.int .i64 (L.getD k 0), .bool true]) ∧ w' = u) := HN.out k hlt
      have HX : Hid ((L.take (k + 1)).map (Value.int .i64) = (L.take k).map (Value.int .i64) ++ [.int .i64 (L.getD k 0)]) := take_map_snoc _ L k hlt 0
      have HON : Hid (wr.ownsRow w1.heap.size 3 1 (.slice a7 k c7) k ((L.take k).map (Value.int .i64))) := ho
      clear hcc ho
      generalize (L.take k).map (Value.int .i64) = ys at *
      generalize L.getD k 0 = x at *
      generalize W.getD (k + 1) [] = tx at *
      have hc8 : ((k : Int) + 1) < ((L.length + 1 : Nat) : Int) := by omega
      have hk8 : ((k : Int) + 1).toNat = k + 1 := by omega
      have hk9 : IntKind.i64.wrap ((k : Int) + 1 + 1) = (k : Int) + 1 + 1 := by rw [IntKind.wrap_i64]; omega
      go_wp2_with fail
      refine (HN1.out _).mono ?_
      rintro e w2 ⟨rfl, rfl⟩
      go_wp2_with (at_builtin; go_must (refine wpList_append_own _ rfl _ _ 22 rfl w1.heap.size 3 k0 (.int .i64 0) 1 8 Tryz.underlying22 hKI hx0 hx1 hx2 rfl (by decide) _ _ _ rfl (HON.out.alloc _) ⟨_, 0, none⟩ 1 1 [.int .i64 x] rfl rfl (new1 _ _ _ _ ?c1) (by intro u hu; simp at hu; subst hu; rfl) (by unfold maxLen; omega) (by omega) ?c2 ?_))
      case c1 => simp
      case c2 => simp; omega
      intro v' wg hown hgrow _
      have HO2 : Hid (wg.ownsRow w1.heap.size 3 1 v' (k + 1) ((L.take (k + 1)).map (Value.int .i64))) := by rw [HX.out]; exact hown
      have HB2 : Hid (Below w1.heap.size w1 wg) := hbl.out.trans (grew1 hwz hgrow (fun k hk => (HON.out.lt k hk).1))
      clear hown hgrow
      go_wp2
      go_roundw
      case rel => exact ⟨k + 1, by omega, by go_num, HO2, HB2⟩
      case measure => simp [intOf]; omega
    · obtain rfl : k = L.length := by omega
      have HI : Hid (IntsAt (fun b => w1.heap.size ≤ b) wr (.slice a7 L.length c7) L) := ints_of_owns (base := w1.heap.size) (by omega) (by have := ho.out; rwa [List.take_length] at this) (fun g hg => hg)
      have HRa : Hid (RowAt wr w.heap.size 37 [.slice a1 nc c1, .slice a2 f.length c2]) := HR0.out.later hbl.out (by omega)
      have HRb : Hid (RowAt wr (w.heap.size + 1) 37 [.slice none 0 0, .slice none 0 0]) := HR1.out.later hbl.out (by omega)
      have HBr : Hid (Below w.heap.size w wr) := HB1.out.trans (hbl.out.mono (by omega))
      have hLc : L.length ≤ c7 := by obtain ⟨_, _, e, hm, _⟩ := HI.out; simp only [Value.slice.injEq] at e; obtain ⟨_, _, rfl⟩ := e; exact hm.1
      obtain ⟨bw, ow, rfl, hcw⟩ := HW0.out
      have cw0 := hcw _ hbl.out
      have hcl : ¬ (((L.length : Int) + 1) < ((L.length + 1 : Nat) : Int)) := by omega
      obtain ⟨ca0, ca1, fa0, fa1, za⟩ := RowTwo HRa.out
      clear HWs HW0 HN ho HR0 HR1
      clear hmw1 hwz
      have hcI : (L.length : Int) < 1 := by have := HCn.out; omega
      obtain ⟨cb0, cb1, fb0, fb1, zb⟩ := RowTwo HRb.out
      have HBE : Hid (Below w.heap.size w wr) := HBr
      have zne : w.heap.size ≠ w.heap.size + 1 := by omega
      go_wp2_with fail
      go_region
      go_wp2
      refine bodyPost_ret (v := .tuple #[.string ⟨#[98, 97, 100]⟩, .agg #[.slice a1 nc c1, .slice a2 f.length c2]]) (by simp [results, Tryz.results23, go_sem, ca0, ca1, cb0, cb1, fa0, fa1, fb0, fb1]) rfl ⟨_, by rw [HTx.out]; rfl, HNet.out _ ?_, ?_⟩
      all_goals repeat (first | with_reducible exact HBE.out | with_reducible refine Below.setCell ?_ (by simp) _ | with_reducible refine Below.drew ?_)
set_option maxRecDepth 100000 in
set_option maxHeartbeats 8000000 in
theorem line_bad_drop0 {Q : Nat → Prop} (f : Flows) (s : Txt) (v : Value) (w : World) (h : NetAt Q w v capsR f) (hf : RightF f) (hs : s.length ≤ 3000) (hr : readT s = true) (hfit : fitsT s = false) (hw0 : wordT s = tDrop) (hc : (numsT s).length = 0) :
    Calls Tryz.prog 23 #[v, .string ⟨s.toArray⟩] w fun e w' => ∃ x, e = .returned (.tuple #[.string ⟨(lineT f s).toArray⟩, x]) ∧ NetAt (fun b => Q b ∨ w.heap.size ≤ b) w' x capsR (lineF f s) ∧ Below w.heap.size w w' := by
  have HTx : Hid (lineT f s = tBad) := by show _ = _; rw [lineT, hfit]; rfl
  have HLF : lineF f s = f := by rw [lineF, hfit]; rfl
  rw [HLF]
  clear hfit HLF
  obtain ⟨W, hCut, hWl, hLl, hW0, hNum, hLb⟩ := line_parts hs hr
  rw [hw0] at hW0
  clear hw0
  have HCn : Hid ((numsT s).length = 0) := hc
  clear hc
  generalize numsT s = L at *
  have HC : Hid (∀ u : World, Calls Tryz.prog 22 #[.string ⟨s.toArray⟩, .int .u8 32] u fun e w' => ∃ v, e = .returned v ∧ StrsAt (fun b => u.heap.size ≤ b) w' v W ∧ Below u.heap.size u w') := hCut
  have HN : Hid (∀ i, i < L.length → ∀ u : World, Calls Tryz.prog 51 #[.string ⟨(W.getD (i + 1) []).toArray⟩] u fun e w' => e = .returned (.tuple #[.int .i64 (L.getD i 0), .bool true]) ∧ w' = u) := hNum
  have HLb : Hid (∀ x ∈ L, 0 ≤ x ∧ x ≤ 9999) := hLb
  have HF : Hid (f ≠ [] → ∀ u : World, Below w.heap.size w u → Calls Tryz.prog 52 #[v] u fun e w' => ∃ y z, e = .returned (.tuple #[y, z]) ∧ FracsAt (fun b => u.heap.size ≤ b) w' y (ratesR f) ∧ ListsAt (fun b => u.heap.size ≤ b) w' z (fill capsR f).2 ∧ Below u.heap.size u w') := fun hne u hu => RFill_any capsR f v u (h.later hu) (right_good hf hne) (by decide)
  have HNet : Hid (∀ u : World, Below w.heap.size w u → NetAt (fun b => Q b ∨ w.heap.size ≤ b) u v capsR f) := fun u hu => by
    obtain ⟨x1, x2, rfl, _⟩ := id h
    exact line_end h hu
  obtain ⟨v1, v2, rfl, h1, h2⟩ := id h
  have HNAt : Hid (NetAt Q w (.agg #[v1, v2]) capsR f) := h
  obtain ⟨a2, c2, e2, hm2⟩ : ∃ a2 c2, v2 = .slice a2 f.length c2 ∧ f.length ≤ 9223372036854775807 := by
    obtain ⟨a2, c2, e, hm, _⟩ := h2
    exact ⟨a2, c2, e, hm.2⟩
  obtain ⟨a1, c1, e1⟩ : ∃ a1 c1, v1 = .slice a1 capsR.length c1 := by
    obtain ⟨a1, c1, e, _⟩ := h1
    exact ⟨a1, c1, e⟩
  subst e2
  subst e1
  generalize capsR.length = nc at *
  obtain ⟨k0, hKI, hx0, hx1, hx2⟩ := info_parts infoInt
  clear hCut hNum hLb h h1 h2 hr hs
  go_enter Tryz.func23, Tryz.ntmps23
  go_wp2_with fail
  refine (HC.out _).mono ?_
  rintro e w1 ⟨vw, rfl, hvw, hw1⟩
  obtain ⟨aw, cw, rfl, hmw, hcw⟩ := id hvw
  have HW0 : Hid (∃ b off, aw = some ⟨b, off, none⟩ ∧ ∀ u, Below w1.heap.size w1 u → u.cell? ⟨b, off, none⟩ = some (.string ⟨#[100, 114, 111, 112]⟩)) := by
    obtain ⟨b, off, e, hcc⟩ := strs_cells hvw 0 (by omega)
    refine ⟨b, off, e, fun u hu => ?_⟩
    have := hcc u hu
    rw [hW0] at this
    exact this
  have HWs : Hid (∀ i, i < L.length → ∃ b off, aw = some ⟨b, off, none⟩ ∧ ∀ u, Below w1.heap.size w1 u → u.cell? ⟨b, off + (i + 1), none⟩ = some (.string ⟨(W.getD (i + 1) []).toArray⟩)) := fun i hi => strs_cells hvw (i + 1) (by omega)
  have hsz1 : w.heap.size + 1 + 1 ≤ w1.heap.size := by have := hw1.size; simpa using this
  have HR0 : Hid (RowAt w1 w.heap.size 37 [.slice a1 nc c1, .slice a2 f.length c2]) := ((row_made w _ _ _ _ rfl rfl).alloc _).later hw1 (by simp <;> omega)
  have HR1 : Hid (RowAt w1 (w.heap.size + 1) 37 [.slice none 0 0, .slice none 0 0]) := (row_made (w.alloc (.cells #[.slice a1 nc c1, .slice a2 f.length c2] 37)) _ _ _ _ (by simp) rfl).later hw1 (by simp <;> omega)
  have HB1 : Hid (Below w.heap.size w w1) := (((Below.refl _ _).alloc (Nat.le_refl _) _).alloc (by simp) _).trans (hw1.mono (by simp; omega))
  have hmw1 := hmw.1
  rw [hWl] at hmw1 ⊢
  clear hvw hw1 hcw hmw hW0 hWl
  go_wp2_with fail
  go_loopw [7, 8, 9, 10] (fun s7 s8 _ _ wr => ∃ k : Nat, k ≤ L.length ∧ s8 = .int .i64 ((k : Int) + 1) ∧ Hid (wr.ownsRow w1.heap.size 3 1 s7 k ((L.take k).map (Value.int .i64))) ∧ Hid (Below w1.heap.size w1 wr)) (fun _ s8 _ _ _ => L.length + 1 - (intOf s8).toNat)
  case atStart => exact ⟨0, by omega, by go_num, ⟨rfl, .inl ⟨rfl, rfl⟩⟩, Below.refl _ _⟩
  case round =>
    obtain ⟨k, hk, rfl, ho, hbl⟩ := hrel
    obtain ⟨a7, c7, rfl⟩ := own_slice ho.out
    have hwz : w1.heap.size ≤ wr.heap.size := hbl.out.size
    by_cases hlt : k < L.length
    · obtain ⟨b, off, rfl, hcc⟩ := HWs.out k hlt
      have c0 := hcc _ hbl.out
      have HN1 : Hid (∀ u : World, Calls Tryz.prog 51 #[.string ⟨(W.getD (k + 1) []).toArray⟩] u fun e w' => e = .returned (.tuple #[.int .i64 (L.getD k 0), .bool true]) ∧ w' = u) := HN.out k hlt
      have HX : Hid ((L.take (k + 1)).map (Value.int .i64) = (L.take k).map (Value.int .i64) ++ [.int .i64 (L.getD k 0)]) := take_map_snoc _ L k hlt 0
      have HON : Hid (wr.ownsRow w1.heap.size 3 1 (.slice a7 k c7) k ((L.take k).map (Value.int .i64))) := ho
      clear hcc ho
      generalize (L.take k).map (Value.int .i64) = ys at *
      generalize L.getD k 0 = x at *
      generalize W.getD (k + 1) [] = tx at *
      have hc8 : ((k : Int) + 1) < ((L.length + 1 : Nat) : Int) := by omega
      have hk8 : ((k : Int) + 1).toNat = k + 1 := by omega
      have hk9 : IntKind.i64.wrap ((k : Int) + 1 + 1) = (k : Int) + 1 + 1 := by rw [IntKind.wrap_i64]; omega
      go_wp2_with fail
      refine (HN1.out _).mono ?_
      rintro e w2 ⟨rfl, rfl⟩
      go_wp2_with (at_builtin; go_must (refine wpList_append_own _ rfl _ _ 22 rfl w1.heap.size 3 k0 (.int .i64 0) 1 8 Tryz.underlying22 hKI hx0 hx1 hx2 rfl (by decide) _ _ _ rfl (HON.out.alloc _) ⟨_, 0, none⟩ 1 1 [.int .i64 x] rfl rfl (new1 _ _ _ _ ?c1) (by intro u hu; simp at hu; subst hu; rfl) (by unfold maxLen; omega) (by omega) ?c2 ?_))
      case c1 => simp
      case c2 => simp; omega
      intro v' wg hown hgrow _
      have HO2 : Hid (wg.ownsRow w1.heap.size 3 1 v' (k + 1) ((L.take (k + 1)).map (Value.int .i64))) := by rw [HX.out]; exact hown
      have HB2 : Hid (Below w1.heap.size w1 wg) := hbl.out.trans (grew1 hwz hgrow (fun k hk => (HON.out.lt k hk).1))
      clear hown hgrow
      go_wp2
      go_roundw
      case rel => exact ⟨k + 1, by omega, by go_num, HO2, HB2⟩
      case measure => simp [intOf]; omega
    · obtain rfl : k = L.length := by omega
      have HI : Hid (IntsAt (fun b => w1.heap.size ≤ b) wr (.slice a7 L.length c7) L) := ints_of_owns (base := w1.heap.size) (by omega) (by have := ho.out; rwa [List.take_length] at this) (fun g hg => hg)
      have HRa : Hid (RowAt wr w.heap.size 37 [.slice a1 nc c1, .slice a2 f.length c2]) := HR0.out.later hbl.out (by omega)
      have HRb : Hid (RowAt wr (w.heap.size + 1) 37 [.slice none 0 0, .slice none 0 0]) := HR1.out.later hbl.out (by omega)
      have HBr : Hid (Below w.heap.size w wr) := HB1.out.trans (hbl.out.mono (by omega))
      have hLc : L.length ≤ c7 := by obtain ⟨_, _, e, hm, _⟩ := HI.out; simp only [Value.slice.injEq] at e; obtain ⟨_, _, rfl⟩ := e; exact hm.1
      obtain ⟨bw, ow, rfl, hcw⟩ := HW0.out
      have cw0 := hcw _ hbl.out
      have hcl : ¬ (((L.length : Int) + 1) < ((L.length + 1 : Nat) : Int)) := by omega
      obtain ⟨ca0, ca1, fa0, fa1, za⟩ := RowTwo HRa.out
      clear HWs HW0 HN ho HR0 HR1
      clear hmw1 hwz
      have hcI : (L.length : Int) < 1 := by have := HCn.out; omega
      obtain ⟨cb0, cb1, fb0, fb1, zb⟩ := RowTwo HRb.out
      have HBE : Hid (Below w.heap.size w wr) := HBr
      have zne : w.heap.size ≠ w.heap.size + 1 := by omega
      go_wp2_with fail
      go_region
      go_wp2
      refine bodyPost_ret (v := .tuple #[.string ⟨#[98, 97, 100]⟩, .agg #[.slice a1 nc c1, .slice a2 f.length c2]]) (by simp [results, Tryz.results23, go_sem, ca0, ca1, cb0, cb1, fa0, fa1, fb0, fb1]) rfl ⟨_, by rw [HTx.out]; rfl, HNet.out _ ?_, ?_⟩
      all_goals repeat (first | with_reducible exact HBE.out | with_reducible refine Below.setCell ?_ (by simp) _ | with_reducible refine Below.drew ?_)
set_option maxRecDepth 100000 in
set_option maxHeartbeats 8000000 in
theorem line_bad_drop2 {Q : Nat → Prop} (f : Flows) (s : Txt) (v : Value) (w : World) (h : NetAt Q w v capsR f) (hf : RightF f) (hs : s.length ≤ 3000) (hr : readT s = true) (hfit : fitsT s = false) (hw0 : wordT s = tDrop) (hc : 1 < (numsT s).length) :
    Calls Tryz.prog 23 #[v, .string ⟨s.toArray⟩] w fun e w' => ∃ x, e = .returned (.tuple #[.string ⟨(lineT f s).toArray⟩, x]) ∧ NetAt (fun b => Q b ∨ w.heap.size ≤ b) w' x capsR (lineF f s) ∧ Below w.heap.size w w' := by
  have HTx : Hid (lineT f s = tBad) := by show _ = _; rw [lineT, hfit]; rfl
  have HLF : lineF f s = f := by rw [lineF, hfit]; rfl
  rw [HLF]
  clear hfit HLF
  obtain ⟨W, hCut, hWl, hLl, hW0, hNum, hLb⟩ := line_parts hs hr
  rw [hw0] at hW0
  clear hw0
  have HCn : Hid (1 < (numsT s).length) := hc
  clear hc
  generalize numsT s = L at *
  have HC : Hid (∀ u : World, Calls Tryz.prog 22 #[.string ⟨s.toArray⟩, .int .u8 32] u fun e w' => ∃ v, e = .returned v ∧ StrsAt (fun b => u.heap.size ≤ b) w' v W ∧ Below u.heap.size u w') := hCut
  have HN : Hid (∀ i, i < L.length → ∀ u : World, Calls Tryz.prog 51 #[.string ⟨(W.getD (i + 1) []).toArray⟩] u fun e w' => e = .returned (.tuple #[.int .i64 (L.getD i 0), .bool true]) ∧ w' = u) := hNum
  have HLb : Hid (∀ x ∈ L, 0 ≤ x ∧ x ≤ 9999) := hLb
  have HF : Hid (f ≠ [] → ∀ u : World, Below w.heap.size w u → Calls Tryz.prog 52 #[v] u fun e w' => ∃ y z, e = .returned (.tuple #[y, z]) ∧ FracsAt (fun b => u.heap.size ≤ b) w' y (ratesR f) ∧ ListsAt (fun b => u.heap.size ≤ b) w' z (fill capsR f).2 ∧ Below u.heap.size u w') := fun hne u hu => RFill_any capsR f v u (h.later hu) (right_good hf hne) (by decide)
  have HNet : Hid (∀ u : World, Below w.heap.size w u → NetAt (fun b => Q b ∨ w.heap.size ≤ b) u v capsR f) := fun u hu => by
    obtain ⟨x1, x2, rfl, _⟩ := id h
    exact line_end h hu
  obtain ⟨v1, v2, rfl, h1, h2⟩ := id h
  have HNAt : Hid (NetAt Q w (.agg #[v1, v2]) capsR f) := h
  obtain ⟨a2, c2, e2, hm2⟩ : ∃ a2 c2, v2 = .slice a2 f.length c2 ∧ f.length ≤ 9223372036854775807 := by
    obtain ⟨a2, c2, e, hm, _⟩ := h2
    exact ⟨a2, c2, e, hm.2⟩
  obtain ⟨a1, c1, e1⟩ : ∃ a1 c1, v1 = .slice a1 capsR.length c1 := by
    obtain ⟨a1, c1, e, _⟩ := h1
    exact ⟨a1, c1, e⟩
  subst e2
  subst e1
  generalize capsR.length = nc at *
  obtain ⟨k0, hKI, hx0, hx1, hx2⟩ := info_parts infoInt
  clear hCut hNum hLb h h1 h2 hr hs
  go_enter Tryz.func23, Tryz.ntmps23
  go_wp2_with fail
  refine (HC.out _).mono ?_
  rintro e w1 ⟨vw, rfl, hvw, hw1⟩
  obtain ⟨aw, cw, rfl, hmw, hcw⟩ := id hvw
  have HW0 : Hid (∃ b off, aw = some ⟨b, off, none⟩ ∧ ∀ u, Below w1.heap.size w1 u → u.cell? ⟨b, off, none⟩ = some (.string ⟨#[100, 114, 111, 112]⟩)) := by
    obtain ⟨b, off, e, hcc⟩ := strs_cells hvw 0 (by omega)
    refine ⟨b, off, e, fun u hu => ?_⟩
    have := hcc u hu
    rw [hW0] at this
    exact this
  have HWs : Hid (∀ i, i < L.length → ∃ b off, aw = some ⟨b, off, none⟩ ∧ ∀ u, Below w1.heap.size w1 u → u.cell? ⟨b, off + (i + 1), none⟩ = some (.string ⟨(W.getD (i + 1) []).toArray⟩)) := fun i hi => strs_cells hvw (i + 1) (by omega)
  have hsz1 : w.heap.size + 1 + 1 ≤ w1.heap.size := by have := hw1.size; simpa using this
  have HR0 : Hid (RowAt w1 w.heap.size 37 [.slice a1 nc c1, .slice a2 f.length c2]) := ((row_made w _ _ _ _ rfl rfl).alloc _).later hw1 (by simp <;> omega)
  have HR1 : Hid (RowAt w1 (w.heap.size + 1) 37 [.slice none 0 0, .slice none 0 0]) := (row_made (w.alloc (.cells #[.slice a1 nc c1, .slice a2 f.length c2] 37)) _ _ _ _ (by simp) rfl).later hw1 (by simp <;> omega)
  have HB1 : Hid (Below w.heap.size w w1) := (((Below.refl _ _).alloc (Nat.le_refl _) _).alloc (by simp) _).trans (hw1.mono (by simp; omega))
  have hmw1 := hmw.1
  rw [hWl] at hmw1 ⊢
  clear hvw hw1 hcw hmw hW0 hWl
  go_wp2_with fail
  go_loopw [7, 8, 9, 10] (fun s7 s8 _ _ wr => ∃ k : Nat, k ≤ L.length ∧ s8 = .int .i64 ((k : Int) + 1) ∧ Hid (wr.ownsRow w1.heap.size 3 1 s7 k ((L.take k).map (Value.int .i64))) ∧ Hid (Below w1.heap.size w1 wr)) (fun _ s8 _ _ _ => L.length + 1 - (intOf s8).toNat)
  case atStart => exact ⟨0, by omega, by go_num, ⟨rfl, .inl ⟨rfl, rfl⟩⟩, Below.refl _ _⟩
  case round =>
    obtain ⟨k, hk, rfl, ho, hbl⟩ := hrel
    obtain ⟨a7, c7, rfl⟩ := own_slice ho.out
    have hwz : w1.heap.size ≤ wr.heap.size := hbl.out.size
    by_cases hlt : k < L.length
    · obtain ⟨b, off, rfl, hcc⟩ := HWs.out k hlt
      have c0 := hcc _ hbl.out
      have HN1 : Hid (∀ u : World, Calls Tryz.prog 51 #[.string ⟨(W.getD (k + 1) []).toArray⟩] u fun e w' => e = .returned (.tuple #[.int .i64 (L.getD k 0), .bool true]) ∧ w' = u) := HN.out k hlt
      have HX : Hid ((L.take (k + 1)).map (Value.int .i64) = (L.take k).map (Value.int .i64) ++ [.int .i64 (L.getD k 0)]) := take_map_snoc _ L k hlt 0
      have HON : Hid (wr.ownsRow w1.heap.size 3 1 (.slice a7 k c7) k ((L.take k).map (Value.int .i64))) := ho
      clear hcc ho
      generalize (L.take k).map (Value.int .i64) = ys at *
      generalize L.getD k 0 = x at *
      generalize W.getD (k + 1) [] = tx at *
      have hc8 : ((k : Int) + 1) < ((L.length + 1 : Nat) : Int) := by omega
      have hk8 : ((k : Int) + 1).toNat = k + 1 := by omega
      have hk9 : IntKind.i64.wrap ((k : Int) + 1 + 1) = (k : Int) + 1 + 1 := by rw [IntKind.wrap_i64]; omega
      go_wp2_with fail
      refine (HN1.out _).mono ?_
      rintro e w2 ⟨rfl, rfl⟩
      go_wp2_with (at_builtin; go_must (refine wpList_append_own _ rfl _ _ 22 rfl w1.heap.size 3 k0 (.int .i64 0) 1 8 Tryz.underlying22 hKI hx0 hx1 hx2 rfl (by decide) _ _ _ rfl (HON.out.alloc _) ⟨_, 0, none⟩ 1 1 [.int .i64 x] rfl rfl (new1 _ _ _ _ ?c1) (by intro u hu; simp at hu; subst hu; rfl) (by unfold maxLen; omega) (by omega) ?c2 ?_))
      case c1 => simp
      case c2 => simp; omega
      intro v' wg hown hgrow _
      have HO2 : Hid (wg.ownsRow w1.heap.size 3 1 v' (k + 1) ((L.take (k + 1)).map (Value.int .i64))) := by rw [HX.out]; exact hown
      have HB2 : Hid (Below w1.heap.size w1 wg) := hbl.out.trans (grew1 hwz hgrow (fun k hk => (HON.out.lt k hk).1))
      clear hown hgrow
      go_wp2
      go_roundw
      case rel => exact ⟨k + 1, by omega, by go_num, HO2, HB2⟩
      case measure => simp [intOf]; omega
    · obtain rfl : k = L.length := by omega
      have HI : Hid (IntsAt (fun b => w1.heap.size ≤ b) wr (.slice a7 L.length c7) L) := ints_of_owns (base := w1.heap.size) (by omega) (by have := ho.out; rwa [List.take_length] at this) (fun g hg => hg)
      have HRa : Hid (RowAt wr w.heap.size 37 [.slice a1 nc c1, .slice a2 f.length c2]) := HR0.out.later hbl.out (by omega)
      have HRb : Hid (RowAt wr (w.heap.size + 1) 37 [.slice none 0 0, .slice none 0 0]) := HR1.out.later hbl.out (by omega)
      have HBr : Hid (Below w.heap.size w wr) := HB1.out.trans (hbl.out.mono (by omega))
      have hLc : L.length ≤ c7 := by obtain ⟨_, _, e, hm, _⟩ := HI.out; simp only [Value.slice.injEq] at e; obtain ⟨_, _, rfl⟩ := e; exact hm.1
      obtain ⟨bw, ow, rfl, hcw⟩ := HW0.out
      have cw0 := hcw _ hbl.out
      have hcl : ¬ (((L.length : Int) + 1) < ((L.length + 1 : Nat) : Int)) := by omega
      obtain ⟨ca0, ca1, fa0, fa1, za⟩ := RowTwo HRa.out
      clear HWs HW0 HN ho HR0 HR1
      clear hmw1 hwz
      have hcI : 1 < (L.length : Int) := by have := HCn.out; omega
      have hcJ : ¬ (L.length : Int) < 1 := by omega
      obtain ⟨cb0, cb1, fb0, fb1, zb⟩ := RowTwo HRb.out
      have HBE : Hid (Below w.heap.size w wr) := HBr
      have zne : w.heap.size ≠ w.heap.size + 1 := by omega
      go_wp2_with fail
      go_region
      go_wp2
      refine bodyPost_ret (v := .tuple #[.string ⟨#[98, 97, 100]⟩, .agg #[.slice a1 nc c1, .slice a2 f.length c2]]) (by simp [results, Tryz.results23, go_sem, ca0, ca1, cb0, cb1, fa0, fa1, fb0, fb1]) rfl ⟨_, by rw [HTx.out]; rfl, HNet.out _ ?_, ?_⟩
      all_goals repeat (first | with_reducible exact HBE.out | with_reducible refine Below.setCell ?_ (by simp) _ | with_reducible refine Below.drew ?_)
set_option maxRecDepth 100000 in
set_option maxHeartbeats 8000000 in
theorem line_bad_split {Q : Nat → Prop} (f : Flows) (s : Txt) (v : Value) (w : World) (h : NetAt Q w v capsR f) (hf : RightF f) (hs : s.length ≤ 3000) (hr : readT s = true) (hfit : fitsT s = false) (hw0 : wordT s = tSplit) (hc : (numsT s).length < 2) :
    Calls Tryz.prog 23 #[v, .string ⟨s.toArray⟩] w fun e w' => ∃ x, e = .returned (.tuple #[.string ⟨(lineT f s).toArray⟩, x]) ∧ NetAt (fun b => Q b ∨ w.heap.size ≤ b) w' x capsR (lineF f s) ∧ Below w.heap.size w w' := by
  have HTx : Hid (lineT f s = tBad) := by show _ = _; rw [lineT, hfit]; rfl
  have HLF : lineF f s = f := by rw [lineF, hfit]; rfl
  rw [HLF]
  clear hfit HLF
  obtain ⟨W, hCut, hWl, hLl, hW0, hNum, hLb⟩ := line_parts hs hr
  rw [hw0] at hW0
  clear hw0
  have HCn : Hid ((numsT s).length < 2) := hc
  clear hc
  generalize numsT s = L at *
  have HC : Hid (∀ u : World, Calls Tryz.prog 22 #[.string ⟨s.toArray⟩, .int .u8 32] u fun e w' => ∃ v, e = .returned v ∧ StrsAt (fun b => u.heap.size ≤ b) w' v W ∧ Below u.heap.size u w') := hCut
  have HN : Hid (∀ i, i < L.length → ∀ u : World, Calls Tryz.prog 51 #[.string ⟨(W.getD (i + 1) []).toArray⟩] u fun e w' => e = .returned (.tuple #[.int .i64 (L.getD i 0), .bool true]) ∧ w' = u) := hNum
  have HLb : Hid (∀ x ∈ L, 0 ≤ x ∧ x ≤ 9999) := hLb
  have HF : Hid (f ≠ [] → ∀ u : World, Below w.heap.size w u → Calls Tryz.prog 52 #[v] u fun e w' => ∃ y z, e = .returned (.tuple #[y, z]) ∧ FracsAt (fun b => u.heap.size ≤ b) w' y (ratesR f) ∧ ListsAt (fun b => u.heap.size ≤ b) w' z (fill capsR f).2 ∧ Below u.heap.size u w') := fun hne u hu => RFill_any capsR f v u (h.later hu) (right_good hf hne) (by decide)
  have HNet : Hid (∀ u : World, Below w.heap.size w u → NetAt (fun b => Q b ∨ w.heap.size ≤ b) u v capsR f) := fun u hu => by
    obtain ⟨x1, x2, rfl, _⟩ := id h
    exact line_end h hu
  obtain ⟨v1, v2, rfl, h1, h2⟩ := id h
  have HNAt : Hid (NetAt Q w (.agg #[v1, v2]) capsR f) := h
  obtain ⟨a2, c2, e2, hm2⟩ : ∃ a2 c2, v2 = .slice a2 f.length c2 ∧ f.length ≤ 9223372036854775807 := by
    obtain ⟨a2, c2, e, hm, _⟩ := h2
    exact ⟨a2, c2, e, hm.2⟩
  obtain ⟨a1, c1, e1⟩ : ∃ a1 c1, v1 = .slice a1 capsR.length c1 := by
    obtain ⟨a1, c1, e, _⟩ := h1
    exact ⟨a1, c1, e⟩
  subst e2
  subst e1
  generalize capsR.length = nc at *
  obtain ⟨k0, hKI, hx0, hx1, hx2⟩ := info_parts infoInt
  clear hCut hNum hLb h h1 h2 hr hs
  go_enter Tryz.func23, Tryz.ntmps23
  go_wp2_with fail
  refine (HC.out _).mono ?_
  rintro e w1 ⟨vw, rfl, hvw, hw1⟩
  obtain ⟨aw, cw, rfl, hmw, hcw⟩ := id hvw
  have HW0 : Hid (∃ b off, aw = some ⟨b, off, none⟩ ∧ ∀ u, Below w1.heap.size w1 u → u.cell? ⟨b, off, none⟩ = some (.string ⟨#[115, 112, 108, 105, 116]⟩)) := by
    obtain ⟨b, off, e, hcc⟩ := strs_cells hvw 0 (by omega)
    refine ⟨b, off, e, fun u hu => ?_⟩
    have := hcc u hu
    rw [hW0] at this
    exact this
  have HWs : Hid (∀ i, i < L.length → ∃ b off, aw = some ⟨b, off, none⟩ ∧ ∀ u, Below w1.heap.size w1 u → u.cell? ⟨b, off + (i + 1), none⟩ = some (.string ⟨(W.getD (i + 1) []).toArray⟩)) := fun i hi => strs_cells hvw (i + 1) (by omega)
  have hsz1 : w.heap.size + 1 + 1 ≤ w1.heap.size := by have := hw1.size; simpa using this
  have HR0 : Hid (RowAt w1 w.heap.size 37 [.slice a1 nc c1, .slice a2 f.length c2]) := ((row_made w _ _ _ _ rfl rfl).alloc _).later hw1 (by simp <;> omega)
  have HR1 : Hid (RowAt w1 (w.heap.size + 1) 37 [.slice none 0 0, .slice none 0 0]) := (row_made (w.alloc (.cells #[.slice a1 nc c1, .slice a2 f.length c2] 37)) _ _ _ _ (by simp) rfl).later hw1 (by simp <;> omega)
  have HB1 : Hid (Below w.heap.size w w1) := (((Below.refl _ _).alloc (Nat.le_refl _) _).alloc (by simp) _).trans (hw1.mono (by simp; omega))
  have hmw1 := hmw.1
  rw [hWl] at hmw1 ⊢
  clear hvw hw1 hcw hmw hW0 hWl
  go_wp2_with fail
  go_loopw [7, 8, 9, 10] (fun s7 s8 _ _ wr => ∃ k : Nat, k ≤ L.length ∧ s8 = .int .i64 ((k : Int) + 1) ∧ Hid (wr.ownsRow w1.heap.size 3 1 s7 k ((L.take k).map (Value.int .i64))) ∧ Hid (Below w1.heap.size w1 wr)) (fun _ s8 _ _ _ => L.length + 1 - (intOf s8).toNat)
  case atStart => exact ⟨0, by omega, by go_num, ⟨rfl, .inl ⟨rfl, rfl⟩⟩, Below.refl _ _⟩
  case round =>
    obtain ⟨k, hk, rfl, ho, hbl⟩ := hrel
    obtain ⟨a7, c7, rfl⟩ := own_slice ho.out
    have hwz : w1.heap.size ≤ wr.heap.size := hbl.out.size
    by_cases hlt : k < L.length
    · obtain ⟨b, off, rfl, hcc⟩ := HWs.out k hlt
      have c0 := hcc _ hbl.out
      have HN1 : Hid (∀ u : World, Calls Tryz.prog 51 #[.string ⟨(W.getD (k + 1) []).toArray⟩] u fun e w' => e = .returned (.tuple #[.int .i64 (L.getD k 0), .bool true]) ∧ w' = u) := HN.out k hlt
      have HX : Hid ((L.take (k + 1)).map (Value.int .i64) = (L.take k).map (Value.int .i64) ++ [.int .i64 (L.getD k 0)]) := take_map_snoc _ L k hlt 0
      have HON : Hid (wr.ownsRow w1.heap.size 3 1 (.slice a7 k c7) k ((L.take k).map (Value.int .i64))) := ho
      clear hcc ho
      generalize (L.take k).map (Value.int .i64) = ys at *
      generalize L.getD k 0 = x at *
      generalize W.getD (k + 1) [] = tx at *
      have hc8 : ((k : Int) + 1) < ((L.length + 1 : Nat) : Int) := by omega
      have hk8 : ((k : Int) + 1).toNat = k + 1 := by omega
      have hk9 : IntKind.i64.wrap ((k : Int) + 1 + 1) = (k : Int) + 1 + 1 := by rw [IntKind.wrap_i64]; omega
      go_wp2_with fail
      refine (HN1.out _).mono ?_
      rintro e w2 ⟨rfl, rfl⟩
      go_wp2_with (at_builtin; go_must (refine wpList_append_own _ rfl _ _ 22 rfl w1.heap.size 3 k0 (.int .i64 0) 1 8 Tryz.underlying22 hKI hx0 hx1 hx2 rfl (by decide) _ _ _ rfl (HON.out.alloc _) ⟨_, 0, none⟩ 1 1 [.int .i64 x] rfl rfl (new1 _ _ _ _ ?c1) (by intro u hu; simp at hu; subst hu; rfl) (by unfold maxLen; omega) (by omega) ?c2 ?_))
      case c1 => simp
      case c2 => simp; omega
      intro v' wg hown hgrow _
      have HO2 : Hid (wg.ownsRow w1.heap.size 3 1 v' (k + 1) ((L.take (k + 1)).map (Value.int .i64))) := by rw [HX.out]; exact hown
      have HB2 : Hid (Below w1.heap.size w1 wg) := hbl.out.trans (grew1 hwz hgrow (fun k hk => (HON.out.lt k hk).1))
      clear hown hgrow
      go_wp2
      go_roundw
      case rel => exact ⟨k + 1, by omega, by go_num, HO2, HB2⟩
      case measure => simp [intOf]; omega
    · obtain rfl : k = L.length := by omega
      have HI : Hid (IntsAt (fun b => w1.heap.size ≤ b) wr (.slice a7 L.length c7) L) := ints_of_owns (base := w1.heap.size) (by omega) (by have := ho.out; rwa [List.take_length] at this) (fun g hg => hg)
      have HRa : Hid (RowAt wr w.heap.size 37 [.slice a1 nc c1, .slice a2 f.length c2]) := HR0.out.later hbl.out (by omega)
      have HRb : Hid (RowAt wr (w.heap.size + 1) 37 [.slice none 0 0, .slice none 0 0]) := HR1.out.later hbl.out (by omega)
      have HBr : Hid (Below w.heap.size w wr) := HB1.out.trans (hbl.out.mono (by omega))
      have hLc : L.length ≤ c7 := by obtain ⟨_, _, e, hm, _⟩ := HI.out; simp only [Value.slice.injEq] at e; obtain ⟨_, _, rfl⟩ := e; exact hm.1
      obtain ⟨bw, ow, rfl, hcw⟩ := HW0.out
      have cw0 := hcw _ hbl.out
      have hcl : ¬ (((L.length : Int) + 1) < ((L.length + 1 : Nat) : Int)) := by omega
      obtain ⟨ca0, ca1, fa0, fa1, za⟩ := RowTwo HRa.out
      clear HWs HW0 HN ho HR0 HR1
      clear hmw1 hwz
      have hcI : (L.length : Int) < 2 := by have := HCn.out; omega
      obtain ⟨cb0, cb1, fb0, fb1, zb⟩ := RowTwo HRb.out
      have HBE : Hid (Below w.heap.size w wr) := HBr
      have zne : w.heap.size ≠ w.heap.size + 1 := by omega
      go_wp2_with fail
      go_region
      go_wp2
      refine bodyPost_ret (v := .tuple #[.string ⟨#[98, 97, 100]⟩, .agg #[.slice a1 nc c1, .slice a2 f.length c2]]) (by simp [results, Tryz.results23, go_sem, ca0, ca1, cb0, cb1, fa0, fa1, fb0, fb1]) rfl ⟨_, by rw [HTx.out]; rfl, HNet.out _ ?_, ?_⟩
      all_goals repeat (first | with_reducible exact HBE.out | with_reducible refine Below.setCell ?_ (by simp) _ | with_reducible refine Below.drew ?_)
end Ev
end Go.Proofs.YtpnmmmlckdkcdakGreatDoor

/- The document's Line at 'badb'. -/
namespace Go.Proofs.YtpnmmmlckdkcdakGreatDoor
namespace Ev
open Go.RowKit Fr Ns Ld Fl
set_option linter.unusedSimpArgs false
set_option linter.unusedVariables false

set_option maxRecDepth 100000 in
set_option maxHeartbeats 8000000 in
theorem line_bad_rates {Q : Nat → Prop} (f : Flows) (s : Txt) (v : Value) (w : World) (h : NetAt Q w v capsR f) (hf : RightF f) (hs : s.length ≤ 3000) (hr : readT s = true) (hfit : fitsT s = false) (hw0 : wordT s = tRates) (hc : 0 < (numsT s).length) :
    Calls Tryz.prog 23 #[v, .string ⟨s.toArray⟩] w fun e w' => ∃ x, e = .returned (.tuple #[.string ⟨(lineT f s).toArray⟩, x]) ∧ NetAt (fun b => Q b ∨ w.heap.size ≤ b) w' x capsR (lineF f s) ∧ Below w.heap.size w w' := by
  have HTx : Hid (lineT f s = tBad) := by show _ = _; rw [lineT, hfit]; rfl
  have HLF : lineF f s = f := by rw [lineF, hfit]; rfl
  rw [HLF]
  clear hfit HLF
  obtain ⟨W, hCut, hWl, hLl, hW0, hNum, hLb⟩ := line_parts hs hr
  rw [hw0] at hW0
  clear hw0
  have HCn : Hid (0 < (numsT s).length) := hc
  clear hc
  generalize numsT s = L at *
  have HC : Hid (∀ u : World, Calls Tryz.prog 22 #[.string ⟨s.toArray⟩, .int .u8 32] u fun e w' => ∃ v, e = .returned v ∧ StrsAt (fun b => u.heap.size ≤ b) w' v W ∧ Below u.heap.size u w') := hCut
  have HN : Hid (∀ i, i < L.length → ∀ u : World, Calls Tryz.prog 51 #[.string ⟨(W.getD (i + 1) []).toArray⟩] u fun e w' => e = .returned (.tuple #[.int .i64 (L.getD i 0), .bool true]) ∧ w' = u) := hNum
  have HLb : Hid (∀ x ∈ L, 0 ≤ x ∧ x ≤ 9999) := hLb
  have HF : Hid (f ≠ [] → ∀ u : World, Below w.heap.size w u → Calls Tryz.prog 52 #[v] u fun e w' => ∃ y z, e = .returned (.tuple #[y, z]) ∧ FracsAt (fun b => u.heap.size ≤ b) w' y (ratesR f) ∧ ListsAt (fun b => u.heap.size ≤ b) w' z (fill capsR f).2 ∧ Below u.heap.size u w') := fun hne u hu => RFill_any capsR f v u (h.later hu) (right_good hf hne) (by decide)
  have HNet : Hid (∀ u : World, Below w.heap.size w u → NetAt (fun b => Q b ∨ w.heap.size ≤ b) u v capsR f) := fun u hu => by
    obtain ⟨x1, x2, rfl, _⟩ := id h
    exact line_end h hu
  obtain ⟨v1, v2, rfl, h1, h2⟩ := id h
  have HNAt : Hid (NetAt Q w (.agg #[v1, v2]) capsR f) := h
  obtain ⟨a2, c2, e2, hm2⟩ : ∃ a2 c2, v2 = .slice a2 f.length c2 ∧ f.length ≤ 9223372036854775807 := by
    obtain ⟨a2, c2, e, hm, _⟩ := h2
    exact ⟨a2, c2, e, hm.2⟩
  obtain ⟨a1, c1, e1⟩ : ∃ a1 c1, v1 = .slice a1 capsR.length c1 := by
    obtain ⟨a1, c1, e, _⟩ := h1
    exact ⟨a1, c1, e⟩
  subst e2
  subst e1
  generalize capsR.length = nc at *
  obtain ⟨k0, hKI, hx0, hx1, hx2⟩ := info_parts infoInt
  clear hCut hNum hLb h h1 h2 hr hs
  go_enter Tryz.func23, Tryz.ntmps23
  go_wp2_with fail
  refine (HC.out _).mono ?_
  rintro e w1 ⟨vw, rfl, hvw, hw1⟩
  obtain ⟨aw, cw, rfl, hmw, hcw⟩ := id hvw
  have HW0 : Hid (∃ b off, aw = some ⟨b, off, none⟩ ∧ ∀ u, Below w1.heap.size w1 u → u.cell? ⟨b, off, none⟩ = some (.string ⟨#[114, 97, 116, 101, 115]⟩)) := by
    obtain ⟨b, off, e, hcc⟩ := strs_cells hvw 0 (by omega)
    refine ⟨b, off, e, fun u hu => ?_⟩
    have := hcc u hu
    rw [hW0] at this
    exact this
  have HWs : Hid (∀ i, i < L.length → ∃ b off, aw = some ⟨b, off, none⟩ ∧ ∀ u, Below w1.heap.size w1 u → u.cell? ⟨b, off + (i + 1), none⟩ = some (.string ⟨(W.getD (i + 1) []).toArray⟩)) := fun i hi => strs_cells hvw (i + 1) (by omega)
  have hsz1 : w.heap.size + 1 + 1 ≤ w1.heap.size := by have := hw1.size; simpa using this
  have HR0 : Hid (RowAt w1 w.heap.size 37 [.slice a1 nc c1, .slice a2 f.length c2]) := ((row_made w _ _ _ _ rfl rfl).alloc _).later hw1 (by simp <;> omega)
  have HR1 : Hid (RowAt w1 (w.heap.size + 1) 37 [.slice none 0 0, .slice none 0 0]) := (row_made (w.alloc (.cells #[.slice a1 nc c1, .slice a2 f.length c2] 37)) _ _ _ _ (by simp) rfl).later hw1 (by simp <;> omega)
  have HB1 : Hid (Below w.heap.size w w1) := (((Below.refl _ _).alloc (Nat.le_refl _) _).alloc (by simp) _).trans (hw1.mono (by simp; omega))
  have hmw1 := hmw.1
  rw [hWl] at hmw1 ⊢
  clear hvw hw1 hcw hmw hW0 hWl
  go_wp2_with fail
  go_loopw [7, 8, 9, 10] (fun s7 s8 _ _ wr => ∃ k : Nat, k ≤ L.length ∧ s8 = .int .i64 ((k : Int) + 1) ∧ Hid (wr.ownsRow w1.heap.size 3 1 s7 k ((L.take k).map (Value.int .i64))) ∧ Hid (Below w1.heap.size w1 wr)) (fun _ s8 _ _ _ => L.length + 1 - (intOf s8).toNat)
  case atStart => exact ⟨0, by omega, by go_num, ⟨rfl, .inl ⟨rfl, rfl⟩⟩, Below.refl _ _⟩
  case round =>
    obtain ⟨k, hk, rfl, ho, hbl⟩ := hrel
    obtain ⟨a7, c7, rfl⟩ := own_slice ho.out
    have hwz : w1.heap.size ≤ wr.heap.size := hbl.out.size
    by_cases hlt : k < L.length
    · obtain ⟨b, off, rfl, hcc⟩ := HWs.out k hlt
      have c0 := hcc _ hbl.out
      have HN1 : Hid (∀ u : World, Calls Tryz.prog 51 #[.string ⟨(W.getD (k + 1) []).toArray⟩] u fun e w' => e = .returned (.tuple #[.int .i64 (L.getD k 0), .bool true]) ∧ w' = u) := HN.out k hlt
      have HX : Hid ((L.take (k + 1)).map (Value.int .i64) = (L.take k).map (Value.int .i64) ++ [.int .i64 (L.getD k 0)]) := take_map_snoc _ L k hlt 0
      have HON : Hid (wr.ownsRow w1.heap.size 3 1 (.slice a7 k c7) k ((L.take k).map (Value.int .i64))) := ho
      clear hcc ho
      generalize (L.take k).map (Value.int .i64) = ys at *
      generalize L.getD k 0 = x at *
      generalize W.getD (k + 1) [] = tx at *
      have hc8 : ((k : Int) + 1) < ((L.length + 1 : Nat) : Int) := by omega
      have hk8 : ((k : Int) + 1).toNat = k + 1 := by omega
      have hk9 : IntKind.i64.wrap ((k : Int) + 1 + 1) = (k : Int) + 1 + 1 := by rw [IntKind.wrap_i64]; omega
      go_wp2_with fail
      refine (HN1.out _).mono ?_
      rintro e w2 ⟨rfl, rfl⟩
      go_wp2_with (at_builtin; go_must (refine wpList_append_own _ rfl _ _ 22 rfl w1.heap.size 3 k0 (.int .i64 0) 1 8 Tryz.underlying22 hKI hx0 hx1 hx2 rfl (by decide) _ _ _ rfl (HON.out.alloc _) ⟨_, 0, none⟩ 1 1 [.int .i64 x] rfl rfl (new1 _ _ _ _ ?c1) (by intro u hu; simp at hu; subst hu; rfl) (by unfold maxLen; omega) (by omega) ?c2 ?_))
      case c1 => simp
      case c2 => simp; omega
      intro v' wg hown hgrow _
      have HO2 : Hid (wg.ownsRow w1.heap.size 3 1 v' (k + 1) ((L.take (k + 1)).map (Value.int .i64))) := by rw [HX.out]; exact hown
      have HB2 : Hid (Below w1.heap.size w1 wg) := hbl.out.trans (grew1 hwz hgrow (fun k hk => (HON.out.lt k hk).1))
      clear hown hgrow
      go_wp2
      go_roundw
      case rel => exact ⟨k + 1, by omega, by go_num, HO2, HB2⟩
      case measure => simp [intOf]; omega
    · obtain rfl : k = L.length := by omega
      have HI : Hid (IntsAt (fun b => w1.heap.size ≤ b) wr (.slice a7 L.length c7) L) := ints_of_owns (base := w1.heap.size) (by omega) (by have := ho.out; rwa [List.take_length] at this) (fun g hg => hg)
      have HRa : Hid (RowAt wr w.heap.size 37 [.slice a1 nc c1, .slice a2 f.length c2]) := HR0.out.later hbl.out (by omega)
      have HRb : Hid (RowAt wr (w.heap.size + 1) 37 [.slice none 0 0, .slice none 0 0]) := HR1.out.later hbl.out (by omega)
      have HBr : Hid (Below w.heap.size w wr) := HB1.out.trans (hbl.out.mono (by omega))
      have hLc : L.length ≤ c7 := by obtain ⟨_, _, e, hm, _⟩ := HI.out; simp only [Value.slice.injEq] at e; obtain ⟨_, _, rfl⟩ := e; exact hm.1
      obtain ⟨bw, ow, rfl, hcw⟩ := HW0.out
      have cw0 := hcw _ hbl.out
      have hcl : ¬ (((L.length : Int) + 1) < ((L.length + 1 : Nat) : Int)) := by omega
      obtain ⟨ca0, ca1, fa0, fa1, za⟩ := RowTwo HRa.out
      clear HWs HW0 HN ho HR0 HR1
      clear hmw1 hwz
      have hcI : 0 < (L.length : Int) := by have := HCn.out; omega
      have hcJ : ¬ (L.length : Int) < 0 := by omega
      obtain ⟨cb0, cb1, fb0, fb1, zb⟩ := RowTwo HRb.out
      have HBE : Hid (Below w.heap.size w wr) := HBr
      have zne : w.heap.size ≠ w.heap.size + 1 := by omega
      go_wp2_with fail
      go_region
      go_wp2
      refine bodyPost_ret (v := .tuple #[.string ⟨#[98, 97, 100]⟩, .agg #[.slice a1 nc c1, .slice a2 f.length c2]]) (by simp [results, Tryz.results23, go_sem, ca0, ca1, cb0, cb1, fa0, fa1, fb0, fb1]) rfl ⟨_, by rw [HTx.out]; rfl, HNet.out _ ?_, ?_⟩
      all_goals repeat (first | with_reducible exact HBE.out | with_reducible refine Below.setCell ?_ (by simp) _ | with_reducible refine Below.drew ?_)
set_option maxRecDepth 100000 in
set_option maxHeartbeats 8000000 in
theorem line_bad_least {Q : Nat → Prop} (f : Flows) (s : Txt) (v : Value) (w : World) (h : NetAt Q w v capsR f) (hf : RightF f) (hs : s.length ≤ 3000) (hr : readT s = true) (hfit : fitsT s = false) (hw0 : wordT s = tLeast) (hc : 0 < (numsT s).length) :
    Calls Tryz.prog 23 #[v, .string ⟨s.toArray⟩] w fun e w' => ∃ x, e = .returned (.tuple #[.string ⟨(lineT f s).toArray⟩, x]) ∧ NetAt (fun b => Q b ∨ w.heap.size ≤ b) w' x capsR (lineF f s) ∧ Below w.heap.size w w' := by
  have HTx : Hid (lineT f s = tBad) := by show _ = _; rw [lineT, hfit]; rfl
  have HLF : lineF f s = f := by rw [lineF, hfit]; rfl
  rw [HLF]
  clear hfit HLF
  obtain ⟨W, hCut, hWl, hLl, hW0, hNum, hLb⟩ := line_parts hs hr
  rw [hw0] at hW0
  clear hw0
  have HCn : Hid (0 < (numsT s).length) := hc
  clear hc
  generalize numsT s = L at *
  have HC : Hid (∀ u : World, Calls Tryz.prog 22 #[.string ⟨s.toArray⟩, .int .u8 32] u fun e w' => ∃ v, e = .returned v ∧ StrsAt (fun b => u.heap.size ≤ b) w' v W ∧ Below u.heap.size u w') := hCut
  have HN : Hid (∀ i, i < L.length → ∀ u : World, Calls Tryz.prog 51 #[.string ⟨(W.getD (i + 1) []).toArray⟩] u fun e w' => e = .returned (.tuple #[.int .i64 (L.getD i 0), .bool true]) ∧ w' = u) := hNum
  have HLb : Hid (∀ x ∈ L, 0 ≤ x ∧ x ≤ 9999) := hLb
  have HF : Hid (f ≠ [] → ∀ u : World, Below w.heap.size w u → Calls Tryz.prog 52 #[v] u fun e w' => ∃ y z, e = .returned (.tuple #[y, z]) ∧ FracsAt (fun b => u.heap.size ≤ b) w' y (ratesR f) ∧ ListsAt (fun b => u.heap.size ≤ b) w' z (fill capsR f).2 ∧ Below u.heap.size u w') := fun hne u hu => RFill_any capsR f v u (h.later hu) (right_good hf hne) (by decide)
  have HNet : Hid (∀ u : World, Below w.heap.size w u → NetAt (fun b => Q b ∨ w.heap.size ≤ b) u v capsR f) := fun u hu => by
    obtain ⟨x1, x2, rfl, _⟩ := id h
    exact line_end h hu
  obtain ⟨v1, v2, rfl, h1, h2⟩ := id h
  have HNAt : Hid (NetAt Q w (.agg #[v1, v2]) capsR f) := h
  obtain ⟨a2, c2, e2, hm2⟩ : ∃ a2 c2, v2 = .slice a2 f.length c2 ∧ f.length ≤ 9223372036854775807 := by
    obtain ⟨a2, c2, e, hm, _⟩ := h2
    exact ⟨a2, c2, e, hm.2⟩
  obtain ⟨a1, c1, e1⟩ : ∃ a1 c1, v1 = .slice a1 capsR.length c1 := by
    obtain ⟨a1, c1, e, _⟩ := h1
    exact ⟨a1, c1, e⟩
  subst e2
  subst e1
  generalize capsR.length = nc at *
  obtain ⟨k0, hKI, hx0, hx1, hx2⟩ := info_parts infoInt
  clear hCut hNum hLb h h1 h2 hr hs
  go_enter Tryz.func23, Tryz.ntmps23
  go_wp2_with fail
  refine (HC.out _).mono ?_
  rintro e w1 ⟨vw, rfl, hvw, hw1⟩
  obtain ⟨aw, cw, rfl, hmw, hcw⟩ := id hvw
  have HW0 : Hid (∃ b off, aw = some ⟨b, off, none⟩ ∧ ∀ u, Below w1.heap.size w1 u → u.cell? ⟨b, off, none⟩ = some (.string ⟨#[108, 101, 97, 115, 116]⟩)) := by
    obtain ⟨b, off, e, hcc⟩ := strs_cells hvw 0 (by omega)
    refine ⟨b, off, e, fun u hu => ?_⟩
    have := hcc u hu
    rw [hW0] at this
    exact this
  have HWs : Hid (∀ i, i < L.length → ∃ b off, aw = some ⟨b, off, none⟩ ∧ ∀ u, Below w1.heap.size w1 u → u.cell? ⟨b, off + (i + 1), none⟩ = some (.string ⟨(W.getD (i + 1) []).toArray⟩)) := fun i hi => strs_cells hvw (i + 1) (by omega)
  have hsz1 : w.heap.size + 1 + 1 ≤ w1.heap.size := by have := hw1.size; simpa using this
  have HR0 : Hid (RowAt w1 w.heap.size 37 [.slice a1 nc c1, .slice a2 f.length c2]) := ((row_made w _ _ _ _ rfl rfl).alloc _).later hw1 (by simp <;> omega)
  have HR1 : Hid (RowAt w1 (w.heap.size + 1) 37 [.slice none 0 0, .slice none 0 0]) := (row_made (w.alloc (.cells #[.slice a1 nc c1, .slice a2 f.length c2] 37)) _ _ _ _ (by simp) rfl).later hw1 (by simp <;> omega)
  have HB1 : Hid (Below w.heap.size w w1) := (((Below.refl _ _).alloc (Nat.le_refl _) _).alloc (by simp) _).trans (hw1.mono (by simp; omega))
  have hmw1 := hmw.1
  rw [hWl] at hmw1 ⊢
  clear hvw hw1 hcw hmw hW0 hWl
  go_wp2_with fail
  go_loopw [7, 8, 9, 10] (fun s7 s8 _ _ wr => ∃ k : Nat, k ≤ L.length ∧ s8 = .int .i64 ((k : Int) + 1) ∧ Hid (wr.ownsRow w1.heap.size 3 1 s7 k ((L.take k).map (Value.int .i64))) ∧ Hid (Below w1.heap.size w1 wr)) (fun _ s8 _ _ _ => L.length + 1 - (intOf s8).toNat)
  case atStart => exact ⟨0, by omega, by go_num, ⟨rfl, .inl ⟨rfl, rfl⟩⟩, Below.refl _ _⟩
  case round =>
    obtain ⟨k, hk, rfl, ho, hbl⟩ := hrel
    obtain ⟨a7, c7, rfl⟩ := own_slice ho.out
    have hwz : w1.heap.size ≤ wr.heap.size := hbl.out.size
    by_cases hlt : k < L.length
    · obtain ⟨b, off, rfl, hcc⟩ := HWs.out k hlt
      have c0 := hcc _ hbl.out
      have HN1 : Hid (∀ u : World, Calls Tryz.prog 51 #[.string ⟨(W.getD (k + 1) []).toArray⟩] u fun e w' => e = .returned (.tuple #[.int .i64 (L.getD k 0), .bool true]) ∧ w' = u) := HN.out k hlt
      have HX : Hid ((L.take (k + 1)).map (Value.int .i64) = (L.take k).map (Value.int .i64) ++ [.int .i64 (L.getD k 0)]) := take_map_snoc _ L k hlt 0
      have HON : Hid (wr.ownsRow w1.heap.size 3 1 (.slice a7 k c7) k ((L.take k).map (Value.int .i64))) := ho
      clear hcc ho
      generalize (L.take k).map (Value.int .i64) = ys at *
      generalize L.getD k 0 = x at *
      generalize W.getD (k + 1) [] = tx at *
      have hc8 : ((k : Int) + 1) < ((L.length + 1 : Nat) : Int) := by omega
      have hk8 : ((k : Int) + 1).toNat = k + 1 := by omega
      have hk9 : IntKind.i64.wrap ((k : Int) + 1 + 1) = (k : Int) + 1 + 1 := by rw [IntKind.wrap_i64]; omega
      go_wp2_with fail
      refine (HN1.out _).mono ?_
      rintro e w2 ⟨rfl, rfl⟩
      go_wp2_with (at_builtin; go_must (refine wpList_append_own _ rfl _ _ 22 rfl w1.heap.size 3 k0 (.int .i64 0) 1 8 Tryz.underlying22 hKI hx0 hx1 hx2 rfl (by decide) _ _ _ rfl (HON.out.alloc _) ⟨_, 0, none⟩ 1 1 [.int .i64 x] rfl rfl (new1 _ _ _ _ ?c1) (by intro u hu; simp at hu; subst hu; rfl) (by unfold maxLen; omega) (by omega) ?c2 ?_))
      case c1 => simp
      case c2 => simp; omega
      intro v' wg hown hgrow _
      have HO2 : Hid (wg.ownsRow w1.heap.size 3 1 v' (k + 1) ((L.take (k + 1)).map (Value.int .i64))) := by rw [HX.out]; exact hown
      have HB2 : Hid (Below w1.heap.size w1 wg) := hbl.out.trans (grew1 hwz hgrow (fun k hk => (HON.out.lt k hk).1))
      clear hown hgrow
      go_wp2
      go_roundw
      case rel => exact ⟨k + 1, by omega, by go_num, HO2, HB2⟩
      case measure => simp [intOf]; omega
    · obtain rfl : k = L.length := by omega
      have HI : Hid (IntsAt (fun b => w1.heap.size ≤ b) wr (.slice a7 L.length c7) L) := ints_of_owns (base := w1.heap.size) (by omega) (by have := ho.out; rwa [List.take_length] at this) (fun g hg => hg)
      have HRa : Hid (RowAt wr w.heap.size 37 [.slice a1 nc c1, .slice a2 f.length c2]) := HR0.out.later hbl.out (by omega)
      have HRb : Hid (RowAt wr (w.heap.size + 1) 37 [.slice none 0 0, .slice none 0 0]) := HR1.out.later hbl.out (by omega)
      have HBr : Hid (Below w.heap.size w wr) := HB1.out.trans (hbl.out.mono (by omega))
      have hLc : L.length ≤ c7 := by obtain ⟨_, _, e, hm, _⟩ := HI.out; simp only [Value.slice.injEq] at e; obtain ⟨_, _, rfl⟩ := e; exact hm.1
      obtain ⟨bw, ow, rfl, hcw⟩ := HW0.out
      have cw0 := hcw _ hbl.out
      have hcl : ¬ (((L.length : Int) + 1) < ((L.length + 1 : Nat) : Int)) := by omega
      obtain ⟨ca0, ca1, fa0, fa1, za⟩ := RowTwo HRa.out
      clear HWs HW0 HN ho HR0 HR1
      clear hmw1 hwz
      have hcI : 0 < (L.length : Int) := by have := HCn.out; omega
      have hcJ : ¬ (L.length : Int) < 0 := by omega
      obtain ⟨cb0, cb1, fb0, fb1, zb⟩ := RowTwo HRb.out
      have HBE : Hid (Below w.heap.size w wr) := HBr
      have zne : w.heap.size ≠ w.heap.size + 1 := by omega
      go_wp2_with fail
      go_region
      go_wp2
      refine bodyPost_ret (v := .tuple #[.string ⟨#[98, 97, 100]⟩, .agg #[.slice a1 nc c1, .slice a2 f.length c2]]) (by simp [results, Tryz.results23, go_sem, ca0, ca1, cb0, cb1, fa0, fa1, fb0, fb1]) rfl ⟨_, by rw [HTx.out]; rfl, HNet.out _ ?_, ?_⟩
      all_goals repeat (first | with_reducible exact HBE.out | with_reducible refine Below.setCell ?_ (by simp) _ | with_reducible refine Below.drew ?_)
set_option maxRecDepth 100000 in
set_option maxHeartbeats 8000000 in
theorem line_bad_word {Q : Nat → Prop} (f : Flows) (s : Txt) (v : Value) (w : World) (h : NetAt Q w v capsR f) (hf : RightF f) (hs : s.length ≤ 3000) (hr : readT s = true) (hfit : fitsT s = false) (x : Txt) (hw0 : wordT s = x) (hn1 : x ≠ tAdd) (hn2 : x ≠ tIndex) (hn3 : x ≠ tDrop) (hn4 : x ≠ tRates) (hn5 : x ≠ tLeast) (hn6 : x ≠ tSplit) (hc : True) :
    Calls Tryz.prog 23 #[v, .string ⟨s.toArray⟩] w fun e w' => ∃ x, e = .returned (.tuple #[.string ⟨(lineT f s).toArray⟩, x]) ∧ NetAt (fun b => Q b ∨ w.heap.size ≤ b) w' x capsR (lineF f s) ∧ Below w.heap.size w w' := by
  have HTx : Hid (lineT f s = tBad) := by show _ = _; rw [lineT, hfit]; rfl
  have HLF : lineF f s = f := by rw [lineF, hfit]; rfl
  rw [HLF]
  clear hfit HLF
  obtain ⟨W, hCut, hWl, hLl, hW0, hNum, hLb⟩ := line_parts hs hr
  rw [hw0] at hW0
  clear hw0
  have HCn : Hid (True) := hc
  clear hc
  generalize numsT s = L at *
  have HC : Hid (∀ u : World, Calls Tryz.prog 22 #[.string ⟨s.toArray⟩, .int .u8 32] u fun e w' => ∃ v, e = .returned v ∧ StrsAt (fun b => u.heap.size ≤ b) w' v W ∧ Below u.heap.size u w') := hCut
  have HN : Hid (∀ i, i < L.length → ∀ u : World, Calls Tryz.prog 51 #[.string ⟨(W.getD (i + 1) []).toArray⟩] u fun e w' => e = .returned (.tuple #[.int .i64 (L.getD i 0), .bool true]) ∧ w' = u) := hNum
  have HLb : Hid (∀ x ∈ L, 0 ≤ x ∧ x ≤ 9999) := hLb
  have HF : Hid (f ≠ [] → ∀ u : World, Below w.heap.size w u → Calls Tryz.prog 52 #[v] u fun e w' => ∃ y z, e = .returned (.tuple #[y, z]) ∧ FracsAt (fun b => u.heap.size ≤ b) w' y (ratesR f) ∧ ListsAt (fun b => u.heap.size ≤ b) w' z (fill capsR f).2 ∧ Below u.heap.size u w') := fun hne u hu => RFill_any capsR f v u (h.later hu) (right_good hf hne) (by decide)
  have HNet : Hid (∀ u : World, Below w.heap.size w u → NetAt (fun b => Q b ∨ w.heap.size ≤ b) u v capsR f) := fun u hu => by
    obtain ⟨x1, x2, rfl, _⟩ := id h
    exact line_end h hu
  obtain ⟨v1, v2, rfl, h1, h2⟩ := id h
  have HNAt : Hid (NetAt Q w (.agg #[v1, v2]) capsR f) := h
  obtain ⟨a2, c2, e2, hm2⟩ : ∃ a2 c2, v2 = .slice a2 f.length c2 ∧ f.length ≤ 9223372036854775807 := by
    obtain ⟨a2, c2, e, hm, _⟩ := h2
    exact ⟨a2, c2, e, hm.2⟩
  obtain ⟨a1, c1, e1⟩ : ∃ a1 c1, v1 = .slice a1 capsR.length c1 := by
    obtain ⟨a1, c1, e, _⟩ := h1
    exact ⟨a1, c1, e⟩
  subst e2
  subst e1
  generalize capsR.length = nc at *
  obtain ⟨k0, hKI, hx0, hx1, hx2⟩ := info_parts infoInt
  clear hCut hNum hLb h h1 h2 hr hs
  go_enter Tryz.func23, Tryz.ntmps23
  go_wp2_with fail
  refine (HC.out _).mono ?_
  rintro e w1 ⟨vw, rfl, hvw, hw1⟩
  obtain ⟨aw, cw, rfl, hmw, hcw⟩ := id hvw
  have HW0 : Hid (∃ b off, aw = some ⟨b, off, none⟩ ∧ ∀ u, Below w1.heap.size w1 u → u.cell? ⟨b, off, none⟩ = some (.string ⟨x.toArray⟩)) := by
    obtain ⟨b, off, e, hcc⟩ := strs_cells hvw 0 (by omega)
    refine ⟨b, off, e, fun u hu => ?_⟩
    have := hcc u hu
    rw [hW0] at this
    exact this
  have HWs : Hid (∀ i, i < L.length → ∃ b off, aw = some ⟨b, off, none⟩ ∧ ∀ u, Below w1.heap.size w1 u → u.cell? ⟨b, off + (i + 1), none⟩ = some (.string ⟨(W.getD (i + 1) []).toArray⟩)) := fun i hi => strs_cells hvw (i + 1) (by omega)
  have hsz1 : w.heap.size + 1 + 1 ≤ w1.heap.size := by have := hw1.size; simpa using this
  have HR0 : Hid (RowAt w1 w.heap.size 37 [.slice a1 nc c1, .slice a2 f.length c2]) := ((row_made w _ _ _ _ rfl rfl).alloc _).later hw1 (by simp <;> omega)
  have HR1 : Hid (RowAt w1 (w.heap.size + 1) 37 [.slice none 0 0, .slice none 0 0]) := (row_made (w.alloc (.cells #[.slice a1 nc c1, .slice a2 f.length c2] 37)) _ _ _ _ (by simp) rfl).later hw1 (by simp <;> omega)
  have HB1 : Hid (Below w.heap.size w w1) := (((Below.refl _ _).alloc (Nat.le_refl _) _).alloc (by simp) _).trans (hw1.mono (by simp; omega))
  have hmw1 := hmw.1
  rw [hWl] at hmw1 ⊢
  clear hvw hw1 hcw hmw hW0 hWl
  go_wp2_with fail
  go_loopw [7, 8, 9, 10] (fun s7 s8 _ _ wr => ∃ k : Nat, k ≤ L.length ∧ s8 = .int .i64 ((k : Int) + 1) ∧ Hid (wr.ownsRow w1.heap.size 3 1 s7 k ((L.take k).map (Value.int .i64))) ∧ Hid (Below w1.heap.size w1 wr)) (fun _ s8 _ _ _ => L.length + 1 - (intOf s8).toNat)
  case atStart => exact ⟨0, by omega, by go_num, ⟨rfl, .inl ⟨rfl, rfl⟩⟩, Below.refl _ _⟩
  case round =>
    obtain ⟨k, hk, rfl, ho, hbl⟩ := hrel
    obtain ⟨a7, c7, rfl⟩ := own_slice ho.out
    have hwz : w1.heap.size ≤ wr.heap.size := hbl.out.size
    by_cases hlt : k < L.length
    · obtain ⟨b, off, rfl, hcc⟩ := HWs.out k hlt
      have c0 := hcc _ hbl.out
      have HN1 : Hid (∀ u : World, Calls Tryz.prog 51 #[.string ⟨(W.getD (k + 1) []).toArray⟩] u fun e w' => e = .returned (.tuple #[.int .i64 (L.getD k 0), .bool true]) ∧ w' = u) := HN.out k hlt
      have HX : Hid ((L.take (k + 1)).map (Value.int .i64) = (L.take k).map (Value.int .i64) ++ [.int .i64 (L.getD k 0)]) := take_map_snoc _ L k hlt 0
      have HON : Hid (wr.ownsRow w1.heap.size 3 1 (.slice a7 k c7) k ((L.take k).map (Value.int .i64))) := ho
      clear hcc ho
      generalize (L.take k).map (Value.int .i64) = ys at *
      generalize L.getD k 0 = x at *
      generalize W.getD (k + 1) [] = tx at *
      have hc8 : ((k : Int) + 1) < ((L.length + 1 : Nat) : Int) := by omega
      have hk8 : ((k : Int) + 1).toNat = k + 1 := by omega
      have hk9 : IntKind.i64.wrap ((k : Int) + 1 + 1) = (k : Int) + 1 + 1 := by rw [IntKind.wrap_i64]; omega
      go_wp2_with fail
      refine (HN1.out _).mono ?_
      rintro e w2 ⟨rfl, rfl⟩
      go_wp2_with (at_builtin; go_must (refine wpList_append_own _ rfl _ _ 22 rfl w1.heap.size 3 k0 (.int .i64 0) 1 8 Tryz.underlying22 hKI hx0 hx1 hx2 rfl (by decide) _ _ _ rfl (HON.out.alloc _) ⟨_, 0, none⟩ 1 1 [.int .i64 x] rfl rfl (new1 _ _ _ _ ?c1) (by intro u hu; simp at hu; subst hu; rfl) (by unfold maxLen; omega) (by omega) ?c2 ?_))
      case c1 => simp
      case c2 => simp; omega
      intro v' wg hown hgrow _
      have HO2 : Hid (wg.ownsRow w1.heap.size 3 1 v' (k + 1) ((L.take (k + 1)).map (Value.int .i64))) := by rw [HX.out]; exact hown
      have HB2 : Hid (Below w1.heap.size w1 wg) := hbl.out.trans (grew1 hwz hgrow (fun k hk => (HON.out.lt k hk).1))
      clear hown hgrow
      go_wp2
      go_roundw
      case rel => exact ⟨k + 1, by omega, by go_num, HO2, HB2⟩
      case measure => simp [intOf]; omega
    · obtain rfl : k = L.length := by omega
      have HI : Hid (IntsAt (fun b => w1.heap.size ≤ b) wr (.slice a7 L.length c7) L) := ints_of_owns (base := w1.heap.size) (by omega) (by have := ho.out; rwa [List.take_length] at this) (fun g hg => hg)
      have HRa : Hid (RowAt wr w.heap.size 37 [.slice a1 nc c1, .slice a2 f.length c2]) := HR0.out.later hbl.out (by omega)
      have HRb : Hid (RowAt wr (w.heap.size + 1) 37 [.slice none 0 0, .slice none 0 0]) := HR1.out.later hbl.out (by omega)
      have HBr : Hid (Below w.heap.size w wr) := HB1.out.trans (hbl.out.mono (by omega))
      have hLc : L.length ≤ c7 := by obtain ⟨_, _, e, hm, _⟩ := HI.out; simp only [Value.slice.injEq] at e; obtain ⟨_, _, rfl⟩ := e; exact hm.1
      obtain ⟨bw, ow, rfl, hcw⟩ := HW0.out
      have cw0 := hcw _ hbl.out
      have hcl : ¬ (((L.length : Int) + 1) < ((L.length + 1 : Nat) : Int)) := by omega
      obtain ⟨ca0, ca1, fa0, fa1, za⟩ := RowTwo HRa.out
      clear HWs HW0 HN ho HR0 HR1
      clear hmw1 hwz
      have hq1 : (x == ([97, 100, 100] : List UInt8)) = false := beq_eq_false_iff_ne.2 (show x ≠ [97, 100, 100] from hn1)
      have hq2 : (x == ([105, 110, 100, 101, 120] : List UInt8)) = false := beq_eq_false_iff_ne.2 (show x ≠ [105, 110, 100, 101, 120] from hn2)
      have hq3 : (x == ([100, 114, 111, 112] : List UInt8)) = false := beq_eq_false_iff_ne.2 (show x ≠ [100, 114, 111, 112] from hn3)
      have hq4 : (x == ([114, 97, 116, 101, 115] : List UInt8)) = false := beq_eq_false_iff_ne.2 (show x ≠ [114, 97, 116, 101, 115] from hn4)
      have hq5 : (x == ([108, 101, 97, 115, 116] : List UInt8)) = false := beq_eq_false_iff_ne.2 (show x ≠ [108, 101, 97, 115, 116] from hn5)
      have hq6 : (x == ([115, 112, 108, 105, 116] : List UInt8)) = false := beq_eq_false_iff_ne.2 (show x ≠ [115, 112, 108, 105, 116] from hn6)
      clear hn1 hn2 hn3 hn4 hn5 hn6
      obtain ⟨cb0, cb1, fb0, fb1, zb⟩ := RowTwo HRb.out
      have HBE : Hid (Below w.heap.size w wr) := HBr
      have zne : w.heap.size ≠ w.heap.size + 1 := by omega
      go_wp2_with fail
      go_region
      go_wp2
      refine bodyPost_ret (v := .tuple #[.string ⟨#[98, 97, 100]⟩, .agg #[.slice a1 nc c1, .slice a2 f.length c2]]) (by simp [results, Tryz.results23, go_sem, ca0, ca1, cb0, cb1, fa0, fa1, fb0, fb1]) rfl ⟨_, by rw [HTx.out]; rfl, HNet.out _ ?_, ?_⟩
      all_goals repeat (first | with_reducible exact HBE.out | with_reducible refine Below.setCell ?_ (by simp) _ | with_reducible refine Below.drew ?_)
end Ev
end Go.Proofs.YtpnmmmlckdkcdakGreatDoor

/- The document's Line at 'badn'. -/
namespace Go.Proofs.YtpnmmmlckdkcdakGreatDoor
namespace Ev
open Go.RowKit Fr Ns Ld Fl
set_option linter.unusedSimpArgs false
set_option linter.unusedVariables false

theorem line_partsB {s : Txt} (hs : s.length ≤ 3000) (hr : readT s = false) : ∃ (W : List Txt) (L : List Int) (O : Nat → Bool), (∀ u : World, Calls Tryz.prog 22 #[.string ⟨s.toArray⟩, .int .u8 32] u fun e w' => ∃ v, e = .returned v ∧ StrsAt (fun b => u.heap.size ≤ b) w' v W ∧ Below u.heap.size u w') ∧ W.length = L.length + 1 ∧ L.length ≤ 3000 ∧
    (∀ i, i < L.length → ∀ u : World, Calls Tryz.prog 51 #[.string ⟨(W.getD (i + 1) []).toArray⟩] u fun e w' => e = .returned (.tuple #[.int .i64 (L.getD i 0), .bool (O i)]) ∧ w' = u) ∧ ∃ j, j < L.length ∧ O j = false := by
  have hl := cutB_length 32 s
  have hc := cutB_cons 32 s
  have hlen : (cutB 32 s).length = (cutB 32 s).tail.length + 1 := by rw [hc]; simp
  have hpl : ∀ x ∈ cutB 32 s, x.length ≤ 3000 := fun x hx => Nat.le_trans (cutB_small hx) hs
  refine ⟨cutB 32 s, (cutB 32 s).tail.map numN, fun i => numOk ((cutB 32 s).tail.getD i []), fun u => RCut_any s 32 u (by omega), by simpa using hlen, by rw [List.length_map]; omega, fun i hi u => ?_, ?_⟩
  · have hi' : i < (cutB 32 s).tail.length := by simpa using hi
    have e1 : (cutB 32 s).getD (i + 1) [] = (cutB 32 s).tail.getD i [] := by rw [hc]; simp
    have e2 : ((cutB 32 s).tail.map numN).getD i 0 = numN ((cutB 32 s).tail.getD i []) := by
      rw [List.getD, List.getElem?_map, List.getD, List.getElem?_eq_getElem hi']; rfl
    have hm : (cutB 32 s).tail.getD i [] ∈ (cutB 32 s).tail := getD_mem _ i hi' []
    rw [e1, e2]
    exact RNumber_any ((cutB 32 s).tail.getD i []) u (by have := hpl _ (List.mem_of_mem_tail hm); omega)
  · unfold readT at hr
    obtain ⟨x, hx, hxo⟩ := List.all_eq_false.1 hr
    obtain ⟨j, hj, rfl⟩ := List.mem_iff_getElem.1 hx
    refine ⟨j, by simpa using hj, ?_⟩
    show numOk ((cutB 32 s).tail.getD j []) = false
    rw [List.getD, List.getElem?_eq_getElem hj, Option.getD_some]
    simpa using hxo

set_option maxRecDepth 100000 in
set_option maxHeartbeats 8000000 in
theorem line_bad_num {Q : Nat → Prop} (f : Flows) (s : Txt) (v : Value) (w : World) (h : NetAt Q w v capsR f) (hf : RightF f) (hs : s.length ≤ 3000) (hr : readT s = false) :
    Calls Tryz.prog 23 #[v, .string ⟨s.toArray⟩] w fun e w' => ∃ x, e = .returned (.tuple #[.string ⟨(lineT f s).toArray⟩, x]) ∧ NetAt (fun b => Q b ∨ w.heap.size ≤ b) w' x capsR (lineF f s) ∧ Below w.heap.size w w' := by
  have HTx : Hid (lineT f s = tBad) := by show _ = _; rw [lineT, fitsT, hr]; rfl
  have HLF : lineF f s = f := by rw [lineF, fitsT, hr]; rfl
  rw [HLF]
  clear HLF
  obtain ⟨W, L, O, hCut, hWl, hLl, hNum, hOx⟩ := line_partsB hs hr
  have HOx : Hid (∃ j, j < L.length ∧ O j = false) := hOx
  clear hOx
  have HC : Hid (∀ u : World, Calls Tryz.prog 22 #[.string ⟨s.toArray⟩, .int .u8 32] u fun e w' => ∃ v, e = .returned v ∧ StrsAt (fun b => u.heap.size ≤ b) w' v W ∧ Below u.heap.size u w') := hCut
  have HN : Hid (∀ i, i < L.length → ∀ u : World, Calls Tryz.prog 51 #[.string ⟨(W.getD (i + 1) []).toArray⟩] u fun e w' => e = .returned (.tuple #[.int .i64 (L.getD i 0), .bool (O i)]) ∧ w' = u) := hNum
  have HF : Hid (f ≠ [] → ∀ u : World, Below w.heap.size w u → Calls Tryz.prog 52 #[v] u fun e w' => ∃ y z, e = .returned (.tuple #[y, z]) ∧ FracsAt (fun b => u.heap.size ≤ b) w' y (ratesR f) ∧ ListsAt (fun b => u.heap.size ≤ b) w' z (fill capsR f).2 ∧ Below u.heap.size u w') := fun hne u hu => RFill_any capsR f v u (h.later hu) (right_good hf hne) (by decide)
  have HNet : Hid (∀ u : World, Below w.heap.size w u → NetAt (fun b => Q b ∨ w.heap.size ≤ b) u v capsR f) := fun u hu => by
    obtain ⟨x1, x2, rfl, _⟩ := id h
    exact line_end h hu
  obtain ⟨v1, v2, rfl, h1, h2⟩ := id h
  have HNAt : Hid (NetAt Q w (.agg #[v1, v2]) capsR f) := h
  obtain ⟨a2, c2, e2, hm2⟩ : ∃ a2 c2, v2 = .slice a2 f.length c2 ∧ f.length ≤ 9223372036854775807 := by
    obtain ⟨a2, c2, e, hm, _⟩ := h2
    exact ⟨a2, c2, e, hm.2⟩
  obtain ⟨a1, c1, e1⟩ : ∃ a1 c1, v1 = .slice a1 capsR.length c1 := by
    obtain ⟨a1, c1, e, _⟩ := h1
    exact ⟨a1, c1, e⟩
  subst e2
  subst e1
  generalize capsR.length = nc at *
  obtain ⟨k0, hKI, hx0, hx1, hx2⟩ := info_parts infoInt
  clear hCut hNum h h1 h2 hr hs
  go_enter Tryz.func23, Tryz.ntmps23
  go_wp2_with fail
  refine (HC.out _).mono ?_
  rintro e w1 ⟨vw, rfl, hvw, hw1⟩
  obtain ⟨aw, cw, rfl, hmw, hcw⟩ := id hvw
  have HWs : Hid (∀ i, i < L.length → ∃ b off, aw = some ⟨b, off, none⟩ ∧ ∀ u, Below w1.heap.size w1 u → u.cell? ⟨b, off + (i + 1), none⟩ = some (.string ⟨(W.getD (i + 1) []).toArray⟩)) := fun i hi => strs_cells hvw (i + 1) (by omega)
  have hsz1 : w.heap.size + 1 + 1 ≤ w1.heap.size := by have := hw1.size; simpa using this
  have HR0 : Hid (RowAt w1 w.heap.size 37 [.slice a1 nc c1, .slice a2 f.length c2]) := ((row_made w _ _ _ _ rfl rfl).alloc _).later hw1 (by simp <;> omega)
  have HR1 : Hid (RowAt w1 (w.heap.size + 1) 37 [.slice none 0 0, .slice none 0 0]) := (row_made (w.alloc (.cells #[.slice a1 nc c1, .slice a2 f.length c2] 37)) _ _ _ _ (by simp) rfl).later hw1 (by simp <;> omega)
  have HB1 : Hid (Below w.heap.size w w1) := (((Below.refl _ _).alloc (Nat.le_refl _) _).alloc (by simp) _).trans (hw1.mono (by simp; omega))
  have hmw1 := hmw.1
  rw [hWl] at hmw1 ⊢
  clear hvw hw1 hcw hmw hWl
  go_wp2_with fail
  go_loopw [7, 8, 9, 10] (fun s7 s8 _ _ wr => ∃ k : Nat, k ≤ L.length ∧ s8 = .int .i64 ((k : Int) + 1) ∧ Hid (wr.ownsRow w1.heap.size 3 1 s7 k ((L.take k).map (Value.int .i64))) ∧ Hid (Below w1.heap.size w1 wr) ∧ Hid (∀ j, j < k → O j = true)) (fun _ s8 _ _ _ => L.length + 1 - (intOf s8).toNat)
  case atStart => exact ⟨0, by omega, by go_num, ⟨rfl, .inl ⟨rfl, rfl⟩⟩, Below.refl _ _, fun j hj => absurd hj (by omega)⟩
  case round =>
    obtain ⟨k, hk, rfl, ho, hbl, hall⟩ := hrel
    obtain ⟨a7, c7, rfl⟩ := own_slice ho.out
    have hwz : w1.heap.size ≤ wr.heap.size := hbl.out.size
    by_cases hlt : k < L.length
    · obtain ⟨b, off, rfl, hcc⟩ := HWs.out k hlt
      have c0 := hcc _ hbl.out
      have HN1 : Hid (∀ u : World, Calls Tryz.prog 51 #[.string ⟨(W.getD (k + 1) []).toArray⟩] u fun e w' => e = .returned (.tuple #[.int .i64 (L.getD k 0), .bool (O k)]) ∧ w' = u) := HN.out k hlt
      cases hO : O k with
      | true =>
        rw [hO] at HN1
        have HAl : Hid (∀ j, j < k + 1 → O j = true) := fun j hj => by
          rcases Nat.lt_succ_iff_lt_or_eq.1 hj with h2 | rfl
          · exact hall.out j h2
          · exact hO
        clear hO
        have HX : Hid ((L.take (k + 1)).map (Value.int .i64) = (L.take k).map (Value.int .i64) ++ [.int .i64 (L.getD k 0)]) := take_map_snoc _ L k hlt 0
        have HON : Hid (wr.ownsRow w1.heap.size 3 1 (.slice a7 k c7) k ((L.take k).map (Value.int .i64))) := ho
        clear hcc ho
        generalize (L.take k).map (Value.int .i64) = ys at *
        generalize L.getD k 0 = x at *
        generalize W.getD (k + 1) [] = tx at *
        have hc8 : ((k : Int) + 1) < ((L.length + 1 : Nat) : Int) := by omega
        have hk8 : ((k : Int) + 1).toNat = k + 1 := by omega
        have hk9 : IntKind.i64.wrap ((k : Int) + 1 + 1) = (k : Int) + 1 + 1 := by rw [IntKind.wrap_i64]; omega
        go_wp2_with fail
        refine (HN1.out _).mono ?_
        rintro e w2 ⟨rfl, rfl⟩
        go_wp2_with (at_builtin; go_must (refine wpList_append_own _ rfl _ _ 22 rfl w1.heap.size 3 k0 (.int .i64 0) 1 8 Tryz.underlying22 hKI hx0 hx1 hx2 rfl (by decide) _ _ _ rfl (HON.out.alloc _) ⟨_, 0, none⟩ 1 1 [.int .i64 x] rfl rfl (new1 _ _ _ _ ?c1) (by intro u hu; simp at hu; subst hu; rfl) (by unfold maxLen; omega) (by omega) ?c2 ?_))
        case c1 => simp
        case c2 => simp; omega
        intro v' wg hown hgrow _
        have HO2 : Hid (wg.ownsRow w1.heap.size 3 1 v' (k + 1) ((L.take (k + 1)).map (Value.int .i64))) := by rw [HX.out]; exact hown
        have HB2 : Hid (Below w1.heap.size w1 wg) := hbl.out.trans (grew1 hwz hgrow (fun k hk => (HON.out.lt k hk).1))
        clear hown hgrow
        go_wp2
        go_roundw
        case rel => exact ⟨k + 1, by omega, by go_num, HO2, HB2, HAl⟩
        case measure => simp [intOf]; omega
      | false =>
        rw [hO] at HN1
        have HRa : Hid (RowAt wr w.heap.size 37 [.slice a1 nc c1, .slice a2 f.length c2]) := HR0.out.later hbl.out (by omega)
        have HRb : Hid (RowAt wr (w.heap.size + 1) 37 [.slice none 0 0, .slice none 0 0]) := HR1.out.later hbl.out (by omega)
        have HBE : Hid (Below w.heap.size w wr) := HB1.out.trans (hbl.out.mono (by omega))
        obtain ⟨ca0, ca1, fa0, fa1, za⟩ := RowTwo HRa.out
        obtain ⟨cb0, cb1, fb0, fb1, zb⟩ := RowTwo HRb.out
        have zne : w.heap.size ≠ w.heap.size + 1 := by omega
        clear hO hcc ho
        generalize L.getD k 0 = x at *
        generalize W.getD (k + 1) [] = tx at *
        have hc8 : ((k : Int) + 1) < ((L.length + 1 : Nat) : Int) := by omega
        have hk8 : ((k : Int) + 1).toNat = k + 1 := by omega
        go_wp2_with fail
        refine (HN1.out _).mono ?_
        rintro e w2 ⟨rfl, rfl⟩
        go_wp2_with fail
        go_region
        go_wp2
        refine bodyPost_ret (v := .tuple #[.string ⟨#[98, 97, 100]⟩, .agg #[.slice a1 nc c1, .slice a2 f.length c2]]) (by simp [results, Tryz.results23, go_sem, ca0, ca1, cb0, cb1, fa0, fa1, fb0, fb1]) rfl ⟨_, by rw [HTx.out]; rfl, HNet.out _ ?_, ?_⟩
        all_goals repeat (first | with_reducible exact HBE.out | with_reducible refine Below.setCell ?_ (by simp) _ | with_reducible refine Below.drew ?_)
    · exfalso
      obtain ⟨j, hj, hjO⟩ := HOx.out
      have := hall.out j (by omega)
      rw [hjO] at this
      cases this
end Ev
end Go.Proofs.YtpnmmmlckdkcdakGreatDoor
