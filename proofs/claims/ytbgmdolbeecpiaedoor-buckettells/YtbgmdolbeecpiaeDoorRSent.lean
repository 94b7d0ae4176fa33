/- The document's Sent (package fairref2): how much goes at each tick. -/
import Derived.Test.YtbgmdolbeecpiaeDoorRBkt
import Derived.Test.YtbgmdolbeecpiaeDoorPlains
namespace Go.Proofs.YtbgmdolbeecpiaeDoor
namespace Ev
open Go.RowKit Fr Ns Ld Fl
set_option linter.unusedSimpArgs false
set_option linter.unusedVariables false

set_option maxRecDepth 100000 in
set_option maxHeartbeats 2000000 in
theorem RSent_any {Q : Nat → Prop} (s r h : Int) (l : List Int) (v : Value) (w : World) (hv : IntsAt Q w v l) (hb : bktE s r h = 0) (ht : ticksE l = 0) :
    Calls Tryd.prog 21 #[.agg #[.int .i64 s, .int .i64 r, .int .i64 h], v] w fun e w' => ∃ y, e = .returned y ∧ IntsAt (fun b => w.heap.size ≤ b) w' y (sentL s r h l) ∧ Below w.heap.size w w' := by
  obtain ⟨a, cap, rfl, ⟨hm, hm2⟩, h'⟩ := id hv
  have HC : Hid (∀ i, i < l.length → ∃ b off, a = some ⟨b, off, none⟩ ∧ ∀ u, Below w.heap.size w u → u.cell? ⟨b, off + i, none⟩ = some (.int .i64 (l.getD i 0))) := ints_cells hv
  obtain ⟨h60, hl⟩ := ticksE_0.1 ht
  have HA : Hid (∀ k, k ≤ l.length → 0 ≤ (bkSt s r h (l.take k)).1 ∧ (bkSt s r h (l.take k)).1 ≤ 600000 ∧ bktE s r (bkSt s r h (l.take k)).2.1 = 0 ∧ (bkSt s r h (l.take k)).2.2.length = k) := fun k hk => bk_at hb ht k hk
  have HL : Hid (∀ k, k < l.length → 0 ≤ l.getD k 0 ∧ l.getD k 0 ≤ 10000) := fun k hk => hl _ (getD_mem l k hk 0)
  have HS : Hid (∀ k, k < l.length → bkSt s r h (l.take (k + 1)) = stepB s r (bkSt s r h (l.take k)) (l.getD k 0)) := fun k hk => bkSt_step s r h l k hk
  have HE : Hid ((bkSt s r h (l.take l.length)).2.2 = sentL s r h l) := by show _ = _; rw [take_all (Nat.le_refl _)]; rfl
  have H0 : Hid (bkSt s r h (l.take 0) = (0, h, [])) := rfl
  generalize sentL s r h l = SL at *
  obtain ⟨T, hT⟩ : ∃ T : Nat → Int × Int × List Int, ∀ k, bkSt s r h (l.take k) = T k := ⟨_, fun _ => rfl⟩
  simp only [hT] at HA HS HE H0
  have HFi : Hid (∀ (x : Int) (u : World), bktE s r x = 0 → Calls Tryd.prog 17 #[.agg #[.int .i64 s, .int .i64 r, .int .i64 x]] u fun e w' => e = .returned (.agg #[.int .i64 s, .int .i64 r, .int .i64 (fillH s r x)]) ∧ Below u.heap.size u w') := fun x u hx => RFillB_any s r x u hx
  obtain ⟨i0, hi, hz0, hz1, hz2⟩ := info_parts infoInt
  have HR0 : Hid (RowAt (w.alloc (.cells #[.int .i64 s, .int .i64 r, .int .i64 h] 44)) w.heap.size 44 [.int .i64 s, .int .i64 r, .int .i64 h]) := row_made w _ _ _ _ rfl rfl
  have HB0 : Hid (Below w.heap.size w (w.alloc (.cells #[.int .i64 s, .int .i64 r, .int .i64 h] 44))) := (Below.refl _ _).alloc (Nat.le_refl _) _
  clear hv h' hl ht hb hT
  go_enter Tryd.func21, Tryd.ntmps21
  go_wp2
  go_loopw [5, 6, 7, 8] (fun s5 s6 s7 _ wr => ∃ k : Nat, k ≤ l.length ∧ s7 = .int .i64 k ∧ s5 = .int .i64 (T k).1 ∧ Hid (wr.ownsRow (w.heap.size + 1) 3 1 s6 k ((T k).2.2.map (Value.int .i64))) ∧ Hid (RowAt wr w.heap.size 44 [.int .i64 s, .int .i64 r, .int .i64 (T k).2.1]) ∧ Hid (Below w.heap.size w wr)) (fun _ _ s7 _ _ => l.length - (intOf s7).toNat)
  case atStart => exact ⟨0, by omega, rfl, by rw [H0.out], by rw [H0.out]; exact World.ownsRow_nil _ _ _ _, by rw [H0.out]; exact HR0, HB0⟩
  case round =>
    obtain ⟨k, hk, rfl, rfl, hown, hrow, hbel⟩ := hrel
    obtain ⟨d0, d1, d2, z0, z1, z2, hgz⟩ := hrow.out.three
    by_cases hlt : k < l.length
    · obtain ⟨b, off, rfl, hc⟩ := HC.out k hlt
      have c0 := hc _ hbel.out
      obtain ⟨l1, l2⟩ := HL.out k hlt
      obtain ⟨t1, t2, t3, t4⟩ := HA.out k hk
      have hst := HS.out k hlt
      clear hc
      generalize l.getD k 0 = y at *
      have b0 := bktE_0.1 t3
      have e1 : (T (k + 1)).1 = (T k).1 + y - goes ((T k).1 + y) (T k).2.1 := by rw [hst]; rfl
      have e2 : (T (k + 1)).2.1 = fillH s r ((T k).2.1 - goes ((T k).1 + y) (T k).2.1) := by rw [hst]; rfl
      have e3 : (T (k + 1)).2.2 = (T k).2.2 ++ [goes ((T k).1 + y) (T k).2.1] := by rw [hst]; rfl
      clear hst t3
      generalize (T k).1 = wa at *
      generalize (T k).2.1 = ha at *
      generalize (T k).2.2 = so at *
      have hor : (ha < wa + y ∧ goes (wa + y) ha = ha) ∨ (¬ ha < wa + y ∧ goes (wa + y) ha = wa + y) := by
        by_cases hc : ha < wa + y
        · exact .inl ⟨hc, if_pos hc⟩
        · exact .inr ⟨hc, if_neg hc⟩
      have hwa : IntKind.i64.wrap (wa + y) = wa + y := by rw [IntKind.wrap_i64]; omega
      obtain ⟨n, hn⟩ : ∃ n, goes (wa + y) ha = n := ⟨_, rfl⟩
      rw [hn] at e1 e2 e3 hor
      have E1 : Hid ((T (k + 1)).1 = wa + y - n) := e1
      have E2 : Hid ((T (k + 1)).2.1 = fillH s r (ha - n)) := e2
      have E3 : Hid ((T (k + 1)).2.2 = so ++ [n]) := e3
      have hbn : bktE s r (ha - n) = 0 := bktE_0.2 (by omega)
      have hwb : IntKind.i64.wrap (wa + y - n) = wa + y - n := by rw [IntKind.wrap_i64]; omega
      have hwc : IntKind.i64.wrap (ha - n) = ha - n := by rw [IntKind.wrap_i64]; omega
      have HF1 : Hid (∀ u : World, Calls Tryd.prog 17 #[.agg #[.int .i64 s, .int .i64 r, .int .i64 (ha - n)]] u fun e w' => e = .returned (.agg #[.int .i64 s, .int .i64 r, .int .i64 (fillH s r (ha - n))]) ∧ Below u.heap.size u w') := fun u => HFi.out _ u hbn
      generalize fillH s r (ha - n) = hf at *
      clear e1 e2 e3 hn hbn b0
      have hkey : (ha < wa + y ∧ n = ha) ∨ (¬ ha < wa + y ∧ n = wa + y) := by omega
      clear hor
      rcases hkey with ⟨hlt1, rfl⟩ | ⟨hlt1, rfl⟩
      · rw [Int.sub_self] at HF1 hwc
        go_wp2_with fail
        refine (HF1.out _).mono ?_
        rintro e w1 ⟨rfl, hw1⟩
        have R1 : Hid (RowAt w1 w.heap.size 44 [.int .i64 s, .int .i64 r, .int .i64 (0)]) := (hrow.out.set 2 (.int .i64 (0))).later hw1 (by simpa using hgz)
        have hz1' : wr.heap.size ≤ w1.heap.size := by have := hw1.size; simpa using this
        have O1 : Hid (w1.ownsRow (w.heap.size + 1) 3 1 u6 k (so.map (Value.int .i64))) := own_keeps (fun g hg1 hg2 => (hw1.block g (by simpa using hg2)).trans (stay_set _ _ _ _ _ (by omega))) hown.out
        have B1 : Hid (Below w.heap.size w w1) := (hbel.out.setCell (Nat.le_refl _) _).trans (hw1.mono (by simpa using hbel.out.size))
        obtain ⟨a6, c6, rfl⟩ := own_slice O1.out
        clear hw1 d0 d1 d2 z0 z1 z2 c0
        obtain ⟨d0, d1, d2, z0, z1, z2, hgz1⟩ := R1.out.three
        have R2 : Hid (RowAt (((w1.setCell ⟨w.heap.size, 0, none⟩ (.int .i64 s)).setCell ⟨w.heap.size, 1, none⟩ (.int .i64 r)).setCell ⟨w.heap.size, 2, none⟩ (.int .i64 hf)) w.heap.size 44 [.int .i64 s, .int .i64 r, .int .i64 hf]) := R1.out.set3 _ _ _
        have O2 : Hid ((((w1.setCell ⟨w.heap.size, 0, none⟩ (.int .i64 s)).setCell ⟨w.heap.size, 1, none⟩ (.int .i64 r)).setCell ⟨w.heap.size, 2, none⟩ (.int .i64 hf)).ownsRow (w.heap.size + 1) 3 1 (.slice a6 k c6) k (so.map (Value.int .i64))) := own_keeps (fun g hg1 hg2 => ((stay_set _ _ _ _ _ (by omega)).trans (stay_set _ _ _ _ _ (by omega))).trans (stay_set _ _ _ _ _ (by omega))) O1.out
        have B2 : Hid (Below w.heap.size w (((w1.setCell ⟨w.heap.size, 0, none⟩ (.int .i64 s)).setCell ⟨w.heap.size, 1, none⟩ (.int .i64 r)).setCell ⟨w.heap.size, 2, none⟩ (.int .i64 hf))) := ((B1.out.setCell (Nat.le_refl _) _).setCell (Nat.le_refl _) _).setCell (Nat.le_refl _) _
        have S2 : Hid (w.heap.size + 1 ≤ (((w1.setCell ⟨w.heap.size, 0, none⟩ (.int .i64 s)).setCell ⟨w.heap.size, 1, none⟩ (.int .i64 r)).setCell ⟨w.heap.size, 2, none⟩ (.int .i64 hf)).heap.size) := by show _ ≤ _; simp; omega
        go_wp2_with (at_builtin; go_must (refine wpList_append_own _ rfl (.tmp 38) (.tmp 40) 22 rfl (w.heap.size + 1) 3 i0 (.int .i64 0) 1 8 Tryd.underlying22 hi hz0 hz1 hz2 rfl (by decide) _ _ _ rfl (O2.out.alloc _) ⟨_, 0, none⟩ 1 1 [.int .i64 (n)] rfl rfl (new1 _ _ _ _ ?c1) (by intro u hu; simp at hu; subst hu; rfl) (by unfold maxLen; omega) (by omega) ?c2 ?_))
        case c1 => simp
        case c2 => have := S2.out; simp; omega
        intro v' wg hown' hgrow _
        have hG := grew1 (B := w.heap.size + 1) S2.out hgrow (fun k hk => (O2.out.lt k hk).1)
        have O3 : Hid (wg.ownsRow (w.heap.size + 1) 3 1 v' (k + 1) ((T (k + 1)).2.2.map (Value.int .i64))) := by
          show World.ownsRow _ _ _ _ _ _ _
          rw [E3.out, List.map_append]
          simpa using hown'
        have R3 : Hid (RowAt wg w.heap.size 44 [.int .i64 s, .int .i64 r, .int .i64 (T (k + 1)).2.1]) := by
          rw [E2.out]
          exact R2.out.later hG (by omega)
        have B3 : Hid (Below w.heap.size w wg) := B2.out.trans (hG.mono (by omega))
        clear hown' hgrow hG d0 d1 d2 z0 z1 z2
        go_wp2
        go_roundw
        case rel => exact ⟨k + 1, by omega, by go_num, by rw [E1.out], O3, R3, B3⟩
        case measure => simp [intOf]; omega
      · rw [Int.sub_self] at E1 hwb
        go_wp2_with fail
        refine (HF1.out _).mono ?_
        rintro e w1 ⟨rfl, hw1⟩
        have R1 : Hid (RowAt w1 w.heap.size 44 [.int .i64 s, .int .i64 r, .int .i64 (ha - (wa + y))]) := (hrow.out.set 2 (.int .i64 (ha - (wa + y)))).later hw1 (by simpa using hgz)
        have hz1' : wr.heap.size ≤ w1.heap.size := by have := hw1.size; simpa using this
        have O1 : Hid (w1.ownsRow (w.heap.size + 1) 3 1 u6 k (so.map (Value.int .i64))) := own_keeps (fun g hg1 hg2 => (hw1.block g (by simpa using hg2)).trans (stay_set _ _ _ _ _ (by omega))) hown.out
        have B1 : Hid (Below w.heap.size w w1) := (hbel.out.setCell (Nat.le_refl _) _).trans (hw1.mono (by simpa using hbel.out.size))
        obtain ⟨a6, c6, rfl⟩ := own_slice O1.out
        clear hw1 d0 d1 d2 z0 z1 z2 c0
        obtain ⟨d0, d1, d2, z0, z1, z2, hgz1⟩ := R1.out.three
        have R2 : Hid (RowAt (((w1.setCell ⟨w.heap.size, 0, none⟩ (.int .i64 s)).setCell ⟨w.heap.size, 1, none⟩ (.int .i64 r)).setCell ⟨w.heap.size, 2, none⟩ (.int .i64 hf)) w.heap.size 44 [.int .i64 s, .int .i64 r, .int .i64 hf]) := R1.out.set3 _ _ _
        have O2 : Hid ((((w1.setCell ⟨w.heap.size, 0, none⟩ (.int .i64 s)).setCell ⟨w.heap.size, 1, none⟩ (.int .i64 r)).setCell ⟨w.heap.size, 2, none⟩ (.int .i64 hf)).ownsRow (w.heap.size + 1) 3 1 (.slice a6 k c6) k (so.map (Value.int .i64))) := own_keeps (fun g hg1 hg2 => ((stay_set _ _ _ _ _ (by omega)).trans (stay_set _ _ _ _ _ (by omega))).trans (stay_set _ _ _ _ _ (by omega))) O1.out
        have B2 : Hid (Below w.heap.size w (((w1.setCell ⟨w.heap.size, 0, none⟩ (.int .i64 s)).setCell ⟨w.heap.size, 1, none⟩ (.int .i64 r)).setCell ⟨w.heap.size, 2, none⟩ (.int .i64 hf))) := ((B1.out.setCell (Nat.le_refl _) _).setCell (Nat.le_refl _) _).setCell (Nat.le_refl _) _
        have S2 : Hid (w.heap.size + 1 ≤ (((w1.setCell ⟨w.heap.size, 0, none⟩ (.int .i64 s)).setCell ⟨w.heap.size, 1, none⟩ (.int .i64 r)).setCell ⟨w.heap.size, 2, none⟩ (.int .i64 hf)).heap.size) := by show _ ≤ _; simp; omega
        go_wp2_with (at_builtin; go_must (refine wpList_append_own _ rfl (.tmp 38) (.tmp 40) 22 rfl (w.heap.size + 1) 3 i0 (.int .i64 0) 1 8 Tryd.underlying22 hi hz0 hz1 hz2 rfl (by decide) _ _ _ rfl (O2.out.alloc _) ⟨_, 0, none⟩ 1 1 [.int .i64 (wa + y)] rfl rfl (new1 _ _ _ _ ?c1) (by intro u hu; simp at hu; subst hu; rfl) (by unfold maxLen; omega) (by omega) ?c2 ?_))
        case c1 => simp
        case c2 => have := S2.out; simp; omega
        intro v' wg hown' hgrow _
        have hG := grew1 (B := w.heap.size + 1) S2.out hgrow (fun k hk => (O2.out.lt k hk).1)
        have O3 : Hid (wg.ownsRow (w.heap.size + 1) 3 1 v' (k + 1) ((T (k + 1)).2.2.map (Value.int .i64))) := by
          show World.ownsRow _ _ _ _ _ _ _
          rw [E3.out, List.map_append]
          simpa using hown'
        have R3 : Hid (RowAt wg w.heap.size 44 [.int .i64 s, .int .i64 r, .int .i64 (T (k + 1)).2.1]) := by
          rw [E2.out]
          exact R2.out.later hG (by omega)
        have B3 : Hid (Below w.heap.size w wg) := B2.out.trans (hG.mono (by omega))
        clear hown' hgrow hG d0 d1 d2 z0 z1 z2
        go_wp2
        go_roundw
        case rel => exact ⟨k + 1, by omega, by go_num, by rw [E1.out], O3, R3, B3⟩
        case measure => simp [intOf]; omega
    · obtain rfl : k = l.length := by omega
      have HI : Hid (IntsAt (fun b => w.heap.size ≤ b) wr u6 SL) := by
        rw [HE.out] at hown
        have e : SL.length = l.length := by rw [← HE.out]; exact (HA.out l.length (Nat.le_refl _)).2.2.2
        refine ints_of_owns (base := w.heap.size + 1) (by omega) ?_ (fun g hg => by omega)
        rw [e]
        exact hown.out
      obtain ⟨a6, c6, rfl⟩ := own_slice hown.out
      go_wp2
      go_ret
      exact ⟨_, rfl, HI.out, hbel.out⟩
end Ev
end Go.Proofs.YtbgmdolbeecpiaeDoor
