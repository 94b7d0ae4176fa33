/- Package meter's Run does what is asked of it. -/
import Derived.Test.YtgacckmgbalggaiMtA
import Derived.Test.YtgacckmgbalggaiPlains
import Derived.Deep.RegionLaw
namespace Go.Proofs.Ytgacckmgbalggai
namespace Ev
open Go.RowKit Fr Ns Ld Fl
set_option linter.unusedSimpArgs false
set_option linter.unusedVariables false

set_option maxRecDepth 100000 in
set_option maxHeartbeats 4000000 in
theorem mtrun_said : MtRunSaid := by
  intro Q s r h q l v w hv
  have HK : Hid (∀ u : World, Calls Try.prog 25 #[.agg #[.int .i64 s, .int .i64 r, .int .i64 h], .int .i64 q] u fun e w' => e = .returned (errV (mnxE s r h q)) ∧ Below u.heap.size u w') := fun u => mtchk_any s r h q u
  have HT : Hid (∀ u : World, Below w.heap.size w u → Calls Try.prog 27 #[v] u fun e w' => e = .returned (errV (ticksE l)) ∧ Below u.heap.size u w') := fun u hu => drawn (mtticks_any l v u (hv.later hu))
  have HKp : Hid (∀ u : World, Below (w.alloc (.cells #[.int .i64 s, .int .i64 r, .int .i64 h] 35)).heap.size (w.alloc (.cells #[.int .i64 s, .int .i64 r, .int .i64 h] 35)) u → Below w.heap.size w u ∧ RowAt u w.heap.size 35 [.int .i64 s, .int .i64 r, .int .i64 h] ∧ w.heap.size + 1 ≤ u.heap.size) := fun u hu => by
    have hs := hu.size
    simp at hs
    exact ⟨((Below.refl _ _).alloc (Nat.le_refl _) _).trans (hu.mono (by simp)), (row_made w _ _ _ _ rfl rfl).later hu (by simp), hs⟩
  have HC : Hid (∀ i, i < l.length → ∃ a c b off, v = .slice a l.length c ∧ a = some ⟨b, off, none⟩ ∧ ∀ u, Below w.heap.size w u → u.cell? ⟨b, off + i, none⟩ = some (.int .i64 (l.getD i 0))) := fun i hi => by
    obtain ⟨a, cap, rfl, h1, h2⟩ := id hv
    obtain ⟨b, off, e, hc⟩ := ints_cells hv i hi
    exact ⟨a, cap, b, off, rfl, e, hc⟩
  obtain ⟨a, cap, rfl, ⟨hm, hm2⟩, _⟩ := hv
  by_cases hk : mnxE s r h q = 0
  · by_cases ht : ticksE l = 0
    · have hE : mrnE s r h q l = 0 := by rw [mrnE, if_pos hk, ht]
      rw [hE]
      obtain ⟨h60, hl⟩ := ticksE_0.1 ht
      obtain ⟨h0, q0, q1⟩ := mnxE_0.1 hk
      have hb0 := metE_0.1 h0
      have HA : Hid (∀ k, k ≤ l.length → 0 ≤ (mtSt s h q (l.take k)).1 ∧ (mtSt s h q (l.take k)).1 ≤ 10000 ∧ 1 ≤ (mtSt s h q (l.take k)).2.1 ∧ (mtSt s h q (l.take k)).2.1 ≤ 1000 ∧ (mtSt s h q (l.take k)).2.2.length = k) := fun k hkk => mtQ_at h0 q0 q1 k hkk
      have HL : Hid (∀ k, k < l.length → 0 ≤ l.getD k 0 ∧ l.getD k 0 ≤ 10000) := fun k hk => hl _ (getD_mem l k hk 0)
      have HS : Hid (∀ k, k < l.length → mtSt s h q (l.take (k + 1)) = stepM s (mtSt s h q (l.take k)) (l.getD k 0)) := fun k hk => mtSt_step s h q l k hk
      have HE : Hid ((mtSt s h q (l.take l.length)).2.2 = runM s h q l) := by show _ = _; rw [take_all (Nat.le_refl _)]; rfl
      have H0 : Hid (mtSt s h q (l.take 0) = (h, q, [])) := rfl
      show Calls _ _ _ _ fun e w' => ∃ y, e = .returned (.tuple #[y, .nilIface]) ∧ IntsAt (fun b => w.heap.size ≤ b) w' y (runM s h q l) ∧ _
      generalize runM s h q l = SL at *
      obtain ⟨T, hT⟩ : ∃ T : Nat → Int × Int × List Int, ∀ k, mtSt s h q (l.take k) = T k := ⟨_, fun _ => rfl⟩
      simp only [hT] at HA HS HE H0
      have HFi : Hid (∀ (x y z : Int) (u : World), metE s x y = 0 → 0 ≤ z → z ≤ 10000 → Calls Try.prog 28 #[.agg #[.int .i64 s, .int .i64 x, .int .i64 y], .int .i64 z] u fun e w' => e = .returned (.agg #[.int .i64 s, .int .i64 z, .int .i64 (waitM s y z)]) ∧ Below u.heap.size u w') := fun x y z u hx z0 z1 => mtticked_any s x y z u hx z0 z1
      have HNx : Hid (∀ (x y z : Int) (u : World), metE s x y = 0 → 1 ≤ z → z ≤ 1000 → Calls Try.prog 26 #[.agg #[.int .i64 s, .int .i64 x, .int .i64 y], .int .i64 z] u fun e w' => e = .returned (.int .i64 (nextM s x y z)) ∧ Below u.heap.size u w') := fun x y z u hx z0 z1 => mtnx_any s x y z u hx z0 z1
      have HME : Hid (∀ x y : Int, 0 ≤ x → x ≤ 10000 → 0 ≤ y → y ≤ 10000 → metE s x y = 0) := fun x y a1 a2 a3 a4 => metE_0.2 (by omega)
      have HW : Hid (∀ y z : Int, 0 ≤ waitM s y z ∧ waitM s y z ≤ 10000) := fun y z => waitQ_bd s y z
      have HR0 : Hid (0 ≤ r ∧ r ≤ 10000) := ⟨hb0.2.2.1, hb0.2.2.2.1⟩
      rw [hk, errV_0] at HK
      rw [ht, errV_0] at HT
      obtain ⟨i0, hi, hz0, hz1, hz2⟩ := info_parts infoInt
      obtain ⟨A, hA, hmk⟩ : ∃ A : Array Value, A.toList = (List.replicate l.length (0 : Int)).map (Value.int .i64) ∧ ∀ u : World, (Instr.makeSlice 22 (.int .i64 l.length) (.int .i64 l.length)).run Try.prog u = .ok (.slice (some ⟨u.heap.size, 0, none⟩) l.length l.length) (u.alloc (.cells A 3)) := by
        refine ⟨madeCells #[.int .i64 0] l.length, madeI _, fun u => ?_⟩
        have hr := run_make (P := Try.prog) u 22 3 i0 (.int .i64 0) Try.underlying22 hi hz0 .i64 .i64 l.length l.length (by omega) (Int.le_refl _) (by rw [hz2]; omega) (by omega)
        simpa [hz1, Value.cells] using hr
      have HAl : Hid (A.toList = (List.replicate l.length (0 : Int)).map (Value.int .i64)) := hA
      clear hA hl ht hk hT hE h0 q0 q1 hb0
      go_enter Try.func13, Try.ntmps13
      go_wp2_with fail
      refine (HK.out _).mono ?_
      rintro e w1 ⟨rfl, hw1⟩
      obtain ⟨b1, R1, hsz⟩ := HKp.out _ hw1
      have B1 : Hid (Below w.heap.size w w1) := b1
      have HR1 : Hid (RowAt w1 w.heap.size 35 [.int .i64 s, .int .i64 r, .int .i64 h]) := R1
      clear b1 R1 hw1
      go_wp2_with fail
      refine (HT.out _ B1.out).mono ?_
      rintro e w2 ⟨rfl, hw2⟩
      have B2 : Hid (Below w.heap.size w w2) := Bel.call B1.out (Nat.le_refl _) hw2
      have HR2 : Hid (RowAt w2 w.heap.size 35 [.int .i64 s, .int .i64 r, .int .i64 h]) := HR1.out.later hw2 HR1.out.lt
      have hs2 : w.heap.size + 1 ≤ w2.heap.size := Nat.le_trans hsz hw2.size
      have B3 : Hid (Below w.heap.size w (w2.alloc (.cells A 3))) := B2.out.alloc (by omega) _
      have R3 : Hid (RowAt (w2.alloc (.cells A 3)) w.heap.size 35 [.int .i64 s, .int .i64 r, .int .i64 h]) := HR2.out.alloc _
      have S3 : Hid (RowAt (w2.alloc (.cells A 3)) w2.heap.size 3 (((T 0).2.2 ++ List.replicate (l.length - 0) 0).map (Value.int .i64))) := by
        rw [H0.out]
        exact row_made _ _ _ _ _ rfl HAl.out
      clear hw2 HR1 HR2 B1
      go_wp2
      go_loopw [1, 11, 28] (fun s1 _ i wr => ∃ (k : Nat) (c : Int), k ≤ l.length ∧ i = .int .i64 k ∧ s1 = .int .i64 (T k).2.1 ∧ Hid (0 ≤ c ∧ c ≤ 10000) ∧ Hid (RowAt wr w2.heap.size 3 (((T k).2.2 ++ List.replicate (l.length - k) 0).map (Value.int .i64))) ∧ Hid (RowAt wr w.heap.size 35 [.int .i64 s, .int .i64 c, .int .i64 (T k).1]) ∧ Hid (Below w.heap.size w wr)) (fun _ _ i _ => l.length - (intOf i).toNat)
      case atStart => exact ⟨0, r, by omega, rfl, by rw [H0.out], HR0, S3, by rw [H0.out]; exact R3, B3⟩
      case round =>
        clear S3 R3 B3 B2
        obtain ⟨k, c, hk, rfl, rfl, hcb, hgo, hrow, hbel⟩ := hrel
        by_cases hlt : k < l.length
        · obtain ⟨a', c', b, off, e1, rfl, hc⟩ := HC.out k hlt
          simp only [Value.slice.injEq] at e1
          obtain ⟨rfl, -, rfl⟩ := e1
          have c0 := hc _ hbel.out
          obtain ⟨l1, l2⟩ := HL.out k hlt
          obtain ⟨t1, t2, t3, t4, t5⟩ := HA.out k hk
          have hst := HS.out k hlt
          clear hc
          generalize l.getD k 0 = y at *
          have E1 : Hid ((T (k + 1)).1 = waitM s (T k).1 y) := by show _ = _; rw [hst]; rfl
          have E2 : Hid ((T (k + 1)).2.1 = nextM s y (waitM s (T k).1 y) (T k).2.1) := by show _ = _; rw [hst]; rfl
          have E3 : Hid ((T (k + 1)).2.2 = (T k).2.2 ++ [nextM s y (waitM s (T k).1 y) (T k).2.1]) := by show _ = _; rw [hst]; rfl
          have HF1 : Hid (∀ u : World, Calls Try.prog 28 #[.agg #[.int .i64 s, .int .i64 c, .int .i64 (T k).1], .int .i64 y] u fun e w' => e = .returned (.agg #[.int .i64 s, .int .i64 y, .int .i64 (waitM s (T k).1 y)]) ∧ Below u.heap.size u w') := fun u => HFi.out _ _ _ u (HME.out _ _ hcb.out.1 hcb.out.2 t1 t2) l1 l2
          have hw0 := HW.out (T k).1 y
          have HN1 : Hid (∀ u : World, Calls Try.prog 26 #[.agg #[.int .i64 s, .int .i64 y, .int .i64 (waitM s (T k).1 y)], .int .i64 (T k).2.1] u fun e w' => e = .returned (.int .i64 (nextM s y (waitM s (T k).1 y) (T k).2.1)) ∧ Below u.heap.size u w') := fun u => HNx.out _ _ _ u (HME.out _ _ l1 l2 hw0.1 hw0.2) t3 t4
          have HLy : Hid (0 ≤ y ∧ y ≤ 10000) := ⟨l1, l2⟩
          have HG : Hid (∀ (u : World) (x : Int), RowAt u w2.heap.size 3 (((T k).2.2 ++ List.replicate (l.length - k) 0).map (Value.int .i64)) → (∃ z, u.cell? ⟨w2.heap.size, k, none⟩ = some z) ∧ (x = nextM s y (waitM s (T k).1 y) (T k).2.1 → RowAt (u.setCell ⟨w2.heap.size, k, none⟩ (.int .i64 x)) w2.heap.size 3 (((T (k + 1)).2.2 ++ List.replicate (l.length - (k + 1)) 0).map (Value.int .i64)))) := fun u x hu => by
            have hlen : k < (((T k).2.2 ++ List.replicate (l.length - k) 0).map (Value.int .i64)).length := by simp; omega
            exact ⟨⟨_, hu.cell (List.getElem?_eq_getElem hlen)⟩, fun hx => row_set hu t5 hlt (by rw [E3.out, hx])⟩
          clear hst t1 t2 t3 t4 t5 hw0 E3 l1 l2
          generalize nextM s y (waitM s (T k).1 y) (T k).2.1 = nx at *
          generalize waitM s (T k).1 y = wm at *
          generalize (T k).1 = wa at *
          generalize (T k).2.1 = qa at *
          have gz := hgo.out.lt
          have hgr := hrow.out.lt
          obtain ⟨d0, d1, d2, z0, z1, z2, _⟩ := hrow.out.three
          have P1 : Hid (Below wr.heap.size wr wr.drew) := (Below.refl _ _).drew
          have ne1 : ¬ w2.heap.size = w.heap.size := by omega
          have ne2 : ¬ w.heap.size = w2.heap.size := by omega
          have S2 : w.heap.size ≤ w2.heap.size := by omega
          go_wp2_with fail
          go_region_law (first | (go_simp; refine (HF1.out _).mono ?_; rintro e w3 ⟨rfl, hw3⟩; have Hb3 : Hid (Below wr.heap.size wr w3) := Bel.call P1.out (Nat.le_refl _) hw3; obtain ⟨v0, v1, v2, y0, y1, y2, _⟩ := (hrow.out.later Hb3.out hgr).three))
          all_goals
            have G3 : Hid (RowAt w3 w2.heap.size 3 (((T k).2.2 ++ List.replicate (l.length - k) 0).map (Value.int .i64))) := hgo.out.later Hb3.out gz
            have R3 : Hid (RowAt w3 w.heap.size 35 [.int .i64 s, .int .i64 c, .int .i64 wa]) := hrow.out.later Hb3.out hgr
            have B3 : Hid (Below w.heap.size w w3) := Bel.call hbel.out (Nat.le_refl _) Hb3.out
            have z3 : wr.heap.size ≤ w3.heap.size := Hb3.out.size
            have R4 : Hid (RowAt (((w3.setCell ⟨w.heap.size, 0, none⟩ (.int .i64 s)).setCell ⟨w.heap.size, 1, none⟩ (.int .i64 y)).setCell ⟨w.heap.size, 2, none⟩ (.int .i64 wm)) w.heap.size 35 [.int .i64 s, .int .i64 y, .int .i64 wm]) := R3.out.set3 _ _ _
            have G4 : Hid (RowAt (((w3.setCell ⟨w.heap.size, 0, none⟩ (.int .i64 s)).setCell ⟨w.heap.size, 1, none⟩ (.int .i64 y)).setCell ⟨w.heap.size, 2, none⟩ (.int .i64 wm)) w2.heap.size 3 (((T k).2.2 ++ List.replicate (l.length - k) 0).map (Value.int .i64))) := ((G3.out.other (a := ⟨w.heap.size, 0, none⟩) ne2 _).other (a := ⟨w.heap.size, 1, none⟩) ne2 _).other (a := ⟨w.heap.size, 2, none⟩) ne2 _
            have B4 : Hid (Below w.heap.size w (((w3.setCell ⟨w.heap.size, 0, none⟩ (.int .i64 s)).setCell ⟨w.heap.size, 1, none⟩ (.int .i64 y)).setCell ⟨w.heap.size, 2, none⟩ (.int .i64 wm))) := ((B3.out.setCell (Nat.le_refl _) _).setCell (Nat.le_refl _) _).setCell (Nat.le_refl _) _
            clear d0 d1 d2 z0 z1 z2 c0
            clear Hb3 hw3 HF1 hgo hrow hbel
            go_wp2_with fail
            refine (HN1.out _).mono ?_
            rintro e w5 ⟨rfl, hw5⟩
            have G5 : Hid (RowAt w5 w2.heap.size 3 (((T k).2.2 ++ List.replicate (l.length - k) 0).map (Value.int .i64))) := G4.out.later hw5 G4.out.lt
            have R5 : Hid (RowAt w5 w.heap.size 35 [.int .i64 s, .int .i64 y, .int .i64 wm]) := R4.out.later hw5 R4.out.lt
            have B5 : Hid (Below w.heap.size w w5) := Bel.call B4.out (by first | (simp; done) | (simp; omega)) hw5
            clear hw5 G4 R4 B4 v0 v1 v2 y0 y1 y2
            obtain ⟨⟨z, cz⟩, hgn⟩ := HG.out w5 nx G5.out
            have G6 : Hid (RowAt (w5.setCell ⟨w2.heap.size, k, none⟩ (.int .i64 nx)) w2.heap.size 3 (((T (k + 1)).2.2 ++ List.replicate (l.length - (k + 1)) 0).map (Value.int .i64))) := hgn rfl
            have fz := G5.out.frozen k
            have R6 : Hid (RowAt (w5.setCell ⟨w2.heap.size, k, none⟩ (.int .i64 nx)) w.heap.size 35 [.int .i64 s, .int .i64 y, .int .i64 (T (k + 1)).1]) := by rw [E1.out]; exact R5.out.other (a := ⟨w2.heap.size, k, none⟩) ne1 _
            have B6 : Hid (Below w.heap.size w (w5.setCell ⟨w2.heap.size, k, none⟩ (.int .i64 nx))) := B5.out.setCell S2 _
            clear hgn G5 R5 B5 HG
            go_wp2
            go_roundw
            case rel => exact ⟨k + 1, y, by omega, by go_num, by rw [E2.out], HLy, G6, R6, B6⟩
            case measure => simp [intOf]; omega
        · obtain rfl : k = l.length := by omega
          have HI : Hid (IntsAt (fun b => w.heap.size ≤ b) wr (.slice (some ⟨w2.heap.size, 0, none⟩) l.length l.length) SL) := by
            have hln := (HA.out _ (Nat.le_refl _)).2.2.2.2
            have := hgo.out
            rw [Nat.sub_self, HE.out] at this
            rw [HE.out] at hln
            have h2 := intsRow (Q := fun b => w.heap.size ≤ b) (sp := []) (c := l.length) (l := SL) (g := w2.heap.size) (w := wr) (by simpa using this) (by omega) (by omega) (by omega)
            rw [hln] at h2
            exact h2
          go_wp2
          exact bodyPost_ret (v := .tuple #[.slice (some ⟨w2.heap.size, 0, none⟩) l.length l.length, .nilIface]) (by simp [results, Try.results13, go_sem]) rfl ⟨_, rfl, HI.out, hbel.out⟩
    · have hE : mrnE s r h q l = ticksE l := by rw [mrnE, if_pos hk]
      rw [hE]
      rw [hk, errV_0] at HK
      rw [errV_ne ht] at HT ⊢
      rw [okL_ne ht]
      generalize ticksE l = tk at *
      clear hE hk ht
      go_enter Try.func13, Try.ntmps13
      go_wp2_with fail
      refine (HK.out _).mono ?_
      rintro e w1 ⟨rfl, hw1⟩
      have B1 : Hid (Below w.heap.size w w1) := (HKp.out _ hw1).1
      clear hw1
      go_wp2_with fail
      refine (HT.out _ B1.out).mono ?_
      rintro e w2 ⟨rfl, hw2⟩
      have B2 : Hid (Below w.heap.size w w2) := Bel.call B1.out (Nat.le_refl _) hw2
      clear hw2
      go_wp2
      exact bodyPost_ret (v := .tuple #[.slice none 0 0, .iface 63 (.int .i64 tk)]) (by simp [results, Try.results13, go_sem]) rfl ⟨_, rfl, nil_intsB _, B2.out⟩
  · have hE : mrnE s r h q l = mnxE s r h q := by rw [mrnE, if_neg hk]
    rw [hE]
    rw [errV_ne hk] at HK ⊢
    rw [okL_ne hk]
    generalize mnxE s r h q = bk at *
    clear hE hk
    go_enter Try.func13, Try.ntmps13
    go_wp2_with fail
    refine (HK.out _).mono ?_
    rintro e w1 ⟨rfl, hw1⟩
    have B1 : Hid (Below w.heap.size w w1) := (HKp.out _ hw1).1
    clear hw1
    go_wp2
    exact bodyPost_ret (v := .tuple #[.slice none 0 0, .iface 63 (.int .i64 bk)]) (by simp [results, Try.results13, go_sem]) rfl ⟨_, rfl, nil_intsB _, B1.out⟩
end Ev
end Go.Proofs.Ytgacckmgbalggai
