/- Package bucket's Send does what is asked of it. -/
import Derived.Test.YtoahbapdcghokafBkA
import Derived.Test.YtoahbapdcghokafPlains
namespace Go.Proofs.Ytoahbapdcghokaf
namespace Ev
open Go.RowKit Fr Ns Ld Fl
set_option linter.unusedSimpArgs false
set_option linter.unusedVariables false

theorem nil_intsB {Q : Nat → Prop} (w : World) : IntsAt Q w (.slice none 0 0) [] := ⟨none, 0, rfl, ⟨Nat.le_refl _, by simp⟩, .inl rfl⟩
theorem madeI (n : Nat) : (madeCells #[Value.int .i64 0] n).toList = (List.replicate n (0 : Int)).map (Value.int .i64) := by
  apply List.ext_getElem
  · simp [madeCells]
  · intro i h1 h2
    simp [madeCells, Nat.mod_one]
/-- what went so far, and room for the rest -/
theorem went_set {a : List Int} {n k : Nat} {x : Int} (ha : a.length = k) (hk : k < n) : (a ++ List.replicate (n - k) 0).set k x = (a ++ [x]) ++ List.replicate (n - (k + 1)) 0 := by
  obtain ⟨m, hm⟩ : ∃ m, n - k = m + 1 := ⟨n - k - 1, by omega⟩
  have e : n - (k + 1) = m := by omega
  rw [hm, e, List.replicate_succ, ← ha]
  simp
theorem row_set {w : World} {g n k : Nat} {T : TypeId} {a b : List Int} {x : Int} (h : RowAt w g T ((a ++ List.replicate (n - k) 0).map (Value.int .i64))) (ha : a.length = k) (hk : k < n) (hb : b = a ++ [x]) : RowAt (w.setCell ⟨g, k, none⟩ (.int .i64 x)) g T ((b ++ List.replicate (n - (k + 1)) 0).map (Value.int .i64)) := by
  have := h.set k (.int .i64 x)
  rw [← List.map_set, went_set ha hk, ← hb] at this
  exact this

set_option maxRecDepth 100000 in
set_option maxHeartbeats 4000000 in
theorem bsend_said : BSendSaid := by
  intro Q s r h l v w hv
  have HK : Hid (∀ u : World, Calls Try.prog 13 #[.agg #[.int .i64 s, .int .i64 r, .int .i64 h]] u fun e w' => e = .returned (errV (bktE s r h)) ∧ Below u.heap.size u w') := fun u => bcheck_said s r h u
  have HT : Hid (∀ u : World, Below w.heap.size w u → Calls Try.prog 14 #[v] u fun e w' => e = .returned (errV (ticksE l)) ∧ Below u.heap.size u w') := fun u hu => drawn (bticks_any l v u (hv.later hu))
  have HKp : Hid (∀ u : World, Below (w.alloc (.cells #[.int .i64 s, .int .i64 r, .int .i64 h] 23)).heap.size (w.alloc (.cells #[.int .i64 s, .int .i64 r, .int .i64 h] 23)) u → Below w.heap.size w u ∧ RowAt u w.heap.size 23 [.int .i64 s, .int .i64 r, .int .i64 h] ∧ w.heap.size + 1 ≤ u.heap.size) := fun u hu => by
    have hs := hu.size
    simp at hs
    exact ⟨((Below.refl _ _).alloc (Nat.le_refl _) _).trans (hu.mono (by simp)), (row_made w _ _ _ _ rfl rfl).later hu (by simp), hs⟩
  have HC : Hid (∀ i, i < l.length → ∃ a c b off, v = .slice a l.length c ∧ a = some ⟨b, off, none⟩ ∧ ∀ u, Below w.heap.size w u → u.cell? ⟨b, off + i, none⟩ = some (.int .i64 (l.getD i 0))) := fun i hi => by
    obtain ⟨a, cap, rfl, h1, h2⟩ := id hv
    obtain ⟨b, off, e, hc⟩ := ints_cells hv i hi
    exact ⟨a, cap, b, off, rfl, e, hc⟩
  obtain ⟨a, cap, rfl, ⟨hm, hm2⟩, _⟩ := hv
  by_cases hk : bktE s r h = 0
  · by_cases ht : ticksE l = 0
    · have hE : sendE s r h l = 0 := by rw [sendE, if_pos hk, ht]
      rw [hE]
      obtain ⟨h60, hl⟩ := ticksE_0.1 ht
      have HA : Hid (∀ k, k ≤ l.length → 0 ≤ (bkSt s r h (l.take k)).1 ∧ (bkSt s r h (l.take k)).1 ≤ 600000 ∧ bktE s r (bkSt s r h (l.take k)).2.1 = 0 ∧ (bkSt s r h (l.take k)).2.2.length = k) := fun k hkk => bk_at hk ht k hkk
      have HL : Hid (∀ k, k < l.length → 0 ≤ l.getD k 0 ∧ l.getD k 0 ≤ 10000) := fun k hk => hl _ (getD_mem l k hk 0)
      have HS : Hid (∀ k, k < l.length → bkSt s r h (l.take (k + 1)) = stepB s r (bkSt s r h (l.take k)) (l.getD k 0)) := fun k hk => bkSt_step s r h l k hk
      have HE : Hid ((bkSt s r h (l.take l.length)).2.2 = sentL s r h l) := by show _ = _; rw [take_all (Nat.le_refl _)]; rfl
      have H0 : Hid (bkSt s r h (l.take 0) = (0, h, [])) := rfl
      show Calls _ _ _ _ fun e w' => ∃ y, e = .returned (.tuple #[y, .nilIface]) ∧ IntsAt (fun b => w.heap.size ≤ b) w' y (sentL s r h l) ∧ _
      generalize sentL s r h l = SL at *
      obtain ⟨T, hT⟩ : ∃ T : Nat → Int × Int × List Int, ∀ k, bkSt s r h (l.take k) = T k := ⟨_, fun _ => rfl⟩
      simp only [hT] at HA HS HE H0
      have HFi : Hid (∀ (x : Int) (u : World), bktE s r x = 0 → Calls Try.prog 15 #[.agg #[.int .i64 s, .int .i64 r, .int .i64 x]] u fun e w' => e = .returned (.agg #[.int .i64 s, .int .i64 r, .int .i64 (fillH s r x)]) ∧ Below u.heap.size u w') := fun x u hx => bticked_any s r x u hx
      rw [hk, errV_0] at HK
      rw [ht, errV_0] at HT
      obtain ⟨i0, hi, hz0, hz1, hz2⟩ := info_parts infoInt
      obtain ⟨A, hA, hmk⟩ : ∃ A : Array Value, A.toList = (List.replicate l.length (0 : Int)).map (Value.int .i64) ∧ ∀ u : World, (Instr.makeSlice 24 (.int .i64 l.length) (.int .i64 l.length)).run Try.prog u = .ok (.slice (some ⟨u.heap.size, 0, none⟩) l.length l.length) (u.alloc (.cells A 3)) := by
        refine ⟨madeCells #[.int .i64 0] l.length, madeI _, fun u => ?_⟩
        have hr := run_make (P := Try.prog) u 24 3 i0 (.int .i64 0) Try.underlying24 hi hz0 .i64 .i64 l.length l.length (by omega) (Int.le_refl _) (by rw [hz2]; omega) (by omega)
        simpa [hz1, Value.cells] using hr
      have HAl : Hid (A.toList = (List.replicate l.length (0 : Int)).map (Value.int .i64)) := hA
      clear hA hl ht hk hT hE
      go_enter Try.func7, Try.ntmps7
      go_wp2_with fail
      refine (HK.out _).mono ?_
      rintro e w1 ⟨rfl, hw1⟩
      obtain ⟨b1, R1, hsz⟩ := HKp.out _ hw1
      have B1 : Hid (Below w.heap.size w w1) := b1
      have HR1 : Hid (RowAt w1 w.heap.size 23 [.int .i64 s, .int .i64 r, .int .i64 h]) := R1
      clear b1 R1 hw1
      go_wp2_with fail
      refine (HT.out _ B1.out).mono ?_
      rintro e w2 ⟨rfl, hw2⟩
      have B2 : Hid (Below w.heap.size w w2) := Bel.call B1.out (Nat.le_refl _) hw2
      have HR2 : Hid (RowAt w2 w.heap.size 23 [.int .i64 s, .int .i64 r, .int .i64 h]) := HR1.out.later hw2 HR1.out.lt
      have hs2 : w.heap.size + 1 ≤ w2.heap.size := Nat.le_trans hsz hw2.size
      have B3 : Hid (Below w.heap.size w (w2.alloc (.cells A 3))) := B2.out.alloc (by omega) _
      have R3 : Hid (RowAt (w2.alloc (.cells A 3)) w.heap.size 23 [.int .i64 s, .int .i64 r, .int .i64 h]) := HR2.out.alloc _
      have S3 : Hid (RowAt (w2.alloc (.cells A 3)) w2.heap.size 3 (((T 0).2.2 ++ List.replicate (l.length - 0) 0).map (Value.int .i64))) := by
        rw [H0.out]
        exact row_made _ _ _ _ _ rfl HAl.out
      clear hw2 HR1 HR2 B1
      go_wp2
      go_loopw [9, 10, 26] (fun s9 _ i wr => ∃ k : Nat, k ≤ l.length ∧ i = .int .i64 k ∧ s9 = .int .i64 (T k).1 ∧ Hid (RowAt wr w2.heap.size 3 (((T k).2.2 ++ List.replicate (l.length - k) 0).map (Value.int .i64))) ∧ Hid (RowAt wr w.heap.size 23 [.int .i64 s, .int .i64 r, .int .i64 (T k).2.1]) ∧ Hid (Below w.heap.size w wr)) (fun _ _ i _ => l.length - (intOf i).toNat)
      case atStart => exact ⟨0, by omega, rfl, by rw [H0.out], S3, by rw [H0.out]; exact R3, B3⟩
      case round =>
        clear S3 R3 B3 B2
        obtain ⟨k, hk, rfl, rfl, hgo, hrow, hbel⟩ := hrel
        by_cases hlt : k < l.length
        · obtain ⟨a', c', b, off, e1, rfl, hc⟩ := HC.out k hlt
          simp only [Value.slice.injEq] at e1
          obtain ⟨rfl, -, rfl⟩ := e1
          have c0 := hc _ hbel.out
          obtain ⟨l1, l2⟩ := HL.out k hlt
          obtain ⟨t1, t2, t3, t4⟩ := HA.out k hk
          have hst := HS.out k hlt
          clear hc
          generalize l.getD k 0 = y at *
          have b0 := bktE_0.1 t3
          have E1 : Hid ((T (k + 1)).1 = (T k).1 + y - min ((T k).1 + y) (T k).2.1) := by show _ = _; rw [hst, ← goes_min]; rfl
          have E2 : Hid ((T (k + 1)).2.1 = fillH s r ((T k).2.1 - min ((T k).1 + y) (T k).2.1)) := by show _ = _; rw [hst, ← goes_min]; rfl
          have E3 : Hid ((T (k + 1)).2.2 = (T k).2.2 ++ [min ((T k).1 + y) (T k).2.1]) := by show _ = _; rw [hst, ← goes_min]; rfl
          clear hst t3
          generalize (T k).1 = wa at *
          generalize (T k).2.1 = ha at *
          have HN : Hid (RowAt (wr.setCell ⟨w2.heap.size, k, none⟩ (.int .i64 (min (wa + y) ha))) w2.heap.size 3 (((T (k + 1)).2.2 ++ List.replicate (l.length - (k + 1)) 0).map (Value.int .i64))) := row_set hgo.out t4 hlt E3.out
          have hcell : ∃ z, wr.cell? ⟨w2.heap.size, k, none⟩ = some z := by
            have hlen : k < (((T k).2.2 ++ List.replicate (l.length - k) 0).map (Value.int .i64)).length := by simp; omega
            exact ⟨_, hgo.out.cell (List.getElem?_eq_getElem hlen)⟩
          obtain ⟨z, cz⟩ := hcell
          have fz := hgo.out.frozen k
          have gz := hgo.out.lt
          have hwa : IntKind.i64.wrap (wa + y) = wa + y := by rw [IntKind.wrap_i64]; omega
          have hwb : IntKind.i64.wrap (wa + y - min (wa + y) ha) = wa + y - min (wa + y) ha := by rw [IntKind.wrap_i64]; omega
          have hwc : IntKind.i64.wrap (ha - min (wa + y) ha) = ha - min (wa + y) ha := by rw [IntKind.wrap_i64]; omega
          have hbn : bktE s r (ha - min (wa + y) ha) = 0 := bktE_0.2 (by omega)
          have HF1 : Hid (∀ u : World, Calls Try.prog 15 #[.agg #[.int .i64 s, .int .i64 r, .int .i64 (ha - min (wa + y) ha)]] u fun e w' => e = .returned (.agg #[.int .i64 s, .int .i64 r, .int .i64 (fillH s r (ha - min (wa + y) ha))]) ∧ Below u.heap.size u w') := fun u => HFi.out _ u hbn
          clear hbn b0 E3
          generalize fillH s r (ha - min (wa + y) ha) = hf at *
          obtain ⟨d0, d1, d2, z0, z1, z2, hgz⟩ := hrow.out.three
          go_wp2_with fail
          go_region
          go_wp2_with fail
          refine (HF1.out _).mono ?_
          rintro e w3 ⟨rfl, hw3⟩
          have z3 : wr.heap.size ≤ w3.heap.size := by have := hw3.size; simpa using this
          have GN : Hid (RowAt w3 w2.heap.size 3 (((T (k + 1)).2.2 ++ List.replicate (l.length - (k + 1)) 0).map (Value.int .i64))) := RowAt.later hw3 (by simpa using gz) (HN.out.other (a := ⟨w.heap.size, 2, none⟩) (by simp; omega) _)
          have RN : Hid (RowAt w3 w.heap.size 23 [.int .i64 s, .int .i64 r, .int .i64 (ha - min (wa + y) ha)]) := RowAt.later hw3 (by simpa using hgz) ((hrow.out.other (a := ⟨w2.heap.size, k, none⟩) (by simp; omega) _).set 2 _)
          have b1 : Below w.heap.size w (wr.setCell ⟨w2.heap.size, k, none⟩ (.int .i64 (min (wa + y) ha))) := hbel.out.setCell (by simp; omega) _
          have b2 : Below w.heap.size w ((wr.setCell ⟨w2.heap.size, k, none⟩ (.int .i64 (min (wa + y) ha))).setCell ⟨w.heap.size, 2, none⟩ (.int .i64 (ha - min (wa + y) ha))) := b1.setCell (Nat.le_refl _) _
          have BN : Hid (Below w.heap.size w w3) := b2.drew.trans (hw3.mono (by simp; omega))
          clear b1 b2
          clear hw3 HN d0 d1 d2 z0 z1 z2 hgz c0 cz fz
          obtain ⟨d0, d1, d2, z0, z1, z2, hgz⟩ := RN.out.three
          have R4 : Hid (RowAt (((w3.setCell ⟨w.heap.size, 0, none⟩ (.int .i64 s)).setCell ⟨w.heap.size, 1, none⟩ (.int .i64 r)).setCell ⟨w.heap.size, 2, none⟩ (.int .i64 hf)) w.heap.size 23 [.int .i64 s, .int .i64 r, .int .i64 (T (k + 1)).2.1]) := by rw [E2.out]; exact RN.out.set3 _ _ _
          have G4 : Hid (RowAt (((w3.setCell ⟨w.heap.size, 0, none⟩ (.int .i64 s)).setCell ⟨w.heap.size, 1, none⟩ (.int .i64 r)).setCell ⟨w.heap.size, 2, none⟩ (.int .i64 hf)) w2.heap.size 3 (((T (k + 1)).2.2 ++ List.replicate (l.length - (k + 1)) 0).map (Value.int .i64))) := ((GN.out.other (a := ⟨w.heap.size, 0, none⟩) (by simp; omega) _).other (a := ⟨w.heap.size, 1, none⟩) (by simp; omega) _).other (a := ⟨w.heap.size, 2, none⟩) (by simp; omega) _
          have B4 : Hid (Below w.heap.size w (((w3.setCell ⟨w.heap.size, 0, none⟩ (.int .i64 s)).setCell ⟨w.heap.size, 1, none⟩ (.int .i64 r)).setCell ⟨w.heap.size, 2, none⟩ (.int .i64 hf))) := ((BN.out.setCell (Nat.le_refl _) _).setCell (Nat.le_refl _) _).setCell (Nat.le_refl _) _
          go_wp2
          go_roundw
          case rel => exact ⟨k + 1, by omega, by go_num, by rw [E1.out], G4, R4, B4⟩
          case measure => simp [intOf]; omega
        · obtain rfl : k = l.length := by omega
          have HI : Hid (IntsAt (fun b => w.heap.size ≤ b) wr (.slice (some ⟨w2.heap.size, 0, none⟩) l.length l.length) SL) := by
            have hln := (HA.out _ (Nat.le_refl _)).2.2.2
            have := hgo.out
            rw [Nat.sub_self, HE.out] at this
            rw [HE.out] at hln
            have h2 := intsRow (Q := fun b => w.heap.size ≤ b) (sp := []) (c := l.length) (l := SL) (g := w2.heap.size) (w := wr) (by simpa using this) (by omega) (by omega) (by omega)
            rw [hln] at h2
            exact h2
          go_wp2
          exact bodyPost_ret (v := .tuple #[.slice (some ⟨w2.heap.size, 0, none⟩) l.length l.length, .nilIface]) (by simp [results, Try.results7, go_sem]) rfl ⟨_, rfl, HI.out, hbel.out⟩
    · have hE : sendE s r h l = ticksE l := by rw [sendE, if_pos hk]
      rw [hE]
      rw [hk, errV_0] at HK
      rw [errV_ne ht] at HT ⊢
      rw [okL_ne ht]
      generalize ticksE l = tk at *
      clear hE hk ht
      go_enter Try.func7, Try.ntmps7
      go_wp2_with fail
      refine (HK.out _).mono ?_
      rintro e w1 ⟨rfl, hw1⟩
      have B1 : Hid (Below w.heap.size w w1) := (HKp.out _ hw1).1
      clear hw1
      go_wp2_with fail
      refine (HT.out _ B1.out).mono ?_
      rintro e w2 ⟨rfl, hw2⟩
      have B2 : Hid (Below w.heap.size w w2) := Bel.call B1.out (Nat.le_refl _) hw2
      clear hw2
      go_wp2
      exact bodyPost_ret (v := .tuple #[.slice none 0 0, .iface 50 (.int .i64 tk)]) (by simp [results, Try.results7, go_sem]) rfl ⟨_, rfl, nil_intsB _, B2.out⟩
  · have hE : sendE s r h l = bktE s r h := by rw [sendE, if_neg hk]
    rw [hE]
    rw [errV_ne hk] at HK ⊢
    rw [okL_ne hk]
    generalize bktE s r h = bk at *
    clear hE hk
    go_enter Try.func7, Try.ntmps7
    go_wp2_with fail
    refine (HK.out _).mono ?_
    rintro e w1 ⟨rfl, hw1⟩
    have B1 : Hid (Below w.heap.size w w1) := (HKp.out _ hw1).1
    clear hw1
    go_wp2
    exact bodyPost_ret (v := .tuple #[.slice none 0 0, .iface 50 (.int .i64 bk)]) (by simp [results, Try.results7, go_sem]) rfl ⟨_, rfl, nil_intsB _, B1.out⟩
end Ev
end Go.Proofs.Ytoahbapdcghokaf
