/- Package shuffle's Step keeps what the document says. -/
import Derived.Test.YtgbhknagmndbfaiShC
import Derived.Test.YtgbhknagmndbfaiPlains
import Derived.Test.YtgbhknagmndbfaiGvE
namespace Go.Proofs.Ytgbhknagmndbfai
namespace Ev
open Go.RowKit Fr Ns Ld Fl
set_option linter.unusedSimpArgs false
set_option linter.unusedVariables false

theorem nil_intsH {Q : Nat → Prop} (w : World) : IntsAt Q w (.slice none 0 0) [] := ⟨none, 0, rfl, ⟨Nat.le_refl _, by simp⟩, .inl rfl⟩
set_option maxRecDepth 100000 in
set_option maxHeartbeats 8000000 in
theorem sstep_said : SStepSaid := by
  intro Q l part v w h
  have HK : Hid (Calls Try.prog 11 #[v, .int .i64 part] w fun e w' => e = .returned (.tuple #[.int .i64 (okI (shufE l part) (allS l part)), errV (shufE l part)]) ∧ Below w.heap.size w w') := staken_said Q l part v w h
  obtain ⟨a, cap, hv, ⟨hm, hm2⟩, _⟩ := id h
  by_cases hE : shufE l part = 0
  · obtain ⟨⟨n1, n6⟩, ⟨m0, m1⟩, hx, hL, hS, hA⟩ := sh_parts hE
    have HC : Hid (∀ i, i < l.length → ∃ b off, a = some ⟨b, off, none⟩ ∧ ∀ u, Below w.heap.size w u → u.cell? ⟨b, off + i, none⟩ = some (.int .i64 (l.getD i 0))) := by
      rw [hv] at h
      exact ints_cells h
    have HP : Hid (∀ i, i < l.length → ∀ u, Calls Try.prog 12 #[.int .i64 (l.getD i 0), .int .i64 part] u fun e w' => e = .returned (.int .i64 (takeS part (l.getD i 0))) ∧ w' = u) := fun i hi u => shpart_any _ _ u (hx i hi).1 (hx i hi).2.1 m0 m1
    have HF : Hid (∀ u, Below w.heap.size w u → Calls Try.prog 13 #[v] u fun e w' => ∃ y, e = .returned y ∧ OwnInts u.heap.size w' y (sortS (keyS l) (upTo l.length)) ∧ Below u.heap.size u w') := fun u hu => shfirst_any l v u (h.later hu) n1 n6
    have HX : Hid (∀ i, i < l.length → 0 ≤ l.getD i 0 ∧ l.getD i 0 ≤ 10000 ∧ 0 ≤ takeS part (l.getD i 0) ∧ takeS part (l.getD i 0) ≤ l.getD i 0) := hx
    have hAb := hL l.length (Nat.le_refl _)
    rw [hA] at hAb
    obtain ⟨A0, A1⟩ := hAb
    have HSl : Hid ((sortS (keyS l) (upTo l.length)).length = l.length) := by show _ = _; rw [sortS_length, upTo_length]
    have HOE : Hid (shufL l part = outK (fun i => l.getD i 0) (fun i => l.getD i 0 - takeS part (l.getD i 0) + allS l part / l.length) l.length (allS l part % l.length).toNat) := shufL_out
    have HOl : Hid (∀ k, (outK (fun i => l.getD i 0) (fun i => l.getD i 0 - takeS part (l.getD i 0) + allS l part / l.length) l.length k).length = l.length) := fun k => outK_length _ _ _ _
    have HBa : Hid (∀ i, i < l.length → (outK (fun i => l.getD i 0) (fun i => l.getD i 0 - takeS part (l.getD i 0) + allS l part / l.length) l.length 0).getD i 0 = l.getD i 0 - takeS part (l.getD i 0) + allS l part / l.length) := fun i hi => by rw [outK_at hi]; simp
    have HST : Hid (∀ k, k < l.length → ∃ b : Nat, (sortS (keyS l) (upTo l.length)).getD k 0 = b ∧ b < l.length ∧ (outK (fun i => l.getD i 0) (fun i => l.getD i 0 - takeS part (l.getD i 0) + allS l part / l.length) l.length k).getD b 0 = l.getD b 0 - takeS part (l.getD b 0) + allS l part / l.length ∧ outK (fun i => l.getD i 0) (fun i => l.getD i 0 - takeS part (l.getD i 0) + allS l part / l.length) l.length (k + 1) = (outK (fun i => l.getD i 0) (fun i => l.getD i 0 - takeS part (l.getD i 0) + allS l part / l.length) l.length k).set b (l.getD b 0 - takeS part (l.getD b 0) + allS l part / l.length + 1)) := fun k hk => by
      obtain ⟨b, e1, e2, e3⟩ := sortS_rank (κ := keyS l) (key := fun i => l.getD i 0) (fun i hi => by unfold keyS; rw [Int.toNat_natCast]) hk
      obtain ⟨s1, s2⟩ := step_rank (base := fun i => l.getD i 0 - takeS part (l.getD i 0) + allS l part / l.length) e2 e3
      exact ⟨b, e1, e2, s1, s2⟩
    have HOk : Hid (okL (shufE l part) (shufL l part) = shufL l part) := if_pos hE
    rw [HOk.out]
    rw [hE, errV_0, okI_0] at HK
    rw [hE, errV_0]
    generalize outK (fun i => l.getD i 0) (fun i => l.getD i 0 - takeS part (l.getD i 0) + allS l part / l.length) l.length = oK at *
    generalize shufL l part = res at *
    generalize sortS (keyS l) (upTo l.length) = sl at *
    obtain ⟨A, hAe⟩ : ∃ A, A = allS l part := ⟨_, rfl⟩
    rw [← hAe] at HK A0 A1 HBa HST HOE
    have z1 : A.tdiv (l.length : Int) = A / l.length := Int.tdiv_eq_ediv_of_nonneg A0
    have z2 : A.tmod (l.length : Int) = A % l.length := Int.tmod_eq_emod_of_nonneg A0
    have z3 : 0 ≤ A / (l.length : Int) := Int.ediv_nonneg A0 (by omega)
    have z4 : A / (l.length : Int) ≤ 60000 := Int.le_trans (Int.ediv_le_self _ A0) A1
    have z5 : 0 ≤ A % (l.length : Int) := Int.emod_nonneg _ (by omega)
    have z6 : A % (l.length : Int) < l.length := Int.emod_lt_of_pos _ (by omega)
    have ht0 : ¬ (l.length : Int) = 0 := by omega
    have z7 : IntKind.i64.wrap (A / (l.length : Int)) = A / l.length := by rw [IntKind.wrap_i64]; omega
    have z8 : IntKind.i64.wrap (A % (l.length : Int)) = A % l.length := by rw [IntKind.wrap_i64]; omega
    obtain ⟨k0, hKI, hx0, hx1, hx2⟩ := info_parts infoZ
    generalize A / (l.length : Int) = q at *
    generalize A % (l.length : Int) = L at *
    obtain ⟨N, rfl⟩ : ∃ N : Nat, L = N := ⟨L.toNat, by omega⟩
    rw [Int.toNat_natCast] at HOE
    subst hv
    clear h hx hL hS hA hE hAe HOk
    go_enter Try.func5, Try.ntmps5
    go_wp2_with fail
    refine HK.out.mono ?_
    rintro e w1 ⟨rfl, hw1'⟩
    have B1 : Hid (Below w.heap.size w w1) := hw1'
    clear hw1'
    go_wp2_with fail
    go_quiet (fail)
    have B1' : Hid (Below w.heap.size w (w1.drewN nq)) := below_drewN B1.out _
    clear B1
    generalize w1.drewN nq = w2 at *
    have hs2 : w.heap.size ≤ w2.heap.size := B1'.out.size
    go_wp2_with (at_make; go_must (refine wpList_make_full _ rfl _ _ 22 rfl w2.heap.size 3 k0 (.int .i64 0) 1 Try.underlying22 hKI hx0 hx1 .i64 .i64 _ _ l.length rfl rfl rfl rfl ?b2 ?b3 ?b4 ?_))
    case b2 => rw [hx2]; omega
    case b3 => unfold maxLen; omega
    case b4 => simp
    intro w3 hown hgrow
    have hown' : w3.ownsRow w2.heap.size 3 1 (.slice (some ⟨w2.heap.size, 0, none⟩) l.length l.length) l.length (madeCells #[.int .i64 0] l.length).toList := by simpa using hown
    rw [madeZ] at hown'
    have R3 : Hid (RowAt w3 w2.heap.size 3 ((begL (oK 0) 0 l.length).map (Value.int .i64))) := by rw [begL_0]; exact RowAt.of_owns hown'
    have B3 : Hid (Below w.heap.size w w3) := B1'.out.grown hgrow hs2 (by intro k hk; cases hk)
    obtain ⟨g, hg⟩ : ∃ g, g = w2.heap.size := ⟨_, rfl⟩
    have HG : Hid (w.heap.size ≤ g) := by rw [hg]; exact hs2
    rw [← hg] at R3 ⊢
    clear hown hgrow hown' hg hs2 B1'
    go_wp2
    go_loopw [11, 12, 37] (fun _ _ i wr => ∃ k : Nat, k ≤ l.length ∧ i = .int .i64 k ∧ Hid (RowAt wr g 3 ((begL (oK 0) k l.length).map (Value.int .i64))) ∧ Hid (Below w.heap.size w wr)) (fun _ _ i _ => l.length - (intOf i).toNat)
    case atStart => exact ⟨0, by omega, rfl, R3, B3⟩
    case round =>
      clear R3 B3
      obtain ⟨k, hk, rfl, hro, hbl⟩ := hrel
      by_cases hlt : k < l.length
      · obtain ⟨b, off, rfl, hc⟩ := HC.out k hlt
        have c0 := hc _ hbl.out
        obtain ⟨x0, x1, x2, x3⟩ := HX.out k hlt
        have HP1 : Hid (∀ u, Calls Try.prog 12 #[.int .i64 (l.getD k 0), .int .i64 part] u fun e w' => e = .returned (.int .i64 (takeS part (l.getD k 0))) ∧ w' = u) := HP.out k hlt
        have f0 := hro.out.frozen k
        have c1 := hro.out.cell (beg_cell (HOl.out 0) hk hlt)
        have z0 := hro.out.lt
        have sp : Hid ((begL (oK 0) k l.length).set k (l.getD k 0 - takeS part (l.getD k 0) + q) = begL (oK 0) (k + 1) l.length) := by show _ = _; rw [← HBa.out k hlt]; exact begL_set (HOl.out 0) hlt
        have hlt' : (k : Int) < (l.length : Int) := by omega
        clear hc
        generalize (begL (oK 0) k l.length).getD k 0 = y0 at *
        generalize takeS part (l.getD k 0) = t at *
        generalize l.getD k 0 = x at *
        have q1 : IntKind.i64.wrap (x - t) = x - t := by rw [IntKind.wrap_i64]; omega
        have q2 : IntKind.i64.wrap (x - t + q) = x - t + q := by rw [IntKind.wrap_i64]; omega
        have NP : Hid (RowAt (wr.setCell ⟨g, k, none⟩ (.int .i64 (x - t + q))) g 3 ((begL (oK 0) (k + 1) l.length).map (Value.int .i64))) := by
          show RowAt _ _ _ _
          rw [← sp.out, List.map_set]
          exact hro.out.set k _
        have NB : Hid (Below w.heap.size w (wr.setCell ⟨g, k, none⟩ (.int .i64 (x - t + q)))) := hbl.out.setCell HG.out _
        clear sp
        go_wp2_with fail
        refine (HP1.out _).mono ?_
        rintro e wr ⟨rfl, rfl⟩
        go_wp2
        go_roundw
        case rel => exact ⟨k + 1, by omega, by go_num, NP, NB⟩
        case measure => simp [intOf]; omega
      · obtain rfl : k = l.length := by omega
        have rp := hro.out
        rw [begL_all (HOl.out 0)] at rp
        have RP : Hid (RowAt wr g 3 ((oK 0).map (Value.int .i64))) := rp
        have zp : g < wr.heap.size := rp.lt
        have HF1 : Hid (Calls Try.prog 13 #[.slice a l.length cap] wr fun e w' => ∃ y, e = .returned y ∧ OwnInts wr.heap.size w' y sl ∧ Below wr.heap.size wr w') := HF.out _ hbl.out
        clear rp hro
        go_wp2_with fail
        refine HF1.out.mono ?_
        rintro e w4 ⟨y, rfl, hown, hb4⟩
        obtain ⟨g4, c4, sp4, rfl, hc4, hg4, hr4⟩ := hown
        have B4 : Hid (Below w.heap.size w w4) := hbl.out.trans (hb4.mono hbl.out.size)
        have RP4 : Hid (RowAt w4 g 3 ((oK 0).map (Value.int .i64))) := RP.out.later hb4 zp
        have R4 : Hid (RowAt w4 g4 3 (sl.map (Value.int .i64) ++ sp4)) := hr4
        have hne4 : g4 ≠ g := by omega
        rw [HSl.out] at hc4 ⊢
        have hN : N ≤ l.length := by omega
        have Hc4 : (N : Int) ≤ (c4 : Int) := by omega
        clear hb4 hr4
        go_wp2
        go_loopw [14, 58] (fun _ i wr => ∃ k : Nat, k ≤ N ∧ i = .int .i64 k ∧ Hid (RowAt wr g 3 ((oK k).map (Value.int .i64))) ∧ Hid (RowAt wr g4 3 (sl.map (Value.int .i64) ++ sp4)) ∧ Hid (Below w.heap.size w wr)) (fun _ i _ => N - (intOf i).toNat)
        case atStart => exact ⟨0, by omega, rfl, RP4, R4, B4⟩
        case round =>
          clear RP4 R4 B4 RP hbl
          obtain ⟨k, hk, rfl, Rp, Rs, hbl⟩ := hrel
          by_cases hlt : k < N
          · obtain ⟨b, hsb, hbn, hob, hoo⟩ := HST.out k (by omega)
            obtain ⟨x0, x1, x2, x3⟩ := HX.out b hbn
            have c0 := Rs.out.cell (intsCell (l := sl) (sp := sp4) (i := k) (by rw [HSl.out]; omega))
            rw [hsb] at c0
            have c1 := Rp.out.cell (own_cell (HOl.out k) hbn)
            rw [hob] at c1
            have f1 := Rp.out.frozen b
            have z1' := Rp.out.lt
            have hb' : (b : Int) < (l.length : Int) := by omega
            generalize takeS part (l.getD b 0) = t at *
            generalize l.getD b 0 = x at *
            obtain ⟨D, hD⟩ : ∃ D, D = x - t + q := ⟨_, rfl⟩
            rw [← hD] at c1 hoo
            have hw2 : IntKind.i64.wrap (D + 1) = D + 1 := by rw [IntKind.wrap_i64]; omega
            have NP : Hid (RowAt (wr.setCell ⟨g, b, none⟩ (.int .i64 (D + 1))) g 3 ((oK (k + 1)).map (Value.int .i64))) := by
              show RowAt _ _ _ _
              rw [hoo, List.map_set]
              exact Rp.out.set b _
            have NS : Hid (RowAt (wr.setCell ⟨g, b, none⟩ (.int .i64 (D + 1))) g4 3 (sl.map (Value.int .i64) ++ sp4)) := Rs.out.other (a := ⟨g, b, none⟩) (by simpa using fun e => hne4 e.symm) _
            have NB : Hid (Below w.heap.size w (wr.setCell ⟨g, b, none⟩ (.int .i64 (D + 1)))) := hbl.out.setCell HG.out _
            clear hsb hob hoo hD
            go_wp2
            go_roundw
            case rel => exact ⟨k + 1, by omega, by go_num, NP, NS, NB⟩
            case measure => simp [intOf]; omega
          · obtain rfl : k = N := by omega
            have HI : Hid (IntsAt (fun b => w.heap.size ≤ b) wr (.slice (some ⟨g, 0, none⟩) l.length l.length) res) := by
              have := intsRow (Q := fun b => w.heap.size ≤ b) (sp := []) (c := l.length) (l := oK k) (by rw [List.append_nil]; exact Rp.out) (by rw [HOl.out]; exact Nat.le_refl _) (by rw [HOl.out]; omega) HG.out
              rw [HOl.out] at this
              rw [HOE.out]
              exact this
            go_wp2
            refine bodyPost_ret (v := .tuple #[.slice (some ⟨g, 0, none⟩) l.length l.length, .nilIface]) (by simp [results, Try.results5, go_sem]) rfl ⟨_, rfl, HI.out, hbl.out⟩
  · have HV : Hid (errV (shufE l part) = .iface 54 (.int .i64 (shufE l part))) := errV_ne hE
    have HOk : Hid (okL (shufE l part) (shufL l part) = []) := if_neg hE
    rw [HOk.out]
    rw [HV.out] at HK ⊢
    rw [okI_ne hE] at HK
    clear HV hE HOk
    generalize shufE l part = er at *
    subst hv
    clear h
    go_enter Try.func5, Try.ntmps5
    go_wp2_with fail
    refine HK.out.mono ?_
    rintro e w1 ⟨rfl, hw1⟩
    have HB1 : Hid (Below w.heap.size w w1) := hw1
    clear hw1
    go_wp2
    refine bodyPost_ret (v := .tuple #[.slice none 0 0, .iface 54 (.int .i64 er)]) (by simp [results, Try.results5, go_sem]) rfl ⟨_, rfl, nil_intsH _, HB1.out⟩
end Ev
end Go.Proofs.Ytgbhknagmndbfai
