/- Package give's split: parts of what was checked, and of many that is not below 0. -/
import Derived.Test.YtpnmmmlckdkcdakGreatDoorGvC
import Derived.Deep.DeepCutAuto
namespace Go.Proofs.YtpnmmmlckdkcdakGreatDoor
namespace Ev
open Go.RowKit Fr Ns Ld Fl
set_option linter.unusedSimpArgs false
set_option linter.unusedVariables false

theorem infoZm (n : Nat) (hn : n ≤ 6) : ∃ RC : Array Value, Hid (RC.toList = (List.replicate n (0 : Int)).map (Value.int .i64)) ∧ ∀ u : World, (Instr.makeSlice 22 (.int .i64 (n : Int)) (.int .i64 (n : Int))).run Tryz.prog u = .ok (.slice (some ⟨u.heap.size, 0, none⟩) n n) (u.alloc (.cells RC 3)) := by
  obtain ⟨k0, hKI, hx0, hx1, hx2⟩ := info_parts infoZ
  refine ⟨madeCells #[.int .i64 0] n, madeZ n, fun u => ?_⟩
  have hr := run_make (P := Tryz.prog) u 22 3 k0 (.int .i64 0) Tryz.underlying22 hKI hx0 .i64 .i64 n n (by omega) (Int.le_refl _) (by rw [hx2]; omega) (by omega)
  simp only [Int.toNat_natCast, hx1, Nat.mul_one] at hr
  exact hr
theorem row_zero {w : World} {g n : Nat} {RC : Array Value} (hg : g = w.heap.size) (h : RC.toList = (List.replicate n (0 : Int)).map (Value.int .i64)) : RowAt (w.alloc (.cells RC 3)) g 3 ((List.replicate n (0 : Int)).map (Value.int .i64)) := row_made w RC _ g _ hg h
theorem _root_.Go.Proofs.YtpnmmmlckdkcdakGreatDoor.Fl.RowAt.quiet {w : World} {g : Nat} {T : TypeId} {xs : List Value} (h : RowAt w g T xs) : RowAt w.drew g T xs := h
theorem beg_cell {l : List Int} {k n i : Nat} (h : l.length = n) (hk : k ≤ n) (hi : i < n) : ((begL l k n).map (Value.int .i64))[i]? = some (.int .i64 ((begL l k n).getD i 0)) := by
  have := intsCell (l := begL l k n) (sp := []) (i := i) (by rw [begL_length h hk]; exact hi)
  rwa [List.append_nil] at this
theorem own_cell {l : List Int} {i n : Nat} (h : l.length = n) (hi : i < n) : (l.map (Value.int .i64))[i]? = some (.int .i64 (l.getD i 0)) := by
  have := intsCell (l := l) (sp := []) (i := i) (by omega)
  rwa [List.append_nil] at this

set_option maxRecDepth 100000 in
set_option maxHeartbeats 8000000 in
theorem gsplit_row {Q : Nat → Prop} (many : Int) (l : List Int) (v : Value) (w : World) (h : IntsAt Q w v l) (hE : idxE l = 0) (m0 : 0 ≤ many) (m1 : many ≤ 10000) :
    Calls Tryz.prog 148 #[.int .i64 many, v] w fun e w' => ∃ y, e = .returned y ∧ IntsAt (fun b => w.heap.size ≤ b) w' y (splitL many l) ∧ Below w.heap.size w w' := by
  obtain ⟨t1, n1, n6, hb⟩ := idx_tot hE
  have t2 : tot l ≤ 6000 := (idx_parts hE).2.1
  have HT : Hid (∀ u, Below w.heap.size w u → Calls Tryz.prog 170 #[v] u fun e w' => e = .returned (.int .i64 (tot l)) ∧ w' = u) := fun u hu => gtogether_any l v u (h.later hu) n6 (fun x hx => by have := hb x hx; omega)
  have Hx : Hid (∀ i, i < l.length → ∃ P, many * l.getD i 0 = P ∧ 0 ≤ P ∧ P ≤ 10000000 ∧ (l.map (baseG many (tot l))).getD i 0 = P / tot l ∧ (l.map (restG many (tot l))).getD i 0 = P % tot l ∧ 0 ≤ P / tot l ∧ P / tot l ≤ 10000) := fun i hi => by
    have hx := hb _ (getD_mem l i hi 0)
    obtain ⟨b0, b1⟩ := part_bd hE m0 hi
    have p1 : many * l.getD i 0 ≤ 10000 * 1000 := Int.mul_le_mul m1 hx.2 hx.1 (by decide)
    have e1 : (l.map (baseG many (tot l))).getD i 0 = baseG many (tot l) (l.getD i 0) := by simp [List.getD, List.getElem?_eq_getElem hi]
    have e2 : (l.map (restG many (tot l))).getD i 0 = restG many (tot l) (l.getD i 0) := by simp [List.getD, List.getElem?_eq_getElem hi]
    refine ⟨_, rfl, Int.mul_nonneg m0 hx.1, by omega, e1, e2, b0, ?_⟩
    exact Int.le_trans b1 m1
  have HBl : Hid ((l.map (baseG many (tot l))).length = l.length) := List.length_map _
  have HRl : Hid ((l.map (restG many (tot l))).length = l.length) := List.length_map _
  have HBb : Hid (∀ x ∈ l.map (baseG many (tot l)), 0 ≤ x ∧ x ≤ 10000) := fun x hx => by
    obtain ⟨i, hi, rfl⟩ := List.mem_iff_getElem.1 hx
    rw [HBl.out] at hi
    obtain ⟨P, _, _, _, e, _, p1, p2⟩ := Hx.out i hi
    rw [List.getD_eq_getElem?_getD, List.getElem?_eq_getElem (by rw [HBl.out]; exact hi)] at e
    have e' : (l.map (baseG many (tot l)))[i]'(by rw [HBl.out]; exact hi) = P / tot l := e
    rw [e']
    exact ⟨p1, p2⟩
  have HLe : Hid (many - tot (l.map (baseG many (tot l))) = leftG many l) := rfl
  have HLb : Hid (0 ≤ leftG many l ∧ leftG many l ≤ l.length) := by
    have := left_bd (many := many) (w := l) t1
    have h2 : l.countP (fun x => decide (0 < restG many (tot l) x)) ≤ l.length := List.countP_le_length
    exact ⟨this.1, by omega⟩
  have HTb : Hid (0 ≤ tot (l.map (baseG many (tot l))) ∧ tot (l.map (baseG many (tot l))) ≤ 60000) := by
    have := tot_bd HBb.out
    rw [HBl.out] at this
    exact ⟨this.1, by omega⟩
  have HP : Hid (∀ k, k < l.length → ∃ b : Nat, (sortS (keyZ (l.map (restG many (tot l)))) (upTo l.length)).getD k 0 = b ∧ b < l.length ∧ (outK (keyG many l) (fun i => baseG many (tot l) (l.getD i 0)) l.length k).getD b 0 = (l.map (baseG many (tot l))).getD b 0 ∧ outK (keyG many l) (fun i => baseG many (tot l) (l.getD i 0)) l.length (k + 1) = (outK (keyG many l) (fun i => baseG many (tot l) (l.getD i 0)) l.length k).set b ((l.map (baseG many (tot l))).getD b 0 + 1)) := fun k hk => by
    obtain ⟨b, e1, e2, e3⟩ := sortS_rank (κ := keyZ (l.map (restG many (tot l)))) (key := keyG many l) (fun i hi => by
      unfold keyZ keyG
      rw [Int.toNat_natCast]
      simp [List.getD, List.getElem?_eq_getElem hi]) hk
    obtain ⟨s1, s2⟩ := step_rank (base := fun i => baseG many (tot l) (l.getD i 0)) e2 e3
    have e4 : (l.map (baseG many (tot l))).getD b 0 = baseG many (tot l) (l.getD b 0) := by simp [List.getD, List.getElem?_eq_getElem e2]
    exact ⟨b, e1, e2, by rw [e4]; exact s1, by rw [e4]; exact s2⟩
  have HO0 : Hid (outK (keyG many l) (fun i => baseG many (tot l) (l.getD i 0)) l.length 0 = l.map (baseG many (tot l))) := by show _ = _; rw [outK_0, range_map]
  have HOl : Hid (∀ k, (outK (keyG many l) (fun i => baseG many (tot l) (l.getD i 0)) l.length k).length = l.length) := fun k => outK_length _ _ _ _
  have HOE : Hid (splitL many l = outK (keyG many l) (fun i => baseG many (tot l) (l.getD i 0)) l.length (leftG many l).toNat) := splitL_out
  have HSl : Hid ((sortS (keyZ (l.map (restG many (tot l)))) (upTo l.length)).length = l.length) := by show _ = _; rw [sortS_length, upTo_length]
  have HF : Hid (∀ rs g u, rs = l.map (restG many (tot l)) → RowAt u g 3 (rs.map (Value.int .i64)) → Calls Tryz.prog 171 #[.slice (some ⟨g, 0, none⟩) l.length l.length] u fun e w' => ∃ y, e = .returned y ∧ OwnInts u.heap.size w' y (sortS (keyZ (l.map (restG many (tot l)))) (upTo l.length)) ∧ Below u.heap.size u w') := fun rs g u hrs hr => by
    have hi : IntsAt (fun _ => True) u (.slice (some ⟨g, 0, none⟩) rs.length l.length) rs := intsRow (sp := []) (by rw [List.append_nil]; exact hr) (by rw [hrs, HRl.out]; exact Nat.le_refl _) (by rw [hrs, HRl.out]; omega) trivial
    have := gfirst_any rs _ u hi (by rw [hrs, HRl.out]; exact n1) (by rw [hrs, HRl.out]; exact n6)
    rw [hrs, HRl.out] at this
    exact this
  have HG : Hid (∀ bl g u, bl = l.map (baseG many (tot l)) → RowAt u g 3 (bl.map (Value.int .i64)) → Calls Tryz.prog 170 #[.slice (some ⟨g, 0, none⟩) l.length l.length] u fun e w' => e = .returned (.int .i64 (tot bl)) ∧ w' = u) := fun bl g u hbl hr => by
    have hi : IntsAt (fun _ => True) u (.slice (some ⟨g, 0, none⟩) bl.length l.length) bl := intsRow (sp := []) (by rw [List.append_nil]; exact hr) (by rw [hbl, HBl.out]; exact Nat.le_refl _) (by rw [hbl, HBl.out]; omega) trivial
    have := gtogether_any bl _ u hi (by rw [hbl, HBl.out]; exact n6) (by rw [hbl]; exact HBb.out)
    rw [hbl, HBl.out] at this
    rw [hbl]
    exact this
  have HWl : Hid ((splitL many l).length = l.length) := splitL_length _ _
  obtain ⟨RC, hRC, hmk⟩ := infoZm l.length n6
  generalize outK (keyG many l) (fun i => baseG many (tot l) (l.getD i 0)) l.length = oK at *
  generalize splitL many l = res at *
  generalize leftG many l = L at *
  generalize l.map (baseG many (tot l)) = bl at *
  generalize l.map (restG many (tot l)) = rl at *
  generalize sortS (keyZ rl) (upTo l.length) = sl at *
  obtain ⟨a, cap, rfl, ⟨hm, hm2⟩, h'⟩ := id h
  have HC : Hid (∀ i, i < l.length → ∃ b off, a = some ⟨b, off, none⟩ ∧ ∀ u, Below w.heap.size w u → u.cell? ⟨b, off + i, none⟩ = some (.int .i64 (l.getD i 0))) := ints_cells h
  have ht0 : ¬ tot l = 0 := by omega
  clear h h' hE hb HBb
  generalize tot l = T at *
  go_enter Tryz.func148, Tryz.ntmps148
  go_upto_region 1 with fail
  go_cut [5, 6] (fun s5 s6 wc => ∃ gp gr : Nat, s5 = .slice (some ⟨gp, 0, none⟩) l.length l.length ∧ s6 = .slice (some ⟨gr, 0, none⟩) l.length l.length ∧ (gp ≠ gr ∧ w.heap.size ≤ gp ∧ w.heap.size ≤ gr) ∧ Hid (RowAt wc gp 3 ((begL bl 0 l.length).map (Value.int .i64))) ∧ Hid (RowAt wc gr 3 ((begL rl 0 l.length).map (Value.int .i64))) ∧ Hid (Below w.heap.size w wc))
  case first =>
    go_region
    all_goals
      go_wp2_with fail
      go_meet
      case rel =>
        first
          | refine ⟨w.heap.size, w.heap.size + 1, rfl, rfl, ⟨Nat.ne_of_lt (Nat.lt_succ_self _), Nat.le_refl _, Nat.le_succ _⟩, ?_, ?_, ?_⟩
          | refine ⟨w.heap.size + 1, w.heap.size, rfl, rfl, ⟨Nat.ne_of_gt (Nat.lt_succ_self _), Nat.le_succ _, Nat.le_refl _⟩, ?_, ?_, ?_⟩
        · show RowAt _ _ _ _
          rw [begL_0]
          repeat (first | ((with_reducible refine row_zero ?_ hRC.out); (focus (simp; done))) | with_reducible refine RowAt.alloc ?_ _ | with_reducible refine RowAt.quiet ?_)
        · show RowAt _ _ _ _
          rw [begL_0]
          repeat (first | ((with_reducible refine row_zero ?_ hRC.out); (focus (simp; done))) | with_reducible refine RowAt.alloc ?_ _ | with_reducible refine RowAt.quiet ?_)
        · show Below _ _ _
          repeat (first | with_reducible exact Below.refl _ _ | with_reducible refine Below.drew ?_ | with_reducible refine Bel.more ?_ (Nat.le_refl _) _)
  case rest =>
    obtain ⟨gp, gr, rfl, rfl, ⟨hne, lp, lr⟩, Rp, Rr, hbc⟩ := hcut
    clear hmk hRC
    go_wp2_with fail
    refine (HT.out _ hbc.out).mono ?_
    rintro e w1 ⟨rfl, rfl⟩
    go_wp2
    go_loopw [8, 9, 23] (fun _ _ i wr => ∃ k : Nat, k ≤ l.length ∧ i = .int .i64 k ∧ Hid (RowAt wr gp 3 ((begL bl k l.length).map (Value.int .i64))) ∧ Hid (RowAt wr gr 3 ((begL rl k l.length).map (Value.int .i64))) ∧ Hid (Below w.heap.size w wr)) (fun _ _ i _ => l.length - (intOf i).toNat)
    case atStart => exact ⟨0, by omega, rfl, Rp, Rr, hbc⟩
    case round =>
      clear Rp Rr hbc
      obtain ⟨k, hk, rfl, Rp, Rr, hbl⟩ := hrel
      by_cases hlt : k < l.length
      · obtain ⟨b, off, rfl, hc⟩ := HC.out k hlt
        have c0 := hc _ hbl.out
        obtain ⟨P, hP, p0, p1, e1, e2, d0, d1⟩ := Hx.out k hlt
        have fp := Rp.out.frozen k
        have fr := Rr.out.frozen k
        have cp := Rp.out.cell (beg_cell HBl.out hk hlt)
        have cr := Rr.out.cell (beg_cell HRl.out hk hlt)
        have zp := Rp.out.lt
        have zr := Rr.out.lt
        have sp : Hid ((begL bl k l.length).set k (P / T) = begL bl (k + 1) l.length) := by show _ = _; rw [← e1]; exact begL_set HBl.out hlt
        have sr : Hid ((begL rl k l.length).set k (P % T) = begL rl (k + 1) l.length) := by show _ = _; rw [← e2]; exact begL_set HRl.out hlt
        have hlt' : (k : Int) < (l.length : Int) := by omega
        clear hc e1 e2
        generalize (begL bl k l.length).getD k 0 = y1 at *
        generalize (begL rl k l.length).getD k 0 = y2 at *
        generalize l.getD k 0 = x at *
        have q1 : IntKind.i64.wrap (many * x) = P := by rw [IntKind.wrap_i64, hP]; omega
        have q2 : P.tdiv T = P / T := Int.tdiv_eq_ediv_of_nonneg p0
        have q3 : IntKind.i64.wrap (P / T) = P / T := by rw [IntKind.wrap_i64]; omega
        have q4 : P.tmod T = P % T := Int.tmod_eq_emod_of_nonneg p0
        have r0 : 0 ≤ P % T := Int.emod_nonneg _ ht0
        have r1 : P % T < T := Int.emod_lt_of_pos _ (by omega)
        have q5 : IntKind.i64.wrap (P % T) = P % T := by rw [IntKind.wrap_i64]; omega
        clear hP
        generalize P / T = D at *
        generalize P % T = R at *
        have NP : Hid (RowAt ((wr.setCell ⟨gp, k, none⟩ (.int .i64 D)).setCell ⟨gr, k, none⟩ (.int .i64 R)) gp 3 ((begL bl (k + 1) l.length).map (Value.int .i64))) := by
          show RowAt _ _ _ _
          rw [← sp.out, List.map_set]
          exact (Rp.out.set k _).other (a := ⟨gr, k, none⟩) (by simpa using fun e => hne e.symm) _
        have NR : Hid (RowAt ((wr.setCell ⟨gp, k, none⟩ (.int .i64 D)).setCell ⟨gr, k, none⟩ (.int .i64 R)) gr 3 ((begL rl (k + 1) l.length).map (Value.int .i64))) := by
          show RowAt _ _ _ _
          rw [← sr.out, List.map_set]
          exact (Rr.out.other (a := ⟨gp, k, none⟩) (by simpa using hne) _).set k _
        have NB : Hid (Below w.heap.size w ((wr.setCell ⟨gp, k, none⟩ (.int .i64 D)).setCell ⟨gr, k, none⟩ (.int .i64 R))) := (hbl.out.setCell lp _).setCell lr _
        clear sp sr
        go_wp2_with fail
        go_region
        have NP' : Hid (RowAt ((wr.setCell ⟨gp, k, none⟩ (.int .i64 D)).setCell ⟨gr, k, none⟩ (.int .i64 R)).drew gp 3 ((begL bl (k + 1) l.length).map (Value.int .i64))) := NP.out
        have NR' : Hid (RowAt ((wr.setCell ⟨gp, k, none⟩ (.int .i64 D)).setCell ⟨gr, k, none⟩ (.int .i64 R)).drew gr 3 ((begL rl (k + 1) l.length).map (Value.int .i64))) := NR.out
        have NB' : Hid (Below w.heap.size w ((wr.setCell ⟨gp, k, none⟩ (.int .i64 D)).setCell ⟨gr, k, none⟩ (.int .i64 R)).drew) := NB.out.drew
        clear NP NR NB
        generalize ((wr.setCell ⟨gp, k, none⟩ (.int .i64 D)).setCell ⟨gr, k, none⟩ (.int .i64 R)).drew = wz at *
        go_wp2
        go_roundw
        case rel => exact ⟨k + 1, by omega, by go_num, NP', NR', NB'⟩
        case measure => simp [intOf]; omega
      · obtain rfl : k = l.length := by omega
        have rp := Rp.out
        have rr := Rr.out
        rw [begL_all HBl.out] at rp
        rw [begL_all HRl.out] at rr
        have RP : Hid (RowAt wr gp 3 ((oK 0).map (Value.int .i64))) := by rw [HO0.out]; exact rp
        have HG1 : Hid (Calls Tryz.prog 170 #[.slice (some ⟨gp, 0, none⟩) l.length l.length] wr fun e w' => e = .returned (.int .i64 (tot bl)) ∧ w' = wr) := HG.out bl gp wr rfl rp
        have HF1 : Hid (Calls Tryz.prog 171 #[.slice (some ⟨gr, 0, none⟩) l.length l.length] wr fun e w' => ∃ y, e = .returned y ∧ OwnInts wr.heap.size w' y sl ∧ Below wr.heap.size wr w') := HF.out rl gr wr rfl rr
        have hle := HLe.out
        obtain ⟨L0, L1⟩ := HLb.out
        obtain ⟨b1, b2⟩ := HTb.out
        have zp : gp < wr.heap.size := rp.lt
        clear rp rr Rp Rr
        generalize tot bl = tb at *
        have hw1 : IntKind.i64.wrap (many - tb) = L := by rw [IntKind.wrap_i64, hle]; omega
        clear hle
        go_wp2_with fail
        refine HG1.out.mono ?_
        rintro e w2 ⟨rfl, rfl⟩
        go_wp2_with fail
        refine HF1.out.mono ?_
        rintro e w3 ⟨y, rfl, hown, hb3⟩
        obtain ⟨g3, c3, sp3, rfl, hc3, hg3, hr3⟩ := hown
        have B3 : Hid (Below w.heap.size w w3) := hbl.out.trans (hb3.mono hbl.out.size)
        have RP3 : Hid (RowAt w3 gp 3 ((oK 0).map (Value.int .i64))) := RP.out.later hb3 zp
        have R3 : Hid (RowAt w3 g3 3 (sl.map (Value.int .i64) ++ sp3)) := hr3
        have hne3 : g3 ≠ gp := by omega
        rw [HSl.out] at hc3 ⊢
        obtain ⟨N, rfl⟩ : ∃ N : Nat, L = N := ⟨L.toNat, by omega⟩
        have hN : N ≤ l.length := by omega
        have Hc3 : (N : Int) ≤ (c3 : Int) := by omega
        clear hb3 hr3 hw1
        go_wp2
        go_loopw [12, 54] (fun _ i wr => ∃ k : Nat, k ≤ N ∧ i = .int .i64 k ∧ Hid (RowAt wr gp 3 ((oK k).map (Value.int .i64))) ∧ Hid (RowAt wr g3 3 (sl.map (Value.int .i64) ++ sp3)) ∧ Hid (Below w.heap.size w wr)) (fun _ i _ => N - (intOf i).toNat)
        case atStart => exact ⟨0, by omega, rfl, RP3, R3, B3⟩
        case round =>
          clear RP3 R3 B3 RP hbl
          obtain ⟨k, hk, rfl, Rp, Rs, hbl⟩ := hrel
          by_cases hlt : k < N
          · obtain ⟨b, hsb, hbn, hob, hoo⟩ := HP.out k (by omega)
            obtain ⟨P, _, _, _, e1, _, d0, d1⟩ := Hx.out b hbn
            rw [e1] at hob hoo
            have c0 := Rs.out.cell (intsCell (l := sl) (sp := sp3) (i := k) (by rw [HSl.out]; omega))
            rw [hsb] at c0
            have c1 := Rp.out.cell (own_cell (HOl.out k) hbn)
            rw [hob] at c1
            have f1 := Rp.out.frozen b
            have z1 := Rp.out.lt
            have hb' : (b : Int) < (l.length : Int) := by omega
            have NP : Hid (RowAt (wr.setCell ⟨gp, b, none⟩ (.int .i64 (P / T + 1))) gp 3 ((oK (k + 1)).map (Value.int .i64))) := by
              show RowAt _ _ _ _
              rw [hoo, List.map_set]
              exact Rp.out.set b _
            have NS : Hid (RowAt (wr.setCell ⟨gp, b, none⟩ (.int .i64 (P / T + 1))) g3 3 (sl.map (Value.int .i64) ++ sp3)) := Rs.out.other (a := ⟨gp, b, none⟩) (by simpa using fun e => hne3 e.symm) _
            have NB : Hid (Below w.heap.size w (wr.setCell ⟨gp, b, none⟩ (.int .i64 (P / T + 1)))) := hbl.out.setCell lp _
            clear hsb hob hoo e1
            generalize P / T = D at *
            have hw2 : IntKind.i64.wrap (D + 1) = D + 1 := by rw [IntKind.wrap_i64]; omega
            go_wp2
            go_roundw
            case rel => exact ⟨k + 1, by omega, by go_num, NP, NS, NB⟩
            case measure => simp [intOf]; omega
          · obtain rfl : k = N := by omega
            have HI : Hid (IntsAt (fun b => w.heap.size ≤ b) wr (.slice (some ⟨gp, 0, none⟩) l.length l.length) res) := by
              have e : res = oK k := by rw [HOE.out, Int.toNat_natCast]
              have := intsRow (Q := fun b => w.heap.size ≤ b) (sp := []) (c := l.length) (l := oK k) (by rw [List.append_nil]; exact Rp.out) (by rw [HOl.out]; exact Nat.le_refl _) (by rw [HOl.out]; omega) lp
              rw [HOl.out] at this
              rw [e]
              exact this
            go_wp2
            go_ret
            exact ⟨_, rfl, HI.out, hbl.out⟩
end Ev
end Go.Proofs.YtpnmmmlckdkcdakGreatDoor
