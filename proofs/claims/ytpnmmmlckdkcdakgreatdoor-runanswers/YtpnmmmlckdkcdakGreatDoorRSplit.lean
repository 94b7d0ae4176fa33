/- The document's Split (package fairref2): so many in parts. -/
import Derived.Test.YtpnmmmlckdkcdakGreatDoorRWts
import Derived.Test.YtpnmmmlckdkcdakGreatDoorPlains
import Derived.BigQuiet
namespace Go.Proofs.YtpnmmmlckdkcdakGreatDoor
namespace Ev
open Go.RowKit Fr Ns Ld Fl
set_option linter.unusedSimpArgs false
set_option linter.unusedVariables false

set_option maxRecDepth 100000 in
set_option maxHeartbeats 8000000 in
theorem RSplit_row {Q : Nat → Prop} (many : Int) (l : List Int) (v : Value) (w : World) (h : IntsAt Q w v l) (hE : idxE l = 0) (m0 : 0 ≤ many) (m1 : many ≤ 10000) :
    Calls Tryz.prog 60 #[.int .i64 many, v] w fun e w' => ∃ y, e = .returned y ∧ OwnInts w.heap.size w' y (splitL many l) ∧ Below w.heap.size w w' := by
  obtain ⟨t1, n1, n6, hb⟩ := idx_tot hE
  have t2 : tot l ≤ 6000 := (idx_parts hE).2.1
  have HT : Hid (Calls Tryz.prog 59 #[v] w fun e w' => e = .returned (.int .i64 (tot l)) ∧ w' = w) := RTot_any l v w h (by omega) (fun x hx => by have := hb x hx; omega)
  have Hx : Hid (∀ i, i < l.length → 0 ≤ l.getD i 0 ∧ l.getD i 0 ≤ 1000 ∧ 0 ≤ many * l.getD i 0 ∧ many * l.getD i 0 ≤ 10000000) := fun i hi => by
    have := hb _ (getD_mem l i hi 0)
    refine ⟨this.1, this.2, Int.mul_nonneg m0 this.1, ?_⟩
    have : many * l.getD i 0 ≤ 10000 * 1000 := Int.mul_le_mul m1 this.2 this.1 (by decide)
    omega
  have HB : Hid (∀ i, i < l.length → ∃ P, many * l.getD i 0 = P ∧ baseG many (tot l) (l.getD i 0) = P / tot l ∧ restG many (tot l) (l.getD i 0) = P % tot l ∧ 0 ≤ P / tot l ∧ P / tot l ≤ 10000000) := fun i hi => by
    obtain ⟨_, _, p0, p1⟩ := Hx.out i hi
    refine ⟨_, rfl, rfl, rfl, Int.ediv_nonneg p0 (by omega), ?_⟩
    exact Int.le_trans (Int.ediv_le_self _ p0) p1
  have HL : Hid (∀ k, k ≤ l.length → 0 ≤ tot ((l.take k).map (baseG many (tot l))) ∧ tot ((l.take k).map (baseG many (tot l))) ≤ 60000000) := fun k hk => by
    have hm : ∀ y ∈ (l.take k).map (baseG many (tot l)), 0 ≤ y ∧ y ≤ 10000000 := fun y hy => by
      obtain ⟨x, hx, rfl⟩ := List.mem_map.1 hy
      obtain ⟨i, hi, rfl⟩ := List.mem_iff_getElem.1 (List.mem_of_mem_take hx)
      obtain ⟨P, e1, e2, e3, e4, e5⟩ := HB.out i hi
      have : l.getD i 0 = l[i] := by simp [List.getD, List.getElem?_eq_getElem hi]
      rw [← this, e2]
      exact ⟨e4, e5⟩
    have := tot_bd hm
    refine ⟨this.1, Int.le_trans this.2 ?_⟩
    have : (((l.take k).map (baseG many (tot l))).length : Int) ≤ 6 := by simp; omega
    omega
  have HS : Hid (∀ k, k < l.length → (l.take (k + 1)).map (baseG many (tot l)) = (l.take k).map (baseG many (tot l)) ++ [baseG many (tot l) (l.getD k 0)]) := fun k hk => by rw [take_snoc l k hk 0, List.map_append]; rfl
  have HLe : Hid (many - tot ((l.take l.length).map (baseG many (tot l))) = leftG many l) := by show _ = _; rw [List.take_length]; rfl
  have HLb : Hid (0 ≤ leftG many l ∧ leftG many l ≤ l.length) := by
    have := left_bd (many := many) (w := l) t1
    have h2 : l.countP (fun x => decide (0 < restG many (tot l) x)) ≤ l.length := List.countP_le_length
    exact ⟨this.1, by omega⟩
  have HK : Hid (∀ i, keyG many l i = -restG many (tot l) (l.getD i 0)) := fun i => rfl
  have HO0 : Hid (outK (keyG many l) (fun i => baseG many (tot l) (l.getD i 0)) l.length 0 = (l.take l.length).map (baseG many (tot l))) := by show _ = _; rw [outK_0, range_map, List.take_length]
  have HST : Hid (∀ k, k < l.length → ∃ b, bestK (keyG many l) (fun i => (gotK (keyG many l) l.length k).getD i false) l.length = some b ∧ b < l.length ∧ (outK (keyG many l) (fun i => baseG many (tot l) (l.getD i 0)) l.length k).getD b 0 = baseG many (tot l) (l.getD b 0) ∧ (gotK (keyG many l) l.length k).getD b false = false ∧
    outK (keyG many l) (fun i => baseG many (tot l) (l.getD i 0)) l.length (k + 1) = (outK (keyG many l) (fun i => baseG many (tot l) (l.getD i 0)) l.length k).set b (baseG many (tot l) (l.getD b 0) + 1) ∧ gotK (keyG many l) l.length (k + 1) = (gotK (keyG many l) l.length k).set b true) := fun k hk => step_K (base := fun i => baseG many (tot l) (l.getD i 0)) hk
  have HOE : Hid (splitL many l = outK (keyG many l) (fun i => baseG many (tot l) (l.getD i 0)) l.length (leftG many l).toNat) := splitL_out
  have HOl : Hid (∀ k, (outK (keyG many l) (fun i => baseG many (tot l) (l.getD i 0)) l.length k).length = l.length) := fun k => outK_length _ _ _ _
  have HGl : Hid (∀ k, (gotK (keyG many l) l.length k).length = l.length) := fun k => gotK_length _ _ _
  have HG0 : Hid (gotK (keyG many l) l.length 0 = List.replicate l.length false) := gotK_0 _ _
  have HKG : Hid (∀ i, i < l.length → restG many (tot l) (l.getD i 0) = many * l.getD i 0 % tot l) := fun i _ => rfl
  generalize outK (keyG many l) (fun i => baseG many (tot l) (l.getD i 0)) l.length = oK at *
  generalize gotK (keyG many l) l.length = gK at *
  generalize keyG many l = key at *
  have HRl : Hid ((splitL many l).length = l.length) := splitL_length _ _
  generalize splitL many l = res at *
  generalize leftG many l = L at *
  obtain ⟨a, cap, rfl, ⟨hm, hm2⟩, h'⟩ := id h
  have HC : Hid (∀ i, i < l.length → ∃ b off, a = some ⟨b, off, none⟩ ∧ ∀ u, Below w.heap.size w u → u.cell? ⟨b, off + i, none⟩ = some (.int .i64 (l.getD i 0))) := ints_cells h
  obtain ⟨k0, hKI, hx0, hx1, hx2⟩ := info_parts infoInt
  obtain ⟨j0, hJ, hy0, hy1, hy2⟩ := info_parts infoB
  have ht0 : ¬ tot l = 0 := by omega
  clear h h' hE hb
  generalize tot l = T at *
  go_enter Tryz.func60, Tryz.ntmps60
  go_wp2_with fail
  refine HT.out.mono ?_
  rintro e w ⟨rfl, rfl⟩
  go_wp2
  go_loopw [6, 7, 8, 9] (fun s6 s7 s8 _ wr => ∃ k : Nat, k ≤ l.length ∧ s8 = .int .i64 k ∧ s7 = .int .i64 (many - tot ((l.take k).map (baseG many T))) ∧ Hid (wr.ownsRow w.heap.size 3 1 s6 k (((l.take k).map (baseG many T)).map (Value.int .i64))) ∧ Hid (Below w.heap.size w wr)) (fun _ _ s8 _ _ => l.length - (intOf s8).toNat)
  case atStart => exact ⟨0, by omega, rfl, by simp [tot], World.ownsRow_nil _ _ _ _, Below.refl _ _⟩
  case round =>
    obtain ⟨k, hk, rfl, rfl, ho, hbl⟩ := hrel
    obtain ⟨a6, c6, rfl⟩ := own_slice ho.out
    by_cases hlt : k < l.length
    · obtain ⟨b, off, rfl, hc⟩ := HC.out k hlt
      have c0 := hc _ hbl.out
      obtain ⟨x0, x1, p0, p1⟩ := Hx.out k hlt
      obtain ⟨P, hP, e2, e3, e4, e5⟩ := HB.out k hlt
      have hst := HS.out k hlt
      obtain ⟨l0, l1⟩ := HL.out k hk
      have HN : Hid (many - tot ((l.take (k + 1)).map (baseG many T)) = many - tot ((l.take k).map (baseG many T)) - P / T) := by
        show _ = _
        rw [hst, tot_append, e2]
        simp [tot]
        omega
      have HSn : Hid (((l.take (k + 1)).map (baseG many T)).map (Value.int .i64) = ((l.take k).map (baseG many T)).map (Value.int .i64) ++ [.int .i64 (P / T)]) := by
        show _ = _
        rw [hst, e2, List.map_append]
        rfl
      rw [hP] at p0 p1
      clear hc hst e2 e3
      have HON : Hid (wr.ownsRow w.heap.size 3 1 (.slice a6 k c6) k (((l.take k).map (baseG many T)).map (Value.int .i64))) := ho
      generalize ((l.take k).map (baseG many T)).map (Value.int .i64) = ys at *
      generalize tot ((l.take k).map (baseG many T)) = S at *
      generalize l.getD k 0 = x at *
      have q1 : IntKind.i64.wrap (many * x) = P := by rw [IntKind.wrap_i64, hP]; omega
      have q2 : P.tdiv T = P / T := Int.tdiv_eq_ediv_of_nonneg p0
      have q3 : IntKind.i64.wrap (P / T) = P / T := by rw [IntKind.wrap_i64]; omega
      have hsz : w.heap.size ≤ wr.heap.size := hbl.out.size
      clear hP ho
      generalize P / T = D at *
      go_wp2_with (at_builtin; go_must (refine wpList_append_own _ rfl _ _ 22 rfl w.heap.size 3 k0 (.int .i64 0) 1 8 Tryz.underlying22 hKI hx0 hx1 hx2 rfl (by decide) _ _ _ rfl (HON.out.alloc _) ⟨_, 0, none⟩ 1 1 [.int .i64 D] rfl rfl (new1 _ _ _ _ ?c1) (by intro u hu; simp at hu; subst hu; rfl) (by unfold maxLen; omega) (by omega) ?c2 ?_))
      case c1 => simp
      case c2 => simp; omega
      intro v' wg hown hgrow _
      have HO2 : Hid (wg.ownsRow w.heap.size 3 1 v' (k + 1) (((l.take (k + 1)).map (baseG many T)).map (Value.int .i64))) := by rw [HSn.out]; simpa [Hid] using hown
      have HB2 : Hid (Below w.heap.size w wg) := hbl.out.trans (grew1 hsz hgrow (fun k hk => (HON.out.lt k hk).1))
      clear hown hgrow
      go_wp2
      go_roundw
      case rel => exact ⟨k + 1, by omega, by go_num, by rw [HN.out], HO2, HB2⟩
      case measure => simp [intOf]; omega
    · obtain rfl : k = l.length := by omega
      obtain ⟨L0, L1⟩ := HLb.out
      have hln : l.length = (oK 0).length := (HOl.out 0).symm
      rw [HLe.out]
      have ho1 : wr.ownsRow w.heap.size 3 1 (.slice a6 l.length c6) l.length ((oK 0).map (Value.int .i64)) := by rw [HO0.out]; exact ho.out
      obtain ⟨g, sp, hga, hgb, hgc, hrow⟩ := owns_row (by omega) ho1
      subst hga
      have RO : Hid (RowAt wr g 3 ((oK 0).map (Value.int .i64) ++ sp)) := hrow
      have hzr : w.heap.size ≤ wr.heap.size := hbl.out.size
      have hgl : g < wr.heap.size := hrow.lt
      clear ho ho1 hrow hln
      go_wp2_with (at_make; go_must (refine wpList_make_full _ rfl _ _ 134 rfl wr.heap.size 4 j0 (.bool false) 1 Tryz.underlying134 hJ hy0 hy1 .i64 .i64 _ _ l.length rfl rfl rfl rfl ?b2 ?b3 ?b4 ?_))
      case b2 => rw [hy2]; omega
      case b3 => unfold maxLen; omega
      case b4 => simp
      intro w2 hown hgrow
      have hown' : w2.ownsRow wr.heap.size 4 1 (.slice (some ⟨wr.heap.size, 0, none⟩) l.length l.length) l.length (madeCells #[.bool false] l.length).toList := by simpa using hown
      rw [madeB] at hown'
      have RG : Hid (RowAt w2 wr.heap.size 4 ((gK 0).map Value.bool)) := by rw [HG0.out]; exact RowAt.of_owns hown'
      have B1 : Below wr.heap.size wr w2 := (Below.refl _ _).grown hgrow (Nat.le_refl _) (by intro k hk; cases hk)
      have RO2 : Hid (RowAt w2 g 3 ((oK 0).map (Value.int .i64) ++ sp)) := RO.out.later B1 hgl
      have B2 : Hid (Below w.heap.size w w2) := hbl.out.trans (B1.mono hzr)
      have hne : ¬ g = wr.heap.size := by omega
      have hne' : ¬ wr.heap.size = g := by omega
      obtain ⟨gg, hgg⟩ : ∃ gg, gg = wr.heap.size := ⟨_, rfl⟩
      rw [← hgg] at RG hne hne' hzr ⊢
      clear hown hgrow hown' B1 RO hbl hgl hgg
      go_wp2
      go_loopw [7, 11, 12] (fun s7 _ _ wr => ∃ k : Nat, (k : Int) ≤ L ∧ s7 = .int .i64 (L - k) ∧ Hid (RowAt wr g 3 ((oK k).map (Value.int .i64) ++ sp)) ∧ Hid (RowAt wr gg 4 ((gK k).map Value.bool)) ∧ Hid (Below w.heap.size w wr)) (fun s7 _ _ _ => (intOf s7).toNat)
      case atStart => exact ⟨0, by omega, by go_num, RO2, RG, B2⟩
      case round =>
        obtain ⟨k, hk, rfl, ro, rg, hbl⟩ := hrel
        by_cases hlt : (k : Int) < L
        · obtain ⟨b, hbest, hbn, hob, hgb', hout, hgot⟩ := HST.out k (by omega)
          obtain ⟨Pb, hPb, e2, e3, e4, e5⟩ := HB.out b hbn
          rw [e2] at hob hout
          have Hout : Hid (oK (k + 1) = (oK k).set b (Pb / T + 1)) := hout
          have Hgot : Hid (gK (k + 1) = (gK k).set b true) := hgot
          have Hbest : Hid (bestK key (fun i => (gK k).getD i false) l.length = some b) := hbest
          have Hob : Hid ((oK k).getD b 0 = Pb / T) := hob
          have S1 : Hid (∀ m, (gK k).getD m false = true → bestK key (fun i => (gK k).getD i false) (m + 1) = bestK key (fun i => (gK k).getD i false) m) := fun m hh => scan_got hh
          have S2 : Hid (∀ m, (gK k).getD m false = false → bestK key (fun i => (gK k).getD i false) m = none → bestK key (fun i => (gK k).getD i false) (m + 1) = some m) := fun m hh => scan_first hh
          have S3 : Hid (∀ m b, (gK k).getD m false = false → bestK key (fun i => (gK k).getD i false) m = some b → key m < key b → bestK key (fun i => (gK k).getD i false) (m + 1) = some m) := fun m b hh => scan_new hh
          have S4 : Hid (∀ m b, bestK key (fun i => (gK k).getD i false) m = some b → ¬ key m < key b → bestK key (fun i => (gK k).getD i false) (m + 1) = some b) := fun m b hh => scan_old hh
          have S5 : Hid (∀ m b, bestK key (fun i => (gK k).getD i false) m = some b → b < m) := fun m b hh => scan_lt hh
          have S0 : Hid (bestK key (fun i => (gK k).getD i false) 0 = none) := rfl
          clear hout hgot hbest hob hgb' hPb e2 e3
          generalize bestK key (fun i => (gK k).getD i false) = bk at *
          have q0 : (L : Int) - (k : Int) > 0 := by omega
          go_wp2
          go_loopw [11, 12] (fun s11 s12 wz => ∃ m : Nat, m ≤ l.length ∧ s12 = .int .i64 m ∧ s11 = .int .i64 (bestI (bk m)) ∧ Hid (RowAt wz g 3 ((oK k).map (Value.int .i64) ++ sp)) ∧ Hid (RowAt wz gg 4 ((gK k).map Value.bool)) ∧ Hid (Below w.heap.size w wz)) (fun _ s12 _ => l.length - (intOf s12).toNat)
          case atStart => exact ⟨0, by omega, rfl, by rw [S0.out]; rfl, ro, rg, hbl⟩
          case round =>
            clear ro rg hbl
            obtain ⟨m, hm', rfl, rfl, ro, rg, hbl⟩ := hrel
            by_cases hlm : m < l.length
            · have cg := rg.out.cell (boolsCell (l := gK k) (i := m) (by rw [HGl.out]; exact hlm))
              obtain ⟨ba, off, rfl, hc⟩ := HC.out m hlm
              have c0 := hc _ hbl.out
              cases hgm : (gK k).getD m false with
              | true =>
                rw [hgm] at cg
                have HN : Hid (bk (m + 1) = bk m) := S1.out m hgm
                clear hc c0 hgm
                go_wp2_with fail
                go_quiet (fail)
                go_wp2
                go_roundw
                case rel => exact ⟨m + 1, by omega, by go_num, by rw [HN.out], ro, rg, below_drewN hbl.out _⟩
                case measure => simp [intOf]; omega
              | false =>
                rw [hgm] at cg
                cases hbm : bk m with
                | none =>
                  have HN : Hid (bk (m + 1) = some m) := S2.out m hgm hbm
                  clear hc c0 hgm
                  simp only [bestI]
                  go_wp2_with fail
                  go_quiet (fail)
                  go_wp2
                  go_roundw
                  case rel => exact ⟨m + 1, by omega, by go_num, (by first | (rw [HN.out]; done) | (rw [HN.out]; rfl)), ro, rg, below_drewN hbl.out _⟩
                  case measure => simp [intOf]; omega
                | some b' =>
                  have hb'm := S5.out m b' hbm
                  have hb'l : b' < l.length := by omega
                  obtain ⟨_, _, hbe, hc'⟩ := HC.out b' hb'l
                  simp only [Option.some.injEq, Addr.mk.injEq, and_true] at hbe
                  obtain ⟨rfl, rfl⟩ := hbe
                  have c1 := hc' _ hbl.out
                  obtain ⟨x0, x1, p0, p1⟩ := Hx.out m hlm
                  obtain ⟨x2, x3, p2, p3⟩ := Hx.out b' hb'l
                  have hKm := HK.out m
                  have hKb := HK.out b'
                  rw [HKG.out m hlm] at hKm
                  rw [HKG.out b' hb'l] at hKb
                  have HNn : Hid (key m < key b' → bk (m + 1) = some m) := S3.out m b' hgm hbm
                  have HNo : Hid (¬ key m < key b' → bk (m + 1) = some b') := fun hh => S4.out m b' hbm (by omega)
                  rw [hKm, hKb] at HNn HNo
                  clear hc hc' hgm hKm hKb
                  have qb : decide ((b' : Int) < 0) = false := by simp
                  have qb' : ¬ ((b' : Int) < 0) := by omega
                  have qb2 : (b' : Int) < (l.length : Int) := by omega
                  generalize l.getD m 0 = x at *
                  generalize l.getD b' 0 = y at *
                  obtain ⟨P, hP⟩ : ∃ P, many * x = P := ⟨_, rfl⟩
                  obtain ⟨R, hR⟩ : ∃ R, many * y = R := ⟨_, rfl⟩
                  rw [hP] at p0 p1
                  rw [hR] at p2 p3
                  rw [hP, hR] at HNn HNo
                  have q1 : IntKind.i64.wrap (many * x) = P := by rw [IntKind.wrap_i64, hP]; omega
                  have q2 : IntKind.i64.wrap (many * y) = R := by rw [IntKind.wrap_i64, hR]; omega
                  have q3 : P.tmod T = P % T := Int.tmod_eq_emod_of_nonneg p0
                  have q4 : R.tmod T = R % T := Int.tmod_eq_emod_of_nonneg p2
                  have y0 : 0 ≤ P % T := Int.emod_nonneg _ ht0
                  have y1 : P % T < T := Int.emod_lt_of_pos _ (by omega)
                  have y2 : 0 ≤ R % T := Int.emod_nonneg _ ht0
                  have y3 : R % T < T := Int.emod_lt_of_pos _ (by omega)
                  have q5 : IntKind.i64.wrap (P % T) = P % T := by rw [IntKind.wrap_i64]; omega
                  have q6 : IntKind.i64.wrap (R % T) = R % T := by rw [IntKind.wrap_i64]; omega
                  clear hP hR p0 p1 p2 p3
                  generalize P % T = pm at *
                  generalize R % T = pb at *
                  simp only [bestI]
                  by_cases hgt : pb < pm
                  · have HN : Hid (bk (m + 1) = some m) := HNn.out (by omega)
                    have z1 : decide (pm > pb) = true := by simp; omega
                    have z2 : decide (pb < pm) = true := by simp; omega
                    go_wp2_with fail
                    go_quiet (fail)
                    go_wp2
                    go_roundw
                    case rel => exact ⟨m + 1, by omega, by go_num, (by first | (rw [HN.out]; done) | (rw [HN.out]; rfl)), ro, rg, below_drewN hbl.out _⟩
                    case measure => simp [intOf]; omega
                  · have HN : Hid (bk (m + 1) = some b') := HNo.out (by omega)
                    have z1 : decide (pm > pb) = false := by simp; omega
                    have z2 : decide (pb < pm) = false := by simp; omega
                    go_wp2_with fail
                    go_quiet (fail)
                    go_wp2
                    go_roundw
                    case rel => exact ⟨m + 1, by omega, by go_num, (by first | (rw [HN.out]; done) | (rw [HN.out]; rfl)), ro, rg, below_drewN hbl.out _⟩
                    case measure => simp [intOf]; omega
            · obtain rfl : m = l.length := by omega
              have HBI : Hid (bestI (bk l.length) = b) := by rw [Hbest.out]; rfl
              rw [HBI.out]
              have c1 := rg.out.cell (boolsCell (l := gK k) (i := b) (by rw [HGl.out]; exact hbn))
              have c2 := rg.out.frozen b
              have c3 := ro.out.cell (intsCell (l := oK k) (sp := sp) (i := b) (by rw [HOl.out]; exact hbn))
              rw [Hob.out] at c3
              have c4 := ro.out.frozen b
              have hb' : (b : Int) < (l.length : Int) := by omega
              have hw1 : IntKind.i64.wrap (Pb / T + 1) = Pb / T + 1 := by rw [IntKind.wrap_i64]; omega
              have RO3 : Hid (RowAt ((wr.setCell ⟨gg, b, none⟩ (.bool true)).setCell ⟨g, b, none⟩ (.int .i64 (Pb / T + 1))) g 3 ((oK (k + 1)).map (Value.int .i64) ++ sp)) := by
                show RowAt _ _ _ _
                rw [Hout.out, ← intsSet (by rw [HOl.out]; exact hbn)]
                exact (ro.out.other (a := ⟨gg, b, none⟩) (by simpa using hne') _).set b _
              have RG3 : Hid (RowAt ((wr.setCell ⟨gg, b, none⟩ (.bool true)).setCell ⟨g, b, none⟩ (.int .i64 (Pb / T + 1))) gg 4 ((gK (k + 1)).map Value.bool)) := by
                show RowAt _ _ _ _
                rw [Hgot.out, ← boolsSet]
                exact (rg.out.set b _).other (a := ⟨g, b, none⟩) (by simpa using hne) _
              have HB3 : Hid (Below w.heap.size w ((wr.setCell ⟨gg, b, none⟩ (.bool true)).setCell ⟨g, b, none⟩ (.int .i64 (Pb / T + 1)))) := (hbl.out.setCell (by simp; omega) _).setCell (by simp; omega) _
              generalize Pb / T = D at *
              go_wp2
              go_roundw
              case rel => exact ⟨k + 1, by omega, by go_num, RO3, RG3, HB3⟩
              case measure => simp [intOf]; omega
        · obtain rfl : L = k := by omega
          have HI : Hid (OwnInts w.heap.size wr (.slice (some ⟨g, 0, none⟩) l.length c6) res) := by
            refine ⟨g, c6, sp, by rw [HRl.out], by rw [HRl.out]; exact hgc, hgb, ?_⟩
            rw [HOE.out, Int.toNat_natCast]
            exact ro
          go_wp2
          go_ret
          exact ⟨_, rfl, HI.out, hbl.out⟩

theorem RSplit_any {Q : Nat → Prop} (many : Int) (l : List Int) (v : Value) (w : World) (h : IntsAt Q w v l) (hE : idxE l = 0) (m0 : 0 ≤ many) (m1 : many ≤ 10000) :
    Calls Tryz.prog 60 #[.int .i64 many, v] w fun e w' => ∃ y, e = .returned y ∧ IntsAt (fun b => w.heap.size ≤ b) w' y (splitL many l) ∧ Below w.heap.size w w' := by
  refine (RSplit_row many l v w h hE m0 m1).mono ?_
  rintro e w' ⟨y, rfl, hy, hb⟩
  exact ⟨_, rfl, hy.ints (by rw [splitL_length]; have := (idx_tot hE).2.2.1; omega), hb⟩
end Ev
end Go.Proofs.YtpnmmmlckdkcdakGreatDoor
