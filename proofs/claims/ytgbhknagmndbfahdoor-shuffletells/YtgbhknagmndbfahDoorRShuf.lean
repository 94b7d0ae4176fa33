/- The document's Shuffle (package fairref2): a part goes from all to all. -/
import Derived.Test.YtgbhknagmndbfahDoorRFew
import Derived.Test.YtgbhknagmndbfahDoorPlains
import Derived.BigQuiet
namespace Go.Proofs.YtgbhknagmndbfahDoor
namespace Ev
open Go.RowKit Fr Ns Ld Fl
set_option linter.unusedSimpArgs false
set_option linter.unusedVariables false

/-- what is left of each, the first j with their share of what was taken -/
def midS (l : List Int) (part q : Int) (j : Nat) : List Int := (List.range l.length).map fun i => (l.getD i 0 - takeS part (l.getD i 0)) + if i < j then q else 0
theorem midS_length (l : List Int) (part q : Int) (j : Nat) : (midS l part q j).length = l.length := by simp [midS]
theorem midS_0 (l : List Int) (part q : Int) : midS l part q 0 = l.map fun x => x - takeS part x := by
  unfold midS
  rw [← range_map l (fun x => x - takeS part x)]
  refine List.map_congr_left fun i _ => ?_
  simp
theorem midS_at {l : List Int} {part q : Int} {j i : Nat} (h : i < l.length) : (midS l part q j).getD i 0 = (l.getD i 0 - takeS part (l.getD i 0)) + if i < j then q else 0 := by
  simp [midS, List.getD, List.getElem?_map, List.getElem?_range h]
theorem midS_next {l : List Int} {part q : Int} {j : Nat} (h : j < l.length) : midS l part q (j + 1) = (midS l part q j).set j (l.getD j 0 - takeS part (l.getD j 0) + q) := by
  apply List.ext_getElem
  · simp [midS]
  · intro i h1 h2
    rw [List.getElem_set]
    simp only [midS, List.getElem_map, List.getElem_range]
    by_cases e : j = i
    · subst e; simp
    · rw [if_neg e]
      congr 1
      by_cases h3 : i < j
      · rw [if_pos h3, if_pos (by omega)]
      · rw [if_neg h3, if_neg (by omega)]
theorem midS_all (l : List Int) (part : Int) : midS l part (allS l part / l.length) l.length = outK (fun i => l.getD i 0) (fun i => l.getD i 0 - takeS part (l.getD i 0) + allS l part / l.length) l.length 0 := by
  rw [outK_0]
  unfold midS
  refine List.map_congr_left fun i hi => ?_
  rw [if_pos (List.mem_range.1 hi)]

set_option maxRecDepth 100000 in
set_option maxHeartbeats 8000000 in
theorem RShuf_any {Q : Nat → Prop} (l : List Int) (part : Int) (v : Value) (w : World) (h : IntsAt Q w v l) (hE : few l 10000 = 0) (m0 : 0 ≤ part) (m1 : part ≤ 1000) :
    Calls Tryd.prog 14 #[v, .int .i64 part] w fun e w' => ∃ y, e = .returned (.tuple #[y, .int .i64 (allS l part)]) ∧ IntsAt (fun b => w.heap.size ≤ b) w' y (shufL l part) ∧ Below w.heap.size w w' := by
  obtain ⟨n1, n6, hb⟩ := few_0.1 hE
  have Hx : Hid (∀ i, i < l.length → ∃ P, l.getD i 0 * part = P ∧ takeS part (l.getD i 0) = P / 1000 ∧ 0 ≤ l.getD i 0 ∧ l.getD i 0 ≤ 10000 ∧ 0 ≤ P ∧ P ≤ 10000000 ∧ P / 1000 ≤ l.getD i 0) := fun i hi => by
    have := hb _ (getD_mem l i hi 0)
    have p1 : l.getD i 0 * part ≤ 10000 * 1000 := Int.mul_le_mul this.2 m1 m0 (by decide)
    have p2 : l.getD i 0 * part ≤ l.getD i 0 * 1000 := Int.mul_le_mul_of_nonneg_left m1 this.1
    exact ⟨_, rfl, rfl, this.1, this.2, Int.mul_nonneg this.1 m0, by omega, by omega⟩
  have HL : Hid (∀ k, k ≤ l.length → 0 ≤ tot ((l.take k).map (takeS part)) ∧ tot ((l.take k).map (takeS part)) ≤ 60000) := fun k hk => by
    have hm : ∀ y ∈ (l.take k).map (takeS part), 0 ≤ y ∧ y ≤ 10000 := fun y hy => by
      obtain ⟨x, hx, rfl⟩ := List.mem_map.1 hy
      obtain ⟨i, hi, rfl⟩ := List.mem_iff_getElem.1 (List.mem_of_mem_take hx)
      obtain ⟨P, e1, e2, e3, e4, e5, e6, e7⟩ := Hx.out i hi
      have : l.getD i 0 = l[i] := by simp [List.getD, List.getElem?_eq_getElem hi]
      rw [← this, e2]
      omega
    have := tot_bd hm
    refine ⟨this.1, Int.le_trans this.2 ?_⟩
    have : (((l.take k).map (takeS part)).length : Int) ≤ 6 := by simp; omega
    omega
  have HS : Hid (∀ k, k < l.length → tot ((l.take (k + 1)).map (takeS part)) = tot ((l.take k).map (takeS part)) + takeS part (l.getD k 0) ∧ (l.take (k + 1)).map (fun x => x - takeS part x) = (l.take k).map (fun x => x - takeS part x) ++ [l.getD k 0 - takeS part (l.getD k 0)]) := fun k hk => by
    rw [take_snoc l k hk 0, List.map_append, List.map_append, tot_append]
    simp [tot]
  have HA : Hid (tot ((l.take l.length).map (takeS part)) = allS l part) := by show _ = _; rw [List.take_length]; rfl
  have HA2 : Hid (0 ≤ allS l part ∧ allS l part ≤ 60000) := by have := HL.out l.length (Nat.le_refl _); rw [HA.out] at this; exact this
  have HM0 : Hid ((l.take l.length).map (fun x => x - takeS part x) = midS l part (allS l part / l.length) 0) := by show _ = _; rw [midS_0, List.take_length]
  have HMa : Hid (∀ i j, i < l.length → (midS l part (allS l part / l.length) j).getD i 0 = (l.getD i 0 - takeS part (l.getD i 0)) + if i < j then allS l part / l.length else 0) := fun i j hi => midS_at hi
  have HMn : Hid (∀ j, j < l.length → midS l part (allS l part / l.length) (j + 1) = (midS l part (allS l part / l.length) j).set j (l.getD j 0 - takeS part (l.getD j 0) + allS l part / l.length)) := fun j hj => midS_next hj
  have HMl : Hid (∀ j, (midS l part (allS l part / l.length) j).length = l.length) := fun j => midS_length _ _ _ _
  have HME : Hid (midS l part (allS l part / l.length) l.length = outK (fun i => l.getD i 0) (fun i => l.getD i 0 - takeS part (l.getD i 0) + allS l part / l.length) l.length 0) := midS_all l part
  have HST : Hid (∀ k, k < l.length → ∃ b, bestK (fun i => l.getD i 0) (fun i => (gotK (fun i => l.getD i 0) l.length k).getD i false) l.length = some b ∧ b < l.length ∧ (outK (fun i => l.getD i 0) (fun i => l.getD i 0 - takeS part (l.getD i 0) + allS l part / l.length) l.length k).getD b 0 = l.getD b 0 - takeS part (l.getD b 0) + allS l part / l.length ∧ (gotK (fun i => l.getD i 0) l.length k).getD b false = false ∧
    outK (fun i => l.getD i 0) (fun i => l.getD i 0 - takeS part (l.getD i 0) + allS l part / l.length) l.length (k + 1) = (outK (fun i => l.getD i 0) (fun i => l.getD i 0 - takeS part (l.getD i 0) + allS l part / l.length) l.length k).set b (l.getD b 0 - takeS part (l.getD b 0) + allS l part / l.length + 1) ∧ gotK (fun i => l.getD i 0) l.length (k + 1) = (gotK (fun i => l.getD i 0) l.length k).set b true) := fun k hk => step_K (base := fun i => l.getD i 0 - takeS part (l.getD i 0) + allS l part / l.length) hk
  have HOE : Hid (shufL l part = outK (fun i => l.getD i 0) (fun i => l.getD i 0 - takeS part (l.getD i 0) + allS l part / l.length) l.length (allS l part % l.length).toNat) := shufL_out
  have HOl : Hid (∀ k, (outK (fun i => l.getD i 0) (fun i => l.getD i 0 - takeS part (l.getD i 0) + allS l part / l.length) l.length k).length = l.length) := fun k => outK_length _ _ _ _
  have HGl : Hid (∀ k, (gotK (fun i => l.getD i 0) l.length k).length = l.length) := fun k => gotK_length _ _ _
  have HG0 : Hid (gotK (fun i => l.getD i 0) l.length 0 = List.replicate l.length false) := gotK_0 _ _
  generalize outK (fun i => l.getD i 0) (fun i => l.getD i 0 - takeS part (l.getD i 0) + allS l part / l.length) l.length = oK at *
  generalize gotK (fun i => l.getD i 0) l.length = gK at *
  generalize midS l part (allS l part / l.length) = mS at *
  generalize shufL l part = res at *
  have S1 : Hid (∀ k m, (gK k).getD m false = true → bestK (fun i => l.getD i 0) (fun i => (gK k).getD i false) (m + 1) = bestK (fun i => l.getD i 0) (fun i => (gK k).getD i false) m) := fun k m hh => scan_got hh
  have S2 : Hid (∀ k m, (gK k).getD m false = false → bestK (fun i => l.getD i 0) (fun i => (gK k).getD i false) m = none → bestK (fun i => l.getD i 0) (fun i => (gK k).getD i false) (m + 1) = some m) := fun k m hh => scan_first hh
  have S3 : Hid (∀ k m b, (gK k).getD m false = false → bestK (fun i => l.getD i 0) (fun i => (gK k).getD i false) m = some b → l.getD m 0 < l.getD b 0 → bestK (fun i => l.getD i 0) (fun i => (gK k).getD i false) (m + 1) = some m) := fun k m b hh => scan_new hh
  have S4 : Hid (∀ k m b, bestK (fun i => l.getD i 0) (fun i => (gK k).getD i false) m = some b → ¬ l.getD m 0 < l.getD b 0 → bestK (fun i => l.getD i 0) (fun i => (gK k).getD i false) (m + 1) = some b) := fun k m b hh => scan_old hh
  have S5 : Hid (∀ k m b, bestK (fun i => l.getD i 0) (fun i => (gK k).getD i false) m = some b → b < m) := fun k m b hh => scan_lt hh
  have S0 : Hid (∀ k, bestK (fun i => l.getD i 0) (fun i => (gK k).getD i false) 0 = none) := fun _ => rfl
  obtain ⟨bK, hbK⟩ : ∃ bK : Nat → Nat → Option Nat, ∀ k, bestK (fun i => l.getD i 0) (fun i => (gK k).getD i false) = bK k := ⟨_, fun _ => rfl⟩
  simp only [hbK] at HST S0 S1 S2 S3 S4 S5
  obtain ⟨a, cap, rfl, ⟨hm, hm2⟩, h'⟩ := id h
  have HC : Hid (∀ i, i < l.length → ∃ b off, a = some ⟨b, off, none⟩ ∧ ∀ u, Below w.heap.size w u → u.cell? ⟨b, off + i, none⟩ = some (.int .i64 (l.getD i 0))) := ints_cells h
  obtain ⟨k0, hKI, hx0, hx1, hx2⟩ := info_parts infoInt
  obtain ⟨j0, hJ, hy0, hy1, hy2⟩ := info_parts infoB
  obtain ⟨A0, A1⟩ := HA2.out
  obtain ⟨A, hA⟩ : ∃ A, A = allS l part := ⟨_, rfl⟩
  rw [← hA] at HA A0 A1 HMa HMn HST HOE ⊢
  have z1 : A.tdiv (l.length : Int) = A / l.length := Int.tdiv_eq_ediv_of_nonneg A0
  have z2 : A.tmod (l.length : Int) = A % l.length := Int.tmod_eq_emod_of_nonneg A0
  have z3 : 0 ≤ A / (l.length : Int) := Int.ediv_nonneg A0 (by omega)
  have z4 : A / (l.length : Int) ≤ 60000 := Int.le_trans (Int.ediv_le_self _ A0) A1
  have z5 : 0 ≤ A % (l.length : Int) := Int.emod_nonneg _ (by omega)
  have z6 : A % (l.length : Int) < l.length := Int.emod_lt_of_pos _ (by omega)
  have ht0 : ¬ (l.length : Int) = 0 := by omega
  have z7 : IntKind.i64.wrap (A / (l.length : Int)) = A / l.length := by rw [IntKind.wrap_i64]; omega
  have z8 : IntKind.i64.wrap (A % (l.length : Int)) = A % l.length := by rw [IntKind.wrap_i64]; omega
  generalize A / (l.length : Int) = q at *
  generalize A % (l.length : Int) = L at *
  clear h h' hE hb hA hbK HA2
  go_enter Tryd.func14, Tryd.ntmps14
  go_wp2
  go_loopw [6, 7, 8, 9] (fun s6 s7 s8 _ wr => ∃ k : Nat, k ≤ l.length ∧ s8 = .int .i64 k ∧ s7 = .int .i64 (tot ((l.take k).map (takeS part))) ∧ Hid (wr.ownsRow w.heap.size 3 1 s6 k (((l.take k).map (fun x => x - takeS part x)).map (Value.int .i64))) ∧ Hid (Below w.heap.size w wr)) (fun _ _ s8 _ _ => l.length - (intOf s8).toNat)
  case atStart => exact ⟨0, by omega, rfl, by simp [tot], World.ownsRow_nil _ _ _ _, Below.refl _ _⟩
  case round =>
    obtain ⟨k, hk, rfl, rfl, ho, hbl⟩ := hrel
    obtain ⟨a6, c6, rfl⟩ := own_slice ho.out
    by_cases hlt : k < l.length
    · obtain ⟨b, off, rfl, hc⟩ := HC.out k hlt
      have c0 := hc _ hbl.out
      obtain ⟨P, hP, e2, x0, x1, p0, p1, p2⟩ := Hx.out k hlt
      obtain ⟨hst1, hst2⟩ := HS.out k hlt
      obtain ⟨l0, l1⟩ := HL.out k hk
      rw [e2] at hst1 hst2
      have HN : Hid (tot ((l.take (k + 1)).map (takeS part)) = tot ((l.take k).map (takeS part)) + P / 1000) := hst1
      have HSn : Hid (((l.take (k + 1)).map (fun x => x - takeS part x)).map (Value.int .i64) = ((l.take k).map (fun x => x - takeS part x)).map (Value.int .i64) ++ [.int .i64 (l.getD k 0 - P / 1000)]) := by
        show _ = _
        rw [hst2, List.map_append]
        rfl
      have HON : Hid (wr.ownsRow w.heap.size 3 1 (.slice a6 k c6) k (((l.take k).map (fun x => x - takeS part x)).map (Value.int .i64))) := ho
      clear hc hst1 hst2 e2 ho
      generalize ((l.take k).map (fun x => x - takeS part x)).map (Value.int .i64) = ys at *
      generalize tot ((l.take k).map (takeS part)) = S at *
      generalize l.getD k 0 = x at *
      have q1 : IntKind.i64.wrap (x * part) = P := by rw [IntKind.wrap_i64, hP]; omega
      have q2 : P.tdiv 1000 = P / 1000 := Int.tdiv_eq_ediv_of_nonneg p0
      have q3 : IntKind.i64.wrap (P / 1000) = P / 1000 := by rw [IntKind.wrap_i64]; omega
      have q4 : 0 ≤ P / 1000 := Int.ediv_nonneg p0 (by decide)
      have hsz : w.heap.size ≤ wr.heap.size := hbl.out.size
      clear hP
      generalize P / 1000 = D at *
      go_wp2_with (at_builtin; go_must (refine wpList_append_own _ rfl _ _ 22 rfl w.heap.size 3 k0 (.int .i64 0) 1 8 Tryd.underlying22 hKI hx0 hx1 hx2 rfl (by decide) _ _ _ rfl (HON.out.alloc _) ⟨_, 0, none⟩ 1 1 [.int .i64 (x - D)] rfl rfl (new1 _ _ _ _ ?c1) (by intro u hu; simp at hu; subst hu; rfl) (by unfold maxLen; omega) (by omega) ?c2 ?_))
      case c1 => simp
      case c2 => simp; omega
      intro v' wg hown hgrow _
      have HO2 : Hid (wg.ownsRow w.heap.size 3 1 v' (k + 1) (((l.take (k + 1)).map (fun x => x - takeS part x)).map (Value.int .i64))) := by rw [HSn.out]; simpa [Hid] using hown
      have HB2 : Hid (Below w.heap.size w wg) := hbl.out.trans (grew1 hsz hgrow (fun k hk => (HON.out.lt k hk).1))
      clear hown hgrow
      go_wp2
      go_roundw
      case rel => exact ⟨k + 1, by omega, by go_num, by rw [HN.out], HO2, HB2⟩
      case measure => simp [intOf]; omega
    · obtain rfl : k = l.length := by omega
      rw [HA.out]
      have ho1 : wr.ownsRow w.heap.size 3 1 (.slice a6 l.length c6) l.length ((mS 0).map (Value.int .i64)) := by rw [← HM0.out]; exact ho.out
      obtain ⟨g, sp, hga, hgb, hgc, hrow⟩ := owns_row (by omega) ho1
      subst hga
      have RO : Hid (RowAt wr g 3 ((mS 0).map (Value.int .i64) ++ sp)) := hrow
      have hzr : w.heap.size ≤ wr.heap.size := hbl.out.size
      have hgl : g < wr.heap.size := hrow.lt
      clear ho ho1 hrow
      go_wp2_with (at_make; go_must (refine wpList_make_full _ rfl _ _ 42 rfl wr.heap.size 4 j0 (.bool false) 1 Tryd.underlying42 hJ hy0 hy1 .i64 .i64 _ _ l.length rfl rfl rfl rfl ?b2 ?b3 ?b4 ?_))
      case b2 => rw [hy2]; omega
      case b3 => unfold maxLen; omega
      case b4 => simp
      intro w2 hown hgrow
      have hown' : w2.ownsRow wr.heap.size 4 1 (.slice (some ⟨wr.heap.size, 0, none⟩) l.length l.length) l.length (madeCells #[.bool false] l.length).toList := by simpa using hown
      rw [madeB] at hown'
      have RG : Hid (RowAt w2 wr.heap.size 4 ((gK 0).map Value.bool)) := by rw [HG0.out]; exact RowAt.of_owns hown'
      have B1 : Below wr.heap.size wr w2 := (Below.refl _ _).grown hgrow (Nat.le_refl _) (by intro k hk; cases hk)
      have RO2 : Hid (RowAt w2 g 3 ((mS 0).map (Value.int .i64) ++ sp)) := RO.out.later B1 hgl
      have B2 : Hid (Below w.heap.size w w2) := hbl.out.trans (B1.mono hzr)
      have hne : ¬ g = wr.heap.size := by omega
      have hne' : ¬ wr.heap.size = g := by omega
      obtain ⟨gg, hgg⟩ : ∃ gg, gg = wr.heap.size := ⟨_, rfl⟩
      rw [← hgg] at RG hne hne' hzr ⊢
      clear hown hgrow hown' B1 RO hbl hgl hgg
      go_wp2
      go_loopw [11] (fun s11 wr => ∃ j : Nat, j ≤ l.length ∧ s11 = .int .i64 j ∧ Hid (RowAt wr g 3 ((mS j).map (Value.int .i64) ++ sp)) ∧ Hid (RowAt wr gg 4 ((gK 0).map Value.bool)) ∧ Hid (Below w.heap.size w wr)) (fun s11 _ => l.length - (intOf s11).toNat)
      case atStart => exact ⟨0, by omega, rfl, RO2, RG, B2⟩
      case round =>
        obtain ⟨j, hj, rfl, ro, rg, hbl⟩ := hrel
        by_cases hlt : j < l.length
        · obtain ⟨P, hP, e2, x0, x1, p0, p1, p2⟩ := Hx.out j hlt
          have ha := HMa.out j j hlt
          have hn := HMn.out j hlt
          rw [e2, if_neg (Nat.lt_irrefl _), Int.add_zero] at ha
          rw [e2] at hn
          have HNj : Hid (mS (j + 1) = (mS j).set j (l.getD j 0 - P / 1000 + q)) := hn
          have cj := ro.out.cell (intsCell (l := mS j) (sp := sp) (i := j) (by rw [HMl.out]; exact hlt))
          rw [ha] at cj
          have cf := ro.out.frozen j
          have q4 : 0 ≤ P / 1000 := Int.ediv_nonneg p0 (by decide)
          clear ha hn hP e2
          generalize l.getD j 0 = x at *
          generalize P / 1000 = D at *
          have q5 : IntKind.i64.wrap (x - D + q) = x - D + q := by rw [IntKind.wrap_i64]; omega
          have RO3 : Hid (RowAt ((wr.setCell ⟨g, j, none⟩ (.int .i64 (x - D + q))).drew) g 3 ((mS (j + 1)).map (Value.int .i64) ++ sp)) := by
            show RowAt _ _ _ _
            rw [HNj.out, ← intsSet (by rw [HMl.out]; exact hlt)]
            exact ro.out.set j _
          have RG3 : Hid (RowAt ((wr.setCell ⟨g, j, none⟩ (.int .i64 (x - D + q))).drew) gg 4 ((gK 0).map Value.bool)) := rg.out.other (a := ⟨g, j, none⟩) (by simpa using hne) _
          have HB3 : Hid (Below w.heap.size w ((wr.setCell ⟨g, j, none⟩ (.int .i64 (x - D + q))).drew)) := (hbl.out.setCell (by simp; omega) _).drew
          go_wp2_with fail
          go_region
          go_wp2
          go_roundw
          case rel => exact ⟨j + 1, by omega, by go_num, RO3, RG3, HB3⟩
          case measure => simp [intOf]; omega
        · obtain rfl : j = l.length := by omega
          rw [HME.out] at ro
          go_wp2
          go_loopw [12, 13, 14] (fun s12 _ _ wr => ∃ k : Nat, (k : Int) ≤ L ∧ s12 = .int .i64 (L - k) ∧ Hid (RowAt wr g 3 ((oK k).map (Value.int .i64) ++ sp)) ∧ Hid (RowAt wr gg 4 ((gK k).map Value.bool)) ∧ Hid (Below w.heap.size w wr)) (fun s12 _ _ _ => (intOf s12).toNat)
          case atStart => exact ⟨0, by omega, by go_num, ro, rg, hbl⟩
          case round =>
            clear ro rg hbl
            obtain ⟨k, hk, rfl, ro, rg, hbl⟩ := hrel
            by_cases hlt : (k : Int) < L
            · obtain ⟨b, hbest, hbn, hob, hgb', hout, hgot⟩ := HST.out k (by omega)
              obtain ⟨Pb, hPb, e2, xb0, xb1, pb0, pb1, pb2⟩ := Hx.out b hbn
              rw [e2] at hob hout
              have Hout : Hid (oK (k + 1) = (oK k).set b (l.getD b 0 - Pb / 1000 + q + 1)) := hout
              have Hgot : Hid (gK (k + 1) = (gK k).set b true) := hgot
              have Hbest : Hid (bK k l.length = some b) := hbest
              have Hob : Hid ((oK k).getD b 0 = l.getD b 0 - Pb / 1000 + q) := hob
              have q4 : 0 ≤ Pb / 1000 := Int.ediv_nonneg pb0 (by decide)
              clear hout hgot hbest hob hgb' hPb e2
              have V0 : -10000000 ≤ l.getD b 0 - Pb / 1000 + q ∧ l.getD b 0 - Pb / 1000 + q ≤ 10000000 := by omega
              generalize l.getD b 0 - Pb / 1000 + q = V at *
              have q0 : (L : Int) - (k : Int) > 0 := by omega
              go_wp2
              go_loopw [13, 14] (fun s11 s12 wz => ∃ m : Nat, m ≤ l.length ∧ s12 = .int .i64 m ∧ s11 = .int .i64 (bestI (bK k m)) ∧ Hid (RowAt wz g 3 ((oK k).map (Value.int .i64) ++ sp)) ∧ Hid (RowAt wz gg 4 ((gK k).map Value.bool)) ∧ Hid (Below w.heap.size w wz)) (fun _ s12 _ => l.length - (intOf s12).toNat)
              case atStart => exact ⟨0, by omega, rfl, by rw [S0.out]; rfl, ro, rg, hbl⟩
              case round =>
                clear ro rg hbl
                obtain ⟨m, hm', rfl, rfl, ro, rg, hbl⟩ := hrel
                by_cases hlm : m < l.length
                · have cg := rg.out.cell (boolsCell (l := gK k) (i := m) (by rw [HGl.out]; exact hlm))
                  obtain ⟨ba, off, rfl, hc⟩ := HC.out m hlm
                  have c0 := hc _ hbl.out
                  cases hgm : (gK k).getD m false with
                  | true =>
                    rw [hgm] at cg
                    have HN : Hid (bK k (m + 1) = bK k m) := S1.out k m hgm
                    clear hc c0 hgm
                    go_wp2_with fail
                    go_quiet (fail)
                    go_wp2
                    go_roundw
                    case rel => exact ⟨m + 1, by omega, by go_num, by rw [HN.out], ro, rg, below_drewN hbl.out _⟩
                    case measure => simp [intOf]; omega
                  | false =>
                    rw [hgm] at cg
                    cases hbm : bK k m with
                    | none =>
                      have HN : Hid (bK k (m + 1) = some m) := S2.out k m hgm hbm
                      clear hc c0 hgm
                      simp only [bestI]
                      go_wp2_with fail
                      go_quiet (fail)
                      go_wp2
                      go_roundw
                      case rel => exact ⟨m + 1, by omega, by go_num, (by first | (rw [HN.out]; done) | (rw [HN.out]; rfl)), ro, rg, below_drewN hbl.out _⟩
                      case measure => simp [intOf]; omega
                    | some b' =>
                      have hb'm := S5.out k m b' hbm
                      have hb'l : b' < l.length := by omega
                      obtain ⟨_, _, hbe, hc'⟩ := HC.out b' hb'l
                      simp only [Option.some.injEq, Addr.mk.injEq, and_true] at hbe
                      obtain ⟨rfl, rfl⟩ := hbe
                      have c1 := hc' _ hbl.out
                      have HNn : Hid (l.getD m 0 < l.getD b' 0 → bK k (m + 1) = some m) := fun hh => S3.out k m b' hgm hbm (by omega)
                      have HNo : Hid (¬ l.getD m 0 < l.getD b' 0 → bK k (m + 1) = some b') := fun hh => S4.out k m b' hbm (by omega)
                      clear hc hc' hgm
                      have qb : decide ((b' : Int) < 0) = false := by simp
                      have qb' : ¬ ((b' : Int) < 0) := by omega
                      have qb2 : (b' : Int) < (l.length : Int) := by omega
                      generalize l.getD m 0 = pm at *
                      generalize l.getD b' 0 = pb at *
                      simp only [bestI]
                      by_cases hgt : pm < pb
                      · have HN : Hid (bK k (m + 1) = some m) := HNn.out (by omega)
                        have z2 : decide (pm < pb) = true := by simp; omega
                        go_wp2_with fail
                        go_quiet (fail)
                        go_wp2
                        go_roundw
                        case rel => exact ⟨m + 1, by omega, by go_num, (by first | (rw [HN.out]; done) | (rw [HN.out]; rfl)), ro, rg, below_drewN hbl.out _⟩
                        case measure => simp [intOf]; omega
                      · have HN : Hid (bK k (m + 1) = some b') := HNo.out (by omega)
                        have z2 : decide (pm < pb) = false := by simp; omega
                        go_wp2_with fail
                        go_quiet (fail)
                        go_wp2
                        go_roundw
                        case rel => exact ⟨m + 1, by omega, by go_num, (by first | (rw [HN.out]; done) | (rw [HN.out]; rfl)), ro, rg, below_drewN hbl.out _⟩
                        case measure => simp [intOf]; omega
                · obtain rfl : m = l.length := by omega
                  have HBI : Hid (bestI (bK k l.length) = b) := by rw [Hbest.out]; rfl
                  rw [HBI.out]
                  have c1 := rg.out.cell (boolsCell (l := gK k) (i := b) (by rw [HGl.out]; exact hbn))
                  have c2 := rg.out.frozen b
                  have c3 := ro.out.cell (intsCell (l := oK k) (sp := sp) (i := b) (by rw [HOl.out]; exact hbn))
                  rw [Hob.out] at c3
                  have c4 := ro.out.frozen b
                  have hb' : (b : Int) < (l.length : Int) := by omega
                  have hw1 : IntKind.i64.wrap (V + 1) = V + 1 := by rw [IntKind.wrap_i64]; omega
                  have RO3 : Hid (RowAt ((wr.setCell ⟨gg, b, none⟩ (.bool true)).setCell ⟨g, b, none⟩ (.int .i64 (V + 1))) g 3 ((oK (k + 1)).map (Value.int .i64) ++ sp)) := by
                    show RowAt _ _ _ _
                    rw [Hout.out, ← intsSet (by rw [HOl.out]; exact hbn)]
                    exact (ro.out.other (a := ⟨gg, b, none⟩) (by simpa using hne') _).set b _
                  have RG3 : Hid (RowAt ((wr.setCell ⟨gg, b, none⟩ (.bool true)).setCell ⟨g, b, none⟩ (.int .i64 (V + 1))) gg 4 ((gK (k + 1)).map Value.bool)) := by
                    show RowAt _ _ _ _
                    rw [Hgot.out, ← boolsSet]
                    exact (rg.out.set b _).other (a := ⟨g, b, none⟩) (by simpa using hne) _
                  have HB3 : Hid (Below w.heap.size w ((wr.setCell ⟨gg, b, none⟩ (.bool true)).setCell ⟨g, b, none⟩ (.int .i64 (V + 1)))) := (hbl.out.setCell (by simp; omega) _).setCell (by simp; omega) _
                  go_wp2
                  go_roundw
                  case rel => exact ⟨k + 1, by omega, by go_num, RO3, RG3, HB3⟩
                  case measure => simp [intOf]; omega
            · obtain rfl : L = k := by omega
              have HI : Hid (IntsAt (fun b => w.heap.size ≤ b) wr (.slice (some ⟨g, 0, none⟩) l.length c6) res) := by
                rw [HOE.out, Int.toNat_natCast]
                have := intsRow (Q := fun b => w.heap.size ≤ b) (c := c6) ro.out (by rw [HOl.out]; exact hgc) (by rw [HOl.out]; omega) hgb
                rwa [HOl.out] at this
              go_wp2
              refine bodyPost_ret (v := .tuple #[.slice (some ⟨g, 0, none⟩) l.length c6, .int .i64 A]) (by simp [results, Tryd.results14, go_sem]) rfl ⟨_, rfl, HI.out, hbl.out⟩
end Ev
end Go.Proofs.YtgbhknagmndbfahDoor
