/- The law EvenTimes returns true for every input, from what is asked of package even's calls: times as much it is as even. -/
import Derived.Test.YtbbljjhddikfpaeDoorPlains
import Derived.Test.YtbbljjhddikfpaeDoorToldB
import Derived.OwnWalk
namespace Go.Proofs.YtbbljjhddikfpaeDoor
namespace Ev
open Go.RowKit Fr Ns Ld Fl
set_option linter.unusedSimpArgs false
set_option linter.unusedVariables false

theorem fact00E : idxE [0, 0] = 5 := by decide +kernel
theorem et_two (w : World) (g : Nat) (x y : Int) (h0 : w.cell? ⟨g, 0, none⟩ = some (.int .i64 x)) (h1 : w.cell? ⟨g, 1, none⟩ = some (.int .i64 y)) : IntsAt (fun _ => True) w (.slice (some ⟨g, 0, none⟩) 2 2) [x, y] :=
  ⟨_, 2, rfl, ⟨Nat.le_refl _, by simp⟩, .inr ⟨g, 0, rfl, fun i hi => by
    match i, hi with
    | 0, _ => simpa using h0
    | 1, _ => simpa using h1, trivial⟩⟩
theorem et_one (w : World) (x : Value) (T : TypeId) : ∀ j u, [x][j]? = some u → (w.alloc (.cells #[x] T)).cell? ((⟨w.heap.size, 0, none⟩ : Addr).add j) = some u := by
  intro j u hj
  match j, hj with
  | 0, hj => simp at hj; subst hj; simp [Addr.add]
theorem gap_bd {l : List Int} (h : few l 1000 = 0) : 0 ≤ gapL l ∧ gapL l ≤ 1000 := by
  obtain ⟨n1, _, hb⟩ := few_0.1 h
  refine ⟨gap_nonneg n1, gap_le n1 fun x hx y hy => ?_⟩
  have := hb x hx
  have := hb y hy
  omega

set_option maxRecDepth 100000 in
set_option maxHeartbeats 8000000 in
theorem evenTimes_walk (hI : EIndexSaid) (hG : EGapSaid) (l : List Int) (c : Int) (v : Value) (w : World)
    (hg : w.cell? ⟨0, 0, none⟩ = some handleV) (hv : IntsAt (fun b => b < w.heap.size) w v l) :
    Calls Tryd.prog 3 #[v, .int .i64 c] w fun e w' => e = .returned (.bool true) ∧ Below w.heap.size w w' := by
  have HI : Hid (∀ u : World, Below w.heap.size w u → Calls Tryd.prog 4 #[v] u fun e w' => e = .returned (.tuple #[.agg #[.int .i64 (okF (idxE l) (idx l)).1, .int .i64 (okF (idxE l) (idx l)).2], errV (idxE l)]) ∧ Below u.heap.size u w') := fun u hu => hI _ l v u (hv.later hu)
  have HG : Hid (∀ u : World, Below w.heap.size w u → Calls Tryd.prog 6 #[v] u fun e w' => e = .returned (.tuple #[.int .i64 (okI (few l 1000) (gapL l)), errV (few l 1000)]) ∧ Below u.heap.size u w') := fun u hu => hG _ l v u (hv.later hu)
  have HE5 : Hid (∀ u : World, Below w.heap.size w u → Calls Tryd.prog 5 #[.iface 36 (.int .i64 5), .int .i64 5] u fun e w' => e = .returned (.bool true) ∧ Below u.heap.size u w') := fun u hu => by
    have := Error_any 5 5 u (cell_later hu hg)
    rw [beq_self_eq_true] at this
    exact this
  obtain ⟨a, cap, rfl, ⟨hm1, hm2⟩, hc⟩ := hv
  have HC : Hid (∀ i, i < l.length → ∃ b off, a = some ⟨b, off, none⟩ ∧ ∀ u, Below w.heap.size w u → u.cell? ⟨b, off + i, none⟩ = some (.int .i64 (l.getD i 0))) := by
    intro i hi
    rcases hc with h | ⟨b, off, rfl, h, _⟩
    · rw [h] at hi; simp at hi
    · exact ⟨b, off, rfl, fun u hu => cell_later hu (h i hi)⟩
  clear hc hg
  by_cases he : idxE l = 0
  · obtain ⟨hf0, ht0⟩ := idxE_0.1 he
    obtain ⟨n1, n6, hb⟩ := few_0.1 hf0
    have Hb : Hid (∀ k, k < l.length → 0 ≤ l.getD k 0 ∧ l.getD k 0 ≤ 1000) := fun k hk => hb _ (getD_mem l k hk 0)
    rw [he, okF_0, errV_0] at HI
    rw [hf0, okI_0, errV_0] at HG
    have HT : Hid (1 ≤ c → (∀ x ∈ l, x * c ≤ 1000) → idxE (l.map (· * c)) = 0 ∧ idx (l.map (· * c)) = idx l ∧ gapL (l.map (· * c)) = gapL l * c) := fun h1 h2 => ⟨(times_idx he h1 h2).1, (times_idx he h1 h2).2, times_gap n1 (by omega)⟩
    have Hgb : Hid (0 ≤ gapL l ∧ gapL l ≤ 1000) := gap_bd hf0
    clear he hf0 ht0 hb
    by_cases hcb : c < 1 ∨ 1000 < c
    · rcases hcb with hcb | hcb
      all_goals
        go_enter Tryd.func3, Tryd.ntmps3
        go_wp2_with fail
        refine (HI.out _ (Below.refl _ _)).mono ?_
        rintro e w1 ⟨rfl, hw1⟩
        have B1 : Hid (Below w.heap.size w w1) := hw1
        have z1 : w.heap.size ≤ w1.heap.size := B1.out.size
        have B1' : Hid (Below w.heap.size w (w1.alloc (.cells #[.int .i64 (idx l).1, .int .i64 (idx l).2] 24))) := B1.out.alloc z1 _
        clear hw1
        have z1' : w.heap.size ≤ (w1.alloc (.cells #[.int .i64 (idx l).1, .int .i64 (idx l).2] 24)).heap.size := B1'.out.size
        have BZ : Hid (Below w.heap.size w ((w1.alloc (.cells #[.int .i64 (idx l).1, .int .i64 (idx l).2] 24)).alloc (.cells #[.int .i64 0, .int .i64 0] 3))) := B1'.out.alloc z1' _
        have HZ : Hid (Calls Tryd.prog 4 #[.slice (some ⟨w1.heap.size + 1, 0, none⟩) 2 2] ((w1.alloc (.cells #[.int .i64 (idx l).1, .int .i64 (idx l).2] 24)).alloc (.cells #[.int .i64 0, .int .i64 0] 3)) fun e w' => e = .returned (.tuple #[.agg #[.int .i64 0, .int .i64 0], .iface 36 (.int .i64 5)]) ∧ Below ((w1.alloc (.cells #[.int .i64 (idx l).1, .int .i64 (idx l).2] 24)).alloc (.cells #[.int .i64 0, .int .i64 0] 3)).heap.size ((w1.alloc (.cells #[.int .i64 (idx l).1, .int .i64 (idx l).2] 24)).alloc (.cells #[.int .i64 0, .int .i64 0] 3)) w') := by
          have := hI (fun _ => True) [0, 0] (.slice (some ⟨w1.heap.size + 1, 0, none⟩) 2 2) ((w1.alloc (.cells #[.int .i64 (idx l).1, .int .i64 (idx l).2] 24)).alloc (.cells #[.int .i64 0, .int .i64 0] 3)) (et_two _ _ 0 0 (by go_simp) (by go_simp))
          rw [fact00E, okF_ne (by decide)] at this
          exact this
        go_wp2_with fail
        refine HZ.out.mono ?_
        rintro e w3 ⟨rfl, hw3⟩
        have B3 : Hid (Below w.heap.size w w3) := Bel.call BZ.out (Nat.le_refl _) hw3
        have z3 : w.heap.size ≤ w3.heap.size := B3.out.size
        have B3' : Hid (Below w.heap.size w (w3.alloc (.cells #[.int .i64 0, .int .i64 0] 24))) := B3.out.alloc z3 _
        clear hw3 HZ
        go_wp2_with fail
        refine (HE5.out _ B3'.out).mono ?_
        rintro e w4 ⟨rfl, hw4⟩
        have B4 : Hid (Below w.heap.size w w4) := Bel.call B3'.out (Nat.le_refl _) hw4
        clear hw4
        go_wp2
        go_ret
        exact ⟨Ns.ret_bool rfl, B4.out⟩
    · go_enter Tryd.func3, Tryd.ntmps3
      go_wp2_with fail
      refine (HI.out _ (Below.refl _ _)).mono ?_
      rintro e w1 ⟨rfl, hw1⟩
      have B1 : Hid (Below w.heap.size w w1) := hw1
      have z1 : w.heap.size ≤ w1.heap.size := B1.out.size
      have B1' : Hid (Below w.heap.size w (w1.alloc (.cells #[.int .i64 (idx l).1, .int .i64 (idx l).2] 24))) := B1.out.alloc z1 _
      clear hw1
      have hc1 : ¬ c < 1 := fun h => hcb (.inl h)
      have hc2 : ¬ 1000 < c := fun h => hcb (.inr h)
      have N1 : Hid (w1.heap.size + 1 ≤ (w1.alloc (.cells #[.int .i64 (idx l).1, .int .i64 (idx l).2] 24)).heap.size) := by simp [Hid]
      have G1 : Hid (∀ u, Below (w1.heap.size + 1) (w1.alloc (.cells #[.int .i64 (idx l).1, .int .i64 (idx l).2] 24)) u → u.cell? ⟨w1.heap.size, 0, none⟩ = some (.int .i64 (idx l).1) ∧ u.cell? ⟨w1.heap.size, 1, none⟩ = some (.int .i64 (idx l).2) ∧ Below w.heap.size w u) := fun u hu => ⟨(hu.cell (p := ⟨w1.heap.size, 0, none⟩) (by simp)).trans (by simp), (hu.cell (p := ⟨w1.heap.size, 1, none⟩) (by simp)).trans (by simp), B1'.out.trans (hu.mono (by omega))⟩
      obtain ⟨i0, hi, hz0, hz1, hz2⟩ := info_parts infoInt
      clear hcb
      go_wp2
      go_loopw [9, 10] (fun o i wq => ∃ k : Nat, k ≤ l.length ∧ i = .int .i64 k ∧ Hid (wq.ownsRow (w1.heap.size + 1) 3 1 o k (((l.take k).map (· * c)).map (Value.int .i64))) ∧ Hid (Below (w1.heap.size + 1) (w1.alloc (.cells #[.int .i64 (idx l).1, .int .i64 (idx l).2] 24)) wq) ∧ Hid (∀ j, j < k → l.getD j 0 * c ≤ 1000)) (fun _ i _ => l.length - (intOf i).toNat)
      case atStart => exact ⟨0, by omega, rfl, World.ownsRow_nil _ _ _ _, Below.refl _ _, fun j hj => by omega⟩
      case round =>
        obtain ⟨k, hk, rfl, hown, hbel, hall⟩ := hrel
        obtain ⟨g0, g1, W0⟩ := G1.out _ hbel.out
        have hsr : w1.heap.size + 1 ≤ wr.heap.size := Nat.le_trans N1.out hbel.out.size
        by_cases hlt : k < l.length
        · obtain ⟨b, off, rfl, hcl⟩ := HC.out k hlt
          have c0 := hcl _ W0
          obtain ⟨b1, b2⟩ := Hb.out k hlt
          have HS : Hid (((l.take (k + 1)).map (· * c)).map (Value.int .i64) = ((l.take k).map (· * c)).map (Value.int .i64) ++ [.int .i64 (l.getD k 0 * c)]) := by
            show _ = _
            rw [take_snoc l k hlt 0, List.map_append, List.map_append]
            rfl
          have hp1 : 0 ≤ l.getD k 0 * c := Int.mul_nonneg b1 (by omega)
          have hp2 : l.getD k 0 * c ≤ 1000 * 1000 := Int.mul_le_mul b2 (by omega) (by omega) (by decide)
          have HA : Hid (l.getD k 0 * c ≤ 1000 → ∀ j, j < k + 1 → l.getD j 0 * c ≤ 1000) := fun h j hj => by
            by_cases e : j = k
            · rw [e]; exact h
            · exact hall.out j (by omega)
          clear hcl g0 g1
          generalize hP : l.getD k 0 * c = P at *
          generalize l.getD k 0 = y at *
          have hw : IntKind.i64.wrap (y * c) = P := by rw [IntKind.wrap_i64, hP]; omega
          by_cases hbig : 1000 < P
          · go_wp2
            go_ret
            exact ⟨Ns.ret_bool rfl, W0⟩
          · have R3 : Hid (∀ j, j < k + 1 → l.getD j 0 * c ≤ 1000) := HA.out (by omega)
            go_wp2_with (at_builtin; go_must (refine wpList_append_own _ rfl (.tmp 52) (.tmp 59) 22 rfl (w1.heap.size + 1) 3 i0 (.int .i64 0) 1 8 Tryd.underlying22 hi hz0 hz1 hz2 rfl (by decide) _ _ _ rfl (hown.out.alloc _) ⟨wr.heap.size, 0, none⟩ 1 1 [.int .i64 P] rfl rfl (et_one _ _ _) (by intro u hu; simp at hu; subst hu; rfl) (by unfold maxLen; omega) (by omega) (by simp; omega) ?_))
            intro v' w3 hown' hgrow _
            have R1 : Hid (Below (w1.heap.size + 1) (w1.alloc (.cells #[.int .i64 (idx l).1, .int .i64 (idx l).2] 24)) w3) := rel_append hbel.out hsr hown.out hgrow
            have R2 : Hid (w3.ownsRow (w1.heap.size + 1) 3 1 v' (k + 1) (((l.take (k + 1)).map (· * c)).map (Value.int .i64))) := by
              show World.ownsRow _ _ _ _ _ _ _
              rw [HS.out]
              simpa [List.map_map, Function.comp_def] using hown'
            clear hown' hgrow
            go_wp2
            go_roundw
            case rel => exact ⟨k + 1, by omega, by go_num, R2, R1, R3⟩
            case measure => simp [intOf]; omega
        · obtain rfl : k = l.length := by omega
          have hmem : ∀ x ∈ l, x * c ≤ 1000 := fun x hx => by
            obtain ⟨j, hj, rfl⟩ := List.mem_iff_getElem.1 hx
            have := hall.out j hj
            simpa [List.getD, List.getElem?_eq_getElem hj] using this
          obtain ⟨t1, t2, t3⟩ := HT.out (by omega) hmem
          have hfm : few (l.map (· * c)) 1000 = 0 := (idxE_0.1 t1).1
          have HM : Hid (IntsAt (fun _ => True) wr u9 (l.map (· * c))) := ints_of_owns (base := w1.heap.size + 1) (by simp; omega) (by have := hown.out; rw [List.take_of_length_le (Nat.le_refl _)] at this; simpa using this) (fun _ _ => trivial)
          have HIm : Hid (Calls Tryd.prog 4 #[u9] wr fun e w' => e = .returned (.tuple #[.agg #[.int .i64 (idx l).1, .int .i64 (idx l).2], .nilIface]) ∧ Below wr.heap.size wr w') := by
            have := hI _ (l.map (· * c)) u9 wr HM.out
            rw [t1, okF_0, t2, errV_0] at this
            exact this
          have HGm : Hid (∀ u : World, Below wr.heap.size wr u → Calls Tryd.prog 6 #[u9] u fun e w' => e = .returned (.tuple #[.int .i64 (gapL l * c), .nilIface]) ∧ Below u.heap.size u w') := fun u hu => by
            have := hG _ (l.map (· * c)) u9 u (HM.out.later hu)
            rw [hfm, okI_0, t3, errV_0] at this
            exact this
          obtain ⟨a9, n9, c9, rfl⟩ : ∃ a n c, u9 = .slice a n c := by obtain ⟨a, c, e, _⟩ := HM.out; exact ⟨_, _, _, e⟩
          obtain ⟨y1, y2⟩ := Hgb.out
          have hp1 : 0 ≤ gapL l * c := Int.mul_nonneg y1 (by omega)
          have hp2 : gapL l * c ≤ 1000 * 1000 := Int.mul_le_mul y2 (by omega) (by omega) (by decide)
          generalize hP : gapL l * c = P at *
          have hw : IntKind.i64.wrap (gapL l * c) = P := by rw [IntKind.wrap_i64, hP]; omega
          clear hmem t1 t2 t3 hfm g0 g1 hI hG HT
          go_wp2_with fail
          refine HIm.out.mono ?_
          rintro e w4 ⟨rfl, hw4⟩
          have C4 : Hid (Below wr.heap.size wr w4) := hw4
          have z4 : wr.heap.size ≤ w4.heap.size := C4.out.size
          have C4' : Hid (Below wr.heap.size wr (w4.alloc (.cells #[.int .i64 (idx l).1, .int .i64 (idx l).2] 24))) := C4.out.alloc z4 _
          have D4 : Hid (Below w.heap.size w (w4.alloc (.cells #[.int .i64 (idx l).1, .int .i64 (idx l).2] 24))) := (G1.out _ (hbel.out.trans (C4'.out.mono hsr))).2.2
          have M4 : Hid (∀ u, Below (w4.heap.size + 1) (w4.alloc (.cells #[.int .i64 (idx l).1, .int .i64 (idx l).2] 24)) u → u.cell? ⟨w4.heap.size, 0, none⟩ = some (.int .i64 (idx l).1) ∧ u.cell? ⟨w4.heap.size, 1, none⟩ = some (.int .i64 (idx l).2) ∧ Below wr.heap.size wr u) := fun u hu => ⟨(hu.cell (p := ⟨w4.heap.size, 0, none⟩) (by simp)).trans (by simp), (hu.cell (p := ⟨w4.heap.size, 1, none⟩) (by simp)).trans (by simp), C4'.out.trans (hu.mono (by omega))⟩
          have N4 : Hid (w4.heap.size + 1 ≤ (w4.alloc (.cells #[.int .i64 (idx l).1, .int .i64 (idx l).2] 24)).heap.size) := by simp [Hid]
          clear hw4
          go_wp2_with fail
          refine (HG.out _ D4.out).mono ?_
          rintro e w5 ⟨rfl, hw5⟩
          have B5 : Hid (Below (w4.heap.size + 1) (w4.alloc (.cells #[.int .i64 (idx l).1, .int .i64 (idx l).2] 24)) w5) := Bel.call (Below.refl _ _) N4.out hw5
          have C5 : Hid (Below wr.heap.size wr w5) := (M4.out _ B5.out).2.2
          clear hw5
          go_wp2_with fail
          refine (HGm.out _ C5.out).mono ?_
          rintro e w6 ⟨rfl, hw6⟩
          have B6 : Hid (Below (w4.heap.size + 1) (w4.alloc (.cells #[.int .i64 (idx l).1, .int .i64 (idx l).2] 24)) w6) := Bel.call B5.out N4.out hw6
          obtain ⟨m0, m1, C6⟩ := M4.out _ B6.out
          obtain ⟨k0, k1, W6⟩ := G1.out _ (hbel.out.trans (C6.mono hsr))
          clear hw6
          go_wp2
          go_ret
          exact ⟨Ns.ret_bool rfl, W6⟩
  · have HE : Hid (errV (idxE l) = .iface 36 (.int .i64 (idxE l))) := errV_ne he
    rw [HE.out, okF_ne he] at HI
    generalize idxE l = ek at *
    clear he
    go_enter Tryd.func3, Tryd.ntmps3
    go_wp2_with fail
    refine (HI.out _ (Below.refl _ _)).mono ?_
    rintro e w1 ⟨rfl, hw1⟩
    have B1 : Hid (Below w.heap.size w w1) := hw1
    have z1 : w.heap.size ≤ w1.heap.size := B1.out.size
    have B1' : Hid (Below w.heap.size w (w1.alloc (.cells #[.int .i64 0, .int .i64 0] 24))) := B1.out.alloc z1 _
    clear hw1
    have z1' : w.heap.size ≤ (w1.alloc (.cells #[.int .i64 0, .int .i64 0] 24)).heap.size := B1'.out.size
    have BZ : Hid (Below w.heap.size w ((w1.alloc (.cells #[.int .i64 0, .int .i64 0] 24)).alloc (.cells #[.int .i64 0, .int .i64 0] 3))) := B1'.out.alloc z1' _
    have HZ : Hid (Calls Tryd.prog 4 #[.slice (some ⟨w1.heap.size + 1, 0, none⟩) 2 2] ((w1.alloc (.cells #[.int .i64 0, .int .i64 0] 24)).alloc (.cells #[.int .i64 0, .int .i64 0] 3)) fun e w' => e = .returned (.tuple #[.agg #[.int .i64 0, .int .i64 0], .iface 36 (.int .i64 5)]) ∧ Below ((w1.alloc (.cells #[.int .i64 0, .int .i64 0] 24)).alloc (.cells #[.int .i64 0, .int .i64 0] 3)).heap.size ((w1.alloc (.cells #[.int .i64 0, .int .i64 0] 24)).alloc (.cells #[.int .i64 0, .int .i64 0] 3)) w') := by
      have := hI (fun _ => True) [0, 0] (.slice (some ⟨w1.heap.size + 1, 0, none⟩) 2 2) ((w1.alloc (.cells #[.int .i64 0, .int .i64 0] 24)).alloc (.cells #[.int .i64 0, .int .i64 0] 3)) (et_two _ _ 0 0 (by go_simp) (by go_simp))
      rw [fact00E, okF_ne (by decide)] at this
      exact this
    go_wp2_with fail
    refine HZ.out.mono ?_
    rintro e w3 ⟨rfl, hw3⟩
    have B3 : Hid (Below w.heap.size w w3) := Bel.call BZ.out (Nat.le_refl _) hw3
    have z3 : w.heap.size ≤ w3.heap.size := B3.out.size
    have B3' : Hid (Below w.heap.size w (w3.alloc (.cells #[.int .i64 0, .int .i64 0] 24))) := B3.out.alloc z3 _
    clear hw3 HZ
    go_wp2_with fail
    refine (HE5.out _ B3'.out).mono ?_
    rintro e w4 ⟨rfl, hw4⟩
    have B4 : Hid (Below w.heap.size w w4) := Bel.call B3'.out (Nat.le_refl _) hw4
    clear hw4
    go_wp2
    go_ret
    exact ⟨Ns.ret_bool rfl, B4.out⟩
end Ev
end Go.Proofs.YtbbljjhddikfpaeDoor
