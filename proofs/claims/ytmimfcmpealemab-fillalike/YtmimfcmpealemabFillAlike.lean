/- The law FillAlike returns true for every two numbers, from what is asked of package fill's calls: so many flows over one link get each its part of it. -/
import Derived.Test.YtmimfcmpealemabPlains
import Derived.Test.YtmimfcmpealemabFracOf
import Derived.Maps.AppendAt
namespace Go.Proofs.Ytmimfcmpealemab
namespace Fl
open Go.RowKit Fr Ns Ld
set_option linter.unusedSimpArgs false
set_option linter.unusedVariables false

theorem netE_alike {c : Int} {m : Nat} (m1 : 1 ≤ m) (m6 : m ≤ 6) : netE [c] (List.replicate m [0]) = if c < 1 ∨ 1000 < c then 1 else 0 := by
  have hp : pathsFrom (([c] : List Int).length : Int) (List.replicate m [0]) = 0 := by
    rw [pathsFrom_iff]
    intro p hp
    rw [List.eq_of_mem_replicate hp]
    rfl
  rw [netE, if_neg (by simp; omega), if_neg (by simp; omega), hp]
  simp only [linksE, List.length_cons, List.length_nil, capsFrom]
  split <;> simp_all
theorem lists_alike {w : World} {base : Nat} {v : Value} {vs : List Value} {m : Nat} (hm : m ≤ 6) (ho : w.ownsRow base 22 1 v m vs) (hv : ∀ j, j < m → IntsAt (fun _ => True) w (vs.getD j undef) [0]) : ListsAt (fun _ => True) w v (List.replicate m [0]) := by
  have hl : vs.length = m := by have := ho.1; omega
  refine lists_of_owns (base := base) (ll := List.replicate m [0]) (by simp; omega) (by simpa using hl) (by simpa using ho) (fun i hi => ?_) (fun _ _ => trivial)
  have hi' : i < m := by simpa using hi
  rw [getD_replicate _ _ _ _ hi']
  exact hv i hi'

theorem alike_step {B i : Nat} {wr wg : World} {x v v' : Value} {vs : List Value} {o : Obj} (hr : RowAt wr (B + 1) 25 [x, v]) (hv : ∀ j, j < i → IntsAt (fun b => B + 1 < b ∧ v.ownBlock ≠ some b) wr (vs.getD j undef) [0]) (hvs : vs.length = i)
    (hown' : wg.ownsRow (B + 1 + 1) 22 1 v' (i + 1) (vs ++ [.slice (some ⟨wr.heap.size, 0, none⟩) 1 1])) (hgrow : ((wr.alloc (.cells #[.int .i64 0] 3)).alloc o).grownBy wg v.ownBlock) (hat : v'.ownBlock = v.ownBlock ∨ v'.ownBlock = some (wr.heap.size + 1 + 1))
    (hvb : ∀ b, wr.heap.size ≤ b → v.ownBlock ≠ some b) (hb : Below (B + 1 + 1) wr wg) :
    RowAt (wg.setCell ⟨B + 1, 1, none⟩ v') (B + 1) 25 [x, v'] ∧ (wg.setCell ⟨B + 1, 1, none⟩ v').ownsRow (B + 1 + 1) 22 1 v' (i + 1) (vs ++ [.slice (some ⟨wr.heap.size, 0, none⟩) 1 1]) ∧
    ∀ j, j < i + 1 → IntsAt (fun b => B + 1 < b ∧ v'.ownBlock ≠ some b) (wg.setCell ⟨B + 1, 1, none⟩ v') ((vs ++ [Value.slice (some ⟨wr.heap.size, 0, none⟩) 1 1]).getD j undef) [0] := by
  have hlt := hr.lt
  have hset : ∀ g, B + 1 < g → (wg.setCell ⟨B + 1, 1, none⟩ v').heap[g]? = wg.heap[g]? := fun g hg => Below.heap_setCell wg ⟨B + 1, 1, none⟩ v' g (by simp; omega)
  have hkeep : ∀ b, b < wr.heap.size + 1 → v.ownBlock ≠ some b → wg.heap[b]? = (wr.alloc (.cells #[.int .i64 0] 3)).heap[b]? := by
    intro b hlt' hne
    rw [hgrow.block b (by simp; omega) (fun e => hne e.symm)]
    exact ((Below.refl (wr.alloc (.cells #[.int .i64 0] 3)).heap.size (wr.alloc (.cells #[.int .i64 0] 3))).alloc (Nat.le_refl _) o).block b (by simpa using hlt')
  have hQ : ∀ b, b < wr.heap.size + 1 → v.ownBlock ≠ some b → v'.ownBlock ≠ some b := by
    intro b hlt' hne
    rcases hat with h | h
    · rw [h]; exact hne
    · rw [h]
      simp
      omega
  refine ⟨?_, owns_keep (fun g h1 _ => hset g (by omega)) hown', fun j hj => ?_⟩
  · have := (hr.later hb (by omega)).set 1 v'
    simpa using this
  · by_cases hji : j < i
    · have e : (vs ++ [Value.slice (some ⟨wr.heap.size, 0, none⟩) 1 1]).getD j undef = vs.getD j undef := by simp [List.getD, List.getElem?_append_left (show j < vs.length by omega)]
      rw [e]
      refine (hv j hji).keep (fun b hb' hlt' => ?_) (fun b hb' hlt' => ⟨hb'.1, hQ b (by omega) hb'.2⟩)
      rw [hset b hb'.1, hkeep b (by omega) hb'.2]
      exact ((Below.refl wr.heap.size wr).alloc (Nat.le_refl _) _).block b hlt'
    · obtain rfl : j = i := by omega
      have e : (vs ++ [Value.slice (some ⟨wr.heap.size, 0, none⟩) 1 1]).getD j undef = .slice (some ⟨wr.heap.size, 0, none⟩) 1 1 := by rw [← hvs]; simp [List.getD]
      rw [e]
      refine ⟨_, 1, rfl, ⟨Nat.le_refl _, by simp⟩, .inr ⟨wr.heap.size, 0, rfl, fun k hk => ?_, by omega, hQ _ (by omega) (hvb _ (Nat.le_refl _))⟩⟩
      match k, hk with
      | 0, _ =>
        have h1 : RowAt (wg.setCell ⟨B + 1, 1, none⟩ v') wr.heap.size 3 [.int .i64 0] := by
          unfold RowAt
          rw [hset _ (by omega), hkeep _ (by omega) (hvb _ (Nat.le_refl _))]
          exact RowAt.new wr #[.int .i64 0] 3
        simpa using h1.cell (i := 0) rfl

set_option maxRecDepth 100000 in
set_option maxHeartbeats 8000000 in
theorem fillAlike_walk (hRa : RatesSaid) (hRo : RoundsSaid) (c many : Int) (w : World) :
    Calls Try.prog 5 #[.int .i64 c, .int .i64 many] w fun e w' => e = .returned (.bool true) ∧ Below w.heap.size w w' := by
  by_cases hm : many < 1 ∨ 6 < many
  · rcases hm with hm | hm
    · go_enter Try.func5, Try.ntmps5
      go_wp2
      go_ret
      exact ⟨Ns.ret_bool rfl, Below.refl _ _⟩
    · have h1 : ¬ many < 1 := by omega
      go_enter Try.func5, Try.ntmps5
      go_wp2
      go_ret
      exact ⟨Ns.ret_bool rfl, Below.refl _ _⟩
  · obtain ⟨m, rfl⟩ : ∃ m : Nat, many = m := ⟨many.toNat, by omega⟩
    have m1 : 1 ≤ m := by omega
    have m6 : m ≤ 6 := by omega
    have n1 : ¬ (m : Int) < 1 := by omega
    have n6 : (m : Int) ≤ 6 := by omega
    clear hm
    obtain ⟨mI, hMI, hv0, hv1, hv2⟩ := info_parts infoInts
    have HBW : Hid (∀ u, Below (w.heap.size + 1) (w.alloc (.cells #[.int .i64 c] 3)) u → Below w.heap.size w u) := fun u hu => ((Below.refl _ _).alloc (Nat.le_refl _) _).trans (hu.mono (by omega))
    have hNB : Hid (w.heap.size + 1 ≤ (w.alloc (.cells #[.int .i64 c] 3)).heap.size) := by simp [Hid]
    have HC0 : Hid (∀ u, Below (w.heap.size + 1) (w.alloc (.cells #[.int .i64 c] 3)) u → u.cell? ⟨w.heap.size, 0, none⟩ = some (.int .i64 c)) := fun u hu => (hu.cell (p := ⟨w.heap.size, 0, none⟩) (by simp)).trans (by simp)
    have R0 : Hid (RowAt ((w.alloc (.cells #[.int .i64 c] 3)).alloc (.cells #[.slice (some ⟨w.heap.size, 0, none⟩) 1 1, .slice none 0 0] 25)) (w.heap.size + 1) 25 [.slice (some ⟨w.heap.size, 0, none⟩) 1 1, .slice none 0 0]) := by
      have := RowAt.new (w.alloc (.cells #[.int .i64 c] 3)) #[.slice (some ⟨w.heap.size, 0, none⟩) 1 1, .slice none 0 0] 25
      simpa [Hid] using this
    go_enter Try.func5, Try.ntmps5
    go_wp2
    go_loopw [6] (fun s6 wq => ∃ (i : Nat) (vs : List Value) (v : Value), i ≤ m ∧ s6 = .int .i64 i ∧ Hid (RowAt wq (w.heap.size + 1) 25 [.slice (some ⟨w.heap.size, 0, none⟩) 1 1, v]) ∧ Hid (wq.ownsRow (w.heap.size + 1 + 1) 22 1 v i vs) ∧ Hid (∀ j, j < i → IntsAt (fun b => w.heap.size + 1 < b ∧ v.ownBlock ≠ some b) wq (vs.getD j undef) [0]) ∧ Hid (Below (w.heap.size + 1) (w.alloc (.cells #[.int .i64 c] 3)) wq)) (fun s6 _ => m - (intOf s6).toNat)
    case atStart => exact ⟨0, [], .slice none 0 0, by omega, rfl, R0, World.ownsRow_nil _ _ _ _, fun j hj => by omega, (Below.refl _ _).alloc hNB.out _⟩
    case round =>
      obtain ⟨i, vs, v, hi, rfl, hr, ho, hv, hb⟩ := hrel
      have c0 := hr.out.cell (i := 0) rfl
      have c1 := hr.out.cell (i := 1) rfl
      have f0 := hr.out.frozen 0
      have f1 := hr.out.frozen 1
      have hsz := hr.out.lt
      by_cases hlt : i < m
      · have ho2 := (ho.out.alloc (.cells #[.int .i64 0] 3)).alloc (.cells #[.slice (some ⟨wr.heap.size, 0, none⟩) 1 1] 22)
        have HO2 : Hid (((wr.alloc (.cells #[.int .i64 0] 3)).alloc (.cells #[.slice (some ⟨wr.heap.size, 0, none⟩) 1 1] 22)).ownsRow (w.heap.size + 1 + 1) 22 1 v i vs) := ho2
        have HVb : Hid (∀ b, wr.heap.size ≤ b → v.ownBlock ≠ some b) := fun b hb' e => by have := (ho.out.lt b e).2; omega
        have HNews : Hid (∀ j u, [Value.slice (some ⟨wr.heap.size, 0, none⟩) 1 1][j]? = some u → ((wr.alloc (.cells #[.int .i64 0] 3)).alloc (.cells #[.slice (some ⟨wr.heap.size, 0, none⟩) 1 1] 22)).cell? ((⟨wr.heap.size + 1, 0, none⟩ : Addr).add j) = some u) := by
          have := cell_one_new (wr.alloc (.cells #[.int .i64 0] 3)) (.slice (some ⟨wr.heap.size, 0, none⟩) 1 1) 22
          simpa [Hid] using this
        have hvs : vs.length = i := by have := ho.out.1; omega
        clear ho2
        go_wp2_with (at_builtin; go_must (refine wpList_append_own_at _ rfl (.tmp 29) (.tmp 31) 23 rfl (w.heap.size + 1 + 1) 22 mI (.slice none 0 0) 1 24 Try.underlying23 hMI hv0 hv1 hv2 rfl (by decide) v i vs rfl HO2.out ⟨wr.heap.size + 1, 0, none⟩ 1 1 [.slice (some ⟨wr.heap.size, 0, none⟩) 1 1] rfl rfl HNews.out (by intro u hu; simp at hu; subst hu; rfl) (by unfold maxLen; omega) (by omega) (by simp; omega) ?_))
        intro v' wg hown' hgrow _ hat
        have HBg : Below (w.heap.size + 1 + 1) wr wg := rel_append (o := .cells #[.slice (some ⟨wr.heap.size, 0, none⟩) 1 1] 22) ((Below.refl _ wr).alloc (by omega) (.cells #[.int .i64 0] 3)) (by simp; omega) (ho.out.alloc _) hgrow
        obtain ⟨s1, s2, s3⟩ := alike_step hr.out hv.out hvs hown' hgrow (by simpa using hat) HVb.out HBg
        have S1 : Hid (RowAt (wg.setCell ⟨w.heap.size + 1, 1, none⟩ v') (w.heap.size + 1) 25 [.slice (some ⟨w.heap.size, 0, none⟩) 1 1, v']) := s1
        have S2 : Hid ((wg.setCell ⟨w.heap.size + 1, 1, none⟩ v').ownsRow (w.heap.size + 1 + 1) 22 1 v' (i + 1) (vs ++ [.slice (some ⟨wr.heap.size, 0, none⟩) 1 1])) := s2
        have S3 : Hid (∀ j, j < i + 1 → IntsAt (fun b => w.heap.size + 1 < b ∧ v'.ownBlock ≠ some b) (wg.setCell ⟨w.heap.size + 1, 1, none⟩ v') ((vs ++ [Value.slice (some ⟨wr.heap.size, 0, none⟩) 1 1]).getD j undef) [0]) := s3
        have S4 : Hid (Below (w.heap.size + 1) (w.alloc (.cells #[.int .i64 c] 3)) (wg.setCell ⟨w.heap.size + 1, 1, none⟩ v')) := (hb.out.trans (HBg.mono (by omega))).setCell (by simp) _
        have rg := hr.out.later HBg (by omega)
        have d1 := rg.cell (i := 1) rfl
        have d2 := rg.frozen 1
        obtain ⟨av, nv, cv, rfl⟩ : ∃ a n k, v' = .slice a n k := by
          rcases hown'.2 with ⟨e, _⟩ | ⟨g, cap, cur, e, _⟩
          · exact ⟨_, _, _, e⟩
          · exact ⟨_, _, _, e⟩
        clear hown' hgrow hat HBg s1 s2 s3 rg c0 c1 f0 f1
        go_wp2
        go_roundw
        case rel => exact ⟨i + 1, _, _, by omega, by go_num, S1, S2, S3, S4⟩
        case measure => simp [intOf]; omega
      · obtain rfl : i = m := by omega
        have HNt : Hid (NetAt (fun _ => True) wr (.agg #[.slice (some ⟨w.heap.size, 0, none⟩) 1 1, v]) [c] (List.replicate i [0])) := ⟨_, _, rfl, lit_int1 _ _ _ (HC0.out _ hb.out), lists_alike m6 ho.out (fun j hj => (hv.out j hj).keep (fun _ _ _ => rfl) (fun _ _ _ => trivial))⟩
        obtain ⟨av, nv, cv, rfl⟩ : ∃ a n k, v = .slice a n k := by
          rcases ho.out.2 with ⟨e, _⟩ | ⟨g, cap, cur, e, _⟩
          · exact ⟨_, _, _, e⟩
          · exact ⟨_, _, _, e⟩
        have HRa := fun (u : World) (hu : Below wr.heap.size wr u) => hRa _ [c] (List.replicate i [0]) _ u (HNt.out.later hu)
        have HRo := fun (u : World) (hu : Below wr.heap.size wr u) => hRo _ [c] (List.replicate i [0]) _ u (HNt.out.later hu)
        have hne := netE_alike (c := c) m1 m6
        by_cases hc : c < 1 ∨ 1000 < c
        · rw [hne, if_pos hc] at HRa
          have HRa' : Hid (Calls Try.prog 13 #[.agg #[.slice (some ⟨w.heap.size, 0, none⟩) 1 1, .slice av nv cv]] wr fun e w' => ∃ y, e = .returned (.tuple #[y, .iface 57 (.int .i64 1)]) ∧ FracsAt (fun b => wr.heap.size ≤ b) w' y [] ∧ Below wr.heap.size wr w') := HRa wr (Below.refl _ _)
          clear HRa HRo hne HNt
          go_wp2_with fail
          refine HRa'.out.mono ?_
          rintro e w2 ⟨y2, rfl, hy2, hw2⟩
          have B2 : Hid (Below w.heap.size w w2) := HBW.out _ (Bel.call hb.out hNB.out hw2)
          obtain ⟨ay, ny, cy, rfl⟩ := hy2.shape
          clear hy2 hw2
          rcases hc with hc | hc
          · go_wp2
            go_ret
            exact ⟨Ns.ret_bool rfl, B2.out⟩
          · have hc' : ¬ c < 1 := by omega
            go_wp2
            go_ret
            exact ⟨Ns.ret_bool rfl, B2.out⟩
        · obtain ⟨fa1, fa2⟩ := fill_alike (c := c) (m := i) (by omega) (by omega) m1 m6
          rw [hne, if_neg hc, errV_0, okL_0, fa1] at HRa
          rw [hne, if_neg hc, errV_0, okL_0] at HRo
          have HOf := Of_any c i
          have hmay : mayB c i = true := mayB_iff.2 (by omega)
          rw [ofT, ofB, ofE, hmay] at HOf
          simp only [if_true] at HOf
          have HRa' : Hid (Calls Try.prog 13 #[.agg #[.slice (some ⟨w.heap.size, 0, none⟩) 1 1, .slice av nv cv]] wr fun e w' => ∃ y, e = .returned (.tuple #[y, .nilIface]) ∧ FracsAt (fun b => wr.heap.size ≤ b) w' y (List.replicate i (lowT c i, lowB c i)) ∧ Below wr.heap.size wr w') := HRa wr (Below.refl _ _)
          have HRo' : Hid (∀ u, Below wr.heap.size wr u → Calls Try.prog 15 #[.agg #[.slice (some ⟨w.heap.size, 0, none⟩) 1 1, .slice av nv cv]] u fun e w' => ∃ y, e = .returned (.tuple #[y, .nilIface]) ∧ ListsAt (fun b => u.heap.size ≤ b) w' y (fill [c] (List.replicate i [0])).2 ∧ Below u.heap.size u w') := HRo
          have HOf' : Hid (∀ u : World, Calls Try.prog 14 #[.int .i64 c, .int .i64 i] u fun e w' => e = .returned (.tuple #[.agg #[.int .i64 (lowT c i), .int .i64 (lowB c i)], .nilIface]) ∧ Below u.heap.size u w') := HOf
          have HF2 : Hid ((fill [c] (List.replicate i [0])).2.length = 1) := fa2
          generalize (fill [c] (List.replicate i [0])).2 = zz at *
          generalize lowT c i = q1 at *
          generalize lowB c i = q2 at *
          clear HRa HRo HOf hne HNt fa1 fa2 hmay hc
          go_wp2_with fail
          refine HRa'.out.mono ?_
          rintro e w2 ⟨y2, rfl, hy2, hw2⟩
          have D2 : Hid (Below wr.heap.size wr w2) := hw2
          have Y2 : Hid (FracsAt (fun _ => True) w2 y2 (List.replicate i (q1, q2))) := hy2.keep (fun _ _ _ => rfl) (fun _ _ _ => trivial)
          obtain ⟨ay, cy, rfl, _⟩ := hy2
          rw [List.length_replicate] at Y2 ⊢
          clear hw2
          go_wp2_with fail
          refine (HOf'.out _).mono ?_
          rintro e w3 ⟨rfl, hw3⟩
          have D3 : Hid (Below wr.heap.size wr w3) := Bel.call D2.out (Nat.le_refl _) hw3
          have Y3 : Hid (FracsAt (fun _ => True) w3 (.slice ay i cy) (List.replicate i (q1, q2))) := Y2.out.later hw3
          have D3' : Hid (Below wr.heap.size wr (w3.alloc (.cells #[.int .i64 q1, .int .i64 q2] 28))) := Bel.more D3.out (Nat.le_refl _) _
          have r3 := hr.out.later D3'.out hsz
          have k0 := r3.cell (i := 0) rfl
          have k1 := r3.cell (i := 1) rfl
          clear hw3 r3 c0 c1 f0 f1
          go_wp2_with fail
          refine (HRo'.out _ D3'.out).mono ?_
          rintro e w4 ⟨y4, rfl, hy4, hw4⟩
          have D4 : Hid (Below wr.heap.size wr w4) := Bel.call D3'.out (Nat.le_refl _) hw4
          have Y4 : Hid (∀ j, j < i → ∃ b off, ay = some ⟨b, off, none⟩ ∧ w4.cell? ⟨b, off + j * 2, none⟩ = some (.int .i64 q1) ∧ w4.cell? ⟨b, off + j * 2 + 1, none⟩ = some (.int .i64 q2)) := by
            intro j hj
            obtain ⟨_, _, e, _, hc⟩ := (Y3.out.later ((Below.refl _ w3).alloc (Nat.le_refl _) _)).later hw4
            simp only [Value.slice.injEq] at e
            obtain ⟨rfl, _, rfl⟩ := e
            rcases hc with hc | ⟨b, off, rfl, hc, _⟩
            · have := congrArg List.length hc
              simp at this; omega
            · have := hc j (by simpa using hj)
              rw [getD_replicate _ _ _ _ hj] at this
              exact ⟨b, off, rfl, this⟩
          have G4 : RowAt w4 w3.heap.size 28 [.int .i64 q1, .int .i64 q2] := (RowAt.new w3 #[.int .i64 q1, .int .i64 q2] 28).later hw4 (by simp)
          have G40 : Hid (w4.cell? ⟨w3.heap.size, 0, none⟩ = some (.int .i64 q1)) := G4.cell (i := 0) rfl
          have G41 : Hid (w4.cell? ⟨w3.heap.size, 1, none⟩ = some (.int .i64 q2)) := G4.cell (i := 1) rfl
          obtain ⟨az, cz, rfl, _⟩ := hy4
          rw [HF2.out]
          clear hw4 k0 k1 G4
          go_wp2
          go_loopw [13] (fun s13 wq => ∃ k n : Nat, k ≤ i ∧ s13 = .int .i64 k ∧ Hid (wq = w4.drewN n)) (fun s13 _ => i - (intOf s13).toNat)
          case atStart => exact ⟨0, 0, by omega, rfl, rfl⟩
          case round =>
            obtain ⟨k, n, hk, rfl, hw⟩ := hrel
            by_cases hki : k < i
            · obtain ⟨b, off, rfl, e1, e2⟩ := Y4.out k hki
              have e1' : wr.cell? ⟨b, off + k * 2, none⟩ = some (.int .i64 q1) := by rw [hw.out]; exact e1
              have e2' : wr.cell? ⟨b, off + k * 2 + 1, none⟩ = some (.int .i64 q2) := by rw [hw.out]; exact e2
              have e3 : wr.cell? ⟨w3.heap.size, 0, none⟩ = some (.int .i64 q1) := by rw [hw.out]; exact G40.out
              have e4 : wr.cell? ⟨w3.heap.size, 1, none⟩ = some (.int .i64 q2) := by rw [hw.out]; exact G41.out
              clear e1 e2
              go_wp2
              go_quiet (fail)
              go_wp2
              go_roundw
              case rel => exact ⟨k + 1, n + nq, by omega, by go_num, (show _ = _ by rw [hw.out]; simp)⟩
              case measure => simp [intOf]; omega
            · go_wp2
              go_ret
              exact ⟨Ns.ret_bool rfl, by rw [hw.out]; exact below_drewN ((HBW.out _ hb.out).trans (D4.out.mono (HBW.out _ hb.out).size)) _⟩
end Fl
end Go.Proofs.Ytmimfcmpealemab
