/- The law RankSelf returns true for every rates and number, from what is asked of rank's calls: in whatever order it is as good. -/
import Derived.Test.YtcleeepbpibcfadPlains
import Derived.Test.YtcleeepbpibcfadFracD
import Derived.OwnWalk
namespace Go.Proofs.Ytcleeepbpibcfad
namespace Fl
open Go.RowKit Fr Ns Ld
set_option linter.unusedSimpArgs false
set_option linter.unusedVariables false

theorem f2S {t b u c : Int} (h1 : fault t b = 0) (h2 : fault u c = 0) : fault2 t b u c = 0 := by rw [fault2, if_pos h1, h2]
theorem AddS_may {s a : Int × Int} (hs : faultP s = 0) (ha : faultP a = 0) (h : mayP (sumP s a) = true) (w : World) :
    Calls Try.prog 11 #[.agg #[.int .i64 s.1, .int .i64 s.2], .agg #[.int .i64 a.1, .int .i64 a.2]] w fun e w' => e = .returned (.tuple #[.agg #[.int .i64 (sumP s a).1, .int .i64 (sumP s a).2], .nilIface]) ∧ Below w.heap.size w w' := by
  have := Add_any s.1 s.2 a.1 a.2 w
  have hf := f2S hs ha
  have hm : mayB (lowT (s.1 * a.2 + a.1 * s.2) (s.2 * a.2)) (lowB (s.1 * a.2 + a.1 * s.2) (s.2 * a.2)) = true := h
  rw [addT, addB, Fr.addE, if_pos hf, if_pos hf, if_pos hf, madeT, madeB, madeE, if_pos hm, if_pos hm, if_pos hm] at this
  exact this
theorem AddS_big {s a : Int × Int} (hs : faultP s = 0) (ha : faultP a = 0) (h : mayP (sumP s a) = false) (w : World) :
    Calls Try.prog 11 #[.agg #[.int .i64 s.1, .int .i64 s.2], .agg #[.int .i64 a.1, .int .i64 a.2]] w fun e w' => e = .returned (.tuple #[.agg #[.int .i64 0, .int .i64 0], .iface 44 (.int .i64 4)]) ∧ Below w.heap.size w w' := by
  have := Add_any s.1 s.2 a.1 a.2 w
  have hf := f2S hs ha
  have hm : ¬ mayB (lowT (s.1 * a.2 + a.1 * s.2) (s.2 * a.2)) (lowB (s.1 * a.2 + a.1 * s.2) (s.2 * a.2)) = true := by
    have h' : mayB (lowT (s.1 * a.2 + a.1 * s.2) (s.2 * a.2)) (lowB (s.1 * a.2 + a.1 * s.2) (s.2 * a.2)) = false := h
    rw [h']; decide
  rw [addT, addB, Fr.addE, if_pos hf, if_pos hf, if_pos hf, madeT, madeB, madeE, if_neg hm, if_neg hm, if_neg hm] at this
  exact this
theorem rev_step {r : List (Int × Int)} {j m : Nat} (h : m + j + 1 = r.length) : r.reverse.take (j + 1) = r.reverse.take j ++ [r.getD m (0, 0)] := by
  rw [take_snoc r.reverse j (by simp; omega) (0, 0)]
  congr 2
  have hj : j < r.reverse.length := by simp; omega
  have hm : m < r.length := by omega
  simp only [List.getD, List.getElem?_eq_getElem hj, List.getElem?_eq_getElem hm, Option.getD_some, List.getElem_reverse]
  congr 1
  omega
theorem more_right {r : List (Int × Int)} {i : Nat} (h : sortE r = 0) (hi : i < r.length) (hm : mayP (sumP (rP r.reverse i) (1, 1)) = true) :
    rankE r (r.reverse.set i (sumP (rP r.reverse i) (1, 1))) = 0 ∧ rankV r (r.reverse.set i (sumP (rP r.reverse i) (1, 1))) = -1 := by
  obtain ⟨h6, hf⟩ := sortE_0 h
  have hfr : ∀ a ∈ r.reverse, faultP a = 0 := fun a ha => hf a (by simpa using ha)
  have hir : i < r.reverse.length := by simpa using hi
  have hai : faultP (rP r.reverse i) = 0 := hfr _ (getD_mem r.reverse i hir (0, 0))
  have hb := fault_pos hai
  have hp : 1 ≤ (rP r.reverse i).2 * (1 : Int) := by omega
  have hsum : faultP (sumP (rP r.reverse i) (1, 1)) = 0 := fault_iff.2 ⟨hm, low_coprime hp⟩
  have hs2 : sortE (r.reverse.set i (sumP (rP r.reverse i) (1, 1))) = 0 := sortE_mk (by simp; omega) (fun a ha => by
    rcases List.mem_or_eq_of_mem_set ha with h' | rfl
    · exact hfr a h'
    · exact hsum)
  obtain ⟨e1, e2⟩ := rank_mk h hs2 (by simp)
  refine ⟨e1, ?_⟩
  rw [e2, ← sort_reverse hf]
  refine rank_more hfr hir (fault_pos hsum) ?_
  rw [val_sum hb (by decide), val_whole]
  have : ((1 : Int) : Rat) = 1 := rfl
  rw [this]
  grind
theorem back_right {r : List (Int × Int)} (h : sortE r = 0) : rankE r r.reverse = 0 ∧ rankV r r.reverse = 0 := by
  obtain ⟨h6, hf⟩ := sortE_0 h
  have hs2 : sortE r.reverse = 0 := sortE_mk (by simpa using h6) (fun a ha => hf a (by simpa using ha))
  obtain ⟨e1, e2⟩ := rank_mk h hs2 (by simp)
  exact ⟨e1, by rw [e2, sort_reverse hf]; exact cmpL_self _⟩

set_option maxRecDepth 100000 in
set_option maxHeartbeats 8000000 in
theorem rankSelf_walk (hSo : SortedSaid) (hCm : RCompareSaid) (r : List (Int × Int)) (i : Int) (x : Value) (w : World) (hx : FracsAt (fun b => b < w.heap.size) w x r) :
    Calls Try.prog 4 #[x, .int .i64 i] w fun e w' => e = .returned (.bool true) ∧ Below w.heap.size w w' := by
  have HSo : Hid (Calls Try.prog 10 #[x] w fun e w' => ∃ y, e = .returned (.tuple #[y, errV (sortE r)]) ∧ FracsAt (fun b => w.heap.size ≤ b) w' y (okL (sortE r) (sortP r)) ∧ Below w.heap.size w w') := hSo _ r x w hx
  have HX : Hid (∀ u : World, Below w.heap.size w u → FracsAt (fun b => b < w.heap.size) u x r) := fun u hu => hx.later hu
  obtain ⟨ar, capr, rfl, ⟨hm3, hn3⟩, hc⟩ := hx
  have HXc : Hid (∀ k, k < r.length → ∃ b off, ar = some ⟨b, off, none⟩ ∧ ∀ u, Below w.heap.size w u → u.cell? ⟨b, off + k * 2, none⟩ = some (.int .i64 (r.getD k (0, 0)).1) ∧ u.cell? ⟨b, off + k * 2 + 1, none⟩ = some (.int .i64 (r.getD k (0, 0)).2)) := by
    intro k hk
    rcases hc with h0 | ⟨b, off, rfl, hc, _⟩
    · rw [h0] at hk; simp at hk
    · exact ⟨b, off, rfl, fun u hu => ⟨cell_later hu (hc k hk).1, cell_later hu (hc k hk).2⟩⟩
  clear hc
  by_cases he : sortE r = 0
  · obtain ⟨h6, hf⟩ := sortE_0 he
    obtain ⟨e1, e2⟩ := back_right he
    have HC1 : Hid (∀ (u : World) (y : Value), Below w.heap.size w u → FracsAt (fun _ => True) u y r.reverse → Calls Try.prog 5 #[.slice ar r.length capr, y] u fun e w' => e = .returned (.tuple #[.int .i64 0, .nilIface]) ∧ Below u.heap.size u w') := fun u y hu hy => by
      have := hCm _ _ r _ _ y u (HX.out u hu) hy
      rw [e1, e2, errV_0] at this
      exact this
    have HC2 : Hid (∀ (u : World) (y : Value) (k : Nat), Below w.heap.size w u → k < r.length → mayP (sumP (rP r.reverse k) (1, 1)) = true → FracsAt (fun _ => True) u y (r.reverse.set k (sumP (rP r.reverse k) (1, 1))) → Calls Try.prog 5 #[.slice ar r.length capr, y] u fun e w' => e = .returned (.tuple #[.int .i64 (-1), .nilIface]) ∧ Below u.heap.size u w') := fun u y k hu hk hm hy => by
      have := hCm _ _ r _ _ y u (HX.out u hu) hy
      obtain ⟨e3, e4⟩ := more_right he hk hm
      rw [e3, e4, errV_0] at this
      exact this
    have HFk : Hid (∀ k, k < r.length → faultP (rP r.reverse k) = 0) := fun k hk => hf _ (by
      have := getD_mem r.reverse k (by simpa using hk) (0, 0)
      have h2 : rP r.reverse k ∈ r.reverse := this
      simpa using h2)
    have hsl := sortP_length r
    have HRv : Hid (∀ j m, m + j + 1 = r.length → r.reverse.take (j + 1) = r.reverse.take j ++ [r.getD m (0, 0)]) := fun j m h => rev_step h
    have hrl : r.reverse.length = r.length := by simp
    rw [he, errV_0, okL_0] at HSo
    generalize sortP r = sr at *
    obtain ⟨bk, HBk⟩ : ∃ bk, Hid (bk = r.reverse) := ⟨_, rfl⟩
    rw [← HBk.out] at HC1 HC2 HFk HRv hrl
    obtain ⟨i0, hi0, hz0, hz1, hz2⟩ := info_parts infoFrac
    clear e1 e2 hf he
    go_enter Try.func4, Try.ntmps4
    go_wp2_with fail
    refine HSo.out.mono ?_
    rintro e w1 ⟨y, rfl, hy, hw1⟩
    have B1 : Hid (Below w.heap.size w w1) := hw1
    have hs1 : w.heap.size ≤ w1.heap.size := hw1.size
    obtain ⟨ay, cy, e, _⟩ := hy
    rw [hsl] at e
    subst e
    clear hw1 hsl
    go_wp2
    go_loopw [7, 8] (fun s7 s8 wq => ∃ j : Nat, j ≤ r.length ∧ s8 = .int .i64 ((r.length : Int) - 1 - (j : Int)) ∧ Hid (wq.ownsRow w1.heap.size 32 2 s7 j (flat (bk.take j))) ∧ Hid (Below w1.heap.size w1 wq)) (fun _ s8 _ => (intOf s8 + 1).toNat)
    case atStart => exact ⟨0, by omega, by go_num, World.ownsRow_nil _ _ _ _, Below.refl _ _⟩
    case round =>
      obtain ⟨j, hj, rfl, ho, hb⟩ := hrel
      have BW : Hid (Below w.heap.size w wr) := B1.out.trans (hb.out.mono (by omega))
      have hsz : w1.heap.size ≤ wr.heap.size := hb.out.size
      by_cases hlt : j < r.length
      · obtain ⟨m, hm⟩ : ∃ m : Nat, m + j + 1 = r.length := ⟨r.length - 1 - j, by omega⟩
        have hmi : (r.length : Int) - 1 - (j : Int) = (m : Int) := by omega
        have hml : m < r.length := by omega
        obtain ⟨b, off, rfl, hcx⟩ := HXc.out m hml
        obtain ⟨c0, c1⟩ := hcx _ BW.out
        have hRs := HRv.out j m hm
        generalize r.getD m (0, 0) = tp at *
        obtain ⟨t1, t2⟩ := tp
        have HRs : Hid (bk.take (j + 1) = bk.take j ++ [(t1, t2)]) := hRs
        simp only at c0 c1
        rw [hmi]
        clear hRs hcx
        go_wp2_with (at_builtin; go_must (refine wpList_append_own _ rfl (.tmp 36) (.tmp 41) 26 rfl w1.heap.size 32 i0 (.agg #[.int .i64 0, .int .i64 0]) 2 16 Try.underlying26 hi0 hz0 hz1 hz2 rfl (by decide) _ _ _ rfl (ho.out.alloc _) ⟨wr.heap.size, 0, none⟩ 1 1 [.int .i64 t1, .int .i64 t2] rfl rfl ?c1 ?c2 ?c3 ?c4 ?c5 ?_))
        case c1 =>
          intro j u hj
          match j, hj with
          | 0, hj => simp at hj; subst hj; simp [Addr.add]
          | 1, hj => simp at hj; subst hj; simp [Addr.add]
        case c2 => intro u hu; simp at hu; rcases hu with rfl | rfl <;> rfl
        case c3 => unfold maxLen; omega
        case c4 => omega
        case c5 => simp; omega
        intro v' w2 hown' hgrow _
        have R1 : Hid (Below w1.heap.size w1 w2) := rel_append hb.out hsz ho.out hgrow
        have R2 : Hid (w2.ownsRow w1.heap.size 32 2 v' (j + 1) (flat (bk.take (j + 1)))) := by
          show World.ownsRow _ _ _ _ _ _ _
          rw [HRs.out, flat_append]
          exact hown'
        clear hown' hgrow
        go_wp2
        go_roundw
        case rel => exact ⟨j + 1, by omega, by go_num, R2, R1⟩
        case measure => simp [intOf]
      · obtain rfl : j = r.length := by omega
        have hbl : bk.length = r.length := hrl
        have HO : Hid (wr.ownsRow w1.heap.size 32 2 u7 r.length (flat bk)) := by
          have := ho.out
          rw [List.take_of_length_le (by omega)] at this
          exact this
        have hF : FracsAt (fun _ => True) wr u7 bk := fracs_of_owns (base := w1.heap.size) (by omega) (by rw [hbl]; exact HO.out) (fun g hg => trivial)
        have HC3 : Hid (Calls Try.prog 5 #[.slice ar r.length capr, u7] wr fun e w' => e = .returned (.tuple #[.int .i64 0, .nilIface]) ∧ Below wr.heap.size wr w') := HC1.out wr u7 BW.out hF
        have hm1 : (r.length : Int) - 1 - (r.length : Int) = -1 := by omega
        have hsh : ∃ a c, u7 = .slice a r.length c := by
          rcases HO.out.2 with ⟨rfl, h0⟩ | ⟨g, cap, cur, rfl, _⟩
          · exact ⟨none, 0, by rw [h0]⟩
          · exact ⟨_, _, rfl⟩
        obtain ⟨a7, c7, rfl⟩ := hsh
        rw [hm1]
        clear ho hF
        by_cases hir : 0 ≤ i ∧ i < (r.length : Int)
        · obtain ⟨k, rfl⟩ : ∃ k : Nat, i = k := ⟨i.toNat, by omega⟩
          have hkl : k < r.length := by omega
          obtain ⟨gB, hgB, rfl⟩ : ∃ gB, w1.heap.size ≤ gB ∧ a7 = some ⟨gB, 0, none⟩ := by
            rcases HO.out.2 with ⟨e, h0⟩ | ⟨g, cap, cur, e, hb', _⟩
            · omega
            · simp only [Value.slice.injEq] at e
              exact ⟨g, hb', e.1⟩
          have hfk := HFk.out k hkl
          have hgl : gB < wr.heap.size := (HO.out.lt _ rfl).2
          obtain ⟨f1, f2⟩ := flat_at bk k (by omega)
          have hfl : (flat bk).length = r.length * 2 := by rw [flat_length, hbl]
          go_wp2_with fail
          refine HC3.out.mono ?_
          rintro e w2 ⟨rfl, hw2⟩
          have B2 : Hid (Below w.heap.size w w2) := Bel.call BW.out (Nat.le_refl _) hw2
          have C2 : Hid (Below w1.heap.size w1 w2) := Bel.call hb.out (Nat.le_refl _) hw2
          have HO2 : Hid (w2.ownsRow w1.heap.size 32 2 (.slice (some ⟨gB, 0, none⟩) r.length c7) r.length (flat bk)) := owns_later hw2 HO.out
          have c0 : w2.cell? ⟨gB, k * 2, none⟩ = some (.int .i64 (bk.getD k (0, 0)).1) := by rw [HO2.out.cellAt (k * 2) (by omega)]; exact f1
          have c1 : w2.cell? ⟨gB, k * 2 + 1, none⟩ = some (.int .i64 (bk.getD k (0, 0)).2) := by rw [HO2.out.cellAt (k * 2 + 1) (by omega)]; exact f2
          have hg2 : gB < w2.heap.size := (HO2.out.lt _ rfl).2
          have hs2 : w1.heap.size ≤ w2.heap.size := C2.out.size
          clear hw2 HC3
          cases hmay : mayP (sumP (rP bk k) (1, 1)) with
          | true =>
            have HAd := (show Hid (∀ u : World, _) from fun u => AddS_may (s := rP bk k) (a := (1, 1)) hfk (by decide) hmay u)
            have HC4 : Hid (∀ (u : World) (y : Value), Below w.heap.size w u → FracsAt (fun _ => True) u y (bk.set k (sumP (rP bk k) (1, 1))) → Calls Try.prog 5 #[.slice ar r.length capr, y] u fun e w' => e = .returned (.tuple #[.int .i64 (-1), .nilIface]) ∧ Below u.heap.size u w') := fun u y hu hy => HC2.out u y k hu hkl hmay hy
            have hrp : bk.getD k (0, 0) = rP bk k := rfl
            rw [hrp] at c0 c1
            have HFs : Hid (flat (bk.set k (sumP (rP bk k) (1, 1))) = ((flat bk).set (k * 2) (.int .i64 (sumP (rP bk k) (1, 1)).1)).set (k * 2 + 1) (.int .i64 (sumP (rP bk k) (1, 1)).2)) := flat_set _ _ _
            have hbs : (bk.set k (sumP (rP bk k) (1, 1))).length = r.length := by simpa using hbl
            generalize bk.set k (sumP (rP bk k) (1, 1)) = bs at *
            generalize sumP (rP bk k) (1, 1) = sp at *
            obtain ⟨p1, p2⟩ := sp
            generalize (rP bk k).1 = q1 at *
            generalize (rP bk k).2 = q2 at *
            simp only at HFs
            clear hfk hmay f1 f2
            go_wp2_with fail
            refine (HAd.out _).mono ?_
            rintro e w3 ⟨rfl, hw3⟩
            have ho3 := owns_later hw3 HO2.out
            have z0 : ∃ z, w3.cell? ⟨gB, k * 2, none⟩ = some z := ⟨_, by rw [ho3.cellAt (k * 2) (by omega)]; exact List.getElem?_eq_getElem (show k * 2 < (flat bk).length by omega)⟩
            have z1 : ∃ z, w3.cell? ⟨gB, k * 2 + 1, none⟩ = some z := ⟨_, by rw [ho3.cellAt (k * 2 + 1) (by omega)]; exact List.getElem?_eq_getElem (show k * 2 + 1 < (flat bk).length by omega)⟩
            obtain ⟨z0, y0⟩ := z0
            obtain ⟨z1, y1⟩ := z1
            have y2 : w3.frozen? ⟨gB, k * 2, none⟩ = false := ho3.frozenAt _
            have y3 : w3.frozen? ⟨gB, k * 2 + 1, none⟩ = false := ho3.frozenAt _
            have hg3 : gB < w3.heap.size := by have := hw3.size; omega
            have hne : ¬ gB = w3.heap.size := by omega
            have B3 : Below w.heap.size w w3 := Bel.call B2.out (Nat.le_refl _) hw3
            have HO4 : ((w3.setCell ⟨gB, k * 2, none⟩ (.int .i64 p1)).setCell ⟨gB, k * 2 + 1, none⟩ (.int .i64 p2)).ownsRow w1.heap.size 32 2 (.slice (some ⟨gB, 0, none⟩) r.length c7) r.length (flat bs) := by
              rw [HFs.out]
              exact ((ho3.stored (k * 2) (.int .i64 p1)).1.stored (k * 2 + 1) (.int .i64 p2)).1
            have HF4 : Hid (FracsAt (fun _ => True) (((w3.setCell ⟨gB, k * 2, none⟩ (.int .i64 p1)).setCell ⟨gB, k * 2 + 1, none⟩ (.int .i64 p2)).alloc (.cells #[.int .i64 p1, .int .i64 p2] 32)) (.slice (some ⟨gB, 0, none⟩) r.length c7) bs) := fracs_of_owns (base := w1.heap.size) (by omega) (by rw [hbs]; exact HO4.alloc _) (fun g hg => trivial)
            have B4 : Hid (Below w.heap.size w (((w3.setCell ⟨gB, k * 2, none⟩ (.int .i64 p1)).setCell ⟨gB, k * 2 + 1, none⟩ (.int .i64 p2)).alloc (.cells #[.int .i64 p1, .int .i64 p2] 32))) := ((B3.setCell (by simp; omega) _).setCell (by simp; omega) _).alloc (by simp; have := B3.size; omega) _
            clear hw3 ho3 c0 c1 HO4 B3
            go_wp2_with fail
            refine (HC4.out _ _ B4.out HF4.out).mono ?_
            rintro e w5 ⟨rfl, hw5⟩
            have B5 : Hid (Below w.heap.size w w5) := Bel.call B4.out (Nat.le_refl _) hw5
            clear hw5 y0 y1 y2 y3
            go_wp2
            go_ret
            exact ⟨Ns.ret_bool rfl, B5.out⟩
          | false =>
            have HAd := (show Hid (∀ u : World, _) from fun u => AddS_big (s := rP bk k) (a := (1, 1)) hfk (by decide) hmay u)
            have hrp : bk.getD k (0, 0) = rP bk k := rfl
            rw [hrp] at c0 c1
            generalize (rP bk k).1 = q1 at *
            generalize (rP bk k).2 = q2 at *
            clear hfk hmay f1 f2
            go_wp2_with fail
            refine (HAd.out _).mono ?_
            rintro e w3 ⟨rfl, hw3⟩
            have B3 : Hid (Below w.heap.size w (w3.alloc (.cells #[.int .i64 0, .int .i64 0] 32))) := Bel.more (Bel.call B2.out (Nat.le_refl _) hw3) (Nat.le_refl _) _
            clear hw3 c0 c1
            go_wp2
            go_ret
            exact ⟨Ns.ret_bool rfl, B3.out⟩
        · have hor : i < 0 ∨ (¬ i < 0 ∧ (r.length : Int) ≤ i) := by omega
          rcases hor with hneg | ⟨hneg, hge⟩
          · go_wp2_with fail
            refine HC3.out.mono ?_
            rintro e w2 ⟨rfl, hw2⟩
            have B2 : Hid (Below w.heap.size w w2) := Bel.call BW.out (Nat.le_refl _) hw2
            clear hw2 hir
            go_wp2
            go_ret
            exact ⟨Ns.ret_bool rfl, B2.out⟩
          · go_wp2_with fail
            refine HC3.out.mono ?_
            rintro e w2 ⟨rfl, hw2⟩
            have B2 : Hid (Below w.heap.size w w2) := Bel.call BW.out (Nat.le_refl _) hw2
            clear hw2 hir
            go_wp2
            go_ret
            exact ⟨Ns.ret_bool rfl, B2.out⟩
  · have HV : Hid (errV (sortE r) = .iface 44 (.int .i64 (sortE r))) := errV_ne he
    have HK : Hid (okL (sortE r) (sortP r) = []) := okL_ne he _
    rw [HV.out, HK.out] at HSo
    generalize sortE r = ek at *
    clear he
    go_enter Try.func4, Try.ntmps4
    go_wp2_with fail
    refine HSo.out.mono ?_
    rintro e w1 ⟨y, rfl, hy, hw1⟩
    have B1 : Hid (Below w.heap.size w w1) := hw1
    obtain ⟨ay, cy, rfl, _⟩ := hy
    clear hw1
    go_wp2
    go_ret
    exact ⟨Ns.ret_bool rfl, B1.out⟩
end Fl
end Go.Proofs.Ytcleeepbpibcfad
