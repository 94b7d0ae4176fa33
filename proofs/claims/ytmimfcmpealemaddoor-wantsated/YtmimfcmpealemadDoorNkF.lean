/- Package neck's Full: which links' loads are just what they take. -/
import Derived.Test.YtmimfcmpealemadDoorPlains
import Derived.Test.YtmimfcmpealemadDoorLoadC
import Derived.OwnWalk
import Derived.BigQuiet
namespace Go.Proofs.YtmimfcmpealemadDoor
namespace Fl
open Go.RowKit Fr Ns Ld
set_option linter.unusedSimpArgs false
set_option linter.unusedVariables false

theorem cell_one_nu (w : World) (x : Value) (T : TypeId) : ∀ j u, [x][j]? = some u → (w.alloc (.cells #[x] T)).cell? ((⟨w.heap.size, 0, none⟩ : Addr).add j) = some u := by
  intro j u hj
  match j, hj with
  | 0, hj => simp at hj; subst hj; simp [Addr.add]
theorem owns_more {w w' : World} {base : Nat} {e : TypeId} {size n : Nat} {v : Value} {xs : List Value} (hb : Below w.heap.size w w') (h : w.ownsRow base e size v n xs) : w'.ownsRow base e size v n xs := by
  refine ⟨h.1, ?_⟩
  rcases h.2 with h' | ⟨g', cap', cur, h', hg, hc, r⟩
  · exact .inl h'
  · have hlt : g' < w.heap.size := (Array.getElem?_eq_some_iff.1 hc).1
    exact .inr ⟨g', cap', cur, h', hg, by rw [hb.block g' hlt]; exact hc, r⟩

set_option maxRecDepth 100000 in
set_option maxHeartbeats 4000000 in
theorem nfull_said : NFullSaid := by
  intro Q caps paths r v x w h hx
  have HOf : Hid (∀ u : World, Below w.heap.size w u → Calls Tryd.prog 32 #[v, x] u fun e w' => ∃ y, e = .returned (.tuple #[y, errV (loadE caps paths r)]) ∧ FracsAt (fun b => u.heap.size ≤ b) w' y (okL (loadE caps paths r) (loadL paths r caps.length)) ∧ Below u.heap.size u w') := fun u hu => of_said Q caps paths r v x u (h.later hu) (hx.later hu)
  by_cases hk : loadE caps paths r = 0
  · have hc6 : caps.length ≤ 6 := (netE_0 (loadE_0 hk).1).2.1
    have hls : (loadL paths r caps.length).length = caps.length := loadL_length _ _ _
    rw [hk, errV_0, okL_0] at HOf
    rw [hk, errV_0, okL_0]
    generalize loadL paths r caps.length = ls at *
    clear hk
    obtain ⟨v1, v2, rfl, h1, h2⟩ := h
    have HCp : Hid (∀ i, i < caps.length → ∃ b off, ∃ cap, v1 = .slice (some ⟨b, off, none⟩) caps.length cap ∧ ∀ u, Below w.heap.size w u → u.cell? ⟨b, off + i, none⟩ = some (.int .i64 (caps.getD i 0))) := by
      intro i hi
      obtain ⟨a, cap, e, _, hc⟩ := h1
      rcases hc with rfl | ⟨b, off, rfl, hc, _⟩
      · simp at hi
      · exact ⟨b, off, cap, e, fun u hu => cell_later hu (hc i hi)⟩
    obtain ⟨a1, cap1, rfl, ⟨hm1, hn1⟩, _⟩ := h1
    obtain ⟨a2, cap2, rfl, ⟨hm2, hn2⟩, _⟩ := h2
    obtain ⟨ar, capr, rfl, ⟨hm3, hn3⟩, _⟩ := hx
    have HBW : Hid (∀ u, Below (w.heap.size + 1) (w.alloc (.cells #[.slice a1 caps.length cap1, .slice a2 paths.length cap2] 25)) u → Below w.heap.size w u) := fun u hu => ((Below.refl _ _).alloc (Nat.le_refl _) _).trans (hu.mono (by omega))
    have HCW : Hid (∀ u, Below (w.heap.size + 1) (w.alloc (.cells #[.slice a1 caps.length cap1, .slice a2 paths.length cap2] 25)) u → u.cell? ⟨w.heap.size, 0, none⟩ = some (.slice a1 caps.length cap1)) := fun u hu => (hu.cell (p := ⟨w.heap.size, 0, none⟩) (by simp)).trans (by simp)
    have hNB : Hid (w.heap.size + 1 ≤ (w.alloc (.cells #[.slice a1 caps.length cap1, .slice a2 paths.length cap2] 25)).heap.size) := by simp [Hid]
    obtain ⟨i0, hi, hz0, hz1, hz2⟩ := info_parts infoInt
    go_enter Tryd.func36, Tryd.ntmps36
    go_wp2_with fail
    refine (HOf.out _ (HBW.out _ (Below.refl _ _))).mono ?_
    rintro e w1 ⟨y, rfl, hy, hw1⟩
    have B1 : Hid (Below (w.heap.size + 1) (w.alloc (.cells #[.slice a1 caps.length cap1, .slice a2 paths.length cap2] 25)) w1) := Bel.call (Below.refl _ _) hNB.out hw1
    have hz1' : w.heap.size + 1 ≤ w1.heap.size := Nat.le_trans hNB.out B1.out.size
    have HXc : Hid (∀ i, i < caps.length → ∃ b off, ∃ cap, y = .slice (some ⟨b, off, none⟩) ls.length cap ∧ ∀ u, Below w1.heap.size w1 u → u.cell? ⟨b, off + i * 2, none⟩ = some (.int .i64 (ls.getD i (0, 0)).1) ∧ u.cell? ⟨b, off + i * 2 + 1, none⟩ = some (.int .i64 (ls.getD i (0, 0)).2)) := by
      intro i hi
      obtain ⟨a, cap, e, _, hc⟩ := hy
      rcases hc with hc | ⟨b, off, rfl, hc, _⟩
      · rw [hc] at hls; simp at hls; omega
      · exact ⟨b, off, cap, e, fun u hu => ⟨cell_later hu (hc i (by omega)).1, cell_later hu (hc i (by omega)).2⟩⟩
    obtain ⟨ay, cy, rfl, ⟨hmy, hny⟩, _⟩ := hy
    have l1 : ls.length ≤ caps.length := Nat.le_of_eq hls
    have l2 : caps.length ≤ ls.length := Nat.le_of_eq hls.symm
    clear hw1 hls
    go_wp2
    go_loopw [8, 9, 10, 22] (fun o _ _ s22 wq => ∃ k : Nat, k ≤ caps.length ∧ s22 = .int .i64 k ∧ Hid (wq.ownsRow w1.heap.size 3 1 o (fullTo caps ls k).length ((fullTo caps ls k).map (Value.int .i64))) ∧ Hid (Below w1.heap.size w1 wq)) (fun _ _ _ s22 _ => caps.length - (intOf s22).toNat)
    case atStart => exact ⟨0, by omega, rfl, World.ownsRow_nil _ _ _ _, Below.refl _ _⟩
    case round =>
      obtain ⟨k, hk, rfl, ho, hb⟩ := hrel
      have hsz : w1.heap.size ≤ wr.heap.size := hb.out.size
      have Bw : Hid (Below (w.heap.size + 1) (w.alloc (.cells #[.slice a1 caps.length cap1, .slice a2 paths.length cap2] 25)) wr) := B1.out.trans (hb.out.mono hz1')
      by_cases hlt : k < caps.length
      · have hltl : (k : Int) < (ls.length : Int) := by omega
        have hltn : k < ls.length := by omega
        obtain ⟨bc, oc, cc, e, hcc⟩ := HCp.out k hlt
        simp only [Value.slice.injEq] at e
        obtain ⟨rfl, _, rfl⟩ := e
        obtain ⟨bx, ox, cx, e, hcx⟩ := HXc.out k hlt
        simp only [Value.slice.injEq] at e
        obtain ⟨rfl, _, rfl⟩ := e
        have hst := fullTo_step caps ls k
        have hfl := fullTo_length caps ls k
        have g0 := HCW.out _ Bw.out
        have c0 := hcc _ (HBW.out _ Bw.out)
        obtain ⟨x0, x1⟩ := hcx _ hb.out
        have P1 : Hid (Below wr.heap.size wr ((wr.alloc (.cells #[.int .i64 (ls.getD k (0, 0)).1, .int .i64 (ls.getD k (0, 0)).2] 39)))) := (Below.refl _ _).alloc (Nat.le_refl _) _
        have g0' := cell_later P1.out g0
        have c0' := cell_later P1.out c0
        generalize hfk : fullTo caps ls k = fk at *
        by_cases heq : ls.getD k (0, 0) = (caps.getD k 0, 1)
        · have HS : Hid (fullTo caps ls (k + 1) = fk ++ [(k : Int)]) := by show _ = _; rw [hst, if_pos heq]
          have e1 : (ls.getD k (0, 0)).1 = caps.getD k 0 := by rw [heq]
          have e2 : (ls.getD k (0, 0)).2 = 1 := by rw [heq]
          rw [e1, e2] at P1 g0' c0'
          rw [e1] at x0
          rw [e2] at x1
          generalize caps.getD k 0 = c at *
          clear hst heq e1 e2 hcc hcx hfk
          go_wp2_with fail
          go_quiet (fail)
          have Bt : Hid (Below wr.heap.size wr ((wr.alloc (.cells #[.int .i64 c, .int .i64 1] 39)).drewN nq)) := below_drewN P1.out _
          generalize (wr.alloc (.cells #[.int .i64 c, .int .i64 1] 39)).drewN nq = wt at *
          have Ot : Hid (wt.ownsRow w1.heap.size 3 1 u8 fk.length (fk.map (Value.int .i64))) := owns_more Bt.out ho.out
          have hst' : w1.heap.size ≤ wt.heap.size := Nat.le_trans hsz Bt.out.size
          have Bt1 : Hid (Below w1.heap.size w1 wt) := hb.out.trans (Bt.out.mono hsz)
          clear g0 c0 g0' c0' x0 x1
          go_wp2_with (at_builtin; go_must (refine wpList_append_own _ rfl (.tmp 35) (.tmp 37) 22 rfl w1.heap.size 3 i0 (.int .i64 0) 1 8 Tryd.underlying22 hi hz0 hz1 hz2 rfl (by decide) _ _ _ rfl (Ot.out.alloc _) ⟨wt.heap.size, 0, none⟩ 1 1 [.int .i64 k] rfl rfl (cell_one_nu _ _ _) (by intro u hu; simp at hu; subst hu; rfl) (by unfold maxLen; omega) (by omega) (by simp; omega) ?_))
          intro v' wg hown' hgrow _
          have R1 : Hid (Below w1.heap.size w1 wg) := rel_append Bt1.out hst' Ot.out hgrow
          have R2 : Hid (wg.ownsRow w1.heap.size 3 1 v' (fullTo caps ls (k + 1)).length ((fullTo caps ls (k + 1)).map (Value.int .i64))) := by
            show World.ownsRow _ _ _ _ _ _ _
            rw [HS.out]
            simpa using hown'
          clear hown' hgrow
          go_wp2
          go_roundw
          case rel => exact ⟨k + 1, by omega, by go_num, R2, R1⟩
          case measure => simp [intOf]; omega
        · have HS : Hid (fullTo caps ls (k + 1) = fk) := by show _ = _; rw [hst, if_neg heq]; simp
          have hne : ¬ ((ls.getD k (0, 0)).1 = caps.getD k 0 ∧ (ls.getD k (0, 0)).2 = 1) := fun h => heq (Prod.ext h.1 h.2)
          generalize caps.getD k 0 = c at *
          generalize (ls.getD k (0, 0)).1 = t at *
          generalize (ls.getD k (0, 0)).2 = bo at *
          clear hst heq hcc hcx hfk
          have hcase : ((t == c) = false) ∨ ((t == c) = true ∧ (bo == 1) = false) := by
            by_cases h1 : t = c
            · exact .inr ⟨by simp [h1], beq_eq_false_iff_ne.2 (fun h => hne ⟨h1, h⟩)⟩
            · exact .inl (beq_eq_false_iff_ne.2 h1)
          clear hne
          rcases hcase with q1 | ⟨q0, q1⟩
          all_goals
            go_wp2_with fail
            go_quiet (fail)
            have Bt : Hid (Below wr.heap.size wr ((wr.alloc (.cells #[.int .i64 t, .int .i64 bo] 39)).drewN nq)) := below_drewN P1.out _
            generalize (wr.alloc (.cells #[.int .i64 t, .int .i64 bo] 39)).drewN nq = wt at *
            have Ot : Hid (wt.ownsRow w1.heap.size 3 1 u8 fk.length (fk.map (Value.int .i64))) := owns_more Bt.out ho.out
            have Bt1 : Hid (Below w1.heap.size w1 wt) := hb.out.trans (Bt.out.mono hsz)
            clear g0 c0 g0' c0' x0 x1
            go_wp2
            go_roundw
            case rel => exact ⟨k + 1, by omega, by go_num, by rw [HS.out]; exact Ot, Bt1⟩
            case measure => simp [intOf]; omega
      · obtain rfl : k = caps.length := by omega
        have hfl := fullTo_length caps ls caps.length
        have HX : Hid (IntsAt (fun b => w.heap.size ≤ b) wr u8 (fullTo caps ls caps.length)) := ints_of_owns (base := w1.heap.size) (by omega) ho.out (fun g hg => by omega)
        have hnl : ¬ (caps.length : Int) < (ls.length : Int) := by omega
        go_wp2
        refine bodyPost_ret (v := .tuple #[u8, .nilIface]) (by simp [results, Tryd.results36, go_sem]) rfl ?_
        exact ⟨_, rfl, HX.out, HBW.out _ Bw.out⟩
  · have HV : Hid (errV (loadE caps paths r) = .iface 57 (.int .i64 (loadE caps paths r))) := errV_ne hk
    have HK : Hid (okL (loadE caps paths r) (fullTo caps (loadL paths r caps.length) caps.length) = []) := okL_ne hk _
    have HK2 : Hid (okL (loadE caps paths r) (loadL paths r caps.length) = []) := okL_ne hk _
    rw [HV.out, HK2.out] at HOf
    rw [HV.out, HK.out]
    generalize loadE caps paths r = ek at *
    clear hk
    obtain ⟨v1, v2, rfl, h1, h2⟩ := h
    obtain ⟨a1, cap1, rfl, _⟩ := h1
    obtain ⟨a2, cap2, rfl, _⟩ := h2
    obtain ⟨ar, capr, rfl, _⟩ := hx
    go_enter Tryd.func36, Tryd.ntmps36
    go_wp2_with fail
    refine (HOf.out _ ((Below.refl _ _).alloc (Nat.le_refl _) _)).mono ?_
    rintro e w1 ⟨y, rfl, hy, hw1⟩
    have HB1 : Hid (Below w.heap.size w w1) := ((Below.refl _ _).alloc (Nat.le_refl _) _).trans (hw1.mono (by simp))
    obtain ⟨ay, ny, cy, rfl⟩ := hy.shape
    clear hw1 hy
    go_wp2
    refine bodyPost_ret (v := .tuple #[.slice none 0 0, .iface 57 (.int .i64 ek)]) (by simp [results, Tryd.results36, go_sem]) rfl ?_
    exact ⟨_, rfl, ints_nil _ _, HB1.out⟩
end Fl
end Go.Proofs.YtmimfcmpealemadDoor
