/- Package fill's narrowest: the least share, and all links that have it. -/
import Derived.Test.YtpnmmmlckdkcdakGreatDoorFiC
namespace Go.Proofs.YtpnmmmlckdkcdakGreatDoor
namespace Fl
open Go.RowKit Fr Ns Ld
set_option linter.unusedSimpArgs false
set_option linter.unusedVariables false

theorem one_new (w : World) (x : Value) (T : TypeId) (g : Nat) (hg : g = w.heap.size) : ∀ j u, [x][j]? = some u → (w.alloc (.cells #[x] T)).cell? ((⟨g, 0, none⟩ : Addr).add j) = some u := by
  subst hg
  intro j u hj
  match j, hj with
  | 0, hj => simp at hj; subst hj; simp [Addr.add]

theorem grown1 {B : Nat} {W wg : World} {o1 : Obj} {k : Option Nat} (hs : B ≤ W.heap.size) (hg : (W.alloc o1).grownBy wg k) (hk : ∀ j, k = some j → B ≤ j) : Below B W wg :=
  ((Below.refl B W).alloc hs o1).grown hg (by simp; omega) hk
theorem grown2 {B : Nat} {W wg : World} {o1 o2 : Obj} {k : Option Nat} (hs : B ≤ W.heap.size) (hg : ((W.alloc o1).alloc o2).grownBy wg k) (hk : ∀ j, k = some j → B ≤ j) : Below B W wg :=
  (((Below.refl B W).alloc hs o1).alloc (by simp; omega) o2).grown hg (by simp; omega) hk

set_option maxRecDepth 100000 in
set_option maxHeartbeats 8000000 in
theorem narrowest_any (caps : List Int) (paths : List (List Int)) (rate : List (Int × Int)) (done : List Bool) (gF gf gr : Nat) (v : Value) (w : World) (bst : Int × Int) (h : FillW caps paths rate done gF gf gr v w) (hld : done.length = paths.length) (hlr : rate.length = paths.length) (h6 : paths.length ≤ 6) (hc12 : caps.length ≤ 12)
    (hLf : ∀ l, l < caps.length → ∀ k, k ≤ paths.length → faultP (linkTo caps paths rate done l k).1 = 0) (hRR : ∀ f, f < paths.length → dB done f = true → faultP (rP rate f) = 0)
    (hSR : ∀ l s, l < caps.length → shareOf caps paths rate done l = some s → faultP s = 0) (hB : bestOf (shareOf caps paths rate done) caps.length = some bst) :
    Calls Tryz.prog 125 #[.pointer (some ⟨gF, 0, none⟩)] w fun e w' => ∃ y, e = .returned (.tuple #[.agg #[.int .i64 bst.1, .int .i64 bst.2], y, .nilIface]) ∧ IntsAt (fun b => w.heap.size ≤ b) w' y (linksTo (shareOf caps paths rate done) caps.length) ∧ Below w.heap.size w w' := by
  obtain ⟨a1, cap1, a2, cap2, hv, ⟨hm1, hn1⟩, ⟨hm2, hn2⟩, ⟨z1, z2, z3⟩, HF, Hf, Hr, HC, HP⟩ := h.facts hld hlr
  have HSh : Hid (∀ (l : Nat) (u : World), Below w.heap.size w u → Calls Tryz.prog 153 #[.pointer (some ⟨gF, 0, none⟩), .int .i64 l] u fun e w' => e = .returned (.int .i64 ((linkTo caps paths rate done l paths.length).2 : Nat)) ∧ w' = u) := fun l u hu => sharers_any caps paths rate done gF gf gr v u l (h.later hu) hld hlr h6
  have HSe : Hid (∀ l, shareOf caps paths rate done l = if (linkTo caps paths rate done l paths.length).2 = 0 then none else some (partP (linkTo caps paths rate done l paths.length).1 ((linkTo caps paths rate done l paths.length).2 : Nat))) := fun l => by
    rw [linkTo_all]; rfl
  have HLk : Hid (∀ l, (linkTo caps paths rate done l paths.length).2 ≤ 6) := fun l => Nat.le_trans (linkTo_free _ (Nat.le_refl _)) h6
  have HSa : Hid (∀ (l kk : Nat) (u : World) (p : Int × Int), l < caps.length → kk = (linkTo caps paths rate done l paths.length).2 → kk ≠ 0 → shareOf caps paths rate done l = some p → Below w.heap.size w u → Calls Tryz.prog 154 #[.pointer (some ⟨gF, 0, none⟩), .int .i64 l, .int .i64 kk] u fun e w' => e = .returned (.tuple #[.agg #[.int .i64 p.1, .int .i64 p.2], .nilIface]) ∧ Below u.heap.size u w') := fun l kk u p hl hk hk0 hp hu => by
    have e := HSe.out l
    rw [← hk, if_neg hk0, hp] at e
    obtain rfl := Option.some.inj e
    exact share_any caps paths rate done gF gf gr v u l kk (h.later hu) hld hlr h6 hl (hLf l hl) hRR (by omega) (by have := HLk.out l; omega) (hSR l _ hl hp)
  have HSR : Hid (∀ l s, l < caps.length → shareOf caps paths rate done l = some s → faultP s = 0) := hSR
  have HB : Hid (bestOf (shareOf caps paths rate done) caps.length = some bst) := hB
  obtain ⟨LK, hLK⟩ : ∃ LK : Nat → Nat, ∀ l, (linkTo caps paths rate done l paths.length).2 = LK l := ⟨_, fun _ => rfl⟩
  simp only [hLK] at HSh HSe HLk HSa
  have HSn : Hid (∀ l, LK l = 0 → shareOf caps paths rate done l = none) := fun l hl => by rw [HSe.out l, if_pos hl]
  have HSs : Hid (∀ l, LK l ≠ 0 → ∃ p, shareOf caps paths rate done l = some p) := fun l hl => ⟨_, by rw [HSe.out l, if_neg hl]⟩
  generalize shareOf caps paths rate done = sh at *
  have HLl : Hid (∀ l, (linksTo sh l).length ≤ l) := fun l => linksTo_length sh l
  obtain ⟨k0, hKI, hx0, hx1, hx2⟩ := info_parts infoInt
  obtain ⟨c0, c1, c2, c3⟩ := HF.out w (Below.refl _ _)
  have R1 : Hid (RowAt ((w.alloc (.cells #[.int .i64 0, .int .i64 0] 58)).alloc (.cells #[.int .i64 0, .int .i64 0] 58)) (w.heap.size + 1) 58 [.int .i64 (bestZ (bestOf sh 0)).1, .int .i64 (bestZ (bestOf sh 0)).2]) := by
    have := RowAt.new (w.alloc (.cells #[.int .i64 0, .int .i64 0] 58)) #[.int .i64 0, .int .i64 0] 58
    simpa [Hid, bestZ, bestOf] using this
  have R0 : Hid (RowAt ((w.alloc (.cells #[.int .i64 0, .int .i64 0] 58)).alloc (.cells #[.int .i64 0, .int .i64 0] 58)) w.heap.size 58 [.int .i64 0, .int .i64 0]) := (RowAt.new w #[.int .i64 0, .int .i64 0] 58).alloc _
  have B0 : Hid (Below w.heap.size w ((w.alloc (.cells #[.int .i64 0, .int .i64 0] 58)).alloc (.cells #[.int .i64 0, .int .i64 0] 58))) := ((Below.refl _ _).alloc (Nat.le_refl _) _).alloc (by simp) _
  have HFr : Hid (∀ u, Below w.heap.size w u → u.cell? ⟨gF, 0, none⟩ = some (.slice a1 caps.length cap1)) := fun u hu => (HF.out u hu).1
  clear hLK h hv hLf hRR hSR hB HF Hf Hr HC HP HSe c1 c2 c3
  go_enter Tryz.func125, Tryz.ntmps125
  go_wp2
  go_loopw [6, 7, 8, 9, 10, 11, 18] (fun s6 _ _ _ _ _ i wr => ∃ l : Nat, l ≤ caps.length ∧ i = .int .i64 l ∧ Hid (wr.ownsRow (w.heap.size + 2) 3 1 s6 (linksTo sh l).length ((linksTo sh l).map (Value.int .i64))) ∧ Hid (RowAt wr (w.heap.size + 1) 58 [.int .i64 (bestZ (bestOf sh l)).1, .int .i64 (bestZ (bestOf sh l)).2]) ∧ Hid (RowAt wr w.heap.size 58 [.int .i64 0, .int .i64 0]) ∧ Hid (Below w.heap.size w wr)) (fun _ _ _ _ _ _ i _ => caps.length - (intOf i).toNat)
  case atStart => exact ⟨0, by omega, rfl, World.ownsRow_nil _ _ _ _, R1, R0, B0⟩
  case round =>
    obtain ⟨l, hl, rfl, ho, hr1, hr0, hb⟩ := hrel
    have hz : w.heap.size + 1 < wr.heap.size := hr1.out.lt
    clear c0
    have c0 := HFr.out wr hb.out
    by_cases hlt : l < caps.length
    · have HS1 : Hid (Calls Tryz.prog 153 #[.pointer (some ⟨gF, 0, none⟩), .int .i64 l] wr fun e w' => e = .returned (.int .i64 (LK l : Nat)) ∧ w' = wr) := HSh.out l wr hb.out
      have hk6 := HLk.out l
      have hll := HLl.out l
      by_cases hk0 : LK l = 0
      · obtain ⟨bs1, bs2⟩ := best_skip (HSn.out l hk0)
        have HO : Hid (wr.ownsRow (w.heap.size + 2) 3 1 u6 (linksTo sh (l + 1)).length ((linksTo sh (l + 1)).map (Value.int .i64))) := by rw [links_keep bs2]; exact ho
        have HQ : Hid (RowAt wr (w.heap.size + 1) 58 [.int .i64 (bestZ (bestOf sh (l + 1))).1, .int .i64 (bestZ (bestOf sh (l + 1))).2]) := by rw [bs1]; exact hr1
        rw [hk0] at HS1
        clear hk0 bs1 bs2
        go_wp2_with fail
        refine HS1.out.mono ?_
        rintro e wr ⟨rfl, rfl⟩
        go_wp2
        go_roundw
        case rel => exact ⟨l + 1, by omega, by go_num, HO, HQ, hr0, hb⟩
        case measure => simp [intOf]; omega
      · obtain ⟨⟨p1, p2⟩, hsz⟩ := HSs.out l hk0
        have hpf := HSR.out l _ hlt hsz
        have HS2 : Hid (∀ u, Below w.heap.size w u → Calls Tryz.prog 154 #[.pointer (some ⟨gF, 0, none⟩), .int .i64 l, .int .i64 (LK l : Nat)] u fun e w' => e = .returned (.tuple #[.agg #[.int .i64 p1, .int .i64 p2], .nilIface]) ∧ Below u.heap.size u w') := fun u hu => HSa.out l (LK l) u (p1, p2) hlt rfl hk0 hsz hu
        have hsr' : ∀ l' t, l' ≤ l → sh l' = some t → faultP t = 0 := fun l' t hl' ht => HSR.out l' t (by omega) ht
        have hk0' : ¬ ((LK l : Nat) : Int) = 0 := by omega
        obtain ⟨a6, cap6, rfl⟩ := owns_shape ho.out
        generalize LK l = kk at *
        cases hbo : bestOf sh l with
        | none =>
          obtain ⟨bn1, bn2⟩ := best_new hsr' hsz (.inl hbo)
          have hlN : (linksTo sh l).length = 0 := by rw [links_none hbo]; rfl
          have HLN : Hid (linksTo sh (l + 1) = [(l : Int)]) := links_new bn2
          have HBN : Hid (bestOf sh (l + 1) = some (p1, p2)) := bn1
          rw [hbo] at hr1
          replace hr1 : Hid (RowAt wr (w.heap.size + 1) 58 [.int .i64 0, .int .i64 0]) := hr1
          rw [hlN]
          clear hbo bn1 bn2 hsz hpf hsr' hk0
          go_wp2_with fail
          refine HS1.out.mono ?_
          rintro e wr ⟨rfl, rfl⟩
          go_wp2_with fail
          refine (HS2.out _ hb.out).mono ?_
          rintro e w1 ⟨rfl, hw1⟩
          have hs1 : wr.heap.size ≤ w1.heap.size := hw1.size
          have r1 := hr1.out.later hw1 hr1.out.lt
          have r1' := r1.alloc (.cells #[.int .i64 p1, .int .i64 p2] 58)
          have q0 := r1.cell (i := 0) rfl
          have q1 := r1.cell (i := 1) rfl
          have q2 := r1.frozen 0
          have q3 := r1.frozen 1
          have hz1 : w.heap.size + 1 < w1.heap.size := by omega
          have hb1 : Below w.heap.size w w1 := hb.out.trans (hw1.mono (by omega))
          have r0 := hr0.out.later hw1 hr0.out.lt
          clear hw1
          go_wp2_with (at_builtin; go_must (refine wpList_append_own _ rfl (.tmp 55) (.tmp 57) 22 rfl (w.heap.size + 2) 3 k0 (.int .i64 0) 1 8 Tryz.underlying22 hKI hx0 hx1 hx2 rfl (by decide) _ _ _ rfl (World.ownsRow_nil _ _ _ _) ⟨_, 0, none⟩ 1 1 [.int .i64 l] rfl rfl (one_new _ _ _ _ ?c1) (by intro u hu; simp at hu; subst hu; rfl) (by unfold maxLen; omega) (by omega) ?c2 ?_))
          case c1 => simp
          case c2 => simp; omega
          intro v' wg hown' hgrow _
          have hG := grown2 (B := w.heap.size + 2) (by simp; omega) hgrow (by intro k hk; cases hk)
          have HO : Hid (wg.ownsRow (w.heap.size + 2) 3 1 v' (linksTo sh (l + 1)).length ((linksTo sh (l + 1)).map (Value.int .i64))) := by rw [HLN.out]; exact hown'
          have HQ : Hid (RowAt wg (w.heap.size + 1) 58 [.int .i64 (bestZ (bestOf sh (l + 1))).1, .int .i64 (bestZ (bestOf sh (l + 1))).2]) := by
            rw [HBN.out]
            exact (r1.set2 _ _).later hG (by omega)
          have HR0 : Hid (RowAt wg w.heap.size 58 [.int .i64 0, .int .i64 0]) := ((r0.other (by simp) _).other (by simp) _).later hG (by omega)
          have HBB : Hid (Below w.heap.size w wg) := ((hb1.setCell (by simp) _).setCell (by simp) _).trans (hG.mono (by omega))
          clear hG hown' hgrow q0 q1 q2 q3
          go_wp2
          go_roundw
          case rel => exact ⟨l + 1, by omega, by go_num, HO, HQ, HR0, HBB⟩
          case measure => simp [intOf]; omega
        | some bq =>
          obtain ⟨q1, q2⟩ := bq
          obtain ⟨lq, hlq, hsq⟩ := best_mem _ _ hbo
          have hqf := HSR.out lq _ (by omega) hsq
          have hlP : 0 < (linksTo sh l).length := links_some hbo
          have hlP' : (0 : Int) < ((linksTo sh l).length : Int) := by omega
          have HLk1 : Hid (∀ (n : Nat), (∀ i, narAt sh (l + 1) i = decide (i = l)) → linksTo sh (l + 1) = [(l : Int)]) := fun _ h => links_new h
          have hr1' : Hid (RowAt wr (w.heap.size + 1) 58 [.int .i64 q1, .int .i64 q2]) := by
            rw [hbo] at hr1
            exact hr1
          have HCm : Hid (∀ u, Calls Tryz.prog 40 #[.agg #[.int .i64 p1, .int .i64 p2], .agg #[.int .i64 q1, .int .i64 q2]] u fun e w' => e = .returned (.tuple #[.int .i64 (cmpI (p1 * q2) (q1 * p2)), .nilIface]) ∧ Below u.heap.size u w') := fun u => FCmp_right (s := (p1, p2)) (a := (q1, q2)) hpf hqf u
          clear hsq hlq hk0
          by_cases hc1 : p1 * q2 < q1 * p2
          · obtain ⟨bn1, bn2⟩ := best_new hsr' hsz (.inr ⟨_, hbo, hc1⟩)
            have HLN : Hid (linksTo sh (l + 1) = [(l : Int)]) := links_new bn2
            have HBN : Hid (bestOf sh (l + 1) = some (p1, p2)) := bn1
            rw [show cmpI (p1 * q2) (q1 * p2) = -1 by unfold cmpI; rw [if_pos hc1]] at HCm
            clear hbo bn1 bn2 hsz hpf hsr' hqf hr1 hc1
            go_wp2_with fail
            refine HS1.out.mono ?_
            rintro e wr ⟨rfl, rfl⟩
            go_wp2_with fail
            refine (HS2.out _ hb.out).mono ?_
            rintro e w1 ⟨rfl, hw1⟩
            have hs1 : wr.heap.size ≤ w1.heap.size := hw1.size
            have hz1 : w.heap.size + 1 < w1.heap.size := by omega
            have r1 : Hid (RowAt w1 (w.heap.size + 1) 58 [.int .i64 q1, .int .i64 q2]) := hr1'.out.later hw1 hr1'.out.lt
            have r0 : Hid (RowAt w1 w.heap.size 58 [.int .i64 0, .int .i64 0]) := hr0.out.later hw1 hr0.out.lt
            have hb1 : Hid (Below w.heap.size w w1) := hb.out.trans (hw1.mono (by omega))
            have d0 := r1.out.cell (i := 0) rfl
            have d1 := r1.out.cell (i := 1) rfl
            clear hw1
            go_wp2_with fail
            refine (HCm.out _).mono ?_
            rintro e w4 ⟨rfl, hw4⟩
            have hw4' : Below w1.heap.size w1 w4 := ((Below.refl _ _).alloc (Nat.le_refl _) _).trans (hw4.mono (by simp))
            have e0 : w4.cell? ⟨w1.heap.size, 0, none⟩ = some (.int .i64 p1) := cell_later hw4 (by simp)
            have e1 : w4.cell? ⟨w1.heap.size, 1, none⟩ = some (.int .i64 p2) := cell_later hw4 (by simp)
            have r4 := r1.out.later hw4' hz1
            have x0 := r4.cell (i := 0) rfl
            have x1 := r4.cell (i := 1) rfl
            have x2 := r4.frozen 0
            have x3 := r4.frozen 1
            have r04 := r0.out.later hw4' r0.out.lt
            have hb4 : Below w.heap.size w w4 := hb1.out.trans (hw4'.mono (by omega))
            have hs4 : w1.heap.size < w4.heap.size := by have := hw4.size; simp at this; omega
            have hne : ¬ w.heap.size + 1 = w1.heap.size := by omega
            clear hw4 hw4' d0 d1
            go_wp2_with (at_builtin; go_must (refine wpList_append_own _ rfl (.tmp 55) (.tmp 57) 22 rfl (w.heap.size + 2) 3 k0 (.int .i64 0) 1 8 Tryz.underlying22 hKI hx0 hx1 hx2 rfl (by decide) _ _ _ rfl (World.ownsRow_nil _ _ _ _) ⟨_, 0, none⟩ 1 1 [.int .i64 l] rfl rfl (one_new _ _ _ _ ?c1) (by intro u hu; simp at hu; subst hu; rfl) (by unfold maxLen; omega) (by omega) ?c2 ?_))
            case c1 => simp
            case c2 => simp; omega
            intro v' wg hown' hgrow _
            have hG := grown1 (B := w.heap.size + 2) (by simp; omega) hgrow (by intro k hk; cases hk)
            have HO : Hid (wg.ownsRow (w.heap.size + 2) 3 1 v' (linksTo sh (l + 1)).length ((linksTo sh (l + 1)).map (Value.int .i64))) := by rw [HLN.out]; exact hown'
            have HQ : Hid (RowAt wg (w.heap.size + 1) 58 [.int .i64 (bestZ (bestOf sh (l + 1))).1, .int .i64 (bestZ (bestOf sh (l + 1))).2]) := by
              rw [HBN.out]
              exact (r4.set2 _ _).later hG (by omega)
            have HR0 : Hid (RowAt wg w.heap.size 58 [.int .i64 0, .int .i64 0]) := ((r04.other (by simp) _).other (by simp) _).later hG (by omega)
            have HBB : Hid (Below w.heap.size w wg) := ((hb4.setCell (by simp) _).setCell (by simp) _).trans (hG.mono (by omega))
            clear hG hown' hgrow x0 x1 x2 x3 e0 e1
            go_wp2
            go_roundw
            case rel => exact ⟨l + 1, by omega, by go_num, HO, HQ, HR0, HBB⟩
            case measure => simp [intOf]; omega
          · by_cases hc2 : q1 * p2 < p1 * q2
            · obtain ⟨bn1, bn2⟩ := best_more hsz hbo hc2
              have HLN : Hid (linksTo sh (l + 1) = linksTo sh l) := links_keep bn2
              have HBN : Hid (bestOf sh (l + 1) = some (q1, q2)) := bn1
              rw [show cmpI (p1 * q2) (q1 * p2) = 1 by unfold cmpI; rw [if_neg hc1, if_pos hc2]] at HCm
              clear hbo bn1 bn2 hsz hpf hsr' hqf hr1 hc1 hc2
              go_wp2_with fail
              refine HS1.out.mono ?_
              rintro e wr ⟨rfl, rfl⟩
              go_wp2_with fail
              refine (HS2.out _ hb.out).mono ?_
              rintro e w1 ⟨rfl, hw1⟩
              have hs1 : wr.heap.size ≤ w1.heap.size := hw1.size
              have hz1 : w.heap.size + 1 < w1.heap.size := by omega
              have r1 : Hid (RowAt w1 (w.heap.size + 1) 58 [.int .i64 q1, .int .i64 q2]) := hr1'.out.later hw1 hr1'.out.lt
              have r0 : Hid (RowAt w1 w.heap.size 58 [.int .i64 0, .int .i64 0]) := hr0.out.later hw1 hr0.out.lt
              have hb1 : Hid (Below w.heap.size w w1) := hb.out.trans (hw1.mono (by omega))
              have ho1 : Hid (w1.ownsRow (w.heap.size + 2) 3 1 (.slice a6 (linksTo sh l).length cap6) (linksTo sh l).length ((linksTo sh l).map (Value.int .i64))) := owns_later hw1 ho.out
              have d0 := r1.out.cell (i := 0) rfl
              have d1 := r1.out.cell (i := 1) rfl
              clear hw1
              go_wp2_with fail
              refine (HCm.out _).mono ?_
              rintro e w4 ⟨rfl, hw4⟩
              have hw4' : Below w1.heap.size w1 w4 := ((Below.refl _ _).alloc (Nat.le_refl _) _).trans (hw4.mono (by simp))
              have HO : Hid (w4.ownsRow (w.heap.size + 2) 3 1 (.slice a6 (linksTo sh l).length cap6) (linksTo sh (l + 1)).length ((linksTo sh (l + 1)).map (Value.int .i64))) := by rw [HLN.out]; exact owns_later hw4' ho1.out
              have HQ : Hid (RowAt w4 (w.heap.size + 1) 58 [.int .i64 (bestZ (bestOf sh (l + 1))).1, .int .i64 (bestZ (bestOf sh (l + 1))).2]) := by
                rw [HBN.out]
                exact r1.out.later hw4' hz1
              have HR0 : Hid (RowAt w4 w.heap.size 58 [.int .i64 0, .int .i64 0]) := r0.out.later hw4' r0.out.lt
              have HBB : Hid (Below w.heap.size w w4) := hb1.out.trans (hw4'.mono (by omega))
              clear hw4 hw4' d0 d1
              go_wp2
              go_roundw
              case rel => exact ⟨l + 1, by omega, by go_num, HO, HQ, HR0, HBB⟩
              case measure => simp [intOf]; omega
            · have hpq : (p1, p2) = (q1, q2) := val_inj' hpf hqf (Rat.le_antisymm ((cross (a := (p1, p2)) (b := (q1, q2)) (fault_pos hpf) (fault_pos hqf)).2 (by show p1 * q2 ≤ q1 * p2; omega)) ((cross (a := (q1, q2)) (b := (p1, p2)) (fault_pos hqf) (fault_pos hpf)).2 (by show q1 * p2 ≤ p1 * q2; omega)))
              obtain ⟨bn1, bn2⟩ := best_same (s := (q1, q2)) (by rw [hsz, hpq]) hbo
              have HLN : Hid (linksTo sh (l + 1) = linksTo sh l ++ [(l : Int)]) := links_same bn2
              have HBN : Hid (bestOf sh (l + 1) = some (q1, q2)) := bn1
              rw [show cmpI (p1 * q2) (q1 * p2) = 0 by unfold cmpI; rw [if_neg hc1, if_neg hc2]] at HCm
              clear hbo bn1 bn2 hsz hpf hsr' hqf hr1 hc1 hc2 hpq
              go_wp2_with fail
              refine HS1.out.mono ?_
              rintro e wr ⟨rfl, rfl⟩
              go_wp2_with fail
              refine (HS2.out _ hb.out).mono ?_
              rintro e w1 ⟨rfl, hw1⟩
              have hs1 : wr.heap.size ≤ w1.heap.size := hw1.size
              have hz1 : w.heap.size + 1 < w1.heap.size := by omega
              have r1 : Hid (RowAt w1 (w.heap.size + 1) 58 [.int .i64 q1, .int .i64 q2]) := hr1'.out.later hw1 hr1'.out.lt
              have r0 : Hid (RowAt w1 w.heap.size 58 [.int .i64 0, .int .i64 0]) := hr0.out.later hw1 hr0.out.lt
              have hb1 : Hid (Below w.heap.size w w1) := hb.out.trans (hw1.mono (by omega))
              have ho1 : Hid (w1.ownsRow (w.heap.size + 2) 3 1 (.slice a6 (linksTo sh l).length cap6) (linksTo sh l).length ((linksTo sh l).map (Value.int .i64))) := owns_later hw1 ho.out
              have d0 := r1.out.cell (i := 0) rfl
              have d1 := r1.out.cell (i := 1) rfl
              clear hw1
              go_wp2_with fail
              refine (HCm.out _).mono ?_
              rintro e w4 ⟨rfl, hw4⟩
              have hw4' : Below w1.heap.size w1 w4 := ((Below.refl _ _).alloc (Nat.le_refl _) _).trans (hw4.mono (by simp))
              have ho4 : Hid (w4.ownsRow (w.heap.size + 2) 3 1 (.slice a6 (linksTo sh l).length cap6) (linksTo sh l).length ((linksTo sh l).map (Value.int .i64))) := owns_later hw4' ho1.out
              have r4 : Hid (RowAt w4 (w.heap.size + 1) 58 [.int .i64 q1, .int .i64 q2]) := r1.out.later hw4' hz1
              have r04 : Hid (RowAt w4 w.heap.size 58 [.int .i64 0, .int .i64 0]) := r0.out.later hw4' r0.out.lt
              have hb4 : Hid (Below w.heap.size w w4) := hb1.out.trans (hw4'.mono (by omega))
              have hs4 : w1.heap.size < w4.heap.size := by have := hw4.size; simp at this; omega
              clear hw4 hw4' d0 d1
              go_wp2_with (at_builtin; go_must (refine wpList_append_own _ rfl (.tmp 55) (.tmp 57) 22 rfl (w.heap.size + 2) 3 k0 (.int .i64 0) 1 8 Tryz.underlying22 hKI hx0 hx1 hx2 rfl (by decide) _ _ _ rfl (ho4.out.alloc _) ⟨_, 0, none⟩ 1 1 [.int .i64 l] rfl rfl (one_new _ _ _ _ ?c1) (by intro u hu; simp at hu; subst hu; rfl) (by unfold maxLen; omega) (by omega) ?c2 ?_))
              case c1 => simp
              case c2 => simp; omega
              intro v' wg hown' hgrow _
              have hG := grown1 (B := w.heap.size + 2) (by omega) hgrow (fun k hk => (ho4.out.lt k hk).1)
              have HO : Hid (wg.ownsRow (w.heap.size + 2) 3 1 v' (linksTo sh (l + 1)).length ((linksTo sh (l + 1)).map (Value.int .i64))) := by
                rw [HLN.out]
                simpa [Hid] using hown'
              have HQ : Hid (RowAt wg (w.heap.size + 1) 58 [.int .i64 (bestZ (bestOf sh (l + 1))).1, .int .i64 (bestZ (bestOf sh (l + 1))).2]) := by
                rw [HBN.out]
                exact r4.out.later hG (by omega)
              have HR0 : Hid (RowAt wg w.heap.size 58 [.int .i64 0, .int .i64 0]) := r04.out.later hG (by omega)
              have HBB : Hid (Below w.heap.size w wg) := hb4.out.trans (hG.mono (by omega))
              clear hG hown' hgrow
              go_wp2
              go_roundw
              case rel => exact ⟨l + 1, by omega, by go_num, HO, HQ, HR0, HBB⟩
              case measure => simp [intOf]; omega
    · obtain rfl : l = caps.length := by omega
      obtain ⟨b1, b2⟩ := bst
      have hq1 : Hid (RowAt wr (w.heap.size + 1) 58 [.int .i64 b1, .int .i64 b2]) := by
        rw [HB.out] at hr1
        exact hr1
      have HI : Hid (IntsAt (fun b => w.heap.size ≤ b) wr u6 (linksTo sh caps.length)) := ints_of_owns (by have := HLl.out caps.length; omega) ho.out (fun g hg => by omega)
      have y0 := hq1.out.cell (i := 0) rfl
      have y1 := hq1.out.cell (i := 1) rfl
      have x0 := hr0.out.cell (i := 0) rfl
      have x1 := hr0.out.cell (i := 1) rfl
      have x2 := hr0.out.frozen 0
      have x3 := hr0.out.frozen 1
      have hs := hr0.out.set2 (.int .i64 b1) (.int .i64 b2)
      have t0 := hs.cell (i := 0) rfl
      have t1 := hs.cell (i := 1) rfl
      have HBB : Hid (Below w.heap.size w ((wr.setCell ⟨w.heap.size, 0, none⟩ (.int .i64 b1)).setCell ⟨w.heap.size, 1, none⟩ (.int .i64 b2))) := (hb.out.setCell (by simp) _).setCell (by simp) _
      have HI' : Hid (IntsAt (fun b => w.heap.size ≤ b) ((wr.setCell ⟨w.heap.size, 0, none⟩ (.int .i64 b1)).setCell ⟨w.heap.size, 1, none⟩ (.int .i64 b2)) u6 (linksTo sh caps.length)) := by
        have h2 : IntsAt (fun b => w.heap.size + 2 ≤ b) wr u6 (linksTo sh caps.length) := ints_of_owns (by have := HLl.out caps.length; omega) ho.out (fun g hg => hg)
        exact h2.keep (fun b hb' _ => (Below.heap_setCell _ _ _ _ (by simp; omega)).trans (Below.heap_setCell _ _ _ _ (by simp; omega))) (fun b hb' _ => by omega)
      obtain ⟨a6, cap6, rfl⟩ := owns_shape ho.out
      clear hs HI hr1
      go_wp2
      refine bodyPost_ret (v := .tuple #[.agg #[.int .i64 b1, .int .i64 b2], .slice a6 (linksTo sh caps.length).length cap6, .nilIface]) (by simp [results, Tryz.results125, go_sem, t0, t1]) rfl ⟨_, rfl, HI'.out, HBB.out⟩
end Fl
end Go.Proofs.YtpnmmmlckdkcdakGreatDoor
