/- Package fill's round: the least share for all free flows over a link with it. -/
import Derived.Test.YtpnmmmlckdkcdakGreatDoorFiE
namespace Go.Proofs.YtpnmmmlckdkcdakGreatDoor
namespace Fl
open Go.RowKit Fr Ns Ld
set_option linter.unusedSimpArgs false
set_option linter.unusedVariables false

/-- nothing that lay there has turned but who is free, and the rates -/
def KeptBut (gf gr : Nat) (w u : World) : Prop := w.heap.size ≤ u.heap.size ∧ ∀ g, g < w.heap.size → g ≠ gf → g ≠ gr → u.heap[g]? = w.heap[g]?
theorem KeptBut.of_below {gf gr : Nat} {w u : World} (h : Below w.heap.size w u) : KeptBut gf gr w u := ⟨h.size, fun g hg _ _ => h.block g hg⟩
theorem KeptBut.trans {gf gr : Nat} {w u z : World} (h1 : KeptBut gf gr w u) (h2 : KeptBut gf gr u z) : KeptBut gf gr w z := ⟨Nat.le_trans h1.1 h2.1, fun g hg a b => (h2.2 g (Nat.lt_of_lt_of_le hg h1.1) a b).trans (h1.2 g hg a b)⟩
theorem KeptBut.cell {gf gr : Nat} {w u : World} (h : KeptBut gf gr w u) {g o : Nat} {x : Value} (hx : w.cell? ⟨g, o, none⟩ = some x) (h1 : g ≠ gf) (h2 : g ≠ gr) : u.cell? ⟨g, o, none⟩ = some x := by
  rw [World.cell?_of_block (w := w) (a := ⟨g, o, none⟩) (h.2 g (World.block_lt_of_cell? _ _ hx) h1 h2)]
  exact hx
/-- the struct's own part, and the net, stay -/
theorem FillW.again {caps : List Int} {paths : List (List Int)} {rate rate' : List (Int × Int)} {done done' : List Bool} {gF gf gr : Nat} {v : Value} {w u : World} (h : FillW caps paths rate done gF gf gr v w) (hF : gF ≠ gf ∧ gF ≠ gr) (hk : KeptBut gf gr w u)
    (h1 : RowAt u gf 4 (boolsV (freeL done'))) (h2 : RowAt u gr 58 (flat rate')) : FillW caps paths rate' done' gF gf gr v u := by
  obtain ⟨a1, cap1, a2, cap2, e, g1, g2, g3, g4⟩ := h
  exact ⟨a1, cap1, a2, cap2, e, g1.keep (hk.2 gF g1.lt hF.1 hF.2), g2.keep (fun b hb hlt => hk.2 b hlt hb.2.1 hb.2.2) (fun b hb _ => hb), h1, h2⟩
theorem FillW.kept {caps : List Int} {paths : List (List Int)} {rate : List (Int × Int)} {done : List Bool} {gF gf gr : Nat} {v : Value} {w : World} (h : FillW caps paths rate done gF gf gr v w) (hF : gF ≠ gf ∧ gF ≠ gr) :
    ∃ a1 cap1 a2 cap2, v = .agg #[.slice a1 caps.length cap1, .slice a2 paths.length cap2] ∧ (paths.length ≤ cap2 ∧ paths.length ≤ 9223372036854775807) ∧ (gF < w.heap.size ∧ gf < w.heap.size ∧ gr < w.heap.size) ∧
      Hid (∀ u, KeptBut gf gr w u → u.cell? ⟨gF, 1, none⟩ = some (.slice a2 paths.length cap2) ∧ u.cell? ⟨gF, 2, none⟩ = some (.slice (some ⟨gf, 0, none⟩) paths.length paths.length) ∧ u.cell? ⟨gF, 3, none⟩ = some (.slice (some ⟨gr, 0, none⟩) paths.length paths.length)) ∧
      Hid (∀ i, i < paths.length → ∃ b off x, a2 = some ⟨b, off, none⟩ ∧ b ≠ gf ∧ b ≠ gr ∧ ∀ u, KeptBut gf gr w u → u.cell? ⟨b, off + i, none⟩ = some x ∧ IntsAt (fun _ => True) u x (paths.getD i [])) := by
  obtain ⟨a1, cap1, a2, cap2, rfl, g1, g2, g3, g4⟩ := h
  obtain ⟨v1, v2, e, h1, h2⟩ := g2
  simp only [Value.agg.injEq, Array.mk.injEq, List.cons.injEq, and_true] at e
  obtain ⟨rfl, rfl⟩ := e
  obtain ⟨_, _, e, hm2, hc2⟩ := h2
  simp only [Value.slice.injEq] at e
  obtain ⟨rfl, _, rfl⟩ := e
  refine ⟨a1, cap1, a2, cap2, rfl, hm2, ⟨g1.lt, g3.lt, g4.lt⟩, fun u hu => ?_, fun i hi => ?_⟩
  · have := g1.keep (hu.2 gF g1.lt hF.1 hF.2)
    exact ⟨this.cell (i := 1) rfl, this.cell (i := 2) rfl, this.cell (i := 3) rfl⟩
  · rcases hc2 with rfl | ⟨b, off, rfl, hc, hQ⟩
    · simp at hi
    · obtain ⟨x, hx, hxi⟩ := hc i hi
      exact ⟨b, off, x, rfl, hQ.2.1, hQ.2.2, fun u hu => ⟨hu.cell hx hQ.2.1 hQ.2.2, hxi.keep (fun b hb hlt => hu.2 b hlt hb.2.1 hb.2.2) (fun _ _ _ => trivial)⟩⟩

set_option maxRecDepth 100000 in
set_option maxHeartbeats 8000000 in
theorem round_any (caps : List Int) (paths : List (List Int)) (rate : List (Int × Int)) (done : List Bool) (gF gf gr B : Nat) (v : Value) (w : World) (bst : Int × Int) (h : FillW caps paths rate done gF gf gr v w) (hF : gF ≠ gf ∧ gF ≠ gr) (hfr : gf ≠ gr) (hB : B ≤ gf ∧ B ≤ gr) (hld : done.length = paths.length) (hlr : rate.length = paths.length) (h6 : paths.length ≤ 6) (hc12 : caps.length ≤ 12)
    (hpos : ∀ p ∈ paths, ∀ x ∈ p, (0 : Int) ≤ x) (hLf : ∀ l, l < caps.length → ∀ k, k ≤ paths.length → faultP (linkTo caps paths rate done l k).1 = 0) (hRR : ∀ f, f < paths.length → dB done f = true → faultP (rP rate f) = 0)
    (hSR : ∀ l s, l < caps.length → shareOf caps paths rate done l = some s → faultP s = 0) (hbst : bestOf (shareOf caps paths rate done) caps.length = some bst) :
    Calls Tryz.prog 97 #[.pointer (some ⟨gF, 0, none⟩)] w fun e w' => ∃ y, e = .returned (.tuple #[y, .nilIface]) ∧ IntsAt (fun b => w.heap.size ≤ b) w' y (roundOf paths done (narAt (shareOf caps paths rate done) caps.length)) ∧
      FillW caps paths (setRate rate (roundOf paths done (narAt (shareOf caps paths rate done) caps.length)) bst) (setDone done (roundOf paths done (narAt (shareOf caps paths rate done) caps.length))) gF gf gr v w' ∧ KeptBut gf gr w w' ∧ Below B w w' := by
  have HNa : Hid (∃ y0 : Nat, Calls Tryz.prog 125 #[.pointer (some ⟨gF, 0, none⟩)] w fun e w' => ∃ y, e = .returned (.tuple #[.agg #[.int .i64 bst.1, .int .i64 bst.2], y, .nilIface]) ∧ IntsAt (fun b => w.heap.size ≤ b) w' y (linksTo (shareOf caps paths rate done) caps.length) ∧ Below w.heap.size w w') := ⟨0, narrowest_any caps paths rate done gF gf gr v w bst h hld hlr h6 hc12 hLf hRR hSR hbst⟩
  have HAg : Hid (∀ u rate' done', KeptBut gf gr w u → RowAt u gf 4 (boolsV (freeL done')) → RowAt u gr 58 (flat rate') → FillW caps paths rate' done' gF gf gr v u) := fun u r d a b c => h.again hF a b c
  have HRS : Hid (∀ k, k < paths.length → roundTo paths done (narAt (shareOf caps paths rate done) caps.length) (k + 1) = roundTo paths done (narAt (shareOf caps paths rate done) caps.length) k ++ (if (!dB done k && (paths.getD k []).any fun x => inB (linksTo (shareOf caps paths rate done) caps.length) x) = true then [(k : Int)] else [])) := fun k hk => by
    rw [any_links (fun x hx => hpos _ (getD_mem paths k hk []) x hx)]
    exact round_step paths done _ k
  have HRE : Hid (roundTo paths done (narAt (shareOf caps paths rate done) caps.length) paths.length = roundOf paths done (narAt (shareOf caps paths rate done) caps.length)) := roundTo_all _ _ _
  have HR0 : Hid (roundTo paths done (narAt (shareOf caps paths rate done) caps.length) 0 = []) := rfl
  have HRL : Hid (∀ k, (roundTo paths done (narAt (shareOf caps paths rate done) caps.length) k).length ≤ k) := fun k => roundTo_length _ _ _ k
  have HFy : Hid (∀ k, k < paths.length → dB (setDone done (roundTo paths done (narAt (shareOf caps paths rate done) caps.length) k)) k = dB done k) := fun k hk => free_yet (by omega)
  generalize roundOf paths done (narAt (shareOf caps paths rate done) caps.length) = rd at *
  generalize roundTo paths done (narAt (shareOf caps paths rate done) caps.length) = rt at *
  have hll := linksTo_length (shareOf caps paths rate done) caps.length
  have hl0 : 0 < (linksTo (shareOf caps paths rate done) caps.length).length := links_some hbst
  generalize linksTo (shareOf caps paths rate done) caps.length = links at *
  have Rf0 : Hid (RowAt w gf 4 (boolsV (freeL (setDone done (rt 0))))) := by rw [HR0.out, setDone_nil]; obtain ⟨_, _, _, _, _, _, _, h3, _⟩ := h; exact h3
  have Rr0 : Hid (RowAt w gr 58 (flat (setRate rate (rt 0) bst))) := by rw [HR0.out, setRate_nil]; obtain ⟨_, _, _, _, _, _, _, _, h4⟩ := h; exact h4
  obtain ⟨a1, cap1, a2, cap2, hv, ⟨hm2, hn2⟩, ⟨z1, z2, z3⟩, HF, HP⟩ := h.kept hF
  obtain ⟨hF1, hF2⟩ := hF
  obtain ⟨hB1, hB2⟩ := hB
  obtain ⟨k0, hKI, hx0, hx1, hx2⟩ := info_parts infoInt
  clear h hLf hRR hSR hbst hpos hv
  obtain ⟨_, HNa'⟩ := HNa.out
  have HNr := (show Hid (Calls Tryz.prog 125 #[.pointer (some ⟨gF, 0, none⟩)] w fun e w' => ∃ y, e = .returned (.tuple #[.agg #[.int .i64 bst.1, .int .i64 bst.2], y, .nilIface]) ∧ IntsAt (fun b => w.heap.size ≤ b) w' y links ∧ Below w.heap.size w w') from HNa')
  obtain ⟨b1, b2⟩ := bst
  have ql0 : ((links.length : Int) == 0) = false := beq_eq_false_iff_ne.2 (by omega)
  clear HNa HNa'
  go_enter Tryz.func97, Tryz.ntmps97
  go_wp2_with fail
  refine HNr.out.mono ?_
  rintro e w1 ⟨y, rfl, hy, hw1⟩
  have hs1 : w.heap.size ≤ w1.heap.size := hw1.size
  have K1 : KeptBut gf gr w ((w1.alloc (.cells #[.int .i64 b1, .int .i64 b2] 58)).alloc (.cells #[y] 22)) := KeptBut.of_below ((hw1.alloc hs1 _).alloc (by simp; omega) _)
  obtain ⟨g1, g2, g3⟩ := HF.out _ K1
  have HB1 : Hid (Below w.heap.size w ((w1.alloc (.cells #[.int .i64 b1, .int .i64 b2] 58)).alloc (.cells #[y] 22))) := (hw1.alloc hs1 _).alloc (by simp; omega) _
  have HLi : Hid (∀ u, KeptBut gf gr ((w1.alloc (.cells #[.int .i64 b1, .int .i64 b2] 58)).alloc (.cells #[y] 22)) u → IntsAt (fun _ => True) u y links ∧ u.cell? ⟨w1.heap.size + 1, 0, none⟩ = some y ∧ u.cell? ⟨w1.heap.size, 0, none⟩ = some (.int .i64 b1) ∧ u.cell? ⟨w1.heap.size, 1, none⟩ = some (.int .i64 b2)) := fun u hu => by
    have hy2 : IntsAt (fun b => w.heap.size ≤ b) ((w1.alloc (.cells #[.int .i64 b1, .int .i64 b2] 58)).alloc (.cells #[y] 22)) y links := hy.later (((Below.refl _ _).alloc (Nat.le_refl _) _).alloc (by simp) _)
    refine ⟨hy2.keep (fun b hb hlt => hu.2 b hlt (by omega) (by omega)) (fun _ _ _ => trivial), hu.cell (by simp) (by omega) (by omega), hu.cell (by simp) (by omega) (by omega), hu.cell (by simp) (by omega) (by omega)⟩
  have HKw : Hid (∀ u, KeptBut gf gr ((w1.alloc (.cells #[.int .i64 b1, .int .i64 b2] 58)).alloc (.cells #[y] 22)) u → KeptBut gf gr w u) := fun u hu => K1.trans hu
  have Rf1 : Hid (RowAt ((w1.alloc (.cells #[.int .i64 b1, .int .i64 b2] 58)).alloc (.cells #[y] 22)) gf 4 (boolsV (freeL (setDone done (rt 0))))) := Rf0.out.later HB1.out z2
  have Rr1 : Hid (RowAt ((w1.alloc (.cells #[.int .i64 b1, .int .i64 b2] 58)).alloc (.cells #[y] 22)) gr 58 (flat (setRate rate (rt 0) (b1, b2)))) := Rr0.out.later HB1.out z3
  have HBB : Hid (Below B w ((w1.alloc (.cells #[.int .i64 b1, .int .i64 b2] 58)).alloc (.cells #[y] 22))) := HB1.out.mono (by omega)
  obtain ⟨ay, capy, rfl, _⟩ := hy
  have hne1 : ¬ w1.heap.size = gf := by omega
  have hne2 : ¬ w1.heap.size = gr := by omega
  clear hw1 K1
  go_wp2
  go_loopw [8, 9, 10, 31] (fun s8 _ _ i wr => ∃ f : Nat, f ≤ paths.length ∧ i = .int .i64 f ∧ Hid (wr.ownsRow (w1.heap.size + 2) 3 1 s8 (rt f).length ((rt f).map (Value.int .i64))) ∧ Hid (RowAt wr gf 4 (boolsV (freeL (setDone done (rt f))))) ∧ Hid (RowAt wr gr 58 (flat (setRate rate (rt f) (b1, b2)))) ∧ Hid (KeptBut gf gr ((w1.alloc (.cells #[.int .i64 b1, .int .i64 b2] 58)).alloc (.cells #[.slice ay links.length capy] 22)) wr) ∧ Hid (Below B w wr)) (fun _ _ _ i _ => paths.length - (intOf i).toNat)
  case atStart => exact ⟨0, by omega, rfl, by rw [HR0.out]; exact World.ownsRow_nil _ _ _ _, Rf1, Rr1, ⟨Nat.le_refl _, fun _ _ _ _ => rfl⟩, HBB⟩
  case round =>
    obtain ⟨f, hf, rfl, ho, hrf, hrr, hke, hbb⟩ := hrel
    clear g1 g2 g3
    obtain ⟨g1, g2, g3⟩ := HF.out _ (HKw.out _ hke.out)
    obtain ⟨hli, l0, l1, l2⟩ := HLi.out _ hke.out
    have hsz : w1.heap.size + 2 ≤ wr.heap.size := by have := hke.out.1; simp at this; omega
    by_cases hlt : f < paths.length
    · obtain ⟨bp, op, x, rfl, hbp1, hbp2, hx⟩ := HP.out f hlt
      obtain ⟨cx, hxi⟩ := hx _ (HKw.out _ hke.out)
      have cf := hrf.out.cell (free_cell (show f < (setDone done (rt f)).length by rw [setDone_length]; omega))
      rw [HFy.out f hlt] at cf
      have hst := HRS.out f hlt
      have hrl := HRL.out f
      have HCo : Hid (Calls Tryz.prog 34 #[x, .func (.func 126) #[] #[.pointer (some ⟨w1.heap.size + 1, 0, none⟩)]] wr fun e w' => e = .returned (.bool ((paths.getD f []).any (fun x => inB links x))) ∧ w' = wr) := ContainsN_any _ links _ _ _ wr hxi l0 hli
      clear hx hli
      generalize paths.getD f [] = pf at *
      obtain ⟨ax, capx, rfl, _⟩ := hxi
      generalize pf.any (fun x => inB links x) = ib at *
      cases hd : dB done f with
      | true =>
        rw [hd] at cf hst
        have HN : Hid (rt (f + 1) = rt f) := by
          show _ = _
          rw [hst]
          simp
        clear hst hd
        go_wp2
        go_roundw
        case rel => exact ⟨f + 1, by omega, by go_num, by rw [HN.out]; exact ho, by rw [HN.out]; exact hrf, by rw [HN.out]; exact hrr, hke, hbb⟩
        case measure => simp [intOf]; omega
      | false =>
        rw [hd] at cf hst
        cases ib with
        | false =>
          have HN : Hid (rt (f + 1) = rt f) := by
            show _ = _
            rw [hst]
            simp
          clear hst hd
          go_wp2_with fail
          refine HCo.out.mono ?_
          rintro e wr ⟨rfl, rfl⟩
          go_wp2
          go_roundw
          case rel => exact ⟨f + 1, by omega, by go_num, by rw [HN.out]; exact ho, by rw [HN.out]; exact hrf, by rw [HN.out]; exact hrr, hke, hbb⟩
          case measure => simp [intOf]; omega
        | true =>
          have HN : Hid (rt (f + 1) = rt f ++ [(f : Int)]) := by
            show _ = _
            rw [hst]
            simp
          have cff := hrf.out.frozen f
          obtain ⟨e1, e2⟩ := flat_cells (rate := setRate rate (rt f) (b1, b2)) (m := f) (by rw [setRate_length]; omega)
          have cr0 := hrr.out.cell e1
          have cr1 := hrr.out.cell e2
          have cr2 := hrr.out.frozen (f * 2)
          have cr3 := hrr.out.frozen (f * 2 + 1)
          have n1 : ¬ gf = gF := fun e => hF1 e.symm
          have n2 : ¬ gr = gF := fun e => hF2 e.symm
          have n3 : ¬ gr = gf := fun e => hfr e.symm
          have n4 : ¬ gf = w1.heap.size := by omega
          have n5 : ¬ gr = w1.heap.size := by omega
          have hgf : gf < w1.heap.size + 2 := by omega
          have hgr : gr < w1.heap.size + 2 := by omega
          clear hst hd e1 e2
          go_wp2_with fail
          refine HCo.out.mono ?_
          rintro e wr ⟨rfl, rfl⟩
          go_wp2_with fail
          go_region
          have HRf : Hid (RowAt ((((wr.setCell ⟨gf, f, none⟩ (.bool false)).setCell ⟨gr, f * 2, none⟩ (.int .i64 b1)).setCell ⟨gr, f * 2 + 1, none⟩ (.int .i64 b2)).drew) gf 4 (boolsV (freeL (setDone done (rt (f + 1)))))) := by
            show RowAt _ _ _ _
            rw [HN.out, setDone_snoc (by omega), freeL_set, boolsV_set]
            exact ((hrf.out.set f (.bool false)).other (a := ⟨gr, f * 2, none⟩) n3 (.int .i64 b1)).other (a := ⟨gr, f * 2 + 1, none⟩) n3 (.int .i64 b2)
          have HRr : Hid (RowAt ((((wr.setCell ⟨gf, f, none⟩ (.bool false)).setCell ⟨gr, f * 2, none⟩ (.int .i64 b1)).setCell ⟨gr, f * 2 + 1, none⟩ (.int .i64 b2)).drew) gr 58 (flat (setRate rate (rt (f + 1)) (b1, b2)))) := by
            show RowAt _ _ _ _
            rw [HN.out, setRate_snoc (by omega), flat_set]
            exact ((hrr.out.other (a := ⟨gf, f, none⟩) hfr (.bool false)).set (f * 2) (.int .i64 b1)).set (f * 2 + 1) (.int .i64 b2)
          have HKe : Hid (∀ g, g ≠ gf → g ≠ gr → ((((wr.setCell ⟨gf, f, none⟩ (.bool false)).setCell ⟨gr, f * 2, none⟩ (.int .i64 b1)).setCell ⟨gr, f * 2 + 1, none⟩ (.int .i64 b2)).drew).heap[g]? = wr.heap[g]?) := fun g h1 h2 =>
            ((Below.heap_setCell _ ⟨gr, f * 2 + 1, none⟩ (.int .i64 b2) g h2).trans (Below.heap_setCell _ ⟨gr, f * 2, none⟩ (.int .i64 b1) g h2)).trans (Below.heap_setCell _ ⟨gf, f, none⟩ (.bool false) g h1)
          have hsz' : Hid ((((wr.setCell ⟨gf, f, none⟩ (.bool false)).setCell ⟨gr, f * 2, none⟩ (.int .i64 b1)).setCell ⟨gr, f * 2 + 1, none⟩ (.int .i64 b2)).drew.heap.size = wr.heap.size) := by simp [Hid]
          have HBw : Hid (Below B w ((((wr.setCell ⟨gf, f, none⟩ (.bool false)).setCell ⟨gr, f * 2, none⟩ (.int .i64 b1)).setCell ⟨gr, f * 2 + 1, none⟩ (.int .i64 b2)).drew)) := (((hbb.out.setCell hB1 _).setCell hB2 _).setCell hB2 _).drew
          have HOw : Hid (((((wr.setCell ⟨gf, f, none⟩ (.bool false)).setCell ⟨gr, f * 2, none⟩ (.int .i64 b1)).setCell ⟨gr, f * 2 + 1, none⟩ (.int .i64 b2)).drew).ownsRow (w1.heap.size + 2) 3 1 u8 (rt f).length ((rt f).map (Value.int .i64))) := owns_keep (fun g h1 h2 => HKe.out g (by omega) (by omega)) ho.out
          clear cff cr0 cr1 cr2 cr3 cf cx g1 g2 g3 l0 l1 l2
          generalize ((((wr.setCell ⟨gf, f, none⟩ (.bool false)).setCell ⟨gr, f * 2, none⟩ (.int .i64 b1)).setCell ⟨gr, f * 2 + 1, none⟩ (.int .i64 b2)).drew) = wq at *
          go_wp2_with (at_builtin; go_must (refine wpList_append_own _ rfl (.tmp 61) (.tmp 63) 22 rfl (w1.heap.size + 2) 3 k0 (.int .i64 0) 1 8 Tryz.underlying22 hKI hx0 hx1 hx2 rfl (by decide) _ _ _ rfl (HOw.out.alloc _) ⟨_, 0, none⟩ 1 1 [.int .i64 f] rfl rfl (one_new _ _ _ _ ?c1) (by intro u hu; simp at hu; subst hu; rfl) (by unfold maxLen; omega) (by omega) ?c2 ?_))
          case c1 => simp
          case c2 => have := hsz'.out; simp; omega
          intro v' wg hown' hgrow _
          have hG := grown1 (B := w1.heap.size + 2) (by have := hsz'.out; omega) hgrow (fun k hk => (HOw.out.lt k hk).1)
          have HO2 : Hid (wg.ownsRow (w1.heap.size + 2) 3 1 v' (rt (f + 1)).length ((rt (f + 1)).map (Value.int .i64))) := by
            rw [HN.out]
            simpa [Hid] using hown'
          have HRf2 : Hid (RowAt wg gf 4 (boolsV (freeL (setDone done (rt (f + 1)))))) := HRf.out.later hG hgf
          have HRr2 : Hid (RowAt wg gr 58 (flat (setRate rate (rt (f + 1)) (b1, b2)))) := HRr.out.later hG hgr
          have HKe2 : Hid (KeptBut gf gr ((w1.alloc (.cells #[.int .i64 b1, .int .i64 b2] 58)).alloc (.cells #[.slice ay links.length capy] 22)) wg) := by
            refine ⟨?_, fun g hg h1 h2 => ?_⟩
            · have e1 := hke.out.1
              have e2 := hG.size
              have e3 := hsz'.out
              omega
            · have hg' : g < w1.heap.size + 2 := by simpa using hg
              exact ((hG.block g hg').trans (HKe.out g h1 h2)).trans (hke.out.2 g hg h1 h2)
          have HBw2 : Hid (Below B w wg) := HBw.out.trans (hG.mono (by omega))
          clear hG hown' hgrow
          go_wp2
          go_roundw
          case rel => exact ⟨f + 1, by omega, by go_num, HO2, HRf2, HRr2, HKe2, HBw2⟩
          case measure => simp [intOf]; omega
    · obtain rfl : f = paths.length := by omega
      have hrl := HRL.out paths.length
      rw [HRE.out] at ho hrf hrr hrl
      have HI : Hid (IntsAt (fun b => w.heap.size ≤ b) wr u8 rd) := ints_of_owns (by omega) ho.out (fun g hg => by omega)
      have HW : Hid (FillW caps paths (setRate rate rd (b1, b2)) (setDone done rd) gF gf gr v wr) := HAg.out wr _ _ (HKw.out _ hke.out) hrf.out hrr.out
      have HK : Hid (KeptBut gf gr w wr) := HKw.out _ hke.out
      obtain ⟨a8, cap8, rfl⟩ := owns_shape ho.out
      go_wp2
      refine bodyPost_ret (v := .tuple #[.slice a8 rd.length cap8, .nilIface]) (by simp [results, Tryz.results97, go_sem]) rfl ⟨_, rfl, HI.out, HW.out, HK.out, hbb.out⟩
end Fl
end Go.Proofs.YtpnmmmlckdkcdakGreatDoor
