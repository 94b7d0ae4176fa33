/- The law GrowLess returns true for every input, from what is asked of grow's, fill's and rank's calls: one more helps not the weakest. -/
import Derived.Test.YtajihmkbnepbjajPlains
import Derived.Test.YtajihmkbnepbjajFracE
import Derived.Deep.DeepCutAuto
namespace Go.Proofs.Ytajihmkbnepbjaj
namespace Fl
open Go.RowKit Fr Ns Ld
set_option linter.unusedSimpArgs false
set_option linter.unusedVariables false

theorem gl_cmp {a b : Int × Int} (ha : faultP a = 0) (hb : faultP b = 0) (w : World) :
    Calls Try.prog 15 #[.agg #[.int .i64 a.1, .int .i64 a.2], .agg #[.int .i64 b.1, .int .i64 b.2]] w fun e w' => e = .returned (.tuple #[.int .i64 (ordP a b), .nilIface]) ∧ Below w.heap.size w w' := by
  have := Compare_any a.1 a.2 b.1 b.2 w
  have h1 : fault a.1 a.2 = 0 := ha
  have hf : fault2 a.1 a.2 b.1 b.2 = 0 := by rw [fault2, if_pos h1]; exact hb
  rw [cmpV, if_pos hf, hf, errV_0] at this
  exact this
theorem gl_factE : addE [6] [[0], [0]] [0] = 0 := by decide +kernel
theorem gl_fact : (fill [6] ([[0], [0]] ++ [[0]])).1 = [(2, 1), (2, 1), (2, 1)] := by
  have := (fill_alike (c := 6) (m := 3) (by decide) (by decide) (by decide) (by decide)).1
  rw [show ([[0], [0]] ++ [[0]] : List (List Int)) = List.replicate 3 [0] from rfl, this]
  decide +kernel
theorem gl_cells {R : Nat → Prop} {w : World} {v : Value} {a b c d e f : Int} (h : FracsAt R w v [(a, b), (c, d), (e, f)]) : ∃ g off k, v = .slice (some ⟨g, off, none⟩) 3 k ∧ w.cell? ⟨g, off, none⟩ = some (.int .i64 a) ∧ w.cell? ⟨g, off + 4, none⟩ = some (.int .i64 e) := by
  obtain ⟨ad, k, rfl, _, hc⟩ := h
  rcases hc with h | ⟨g, off, rfl, h, _⟩
  · simp at h
  · refine ⟨g, off, k, rfl, ?_, ?_⟩
    · simpa using (h 0 (by simp)).1
    · simpa using (h 2 (by simp)).1

set_option maxRecDepth 100000 in
set_option maxHeartbeats 8000000 in
theorem growLess_walk (hM : GMoreSaid) (hF : GFewerSaid) (hWi : GWiderSaid) (hRa : RatesSaid) (hLe : LeastSaid) (hCm : RCompareSaid) (caps path : List Int) (paths : List (List Int)) (flow link more : Int) (v p : Value) (w : World)
    (hv : NetAt (fun b => b < w.heap.size) w v caps paths) (hp : IntsAt (fun b => b < w.heap.size) w p path) :
    Calls Try.prog 4 #[v, p, .int .i64 flow, .int .i64 link, .int .i64 more] w fun e w' => e = .returned (.bool true) ∧ Below w.heap.size w w' := by
  have HNt : Hid (∀ u : World, Below w.heap.size w u → NetAt (fun b => b < w.heap.size) u v caps paths) := fun u hu => hv.later hu
  have HPt : Hid (∀ u : World, Below w.heap.size w u → IntsAt (fun b => b < w.heap.size) u p path) := fun u hu => hp.later hu
  obtain ⟨v1, v2, rfl, h1, h2⟩ := hv
  obtain ⟨a1, cap1, rfl, ⟨hm1, hn1⟩, _⟩ := h1
  obtain ⟨a2, cap2, rfl, ⟨hm2, hn2⟩, _⟩ := h2
  obtain ⟨a3, cap3, rfl, _⟩ := hp
  have HBW : Hid (∀ u, Below (w.heap.size + 1) (w.alloc (.cells #[.slice a1 caps.length cap1, .slice a2 paths.length cap2] 44)) u → Below w.heap.size w u) := fun u hu => ((Below.refl _ _).alloc (Nat.le_refl _) _).trans (hu.mono (by omega))
  have HCW : Hid (∀ u, Below (w.heap.size + 1) (w.alloc (.cells #[.slice a1 caps.length cap1, .slice a2 paths.length cap2] 44)) u → u.cell? ⟨w.heap.size, 0, none⟩ = some (.slice a1 caps.length cap1) ∧ u.cell? ⟨w.heap.size, 1, none⟩ = some (.slice a2 paths.length cap2)) := fun u hu =>
    ⟨(hu.cell (p := ⟨w.heap.size, 0, none⟩) (by simp)).trans (by simp), (hu.cell (p := ⟨w.heap.size, 1, none⟩) (by simp)).trans (by simp)⟩
  have hNB : Hid (w.heap.size + 1 ≤ (w.alloc (.cells #[.slice a1 caps.length cap1, .slice a2 paths.length cap2] 44)).heap.size) := by simp [Hid]
  go_enter Try.func4, Try.ntmps4
  go_wp2_with fail
  refine (hM (fun _ => True) [6] [[0], [0]] [0] _ _ _ ?lit ?lit2).mono ?_
  case lit => exact ⟨_, _, rfl, lit_int1 _ (w.heap.size + 1) 6 (by go_simp), lit_lists2 _ (w.heap.size + 1 + 1 + 1 + 1) _ _ [0] [0] (by go_simp) (by go_simp) (lit_int1 _ (w.heap.size + 1 + 1) 0 (by go_simp)) (lit_int1 _ (w.heap.size + 1 + 1 + 1) 0 (by go_simp))⟩
  case lit2 => exact lit_int1 _ (w.heap.size + 1 + 1 + 1 + 1 + 1) 0 (by go_simp)
  rintro e w1 ⟨y, rfl, hy, hw1⟩
  rw [gl_factE, okL_0, gl_fact] at hy
  rw [gl_factE, errV_0]
  have B1 : Hid (Below (w.heap.size + 1) (w.alloc (.cells #[.slice a1 caps.length cap1, .slice a2 paths.length cap2] 44)) w1) := Bel.call (Bel.more (Bel.more (Bel.more (Bel.more (Bel.more (Below.refl _ _) hNB.out _) hNB.out _) hNB.out _) hNB.out _) hNB.out _) hNB.out hw1
  obtain ⟨g0, g1⟩ := HCW.out _ B1.out
  obtain ⟨fg, fo, fk, rfl, f0, f1⟩ := gl_cells hy
  clear hw1 hy
  by_cases he : netE caps paths = 0
  · have h0 := netE_0 he
    obtain ⟨s0, l0, _⟩ := fill_sortE he
    have hl6 : paths.length ≤ 6 := h0.2.2.2.1
    have hl1 : 1 ≤ paths.length := h0.2.2.1
    obtain ⟨le0, _, lf0⟩ := least_mk s0 (by omega)
    have HL0 : Hid ((fill caps paths).1.length = paths.length) := l0
    have HRa : Hid (Calls Try.prog 13 #[.agg #[.slice a1 caps.length cap1, .slice a2 paths.length cap2]] w1 fun e w' => ∃ y, e = .returned (.tuple #[y, .nilIface]) ∧ FracsAt (fun b => w1.heap.size ≤ b) w' y (fill caps paths).1 ∧ Below w1.heap.size w1 w') := by
      have := hRa _ caps paths _ w1 (HNt.out _ (HBW.out _ B1.out))
      rw [he, errV_0, okL_0] at this
      exact this
    have HLe0 : Hid (∀ (u : World) (y : Value), FracsAt (fun _ => True) u y (fill caps paths).1 → Calls Try.prog 14 #[y] u fun e w' => e = .returned (.tuple #[.agg #[.int .i64 (leastV (fill caps paths).1).1, .int .i64 (leastV (fill caps paths).1).2], .nilIface]) ∧ Below u.heap.size u w') := fun u y hy => by
      have := hLe _ _ y u hy
      rw [le0, errV_0] at this
      exact this
    have HMo : Hid (∀ u : World, Below w.heap.size w u → Calls Try.prog 12 #[.agg #[.slice a1 caps.length cap1, .slice a2 paths.length cap2], .slice a3 path.length cap3] u fun e w' => ∃ y, e = .returned (.tuple #[y, errV (addE caps paths path)]) ∧ FracsAt (fun b => u.heap.size ≤ b) w' y (okL (addE caps paths path) (fill caps (paths ++ [path])).1) ∧ Below u.heap.size u w') := fun u hu => hM _ caps paths path _ _ u (HNt.out u hu) (HPt.out u hu)
    have HFe : Hid (∀ u : World, Below w.heap.size w u → Calls Try.prog 16 #[.agg #[.slice a1 caps.length cap1, .slice a2 paths.length cap2], .int .i64 flow] u fun e w' => ∃ y, e = .returned (.tuple #[y, errV (dropE caps paths flow)]) ∧ FracsAt (fun b => u.heap.size ≤ b) w' y (okL (dropE caps paths flow) (fill caps (less paths flow)).1) ∧ Below u.heap.size u w') := fun u hu => hF _ caps paths flow _ u (HNt.out u hu)
    have HWd : Hid (∀ u : World, Below w.heap.size w u → Calls Try.prog 17 #[.agg #[.slice a1 caps.length cap1, .slice a2 paths.length cap2], .int .i64 link, .int .i64 more] u fun e w' => ∃ y, e = .returned (.tuple #[y, errV (widerE caps paths link more)]) ∧ FracsAt (fun b => u.heap.size ≤ b) w' y (okL (widerE caps paths link more) (fill (widerC caps link more) paths).1) ∧ Below u.heap.size u w') := fun u hu => hWi _ caps paths link more _ u (HNt.out u hu)
    -- one more
    have HMore : Hid (addE caps paths path = 0 → ∃ b : Int × Int, ordP b (leastV (fill caps paths).1) ≤ 0 ∧ (fill caps (paths ++ [path])).1.length = paths.length + 1 ∧ (∀ (u : World) (y : Value), FracsAt (fun _ => True) u y (fill caps (paths ++ [path])).1 → Calls Try.prog 14 #[y] u fun e w' => e = .returned (.tuple #[.agg #[.int .i64 b.1, .int .i64 b.2], .nilIface]) ∧ Below u.heap.size u w') ∧
        (∀ u : World, Calls Try.prog 15 #[.agg #[.int .i64 b.1, .int .i64 b.2], .agg #[.int .i64 (leastV (fill caps paths).1).1, .int .i64 (leastV (fill caps paths).1).2]] u fun e w' => e = .returned (.tuple #[.int .i64 (ordP b (leastV (fill caps paths).1)), .nilIface]) ∧ Below u.heap.size u w')) := fun ha => by
      obtain ⟨_, _, _, hn⟩ := netE_add ha
      obtain ⟨s1, l1, _⟩ := fill_sortE hn
      obtain ⟨le1, _, lf1⟩ := least_mk s1 (by rw [l1]; simp)
      refine ⟨leastV (fill caps (paths ++ [path])).1, least_more he hn, by rw [l1]; simp, fun u y hy => ?_, fun u => gl_cmp lf1 lf0 u⟩
      have := hLe _ _ y u hy
      rw [le1, errV_0] at this
      exact this
    have HFew : Hid (dropE caps paths flow = 0 → ∃ b : Int × Int, 0 ≤ ordP b (leastV (fill caps paths).1) ∧ (fill caps (less paths flow)).1.length + 1 = paths.length ∧ (∀ (u : World) (y : Value), FracsAt (fun _ => True) u y (fill caps (less paths flow)).1 → Calls Try.prog 14 #[y] u fun e w' => e = .returned (.tuple #[.agg #[.int .i64 b.1, .int .i64 b.2], .nilIface]) ∧ Below u.heap.size u w') ∧
        (∀ u : World, Calls Try.prog 15 #[.agg #[.int .i64 b.1, .int .i64 b.2], .agg #[.int .i64 (leastV (fill caps paths).1).1, .int .i64 (leastV (fill caps paths).1).2]] u fun e w' => e = .returned (.tuple #[.int .i64 (ordP b (leastV (fill caps paths).1)), .nilIface]) ∧ Below u.heap.size u w')) := fun ha => by
      obtain ⟨_, _, hj, hn⟩ := drop_net ha
      have hn' := netE_0 hn
      obtain ⟨s1, l1, _⟩ := fill_sortE hn
      obtain ⟨le1, _, lf1⟩ := least_mk s1 (by rw [l1]; omega)
      have hlen : (less paths flow).length + 1 = paths.length := by
        simp only [less, List.length_append, List.length_take, List.length_drop]; omega
      refine ⟨leastV (fill caps (less paths flow)).1, ?_, by rw [l1]; exact hlen, fun u y hy => ?_, fun u => gl_cmp lf1 lf0 u⟩
      · have := least_fewer he hj hn
        rw [ordP_neg]
        exact Int.neg_nonneg_of_nonpos this
      · have := hLe _ _ y u hy
        rw [le1, errV_0] at this
        exact this
    have HWid : Hid (widerE caps paths link more = 0 → ∃ o : Int, 0 ≤ o ∧ ∀ (u : World) (x y : Value), FracsAt (fun _ => True) u x (fill (widerC caps link more) paths).1 → FracsAt (fun _ => True) u y (fill caps paths).1 → Calls Try.prog 18 #[x, y] u fun e w' => e = .returned (.tuple #[.int .i64 o, .nilIface]) ∧ Below u.heap.size u w') := fun ha => by
      obtain ⟨k1, k2⟩ := wider_best ha
      refine ⟨_, k1, fun u x y hx hy => ?_⟩
      have := hCm _ _ _ _ x y u hx hy
      rw [k2, errV_0] at this
      exact this
    generalize (fill caps (paths ++ [path])).1 = xm at *
    generalize (fill caps (less paths flow)).1 = xf at *
    generalize (fill (widerC caps link more) paths).1 = xw at *
    generalize (fill caps paths).1 = x0 at *
    generalize ha0 : leastV x0 = la at *
    obtain ⟨t1, t2⟩ := la
    clear ha0 he h0 s0 l0 le0 lf0
    go_wp2_with fail
    refine HRa.out.mono ?_
    rintro e w2 ⟨y, rfl, hy, hw2⟩
    have B2 : Hid (Below (w.heap.size + 1) (w.alloc (.cells #[.slice a1 caps.length cap1, .slice a2 paths.length cap2] 44)) w2) := Bel.call B1.out hNB.out hw2
    have Y2 : Hid (FracsAt (fun _ => True) w2 y x0) := hy.keep (fun _ _ _ => rfl) (fun _ _ _ => trivial)
    obtain ⟨ay, cy, rfl, _⟩ := hy
    have HL2 : Hid (Calls Try.prog 14 #[.slice ay x0.length cy] w2 fun e w' => e = .returned (.tuple #[.agg #[.int .i64 t1, .int .i64 t2], .nilIface]) ∧ Below w2.heap.size w2 w') := HLe0.out _ _ Y2.out
    rw [HL0.out] at HL2 Y2 ⊢
    clear hw2 g0 g1 f0 f1
    go_wp2_with fail
    refine HL2.out.mono ?_
    rintro e w3 ⟨rfl, hw3⟩
    obtain ⟨W, hW⟩ : ∃ W, W = w3.alloc (.cells #[.int .i64 t1, .int .i64 t2] 49) := ⟨_, rfl⟩
    have hWs : W.heap.size = w3.heap.size + 1 := by rw [hW]; simp
    have BW : Hid (Below (w.heap.size + 1) (w.alloc (.cells #[.slice a1 caps.length cap1, .slice a2 paths.length cap2] 44)) W) := by rw [hW]; exact Bel.more (Bel.call B2.out hNB.out hw3) hNB.out _
    have YW : Hid (FracsAt (fun _ => True) W (.slice ay paths.length cy) x0) := by rw [hW]; exact (Y2.out.later hw3).later ((Below.refl _ _).alloc (Nat.le_refl _) _)
    have HK : Hid (∀ u, Below W.heap.size W u → u.cell? ⟨w.heap.size, 0, none⟩ = some (.slice a1 caps.length cap1) ∧ u.cell? ⟨w.heap.size, 1, none⟩ = some (.slice a2 paths.length cap2) ∧ u.cell? ⟨w3.heap.size, 0, none⟩ = some (.int .i64 t1) ∧ u.cell? ⟨w3.heap.size, 1, none⟩ = some (.int .i64 t2) ∧ w3.heap.size < u.heap.size ∧ Hid (Below w.heap.size w u) ∧ Hid (FracsAt (fun _ => True) u (.slice ay paths.length cy) x0)) := fun u hu => by
      have hB : Below (w.heap.size + 1) (w.alloc (.cells #[.slice a1 caps.length cap1, .slice a2 paths.length cap2] 44)) u := Bel.call BW.out hNB.out hu
      obtain ⟨g0, g1⟩ := HCW.out _ hB
      have c0 : W.cell? ⟨w3.heap.size, 0, none⟩ = some (.int .i64 t1) := by rw [hW]; simp
      have c1 : W.cell? ⟨w3.heap.size, 1, none⟩ = some (.int .i64 t2) := by rw [hW]; simp
      exact ⟨g0, g1, cell_later hu c0, cell_later hu c1, by have := hu.size; omega, HBW.out _ hB, YW.out.later hu⟩
    have HW0 : Hid (Below W.heap.size W W) := Below.refl _ _
    obtain ⟨g0, g1⟩ := HCW.out _ (Bel.call B2.out hNB.out hw3)
    have z3 : w.heap.size < w3.heap.size := World.block_lt_of_cell? _ ⟨w.heap.size, 0, none⟩ g0
    clear hw3 Y2 B1 B2 HL2 YW
    -- one more
    go_wp2_with fail
    rw [← hW]
    clear g0 g1 hW
    obtain ⟨g0, g1, c0, c1, z1, BB, YY⟩ := HK.out _ HW0.out
    refine (HMo.out _ BB.out).mono ?_
    rintro e w4 ⟨y4, rfl, hy4, hw4⟩
    have B4 : Hid (Below W.heap.size W w4) := HW0.out.trans hw4
    have Y4 : Hid (FracsAt (fun _ => True) w4 y4 (okL (addE caps paths path) xm)) := hy4.keep (fun _ _ _ => rfl) (fun _ _ _ => trivial)
    obtain ⟨a4, c4, rfl, _⟩ := hy4
    clear g0 g1 c0 c1 z1 BB YY hw4
    obtain ⟨g0, g1, c0, c1, z1, BB, YY⟩ := HK.out _ B4.out
    have hma : addE caps paths path = 0 ∨ addE caps paths path ≠ 0 := by omega
    generalize addE caps paths path = F1 at *
    rcases hma with rfl | hma
    · rw [okL_0, errV_0] at *
      obtain ⟨⟨b1, b2⟩, ho, hlen, hle, hcp⟩ := HMore.out rfl
      have HLm : Hid (Calls Try.prog 14 #[.slice a4 xm.length c4] w4 fun e w' => e = .returned (.tuple #[.agg #[.int .i64 b1, .int .i64 b2], .nilIface]) ∧ Below w4.heap.size w4 w') := hle _ _ Y4.out
      have HCp : Hid (∀ u : World, Calls Try.prog 15 #[.agg #[.int .i64 b1, .int .i64 b2], .agg #[.int .i64 t1, .int .i64 t2]] u fun e w' => e = .returned (.tuple #[.int .i64 (ordP (b1, b2) (t1, t2)), .nilIface]) ∧ Below u.heap.size u w') := hcp
      have hlen' : Hid (xm.length = paths.length + 1) := hlen
      have qo : ¬ ordP (b1, b2) (t1, t2) > 0 := by omega
      generalize ordP (b1, b2) (t1, t2) = o1 at *
      rw [hlen'.out] at HLm ⊢
      clear ho hlen hle hcp Y4
      go_wp2_with fail
      refine HLm.out.mono ?_
      rintro e w5 ⟨rfl, hw5⟩
      have B5 : Hid (Below W.heap.size W w5) := B4.out.trans (hw5.mono B4.out.size)
      have B5' : Hid (Below W.heap.size W (w5.alloc (.cells #[.int .i64 b1, .int .i64 b2] 49))) := B5.out.alloc B5.out.size _
      clear g0 g1 c0 c1 z1 BB YY hw5
      obtain ⟨g0, g1, c0, c1, z1, BB, YY⟩ := HK.out _ B5.out
      go_wp2_with fail
      refine (HCp.out _).mono ?_
      rintro e w6 ⟨rfl, hw6⟩
      have B6 : Hid (Below W.heap.size W w6) := B5'.out.trans (hw6.mono B5'.out.size)
      clear g0 g1 c0 c1 z1 BB YY hw6
      obtain ⟨g0, g1, c0, c1, z1, BB, YY⟩ := HK.out _ B6.out
      have qn : (((paths.length + 1 : Nat) : Int) != (paths.length : Int) + 1) = false := by simp
      go_wp2_with fail
      refine (HFe.out _ BB.out).mono ?_
      rintro e w7 ⟨y7, rfl, hy7, hw7⟩
      have B7 : Hid (Below W.heap.size W w7) := B6.out.trans (hw7.mono B6.out.size)
      have Y7 : Hid (FracsAt (fun _ => True) w7 y7 (okL (dropE caps paths flow) xf)) := hy7.keep (fun _ _ _ => rfl) (fun _ _ _ => trivial)
      obtain ⟨a7, c7, rfl, _⟩ := hy7
      clear g0 g1 c0 c1 z1 BB YY hw7
      obtain ⟨g0, g1, c0, c1, z1, BB, YY⟩ := HK.out _ B7.out
      have hda : dropE caps paths flow = 0 ∨ dropE caps paths flow ≠ 0 := by omega
      generalize dropE caps paths flow = F2 at *
      rcases hda with rfl | hda
      · rw [okL_0, errV_0] at *
        obtain ⟨⟨d1, d2⟩, ho, hlen, hle, hcp⟩ := HFew.out rfl
        have HLm2 : Hid (Calls Try.prog 14 #[.slice a7 xf.length c7] w7 fun e w' => e = .returned (.tuple #[.agg #[.int .i64 d1, .int .i64 d2], .nilIface]) ∧ Below w7.heap.size w7 w') := hle _ _ Y7.out
        have HCp2 : Hid (∀ u : World, Calls Try.prog 15 #[.agg #[.int .i64 d1, .int .i64 d2], .agg #[.int .i64 t1, .int .i64 t2]] u fun e w' => e = .returned (.tuple #[.int .i64 (ordP (d1, d2) (t1, t2)), .nilIface]) ∧ Below u.heap.size u w') := hcp
        have qo2 : ¬ ordP (d1, d2) (t1, t2) < 0 := by omega
        generalize ordP (d1, d2) (t1, t2) = o2 at *
        have qn2 : ((xf.length : Int) != (paths.length : Int) - 1) = false := by simp; omega
        clear ho hlen hle hcp Y7
        go_wp2_with fail
        refine HLm2.out.mono ?_
        rintro e w8 ⟨rfl, hw8⟩
        have B8 : Hid (Below W.heap.size W w8) := B7.out.trans (hw8.mono B7.out.size)
        have B8' : Hid (Below W.heap.size W (w8.alloc (.cells #[.int .i64 d1, .int .i64 d2] 49))) := B8.out.alloc B8.out.size _
        clear g0 g1 c0 c1 z1 BB YY hw8
        obtain ⟨g0, g1, c0, c1, z1, BB, YY⟩ := HK.out _ B8.out
        go_wp2_with fail
        refine (HCp2.out _).mono ?_
        rintro e w9 ⟨rfl, hw9⟩
        have B9 : Hid (Below W.heap.size W w9) := B8'.out.trans (hw9.mono B8'.out.size)
        clear g0 g1 c0 c1 z1 BB YY hw9
        obtain ⟨g0, g1, c0, c1, z1, BB, YY⟩ := HK.out _ B9.out
        go_wp2_with fail
        refine (HWd.out _ BB.out).mono ?_
        rintro e wa ⟨ya, rfl, hya, hwa⟩
        have Ba : Hid (Below W.heap.size W wa) := B9.out.trans (hwa.mono B9.out.size)
        have Ya : Hid (FracsAt (fun _ => True) wa ya (okL (widerE caps paths link more) xw)) := hya.keep (fun _ _ _ => rfl) (fun _ _ _ => trivial)
        obtain ⟨aa, ca, rfl, _⟩ := hya
        clear g0 g1 c0 c1 z1 BB YY hwa
        obtain ⟨g0, g1, c0, c1, z1, BB, YY⟩ := HK.out _ Ba.out
        have hwa : widerE caps paths link more = 0 ∨ widerE caps paths link more ≠ 0 := by omega
        generalize widerE caps paths link more = F3 at *
        rcases hwa with rfl | hwa
        · rw [okL_0, errV_0] at *
          obtain ⟨o3, ho3, hcp3⟩ := HWid.out rfl
          have HCp3 : Hid (Calls Try.prog 18 #[.slice aa xw.length ca, .slice ay paths.length cy] wa fun e w' => e = .returned (.tuple #[.int .i64 o3, .nilIface]) ∧ Below wa.heap.size wa w') := hcp3 _ _ _ Ya.out YY.out
          have q3 : decide (o3 ≥ 0) = true := by simp; omega
          clear hcp3 Ya
          go_wp2_with fail
          refine HCp3.out.mono ?_
          rintro e wb ⟨rfl, hwb⟩
          have Bb : Hid (Below w.heap.size w wb) := BB.out.trans (hwb.mono BB.out.size)
          clear hwb
          go_wp2
          go_ret
          exact ⟨Ns.ret_bool (by first | rfl | simp | (simp; omega)), Bb.out⟩
        · rw [errV_ne hwa]
          go_wp2
          go_ret
          exact ⟨Ns.ret_bool rfl, BB.out⟩
      · rw [errV_ne hda]
        obtain ⟨w9, h9⟩ : ∃ w9, w9 = w7 := ⟨_, rfl⟩
        rw [← h9] at B7 g0 g1 c0 c1 z1 BB YY ⊢
        have B9 := B7
        clear h9 Y7
        go_wp2_with fail
        refine (HWd.out _ BB.out).mono ?_
        rintro e wa ⟨ya, rfl, hya, hwa⟩
        have Ba : Hid (Below W.heap.size W wa) := B9.out.trans (hwa.mono B9.out.size)
        have Ya : Hid (FracsAt (fun _ => True) wa ya (okL (widerE caps paths link more) xw)) := hya.keep (fun _ _ _ => rfl) (fun _ _ _ => trivial)
        obtain ⟨aa, ca, rfl, _⟩ := hya
        clear g0 g1 c0 c1 z1 BB YY hwa
        obtain ⟨g0, g1, c0, c1, z1, BB, YY⟩ := HK.out _ Ba.out
        have hwa : widerE caps paths link more = 0 ∨ widerE caps paths link more ≠ 0 := by omega
        generalize widerE caps paths link more = F3 at *
        rcases hwa with rfl | hwa
        · rw [okL_0, errV_0] at *
          obtain ⟨o3, ho3, hcp3⟩ := HWid.out rfl
          have HCp3 : Hid (Calls Try.prog 18 #[.slice aa xw.length ca, .slice ay paths.length cy] wa fun e w' => e = .returned (.tuple #[.int .i64 o3, .nilIface]) ∧ Below wa.heap.size wa w') := hcp3 _ _ _ Ya.out YY.out
          have q3 : decide (o3 ≥ 0) = true := by simp; omega
          clear hcp3 Ya
          go_wp2_with fail
          refine HCp3.out.mono ?_
          rintro e wb ⟨rfl, hwb⟩
          have Bb : Hid (Below w.heap.size w wb) := BB.out.trans (hwb.mono BB.out.size)
          clear hwb
          go_wp2
          go_ret
          exact ⟨Ns.ret_bool (by first | rfl | simp | (simp; omega)), Bb.out⟩
        · rw [errV_ne hwa]
          go_wp2
          go_ret
          exact ⟨Ns.ret_bool rfl, BB.out⟩
    · rw [errV_ne hma]
      obtain ⟨w6, h6⟩ : ∃ w6, w6 = w4 := ⟨_, rfl⟩
      rw [← h6] at B4 g0 g1 c0 c1 z1 BB YY ⊢
      have B6 := B4
      clear h6 Y4
      go_wp2_with fail
      refine (HFe.out _ BB.out).mono ?_
      rintro e w7 ⟨y7, rfl, hy7, hw7⟩
      have B7 : Hid (Below W.heap.size W w7) := B6.out.trans (hw7.mono B6.out.size)
      have Y7 : Hid (FracsAt (fun _ => True) w7 y7 (okL (dropE caps paths flow) xf)) := hy7.keep (fun _ _ _ => rfl) (fun _ _ _ => trivial)
      obtain ⟨a7, c7, rfl, _⟩ := hy7
      clear g0 g1 c0 c1 z1 BB YY hw7
      obtain ⟨g0, g1, c0, c1, z1, BB, YY⟩ := HK.out _ B7.out
      have hda : dropE caps paths flow = 0 ∨ dropE caps paths flow ≠ 0 := by omega
      generalize dropE caps paths flow = F2 at *
      rcases hda with rfl | hda
      · rw [okL_0, errV_0] at *
        obtain ⟨⟨d1, d2⟩, ho, hlen, hle, hcp⟩ := HFew.out rfl
        have HLm2 : Hid (Calls Try.prog 14 #[.slice a7 xf.length c7] w7 fun e w' => e = .returned (.tuple #[.agg #[.int .i64 d1, .int .i64 d2], .nilIface]) ∧ Below w7.heap.size w7 w') := hle _ _ Y7.out
        have HCp2 : Hid (∀ u : World, Calls Try.prog 15 #[.agg #[.int .i64 d1, .int .i64 d2], .agg #[.int .i64 t1, .int .i64 t2]] u fun e w' => e = .returned (.tuple #[.int .i64 (ordP (d1, d2) (t1, t2)), .nilIface]) ∧ Below u.heap.size u w') := hcp
        have qo2 : ¬ ordP (d1, d2) (t1, t2) < 0 := by omega
        generalize ordP (d1, d2) (t1, t2) = o2 at *
        have qn2 : ((xf.length : Int) != (paths.length : Int) - 1) = false := by simp; omega
        clear ho hlen hle hcp Y7
        go_wp2_with fail
        refine HLm2.out.mono ?_
        rintro e w8 ⟨rfl, hw8⟩
        have B8 : Hid (Below W.heap.size W w8) := B7.out.trans (hw8.mono B7.out.size)
        have B8' : Hid (Below W.heap.size W (w8.alloc (.cells #[.int .i64 d1, .int .i64 d2] 49))) := B8.out.alloc B8.out.size _
        clear g0 g1 c0 c1 z1 BB YY hw8
        obtain ⟨g0, g1, c0, c1, z1, BB, YY⟩ := HK.out _ B8.out
        go_wp2_with fail
        refine (HCp2.out _).mono ?_
        rintro e w9 ⟨rfl, hw9⟩
        have B9 : Hid (Below W.heap.size W w9) := B8'.out.trans (hw9.mono B8'.out.size)
        clear g0 g1 c0 c1 z1 BB YY hw9
        obtain ⟨g0, g1, c0, c1, z1, BB, YY⟩ := HK.out _ B9.out
        go_wp2_with fail
        refine (HWd.out _ BB.out).mono ?_
        rintro e wa ⟨ya, rfl, hya, hwa⟩
        have Ba : Hid (Below W.heap.size W wa) := B9.out.trans (hwa.mono B9.out.size)
        have Ya : Hid (FracsAt (fun _ => True) wa ya (okL (widerE caps paths link more) xw)) := hya.keep (fun _ _ _ => rfl) (fun _ _ _ => trivial)
        obtain ⟨aa, ca, rfl, _⟩ := hya
        clear g0 g1 c0 c1 z1 BB YY hwa
        obtain ⟨g0, g1, c0, c1, z1, BB, YY⟩ := HK.out _ Ba.out
        have hwa : widerE caps paths link more = 0 ∨ widerE caps paths link more ≠ 0 := by omega
        generalize widerE caps paths link more = F3 at *
        rcases hwa with rfl | hwa
        · rw [okL_0, errV_0] at *
          obtain ⟨o3, ho3, hcp3⟩ := HWid.out rfl
          have HCp3 : Hid (Calls Try.prog 18 #[.slice aa xw.length ca, .slice ay paths.length cy] wa fun e w' => e = .returned (.tuple #[.int .i64 o3, .nilIface]) ∧ Below wa.heap.size wa w') := hcp3 _ _ _ Ya.out YY.out
          have q3 : decide (o3 ≥ 0) = true := by simp; omega
          clear hcp3 Ya
          go_wp2_with fail
          refine HCp3.out.mono ?_
          rintro e wb ⟨rfl, hwb⟩
          have Bb : Hid (Below w.heap.size w wb) := BB.out.trans (hwb.mono BB.out.size)
          clear hwb
          go_wp2
          go_ret
          exact ⟨Ns.ret_bool (by first | rfl | simp | (simp; omega)), Bb.out⟩
        · rw [errV_ne hwa]
          go_wp2
          go_ret
          exact ⟨Ns.ret_bool rfl, BB.out⟩
      · rw [errV_ne hda]
        obtain ⟨w9, h9⟩ : ∃ w9, w9 = w7 := ⟨_, rfl⟩
        rw [← h9] at B7 g0 g1 c0 c1 z1 BB YY ⊢
        have B9 := B7
        clear h9 Y7
        go_wp2_with fail
        refine (HWd.out _ BB.out).mono ?_
        rintro e wa ⟨ya, rfl, hya, hwa⟩
        have Ba : Hid (Below W.heap.size W wa) := B9.out.trans (hwa.mono B9.out.size)
        have Ya : Hid (FracsAt (fun _ => True) wa ya (okL (widerE caps paths link more) xw)) := hya.keep (fun _ _ _ => rfl) (fun _ _ _ => trivial)
        obtain ⟨aa, ca, rfl, _⟩ := hya
        clear g0 g1 c0 c1 z1 BB YY hwa
        obtain ⟨g0, g1, c0, c1, z1, BB, YY⟩ := HK.out _ Ba.out
        have hwa : widerE caps paths link more = 0 ∨ widerE caps paths link more ≠ 0 := by omega
        generalize widerE caps paths link more = F3 at *
        rcases hwa with rfl | hwa
        · rw [okL_0, errV_0] at *
          obtain ⟨o3, ho3, hcp3⟩ := HWid.out rfl
          have HCp3 : Hid (Calls Try.prog 18 #[.slice aa xw.length ca, .slice ay paths.length cy] wa fun e w' => e = .returned (.tuple #[.int .i64 o3, .nilIface]) ∧ Below wa.heap.size wa w') := hcp3 _ _ _ Ya.out YY.out
          have q3 : decide (o3 ≥ 0) = true := by simp; omega
          clear hcp3 Ya
          go_wp2_with fail
          refine HCp3.out.mono ?_
          rintro e wb ⟨rfl, hwb⟩
          have Bb : Hid (Below w.heap.size w wb) := BB.out.trans (hwb.mono BB.out.size)
          clear hwb
          go_wp2
          go_ret
          exact ⟨Ns.ret_bool (by first | rfl | simp | (simp; omega)), Bb.out⟩
        · rw [errV_ne hwa]
          go_wp2
          go_ret
          exact ⟨Ns.ret_bool rfl, BB.out⟩
  · have HRa : Hid (Calls Try.prog 13 #[.agg #[.slice a1 caps.length cap1, .slice a2 paths.length cap2]] w1 fun e w' => ∃ y, e = .returned (.tuple #[y, .iface 72 (.int .i64 (netE caps paths))]) ∧ FracsAt (fun b => w1.heap.size ≤ b) w' y [] ∧ Below w1.heap.size w1 w') := by
      have := hRa _ caps paths _ w1 (HNt.out _ (HBW.out _ B1.out))
      rw [errV_ne he, okL_ne he] at this
      exact this
    generalize netE caps paths = ek at *
    go_wp2_with fail
    refine HRa.out.mono ?_
    rintro e w2 ⟨y, rfl, hy, hw2⟩
    have B2 : Hid (Below w.heap.size w w2) := HBW.out _ (Bel.call B1.out hNB.out hw2)
    obtain ⟨ay, cy, rfl, _⟩ := hy
    clear hw2
    go_wp2
    go_ret
    exact ⟨Ns.ret_bool rfl, B2.out⟩
end Fl
end Go.Proofs.Ytajihmkbnepbjaj
