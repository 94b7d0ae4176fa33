/- The law GrowSame returns true for every input, from what is asked of grow's, fill's and net's calls: no wider is the same; a flow more and fewer, too. -/
import Derived.Test.YtajihmkbnepbjajPlains
import Derived.Test.YtajihmkbnepbjajLdSame
import Derived.Deep.DeepCutAuto
namespace Go.Proofs.Ytajihmkbnepbjaj
namespace Fl
open Go.RowKit Fr Ns Ld
set_option linter.unusedSimpArgs false
set_option linter.unusedVariables false

theorem gs_factE : widerE [4] [[0]] 0 1 = 0 := by decide +kernel
theorem gs_factC : widerC [4] 0 1 = [5] := by decide +kernel
theorem gs_fact : (fill [5] [[0]]).1 = [(5, 1)] := by
  have := (fill_alike (c := 5) (m := 1) (by decide) (by decide) (by decide) (by decide)).1
  rw [show ([[0]] : List (List Int)) = List.replicate 1 [0] from rfl, this]
  decide +kernel
theorem gs_lists1 (w : World) (g : Nat) (x : Value) (l : List Int) (h0 : w.cell? ⟨g, 0, none⟩ = some x) (hx : IntsAt (fun _ => True) w x l) : ListsAt (fun _ => True) w (.slice (some ⟨g, 0, none⟩) 1 1) [l] :=
  ⟨_, 1, rfl, ⟨Nat.le_refl _, by simp⟩, .inr ⟨g, 0, rfl, fun i hi => by
    match i, hi with
    | 0, _ => exact ⟨x, by simpa using h0, hx⟩, trivial⟩⟩
theorem gs_fracs1 (w : World) (g : Nat) (a b : Int) (h0 : w.cell? ⟨g, 0, none⟩ = some (.int .i64 a)) (h1 : w.cell? ⟨g, 1, none⟩ = some (.int .i64 b)) : FracsAt (fun _ => True) w (.slice (some ⟨g, 0, none⟩) 1 1) [(a, b)] :=
  ⟨_, 1, rfl, ⟨Nat.le_refl _, by simp⟩, .inr ⟨g, 0, rfl, fun i hi => by
    match i, hi with
    | 0, _ => exact ⟨by simpa using h0, by simpa using h1⟩, trivial⟩⟩
theorem gs_less (paths : List (List Int)) (path : List Int) : less (paths ++ [path]) (paths.length : Int) = paths := by
  unfold less
  rw [Int.toNat_natCast]
  simp
theorem gs_drop {caps : List Int} {paths : List (List Int)} {path : List Int} (h : addE caps paths path = 0) : dropE caps (paths ++ [path]) (paths.length : Int) = 0 := by
  obtain ⟨h1, h2, h3, h4⟩ := netE_add h
  have h0 := netE_0 h1
  rw [dropE, if_pos h4, if_neg (by simp only [List.length_append, List.length_cons, List.length_nil]; omega), if_neg (by simp only [List.length_append, List.length_cons, List.length_nil]; omega)]

set_option maxRecDepth 100000 in
set_option maxHeartbeats 8000000 in
theorem growSame_walk (hF : GFewerSaid) (hWi : GWiderSaid) (hA : AddSaid) (hRa : RatesSaid) (caps path : List Int) (paths : List (List Int)) (link : Int) (v p : Value) (w : World)
    (hv : NetAt (fun b => b < w.heap.size) w v caps paths) (hp : IntsAt (fun b => b < w.heap.size) w p path) :
    Calls Try.prog 5 #[v, p, .int .i64 link] w fun e w' => e = .returned (.bool true) ∧ Below w.heap.size w w' := by
  have HNt : Hid (∀ u : World, Below w.heap.size w u → NetAt (fun b => b < w.heap.size) u v caps paths) := fun u hu => hv.later hu
  have HPt : Hid (∀ u : World, Below w.heap.size w u → IntsAt (fun b => b < w.heap.size) u p path) := fun u hu => hp.later hu
  have HSa : Hid (∀ (R R' : Nat → Prop) (y z : Value) (x : List (Int × Int)) (u : World), FracsAt R u y x → FracsAt R' u z x → Calls Try.prog 19 #[y, z] u fun e w' => e = .returned (.bool true) ∧ Below u.heap.size u w') := fun R R' y z x u hy hz => by
    refine (SFracs_any x x y z u hy hz).mono ?_
    rintro e w' ⟨rfl, n, rfl⟩
    exact ⟨by rw [show eqF x x = true by simp [eqF]], below_drewN (Below.refl _ _) _⟩
  obtain ⟨v1, v2, rfl, h1, h2⟩ := hv
  obtain ⟨a1, cap1, rfl, ⟨hm1, hn1⟩, _⟩ := h1
  obtain ⟨a2, cap2, rfl, ⟨hm2, hn2⟩, _⟩ := h2
  obtain ⟨a3, cap3, rfl, _⟩ := hp
  have HBW : Hid (∀ u, Below (w.heap.size + 1) (w.alloc (.cells #[.slice a1 caps.length cap1, .slice a2 paths.length cap2] 44)) u → Below w.heap.size w u) := fun u hu => ((Below.refl _ _).alloc (Nat.le_refl _) _).trans (hu.mono (by omega))
  have HCW : Hid (∀ u, Below (w.heap.size + 1) (w.alloc (.cells #[.slice a1 caps.length cap1, .slice a2 paths.length cap2] 44)) u → u.cell? ⟨w.heap.size, 0, none⟩ = some (.slice a1 caps.length cap1) ∧ u.cell? ⟨w.heap.size, 1, none⟩ = some (.slice a2 paths.length cap2)) := fun u hu =>
    ⟨(hu.cell (p := ⟨w.heap.size, 0, none⟩) (by simp)).trans (by simp), (hu.cell (p := ⟨w.heap.size, 1, none⟩) (by simp)).trans (by simp)⟩
  have hNB : Hid (w.heap.size + 1 ≤ (w.alloc (.cells #[.slice a1 caps.length cap1, .slice a2 paths.length cap2] 44)).heap.size) := by simp [Hid]
  go_enter Try.func5, Try.ntmps5
  go_wp2_with fail
  refine (hWi (fun _ => True) [4] [[0]] 0 1 _ _ ?lit).mono ?_
  case lit => exact ⟨_, _, rfl, lit_int1 _ (w.heap.size + 1) 4 (by go_simp), gs_lists1 _ (w.heap.size + 1 + 1 + 1) _ [0] (by go_simp) (lit_int1 _ (w.heap.size + 1 + 1) 0 (by go_simp))⟩
  rintro e w1 ⟨y, rfl, hy, hw1⟩
  rw [gs_factE, okL_0, gs_factC, gs_fact] at hy
  rw [gs_factE, errV_0]
  have B1 : Hid (Below (w.heap.size + 1) (w.alloc (.cells #[.slice a1 caps.length cap1, .slice a2 paths.length cap2] 44)) w1) := Bel.call (Bel.more (Bel.more (Bel.more (Below.refl _ _) hNB.out _) hNB.out _) hNB.out _) hNB.out hw1
  have HS1 : Hid (Calls Try.prog 19 #[y, .slice (some ⟨w1.heap.size, 0, none⟩) 1 1] (w1.alloc (.cells #[.int .i64 5, .int .i64 1] 49)) fun e w' => e = .returned (.bool true) ∧ Below (w1.heap.size + 1) (w1.alloc (.cells #[.int .i64 5, .int .i64 1] 49)) w') := by
    have := HSa.out _ (fun _ => True) y (.slice (some ⟨w1.heap.size, 0, none⟩) 1 1) [(5, 1)] (w1.alloc (.cells #[.int .i64 5, .int .i64 1] 49)) (hy.later ((Below.refl _ _).alloc (Nat.le_refl _) _)) (gs_fracs1 _ w1.heap.size 5 1 (by simp) (by simp))
    simpa [Hid] using this
  obtain ⟨ay, cy, rfl, _⟩ := hy
  clear hw1
  go_wp2_with fail
  refine HS1.out.mono ?_
  rintro e w2 ⟨rfl, hw2⟩
  have B2 : Hid (Below (w.heap.size + 1) (w.alloc (.cells #[.slice a1 caps.length cap1, .slice a2 paths.length cap2] 44)) w2) := (Bel.more B1.out hNB.out _).trans (hw2.mono (by have := B1.out.size; have := hNB.out; omega))
  obtain ⟨g0, g1⟩ := HCW.out _ B2.out
  clear hw2 HS1 B1
  by_cases he : netE caps paths = 0
  · have HRa : Hid (Calls Try.prog 13 #[.agg #[.slice a1 caps.length cap1, .slice a2 paths.length cap2]] w2 fun e w' => ∃ y, e = .returned (.tuple #[y, .nilIface]) ∧ FracsAt (fun b => w2.heap.size ≤ b) w' y (fill caps paths).1 ∧ Below w2.heap.size w2 w') := by
      have := hRa _ caps paths _ w2 (HNt.out _ (HBW.out _ B2.out))
      rw [he, errV_0, okL_0] at this
      exact this
    have HWd : Hid (∀ u : World, Below w.heap.size w u → Calls Try.prog 17 #[.agg #[.slice a1 caps.length cap1, .slice a2 paths.length cap2], .int .i64 link, .int .i64 0] u fun e w' => ∃ y, e = .returned (.tuple #[y, errV (widerE caps paths link 0)]) ∧ FracsAt (fun b => u.heap.size ≤ b) w' y (okL (widerE caps paths link 0) (fill caps paths).1) ∧ Below u.heap.size u w') := fun u hu => by
      have := hWi _ caps paths link 0 _ u (HNt.out u hu)
      rwa [wider_0] at this
    have HAd : Hid (∀ u : World, Below w.heap.size w u → Calls Try.prog 20 #[.agg #[.slice a1 caps.length cap1, .slice a2 paths.length cap2], .slice a3 path.length cap3] u fun e w' => ∃ y, e = .returned (.tuple #[y, errV (addE caps paths path)]) ∧ NetAt (fun b => u.heap.size ≤ b) w' y (okL (addE caps paths path) caps) (okL (addE caps paths path) (paths ++ [path])) ∧ Below u.heap.size u w') := fun u hu => hA _ caps paths path _ _ u (HNt.out u hu) (HPt.out u hu)
    have HFe : Hid (addE caps paths path = 0 → ∀ (R : Nat → Prop) (y : Value) (u : World), NetAt R u y caps (paths ++ [path]) → Calls Try.prog 16 #[y, .int .i64 paths.length] u fun e w' => ∃ z, e = .returned (.tuple #[z, .nilIface]) ∧ FracsAt (fun b => u.heap.size ≤ b) w' z (fill caps paths).1 ∧ Below u.heap.size u w') := fun ha R y u hy => by
      have := hF R caps (paths ++ [path]) paths.length y u hy
      rw [gs_drop ha, gs_less, errV_0, okL_0] at this
      exact this
    generalize (fill caps paths).1 = x0 at *
    clear he
    go_wp2_with fail
    refine HRa.out.mono ?_
    rintro e w3 ⟨y, rfl, hy, hw3⟩
    have B3 : Hid (Below (w.heap.size + 1) (w.alloc (.cells #[.slice a1 caps.length cap1, .slice a2 paths.length cap2] 44)) w3) := Bel.call B2.out hNB.out hw3
    have Y3 : Hid (FracsAt (fun _ => True) w3 y x0) := hy.keep (fun _ _ _ => rfl) (fun _ _ _ => trivial)
    obtain ⟨ar, cr, rfl, _⟩ := hy
    clear hw3 g0 g1
    obtain ⟨g0, g1⟩ := HCW.out _ B3.out
    go_wp2_with fail
    refine (HWd.out _ (HBW.out _ B3.out)).mono ?_
    rintro e w4 ⟨y4, rfl, hy4, hw4⟩
    have B4 : Hid (Below (w.heap.size + 1) (w.alloc (.cells #[.slice a1 caps.length cap1, .slice a2 paths.length cap2] 44)) w4) := Bel.call B3.out hNB.out hw4
    have Y4 : Hid (FracsAt (fun _ => True) w4 (.slice ar x0.length cr) x0) := Y3.out.later hw4
    have Z4 : Hid (FracsAt (fun _ => True) w4 y4 (okL (widerE caps paths link 0) x0)) := hy4.keep (fun _ _ _ => rfl) (fun _ _ _ => trivial)
    obtain ⟨a4, c4, rfl, _⟩ := hy4
    clear hw4 g0 g1 Y3
    obtain ⟨g0, g1⟩ := HCW.out _ B4.out
    have hwd : widerE caps paths link 0 = 0 ∨ widerE caps paths link 0 ≠ 0 := by omega
    generalize widerE caps paths link 0 = F1 at *
    rcases hwd with rfl | hwd
    · rw [okL_0] at Z4 ⊢
      rw [errV_0]
      have HS4 : Hid (Calls Try.prog 19 #[.slice a4 x0.length c4, .slice ar x0.length cr] w4 fun e w' => e = .returned (.bool true) ∧ Below w4.heap.size w4 w') := HSa.out _ _ _ _ x0 w4 Z4.out Y4.out
      go_wp2_with fail
      refine HS4.out.mono ?_
      rintro e w5 ⟨rfl, hw5⟩
      have B5 : Hid (Below (w.heap.size + 1) (w.alloc (.cells #[.slice a1 caps.length cap1, .slice a2 paths.length cap2] 44)) w5) := Bel.call B4.out hNB.out hw5
      have Y5 : Hid (FracsAt (fun _ => True) w5 (.slice ar x0.length cr) x0) := Y4.out.later hw5
      clear hw5 g0 g1 Y4 Z4 HS4
      obtain ⟨g0, g1⟩ := HCW.out _ B5.out
      go_wp2_with fail
      refine (HAd.out _ (HBW.out _ B5.out)).mono ?_
      rintro e w6 ⟨y6, rfl, hy6, hw6⟩
      have B6 : Hid (Below (w.heap.size + 1) (w.alloc (.cells #[.slice a1 caps.length cap1, .slice a2 paths.length cap2] 44)) w6) := Bel.call B5.out hNB.out hw6
      have Y6 : Hid (FracsAt (fun _ => True) w6 (.slice ar x0.length cr) x0) := Y5.out.later hw6
      clear g0 g1 hw6
      obtain ⟨g0, g1⟩ := HCW.out _ B6.out
      have z6 : w.heap.size < w6.heap.size := World.block_lt_of_cell? _ ⟨w.heap.size, 0, none⟩ g0
      have had : addE caps paths path = 0 ∨ addE caps paths path ≠ 0 := by omega
      generalize addE caps paths path = F2 at *
      rcases had with rfl | had
      · rw [okL_0, okL_0] at hy6
        rw [errV_0]
        have N6 : Hid (NetAt (fun b => w5.heap.size ≤ b) w6 y6 caps (paths ++ [path])) := hy6
        obtain ⟨n1, n2, rfl, hn1', hn2'⟩ := hy6
        obtain ⟨an, cn, rfl, _⟩ := hn1'
        obtain ⟨am, cm, rfl, _⟩ := hn2'
        rw [show (paths ++ [path]).length = paths.length + 1 by simp] at N6 ⊢
        have HF6 : Hid (∀ o : Obj, Calls Try.prog 16 #[.agg #[.slice an caps.length cn, .slice am (paths.length + 1) cm], .int .i64 paths.length] (w6.alloc o) fun e w' => ∃ z, e = .returned (.tuple #[z, .nilIface]) ∧ FracsAt (fun b => (w6.alloc o).heap.size ≤ b) w' z x0 ∧ Below (w6.alloc o).heap.size (w6.alloc o) w') := fun o => HFe.out rfl _ _ (w6.alloc o) (N6.out.later ((Below.refl _ _).alloc (Nat.le_refl _) _))
        go_wp2_with fail
        refine (HF6.out _).mono ?_
        rintro e w7 ⟨z, rfl, hz, hw7⟩
        have B7 : Hid (Below w.heap.size w w7) := HBW.out _ (Bel.call (Bel.more B6.out hNB.out _) hNB.out hw7)
        have Y7 : Hid (FracsAt (fun _ => True) w7 (.slice ar x0.length cr) x0) := (Y6.out.later ((Below.refl _ _).alloc (Nat.le_refl _) _)).later hw7
        have HS7 : Hid (Calls Try.prog 19 #[z, .slice ar x0.length cr] w7 fun e w' => e = .returned (.bool true) ∧ Below w7.heap.size w7 w') := HSa.out _ _ _ _ x0 w7 hz Y7.out
        obtain ⟨az, cz, rfl, _⟩ := hz
        clear hw7
        go_wp2_with fail
        refine HS7.out.mono ?_
        rintro e w8 ⟨rfl, hw8⟩
        have B8 : Hid (Below w.heap.size w w8) := B7.out.trans (hw8.mono B7.out.size)
        clear hw8
        go_wp2
        go_ret
        exact ⟨Ns.ret_bool rfl, B8.out⟩
      · rw [errV_ne had]
        obtain ⟨n1, n2, rfl, hn1', hn2'⟩ := hy6
        obtain ⟨an, cn, rfl, _⟩ := hn1'
        obtain ⟨am, cm, rfl, _⟩ := hn2'
        have B8 : Hid (∀ o : Obj, Below w.heap.size w (w6.alloc o)) := fun o => HBW.out _ (Bel.more B6.out hNB.out _)
        go_wp2
        go_ret
        exact ⟨Ns.ret_bool rfl, B8.out _⟩
    · rw [errV_ne hwd]
      obtain ⟨w5, h5⟩ : ∃ w5, w5 = w4 := ⟨_, rfl⟩
      rw [← h5] at B4 Y4 g0 g1 ⊢
      have B5 := B4
      have Y5 := Y4
      clear h5 Z4 B4 Y4
      go_wp2_with fail
      refine (HAd.out _ (HBW.out _ B5.out)).mono ?_
      rintro e w6 ⟨y6, rfl, hy6, hw6⟩
      have B6 : Hid (Below (w.heap.size + 1) (w.alloc (.cells #[.slice a1 caps.length cap1, .slice a2 paths.length cap2] 44)) w6) := Bel.call B5.out hNB.out hw6
      have Y6 : Hid (FracsAt (fun _ => True) w6 (.slice ar x0.length cr) x0) := Y5.out.later hw6
      clear g0 g1 hw6
      obtain ⟨g0, g1⟩ := HCW.out _ B6.out
      have z6 : w.heap.size < w6.heap.size := World.block_lt_of_cell? _ ⟨w.heap.size, 0, none⟩ g0
      have had : addE caps paths path = 0 ∨ addE caps paths path ≠ 0 := by omega
      generalize addE caps paths path = F2 at *
      rcases had with rfl | had
      · rw [okL_0, okL_0] at hy6
        rw [errV_0]
        have N6 : Hid (NetAt (fun b => w5.heap.size ≤ b) w6 y6 caps (paths ++ [path])) := hy6
        obtain ⟨n1, n2, rfl, hn1', hn2'⟩ := hy6
        obtain ⟨an, cn, rfl, _⟩ := hn1'
        obtain ⟨am, cm, rfl, _⟩ := hn2'
        rw [show (paths ++ [path]).length = paths.length + 1 by simp] at N6 ⊢
        have HF6 : Hid (∀ o : Obj, Calls Try.prog 16 #[.agg #[.slice an caps.length cn, .slice am (paths.length + 1) cm], .int .i64 paths.length] (w6.alloc o) fun e w' => ∃ z, e = .returned (.tuple #[z, .nilIface]) ∧ FracsAt (fun b => (w6.alloc o).heap.size ≤ b) w' z x0 ∧ Below (w6.alloc o).heap.size (w6.alloc o) w') := fun o => HFe.out rfl _ _ (w6.alloc o) (N6.out.later ((Below.refl _ _).alloc (Nat.le_refl _) _))
        go_wp2_with fail
        refine (HF6.out _).mono ?_
        rintro e w7 ⟨z, rfl, hz, hw7⟩
        have B7 : Hid (Below w.heap.size w w7) := HBW.out _ (Bel.call (Bel.more B6.out hNB.out _) hNB.out hw7)
        have Y7 : Hid (FracsAt (fun _ => True) w7 (.slice ar x0.length cr) x0) := (Y6.out.later ((Below.refl _ _).alloc (Nat.le_refl _) _)).later hw7
        have HS7 : Hid (Calls Try.prog 19 #[z, .slice ar x0.length cr] w7 fun e w' => e = .returned (.bool true) ∧ Below w7.heap.size w7 w') := HSa.out _ _ _ _ x0 w7 hz Y7.out
        obtain ⟨az, cz, rfl, _⟩ := hz
        clear hw7
        go_wp2_with fail
        refine HS7.out.mono ?_
        rintro e w8 ⟨rfl, hw8⟩
        have B8 : Hid (Below w.heap.size w w8) := B7.out.trans (hw8.mono B7.out.size)
        clear hw8
        go_wp2
        go_ret
        exact ⟨Ns.ret_bool rfl, B8.out⟩
      · rw [errV_ne had]
        obtain ⟨n1, n2, rfl, hn1', hn2'⟩ := hy6
        obtain ⟨an, cn, rfl, _⟩ := hn1'
        obtain ⟨am, cm, rfl, _⟩ := hn2'
        have B8 : Hid (∀ o : Obj, Below w.heap.size w (w6.alloc o)) := fun o => HBW.out _ (Bel.more B6.out hNB.out _)
        go_wp2
        go_ret
        exact ⟨Ns.ret_bool rfl, B8.out _⟩
  · have HRa : Hid (Calls Try.prog 13 #[.agg #[.slice a1 caps.length cap1, .slice a2 paths.length cap2]] w2 fun e w' => ∃ y, e = .returned (.tuple #[y, .iface 72 (.int .i64 (netE caps paths))]) ∧ FracsAt (fun b => w2.heap.size ≤ b) w' y [] ∧ Below w2.heap.size w2 w') := by
      have := hRa _ caps paths _ w2 (HNt.out _ (HBW.out _ B2.out))
      rw [errV_ne he, okL_ne he] at this
      exact this
    generalize netE caps paths = ek at *
    go_wp2_with fail
    refine HRa.out.mono ?_
    rintro e w3 ⟨y, rfl, hy, hw3⟩
    have B3 : Hid (Below w.heap.size w w3) := HBW.out _ (Bel.call B2.out hNB.out hw3)
    obtain ⟨ar, cr, rfl, _⟩ := hy
    clear hw3
    go_wp2
    go_ret
    exact ⟨Ns.ret_bool rfl, B3.out⟩
end Fl
end Go.Proofs.Ytajihmkbnepbjaj
