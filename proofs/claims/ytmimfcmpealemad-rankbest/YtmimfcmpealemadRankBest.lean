/- The law RankBest returns true for every net and rates, from what is asked of rank's, load's and fill's calls: no way that fits helps the weakest more. -/
import Derived.Test.YtmimfcmpealemadPlains
import Derived.Test.YtmimfcmpealemadFracE
namespace Go.Proofs.Ytmimfcmpealemad
namespace Fl
open Go.RowKit Fr Ns Ld
set_option linter.unusedSimpArgs false
set_option linter.unusedVariables false

theorem CmpR_right {a b : Int × Int} (ha : faultP a = 0) (hb : faultP b = 0) (w : World) :
    Calls Try.prog 10 #[.agg #[.int .i64 a.1, .int .i64 a.2], .agg #[.int .i64 b.1, .int .i64 b.2]] w fun e w' => e = .returned (.tuple #[.int .i64 (ordP a b), .nilIface]) ∧ Below w.heap.size w w' := by
  have := Compare_any a.1 a.2 b.1 b.2 w
  have h1 : fault a.1 a.2 = 0 := ha
  have hf : fault2 a.1 a.2 b.1 b.2 = 0 := by rw [fault2, if_pos h1]; exact hb
  rw [cmpV, if_pos hf, hf, errV_0] at this
  exact this
theorem fact9E : rankE [(9, 1), (1, 1)] [(2, 1), (2, 1)] = 0 := by decide +kernel
theorem fact9 : rankV [(9, 1), (1, 1)] [(2, 1), (2, 1)] = -1 := by decide +kernel

set_option maxRecDepth 100000 in
set_option maxHeartbeats 8000000 in
theorem rankBest_walk (hRa : RatesSaid) (hFi : FitsSaid) (hCm : RCompareSaid) (hLe : LeastSaid) (caps : List Int) (paths : List (List Int)) (r : List (Int × Int)) (v x : Value) (w : World)
    (hv : NetAt (fun b => b < w.heap.size) w v caps paths) (hx : FracsAt (fun b => b < w.heap.size) w x r) :
    Calls Try.prog 3 #[v, x] w fun e w' => e = .returned (.bool true) ∧ Below w.heap.size w w' := by
  have HRa : Hid (∀ u : World, Below w.heap.size w u → Calls Try.prog 8 #[v] u fun e w' => ∃ y, e = .returned (.tuple #[y, errV (netE caps paths)]) ∧ FracsAt (fun b => u.heap.size ≤ b) w' y (okL (netE caps paths) (fill caps paths).1) ∧ Below u.heap.size u w') := fun u hu => hRa _ caps paths v u (hv.later hu)
  have HFi : Hid (∀ u : World, Below w.heap.size w u → Calls Try.prog 7 #[v, x] u fun e w' => e = .returned (.tuple #[.bool (decide (loadE caps paths r = 0) && fitsB caps paths r), errV (loadE caps paths r)]) ∧ Below u.heap.size u w') := fun u hu => hFi _ caps paths r v x u (hv.later hu) (hx.later hu)
  have HX : Hid (∀ u : World, Below w.heap.size w u → FracsAt (fun b => b < w.heap.size) u x r) := fun u hu => hx.later hu
  obtain ⟨v1, v2, rfl, h1, h2⟩ := hv
  obtain ⟨a1, cap1, rfl, ⟨hm1, hn1⟩, _⟩ := h1
  obtain ⟨a2, cap2, rfl, ⟨hm2, hn2⟩, _⟩ := h2
  obtain ⟨ar, capr, rfl, ⟨hm3, hn3⟩, _⟩ := hx
  have HBW : Hid (∀ u, Below (w.heap.size + 1) (w.alloc (.cells #[.slice a1 caps.length cap1, .slice a2 paths.length cap2] 25)) u → Below w.heap.size w u) := fun u hu => ((Below.refl _ _).alloc (Nat.le_refl _) _).trans (hu.mono (by omega))
  have HCW : Hid (∀ u, Below (w.heap.size + 1) (w.alloc (.cells #[.slice a1 caps.length cap1, .slice a2 paths.length cap2] 25)) u → u.cell? ⟨w.heap.size, 0, none⟩ = some (.slice a1 caps.length cap1) ∧ u.cell? ⟨w.heap.size, 1, none⟩ = some (.slice a2 paths.length cap2)) := fun u hu =>
    ⟨(hu.cell (p := ⟨w.heap.size, 0, none⟩) (by simp)).trans (by simp), (hu.cell (p := ⟨w.heap.size, 1, none⟩) (by simp)).trans (by simp)⟩
  have hNB : Hid (w.heap.size + 1 ≤ (w.alloc (.cells #[.slice a1 caps.length cap1, .slice a2 paths.length cap2] 25)).heap.size) := by simp [Hid]
  go_enter Try.func3, Try.ntmps3
  go_wp2_with fail
  refine (hCm (fun _ => True) (fun _ => True) [(9, 1), (1, 1)] [(2, 1), (2, 1)] _ _ _ ?l1 ?l2).mono ?_
  case l1 => exact lit_fracs2 _ (w.heap.size + 1) 9 1 1 1 (by go_simp) (by go_simp) (by go_simp) (by go_simp)
  case l2 => exact lit_fracs2 _ (w.heap.size + 1 + 1) 2 1 2 1 (by go_simp) (by go_simp) (by go_simp) (by go_simp)
  rintro e w1 ⟨rfl, hw1⟩
  rw [fact9E, fact9, errV_0]
  have B1 : Hid (Below (w.heap.size + 1) (w.alloc (.cells #[.slice a1 caps.length cap1, .slice a2 paths.length cap2] 25)) w1) := Bel.call (Bel.more (Bel.more (Below.refl _ _) hNB.out _) hNB.out _) hNB.out hw1
  obtain ⟨g0, g1⟩ := HCW.out _ B1.out
  clear hw1
  by_cases he : loadE caps paths r = 0
  · obtain ⟨k1, k2, k3, k4, k5, k6, k7, k8, k9, k10⟩ := best_right he
    obtain ⟨n1, n2, n3, n4⟩ := loadE_0 he
    have HC1 : Hid (∀ (u : World) (y : Value), Below w.heap.size w u → FracsAt (fun _ => True) u y (fill caps paths).1 → Calls Try.prog 6 #[.slice ar r.length capr, y] u fun e w' => e = .returned (.tuple #[.int .i64 (rankV r (fill caps paths).1), .nilIface]) ∧ Below u.heap.size u w') := fun u y hu hy => by
      have := hCm _ _ r _ _ y u (HX.out u hu) hy
      rw [k1, errV_0] at this
      exact this
    have HC2 : Hid (∀ (u : World) (y : Value), Below w.heap.size w u → FracsAt (fun _ => True) u y (fill caps paths).1 → Calls Try.prog 6 #[y, .slice ar r.length capr] u fun e w' => e = .returned (.tuple #[.int .i64 (- rankV r (fill caps paths).1), .nilIface]) ∧ Below u.heap.size u w') := fun u y hu hy => by
      have := hCm _ _ _ r y _ u hy (HX.out u hu)
      rw [k2, k3, errV_0] at this
      exact this
    have HL1 : Hid (∀ u : World, Below w.heap.size w u → Calls Try.prog 9 #[.slice ar r.length capr] u fun e w' => e = .returned (.tuple #[.agg #[.int .i64 (leastV r).1, .int .i64 (leastV r).2], .nilIface]) ∧ Below u.heap.size u w') := fun u hu => by
      have := hLe _ r _ u (HX.out u hu)
      rw [k6, errV_0] at this
      exact this
    have HL2 : Hid (∀ (u : World) (y : Value), FracsAt (fun _ => True) u y (fill caps paths).1 → Calls Try.prog 9 #[y] u fun e w' => e = .returned (.tuple #[.agg #[.int .i64 (leastV (fill caps paths).1).1, .int .i64 (leastV (fill caps paths).1).2], .nilIface]) ∧ Below u.heap.size u w') := fun u y hy => by
      have := hLe _ _ y u hy
      rw [k7, errV_0] at this
      exact this
    have HK : Hid (∀ u : World, Calls Try.prog 10 #[.agg #[.int .i64 (leastV r).1, .int .i64 (leastV r).2], .agg #[.int .i64 (leastV (fill caps paths).1).1, .int .i64 (leastV (fill caps paths).1).2]] u fun e w' => e = .returned (.tuple #[.int .i64 (ordP (leastV r) (leastV (fill caps paths).1)), .nilIface]) ∧ Below u.heap.size u w') := fun u => CmpR_right k8 k9 u
    rw [show (decide (loadE caps paths r = 0) && fitsB caps paths r) = fitsB caps paths r by rw [he]; simp, he, errV_0] at HFi
    rw [n1, errV_0, okL_0] at HRa
    generalize ordP (leastV r) (leastV (fill caps paths).1) = kk at *
    generalize rankV r (fill caps paths).1 = o at *
    generalize (leastV r).1 = t1 at *
    generalize (leastV r).2 = t2 at *
    generalize (leastV (fill caps paths).1).1 = s1 at *
    generalize (leastV (fill caps paths).1).2 = s2 at *
    generalize (fill caps paths).1 = xs at *
    have hcase : (fitsB caps paths r = true ∧ o ≤ 0 ∧ kk ≤ 0) ∨ fitsB caps paths r = false := by
      cases hfb : fitsB caps paths r with
      | true => exact .inl ⟨rfl, k5 hfb, k10 hfb⟩
      | false => exact .inr rfl
    generalize fitsB caps paths r = fb at *
    clear k1 k2 k3 k5 k6 k7 k8 k9 k10 n1 n2 n3 n4 he
    have hW : IntKind.i64.wrap (- -o) = o := by rw [IntKind.wrap_i64]; rcases k4 with rfl | rfl | rfl <;> omega
    have hW' : IntKind.i64.wrap o = o := by rw [IntKind.wrap_i64]; rcases k4 with rfl | rfl | rfl <;> omega
    have qo : (o != o) = false := by simp
    go_wp2_with fail
    refine (HFi.out _ (HBW.out _ B1.out)).mono ?_
    rintro e w2 ⟨rfl, hw2⟩
    have B2 : Hid (Below (w.heap.size + 1) (w.alloc (.cells #[.slice a1 caps.length cap1, .slice a2 paths.length cap2] 25)) w2) := Bel.call B1.out hNB.out hw2
    clear g0 g1
    obtain ⟨g0, g1⟩ := HCW.out _ B2.out
    clear hw2
    go_wp2_with fail
    refine (HRa.out _ (HBW.out _ B2.out)).mono ?_
    rintro e w3 ⟨y, rfl, hy, hw3⟩
    have B3 : Hid (Below (w.heap.size + 1) (w.alloc (.cells #[.slice a1 caps.length cap1, .slice a2 paths.length cap2] 25)) w3) := Bel.call B2.out hNB.out hw3
    have Y3 : Hid (FracsAt (fun _ => True) w3 y xs) := hy.keep (fun _ _ _ => rfl) (fun _ _ _ => trivial)
    obtain ⟨ay, cy, rfl, _⟩ := hy
    clear hw3 g0 g1
    go_wp2_with fail
    refine (HC1.out _ _ (HBW.out _ B3.out) Y3.out).mono ?_
    rintro e w4 ⟨rfl, hw4⟩
    have B4 : Hid (Below (w.heap.size + 1) (w.alloc (.cells #[.slice a1 caps.length cap1, .slice a2 paths.length cap2] 25)) w4) := Bel.call B3.out hNB.out hw4
    have Y4 : Hid (FracsAt (fun _ => True) w4 (.slice ay xs.length cy) xs) := Y3.out.later hw4
    clear hw4
    go_wp2_with fail
    refine (HC2.out _ _ (HBW.out _ B4.out) Y4.out).mono ?_
    rintro e w5 ⟨rfl, hw5⟩
    have B5 : Hid (Below (w.heap.size + 1) (w.alloc (.cells #[.slice a1 caps.length cap1, .slice a2 paths.length cap2] 25)) w5) := Bel.call B4.out hNB.out hw5
    have Y5 : Hid (FracsAt (fun _ => True) w5 (.slice ay xs.length cy) xs) := Y4.out.later hw5
    clear hw5
    rcases hcase with ⟨rfl, hof, hkf⟩ | rfl
    · have hof' : ¬ 0 < o := by omega
      go_wp2_with fail
      refine (HL1.out _ (HBW.out _ B5.out)).mono ?_
      rintro e w6 ⟨rfl, hw6⟩
      have B6 : Hid (Below (w.heap.size + 1) (w.alloc (.cells #[.slice a1 caps.length cap1, .slice a2 paths.length cap2] 25)) (w6.alloc (.cells #[.int .i64 t1, .int .i64 t2] 32))) := Bel.more (Bel.call B5.out hNB.out hw6) hNB.out _
      have Y6 : Hid (FracsAt (fun _ => True) (w6.alloc (.cells #[.int .i64 t1, .int .i64 t2] 32)) (.slice ay xs.length cy) xs) := (Y5.out.later hw6).later ((Below.refl _ _).alloc (Nat.le_refl _) _)
      clear hw6
      go_wp2_with fail
      refine (HL2.out _ _ Y6.out).mono ?_
      rintro e w7 ⟨rfl, hw7⟩
      have B7 : Hid (Below (w.heap.size + 1) (w.alloc (.cells #[.slice a1 caps.length cap1, .slice a2 paths.length cap2] 25)) (w7.alloc (.cells #[.int .i64 s1, .int .i64 s2] 32))) := Bel.more (Bel.call B6.out hNB.out hw7) hNB.out _
      have c0 : w7.cell? ⟨w6.heap.size, 0, none⟩ = some (.int .i64 t1) := cell_later hw7 (by simp)
      have c1 : w7.cell? ⟨w6.heap.size, 1, none⟩ = some (.int .i64 t2) := cell_later hw7 (by simp)
      have hz7 : w6.heap.size < w7.heap.size := by have := hw7.size; simp at this; omega
      clear hw7
      go_wp2_with fail
      refine (HK.out _).mono ?_
      rintro e w8 ⟨rfl, hw8⟩
      have B8 : Hid (Below w.heap.size w w8) := HBW.out _ (Bel.call B7.out hNB.out hw8)
      clear hw8 c0 c1
      go_wp2
      go_ret
      exact ⟨Ns.ret_bool (by simp), B8.out⟩
    · go_wp2_with fail
      refine (HL1.out _ (HBW.out _ B5.out)).mono ?_
      rintro e w6 ⟨rfl, hw6⟩
      have B6 : Hid (Below (w.heap.size + 1) (w.alloc (.cells #[.slice a1 caps.length cap1, .slice a2 paths.length cap2] 25)) (w6.alloc (.cells #[.int .i64 t1, .int .i64 t2] 32))) := Bel.more (Bel.call B5.out hNB.out hw6) hNB.out _
      have Y6 : Hid (FracsAt (fun _ => True) (w6.alloc (.cells #[.int .i64 t1, .int .i64 t2] 32)) (.slice ay xs.length cy) xs) := (Y5.out.later hw6).later ((Below.refl _ _).alloc (Nat.le_refl _) _)
      clear hw6
      go_wp2_with fail
      refine (HL2.out _ _ Y6.out).mono ?_
      rintro e w7 ⟨rfl, hw7⟩
      have B7 : Hid (Below (w.heap.size + 1) (w.alloc (.cells #[.slice a1 caps.length cap1, .slice a2 paths.length cap2] 25)) (w7.alloc (.cells #[.int .i64 s1, .int .i64 s2] 32))) := Bel.more (Bel.call B6.out hNB.out hw7) hNB.out _
      have c0 : w7.cell? ⟨w6.heap.size, 0, none⟩ = some (.int .i64 t1) := cell_later hw7 (by simp)
      have c1 : w7.cell? ⟨w6.heap.size, 1, none⟩ = some (.int .i64 t2) := cell_later hw7 (by simp)
      have hz7 : w6.heap.size < w7.heap.size := by have := hw7.size; simp at this; omega
      clear hw7
      go_wp2_with fail
      refine (HK.out _).mono ?_
      rintro e w8 ⟨rfl, hw8⟩
      have B8 : Hid (Below w.heap.size w w8) := HBW.out _ (Bel.call B7.out hNB.out hw8)
      clear hw8 c0 c1
      go_wp2
      go_ret
      exact ⟨Ns.ret_bool (by simp), B8.out⟩
  · have HV : Hid (errV (loadE caps paths r) = .iface 50 (.int .i64 (loadE caps paths r))) := errV_ne he
    rw [HV.out, show (decide (loadE caps paths r = 0) && fitsB caps paths r) = false by simp [he]] at HFi
    generalize loadE caps paths r = ek at *
    clear he
    go_wp2_with fail
    refine (HFi.out _ (HBW.out _ B1.out)).mono ?_
    rintro e w2 ⟨rfl, hw2⟩
    have B2 : Hid (Below w.heap.size w w2) := HBW.out _ (Bel.call B1.out hNB.out hw2)
    clear hw2 g0 g1
    go_wp2
    go_ret
    exact ⟨Ns.ret_bool rfl, B2.out⟩
end Fl
end Go.Proofs.Ytmimfcmpealemad
