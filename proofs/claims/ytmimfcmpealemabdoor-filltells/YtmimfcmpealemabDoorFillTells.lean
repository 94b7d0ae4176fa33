/- The law FillTells returns true for every net, from what is asked of package fill's calls. -/
import Derived.Test.YtmimfcmpealemabDoorRFill
import Derived.Test.YtmimfcmpealemabDoorPlains
import Derived.Test.YtmimfcmpealemabDoorLdSame
import Derived.Test.YtmimfcmpealemabDoorSame
import Derived.Test.YtmimfcmpealemabDoorToldB
namespace Go.Proofs.YtmimfcmpealemabDoor
namespace Fl
open Go.RowKit Fr Ns Ld
set_option linter.unusedSimpArgs false
set_option linter.unusedVariables false

theorem eqL_self' (l : List (List Int)) : eqL l l = true := by simp [eqL]
theorem ListsAt.shape' {Q : Nat → Prop} {w : World} {v : Value} {l : List (List Int)} (h : ListsAt Q w v l) : ∃ a n k, v = .slice a n k := by
  obtain ⟨_, _, rfl, _⟩ := h
  exact ⟨_, _, _, rfl⟩

set_option maxRecDepth 100000 in
set_option maxHeartbeats 8000000 in
theorem fillTells_walk (hRa : RatesSaid) (hRo : RoundsSaid) (caps : List Int) (paths : List (List Int)) (v : Value) (w : World)
    (hg : w.cell? ⟨0, 0, none⟩ = some handleV) (hv : NetAt (fun b => b < w.heap.size) w v caps paths) :
    Calls Tryd.prog 5 #[v] w fun e w' => e = .returned (.bool true) ∧ Below w.heap.size w w' := by
  have HNe : Hid (∀ u : World, Below w.heap.size w u → Calls Tryd.prog 21 #[v] u fun e w' => e = .returned (.int .i64 (netE caps paths)) ∧ Below u.heap.size u w') := fun u hu => RNet_any caps paths v u (hv.later hu)
  have HRa : Hid (∀ u : World, Below w.heap.size w u → Calls Tryd.prog 23 #[v] u fun e w' => ∃ y, e = .returned (.tuple #[y, errV (netE caps paths)]) ∧ FracsAt (fun b => u.heap.size ≤ b) w' y (okL (netE caps paths) (fill caps paths).1) ∧ Below u.heap.size u w') := fun u hu => hRa _ caps paths v u (hv.later hu)
  have HRo : Hid (∀ u : World, Below w.heap.size w u → Calls Tryd.prog 24 #[v] u fun e w' => ∃ y, e = .returned (.tuple #[y, errV (netE caps paths)]) ∧ ListsAt (fun b => u.heap.size ≤ b) w' y (okL (netE caps paths) (fill caps paths).2) ∧ Below u.heap.size u w') := fun u hu => hRo _ caps paths v u (hv.later hu)
  have HEr : Hid (∀ (k : Int) (u : World), Below w.heap.size w u → Calls Tryd.prog 9 #[errV k, .int .i64 k] u fun e w' => e = .returned (.bool true) ∧ Below u.heap.size u w') := fun k u hu => by
    have := Error_any k k u (cell_later hu hg)
    rw [beq_self_eq_true] at this
    exact this
  have HV : Hid (NetAt (fun b => b < w.heap.size) w v caps paths) := hv
  obtain ⟨v1, v2, rfl, h1, h2⟩ := hv
  obtain ⟨a1, cap1, rfl, ⟨hm1, hn1⟩, _⟩ := h1
  obtain ⟨a2, cap2, rfl, ⟨hm2, hn2⟩, _⟩ := h2
  have HBW : Hid (∀ u, Below (w.heap.size + 1) (w.alloc (.cells #[.slice a1 caps.length cap1, .slice a2 paths.length cap2] 25)) u → Below w.heap.size w u) := fun u hu => ((Below.refl _ _).alloc (Nat.le_refl _) _).trans (hu.mono (by omega))
  have HCW : Hid (∀ u, Below (w.heap.size + 1) (w.alloc (.cells #[.slice a1 caps.length cap1, .slice a2 paths.length cap2] 25)) u → u.cell? ⟨w.heap.size, 0, none⟩ = some (.slice a1 caps.length cap1) ∧ u.cell? ⟨w.heap.size, 1, none⟩ = some (.slice a2 paths.length cap2)) := fun u hu =>
    ⟨(hu.cell (p := ⟨w.heap.size, 0, none⟩) (by simp)).trans (by simp), (hu.cell (p := ⟨w.heap.size, 1, none⟩) (by simp)).trans (by simp)⟩
  have hNB : Hid (w.heap.size + 1 ≤ (w.alloc (.cells #[.slice a1 caps.length cap1, .slice a2 paths.length cap2] 25)).heap.size) := by simp [Hid]
  clear hg
  by_cases he : netE caps paths = 0
  · have HRF : Hid (∀ u : World, Below w.heap.size w u → Calls Tryd.prog 22 #[.agg #[.slice a1 caps.length cap1, .slice a2 paths.length cap2]] u fun e w' => ∃ y z, e = .returned (.tuple #[y, z]) ∧ FracsAt (fun b => u.heap.size ≤ b) w' y (fill caps paths).1 ∧ ListsAt (fun b => u.heap.size ≤ b) w' z (fill caps paths).2 ∧ Below u.heap.size u w') := fun u hu => RFill_any caps paths _ u (HV.out.later hu) (good_of_net he) (by have := netE_0 he; omega)
    rw [he] at HNe
    rw [he, okL_0] at HRa HRo
    obtain ⟨K0, hK0⟩ : ∃ K : Int, Hid (K = 0) := ⟨0, rfl⟩
    rw [show errV 0 = errV K0 by rw [hK0.out]] at HRa HRo
    have HE0 : Hid (∀ u : World, Below w.heap.size w u → Calls Tryd.prog 9 #[errV K0, .int .i64 0] u fun e w' => e = .returned (.bool true) ∧ Below u.heap.size u w') := fun u hu => by
      have := HEr.out K0 u hu
      rw [hK0.out] at this ⊢
      exact this
    generalize (fill caps paths).1 = x at *
    generalize (fill caps paths).2 = z at *
    clear he HEr HV
    go_enter Tryd.func5, Tryd.ntmps5
    go_wp2_with fail
    refine (HNe.out _ (HBW.out _ (Below.refl _ _))).mono ?_
    rintro e w1 ⟨rfl, hw1⟩
    have B1 : Hid (Below (w.heap.size + 1) (w.alloc (.cells #[.slice a1 caps.length cap1, .slice a2 paths.length cap2] 25)) w1) := Bel.call (Below.refl _ _) hNB.out hw1
    obtain ⟨g0, g1⟩ := HCW.out _ B1.out
    clear hw1
    go_wp2_with fail
    refine (HRF.out _ (HBW.out _ B1.out)).mono ?_
    rintro e w2 ⟨y2, z2, rfl, hy2, hz2, hw2⟩
    have B2 : Hid (Below (w.heap.size + 1) (w.alloc (.cells #[.slice a1 caps.length cap1, .slice a2 paths.length cap2] 25)) w2) := Bel.call B1.out hNB.out hw2
    have Y2 : Hid (FracsAt (fun _ => True) w2 y2 x) := hy2.keep (fun _ _ _ => rfl) (fun _ _ _ => trivial)
    have Z2 : Hid (ListsAt (fun _ => True) w2 z2 z) := hz2.keep (fun _ _ _ => rfl) (fun _ _ _ => trivial)
    obtain ⟨ay, ny, cy, rfl⟩ := hy2.shape
    obtain ⟨az, nz, cz, rfl⟩ := ListsAt.shape' hz2
    clear g0 g1
    obtain ⟨g0, g1⟩ := HCW.out _ B2.out
    clear hw2 hy2 hz2
    go_wp2_with fail
    refine (HRa.out _ (HBW.out _ B2.out)).mono ?_
    rintro e w3 ⟨y3, rfl, hy3, hw3⟩
    have B3 : Hid (Below (w.heap.size + 1) (w.alloc (.cells #[.slice a1 caps.length cap1, .slice a2 paths.length cap2] 25)) w3) := Bel.call B2.out hNB.out hw3
    have Y3 : Hid (FracsAt (fun _ => True) w3 (.slice ay ny cy) x) := Y2.out.later hw3
    have Z3 : Hid (ListsAt (fun _ => True) w3 (.slice az nz cz) z) := Z2.out.later hw3
    have X3 : Hid (FracsAt (fun _ => True) w3 y3 x) := hy3.keep (fun _ _ _ => rfl) (fun _ _ _ => trivial)
    obtain ⟨a3, n3, c3, rfl⟩ := hy3.shape
    clear hw3 hy3
    go_wp2_with fail
    refine (HE0.out _ (HBW.out _ B3.out)).mono ?_
    rintro e w4 ⟨rfl, hw4⟩
    have B4 : Hid (Below (w.heap.size + 1) (w.alloc (.cells #[.slice a1 caps.length cap1, .slice a2 paths.length cap2] 25)) w4) := Bel.call B3.out hNB.out hw4
    have Z4 : Hid (ListsAt (fun _ => True) w4 (.slice az nz cz) z) := Z3.out.later hw4
    have HS4 : Hid (Calls Tryd.prog 13 #[.slice a3 n3 c3, .slice ay ny cy] w4 fun e w' => e = .returned (.bool true) ∧ ∃ n, w' = w4.drewN n) := by
      have := SFracs_any x x _ _ w4 (X3.out.later hw4) (Y3.out.later hw4)
      rw [eqF_self] at this
      exact this
    clear hw4
    go_wp2_with fail
    refine HS4.out.mono ?_
    rintro e w5 ⟨rfl, m5, rfl⟩
    have B5 : Hid (Below (w.heap.size + 1) (w.alloc (.cells #[.slice a1 caps.length cap1, .slice a2 paths.length cap2] 25)) (w4.drewN m5)) := below_drewN B4.out _
    have Z5 : Hid (ListsAt (fun _ => True) (w4.drewN m5) (.slice az nz cz) z) := Z4.out.later (below_drewN (Below.refl _ _) _)
    clear HS4 Z4 B4
    generalize w4.drewN m5 = w5 at *
    clear g0 g1
    obtain ⟨g0, g1⟩ := HCW.out _ B5.out
    go_wp2_with fail
    refine (HRo.out _ (HBW.out _ B5.out)).mono ?_
    rintro e w6 ⟨y6, rfl, hy6, hw6⟩
    have B6 : Hid (Below (w.heap.size + 1) (w.alloc (.cells #[.slice a1 caps.length cap1, .slice a2 paths.length cap2] 25)) w6) := Bel.call B5.out hNB.out hw6
    have Z6 : Hid (ListsAt (fun _ => True) w6 (.slice az nz cz) z) := Z5.out.later hw6
    have X6 : Hid (ListsAt (fun _ => True) w6 y6 z) := hy6.keep (fun _ _ _ => rfl) (fun _ _ _ => trivial)
    obtain ⟨a6, n6, c6, rfl⟩ := ListsAt.shape' hy6
    clear hw6 hy6
    go_wp2_with fail
    refine (HE0.out _ (HBW.out _ B6.out)).mono ?_
    rintro e w7 ⟨rfl, hw7⟩
    have B7 : Hid (Below (w.heap.size + 1) (w.alloc (.cells #[.slice a1 caps.length cap1, .slice a2 paths.length cap2] 25)) w7) := Bel.call B6.out hNB.out hw7
    have HS7 : Hid (Calls Tryd.prog 25 #[.slice a6 n6 c6, .slice az nz cz] w7 fun e w' => e = .returned (.bool true) ∧ ∃ n, w' = w7.drewN n) := by
      have := SLists_any z z _ _ w7 (X6.out.later hw7) (Z6.out.later hw7)
      rw [eqL_self'] at this
      exact this
    clear hw7
    go_wp2_with fail
    refine HS7.out.mono ?_
    rintro e w8 ⟨rfl, m8, rfl⟩
    go_wp2
    go_ret
    exact ⟨Ns.ret_bool rfl, below_drewN (HBW.out _ B7.out) _⟩
  · have hok1 : okL (netE caps paths) (fill caps paths).1 = [] := okL_ne he _
    have hok2 : okL (netE caps paths) (fill caps paths).2 = [] := okL_ne he _
    rw [hok1] at HRa
    rw [hok2] at HRo
    have q' : (netE caps paths == 0) = false := beq_eq_false_iff_ne.2 he
    have HE0 := HEr.out (netE caps paths)
    replace HE0 := (show Hid (∀ u : World, Below w.heap.size w u → Calls Tryd.prog 9 #[errV (netE caps paths), .int .i64 (netE caps paths)] u fun e w' => e = .returned (.bool true) ∧ Below u.heap.size u w') from HE0)
    have HSF : Hid (∀ (a : Option Addr) (c : Nat) (u : World), Calls Tryd.prog 13 #[.slice a 0 c, .slice none 0 0] u fun e w' => e = .returned (.bool true) ∧ ∃ n, w' = u.drewN n) := fun a c u =>
      SFracs_any (Q := fun _ => True) (R := fun _ => True) [] [] _ _ u ⟨a, c, rfl, ⟨Nat.zero_le _, by simp⟩, .inl rfl⟩ (fracs_nil _ _)
    have HSL : Hid (∀ (a : Option Addr) (c : Nat) (u : World), Calls Tryd.prog 25 #[.slice a 0 c, .slice none 0 0] u fun e w' => e = .returned (.bool true) ∧ ∃ n, w' = u.drewN n) := fun a c u =>
      SLists_any (Q := fun _ => True) (R := fun _ => True) [] [] _ _ u ⟨a, c, rfl, ⟨Nat.zero_le _, by simp⟩, .inl rfl⟩ ⟨none, 0, rfl, ⟨Nat.le_refl _, by simp⟩, .inl rfl⟩
    generalize netE caps paths = F at *
    clear he HEr HV hok1 hok2
    go_enter Tryd.func5, Tryd.ntmps5
    go_wp2_with fail
    refine (HNe.out _ (HBW.out _ (Below.refl _ _))).mono ?_
    rintro e w1 ⟨rfl, hw1⟩
    have B1 : Hid (Below (w.heap.size + 1) (w.alloc (.cells #[.slice a1 caps.length cap1, .slice a2 paths.length cap2] 25)) w1) := Bel.call (Below.refl _ _) hNB.out hw1
    obtain ⟨g0, g1⟩ := HCW.out _ B1.out
    clear hw1
    go_wp2_with fail
    refine (HRa.out _ (HBW.out _ B1.out)).mono ?_
    rintro e w3 ⟨y3, rfl, hy3, hw3⟩
    have B3 : Hid (Below (w.heap.size + 1) (w.alloc (.cells #[.slice a1 caps.length cap1, .slice a2 paths.length cap2] 25)) w3) := Bel.call B1.out hNB.out hw3
    obtain ⟨a3, c3, rfl, _⟩ := hy3
    simp only [List.length_nil]
    clear hw3
    go_wp2_with fail
    refine (HE0.out _ (HBW.out _ B3.out)).mono ?_
    rintro e w4 ⟨rfl, hw4⟩
    have B4 : Hid (Below (w.heap.size + 1) (w.alloc (.cells #[.slice a1 caps.length cap1, .slice a2 paths.length cap2] 25)) w4) := Bel.call B3.out hNB.out hw4
    clear hw4
    go_wp2_with fail
    refine (HSF.out _ _ _).mono ?_
    rintro e w5 ⟨rfl, m5, rfl⟩
    have B5 : Hid (Below (w.heap.size + 1) (w.alloc (.cells #[.slice a1 caps.length cap1, .slice a2 paths.length cap2] 25)) (w4.drewN m5)) := below_drewN B4.out _
    clear B4
    generalize w4.drewN m5 = w5 at *
    clear g0 g1
    obtain ⟨g0, g1⟩ := HCW.out _ B5.out
    go_wp2_with fail
    refine (HRo.out _ (HBW.out _ B5.out)).mono ?_
    rintro e w6 ⟨y6, rfl, hy6, hw6⟩
    have B6 : Hid (Below (w.heap.size + 1) (w.alloc (.cells #[.slice a1 caps.length cap1, .slice a2 paths.length cap2] 25)) w6) := Bel.call B5.out hNB.out hw6
    obtain ⟨a6, c6, rfl, _⟩ := hy6
    simp only [List.length_nil]
    clear hw6
    go_wp2_with fail
    refine (HE0.out _ (HBW.out _ B6.out)).mono ?_
    rintro e w7 ⟨rfl, hw7⟩
    have B7 : Hid (Below (w.heap.size + 1) (w.alloc (.cells #[.slice a1 caps.length cap1, .slice a2 paths.length cap2] 25)) w7) := Bel.call B6.out hNB.out hw7
    clear hw7
    go_wp2_with fail
    refine (HSL.out _ _ _).mono ?_
    rintro e w8 ⟨rfl, m8, rfl⟩
    go_wp2
    go_ret
    exact ⟨Ns.ret_bool rfl, below_drewN (HBW.out _ B7.out) _⟩
end Fl
end Go.Proofs.YtmimfcmpealemabDoor
