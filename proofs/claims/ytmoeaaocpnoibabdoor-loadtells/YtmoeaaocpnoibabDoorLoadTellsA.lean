/- The law LoadTells where there is a fault, from what is asked of package load's calls. -/
import Derived.Test.YtmoeaaocpnoibabDoorRFits
import Derived.Test.YtmoeaaocpnoibabDoorLdSaid
import Derived.Test.YtmoeaaocpnoibabDoorLdSame
import Derived.Test.YtmoeaaocpnoibabDoorToldB
namespace Go.Proofs.YtmoeaaocpnoibabDoor
namespace Ld
open Go.RowKit Fr Ns
set_option linter.unusedSimpArgs false
set_option linter.unusedVariables false

theorem Minus_any (t b : Int) (w : World) (h1 : -1000000000 ≤ t) (h2 : t ≤ 1000000000) :
    Calls Tryd.prog 17 #[.agg #[.int .i64 t, .int .i64 b]] w fun e w' => e = .returned (.agg #[.int .i64 (-t), .int .i64 b]) ∧ Below w.heap.size w w' := by
  have hw : IntKind.i64.wrap (-t) = -t := by rw [IntKind.wrap_i64]; omega
  go_enter Tryd.func17, Tryd.ntmps17
  go_wp2
  refine bodyPost_ret (v := .agg #[.int .i64 (-t), .int .i64 b]) (by simp [results, Tryd.results17, go_sem]) rfl ⟨rfl, ?_⟩
  repeat (first | exact Below.refl _ _ | refine Below.setCell ?_ (by simp) _ | refine Below.alloc ?_ (by simp) _ | refine Below.drew ?_)

set_option maxRecDepth 100000 in
set_option maxHeartbeats 8000000 in
theorem loadTells_fault (hOf : OfSaid) (hFits : FitsSaid) (hLeft : LeftSaid) (caps : List Int) (paths : List (List Int)) (r : List (Int × Int)) (v x : Value) (w : World)
    (hg : w.cell? ⟨0, 0, none⟩ = some handleV)
    (hv : NetAt (fun b => b < w.heap.size) w v caps paths) (hx : FracsAt (fun b => b < w.heap.size) w x r) (he : loadE caps paths r ≠ 0) :
    Calls Tryd.prog 4 #[v, x] w fun e w' => e = .returned (.bool true) ∧ Below w.heap.size w w' := by
  have hle : leftE caps paths r = loadE caps paths r := by rw [leftE, if_neg he]
  have hd : (decide (loadE caps paths r = 0) && fitsB caps paths r) = false := by simp [he]
  have HRL := fun (u : World) (hu : Below w.heap.size w u) => RLoad_any caps paths r v x u (hv.later hu) (hx.later hu)
  have HRF := fun (u : World) (hu : Below w.heap.size w u) => RFits_any caps paths r v x u (hv.later hu) (hx.later hu)
  have HOf := fun (u : World) (hu : Below w.heap.size w u) => hOf _ caps paths r v x u (hv.later hu) (hx.later hu)
  have HFi := fun (u : World) (hu : Below w.heap.size w u) => hFits _ caps paths r v x u (hv.later hu) (hx.later hu)
  have HLe := fun (u : World) (hu : Below w.heap.size w u) => hLeft _ caps paths r v x u (hv.later hu) (hx.later hu)
  have HEr : Hid (∀ (k : Int) (u : World), Below w.heap.size w u → Calls Tryd.prog 8 #[errV k, .int .i64 k] u fun e w' => e = .returned (.bool true) ∧ Below u.heap.size u w') := fun k u hu => by
    have := Error_any k k u (cell_later hu hg)
    rw [beq_self_eq_true] at this
    exact this
  rw [hle] at HLe
  rw [hd] at HRF HFi
  rw [okL_ne he] at HRL HOf HLe
  have q : (loadE caps paths r != 0) = true := by simpa using he
  have q' : (loadE caps paths r == 0) = false := beq_eq_false_iff_ne.2 he
  generalize loadE caps paths r = F at *
  clear hd hle he
  replace HRL : Hid (∀ u : World, Below w.heap.size w u → Calls Tryd.prog 10 #[v, x] u fun e w' => ∃ y, e = .returned (.tuple #[y, .int .i64 F]) ∧ FracsAt (fun b => u.heap.size ≤ b) w' y [] ∧ Below u.heap.size u w') := HRL
  replace HRF : Hid (∀ u : World, Below w.heap.size w u → Calls Tryd.prog 13 #[v, x] u fun e w' => e = .returned (.tuple #[.bool false, .int .i64 F]) ∧ Below u.heap.size u w') := HRF
  replace HOf : Hid (∀ u : World, Below w.heap.size w u → Calls Tryd.prog 11 #[v, x] u fun e w' => ∃ y, e = .returned (.tuple #[y, errV F]) ∧ FracsAt (fun b => u.heap.size ≤ b) w' y [] ∧ Below u.heap.size u w') := HOf
  replace HFi : Hid (∀ u : World, Below w.heap.size w u → Calls Tryd.prog 14 #[v, x] u fun e w' => e = .returned (.tuple #[.bool false, errV F]) ∧ Below u.heap.size u w') := HFi
  replace HLe : Hid (∀ u : World, Below w.heap.size w u → Calls Tryd.prog 19 #[v, x] u fun e w' => ∃ y, e = .returned (.tuple #[y, errV F]) ∧ FracsAt (fun b => u.heap.size ≤ b) w' y [] ∧ Below u.heap.size u w') := HLe
  have HSF : Hid (∀ (a : Option Addr) (c : Nat) (u : World), Calls Tryd.prog 12 #[.slice a 0 c, .slice none 0 0] u fun e w' => e = .returned (.bool true) ∧ ∃ n, w' = u.drewN n) := fun a c u =>
    SFracs_any (Q := fun _ => True) (R := fun _ => True) [] [] _ _ u ⟨a, c, rfl, ⟨Nat.zero_le _, by simp⟩, .inl rfl⟩ (fracs_nil _ _)
  obtain ⟨v1, v2, rfl, h1, h2⟩ := hv
  obtain ⟨a1, cap1, rfl, ⟨hm1, hn1⟩, _⟩ := h1
  obtain ⟨a2, cap2, rfl, ⟨hm2, hn2⟩, _⟩ := h2
  obtain ⟨ar, capr, rfl, ⟨hm3, hn3⟩, _⟩ := hx
  have HBW : Hid (∀ u, Below (w.heap.size + 1) (w.alloc (.cells #[.slice a1 caps.length cap1, .slice a2 paths.length cap2] 25)) u → Below w.heap.size w u) := fun u hu => ((Below.refl _ _).alloc (Nat.le_refl _) _).trans (hu.mono (by omega))
  have HCW : Hid (∀ u, Below (w.heap.size + 1) (w.alloc (.cells #[.slice a1 caps.length cap1, .slice a2 paths.length cap2] 25)) u → u.cell? ⟨w.heap.size, 0, none⟩ = some (.slice a1 caps.length cap1) ∧ u.cell? ⟨w.heap.size, 1, none⟩ = some (.slice a2 paths.length cap2) ∧ w.heap.size + 1 ≤ u.heap.size) := fun u hu =>
    ⟨(hu.cell (p := ⟨w.heap.size, 0, none⟩) (by simp)).trans (by simp), (hu.cell (p := ⟨w.heap.size, 1, none⟩) (by simp)).trans (by simp), by have := hu.size; simpa using this⟩
  have HN : Hid (∀ u u' : World, Below (w.heap.size + 1) (w.alloc (.cells #[.slice a1 caps.length cap1, .slice a2 paths.length cap2] 25)) u → Below u.heap.size u u' → Below (w.heap.size + 1) (w.alloc (.cells #[.slice a1 caps.length cap1, .slice a2 paths.length cap2] 25)) u') := fun u u' hu hu' => hu.trans (hu'.mono (HCW.out _ hu).2.2)
  clear hg
  go_enter Tryd.func4, Tryd.ntmps4
  go_wp2_with fail
  refine (HRL.out _ ((Below.refl _ _).alloc (Nat.le_refl _) _)).mono ?_
  rintro e w1 ⟨y1, rfl, hy1, hw1⟩
  have C1 : Hid (Below (w.heap.size + 1) (w.alloc (.cells #[.slice a1 caps.length cap1, .slice a2 paths.length cap2] 25)) w1) := hw1.mono (by simp)
  obtain ⟨g0, g1, z1⟩ := HCW.out _ C1.out
  obtain ⟨b1, n1, c1, rfl⟩ := hy1.shape
  clear hw1 hy1
  go_wp2_with fail
  refine (HOf.out _ (HBW.out _ C1.out)).mono ?_
  rintro e w2 ⟨y2, rfl, hy2, hw2⟩
  have C2 : Hid (Below (w.heap.size + 1) (w.alloc (.cells #[.slice a1 caps.length cap1, .slice a2 paths.length cap2] 25)) w2) := HN.out _ _ C1.out hw2
  obtain ⟨g0, g1, z2⟩ := HCW.out _ C2.out
  obtain ⟨b2, c2, rfl, _⟩ := hy2
  simp only [List.length_nil]
  clear hw2
  go_wp2_with fail
  refine (HEr.out _ _ (HBW.out _ C2.out)).mono ?_
  rintro e w3 ⟨rfl, hw3⟩
  have C3 : Hid (Below (w.heap.size + 1) (w.alloc (.cells #[.slice a1 caps.length cap1, .slice a2 paths.length cap2] 25)) w3) := HN.out _ _ C2.out hw3
  clear hw3
  go_wp2_with fail
  refine (HSF.out _ _ _).mono ?_
  rintro e w4 ⟨rfl, n4, rfl⟩
  have C4 : Hid (Below (w.heap.size + 1) (w.alloc (.cells #[.slice a1 caps.length cap1, .slice a2 paths.length cap2] 25)) (w3.drewN n4)) := below_drewN C3.out _
  generalize w3.drewN n4 = w4 at *
  obtain ⟨g0, g1, z4⟩ := HCW.out _ C4.out
  go_wp2_with fail
  refine (HRF.out _ (HBW.out _ C4.out)).mono ?_
  rintro e w5 ⟨rfl, hw5⟩
  have C5 : Hid (Below (w.heap.size + 1) (w.alloc (.cells #[.slice a1 caps.length cap1, .slice a2 paths.length cap2] 25)) w5) := HN.out _ _ C4.out hw5
  obtain ⟨g0, g1, z5⟩ := HCW.out _ C5.out
  clear hw5
  go_wp2_with fail
  refine (HFi.out _ (HBW.out _ C5.out)).mono ?_
  rintro e w6 ⟨rfl, hw6⟩
  have C6 : Hid (Below (w.heap.size + 1) (w.alloc (.cells #[.slice a1 caps.length cap1, .slice a2 paths.length cap2] 25)) w6) := HN.out _ _ C5.out hw6
  clear hw6
  go_wp2_with fail
  refine (HEr.out _ _ (HBW.out _ C6.out)).mono ?_
  rintro e w7 ⟨rfl, hw7⟩
  have C7 : Hid (Below (w.heap.size + 1) (w.alloc (.cells #[.slice a1 caps.length cap1, .slice a2 paths.length cap2] 25)) w7) := HN.out _ _ C6.out hw7
  obtain ⟨g0, g1, z7⟩ := HCW.out _ C7.out
  clear hw7
  go_wp2
  go_loop [6, 13, 14] (fun e o i => e = .int .i64 F ∧ o = .slice none 0 0 ∧ i = .int .i64 0) (fun _ _ _ => 0)
  case atStart => exact ⟨rfl, rfl, rfl⟩
  case round =>
    obtain ⟨rfl, rfl, rfl⟩ := hrel
    go_wp2_with fail
    refine (HLe.out _ (HBW.out _ C7.out)).mono ?_
    rintro e w8 ⟨y8, rfl, hy8, hw8⟩
    have C8 : Hid (Below (w.heap.size + 1) (w.alloc (.cells #[.slice a1 caps.length cap1, .slice a2 paths.length cap2] 25)) w8) := HN.out _ _ C7.out hw8
    obtain ⟨b8, c8, rfl, _⟩ := hy8
    simp only [List.length_nil]
    clear hw8
    go_wp2_with fail
    refine (HEr.out _ _ (HBW.out _ C8.out)).mono ?_
    rintro e w9 ⟨rfl, hw9⟩
    have C9 : Hid (Below (w.heap.size + 1) (w.alloc (.cells #[.slice a1 caps.length cap1, .slice a2 paths.length cap2] 25)) w9) := HN.out _ _ C8.out hw9
    clear hw9
    go_wp2_with fail
    refine (HSF.out _ _ _).mono ?_
    rintro e w10 ⟨rfl, n10, rfl⟩
    go_wp2
    go_ret
    exact ⟨Ns.ret_bool rfl, below_drewN (HBW.out _ C9.out) _⟩
end Ld
end Go.Proofs.YtmoeaaocpnoibabDoor
