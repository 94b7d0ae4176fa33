/- Facts and contracts that the walks lean on, one text behind the other; no walk of Go in them. -/
import Derived.Test.YtdldgefahgojaakDoorPlainsA
import Derived.Deep.RegionHeld3
import Derived.Deep.RegionLaw
import Derived.BigQuiet
import Derived.LaidEql
import Derived.Stop.Asserts
import Derived.RowKitTokens
import Derived.OwnWalk
/- The frames of the law LogKeeps: what its slots hold; the code and its pieces. -/
namespace Go.Proofs.YtdldgefahgojaakDoor
namespace Ev
open Go.RowKit Fr Ns Ld Fl
set_option linter.unusedSimpArgs false
set_option linter.unusedVariables false

set_option maxRecDepth 100000 in
theorem range_lk (X : Nat → Value) : (List.range 397).map X = [X 0, X 1, X 2, X 3, X 4, X 5, X 6, X 7, X 8, X 9, X 10, X 11, X 12, X 13, X 14, X 15, X 16, X 17, X 18, X 19, X 20, X 21, X 22, X 23, X 24, X 25, X 26, X 27, X 28, X 29, X 30, X 31, X 32, X 33, X 34, X 35, X 36, X 37, X 38, X 39, X 40, X 41, X 42, X 43, X 44, X 45, X 46, X 47, X 48, X 49, X 50, X 51, X 52, X 53, X 54, X 55, X 56, X 57, X 58, X 59, X 60, X 61, X 62, X 63, X 64, X 65, X 66, X 67, X 68, X 69, X 70, X 71, X 72, X 73, X 74, X 75, X 76, X 77, X 78, X 79, X 80, X 81, X 82, X 83, X 84, X 85, X 86, X 87, X 88, X 89, X 90, X 91, X 92, X 93, X 94, X 95, X 96, X 97, X 98, X 99, X 100, X 101, X 102, X 103, X 104, X 105, X 106, X 107, X 108, X 109, X 110, X 111, X 112, X 113, X 114, X 115, X 116, X 117, X 118, X 119, X 120, X 121, X 122, X 123, X 124, X 125, X 126, X 127, X 128, X 129, X 130, X 131, X 132, X 133, X 134, X 135, X 136, X 137, X 138, X 139, X 140, X 141, X 142, X 143, X 144, X 145, X 146, X 147, X 148, X 149, X 150, X 151, X 152, X 153, X 154, X 155, X 156, X 157, X 158, X 159, X 160, X 161, X 162, X 163, X 164, X 165, X 166, X 167, X 168, X 169, X 170, X 171, X 172, X 173, X 174, X 175, X 176, X 177, X 178, X 179, X 180, X 181, X 182, X 183, X 184, X 185, X 186, X 187, X 188, X 189, X 190, X 191, X 192, X 193, X 194, X 195, X 196, X 197, X 198, X 199, X 200, X 201, X 202, X 203, X 204, X 205, X 206, X 207, X 208, X 209, X 210, X 211, X 212, X 213, X 214, X 215, X 216, X 217, X 218, X 219, X 220, X 221, X 222, X 223, X 224, X 225, X 226, X 227, X 228, X 229, X 230, X 231, X 232, X 233, X 234, X 235, X 236, X 237, X 238, X 239, X 240, X 241, X 242, X 243, X 244, X 245, X 246, X 247, X 248, X 249, X 250, X 251, X 252, X 253, X 254, X 255, X 256, X 257, X 258, X 259, X 260, X 261, X 262, X 263, X 264, X 265, X 266, X 267, X 268, X 269, X 270, X 271, X 272, X 273, X 274, X 275, X 276, X 277, X 278, X 279, X 280, X 281, X 282, X 283, X 284, X 285, X 286, X 287, X 288, X 289, X 290, X 291, X 292, X 293, X 294, X 295, X 296, X 297, X 298, X 299, X 300, X 301, X 302, X 303, X 304, X 305, X 306, X 307, X 308, X 309, X 310, X 311, X 312, X 313, X 314, X 315, X 316, X 317, X 318, X 319, X 320, X 321, X 322, X 323, X 324, X 325, X 326, X 327, X 328, X 329, X 330, X 331, X 332, X 333, X 334, X 335, X 336, X 337, X 338, X 339, X 340, X 341, X 342, X 343, X 344, X 345, X 346, X 347, X 348, X 349, X 350, X 351, X 352, X 353, X 354, X 355, X 356, X 357, X 358, X 359, X 360, X 361, X 362, X 363, X 364, X 365, X 366, X 367, X 368, X 369, X 370, X 371, X 372, X 373, X 374, X 375, X 376, X 377, X 378, X 379, X 380, X 381, X 382, X 383, X 384, X 385, X 386, X 387, X 388, X 389, X 390, X 391, X 392, X 393, X 394, X 395, X 396] := by kernel_rfl
theorem has_nil {t : List Value} : Has t [] := trivial
theorem has_cons {t : List Value} {k : Nat} {v : Value} {r : List (Nat × Value)} (h : t[k]? = some v) (hr : Has t r) : Has t ((k, v) :: r) := ⟨h, hr⟩
/-- a piece of the law's code goes through to its end -/
def Lk (p : List Nat) (R : Act → World → Prop) (a : Act) (w : World) : Prop := Thru (dig p (Tryd.f4.body.getD .skip)) R a w
theorem Lk.seq {p p0 p1 : List Nat} (hc : dig p (Tryd.f4.body.getD .skip) = .seq (dig p0 (Tryd.f4.body.getD .skip)) (dig p1 (Tryd.f4.body.getD .skip))) {R R' : Act → World → Prop} {a : Act} {w : World} (h : Lk p0 R a w) (hr : ∀ a' w', R a' w' → Lk p1 R' a' w') : Lk p R' a w := Thru.seq hc h hr
theorem Lk.cond {p p0 p1 : List Nat} {k : Nat} (hc : dig p (Tryd.f4.body.getD .skip) = .cond (.tmp k) (dig p0 (Tryd.f4.body.getD .skip)) (dig p1 (Tryd.f4.body.getD .skip))) {R : Act → World → Prop} {a : Act} {w : World} {b : Bool} (hb : a.tmps.toList[k]? = some (.bool b)) (ht : b = true → Lk p0 R a w) (hf : b = false → Lk p1 R a w) : Lk p R a w := Thru.cond hc hb ht hf
theorem Lk.mono {p : List Nat} {R R' : Act → World → Prop} {a : Act} {w : World} (h : Lk p R a w) (hr : ∀ a' w', R a' w' → R' a' w') : Lk p R' a w := Thru.mono h hr
theorem Lk.skip {p : List Nat} (hc : dig p (Tryd.f4.body.getD .skip) = .skip) {R : Act → World → Prop} {a : Act} {w : World} (h : R a w) : Lk p R a w := Thru.skip hc h
theorem Lk.block {p p0 : List Nat} {id : Nat} (hc : dig p (Tryd.f4.body.getD .skip) = .block id (dig p0 (Tryd.f4.body.getD .skip))) {R : Act → World → Prop} {a : Act} {w : World} (h : Lk p0 R a w) : Lk p R a w := Thru.block hc h
/-- a piece of the law's code goes out of a block -/
def LkX (p : List Nat) (id : Nat) (R : Act → World → Prop) (a : Act) (w : World) : Prop := Outs (dig p (Tryd.f4.body.getD .skip)) id R a w
theorem LkX.mono {p : List Nat} {id : Nat} {R R' : Act → World → Prop} {a : Act} {w : World} (h : LkX p id R a w) (hr : ∀ a' w', R a' w' → R' a' w') : LkX p id R' a w := Outs.mono h hr
theorem LkX.seq {p p0 p1 : List Nat} {id : Nat} (hc : dig p (Tryd.f4.body.getD .skip) = .seq (dig p0 (Tryd.f4.body.getD .skip)) (dig p1 (Tryd.f4.body.getD .skip))) {R : Act → World → Prop} {a : Act} {w : World} (h : LkX p0 id R a w) : LkX p id R a w := Outs.seq hc h
theorem Lk.loop {p p0 : List Nat} {id : Nat} (hc : dig p (Tryd.f4.body.getD .skip) = .block id (.loop (dig p0 (Tryd.f4.body.getD .skip)))) {R : Act → World → Prop} (I : Act → World → Prop) (mu : Act → World → Nat) {a : Act} {w : World} (h0 : I a w)
    (round : ∀ a w, I a w → Lk p0 (fun a' w' => I a' w' ∧ mu a' w' < mu a w) a w ∨ LkX p0 id R a w) : Lk p R a w := Thru.loop hc I mu h0 round
/-- what lies in the law's slots all along -/
def lkB (a0 a1 a2 a3 a4 a5 : Option Addr) (n0 n1 n2 n3 n4 n5 c0 c1 c2 c3 c4 c5 : Nat) (aj : Addr) (dv mv : Value) (t r : Nat) (ex : List (Nat × Value)) : List (Nat × Value) :=
  (0, .slice a0 n0 c0) :: (1, .slice a1 n1 c1) :: (2, .slice a2 n2 c2) :: (3, .slice a3 n3 c3) :: (4, .slice a4 n4 c4) :: (5, .slice a5 n5 c5) :: (22, .pointer (some aj)) :: (25, dv) :: (26, mv) :: (27, .int .i64 t) :: (28, .int .i64 r) :: ex
end Ev
end Go.Proofs.YtdldgefahgojaakDoor

/- The law LogKeeps: a Sync, where it is to be. -/
namespace Go.Proofs.YtdldgefahgojaakDoor
namespace Ev
open Go.RowKit Fr Ns Ld Fl
set_option linter.unusedSimpArgs false
set_option linter.unusedVariables false

section
variable {X : LogFace} {w : World} {caps : List Int} {paths : List (List Int)} {drops syncs fails keeps : List Int} {a0 a1 a2 a3 a4 a5 : Option Addr} {c0 c1 c2 c3 c4 c5 : Nat} {aj : Addr} {dv mv : Value} {t r k m : Nat} {s : LogS} {dn : List Flows} {mk : List Nat} {a : Act} {u : World}
set_option maxRecDepth 100000 in
set_option maxHeartbeats 8000000 in
theorem lk_sync (hS : LSyncSaid X) (hB : LBytesSaid X) (hSf : LSafeSaid X) (hv3 : IntsAt (fun b => b < w.heap.size) w (.slice a3 syncs.length c3) syncs) (hm : m ≤ 1000) (ha : Slots 397 (lkB a0 a1 a2 a3 a4 a5 caps.length paths.length drops.length syncs.length fails.length keeps.length c0 c1 c2 c3 c4 c5 aj dv mv t r [(29, .int .i64 k)]) a) (hk : KeepsE X w aj (.slice a0 caps.length c0) m s dv mv dn mk [] u) :
    Lk [1, 1, 1, 1, 1, 1, 1, 1, 1, 1, 1, 1, 1, 1, 1, 1, 1, 0, 1, 0, 0, 1, 0, 0, 1, 0, 1, 0, 0, 1, 0, 0, 0] (fun a' u' => ∃ s', Slots 397 (lkB a0 a1 a2 a3 a4 a5 caps.length paths.length drops.length syncs.length fails.length keeps.length c0 c1 c2 c3 c4 c5 aj dv mv t r [(29, .int .i64 k)]) a' ∧ KeepsE X w aj (.slice a0 caps.length c0) m s' dv mv dn mk [] u' ∧ s'.done = s.done ∧ s'.marks = s.marks ∧ s'.caps = s.caps) a u := by
  have KK : Hid (KeepsE X w aj (.slice a0 caps.length c0) m s dv mv dn mk [] u) := hk
  by_cases h1 : t < syncs.length
  · obtain ⟨b, off, rfl, hc⟩ := ints_cells hv3 t h1
    have cc := hc u hk.below
    clear hc hv3
    have h1' : (t : Int) < syncs.length := by omega
    by_cases h2 : syncs.getD t 0 = 1
    · rw [h2] at cc
      by_cases h3 : syncE s = 0
      · have HS : Hid (Calls Tryd.prog 11 #[.pointer (some aj)] u fun e w' => e = .returned .nilIface ∧ KeepsE X w aj (.slice a0 caps.length c0) m (syncS s) dv mv dn mk [] w') := by
          have := k_sync hS hk hm
          rw [h3, errV_0] at this
          exact this
        have e4 := (syncS_same s).2.2.2 h3
        have HF : Hid (∀ u : World, KeepsE X w aj (.slice a0 caps.length c0) m (syncS s) dv mv dn mk [] u → Calls Tryd.prog 14 #[.pointer (some aj)] u fun e w' => e = .returned (.int .i64 (syncS s).bytes) ∧ KeepsE X w aj (.slice a0 caps.length c0) m (syncS s) dv mv dn mk [] w') := fun u h => by
          refine (k_safe hSf h hm).mono ?_
          rintro e w' ⟨he, n, rfl⟩
          rw [e4] at he
          exact ⟨he, h.later (below_drewN (Below.refl _ _) _)⟩
        have HB : Hid (∀ u : World, KeepsE X w aj (.slice a0 caps.length c0) m (syncS s) dv mv dn mk [] u → Calls Tryd.prog 9 #[.pointer (some aj)] u fun e w' => e = .returned (.int .i64 (syncS s).bytes) ∧ KeepsE X w aj (.slice a0 caps.length c0) m (syncS s) dv mv dn mk [] w') := fun u h => by
          refine (k_bytes hB h hm).mono ?_
          rintro e w' ⟨he, n, rfl⟩
          exact ⟨he, h.later (below_drewN (Below.refl _ _) _)⟩
        have HE : Hid ((syncS s).done = s.done ∧ (syncS s).marks = s.marks ∧ (syncS s).caps = s.caps) := ⟨(syncS_same s).1, (syncS_same s).2.1, (syncS_same s).2.2.1⟩
        clear hk KK hS hB hSf h2 h3 e4 h1
        refine Thru.mk fun J K hJ hK => ?_
        obtain ⟨Y, rfl, hY⟩ := ha.lay
        obtain ⟨e0, e1, e2, e3, e4, e5, e6, e7, e8, e9, e10, e11, -⟩ := hY
        rw [range_lk]
        simp only [e0, e1, e2, e3, e4, e5, e6, e7, e8, e9, e10, e11]
        clear ha e0 e1 e2 e3 e4 e5 e6 e7 e8 e9 e10 e11
        conv => arg 2; whnf
        go_wp2_with fail
        refine HS.out.mono ?_
        rintro e w1 ⟨rfl, hk⟩
        have K1 : Hid (KeepsE X w aj (.slice a0 caps.length c0) m (syncS s) dv mv dn mk [] w1) := hk
        clear hk HS
        go_wp2_with fail
        refine (HF.out _ K1.out).mono ?_
        rintro e w2 ⟨rfl, hk⟩
        have K2 : Hid (KeepsE X w aj (.slice a0 caps.length c0) m (syncS s) dv mv dn mk [] w2) := hk
        clear hk K1 HF
        go_wp2_with fail
        refine (HB.out _ K2.out).mono ?_
        rintro e w3 ⟨rfl, hk⟩
        have K3 : Hid (KeepsE X w aj (.slice a0 caps.length c0) m (syncS s) dv mv dn mk [] w3) := hk
        clear hk K2 HB
        go_wp2
        refine Met.intro (hJ _ _ ?_)
        exact ⟨syncS s, ⟨rfl, by kernel_rfl, has_cons rfl (has_cons rfl (has_cons rfl (has_cons rfl (has_cons rfl (has_cons rfl (has_cons rfl (has_cons rfl (has_cons rfl (has_cons rfl (has_cons rfl (has_cons rfl (has_nil))))))))))))⟩, K3.out, HE.out⟩
      · have HS : Hid (Calls Tryd.prog 11 #[.pointer (some aj)] u fun e w' => e = .returned (.iface 61 (.int .i64 (syncE s))) ∧ KeepsE X w aj (.slice a0 caps.length c0) m (syncS s) dv mv dn mk [] w') := by
          have := k_sync hS hk hm
          rw [errV_ne h3] at this
          exact this
        have HE : Hid ((syncS s).done = s.done ∧ (syncS s).marks = s.marks ∧ (syncS s).caps = s.caps) := ⟨(syncS_same s).1, (syncS_same s).2.1, (syncS_same s).2.2.1⟩
        generalize syncE s = z at *
        clear hk KK hS hB hSf h2 h3 h1
        refine Thru.mk fun J K hJ hK => ?_
        obtain ⟨Y, rfl, hY⟩ := ha.lay
        obtain ⟨e0, e1, e2, e3, e4, e5, e6, e7, e8, e9, e10, e11, -⟩ := hY
        rw [range_lk]
        simp only [e0, e1, e2, e3, e4, e5, e6, e7, e8, e9, e10, e11]
        clear ha e0 e1 e2 e3 e4 e5 e6 e7 e8 e9 e10 e11
        conv => arg 2; whnf
        go_wp2_with fail
        refine HS.out.mono ?_
        rintro e w1 ⟨rfl, hk⟩
        have K1 : Hid (KeepsE X w aj (.slice a0 caps.length c0) m (syncS s) dv mv dn mk [] w1) := hk
        clear hk HS
        go_wp2
        refine Met.intro (hJ _ _ ?_)
        exact ⟨syncS s, ⟨rfl, by kernel_rfl, has_cons rfl (has_cons rfl (has_cons rfl (has_cons rfl (has_cons rfl (has_cons rfl (has_cons rfl (has_cons rfl (has_cons rfl (has_cons rfl (has_cons rfl (has_cons rfl (has_nil))))))))))))⟩, K1.out, HE.out⟩
    · generalize syncs.getD t 0 = z at *
      clear hk hS hB hSf h1
      refine Thru.mk fun J K hJ hK => ?_
      obtain ⟨Y, rfl, hY⟩ := ha.lay
      obtain ⟨e0, e1, e2, e3, e4, e5, e6, e7, e8, e9, e10, e11, -⟩ := hY
      rw [range_lk]
      simp only [e0, e1, e2, e3, e4, e5, e6, e7, e8, e9, e10, e11]
      clear ha e0 e1 e2 e3 e4 e5 e6 e7 e8 e9 e10 e11
      conv => arg 2; whnf
      go_wp2
      refine Met.intro (hJ _ _ ?_)
      exact ⟨s, ⟨rfl, by kernel_rfl, has_cons rfl (has_cons rfl (has_cons rfl (has_cons rfl (has_cons rfl (has_cons rfl (has_cons rfl (has_cons rfl (has_cons rfl (has_cons rfl (has_cons rfl (has_cons rfl (has_nil))))))))))))⟩, KK.out, rfl, rfl, rfl⟩
  · have h1' : ¬ (t : Int) < syncs.length := by omega
    clear hk hS hB hSf h1 hv3
    refine Thru.mk fun J K hJ hK => ?_
    obtain ⟨Y, rfl, hY⟩ := ha.lay
    obtain ⟨e0, e1, e2, e3, e4, e5, e6, e7, e8, e9, e10, e11, -⟩ := hY
    rw [range_lk]
    simp only [e0, e1, e2, e3, e4, e5, e6, e7, e8, e9, e10, e11]
    clear ha e0 e1 e2 e3 e4 e5 e6 e7 e8 e9 e10 e11
    conv => arg 2; whnf
    go_wp2
    refine Met.intro (hJ _ _ ?_)
    exact ⟨s, ⟨rfl, by kernel_rfl, has_cons rfl (has_cons rfl (has_cons rfl (has_cons rfl (has_cons rfl (has_cons rfl (has_cons rfl (has_cons rfl (has_cons rfl (has_cons rfl (has_cons rfl (has_cons rfl (has_nil))))))))))))⟩, KK.out, rfl, rfl, rfl⟩
end
end Ev
end Go.Proofs.YtdldgefahgojaakDoor

/- The law LogKeeps: the net that stands. -/
namespace Go.Proofs.YtdldgefahgojaakDoor
namespace Ev
open Go.RowKit Fr Ns Ld Fl
set_option linter.unusedSimpArgs false
set_option linter.unusedVariables false

section
variable {X : LogFace} {w : World} {caps : List Int} {paths : List (List Int)} {drops syncs fails keeps : List Int} {a0 a1 a2 a3 a4 a5 : Option Addr} {c0 c1 c2 c3 c4 c5 : Nat} {aj : Addr} {dv mv : Value} {t r k m : Nat} {s : LogS} {dn : List Flows} {mk : List Nat} {a : Act} {u : World}
set_option maxRecDepth 100000 in
set_option maxHeartbeats 8000000 in
theorem lk_now {d : Nat} (hd : dn.length = d + 1) (hdm : dn.length ≤ 1000) (ha : Slots 397 (lkB a0 a1 a2 a3 a4 a5 caps.length paths.length drops.length syncs.length fails.length keeps.length c0 c1 c2 c3 c4 c5 aj dv mv t r [(29, .int .i64 k)]) a) (hk : KeepsE X w aj (.slice a0 caps.length c0) m s dv mv dn mk [] u) :
    Lk [1, 1, 1, 1, 1, 1, 1, 1, 1, 1, 1, 1, 1, 1, 1, 1, 1, 0, 1, 0, 0, 1, 0, 0, 1, 0, 1, 0, 0, 1, 0, 0, 1, 0] (fun a' u' => ∃ pv, Slots 397 (lkB a0 a1 a2 a3 a4 a5 caps.length paths.length drops.length syncs.length fails.length keeps.length c0 c1 c2 c3 c4 c5 aj dv mv t r [(29, .int .i64 k), (30, .pointer (some ⟨u.heap.size, 0, none⟩))]) a' ∧ KeepsE X w aj (.slice a0 caps.length c0) m s dv mv dn mk [(u.heap.size, pv, dn.getD d [])] u') a u := by
  obtain ⟨D, c, pv, hdv, hc, hcell, F0, hK0, hL0⟩ := hk.last (i := d) (by omega)
  obtain ⟨q1, q2⟩ := hcell u (Below.refl _ _)
  have HP : Hid (∀ u', Below u.heap.size u u' → RowAt u' u.heap.size 45 [(.slice a0 caps.length c0), pv] → KeepsE X w aj (.slice a0 caps.length c0) m s dv mv dn mk [(u.heap.size, pv, dn.getD d [])] u') := fun u' hb hr => by
    refine hk.putB (fun F hF => ?_) hb hr
    obtain ⟨ps, p1, p2, p3⟩ := hF.nets
    have := p3 d (by omega)
    rw [hdv] at p2
    have c2 := p2.cellAt (d * 2 + 1) (by omega)
    rw [(netCells_at _ ps d (by omega)).2, q2] at c2
    simp only [Option.some.injEq] at c2
    rw [c2]; exact this
  have hw1 : IntKind.i64.wrap ((dn.length : Int) - 1) = (d : Int) := by rw [IntKind.wrap_i64]; omega
  have hlt : (d : Int) < dn.length := by omega
  subst hdv
  obtain ⟨ap, cp, rfl, _⟩ := hL0
  clear hk hK0 hcell
  generalize dn.getD d [] = f at *
  refine Thru.mk fun J K hJ hK => ?_
  obtain ⟨Y, rfl, hY⟩ := ha.lay
  obtain ⟨e0, e1, e2, e3, e4, e5, e6, e7, e8, e9, e10, e11, -⟩ := hY
  rw [range_lk]
  simp only [e0, e1, e2, e3, e4, e5, e6, e7, e8, e9, e10, e11]
  clear ha e0 e1 e2 e3 e4 e5 e6 e7 e8 e9 e10 e11
  conv => arg 2; whnf
  go_wp2
  refine Met.intro (hJ _ _ ?_)
  exact ⟨_, ⟨rfl, by kernel_rfl, has_cons rfl (has_cons rfl (has_cons rfl (has_cons rfl (has_cons rfl (has_cons rfl (has_cons rfl (has_cons rfl (has_cons rfl (has_cons rfl (has_cons rfl (has_cons rfl (has_cons rfl (has_nil)))))))))))))⟩, HP.out _ ((Below.refl _ _).alloc (Nat.le_refl _) _) (row_made _ _ _ _ _ rfl rfl)⟩
set_option maxRecDepth 100000 in
set_option maxHeartbeats 8000000 in
theorem lk_next {nb : Nat} {pv : Value} {f : Flows} (ha : Slots 397 (lkB a0 a1 a2 a3 a4 a5 caps.length paths.length drops.length syncs.length fails.length keeps.length c0 c1 c2 c3 c4 c5 aj dv mv t r [(29, .int .i64 k), (30, .pointer (some ⟨nb, 0, none⟩))]) a) (hk : KeepsE X w aj (.slice a0 caps.length c0) m s dv mv dn mk [(nb, pv, f)] u) :
    Lk [1, 1, 1, 1, 1, 1, 1, 1, 1, 1, 1, 1, 1, 1, 1, 1, 1, 0, 1, 0, 0, 1, 0, 0, 1, 0, 1, 0, 0, 1, 0, 0, 1, 1, 0] (fun a' u' => Slots 397 (lkB a0 a1 a2 a3 a4 a5 caps.length paths.length drops.length syncs.length fails.length keeps.length c0 c1 c2 c3 c4 c5 aj dv mv t r [(29, .int .i64 k), (30, .pointer (some ⟨nb, 0, none⟩)), (31, .pointer (some ⟨u.heap.size, 0, none⟩))]) a' ∧ Next X w aj (.slice a0 caps.length c0) m s dv mv dn mk nb f u.heap.size f u') a u := by
  have HP : Hid (∀ u', Below u.heap.size u u' → RowAt u' u.heap.size 45 [(.slice a0 caps.length c0), pv] → Next X w aj (.slice a0 caps.length c0) m s dv mv dn mk nb f u.heap.size f u') := fun u' hb hr => Next.made hk hb hr
  obtain ⟨F, hK⟩ := hk
  obtain ⟨e1, e2, e3⟩ := hK.exs (nb, pv, f) (by simp)
  have q1 := e1.cell (i := 0) rfl
  have q2 := e1.cell (i := 1) rfl
  obtain ⟨ap, cp, e4, _⟩ := e3
  simp only at e4 q1 q2
  subst e4
  clear hK e1 e2
  refine Thru.mk fun J K hJ hK => ?_
  obtain ⟨Y, rfl, hY⟩ := ha.lay
  obtain ⟨e0, e1, e2, e3, e4, e5, e6, e7, e8, e9, e10, e11, e12, -⟩ := hY
  rw [range_lk]
  simp only [e0, e1, e2, e3, e4, e5, e6, e7, e8, e9, e10, e11, e12]
  clear ha e0 e1 e2 e3 e4 e5 e6 e7 e8 e9 e10 e11 e12
  conv => arg 2; whnf
  go_wp2
  refine Met.intro (hJ _ _ ?_)
  exact ⟨⟨rfl, by kernel_rfl, has_cons rfl (has_cons rfl (has_cons rfl (has_cons rfl (has_cons rfl (has_cons rfl (has_cons rfl (has_cons rfl (has_cons rfl (has_cons rfl (has_cons rfl (has_cons rfl (has_cons rfl (has_cons rfl (has_nil))))))))))))))⟩, HP.out _ ((Below.refl _ _).alloc (Nat.le_refl _) _) (row_made _ _ _ _ _ rfl rfl)⟩
end
end Ev
end Go.Proofs.YtdldgefahgojaakDoor

/- The law LogKeeps: bytes, and whether a flow is dropped. -/
namespace Go.Proofs.YtdldgefahgojaakDoor
namespace Ev
open Go.RowKit Fr Ns Ld Fl
set_option linter.unusedSimpArgs false
set_option linter.unusedVariables false

section
variable {X : LogFace} {w : World} {caps : List Int} {paths : List (List Int)} {drops syncs fails keeps : List Int} {a0 a1 a2 a3 a4 a5 : Option Addr} {c0 c1 c2 c3 c4 c5 : Nat} {aj : Addr} {dv mv : Value} {t r k m : Nat} {s : LogS} {dn : List Flows} {mk : List Nat} {a : Act} {u : World}
set_option maxRecDepth 100000 in
set_option maxHeartbeats 8000000 in
theorem lk_e0 {nb nx : Nat} {f g : Flows} (ha : Slots 397 (lkB a0 a1 a2 a3 a4 a5 caps.length paths.length drops.length syncs.length fails.length keeps.length c0 c1 c2 c3 c4 c5 aj dv mv t r [(29, .int .i64 k), (30, .pointer (some ⟨nb, 0, none⟩)), (31, .pointer (some ⟨nx, 0, none⟩))]) a) :
    Lk [1, 1, 1, 1, 1, 1, 1, 1, 1, 1, 1, 1, 1, 1, 1, 1, 1, 0, 1, 0, 0, 1, 0, 0, 1, 0, 1, 0, 0, 1, 0, 0, 1, 1, 1, 0] (fun a' u' => Slots 397 (lkB a0 a1 a2 a3 a4 a5 caps.length paths.length drops.length syncs.length fails.length keeps.length c0 c1 c2 c3 c4 c5 aj dv mv t r [(29, .int .i64 k), (30, .pointer (some ⟨nb, 0, none⟩)), (31, .pointer (some ⟨nx, 0, none⟩)), (32, .int .i64 0)]) a' ∧ u' = u) a u := by
  refine Thru.mk fun J K hJ hK => ?_
  obtain ⟨Y, rfl, hY⟩ := ha.lay
  obtain ⟨e0, e1, e2, e3, e4, e5, e6, e7, e8, e9, e10, e11, e12, e13, -⟩ := hY
  rw [range_lk]
  simp only [e0, e1, e2, e3, e4, e5, e6, e7, e8, e9, e10, e11, e12, e13]
  clear ha e0 e1 e2 e3 e4 e5 e6 e7 e8 e9 e10 e11 e12 e13
  conv => arg 2; whnf
  go_wp2
  refine Met.intro (hJ _ _ ?_)
  exact ⟨⟨rfl, by kernel_rfl, has_cons rfl (has_cons rfl (has_cons rfl (has_cons rfl (has_cons rfl (has_cons rfl (has_cons rfl (has_cons rfl (has_cons rfl (has_cons rfl (has_cons rfl (has_cons rfl (has_cons rfl (has_cons rfl (has_cons rfl (has_nil)))))))))))))))⟩, rfl⟩
set_option maxRecDepth 100000 in
set_option maxHeartbeats 8000000 in
theorem lk_bytes {nb nx : Nat} {f g : Flows} (hB : LBytesSaid X) (hm : m ≤ 1000) (ha : Slots 397 (lkB a0 a1 a2 a3 a4 a5 caps.length paths.length drops.length syncs.length fails.length keeps.length c0 c1 c2 c3 c4 c5 aj dv mv t r [(29, .int .i64 k), (30, .pointer (some ⟨nb, 0, none⟩)), (31, .pointer (some ⟨nx, 0, none⟩)), (32, .int .i64 0)]) a) (hk : Next X w aj (.slice a0 caps.length c0) m s dv mv dn mk nb f nx g u) :
    Lk [1, 1, 1, 1, 1, 1, 1, 1, 1, 1, 1, 1, 1, 1, 1, 1, 1, 0, 1, 0, 0, 1, 0, 0, 1, 0, 1, 0, 0, 1, 0, 0, 1, 1, 1, 1, 0] (fun a' u' => Slots 397 (lkB a0 a1 a2 a3 a4 a5 caps.length paths.length drops.length syncs.length fails.length keeps.length c0 c1 c2 c3 c4 c5 aj dv mv t r [(29, .int .i64 k), (30, .pointer (some ⟨nb, 0, none⟩)), (31, .pointer (some ⟨nx, 0, none⟩)), (32, .int .i64 0), (33, .int .i64 s.bytes)]) a' ∧ Next X w aj (.slice a0 caps.length c0) m s dv mv dn mk nb f nx g u') a u := by
  have HB : Hid (Calls Tryd.prog 9 #[.pointer (some aj)] u fun e w' => e = .returned (.int .i64 s.bytes) ∧ Next X w aj (.slice a0 caps.length c0) m s dv mv dn mk nb f nx g w') := by
    obtain ⟨pv, hk'⟩ := hk.keeps
    refine (k_bytes hB hk' hm).mono ?_
    rintro e w' ⟨he, n, rfl⟩
    exact ⟨he, hk.later (below_drewN (Below.refl _ _) _)⟩
  clear hk hB
  refine Thru.mk fun J K hJ hK => ?_
  obtain ⟨Y, rfl, hY⟩ := ha.lay
  obtain ⟨e0, e1, e2, e3, e4, e5, e6, e7, e8, e9, e10, e11, e12, e13, e14, -⟩ := hY
  rw [range_lk]
  simp only [e0, e1, e2, e3, e4, e5, e6, e7, e8, e9, e10, e11, e12, e13, e14]
  clear ha e0 e1 e2 e3 e4 e5 e6 e7 e8 e9 e10 e11 e12 e13 e14
  conv => arg 2; whnf
  go_wp2_with fail
  refine HB.out.mono ?_
  rintro e w1 ⟨rfl, hk⟩
  have K1 : Hid (Next X w aj (.slice a0 caps.length c0) m s dv mv dn mk nb f nx g w1) := hk
  clear hk HB
  go_wp2
  refine Met.intro (hJ _ _ ?_)
  exact ⟨⟨rfl, by kernel_rfl, has_cons rfl (has_cons rfl (has_cons rfl (has_cons rfl (has_cons rfl (has_cons rfl (has_cons rfl (has_cons rfl (has_cons rfl (has_cons rfl (has_cons rfl (has_cons rfl (has_cons rfl (has_cons rfl (has_cons rfl (has_cons rfl (has_nil))))))))))))))))⟩, K1.out⟩
set_option maxRecDepth 100000 in
set_option maxHeartbeats 8000000 in
theorem lk_err0 {nb nx : Nat} {f g : Flows} (ha : Slots 397 (lkB a0 a1 a2 a3 a4 a5 caps.length paths.length drops.length syncs.length fails.length keeps.length c0 c1 c2 c3 c4 c5 aj dv mv t r [(29, .int .i64 k), (30, .pointer (some ⟨nb, 0, none⟩)), (31, .pointer (some ⟨nx, 0, none⟩)), (32, .int .i64 0), (33, .int .i64 s.bytes)]) a) :
    Lk [1, 1, 1, 1, 1, 1, 1, 1, 1, 1, 1, 1, 1, 1, 1, 1, 1, 0, 1, 0, 0, 1, 0, 0, 1, 0, 1, 0, 0, 1, 0, 0, 1, 1, 1, 1, 1, 0] (fun a' u' => Slots 397 (lkB a0 a1 a2 a3 a4 a5 caps.length paths.length drops.length syncs.length fails.length keeps.length c0 c1 c2 c3 c4 c5 aj dv mv t r [(29, .int .i64 k), (30, .pointer (some ⟨nb, 0, none⟩)), (31, .pointer (some ⟨nx, 0, none⟩)), (32, .int .i64 0), (33, .int .i64 s.bytes)]) a' ∧ u' = u) a u := by
  refine Thru.mk fun J K hJ hK => ?_
  obtain ⟨Y, rfl, hY⟩ := ha.lay
  obtain ⟨e0, e1, e2, e3, e4, e5, e6, e7, e8, e9, e10, e11, e12, e13, e14, e15, -⟩ := hY
  rw [range_lk]
  simp only [e0, e1, e2, e3, e4, e5, e6, e7, e8, e9, e10, e11, e12, e13, e14, e15]
  clear ha e0 e1 e2 e3 e4 e5 e6 e7 e8 e9 e10 e11 e12 e13 e14 e15
  conv => arg 2; whnf
  go_wp2
  refine Met.intro (hJ _ _ ?_)
  exact ⟨⟨rfl, by kernel_rfl, has_cons rfl (has_cons rfl (has_cons rfl (has_cons rfl (has_cons rfl (has_cons rfl (has_cons rfl (has_cons rfl (has_cons rfl (has_cons rfl (has_cons rfl (has_cons rfl (has_cons rfl (has_cons rfl (has_cons rfl (has_cons rfl (has_nil))))))))))))))))⟩, rfl⟩
set_option maxRecDepth 100000 in
set_option maxHeartbeats 8000000 in
theorem lk_if {nb nx : Nat} {f g : Flows} (hv2 : IntsAt (fun b => b < w.heap.size) w (.slice a2 drops.length c2) drops) (hb : Below w.heap.size w u) (ha : Slots 397 (lkB a0 a1 a2 a3 a4 a5 caps.length paths.length drops.length syncs.length fails.length keeps.length c0 c1 c2 c3 c4 c5 aj dv mv t r [(29, .int .i64 k), (30, .pointer (some ⟨nb, 0, none⟩)), (31, .pointer (some ⟨nx, 0, none⟩)), (32, .int .i64 0), (33, .int .i64 s.bytes)]) a) :
    Lk [1, 1, 1, 1, 1, 1, 1, 1, 1, 1, 1, 1, 1, 1, 1, 1, 1, 0, 1, 0, 0, 1, 0, 0, 1, 0, 1, 0, 0, 1, 0, 0, 1, 1, 1, 1, 1, 1, 0, 0] (fun a' u' => ∃ b : Bool, Slots 397 (lkB a0 a1 a2 a3 a4 a5 caps.length paths.length drops.length syncs.length fails.length keeps.length c0 c1 c2 c3 c4 c5 aj dv mv t r [(29, .int .i64 k), (30, .pointer (some ⟨nb, 0, none⟩)), (31, .pointer (some ⟨nx, 0, none⟩)), (32, .int .i64 0), (33, .int .i64 s.bytes), (201, .bool b)]) a' ∧ u' = u ∧ (b = true → t < drops.length ∧ 0 ≤ drops.getD t 0)) a u := by
  by_cases h1 : t < drops.length
  · obtain ⟨b, off, rfl, hc⟩ := ints_cells hv2 t h1
    have cc := hc u hb
    have h1' : (t : Int) < drops.length := by omega
    have HI : Hid (∀ x : Bool, x = decide (0 ≤ drops.getD t 0) → x = true → t < drops.length ∧ 0 ≤ drops.getD t 0) := fun x h e => by subst e; exact ⟨h1, by simpa using h.symm⟩
    generalize drops.getD t 0 = z at *
    clear hc hv2 hb h1
    refine Thru.mk fun J K hJ hK => ?_
    obtain ⟨Y, rfl, hY⟩ := ha.lay
    obtain ⟨e0, e1, e2, e3, e4, e5, e6, e7, e8, e9, e10, e11, e12, e13, e14, e15, -⟩ := hY
    rw [range_lk]
    simp only [e0, e1, e2, e3, e4, e5, e6, e7, e8, e9, e10, e11, e12, e13, e14, e15]
    clear ha e0 e1 e2 e3 e4 e5 e6 e7 e8 e9 e10 e11 e12 e13 e14 e15
    conv => arg 2; whnf
    go_wp2
    refine Met.intro (hJ _ _ ?_)
    exact ⟨_, ⟨rfl, by kernel_rfl, has_cons rfl (has_cons rfl (has_cons rfl (has_cons rfl (has_cons rfl (has_cons rfl (has_cons rfl (has_cons rfl (has_cons rfl (has_cons rfl (has_cons rfl (has_cons rfl (has_cons rfl (has_cons rfl (has_cons rfl (has_cons rfl (has_cons rfl (has_nil)))))))))))))))))⟩, rfl, HI.out _ (by simp)⟩
  · have h1' : ¬ (t : Int) < drops.length := by omega
    clear hv2 hb h1
    refine Thru.mk fun J K hJ hK => ?_
    obtain ⟨Y, rfl, hY⟩ := ha.lay
    obtain ⟨e0, e1, e2, e3, e4, e5, e6, e7, e8, e9, e10, e11, e12, e13, e14, e15, -⟩ := hY
    rw [range_lk]
    simp only [e0, e1, e2, e3, e4, e5, e6, e7, e8, e9, e10, e11, e12, e13, e14, e15]
    clear ha e0 e1 e2 e3 e4 e5 e6 e7 e8 e9 e10 e11 e12 e13 e14 e15
    conv => arg 2; whnf
    go_wp2
    refine Met.intro (hJ _ _ ?_)
    exact ⟨false, ⟨rfl, by kernel_rfl, has_cons rfl (has_cons rfl (has_cons rfl (has_cons rfl (has_cons rfl (has_cons rfl (has_cons rfl (has_cons rfl (has_cons rfl (has_cons rfl (has_cons rfl (has_cons rfl (has_cons rfl (has_cons rfl (has_cons rfl (has_cons rfl (has_cons rfl (has_nil)))))))))))))))))⟩, rfl, fun h => by simp at h⟩
end
end Ev
end Go.Proofs.YtdldgefahgojaakDoor

/- Slices of slices of int: rows of them that a call owns. -/
namespace Go.Proofs.YtdldgefahgojaakDoor
namespace Ns
open Go.RowKit
set_option linter.unusedSimpArgs false
set_option linter.unusedVariables false

theorem infoInts : (Tryd.prog.info? 27).map (fun i => (i.zero, i.size, i.bytes)) = some (some (.slice none 0 0), 1, 24) := by kernel_rfl

/-- a row of slices that the call owns is a list of lists -/
theorem lists_of_owns {Q : Nat → Prop} {w : World} {base : Nat} {v : Value} {ll : List (List Int)} {vs : List Value} (hl : ll.length ≤ 9223372036854775807) (hvs : vs.length = ll.length) (h : w.ownsRow base 27 1 v ll.length vs)
    (hi : ∀ i, i < ll.length → IntsAt Q w (vs.getD i undef) (ll.getD i [])) (hQ : ∀ g, base ≤ g → Q g) : ListsAt Q w v ll := by
  have h' := h
  obtain ⟨h0, h⟩ := h
  rcases h with ⟨rfl, h⟩ | ⟨g, cap, cur, rfl, hb, hg, hc, hm, hs, ht⟩
  · have : ll = [] := List.eq_nil_of_length_eq_zero h
    subst this
    exact ⟨none, 0, rfl, ⟨Nat.le_refl _, by simp⟩, .inl rfl⟩
  · refine ⟨_, cap, rfl, ⟨hc, hl⟩, .inr ⟨g, 0, rfl, fun i hi' => ⟨vs.getD i undef, ?_, hi i hi'⟩, hQ g hb⟩⟩
    have := h'.cells (g := g) rfl i (vs.getD i undef) (by simp [List.getD, List.getElem?_eq_getElem (show i < vs.length by omega)])
    rw [add_addr] at this
    exact this

end Ns
end Go.Proofs.YtdldgefahgojaakDoor

/- An append as a step of a region that draws its order, and a list without one of its places. -/
namespace Go.Proofs.YtdldgefahgojaakDoor
namespace Ns
open Go.RowKit
set_option linter.unusedSimpArgs false
set_option linter.unusedVariables false

/-- an append to a row of the call's own, as a step of a region that draws its order -/
theorem step_append_own {P : Program} {ops : Array Oper} {o : Oper} {a : Act} {w : World} {K : Act → World → Prop} {Q : Exit → Act → World → Prop} {E : Prop} (hgd : o.guard = none) (s x : Operand) (t : TypeId)
    (ho : o.op = .call { callee := .builtin .append, args := #[s, x], argTypes := #[t, t] })
    (base : Nat) (e : TypeId) (i : TypeInfo) (z : Value) (size bytes : Nat) (ht : P.underlying t = some (.slice e)) (hi : P.info? e = some i) (hz : i.zero = some z)
    (hsize : i.size = size) (hby : i.bytes = bytes) (hzs : z.cells.size = size) (hsz : 0 < size)
    (v : Value) (n : Nat) (xs : List Value) (hs : a.eval s = v) (hown : w.ownsRow base e size v n xs)
    (ad : Addr) (m c : Nat) (news : List Value) (hx : a.eval x = .slice (some ad) m c) (hl : news.length = m * size) (hnews : ∀ j u, news[j]? = some u → w.cell? (ad.add j) = some u) (h1 : ∀ u ∈ news, u.oneCell' = true)
    (h63 : n + m ≤ maxLen) (hbytes : (n + m) * bytes ≤ 140737488355328) (hbase : base ≤ w.heap.size)
    (h : ∀ a' n' c' w', w'.ownsRow base e size (.slice a' n' c') (n + m) (xs ++ news) → w.grownBy w' v.ownBlock → K (a.put o.dst (.slice a' n' c')) w') :
    if Region.wanted o (yielded ops a.tmps) = true then Oper.wp P o a w K Q else E := by
  have hw : Region.wanted o (yielded ops a.tmps) = true := by simp [Region.wanted, hgd]
  rw [if_pos hw]
  refine wp_append_own w s x t ho base e i z size bytes ht hi hz hsize hby hzs hsz v n xs hs hown ad m c news hx hl hnews h1 h63 hbytes hbase ?_
  intro v' w' h2 h3 _
  obtain ⟨a', n', c', rfl⟩ : ∃ a n c, v' = .slice a n c := by
    rcases h2.2 with ⟨rfl, _⟩ | ⟨g, cap, cur, rfl, _⟩
    · exact ⟨_, _, _, rfl⟩
    · exact ⟨_, _, _, rfl⟩
  exact h a' n' c' w' h2 h3

theorem getD_without {α : Type} (l : List α) (k i : Nat) (hk : k < l.length) (d : α) : (l.take k ++ l.drop (k + 1)).getD i d = l.getD (if i < k then i else i + 1) d := by
  have hl : (l.take k).length = k := by rw [List.length_take]; omega
  by_cases h : i < k
  · rw [if_pos h]
    simp [List.getD, List.getElem?_append_left (show i < (l.take k).length by omega), List.getElem?_take, h]
  · rw [if_neg h]
    simp only [List.getD]
    rw [List.getElem?_append_right (by omega), hl, List.getElem?_drop]
    congr 2
    omega
end Ns
end Go.Proofs.YtdldgefahgojaakDoor

/- Contracts of errors.As at an api.Errno, of plain.Told, and of fairsame.Error. After the kit's worked text on errors.As (Toyas), turned to a target of an integer type. -/
namespace Go.Proofs.YtdldgefahgojaakDoor
namespace Fr
open Go.RowKit Go.Extern.Stop Go.Stop Go.Extern
set_option linter.unusedSimpArgs false
set_option linter.unusedVariables false

/-- what package errors' variable errorType holds -/
def handleV : Value := .iface 106 (.agg #[.pointer (some ⟨1, 24, none⟩)])

theorem valueOfT (t : Addr) (w : World) : (ReflectliteValue.unpack (.iface 84 (.pointer (some t)))).run Tryd.prog w
    = .ok (.agg #[.pointer (some ⟨1, 84, none⟩), .pointer (some ⟨w.heap.size, 0, none⟩), .int .u64 150]) (w.alloc (.cells #[.pointer (some t)] 84)) := by kernel_rfl
theorem typeT (a : Addr) (w : World) : (ReflectliteValue.methodAny (ReflectliteValue.valueError "reflectlite.Value.Type" 0) (fun t _ _ _ => ReflectliteType.toType t) #[.agg #[.pointer (some ⟨1, 84, none⟩), .pointer (some a), .int .u64 150]]).run Tryd.prog w
    = .ok (.iface 106 (.agg #[.pointer (some ⟨1, 84, none⟩)])) w := by kernel_rfl
theorem methodKind (h : Value) (w : World) : (Go.method 271 106 (.agg #[h]) "Kind").run Tryd.prog w = .ok (97, h) w := by kernel_rfl
theorem kindT (w : World) : ((ReflectliteType.abiMethod fun t => Functor.map (fun a : Nat => Value.int IntKind.u8 (a : Int)) (Rtype.kind t)) #[.pointer (some ⟨1, 84, none⟩)]).run Tryd.prog w = .ok (.int .u8 22) w := by kernel_rfl
theorem kindE (w : World) : ((ReflectliteType.abiMethod fun t => Functor.map (fun a : Nat => Value.int IntKind.u8 (a : Int)) (Rtype.kind t)) #[.pointer (some ⟨1, 61, none⟩)]).run Tryd.prog w = .ok (.int .u8 2) w := by kernel_rfl

/-- a method of a Value first takes the Value apart -/
theorem method_shape (z : Sem Value) (f : TypeId → Addr → Nat → Nat → Sem Value) : ∃ g : Option (TypeId × Addr × Nat) → Sem Value,
    (∀ v, ReflectliteValue.method z f #[v] = (ReflectliteValue.parts v >>= g)) ∧ ∀ t a fl, g (some (t, a, fl)) = f t a fl (fl % 32) :=
  ⟨_, fun _ => rfl, fun _ _ _ => rfl⟩
theorem partsT (a : Addr) (w : World) : (ReflectliteValue.parts (.agg #[.pointer (some ⟨1, 84, none⟩), .pointer (some a), .int .u64 150])).run Tryd.prog w = .ok (some (84, a, 150)) w := by kernel_rfl
theorem isNilT (a p : Addr) (W : World) (ha : W.cell? a = some (.pointer (some p))) :
    (ReflectliteValue.method (ReflectliteValue.valueError "reflectlite.Value.IsNil" 0) ReflectliteValue.isNil #[.agg #[.pointer (some ⟨1, 84, none⟩), .pointer (some a), .int .u64 150]]).run Tryd.prog W = .ok (.bool false) W := by
  obtain ⟨g, h1, h2⟩ := method_shape _ _
  rw [h1]
  simp only [Sem.run_bind, partsT, Result.andThen, h2]
  simp [ReflectliteValue.isNil, loadVar, isAgg, underlying, Tryd.underlying84, ha, Result.andThen]

theorem methodElem (h : Value) (w : World) : (Go.method 271 106 (.agg #[h]) "Elem").run Tryd.prog w = .ok (107, .agg #[h]) w := by kernel_rfl
theorem methodImplements (h : Value) (w : World) : (Go.method 271 106 (.agg #[h]) "Implements").run Tryd.prog w = .ok (108, .agg #[h]) w := by kernel_rfl
theorem methodAssignableTo (h : Value) (w : World) : (Go.method 271 106 (.agg #[h]) "AssignableTo").run Tryd.prog w = .ok (105, .agg #[h]) w := by kernel_rfl
theorem elemT (w : World) : (ReflectliteType.method ReflectliteType.elem #[.agg #[.pointer (some ⟨1, 84, none⟩)]]).run Tryd.prog w = .ok (.iface 106 (.agg #[.pointer (some ⟨1, 61, none⟩)])) w := by kernel_rfl
theorem implementsE (w : World) : (ReflectliteType.relation "Implements" ReflectliteType.implements_ #[.agg #[.pointer (some ⟨1, 61, none⟩)], .iface 106 (.agg #[.pointer (some ⟨1, 24, none⟩)])]).run Tryd.prog w = .ok (.bool true) w := by kernel_rfl
theorem typeOfE (v : Value) (w : World) : (ReflectliteType.typeOf #[.iface 61 v]).run Tryd.prog w = .ok (.iface 106 (.agg #[.pointer (some ⟨1, 61, none⟩)])) w := by kernel_rfl
theorem assignableE (w : World) : (ReflectliteType.relation "AssignableTo" ReflectliteType.assignableTo #[.agg #[.pointer (some ⟨1, 61, none⟩)], .iface 106 (.agg #[.pointer (some ⟨1, 61, none⟩)])]).run Tryd.prog w = .ok (.bool true) w := by kernel_rfl
theorem valueOfE (k : Int) (w : World) : (ReflectliteValue.unpack (.iface 61 (.int .i64 k))).run Tryd.prog w
    = .ok (.agg #[.pointer (some ⟨1, 61, none⟩), .pointer (some ⟨w.heap.size, 0, none⟩), .int .u64 130]) (w.alloc (.cells #[.int .i64 k] 61)) := by kernel_rfl

theorem elemOfT (w : World) : (Rtype.elem? 84).run Tryd.prog w = .ok (some 61) w := by kernel_rfl
theorem mkE (p : Addr) (w : World) : (ReflectliteValue.mk 61 p ReflectliteValue.flagAddr).run Tryd.prog w = .ok (.agg #[.pointer (some ⟨1, 61, none⟩), .pointer (some p), .int .u64 386]) w := by kernel_rfl
theorem elemVT (a p : Addr) (W : World) (ha : W.cell? a = some (.pointer (some p))) :
    (ReflectliteValue.method (ReflectliteValue.valueError "reflectlite.Value.Elem" 0) ReflectliteValue.elem #[.agg #[.pointer (some ⟨1, 84, none⟩), .pointer (some a), .int .u64 150]]).run Tryd.prog W
      = .ok (.agg #[.pointer (some ⟨1, 61, none⟩), .pointer (some p), .int .u64 386]) W := by
  obtain ⟨g, h1, h2⟩ := method_shape _ _
  rw [h1]
  simp only [Sem.run_bind, partsT, Result.andThen, h2]
  simp [ReflectliteValue.elem, loadVar, isAgg, underlying, Tryd.underlying84, ha, Result.andThen, elemOfT, mkE]
theorem partsEa (a : Addr) (w : World) : (ReflectliteValue.parts (.agg #[.pointer (some ⟨1, 61, none⟩), .pointer (some a), .int .u64 386])).run Tryd.prog w = .ok (some (61, a, 386)) w := by kernel_rfl
theorem partsE (a : Addr) (w : World) : (ReflectliteValue.parts (.agg #[.pointer (some ⟨1, 61, none⟩), .pointer (some a), .int .u64 130])).run Tryd.prog w = .ok (some (61, a, 130)) w := by kernel_rfl
theorem directE (w : World) : (Rtype.directlyAssignable 61 61).run Tryd.prog w = .ok true w := by kernel_rfl
/-- of two Values of api.Errno, the first one addressable: what the second one holds is read, whether it may be assigned is asked, then it is stored -/
theorem set_shape : ∃ (g : Option (TypeId × Addr × Nat) → Option (TypeId × Addr × Nat) → Sem Value) (h : Addr → Value → Bool → Sem Value),
    (∀ v x, ReflectliteValue.set #[v, x] = (ReflectliteValue.parts v >>= fun p => ReflectliteValue.parts x >>= fun q => g p q)) ∧
    (∀ a b, g (some (61, a, 386)) (some (61, b, 130)) = (loadVar 61 b >>= fun val => Rtype.directlyAssignable 61 61 >>= fun d => h a val d)) ∧
    ∀ a val, h a val true = (storeVar 61 a val >>= fun _ => pure (.tuple #[])) :=
  ⟨_, _, fun _ _ => rfl, fun _ _ => rfl, fun _ _ => rfl⟩
theorem setE (ta b : Addr) (k : Int) (old : Value) (W : World) (hb : W.cell? b = some (.int .i64 k)) (ht : W.cell? ta = some old) (hf : W.frozen? ta = false) :
    (ReflectliteValue.set #[.agg #[.pointer (some ⟨1, 61, none⟩), .pointer (some ta), .int .u64 386], .agg #[.pointer (some ⟨1, 61, none⟩), .pointer (some b), .int .u64 130]]).run Tryd.prog W
      = .ok (.tuple #[]) (W.setCell ta (.int .i64 k)) := by
  obtain ⟨g, h, h1, h2, h3⟩ := set_shape
  rw [h1]
  simp only [Sem.run_bind, partsEa, partsE, Result.andThen, h2]
  simp [loadVar, isAgg, underlying, Tryd.underlying61, hb, Result.andThen, directE, h3, storeVar, Value.cells, storeCells, Addr.add]
  rw [run_store Tryd.prog W ta _ _ (by rfl)]
  simp [ht, hf]
end Fr
end Go.Proofs.YtdldgefahgojaakDoor

/- The law LogKeeps: what was done is written down. -/
namespace Go.Proofs.YtdldgefahgojaakDoor
namespace Ev
open Go.RowKit Fr Ns Ld Fl
set_option linter.unusedSimpArgs false
set_option linter.unusedVariables false

section
variable {X : LogFace} {w : World} {caps : List Int} {paths : List (List Int)} {drops syncs fails keeps : List Int} {a0 a1 a2 a3 a4 a5 : Option Addr} {c0 c1 c2 c3 c4 c5 : Nat} {aj : Addr} {dv mv : Value} {t r k m : Nat} {s : LogS} {dn : List Flows} {mk : List Nat} {a : Act} {u : World}
set_option maxRecDepth 100000 in
set_option maxHeartbeats 8000000 in
theorem lk_nil {nx : Nat} {kk : Int} {bv : Value} (ha : Slots 397 (lkB a0 a1 a2 a3 a4 a5 caps.length paths.length drops.length syncs.length fails.length keeps.length c0 c1 c2 c3 c4 c5 aj dv mv t r [(29, .int .i64 k), (31, .pointer (some ⟨nx, 0, none⟩)), (33, bv), (34, errV kk)]) a) :
    Lk [1, 1, 1, 1, 1, 1, 1, 1, 1, 1, 1, 1, 1, 1, 1, 1, 1, 0, 1, 0, 0, 1, 0, 0, 1, 0, 1, 0, 0, 1, 0, 0, 1, 1, 1, 1, 1, 1, 1, 1, 1, 1, 1, 0, 0] (fun a' u' => ∃ b : Bool, Slots 397 (lkB a0 a1 a2 a3 a4 a5 caps.length paths.length drops.length syncs.length fails.length keeps.length c0 c1 c2 c3 c4 c5 aj dv mv t r [(29, .int .i64 k), (31, .pointer (some ⟨nx, 0, none⟩)), (33, bv), (34, errV kk), (261, .bool b)]) a' ∧ u' = u ∧ (b = true ↔ kk = 0)) a u := by
  by_cases h0 : kk = 0
  · subst h0
    rw [errV_0] at *
    refine Thru.mk fun J K hJ hK => ?_
    obtain ⟨Y, rfl, hY⟩ := ha.lay
    obtain ⟨e0, e1, e2, e3, e4, e5, e6, e7, e8, e9, e10, e11, e12, e13, e14, -⟩ := hY
    rw [range_lk]
    simp only [e0, e1, e2, e3, e4, e5, e6, e7, e8, e9, e10, e11, e12, e13, e14]
    clear ha e0 e1 e2 e3 e4 e5 e6 e7 e8 e9 e10 e11 e12 e13 e14
    conv => arg 2; whnf
    go_wp2
    refine Met.intro (hJ _ _ ?_)
    exact ⟨true, ⟨rfl, by kernel_rfl, has_cons rfl (has_cons rfl (has_cons rfl (has_cons rfl (has_cons rfl (has_cons rfl (has_cons rfl (has_cons rfl (has_cons rfl (has_cons rfl (has_cons rfl (has_cons rfl (has_cons rfl (has_cons rfl (has_cons rfl (has_cons rfl (has_nil))))))))))))))))⟩, rfl, by simp⟩
  · have HE : Hid (∀ b : Bool, b = false → (b = true ↔ kk = 0)) := fun b h => by subst h; simp [h0]
    rw [errV_ne h0] at *
    refine Thru.mk fun J K hJ hK => ?_
    obtain ⟨Y, rfl, hY⟩ := ha.lay
    obtain ⟨e0, e1, e2, e3, e4, e5, e6, e7, e8, e9, e10, e11, e12, e13, e14, -⟩ := hY
    rw [range_lk]
    simp only [e0, e1, e2, e3, e4, e5, e6, e7, e8, e9, e10, e11, e12, e13, e14]
    clear ha e0 e1 e2 e3 e4 e5 e6 e7 e8 e9 e10 e11 e12 e13 e14
    conv => arg 2; whnf
    go_wp2
    refine Met.intro (hJ _ _ ?_)
    exact ⟨false, ⟨rfl, by kernel_rfl, has_cons rfl (has_cons rfl (has_cons rfl (has_cons rfl (has_cons rfl (has_cons rfl (has_cons rfl (has_cons rfl (has_cons rfl (has_cons rfl (has_cons rfl (has_cons rfl (has_cons rfl (has_cons rfl (has_cons rfl (has_cons rfl (has_nil))))))))))))))))⟩, rfl, HE.out _ rfl⟩
set_option maxRecDepth 100000 in
set_option maxHeartbeats 8000000 in
theorem lk_more {nx n0 : Nat} {ev pv : Value} {g : Flows} (hB : LBytesSaid X) (hm : m ≤ 1000) (hn : n0 + 2 ≤ s.bytes) (ha : Slots 397 (lkB a0 a1 a2 a3 a4 a5 caps.length paths.length drops.length syncs.length fails.length keeps.length c0 c1 c2 c3 c4 c5 aj dv mv t r [(29, .int .i64 k), (31, .pointer (some ⟨nx, 0, none⟩)), (33, .int .i64 n0), (34, ev)]) a) (hk : KeepsE X w aj (.slice a0 caps.length c0) m s dv mv dn mk [(nx, pv, g)] u) :
    Lk [1, 1, 1, 1, 1, 1, 1, 1, 1, 1, 1, 1, 1, 1, 1, 1, 1, 0, 1, 0, 0, 1, 0, 0, 1, 0, 1, 0, 0, 1, 0, 0, 1, 1, 1, 1, 1, 1, 1, 1, 1, 1, 1, 0, 1, 0, 0] (fun a' u' => Slots 397 (lkB a0 a1 a2 a3 a4 a5 caps.length paths.length drops.length syncs.length fails.length keeps.length c0 c1 c2 c3 c4 c5 aj dv mv t r [(29, .int .i64 k), (31, .pointer (some ⟨nx, 0, none⟩))]) a' ∧ KeepsE X w aj (.slice a0 caps.length c0) m s dv mv dn mk [(nx, pv, g)] u') a u := by
  have hbl := hk.ok.bytes_le
  have hfe := hk.few
  have HB : Hid (Calls Tryd.prog 9 #[.pointer (some aj)] u fun e w' => e = .returned (.int .i64 s.bytes) ∧ Hid (KeepsE X w aj (.slice a0 caps.length c0) m s dv mv dn mk [(nx, pv, g)] w')) := by
    refine (k_bytes hB hk hm).mono ?_
    rintro e w' ⟨he, n, rfl⟩
    exact ⟨he, hk.later (below_drewN (Below.refl _ _) _)⟩
  have hw : IntKind.i64.wrap ((n0 : Int) + 2) = (n0 : Int) + 2 := by rw [IntKind.wrap_i64]; omega
  have hlt : ¬ (s.bytes : Int) < (n0 : Int) + 2 := by omega
  clear hk hB hbl hfe hn
  generalize (s.bytes : Int) = sb at *
  refine Thru.mk fun J K hJ hK => ?_
  obtain ⟨Y, rfl, hY⟩ := ha.lay
  obtain ⟨e0, e1, e2, e3, e4, e5, e6, e7, e8, e9, e10, e11, e12, e13, e14, -⟩ := hY
  rw [range_lk]
  simp only [e0, e1, e2, e3, e4, e5, e6, e7, e8, e9, e10, e11, e12, e13, e14]
  clear ha e0 e1 e2 e3 e4 e5 e6 e7 e8 e9 e10 e11 e12 e13 e14
  conv => arg 2; whnf
  go_wp2_with fail
  refine HB.out.mono ?_
  rintro e w1 ⟨rfl, hk⟩
  clear HB
  go_wp2
  refine Met.intro (hJ _ _ ?_)
  exact ⟨⟨rfl, by kernel_rfl, has_cons rfl (has_cons rfl (has_cons rfl (has_cons rfl (has_cons rfl (has_cons rfl (has_cons rfl (has_cons rfl (has_cons rfl (has_cons rfl (has_cons rfl (has_cons rfl (has_cons rfl (has_nil)))))))))))))⟩, hk.out⟩
theorem infoNet : (Tryd.prog.info? 45).map (fun i => (i.zero, i.size, i.bytes)) = some (some (.agg #[.slice none 0 0, .slice none 0 0]), 2, 48) := by kernel_rfl
theorem two_new (w : World) (x y : Value) (T : TypeId) (g : Nat) (hg : g = w.heap.size) : ∀ j u, [x, y][j]? = some u → (w.alloc (.cells #[x, y] T)).cell? ((⟨g, 0, none⟩ : Addr).add j) = some u := by
  subst hg
  intro j u hj
  rw [add_addr]
  match j, hj with
  | 0, hj => simp at hj; subst hj; go_simp
  | 1, hj => simp at hj; subst hj; go_simp
set_option maxRecDepth 100000 in
set_option maxHeartbeats 8000000 in
theorem lk_done {nx : Nat} {pv : Value} {g : Flows} (hdm : dn.length ≤ 1000) (ha : Slots 397 (lkB a0 a1 a2 a3 a4 a5 caps.length paths.length drops.length syncs.length fails.length keeps.length c0 c1 c2 c3 c4 c5 aj dv mv t r [(29, .int .i64 k), (31, .pointer (some ⟨nx, 0, none⟩))]) a) (hk : KeepsE X w aj (.slice a0 caps.length c0) m s dv mv dn mk [(nx, pv, g)] u) :
    Lk [1, 1, 1, 1, 1, 1, 1, 1, 1, 1, 1, 1, 1, 1, 1, 1, 1, 0, 1, 0, 0, 1, 0, 0, 1, 0, 1, 0, 0, 1, 0, 0, 1, 1, 1, 1, 1, 1, 1, 1, 1, 1, 1, 0, 1, 0, 1, 0] (fun a' u' => ∃ dv', Slots 397 (lkB a0 a1 a2 a3 a4 a5 caps.length paths.length drops.length syncs.length fails.length keeps.length c0 c1 c2 c3 c4 c5 aj dv' mv t r [(29, .int .i64 k)]) a' ∧ KeepsE X w aj (.slice a0 caps.length c0) m s dv' mv (dn ++ [g]) mk [] u') a u := by
  obtain ⟨F, hK⟩ := hk
  obtain ⟨e1, e2, e3⟩ := hK.exs (nx, pv, g) (by simp)
  have q1 := e1.cell (i := 0) rfl
  have q2 := e1.cell (i := 1) rfl
  obtain ⟨ps, p1, p2, p3⟩ := hK.nets
  have hs := hK.below.size
  have HO : Hid (u.ownsRow w.heap.size 45 2 dv dn.length (netCells (.slice a0 caps.length c0) ps)) := p2
  obtain ⟨ap, cp, e4, _⟩ := id e3
  simp only at e4 q1 q2 e3
  have HK : Hid (∀ (v' : Value) (w1 : World), w1.ownsRow w.heap.size 45 2 v' (dn.length + 1) (netCells (.slice a0 caps.length c0) ps ++ [(.slice a0 caps.length c0), pv]) → (u.alloc (.cells #[(.slice a0 caps.length c0), pv] 45)).grownBy w1 dv.ownBlock → (v'.ownBlock = dv.ownBlock ∨ v'.ownBlock = some (u.heap.size + 1)) → KeepsE X w aj (.slice a0 caps.length c0) m s v' mv (dn ++ [g]) mk [] w1) := fun v' w1 ho hg hat => by
    have : KeepsE X w aj (.slice a0 caps.length c0) m s v' mv (dn ++ [g]) mk [(nx, pv, g)] w1 := ⟨F, hK.snocD p1 p2 p3 e3 ho hg (by simpa using hat)⟩
    exact this.less
  subst e4
  obtain ⟨i0, hi, hz0, hz1, hz2⟩ := info_parts infoNet
  clear hK e1 e2 e3 p1 p2 p3
  refine Thru.mk fun J K hJ hK => ?_
  obtain ⟨Y, rfl, hY⟩ := ha.lay
  obtain ⟨e0, e1, e2, e3, e4, e5, e6, e7, e8, e9, e10, e11, e12, -⟩ := hY
  rw [range_lk]
  simp only [e0, e1, e2, e3, e4, e5, e6, e7, e8, e9, e10, e11, e12]
  clear ha e0 e1 e2 e3 e4 e5 e6 e7 e8 e9 e10 e11 e12
  conv => arg 2; whnf
  go_wp2_with (at_builtin; go_must (refine wpList_append_own_at _ rfl (.tmp 267) (.tmp 269) 46 rfl w.heap.size 45 i0 (.agg #[.slice none 0 0, .slice none 0 0]) 2 48 Tryd.underlying46 hi hz0 hz1 hz2 rfl (by decide) _ _ _ rfl (HO.out.alloc _) ⟨_, 0, none⟩ 1 1 [(.slice a0 caps.length c0), .slice ap g.length cp] rfl rfl (two_new _ _ _ _ _ rfl) (by intro u hu; simp at hu; rcases hu with rfl | rfl <;> rfl) (by unfold maxLen; omega) (by omega) (by simp; omega) ?_))
  intro v' w1 hown hgrow hnil hat
  have K1 : Hid (KeepsE X w aj (.slice a0 caps.length c0) m s v' mv (dn ++ [g]) mk [] w1) := HK.out v' w1 hown hgrow hat
  clear HK HO hown hgrow hnil hat
  go_wp2
  refine Met.intro (hJ _ _ ?_)
  exact ⟨v', ⟨rfl, by kernel_rfl, has_cons rfl (has_cons rfl (has_cons rfl (has_cons rfl (has_cons rfl (has_cons rfl (has_cons rfl (has_cons rfl (has_cons rfl (has_cons rfl (has_cons rfl (has_cons rfl (has_nil))))))))))))⟩, K1.out⟩
set_option maxRecDepth 100000 in
set_option maxHeartbeats 8000000 in
theorem lk_marks (hB : LBytesSaid X) (hm : m ≤ 1000) (hmk : mk.length ≤ 1000) (ha : Slots 397 (lkB a0 a1 a2 a3 a4 a5 caps.length paths.length drops.length syncs.length fails.length keeps.length c0 c1 c2 c3 c4 c5 aj dv mv t r [(29, .int .i64 k)]) a) (hk : KeepsE X w aj (.slice a0 caps.length c0) m s dv mv dn mk [] u) :
    Lk [1, 1, 1, 1, 1, 1, 1, 1, 1, 1, 1, 1, 1, 1, 1, 1, 1, 0, 1, 0, 0, 1, 0, 0, 1, 0, 1, 0, 0, 1, 0, 0, 1, 1, 1, 1, 1, 1, 1, 1, 1, 1, 1, 0, 1, 0, 1, 1] (fun a' u' => ∃ mv', Slots 397 (lkB a0 a1 a2 a3 a4 a5 caps.length paths.length drops.length syncs.length fails.length keeps.length c0 c1 c2 c3 c4 c5 aj dv mv' t r [(29, .int .i64 k)]) a' ∧ KeepsE X w aj (.slice a0 caps.length c0) m s dv mv' dn (mk ++ [s.bytes]) [] u') a u := by
  have HB : Hid (Calls Tryd.prog 9 #[.pointer (some aj)] u fun e w' => e = .returned (.int .i64 s.bytes) ∧ Hid (KeepsE X w aj (.slice a0 caps.length c0) m s dv mv dn mk [] w')) := by
    refine (k_bytes hB hk hm).mono ?_
    rintro e w' ⟨he, n, rfl⟩
    exact ⟨he, hk.later (below_drewN (Below.refl _ _) _)⟩
  have HU : Hid (∀ u : World, KeepsE X w aj (.slice a0 caps.length c0) m s dv mv dn mk [] u → w.heap.size ≤ u.heap.size ∧ u.ownsRow w.heap.size 3 1 mv mk.length (mk.map fun n : Nat => Value.int .i64 n) ∧ ∀ (v' : Value) (w1 : World), w1.ownsRow w.heap.size 3 1 v' (mk.length + 1) ((mk.map fun n : Nat => Value.int .i64 n) ++ [.int .i64 s.bytes]) → (u.alloc (.cells #[.int .i64 s.bytes] 3)).grownBy w1 mv.ownBlock → (v'.ownBlock = mv.ownBlock ∨ v'.ownBlock = some (u.heap.size + 1)) → KeepsE X w aj (.slice a0 caps.length c0) m s dv v' dn (mk ++ [s.bytes]) [] w1) := fun u h => by
    obtain ⟨F, hK⟩ := h
    exact ⟨hK.below.size, hK.marks, fun v' w1 ho hg hat => ⟨F, hK.snocM ho hg (by simpa using hat)⟩⟩
  obtain ⟨i0, hi, hz0, hz1, hz2⟩ := info_parts infoInt
  clear hk hB
  refine Thru.mk fun J K hJ hK => ?_
  obtain ⟨Y, rfl, hY⟩ := ha.lay
  obtain ⟨e0, e1, e2, e3, e4, e5, e6, e7, e8, e9, e10, e11, -⟩ := hY
  rw [range_lk]
  simp only [e0, e1, e2, e3, e4, e5, e6, e7, e8, e9, e10, e11]
  clear ha e0 e1 e2 e3 e4 e5 e6 e7 e8 e9 e10 e11
  conv => arg 2; whnf
  go_wp2_with fail
  refine HB.out.mono ?_
  rintro e w1 ⟨rfl, hk⟩
  clear HB
  obtain ⟨hs, ho, hsn⟩ := HU.out _ hk.out
  have HO : Hid (w1.ownsRow w.heap.size 3 1 mv mk.length (mk.map fun n : Nat => Value.int .i64 n)) := ho
  have HS : Hid (∀ (v' : Value) (w2 : World), _) := hsn
  clear ho hsn HU hk
  go_wp2_with (at_builtin; go_must (refine wpList_append_own_at _ rfl (.tmp 271) (.tmp 274) 27 rfl w.heap.size 3 i0 (.int .i64 0) 1 8 Tryd.underlying27 hi hz0 hz1 hz2 rfl (by decide) _ _ _ rfl (HO.out.alloc _) ⟨_, 0, none⟩ 1 1 [.int .i64 s.bytes] rfl rfl (cell_one_new _ _ _) (by intro u hu; simp at hu; subst hu; rfl) (by unfold maxLen; omega) (by omega) (by simp; omega) ?_))
  intro v' w2 hown hgrow hnil hat
  have K1 : Hid (KeepsE X w aj (.slice a0 caps.length c0) m s dv v' dn (mk ++ [s.bytes]) [] w2) := HS.out v' w2 hown hgrow hat
  clear HS HO hown hgrow hnil hat
  go_wp2
  refine Met.intro (hJ _ _ ?_)
  exact ⟨v', ⟨rfl, by kernel_rfl, has_cons rfl (has_cons rfl (has_cons rfl (has_cons rfl (has_cons rfl (has_cons rfl (has_cons rfl (has_cons rfl (has_cons rfl (has_cons rfl (has_cons rfl (has_cons rfl (has_nil))))))))))))⟩, K1.out⟩
end
end Ev
end Go.Proofs.YtdldgefahgojaakDoor

/- The law LogKeeps: Fail, and the rows of the loops themselves. -/
namespace Go.Proofs.YtdldgefahgojaakDoor
namespace Ev
open Go.RowKit Fr Ns Ld Fl
set_option linter.unusedSimpArgs false
set_option linter.unusedVariables false

section
variable {X : LogFace} {w : World} {caps : List Int} {paths : List (List Int)} {drops syncs fails keeps : List Int} {a0 a1 a2 a3 a4 a5 : Option Addr} {c0 c1 c2 c3 c4 c5 : Nat} {aj : Addr} {dv mv : Value} {t r k m : Nat} {s : LogS} {dn : List Flows} {mk : List Nat} {a : Act} {u : World}
set_option maxRecDepth 100000 in
set_option maxHeartbeats 8000000 in
theorem lk_fail (hF : LFailSaid X) (hfr : ∀ x ∈ fails, x ≤ 9223372036854775807) (hv4 : IntsAt (fun b => b < w.heap.size) w (.slice a4 fails.length c4) fails) (hm : m ≤ 1000) (hs : s.stopped = false) (ha : Slots 397 (lkB a0 a1 a2 a3 a4 a5 caps.length paths.length drops.length syncs.length fails.length keeps.length c0 c1 c2 c3 c4 c5 aj dv mv t r []) a) (hk : KeepsE X w aj (.slice a0 caps.length c0) m s dv mv dn mk [] u) :
    Lk [1, 1, 1, 1, 1, 1, 1, 1, 1, 1, 1, 1, 1, 1, 1, 1, 1, 0, 1, 0, 0, 1, 0, 0, 0] (fun a' u' => ∃ s', Slots 397 (lkB a0 a1 a2 a3 a4 a5 caps.length paths.length drops.length syncs.length fails.length keeps.length c0 c1 c2 c3 c4 c5 aj dv mv t r []) a' ∧ KeepsE X w aj (.slice a0 caps.length c0) m s' dv mv dn mk [] u' ∧ s'.done = s.done ∧ s'.marks = s.marks ∧ s'.caps = s.caps) a u := by
  have KK : Hid (KeepsE X w aj (.slice a0 caps.length c0) m s dv mv dn mk [] u) := hk
  by_cases h1 : r < fails.length
  · obtain ⟨b, off, rfl, hc⟩ := ints_cells hv4 r h1
    have cc := hc u hk.below
    have h1' : (r : Int) < fails.length := by omega
    have HB : Hid (Calls Tryd.prog 16 #[.pointer (some aj), .int .i64 (fails.getD r 0)] u fun e w' => e = .returned (.tuple #[]) ∧ Hid (KeepsE X w aj (.slice a0 caps.length c0) m (failS s (fails.getD r 0)) dv mv dn mk [] w')) := k_fail hF _ hk hm hs (hfr _ (getD_mem fails r h1 0))
    have HE : Hid ((failS s (fails.getD r 0)).done = s.done ∧ (failS s (fails.getD r 0)).marks = s.marks ∧ (failS s (fails.getD r 0)).caps = s.caps) := ⟨rfl, rfl, rfl⟩
    generalize fails.getD r 0 = z at *
    clear hc hv4 h1 hk KK hs hF
    refine Thru.mk fun J K hJ hK => ?_
    obtain ⟨Y, rfl, hY⟩ := ha.lay
    obtain ⟨e0, e1, e2, e3, e4, e5, e6, e7, e8, e9, e10, -⟩ := hY
    rw [range_lk]
    simp only [e0, e1, e2, e3, e4, e5, e6, e7, e8, e9, e10]
    clear ha e0 e1 e2 e3 e4 e5 e6 e7 e8 e9 e10
    conv => arg 2; whnf
    go_wp2_with fail
    refine HB.out.mono ?_
    rintro e w1 ⟨rfl, hk⟩
    clear HB
    go_wp2
    refine Met.intro (hJ _ _ ?_)
    exact ⟨_, ⟨rfl, by kernel_rfl, has_cons rfl (has_cons rfl (has_cons rfl (has_cons rfl (has_cons rfl (has_cons rfl (has_cons rfl (has_cons rfl (has_cons rfl (has_cons rfl (has_cons rfl (has_nil)))))))))))⟩, hk.out, HE.out⟩
  · have h1' : ¬ (r : Int) < fails.length := by omega
    clear hv4 h1 hk hs hF
    refine Thru.mk fun J K hJ hK => ?_
    obtain ⟨Y, rfl, hY⟩ := ha.lay
    obtain ⟨e0, e1, e2, e3, e4, e5, e6, e7, e8, e9, e10, -⟩ := hY
    rw [range_lk]
    simp only [e0, e1, e2, e3, e4, e5, e6, e7, e8, e9, e10]
    clear ha e0 e1 e2 e3 e4 e5 e6 e7 e8 e9 e10
    conv => arg 2; whnf
    go_wp2
    refine Met.intro (hJ _ _ ?_)
    exact ⟨s, ⟨rfl, by kernel_rfl, has_cons rfl (has_cons rfl (has_cons rfl (has_cons rfl (has_cons rfl (has_cons rfl (has_cons rfl (has_cons rfl (has_cons rfl (has_cons rfl (has_cons rfl (has_nil)))))))))))⟩, KK.out, rfl, rfl, rfl⟩
set_option maxRecDepth 100000 in
set_option maxHeartbeats 8000000 in
theorem lk_k0 (ha : Slots 397 (lkB a0 a1 a2 a3 a4 a5 caps.length paths.length drops.length syncs.length fails.length keeps.length c0 c1 c2 c3 c4 c5 aj dv mv t r []) a) :
    Lk [1, 1, 1, 1, 1, 1, 1, 1, 1, 1, 1, 1, 1, 1, 1, 1, 1, 0, 1, 0, 0, 1, 0, 0, 1, 0, 0] (fun a' u' => Slots 397 (lkB a0 a1 a2 a3 a4 a5 caps.length paths.length drops.length syncs.length fails.length keeps.length c0 c1 c2 c3 c4 c5 aj dv mv t r [(29, .int .i64 0)]) a' ∧ u' = u) a u := by
  refine Thru.mk fun J K hJ hK => ?_
  obtain ⟨Y, rfl, hY⟩ := ha.lay
  obtain ⟨e0, e1, e2, e3, e4, e5, e6, e7, e8, e9, e10, -⟩ := hY
  rw [range_lk]
  simp only [e0, e1, e2, e3, e4, e5, e6, e7, e8, e9, e10]
  clear ha e0 e1 e2 e3 e4 e5 e6 e7 e8 e9 e10
  conv => arg 2; whnf
  go_wp2
  refine Met.intro (hJ _ _ ?_)
  exact ⟨⟨rfl, by kernel_rfl, has_cons rfl (has_cons rfl (has_cons rfl (has_cons rfl (has_cons rfl (has_cons rfl (has_cons rfl (has_cons rfl (has_cons rfl (has_cons rfl (has_cons rfl (has_cons rfl (has_nil))))))))))))⟩, rfl⟩
set_option maxRecDepth 100000 in
set_option maxHeartbeats 8000000 in
theorem lk_in2 (hk : k < 10) (ht : t < paths.length) (ha : Slots 397 (lkB a0 a1 a2 a3 a4 a5 caps.length paths.length drops.length syncs.length fails.length keeps.length c0 c1 c2 c3 c4 c5 aj dv mv t r [(29, .int .i64 k)]) a) :
    Lk [1, 1, 1, 1, 1, 1, 1, 1, 1, 1, 1, 1, 1, 1, 1, 1, 1, 0, 1, 0, 0, 1, 0, 0, 1, 0, 1, 0, 0, 0] (fun a' u' => Slots 397 (lkB a0 a1 a2 a3 a4 a5 caps.length paths.length drops.length syncs.length fails.length keeps.length c0 c1 c2 c3 c4 c5 aj dv mv t r [(29, .int .i64 k)]) a' ∧ u' = u) a u := by
  have h1' : (k : Int) < 10 := by omega
  have h2' : (t : Int) < paths.length := by omega
  clear hk ht
  refine Thru.mk fun J K hJ hK => ?_
  obtain ⟨Y, rfl, hY⟩ := ha.lay
  obtain ⟨e0, e1, e2, e3, e4, e5, e6, e7, e8, e9, e10, e11, -⟩ := hY
  rw [range_lk]
  simp only [e0, e1, e2, e3, e4, e5, e6, e7, e8, e9, e10, e11]
  clear ha e0 e1 e2 e3 e4 e5 e6 e7 e8 e9 e10 e11
  conv => arg 2; whnf
  go_wp2
  refine Met.intro (hJ _ _ ?_)
  exact ⟨⟨rfl, by kernel_rfl, has_cons rfl (has_cons rfl (has_cons rfl (has_cons rfl (has_cons rfl (has_cons rfl (has_cons rfl (has_cons rfl (has_cons rfl (has_cons rfl (has_cons rfl (has_cons rfl (has_nil))))))))))))⟩, rfl⟩
set_option maxRecDepth 100000 in
set_option maxHeartbeats 8000000 in
theorem lk_out2 (h : ¬ (k < 10 ∧ t < paths.length)) (ha : Slots 397 (lkB a0 a1 a2 a3 a4 a5 caps.length paths.length drops.length syncs.length fails.length keeps.length c0 c1 c2 c3 c4 c5 aj dv mv t r [(29, .int .i64 k)]) a) :
    LkX [1, 1, 1, 1, 1, 1, 1, 1, 1, 1, 1, 1, 1, 1, 1, 1, 1, 0, 1, 0, 0, 1, 0, 0, 1, 0, 1, 0, 0, 0] 2 (fun a' u' => Slots 397 (lkB a0 a1 a2 a3 a4 a5 caps.length paths.length drops.length syncs.length fails.length keeps.length c0 c1 c2 c3 c4 c5 aj dv mv t r []) a' ∧ u' = u) a u := by
  by_cases h0 : k < 10
  · have h1' : (k : Int) < 10 := by omega
    have h2' : ¬ (t : Int) < paths.length := by omega
    clear h h0
    refine Outs.mk fun J K hJ hK => ?_
    obtain ⟨Y, rfl, hY⟩ := ha.lay
    obtain ⟨e0, e1, e2, e3, e4, e5, e6, e7, e8, e9, e10, e11, -⟩ := hY
    rw [range_lk]
    simp only [e0, e1, e2, e3, e4, e5, e6, e7, e8, e9, e10, e11]
    clear ha e0 e1 e2 e3 e4 e5 e6 e7 e8 e9 e10 e11
    conv => arg 2; whnf
    go_wp2
    refine Met.intro (hJ _ _ ?_)
    exact ⟨⟨rfl, by kernel_rfl, has_cons rfl (has_cons rfl (has_cons rfl (has_cons rfl (has_cons rfl (has_cons rfl (has_cons rfl (has_cons rfl (has_cons rfl (has_cons rfl (has_cons rfl (has_nil)))))))))))⟩, rfl⟩
  · have h1' : ¬ (k : Int) < 10 := by omega
    clear h h0
    refine Outs.mk fun J K hJ hK => ?_
    obtain ⟨Y, rfl, hY⟩ := ha.lay
    obtain ⟨e0, e1, e2, e3, e4, e5, e6, e7, e8, e9, e10, e11, -⟩ := hY
    rw [range_lk]
    simp only [e0, e1, e2, e3, e4, e5, e6, e7, e8, e9, e10, e11]
    clear ha e0 e1 e2 e3 e4 e5 e6 e7 e8 e9 e10 e11
    conv => arg 2; whnf
    go_wp2
    refine Met.intro (hJ _ _ ?_)
    exact ⟨⟨rfl, by kernel_rfl, has_cons rfl (has_cons rfl (has_cons rfl (has_cons rfl (has_cons rfl (has_cons rfl (has_cons rfl (has_cons rfl (has_cons rfl (has_cons rfl (has_cons rfl (has_nil)))))))))))⟩, rfl⟩
set_option maxRecDepth 100000 in
set_option maxHeartbeats 8000000 in
theorem lk_inc2 (hk : k < 10) (ha : Slots 397 (lkB a0 a1 a2 a3 a4 a5 caps.length paths.length drops.length syncs.length fails.length keeps.length c0 c1 c2 c3 c4 c5 aj dv mv t r [(29, .int .i64 k)]) a) :
    Lk [1, 1, 1, 1, 1, 1, 1, 1, 1, 1, 1, 1, 1, 1, 1, 1, 1, 0, 1, 0, 0, 1, 0, 0, 1, 0, 1, 0, 0, 1, 1] (fun a' u' => Slots 397 (lkB a0 a1 a2 a3 a4 a5 caps.length paths.length drops.length syncs.length fails.length keeps.length c0 c1 c2 c3 c4 c5 aj dv mv t r [(29, .int .i64 ((k + 1 : Nat)))]) a' ∧ u' = u) a u := by
  have hw : IntKind.i64.wrap ((k : Int) + 1) = (k : Int) + 1 := by rw [IntKind.wrap_i64]; omega
  clear hk
  refine Thru.mk fun J K hJ hK => ?_
  obtain ⟨Y, rfl, hY⟩ := ha.lay
  obtain ⟨e0, e1, e2, e3, e4, e5, e6, e7, e8, e9, e10, e11, -⟩ := hY
  rw [range_lk]
  simp only [e0, e1, e2, e3, e4, e5, e6, e7, e8, e9, e10, e11]
  clear ha e0 e1 e2 e3 e4 e5 e6 e7 e8 e9 e10 e11
  conv => arg 2; whnf
  go_wp2
  refine Met.intro (hJ _ _ ?_)
  exact ⟨⟨rfl, by kernel_rfl, has_cons rfl (has_cons rfl (has_cons rfl (has_cons rfl (has_cons rfl (has_cons rfl (has_cons rfl (has_cons rfl (has_cons rfl (has_cons rfl (has_cons rfl (has_cons rfl (has_nil))))))))))))⟩, rfl⟩
set_option maxRecDepth 100000 in
set_option maxHeartbeats 8000000 in
theorem lk_in1 (h1 : r ≤ fails.length) (h2 : r < 4) (ha : Slots 397 (lkB a0 a1 a2 a3 a4 a5 caps.length paths.length drops.length syncs.length fails.length keeps.length c0 c1 c2 c3 c4 c5 aj dv mv t r []) a) :
    Lk [1, 1, 1, 1, 1, 1, 1, 1, 1, 1, 1, 1, 1, 1, 1, 1, 1, 0, 1, 0, 0, 0] (fun a' u' => Slots 397 (lkB a0 a1 a2 a3 a4 a5 caps.length paths.length drops.length syncs.length fails.length keeps.length c0 c1 c2 c3 c4 c5 aj dv mv t r []) a' ∧ u' = u) a u := by
  have h1' : (r : Int) ≤ fails.length := by omega
  have h2' : (r : Int) < 4 := by omega
  clear h1 h2
  refine Thru.mk fun J K hJ hK => ?_
  obtain ⟨Y, rfl, hY⟩ := ha.lay
  obtain ⟨e0, e1, e2, e3, e4, e5, e6, e7, e8, e9, e10, -⟩ := hY
  rw [range_lk]
  simp only [e0, e1, e2, e3, e4, e5, e6, e7, e8, e9, e10]
  clear ha e0 e1 e2 e3 e4 e5 e6 e7 e8 e9 e10
  conv => arg 2; whnf
  go_wp2
  refine Met.intro (hJ _ _ ?_)
  exact ⟨⟨rfl, by kernel_rfl, has_cons rfl (has_cons rfl (has_cons rfl (has_cons rfl (has_cons rfl (has_cons rfl (has_cons rfl (has_cons rfl (has_cons rfl (has_cons rfl (has_cons rfl (has_nil)))))))))))⟩, rfl⟩
set_option maxRecDepth 100000 in
set_option maxHeartbeats 8000000 in
theorem lk_out1 (h : ¬ (r ≤ fails.length ∧ r < 4)) (ha : Slots 397 (lkB a0 a1 a2 a3 a4 a5 caps.length paths.length drops.length syncs.length fails.length keeps.length c0 c1 c2 c3 c4 c5 aj dv mv t r []) a) :
    LkX [1, 1, 1, 1, 1, 1, 1, 1, 1, 1, 1, 1, 1, 1, 1, 1, 1, 0, 1, 0, 0, 0] 0 (fun a' u' => Slots 397 (lkB a0 a1 a2 a3 a4 a5 caps.length paths.length drops.length syncs.length fails.length keeps.length c0 c1 c2 c3 c4 c5 aj dv mv t r []) a' ∧ u' = u) a u := by
  by_cases h0 : r ≤ fails.length
  · have h1' : (r : Int) ≤ fails.length := by omega
    have h2' : ¬ (r : Int) < 4 := by omega
    clear h h0
    refine Outs.mk fun J K hJ hK => ?_
    obtain ⟨Y, rfl, hY⟩ := ha.lay
    obtain ⟨e0, e1, e2, e3, e4, e5, e6, e7, e8, e9, e10, -⟩ := hY
    rw [range_lk]
    simp only [e0, e1, e2, e3, e4, e5, e6, e7, e8, e9, e10]
    clear ha e0 e1 e2 e3 e4 e5 e6 e7 e8 e9 e10
    conv => arg 2; whnf
    go_wp2
    refine Met.intro (hJ _ _ ?_)
    exact ⟨⟨rfl, by kernel_rfl, has_cons rfl (has_cons rfl (has_cons rfl (has_cons rfl (has_cons rfl (has_cons rfl (has_cons rfl (has_cons rfl (has_cons rfl (has_cons rfl (has_cons rfl (has_nil)))))))))))⟩, rfl⟩
  · have h1' : ¬ (r : Int) ≤ fails.length := by omega
    clear h h0
    refine Outs.mk fun J K hJ hK => ?_
    obtain ⟨Y, rfl, hY⟩ := ha.lay
    obtain ⟨e0, e1, e2, e3, e4, e5, e6, e7, e8, e9, e10, -⟩ := hY
    rw [range_lk]
    simp only [e0, e1, e2, e3, e4, e5, e6, e7, e8, e9, e10]
    clear ha e0 e1 e2 e3 e4 e5 e6 e7 e8 e9 e10
    conv => arg 2; whnf
    go_wp2
    refine Met.intro (hJ _ _ ?_)
    exact ⟨⟨rfl, by kernel_rfl, has_cons rfl (has_cons rfl (has_cons rfl (has_cons rfl (has_cons rfl (has_cons rfl (has_cons rfl (has_cons rfl (has_cons rfl (has_cons rfl (has_cons rfl (has_nil)))))))))))⟩, rfl⟩
set_option maxRecDepth 100000 in
set_option maxHeartbeats 8000000 in
theorem lk_inc1 (hk : r < 10) (ha : Slots 397 (lkB a0 a1 a2 a3 a4 a5 caps.length paths.length drops.length syncs.length fails.length keeps.length c0 c1 c2 c3 c4 c5 aj dv mv t r []) a) :
    Lk [1, 1, 1, 1, 1, 1, 1, 1, 1, 1, 1, 1, 1, 1, 1, 1, 1, 0, 1, 0, 0, 1, 1] (fun a' u' => Slots 397 (lkB a0 a1 a2 a3 a4 a5 caps.length paths.length drops.length syncs.length fails.length keeps.length c0 c1 c2 c3 c4 c5 aj dv mv t (r + 1) []) a' ∧ u' = u) a u := by
  have hw : IntKind.i64.wrap ((r : Int) + 1) = (r : Int) + 1 := by rw [IntKind.wrap_i64]; omega
  clear hk
  refine Thru.mk fun J K hJ hK => ?_
  obtain ⟨Y, rfl, hY⟩ := ha.lay
  obtain ⟨e0, e1, e2, e3, e4, e5, e6, e7, e8, e9, e10, -⟩ := hY
  rw [range_lk]
  simp only [e0, e1, e2, e3, e4, e5, e6, e7, e8, e9, e10]
  clear ha e0 e1 e2 e3 e4 e5 e6 e7 e8 e9 e10
  conv => arg 2; whnf
  go_wp2
  refine Met.intro (hJ _ _ ?_)
  exact ⟨⟨rfl, by kernel_rfl, has_cons rfl (has_cons rfl (has_cons rfl (has_cons rfl (has_cons rfl (has_cons rfl (has_cons rfl (has_cons rfl (has_cons rfl (has_cons rfl (has_cons rfl (has_nil)))))))))))⟩, rfl⟩
end
end Ev
end Go.Proofs.YtdldgefahgojaakDoor

/- What the law LogKeeps asks first, of one log; and how a law's log begins. No Go in it. -/
namespace Go.Proofs.YtdldgefahgojaakDoor.Ev
open Ns
set_option linter.unusedSimpArgs false
set_option linter.unusedVariables false

theorem fact_add1 (n : Nat) : addLE (log0 [8]) [0] = 0 ∧ addLS (log0 [8]) [0] n = ⟨[8], [[], [[0]]], [0, 0 + n], 0 + n, 0, -1, false⟩ := ⟨rfl, rfl⟩
theorem fact_sync (n : Nat) : syncE ⟨[8], [[], [[0]]], [0, 0 + n], 0 + n, 0, -1, false⟩ = 0 ∧ syncS ⟨[8], [[], [[0]]], [0, 0 + n], 0 + n, 0, -1, false⟩ = ⟨[8], [[], [[0]]], [0, 0 + n], 0 + n, 0 + n, -1, false⟩ := ⟨rfl, rfl⟩
theorem fact_add2 (n m : Nat) : addLE ⟨[8], [[], [[0]]], [0, 0 + n], 0 + n, 0 + n, -1, false⟩ [0] = 0 ∧ addLS ⟨[8], [[], [[0]]], [0, 0 + n], 0 + n, 0 + n, -1, false⟩ [0] m = ⟨[8], [[], [[0]], [[0], [0]]], [0, 0 + n, 0 + n + m], 0 + n + m, 0 + n, -1, false⟩ := ⟨rfl, rfl⟩
theorem fact_crash (n m : Nat) (hm : 2 ≤ m) : crashS ⟨[8], [[], [[0]], [[0], [0]]], [0, 0 + n, 0 + n + m], 0 + n + m, 0 + n, -1, false⟩ 0 = ⟨[8], [[], [[0]]], [0, 0 + n], 0 + n, 0 + n, -1, false⟩ := by
  have h1 : highN ⟨[8], [[], [[0]], [[0], [0]]], [0, 0 + n, 0 + n + m], 0 + n + m, 0 + n, -1, false⟩ 0 = 0 + n := rfl
  have h2 : leftN' [0, 0 + n, 0 + n + m] (0 + n) = 1 := by
    show leftK [0, 0 + n, 0 + n + m] (0 + n) 3 = 1
    rw [leftK, if_neg (by show ¬ 0 + n + m ≤ 0 + n; omega), leftK, if_pos (by show 0 + n ≤ 0 + n; omega)]
  unfold crashS
  rw [h1, h2]
  rfl
/-- the law's own reckoning of how much is left -/
theorem high_eq (s : LogS) (h : s.safe ≤ s.bytes) (keep : Int) : (highN s keep : Int) = if 0 < keep ∧ keep < (s.bytes : Int) - s.safe then s.safe + keep else if 0 < keep then (s.bytes : Int) else s.safe := by
  unfold highN
  by_cases h1 : keep ≤ 0
  · rw [if_pos h1, if_neg (by omega), if_neg (by omega)]
  · rw [if_neg h1]
    by_cases h2 : keep < (s.bytes : Int) - s.safe
    · rw [if_pos h2, if_pos (by omega)]; omega
    · rw [if_neg h2, if_neg (by omega), if_pos (by omega)]
theorem mono_marks {s : LogS} (h : LogOk s) : ∀ j, j < s.marks.length → ∀ i, i ≤ j → s.marks.getD i 0 ≤ s.marks.getD j 0 := by
  intro j
  induction j with
  | zero =>
    intro _ i hi
    obtain rfl : i = 0 := by omega
    exact Nat.le_refl _
  | succ j ih =>
    intro hj i hi
    by_cases e : i = j + 1
    · subst e; exact Nat.le_refl _
    · have := ih (by omega) i (by omega)
      have := h.rise j hj
      omega
theorem safe_le {s : LogS} (h : LogOk s) : s.safe ≤ s.bytes := by
  obtain ⟨i, hi, e⟩ := h.safe
  have hp := h.pos
  have := mono_marks h (s.marks.length - 1) (by omega) i (by omega)
  have ht := h.top
  unfold topM at ht
  omega
/-- the law's scan: the last of the first k that is no greater -/
def scanK (m : List Nat) (h : Nat) : Nat → Nat
  | 0 => 0
  | k + 1 => if m.getD k 0 ≤ h then k else scanK m h k
theorem scanK_eq (m : List Nat) (h : Nat) : ∀ k, scanK m h k = leftK m h k := by
  intro k
  induction k with
  | zero => rfl
  | succ k ih => unfold scanK leftK; rw [ih]
end Go.Proofs.YtdldgefahgojaakDoor.Ev

/- The law LogKeeps: the power goes. -/
namespace Go.Proofs.YtdldgefahgojaakDoor
namespace Ev
open Go.RowKit Fr Ns Ld Fl
set_option linter.unusedSimpArgs false
set_option linter.unusedVariables false

section
variable {X : LogFace} {w : World} {caps : List Int} {paths : List (List Int)} {drops syncs fails keeps : List Int} {a0 a1 a2 a3 a4 a5 : Option Addr} {c0 c1 c2 c3 c4 c5 : Nat} {aj : Addr} {dv mv : Value} {t r k m : Nat} {s : LogS} {dn : List Flows} {mk : List Nat} {a : Act} {u : World}
set_option maxRecDepth 100000 in
set_option maxHeartbeats 8000000 in
theorem lk_keep (hv5 : IntsAt (fun b => b < w.heap.size) w (.slice a5 keeps.length c5) keeps) (hb : Below w.heap.size w u) (ha : Slots 397 (lkB a0 a1 a2 a3 a4 a5 caps.length paths.length drops.length syncs.length fails.length keeps.length c0 c1 c2 c3 c4 c5 aj dv mv t r [(36, .int .i64 0)]) a) :
    Lk [1, 1, 1, 1, 1, 1, 1, 1, 1, 1, 1, 1, 1, 1, 1, 1, 1, 0, 1, 0, 0, 1, 0, 0, 1, 1, 1, 0] (fun a' u' => ∃ kp : Int, Slots 397 (lkB a0 a1 a2 a3 a4 a5 caps.length paths.length drops.length syncs.length fails.length keeps.length c0 c1 c2 c3 c4 c5 aj dv mv t r [(36, .int .i64 kp)]) a' ∧ u' = u) a u := by
  by_cases h1 : r < keeps.length
  · obtain ⟨b, off, rfl, hc⟩ := ints_cells hv5 r h1
    have cc := hc u hb
    have h1' : (r : Int) < keeps.length := by omega
    generalize keeps.getD r 0 = z at *
    clear hc hv5 hb h1
    refine Thru.mk fun J K hJ hK => ?_
    obtain ⟨Y, rfl, hY⟩ := ha.lay
    obtain ⟨e0, e1, e2, e3, e4, e5, e6, e7, e8, e9, e10, e11, -⟩ := hY
    rw [range_lk]
    simp only [e0, e1, e2, e3, e4, e5, e6, e7, e8, e9, e10, e11]
    clear ha e0 e1 e2 e3 e4 e5 e6 e7 e8 e9 e10 e11
    conv => arg 2; whnf
    go_wp2
    refine Met.intro (hJ _ _ ?_)
    exact ⟨z, ⟨rfl, by kernel_rfl, has_cons rfl (has_cons rfl (has_cons rfl (has_cons rfl (has_cons rfl (has_cons rfl (has_cons rfl (has_cons rfl (has_cons rfl (has_cons rfl (has_cons rfl (has_cons rfl (has_nil))))))))))))⟩, rfl⟩
  · have h1' : ¬ (r : Int) < keeps.length := by omega
    clear hv5 hb h1
    refine Thru.mk fun J K hJ hK => ?_
    obtain ⟨Y, rfl, hY⟩ := ha.lay
    obtain ⟨e0, e1, e2, e3, e4, e5, e6, e7, e8, e9, e10, e11, -⟩ := hY
    rw [range_lk]
    simp only [e0, e1, e2, e3, e4, e5, e6, e7, e8, e9, e10, e11]
    clear ha e0 e1 e2 e3 e4 e5 e6 e7 e8 e9 e10 e11
    conv => arg 2; whnf
    go_wp2
    refine Met.intro (hJ _ _ ?_)
    exact ⟨0, ⟨rfl, by kernel_rfl, has_cons rfl (has_cons rfl (has_cons rfl (has_cons rfl (has_cons rfl (has_cons rfl (has_cons rfl (has_cons rfl (has_cons rfl (has_cons rfl (has_cons rfl (has_cons rfl (has_nil))))))))))))⟩, rfl⟩
set_option maxRecDepth 100000 in
set_option maxHeartbeats 8000000 in
theorem lk_keep0 (ha : Slots 397 (lkB a0 a1 a2 a3 a4 a5 caps.length paths.length drops.length syncs.length fails.length keeps.length c0 c1 c2 c3 c4 c5 aj dv mv t r []) a) :
    Lk [1, 1, 1, 1, 1, 1, 1, 1, 1, 1, 1, 1, 1, 1, 1, 1, 1, 0, 1, 0, 0, 1, 0, 0, 1, 1, 0] (fun a' u' => Slots 397 (lkB a0 a1 a2 a3 a4 a5 caps.length paths.length drops.length syncs.length fails.length keeps.length c0 c1 c2 c3 c4 c5 aj dv mv t r [(36, .int .i64 0)]) a' ∧ u' = u) a u := by
  refine Thru.mk fun J K hJ hK => ?_
  obtain ⟨Y, rfl, hY⟩ := ha.lay
  obtain ⟨e0, e1, e2, e3, e4, e5, e6, e7, e8, e9, e10, -⟩ := hY
  rw [range_lk]
  simp only [e0, e1, e2, e3, e4, e5, e6, e7, e8, e9, e10]
  clear ha e0 e1 e2 e3 e4 e5 e6 e7 e8 e9 e10
  conv => arg 2; whnf
  go_wp2
  refine Met.intro (hJ _ _ ?_)
  exact ⟨⟨rfl, by kernel_rfl, has_cons rfl (has_cons rfl (has_cons rfl (has_cons rfl (has_cons rfl (has_cons rfl (has_cons rfl (has_cons rfl (has_cons rfl (has_cons rfl (has_cons rfl (has_cons rfl (has_nil))))))))))))⟩, rfl⟩
set_option maxRecDepth 100000 in
set_option maxHeartbeats 8000000 in
theorem lk_all {kp : Int} (hB : LBytesSaid X) (hm : m ≤ 1000) (ha : Slots 397 (lkB a0 a1 a2 a3 a4 a5 caps.length paths.length drops.length syncs.length fails.length keeps.length c0 c1 c2 c3 c4 c5 aj dv mv t r [(36, .int .i64 kp)]) a) (hk : KeepsE X w aj (.slice a0 caps.length c0) m s dv mv dn mk [] u) :
    Lk [1, 1, 1, 1, 1, 1, 1, 1, 1, 1, 1, 1, 1, 1, 1, 1, 1, 0, 1, 0, 0, 1, 0, 0, 1, 1, 1, 1, 0] (fun a' u' => Slots 397 (lkB a0 a1 a2 a3 a4 a5 caps.length paths.length drops.length syncs.length fails.length keeps.length c0 c1 c2 c3 c4 c5 aj dv mv t r [(36, .int .i64 kp), (37, .int .i64 s.bytes)]) a' ∧ KeepsE X w aj (.slice a0 caps.length c0) m s dv mv dn mk [] u') a u := by
  have HB : Hid (Calls Tryd.prog 9 #[.pointer (some aj)] u fun e w' => e = .returned (.int .i64 s.bytes) ∧ Hid (KeepsE X w aj (.slice a0 caps.length c0) m s dv mv dn mk [] w')) := by
    refine (k_bytes hB hk hm).mono ?_
    rintro e w' ⟨he, n, rfl⟩
    exact ⟨he, hk.later (below_drewN (Below.refl _ _) _)⟩
  clear hk hB
  refine Thru.mk fun J K hJ hK => ?_
  obtain ⟨Y, rfl, hY⟩ := ha.lay
  obtain ⟨e0, e1, e2, e3, e4, e5, e6, e7, e8, e9, e10, e11, -⟩ := hY
  rw [range_lk]
  simp only [e0, e1, e2, e3, e4, e5, e6, e7, e8, e9, e10, e11]
  clear ha e0 e1 e2 e3 e4 e5 e6 e7 e8 e9 e10 e11
  conv => arg 2; whnf
  go_wp2_with fail
  refine HB.out.mono ?_
  rintro e w1 ⟨rfl, hk⟩
  clear HB
  go_wp2
  refine Met.intro (hJ _ _ ?_)
  exact ⟨⟨rfl, by kernel_rfl, has_cons rfl (has_cons rfl (has_cons rfl (has_cons rfl (has_cons rfl (has_cons rfl (has_cons rfl (has_cons rfl (has_cons rfl (has_cons rfl (has_cons rfl (has_cons rfl (has_cons rfl (has_nil)))))))))))))⟩, hk.out⟩
set_option maxRecDepth 100000 in
set_option maxHeartbeats 8000000 in
theorem lk_was {kp : Int} (hB : LSafeSaid X) (hm : m ≤ 1000) (ha : Slots 397 (lkB a0 a1 a2 a3 a4 a5 caps.length paths.length drops.length syncs.length fails.length keeps.length c0 c1 c2 c3 c4 c5 aj dv mv t r [(36, .int .i64 kp), (37, .int .i64 s.bytes)]) a) (hk : KeepsE X w aj (.slice a0 caps.length c0) m s dv mv dn mk [] u) :
    Lk [1, 1, 1, 1, 1, 1, 1, 1, 1, 1, 1, 1, 1, 1, 1, 1, 1, 0, 1, 0, 0, 1, 0, 0, 1, 1, 1, 1, 1, 0] (fun a' u' => Slots 397 (lkB a0 a1 a2 a3 a4 a5 caps.length paths.length drops.length syncs.length fails.length keeps.length c0 c1 c2 c3 c4 c5 aj dv mv t r [(36, .int .i64 kp), (37, .int .i64 s.bytes), (38, .int .i64 s.safe)]) a' ∧ KeepsE X w aj (.slice a0 caps.length c0) m s dv mv dn mk [] u') a u := by
  have HB : Hid (Calls Tryd.prog 14 #[.pointer (some aj)] u fun e w' => e = .returned (.int .i64 s.safe) ∧ Hid (KeepsE X w aj (.slice a0 caps.length c0) m s dv mv dn mk [] w')) := by
    refine (k_safe hB hk hm).mono ?_
    rintro e w' ⟨he, n, rfl⟩
    exact ⟨he, hk.later (below_drewN (Below.refl _ _) _)⟩
  clear hk hB
  refine Thru.mk fun J K hJ hK => ?_
  obtain ⟨Y, rfl, hY⟩ := ha.lay
  obtain ⟨e0, e1, e2, e3, e4, e5, e6, e7, e8, e9, e10, e11, e12, -⟩ := hY
  rw [range_lk]
  simp only [e0, e1, e2, e3, e4, e5, e6, e7, e8, e9, e10, e11, e12]
  clear ha e0 e1 e2 e3 e4 e5 e6 e7 e8 e9 e10 e11 e12
  conv => arg 2; whnf
  go_wp2_with fail
  refine HB.out.mono ?_
  rintro e w1 ⟨rfl, hk⟩
  clear HB
  go_wp2
  refine Met.intro (hJ _ _ ?_)
  exact ⟨⟨rfl, by kernel_rfl, has_cons rfl (has_cons rfl (has_cons rfl (has_cons rfl (has_cons rfl (has_cons rfl (has_cons rfl (has_cons rfl (has_cons rfl (has_cons rfl (has_cons rfl (has_cons rfl (has_cons rfl (has_cons rfl (has_nil))))))))))))))⟩, hk.out⟩
set_option maxRecDepth 100000 in
set_option maxHeartbeats 8000000 in
theorem lk_crash {kp : Int} (hC : LCrashSaid X) (hm : m ≤ 1000) (ha : Slots 397 (lkB a0 a1 a2 a3 a4 a5 caps.length paths.length drops.length syncs.length fails.length keeps.length c0 c1 c2 c3 c4 c5 aj dv mv t r [(36, .int .i64 kp), (37, .int .i64 s.bytes), (38, .int .i64 s.safe)]) a) (hk : KeepsE X w aj (.slice a0 caps.length c0) m s dv mv dn mk [] u) :
    Lk [1, 1, 1, 1, 1, 1, 1, 1, 1, 1, 1, 1, 1, 1, 1, 1, 1, 0, 1, 0, 0, 1, 0, 0, 1, 1, 1, 1, 1, 1, 0] (fun a' u' => Slots 397 (lkB a0 a1 a2 a3 a4 a5 caps.length paths.length drops.length syncs.length fails.length keeps.length c0 c1 c2 c3 c4 c5 aj dv mv t r [(36, .int .i64 kp), (37, .int .i64 s.bytes), (38, .int .i64 s.safe)]) a' ∧ KeepsE X w aj (.slice a0 caps.length c0) m (crashS s kp) dv mv dn mk [] u') a u := by
  have HB : Hid (Calls Tryd.prog 12 #[.pointer (some aj), .int .i64 kp] u fun e w' => e = .returned (.tuple #[]) ∧ Hid (KeepsE X w aj (.slice a0 caps.length c0) m (crashS s kp) dv mv dn mk [] w')) := k_crash hC kp hk hm
  clear hk hC
  refine Thru.mk fun J K hJ hK => ?_
  obtain ⟨Y, rfl, hY⟩ := ha.lay
  obtain ⟨e0, e1, e2, e3, e4, e5, e6, e7, e8, e9, e10, e11, e12, e13, -⟩ := hY
  rw [range_lk]
  simp only [e0, e1, e2, e3, e4, e5, e6, e7, e8, e9, e10, e11, e12, e13]
  clear ha e0 e1 e2 e3 e4 e5 e6 e7 e8 e9 e10 e11 e12 e13
  conv => arg 2; whnf
  go_wp2_with fail
  refine HB.out.mono ?_
  rintro e w1 ⟨rfl, hk⟩
  clear HB
  go_wp2
  refine Met.intro (hJ _ _ ?_)
  exact ⟨⟨rfl, by kernel_rfl, has_cons rfl (has_cons rfl (has_cons rfl (has_cons rfl (has_cons rfl (has_cons rfl (has_cons rfl (has_cons rfl (has_cons rfl (has_cons rfl (has_cons rfl (has_cons rfl (has_cons rfl (has_cons rfl (has_nil))))))))))))))⟩, hk.out⟩
set_option maxRecDepth 100000 in
set_option maxHeartbeats 8000000 in
theorem lk_high0 {kp : Int} (ha : Slots 397 (lkB a0 a1 a2 a3 a4 a5 caps.length paths.length drops.length syncs.length fails.length keeps.length c0 c1 c2 c3 c4 c5 aj dv mv t r [(36, .int .i64 kp), (37, .int .i64 s.bytes), (38, .int .i64 s.safe)]) a) :
    Lk [1, 1, 1, 1, 1, 1, 1, 1, 1, 1, 1, 1, 1, 1, 1, 1, 1, 0, 1, 0, 0, 1, 0, 0, 1, 1, 1, 1, 1, 1, 1, 0] (fun a' u' => Slots 397 (lkB a0 a1 a2 a3 a4 a5 caps.length paths.length drops.length syncs.length fails.length keeps.length c0 c1 c2 c3 c4 c5 aj dv mv t r [(36, .int .i64 kp), (37, .int .i64 s.bytes), (38, .int .i64 s.safe), (39, .int .i64 s.safe)]) a' ∧ u' = u) a u := by
  refine Thru.mk fun J K hJ hK => ?_
  obtain ⟨Y, rfl, hY⟩ := ha.lay
  obtain ⟨e0, e1, e2, e3, e4, e5, e6, e7, e8, e9, e10, e11, e12, e13, -⟩ := hY
  rw [range_lk]
  simp only [e0, e1, e2, e3, e4, e5, e6, e7, e8, e9, e10, e11, e12, e13]
  clear ha e0 e1 e2 e3 e4 e5 e6 e7 e8 e9 e10 e11 e12 e13
  conv => arg 2; whnf
  go_wp2
  refine Met.intro (hJ _ _ ?_)
  exact ⟨⟨rfl, by kernel_rfl, has_cons rfl (has_cons rfl (has_cons rfl (has_cons rfl (has_cons rfl (has_cons rfl (has_cons rfl (has_cons rfl (has_cons rfl (has_cons rfl (has_cons rfl (has_cons rfl (has_cons rfl (has_cons rfl (has_cons rfl (has_nil)))))))))))))))⟩, rfl⟩
set_option maxRecDepth 100000 in
set_option maxHeartbeats 8000000 in
theorem lk_high {kp : Int} (h1 : s.safe ≤ s.bytes) (h2 : s.bytes ≤ 1000000) (ha : Slots 397 (lkB a0 a1 a2 a3 a4 a5 caps.length paths.length drops.length syncs.length fails.length keeps.length c0 c1 c2 c3 c4 c5 aj dv mv t r [(36, .int .i64 kp), (37, .int .i64 s.bytes), (38, .int .i64 s.safe), (39, .int .i64 s.safe)]) a) :
    Lk [1, 1, 1, 1, 1, 1, 1, 1, 1, 1, 1, 1, 1, 1, 1, 1, 1, 0, 1, 0, 0, 1, 0, 0, 1, 1, 1, 1, 1, 1, 1, 1, 0] (fun a' u' => Slots 397 (lkB a0 a1 a2 a3 a4 a5 caps.length paths.length drops.length syncs.length fails.length keeps.length c0 c1 c2 c3 c4 c5 aj dv mv t r [(39, .int .i64 (highN s kp))]) a' ∧ u' = u) a u := by
  have HH := high_eq s h1 kp
  rw [HH]
  clear HH
  have hw1 : IntKind.i64.wrap ((s.bytes : Int) - s.safe) = (s.bytes : Int) - s.safe := by rw [IntKind.wrap_i64]; omega
  by_cases h3 : 0 < kp
  · by_cases h4 : kp < (s.bytes : Int) - s.safe
    · have hw2 : IntKind.i64.wrap ((s.safe : Int) + kp) = (s.safe : Int) + kp := by rw [IntKind.wrap_i64]; omega
      rw [if_pos ⟨h3, h4⟩]
      generalize (s.bytes : Int) = sb at *
      generalize (s.safe : Int) = ss at *
      clear h1 h2
      refine Thru.mk fun J K hJ hK => ?_
      obtain ⟨Y, rfl, hY⟩ := ha.lay
      obtain ⟨e0, e1, e2, e3, e4, e5, e6, e7, e8, e9, e10, e11, e12, e13, e14, -⟩ := hY
      rw [range_lk]
      simp only [e0, e1, e2, e3, e4, e5, e6, e7, e8, e9, e10, e11, e12, e13, e14]
      clear ha e0 e1 e2 e3 e4 e5 e6 e7 e8 e9 e10 e11 e12 e13 e14
      conv => arg 2; whnf
      go_wp2
      refine Met.intro (hJ _ _ ?_)
      exact ⟨⟨rfl, by kernel_rfl, has_cons rfl (has_cons rfl (has_cons rfl (has_cons rfl (has_cons rfl (has_cons rfl (has_cons rfl (has_cons rfl (has_cons rfl (has_cons rfl (has_cons rfl (has_cons rfl (has_nil))))))))))))⟩, rfl⟩
    · rw [if_neg (by omega), if_pos h3]
      generalize (s.bytes : Int) = sb at *
      generalize (s.safe : Int) = ss at *
      clear h1 h2
      refine Thru.mk fun J K hJ hK => ?_
      obtain ⟨Y, rfl, hY⟩ := ha.lay
      obtain ⟨e0, e1, e2, e3, e4, e5, e6, e7, e8, e9, e10, e11, e12, e13, e14, -⟩ := hY
      rw [range_lk]
      simp only [e0, e1, e2, e3, e4, e5, e6, e7, e8, e9, e10, e11, e12, e13, e14]
      clear ha e0 e1 e2 e3 e4 e5 e6 e7 e8 e9 e10 e11 e12 e13 e14
      conv => arg 2; whnf
      go_wp2
      refine Met.intro (hJ _ _ ?_)
      exact ⟨⟨rfl, by kernel_rfl, has_cons rfl (has_cons rfl (has_cons rfl (has_cons rfl (has_cons rfl (has_cons rfl (has_cons rfl (has_cons rfl (has_cons rfl (has_cons rfl (has_cons rfl (has_cons rfl (has_nil))))))))))))⟩, rfl⟩
  · rw [if_neg (by omega), if_neg h3]
    generalize (s.bytes : Int) = sb at *
    generalize (s.safe : Int) = ss at *
    clear h1 h2
    refine Thru.mk fun J K hJ hK => ?_
    obtain ⟨Y, rfl, hY⟩ := ha.lay
    obtain ⟨e0, e1, e2, e3, e4, e5, e6, e7, e8, e9, e10, e11, e12, e13, e14, -⟩ := hY
    rw [range_lk]
    simp only [e0, e1, e2, e3, e4, e5, e6, e7, e8, e9, e10, e11, e12, e13, e14]
    clear ha e0 e1 e2 e3 e4 e5 e6 e7 e8 e9 e10 e11 e12 e13 e14
    conv => arg 2; whnf
    go_wp2
    refine Met.intro (hJ _ _ ?_)
    exact ⟨⟨rfl, by kernel_rfl, has_cons rfl (has_cons rfl (has_cons rfl (has_cons rfl (has_cons rfl (has_cons rfl (has_cons rfl (has_cons rfl (has_cons rfl (has_cons rfl (has_cons rfl (has_cons rfl (has_nil))))))))))))⟩, rfl⟩
end
end Ev
end Go.Proofs.YtdldgefahgojaakDoor

/- The law LogKeeps: how much is left. -/
namespace Go.Proofs.YtdldgefahgojaakDoor
namespace Ev
open Go.RowKit Fr Ns Ld Fl
set_option linter.unusedSimpArgs false
set_option linter.unusedVariables false

section
variable {X : LogFace} {w : World} {caps : List Int} {paths : List (List Int)} {drops syncs fails keeps : List Int} {a0 a1 a2 a3 a4 a5 : Option Addr} {c0 c1 c2 c3 c4 c5 : Nat} {aj : Addr} {dv mv : Value} {t r k m : Nat} {s : LogS} {dn : List Flows} {mk : List Nat} {a : Act} {u : World}
set_option maxRecDepth 100000 in
set_option maxHeartbeats 8000000 in
theorem lk_left0 {hv : Value} (ha : Slots 397 (lkB a0 a1 a2 a3 a4 a5 caps.length paths.length drops.length syncs.length fails.length keeps.length c0 c1 c2 c3 c4 c5 aj dv mv t r [(39, hv)]) a) :
    Lk [1, 1, 1, 1, 1, 1, 1, 1, 1, 1, 1, 1, 1, 1, 1, 1, 1, 0, 1, 0, 0, 1, 0, 0, 1, 1, 1, 1, 1, 1, 1, 1, 1, 0] (fun a' u' => Slots 397 (lkB a0 a1 a2 a3 a4 a5 caps.length paths.length drops.length syncs.length fails.length keeps.length c0 c1 c2 c3 c4 c5 aj dv mv t r [(39, hv), (40, .int .i64 0)]) a' ∧ u' = u) a u := by
  refine Thru.mk fun J K hJ hK => ?_
  obtain ⟨Y, rfl, hY⟩ := ha.lay
  obtain ⟨e0, e1, e2, e3, e4, e5, e6, e7, e8, e9, e10, e11, -⟩ := hY
  rw [range_lk]
  simp only [e0, e1, e2, e3, e4, e5, e6, e7, e8, e9, e10, e11]
  clear ha e0 e1 e2 e3 e4 e5 e6 e7 e8 e9 e10 e11
  conv => arg 2; whnf
  go_wp2
  refine Met.intro (hJ _ _ ?_)
  exact ⟨⟨rfl, by kernel_rfl, has_cons rfl (has_cons rfl (has_cons rfl (has_cons rfl (has_cons rfl (has_cons rfl (has_cons rfl (has_cons rfl (has_cons rfl (has_cons rfl (has_cons rfl (has_cons rfl (has_cons rfl (has_nil)))))))))))))⟩, rfl⟩
set_option maxRecDepth 100000 in
set_option maxHeartbeats 8000000 in
theorem lk_i0 {hv lv : Value} (ha : Slots 397 (lkB a0 a1 a2 a3 a4 a5 caps.length paths.length drops.length syncs.length fails.length keeps.length c0 c1 c2 c3 c4 c5 aj dv mv t r [(39, hv), (40, lv)]) a) :
    Lk [1, 1, 1, 1, 1, 1, 1, 1, 1, 1, 1, 1, 1, 1, 1, 1, 1, 0, 1, 0, 0, 1, 0, 0, 1, 1, 1, 1, 1, 1, 1, 1, 1, 1, 0, 0] (fun a' u' => Slots 397 (lkB a0 a1 a2 a3 a4 a5 caps.length paths.length drops.length syncs.length fails.length keeps.length c0 c1 c2 c3 c4 c5 aj dv mv t r [(39, hv), (40, lv), (41, .int .i64 0)]) a' ∧ u' = u) a u := by
  refine Thru.mk fun J K hJ hK => ?_
  obtain ⟨Y, rfl, hY⟩ := ha.lay
  obtain ⟨e0, e1, e2, e3, e4, e5, e6, e7, e8, e9, e10, e11, e12, -⟩ := hY
  rw [range_lk]
  simp only [e0, e1, e2, e3, e4, e5, e6, e7, e8, e9, e10, e11, e12]
  clear ha e0 e1 e2 e3 e4 e5 e6 e7 e8 e9 e10 e11 e12
  conv => arg 2; whnf
  go_wp2
  refine Met.intro (hJ _ _ ?_)
  exact ⟨⟨rfl, by kernel_rfl, has_cons rfl (has_cons rfl (has_cons rfl (has_cons rfl (has_cons rfl (has_cons rfl (has_cons rfl (has_cons rfl (has_cons rfl (has_cons rfl (has_cons rfl (has_cons rfl (has_cons rfl (has_cons rfl (has_nil))))))))))))))⟩, rfl⟩
set_option maxRecDepth 100000 in
set_option maxHeartbeats 8000000 in
theorem lk_in3 {hv lv : Value} {i n c : Nat} {M : Option Addr} (hi : i < n) (ha : Slots 397 (lkB a0 a1 a2 a3 a4 a5 caps.length paths.length drops.length syncs.length fails.length keeps.length c0 c1 c2 c3 c4 c5 aj dv (.slice M n c) t r [(39, hv), (40, lv), (41, .int .i64 (i : Nat))]) a) :
    Lk [1, 1, 1, 1, 1, 1, 1, 1, 1, 1, 1, 1, 1, 1, 1, 1, 1, 0, 1, 0, 0, 1, 0, 0, 1, 1, 1, 1, 1, 1, 1, 1, 1, 1, 0, 1, 0, 0, 0] (fun a' u' => Slots 397 (lkB a0 a1 a2 a3 a4 a5 caps.length paths.length drops.length syncs.length fails.length keeps.length c0 c1 c2 c3 c4 c5 aj dv (.slice M n c) t r [(39, hv), (40, lv), (41, .int .i64 (i : Nat))]) a' ∧ u' = u) a u := by
  have h1' : (i : Int) < n := by omega
  clear hi
  refine Thru.mk fun J K hJ hK => ?_
  obtain ⟨Y, rfl, hY⟩ := ha.lay
  obtain ⟨e0, e1, e2, e3, e4, e5, e6, e7, e8, e9, e10, e11, e12, e13, -⟩ := hY
  rw [range_lk]
  simp only [e0, e1, e2, e3, e4, e5, e6, e7, e8, e9, e10, e11, e12, e13]
  clear ha e0 e1 e2 e3 e4 e5 e6 e7 e8 e9 e10 e11 e12 e13
  conv => arg 2; whnf
  go_wp2
  refine Met.intro (hJ _ _ ?_)
  exact ⟨⟨rfl, by kernel_rfl, has_cons rfl (has_cons rfl (has_cons rfl (has_cons rfl (has_cons rfl (has_cons rfl (has_cons rfl (has_cons rfl (has_cons rfl (has_cons rfl (has_cons rfl (has_cons rfl (has_cons rfl (has_cons rfl (has_nil))))))))))))))⟩, rfl⟩
set_option maxRecDepth 100000 in
set_option maxHeartbeats 8000000 in
theorem lk_out3 {hv lv : Value} {i n c : Nat} {M : Option Addr} (hi : ¬ i < n) (ha : Slots 397 (lkB a0 a1 a2 a3 a4 a5 caps.length paths.length drops.length syncs.length fails.length keeps.length c0 c1 c2 c3 c4 c5 aj dv (.slice M n c) t r [(39, hv), (40, lv), (41, .int .i64 (i : Nat))]) a) :
    LkX [1, 1, 1, 1, 1, 1, 1, 1, 1, 1, 1, 1, 1, 1, 1, 1, 1, 0, 1, 0, 0, 1, 0, 0, 1, 1, 1, 1, 1, 1, 1, 1, 1, 1, 0, 1, 0, 0, 0] 4 (fun a' u' => Slots 397 (lkB a0 a1 a2 a3 a4 a5 caps.length paths.length drops.length syncs.length fails.length keeps.length c0 c1 c2 c3 c4 c5 aj dv (.slice M n c) t r [(39, hv), (40, lv)]) a' ∧ u' = u) a u := by
  have h1' : ¬ (i : Int) < n := by omega
  clear hi
  refine Outs.mk fun J K hJ hK => ?_
  obtain ⟨Y, rfl, hY⟩ := ha.lay
  obtain ⟨e0, e1, e2, e3, e4, e5, e6, e7, e8, e9, e10, e11, e12, e13, -⟩ := hY
  rw [range_lk]
  simp only [e0, e1, e2, e3, e4, e5, e6, e7, e8, e9, e10, e11, e12, e13]
  clear ha e0 e1 e2 e3 e4 e5 e6 e7 e8 e9 e10 e11 e12 e13
  conv => arg 2; whnf
  go_wp2
  refine Met.intro (hJ _ _ ?_)
  exact ⟨⟨rfl, by kernel_rfl, has_cons rfl (has_cons rfl (has_cons rfl (has_cons rfl (has_cons rfl (has_cons rfl (has_cons rfl (has_cons rfl (has_cons rfl (has_cons rfl (has_cons rfl (has_cons rfl (has_cons rfl (has_nil)))))))))))))⟩, rfl⟩
set_option maxRecDepth 100000 in
set_option maxHeartbeats 8000000 in
theorem lk_scan {H l i : Nat} (hi : i < mk.length) (ha : Slots 397 (lkB a0 a1 a2 a3 a4 a5 caps.length paths.length drops.length syncs.length fails.length keeps.length c0 c1 c2 c3 c4 c5 aj dv mv t r [(39, .int .i64 (H : Nat)), (40, .int .i64 (l : Nat)), (41, .int .i64 (i : Nat))]) a) (hk : KeepsE X w aj (.slice a0 caps.length c0) m s dv mv dn mk [] u) :
    Lk [1, 1, 1, 1, 1, 1, 1, 1, 1, 1, 1, 1, 1, 1, 1, 1, 1, 0, 1, 0, 0, 1, 0, 0, 1, 1, 1, 1, 1, 1, 1, 1, 1, 1, 0, 1, 0, 0, 1, 0, 0] (fun a' u' => Slots 397 (lkB a0 a1 a2 a3 a4 a5 caps.length paths.length drops.length syncs.length fails.length keeps.length c0 c1 c2 c3 c4 c5 aj dv mv t r [(39, .int .i64 (H : Nat)), (40, .int .i64 ((if mk.getD i 0 ≤ H then i else l : Nat))), (41, .int .i64 (i : Nat))]) a' ∧ u' = u) a u := by
  obtain ⟨M, c, hmv, hc, hcell⟩ := hk.mark (by omega)
  have cc := hcell u i (Below.refl _ _) hi
  have h1' : (i : Int) < mk.length := by omega
  subst hmv
  clear hk hcell
  by_cases h : mk.getD i 0 ≤ H
  · rw [if_pos h]
    have h' : ((mk.getD i 0 : Nat) : Int) ≤ H := by omega
    generalize ((mk.getD i 0 : Nat) : Int) = z at *
    clear h hi
    refine Thru.mk fun J K hJ hK => ?_
    obtain ⟨Y, rfl, hY⟩ := ha.lay
    obtain ⟨e0, e1, e2, e3, e4, e5, e6, e7, e8, e9, e10, e11, e12, e13, -⟩ := hY
    rw [range_lk]
    simp only [e0, e1, e2, e3, e4, e5, e6, e7, e8, e9, e10, e11, e12, e13]
    clear ha e0 e1 e2 e3 e4 e5 e6 e7 e8 e9 e10 e11 e12 e13
    conv => arg 2; whnf
    go_wp2
    refine Met.intro (hJ _ _ ?_)
    exact ⟨⟨rfl, by kernel_rfl, has_cons rfl (has_cons rfl (has_cons rfl (has_cons rfl (has_cons rfl (has_cons rfl (has_cons rfl (has_cons rfl (has_cons rfl (has_cons rfl (has_cons rfl (has_cons rfl (has_cons rfl (has_cons rfl (has_nil))))))))))))))⟩, rfl⟩
  · rw [if_neg h]
    have h' : ¬ ((mk.getD i 0 : Nat) : Int) ≤ H := by omega
    generalize ((mk.getD i 0 : Nat) : Int) = z at *
    clear h hi
    refine Thru.mk fun J K hJ hK => ?_
    obtain ⟨Y, rfl, hY⟩ := ha.lay
    obtain ⟨e0, e1, e2, e3, e4, e5, e6, e7, e8, e9, e10, e11, e12, e13, -⟩ := hY
    rw [range_lk]
    simp only [e0, e1, e2, e3, e4, e5, e6, e7, e8, e9, e10, e11, e12, e13]
    clear ha e0 e1 e2 e3 e4 e5 e6 e7 e8 e9 e10 e11 e12 e13
    conv => arg 2; whnf
    go_wp2
    refine Met.intro (hJ _ _ ?_)
    exact ⟨⟨rfl, by kernel_rfl, has_cons rfl (has_cons rfl (has_cons rfl (has_cons rfl (has_cons rfl (has_cons rfl (has_cons rfl (has_cons rfl (has_cons rfl (has_cons rfl (has_cons rfl (has_cons rfl (has_cons rfl (has_cons rfl (has_nil))))))))))))))⟩, rfl⟩
set_option maxRecDepth 100000 in
set_option maxHeartbeats 8000000 in
theorem lk_inc3 {hv lv : Value} {i : Nat} (hi : i < 1000000) (ha : Slots 397 (lkB a0 a1 a2 a3 a4 a5 caps.length paths.length drops.length syncs.length fails.length keeps.length c0 c1 c2 c3 c4 c5 aj dv mv t r [(39, hv), (40, lv), (41, .int .i64 (i : Nat))]) a) :
    Lk [1, 1, 1, 1, 1, 1, 1, 1, 1, 1, 1, 1, 1, 1, 1, 1, 1, 0, 1, 0, 0, 1, 0, 0, 1, 1, 1, 1, 1, 1, 1, 1, 1, 1, 0, 1, 0, 0, 1, 1] (fun a' u' => Slots 397 (lkB a0 a1 a2 a3 a4 a5 caps.length paths.length drops.length syncs.length fails.length keeps.length c0 c1 c2 c3 c4 c5 aj dv mv t r [(39, hv), (40, lv), (41, .int .i64 ((i + 1 : Nat)))]) a' ∧ u' = u) a u := by
  have hw : IntKind.i64.wrap ((i : Int) + 1) = (i : Int) + 1 := by rw [IntKind.wrap_i64]; omega
  clear hi
  refine Thru.mk fun J K hJ hK => ?_
  obtain ⟨Y, rfl, hY⟩ := ha.lay
  obtain ⟨e0, e1, e2, e3, e4, e5, e6, e7, e8, e9, e10, e11, e12, e13, -⟩ := hY
  rw [range_lk]
  simp only [e0, e1, e2, e3, e4, e5, e6, e7, e8, e9, e10, e11, e12, e13]
  clear ha e0 e1 e2 e3 e4 e5 e6 e7 e8 e9 e10 e11 e12 e13
  conv => arg 2; whnf
  go_wp2
  refine Met.intro (hJ _ _ ?_)
  exact ⟨⟨rfl, by kernel_rfl, has_cons rfl (has_cons rfl (has_cons rfl (has_cons rfl (has_cons rfl (has_cons rfl (has_cons rfl (has_cons rfl (has_cons rfl (has_cons rfl (has_cons rfl (has_cons rfl (has_cons rfl (has_cons rfl (has_nil))))))))))))))⟩, rfl⟩
set_option maxRecDepth 100000 in
set_option maxHeartbeats 8000000 in
theorem lk_cutD {l n c : Nat} {M : Option Addr} (h1 : l + 1 ≤ n) (h2 : n ≤ c) (h3 : n ≤ 1000) (ha : Slots 397 (lkB a0 a1 a2 a3 a4 a5 caps.length paths.length drops.length syncs.length fails.length keeps.length c0 c1 c2 c3 c4 c5 aj (.slice M n c) mv t r [(40, .int .i64 (l : Nat))]) a) :
    Lk [1, 1, 1, 1, 1, 1, 1, 1, 1, 1, 1, 1, 1, 1, 1, 1, 1, 0, 1, 0, 0, 1, 0, 0, 1, 1, 1, 1, 1, 1, 1, 1, 1, 1, 1, 0] (fun a' u' => Slots 397 (lkB a0 a1 a2 a3 a4 a5 caps.length paths.length drops.length syncs.length fails.length keeps.length c0 c1 c2 c3 c4 c5 aj (.slice M (l + 1) c) mv t r [(40, .int .i64 (l : Nat))]) a' ∧ u' = u) a u := by
  have hw : IntKind.i64.wrap ((l : Int) + 1) = (l : Int) + 1 := by rw [IntKind.wrap_i64]; omega
  have hp1 : (0 : Int) ≤ (l : Int) + 1 := by omega
  have hp2 : (l : Int) + 1 ≤ c := by omega
  have ht1 : ((l : Int) + 1).toNat = l + 1 := by omega
  clear h1 h2 h3
  refine Thru.mk fun J K hJ hK => ?_
  obtain ⟨Y, rfl, hY⟩ := ha.lay
  obtain ⟨e0, e1, e2, e3, e4, e5, e6, e7, e8, e9, e10, e11, -⟩ := hY
  rw [range_lk]
  simp only [e0, e1, e2, e3, e4, e5, e6, e7, e8, e9, e10, e11]
  clear ha e0 e1 e2 e3 e4 e5 e6 e7 e8 e9 e10 e11
  conv => arg 2; whnf
  go_wp2
  refine Met.intro (hJ _ _ ?_)
  exact ⟨⟨rfl, by kernel_rfl, has_cons rfl (has_cons rfl (has_cons rfl (has_cons rfl (has_cons rfl (has_cons rfl (has_cons rfl (has_cons rfl (has_cons rfl (has_cons rfl (has_cons rfl (has_cons rfl (has_nil))))))))))))⟩, rfl⟩
set_option maxRecDepth 100000 in
set_option maxHeartbeats 8000000 in
theorem lk_cutM {l n c : Nat} {M : Option Addr} (h1 : l + 1 ≤ n) (h2 : n ≤ c) (h3 : n ≤ 1000) (ha : Slots 397 (lkB a0 a1 a2 a3 a4 a5 caps.length paths.length drops.length syncs.length fails.length keeps.length c0 c1 c2 c3 c4 c5 aj dv (.slice M n c) t r [(40, .int .i64 (l : Nat))]) a) :
    Lk [1, 1, 1, 1, 1, 1, 1, 1, 1, 1, 1, 1, 1, 1, 1, 1, 1, 0, 1, 0, 0, 1, 0, 0, 1, 1, 1, 1, 1, 1, 1, 1, 1, 1, 1, 1, 0] (fun a' u' => Slots 397 (lkB a0 a1 a2 a3 a4 a5 caps.length paths.length drops.length syncs.length fails.length keeps.length c0 c1 c2 c3 c4 c5 aj dv (.slice M (l + 1) c) t r [(40, .int .i64 (l : Nat))]) a' ∧ u' = u) a u := by
  have hw : IntKind.i64.wrap ((l : Int) + 1) = (l : Int) + 1 := by rw [IntKind.wrap_i64]; omega
  have hp1 : (0 : Int) ≤ (l : Int) + 1 := by omega
  have hp2 : (l : Int) + 1 ≤ c := by omega
  have ht1 : ((l : Int) + 1).toNat = l + 1 := by omega
  clear h1 h2 h3
  refine Thru.mk fun J K hJ hK => ?_
  obtain ⟨Y, rfl, hY⟩ := ha.lay
  obtain ⟨e0, e1, e2, e3, e4, e5, e6, e7, e8, e9, e10, e11, -⟩ := hY
  rw [range_lk]
  simp only [e0, e1, e2, e3, e4, e5, e6, e7, e8, e9, e10, e11]
  clear ha e0 e1 e2 e3 e4 e5 e6 e7 e8 e9 e10 e11
  conv => arg 2; whnf
  go_wp2
  refine Met.intro (hJ _ _ ?_)
  exact ⟨⟨rfl, by kernel_rfl, has_cons rfl (has_cons rfl (has_cons rfl (has_cons rfl (has_cons rfl (has_cons rfl (has_cons rfl (has_cons rfl (has_cons rfl (has_cons rfl (has_cons rfl (has_cons rfl (has_nil))))))))))))⟩, rfl⟩
end
end Ev
end Go.Proofs.YtdldgefahgojaakDoor

/- All rise together, step by step: what a walk through the rounds meets. No Go in it. -/
namespace Go.Proofs.YtdldgefahgojaakDoor.Fl
open Fr Ns Ld
set_option linter.unusedSimpArgs false

theorem linkSum_append (rate : List (Int × Int)) (done : List Bool) : ∀ (a b : List Int) (s : Int × Int) (k : Nat), linkSum rate done (a ++ b) s k = linkSum rate done b (linkSum rate done a s k).1 (linkSum rate done a s k).2 := by
  intro a
  induction a with
  | nil => intro b s k; rfl
  | cons u us ih =>
    intro b s k
    simp only [List.cons_append, linkSum]
    split
    · exact ih _ _ _
    · exact ih _ _ _
theorem linkSum_step {rate : List (Int × Int)} {done : List Bool} {us : List Int} {s : Int × Int} {k j : Nat} (hj : j < us.length) :
    linkSum rate done (us.take (j + 1)) s k = if dB done (us.getD j 0).toNat then (sumP (linkSum rate done (us.take j) s k).1 (negP (rP rate (us.getD j 0).toNat)), (linkSum rate done (us.take j) s k).2) else ((linkSum rate done (us.take j) s k).1, (linkSum rate done (us.take j) s k).2 + 1) := by
  rw [take_snoc us j hj 0, linkSum_append]
  simp only [linkSum]
theorem sumQ_nonneg {x : Nat → Rat} : ∀ {l : List Nat}, (∀ g ∈ l, 0 ≤ x g) → 0 ≤ sumQ x l := by
  intro l
  induction l with
  | nil => intro _; exact Rat.le_refl
  | cons u us ih =>
    intro h
    have h1 := h u (by simp)
    have h2 := ih (fun g hg => h g (by simp [hg]))
    simp only [sumQ]
    grind
theorem sumQ_append (x : Nat → Rat) : ∀ (a b : List Nat), sumQ x (a ++ b) = sumQ x a + sumQ x b := by
  intro a
  induction a with
  | nil => intro b; simp only [List.nil_append, sumQ]; grind
  | cons u us ih => intro b; simp only [List.cons_append, sumQ, ih]; grind

section
variable {caps : List Int} {paths : List (List Int)} {rate : List (Int × Int)} {done : List Bool} {b : Rat} {D : Int}

theorem users_toNat {l : Nat} {u : Int} (h : u ∈ users paths l) : u.toNat ∈ usN paths l := List.mem_map.2 ⟨u, h, rfl⟩
theorem lev0_nonneg (hi : Inv caps paths rate done b D) {u : Nat} (hu : u < paths.length) : 0 ≤ lev done rate 0 u := by
  unfold lev
  split
  · rename_i h; exact Rat.le_of_lt (hi.over u hu h).2.1
  · exact Rat.le_refl
/-- what is left on a link is right, and no less than 0 -/
theorem linkSum_right (hg : Good caps paths) (hi : Inv caps paths rate done b D) (hD : D ≤ 46656) {l : Nat} (hl : l < caps.length) (j : Nat) :
    faultP (linkSum rate done ((users paths l).take j) (caps.getD l 0, 1) 0).1 = 0 ∧ Over D (linkSum rate done ((users paths l).take j) (caps.getD l 0, 1) 0).1 ∧ 0 ≤ val (linkSum rate done ((users paths l).take j) (caps.getD l 0, 1) 0).1 ∧ val (linkSum rate done ((users paths l).take j) (caps.getD l 0, 1) 0).1 ≤ 1000 ∧
    (linkSum rate done ((users paths l).take j) (caps.getD l 0, 1) 0).2 ≤ j := by
  obtain ⟨h1, h2, h3⟩ := linkSum_spec rate done D ((users paths l).take j) (caps.getD l 0, 1) 0 (over_whole D _) (fun u hu hd => (hi.over _ (usN_lt (users_toNat (List.mem_of_mem_take hu))) hd).1)
  have hall : ((users paths l).take j).map Int.toNat ++ ((users paths l).drop j).map Int.toNat = usN paths l := by
    rw [← List.map_append, List.take_append_drop]; rfl
  have hc := capQ_bd hg.1 hl
  have hroom := hi.room l hl
  have hlin := lev_lin done rate b 0 (usN paths l)
  have hb := hi.hb
  have hcnt : (0 : Rat) ≤ (b - 0) * ((List.countP (fun u => !dB done u) (usN paths l) : Nat) : Rat) := Rat.mul_nonneg (by grind) Rat.natCast_nonneg
  have hsplit := sumQ_append (lev done rate 0) (((users paths l).take j).map Int.toNat) (((users paths l).drop j).map Int.toNat)
  rw [hall] at hsplit
  have n1 : 0 ≤ sumQ (lev done rate 0) (((users paths l).take j).map Int.toNat) := sumQ_nonneg fun g hg => by
    obtain ⟨u, hu, rfl⟩ := List.mem_map.1 hg
    exact lev0_nonneg hi (usN_lt (users_toNat (List.mem_of_mem_take hu)))
  have n2 : 0 ≤ sumQ (lev done rate 0) (((users paths l).drop j).map Int.toNat) := sumQ_nonneg fun g hg => by
    obtain ⟨u, hu, rfl⟩ := List.mem_map.1 hg
    exact lev0_nonneg hi (usN_lt (users_toNat (List.mem_of_mem_drop hu)))
  have hw : val (caps.getD l 0, 1) = capQ caps l := by rw [val_whole]; rfl
  rw [hw] at h3
  have v1 : 0 ≤ val (linkSum rate done ((users paths l).take j) (caps.getD l 0, 1) 0).1 := by grind
  have v2 : val (linkSum rate done ((users paths l).take j) (caps.getD l 0, 1) 0).1 ≤ 1000 := by grind
  refine ⟨over_fault h1 hi.hD (by omega) v1 v2, h1, v1, v2, ?_⟩
  rw [h2, Nat.zero_add]
  refine Nat.le_trans List.countP_le_length ?_
  rw [List.length_map, List.length_take]
  omega
theorem lev_nonneg (hi : Inv caps paths rate done b D) {t : Rat} (ht : 0 ≤ t) {u : Nat} (hu : u < paths.length) : 0 ≤ lev done rate t u := by
  unfold lev
  split
  · rename_i h; exact Rat.le_of_lt (hi.over u hu h).2.1
  · exact ht
/-- a link's share is right, above what all have, and no more than the link takes -/
theorem share_right (hg : Good caps paths) (hi : Inv caps paths rate done b D) (hD : D ≤ 46656) {l : Nat} (hl : l < caps.length) {s : Int × Int} (h : shareOf caps paths rate done l = some s) : faultP s = 0 ∧ 0 ≤ val s ∧ val s ≤ 1000 := by
  obtain ⟨h1, ⟨u, hu, hd⟩, k, hk1, hk2, ho⟩ := share_some (fun f a b => (hi.over f a b).1) h
  have hc := capQ_bd hg.1 hl
  have hst := hi.strict l hl ⟨u, hu, hd⟩
  have hbv : b < val s := by
    apply Classical.byContradiction
    intro hn
    have hle : val s ≤ b := by grind
    have := sumQ_le (x := lev done rate (val s)) (y := lev done rate b) (l := usN paths l) (fun g _ => by
      unfold lev
      split
      · exact Rat.le_refl
      · exact hle)
    grind
  have hb := hi.hb
  have v0 : 0 ≤ val s := by grind
  have hle := le_sumQ (x := lev done rate (val s)) (f := u) (fun g hg => lev_nonneg hi v0 (usN_lt hg)) hu
  have hlu : lev done rate (val s) u = val s := by unfold lev; rw [hd]; rfl
  have v1 : val s ≤ 1000 := by grind
  have hkD : 1 ≤ D * (k : Int) := by
    have := Int.mul_le_mul hi.hD (show (1 : Int) ≤ (k : Int) by omega) (by decide) (by have := hi.hD; omega)
    omega
  have hkD2 : D * (k : Int) ≤ 1000000 := by
    have hn := hg.2.2.1
    have h0 := hi.hD
    have : D * (k : Int) ≤ D * 6 := Int.mul_le_mul_of_nonneg_left (by omega) (by omega)
    omega
  exact ⟨over_fault ho hkD hkD2 v0 v1, v0, v1⟩
end

/-- which of the first n links have the least share of them -/
def narAt (sh : Nat → Option (Int × Int)) (n l : Nat) : Bool := decide (l < n) && (sh l).isSome && decide (sh l = bestOf sh n)
theorem narAt_eq (sh : Nat → Option (Int × Int)) (n : Nat) : narOf sh n = narAt sh n := rfl
def bestD (o : Option (Int × Int)) : Int × Int := o.getD (-1, 1)
theorem best_skip {sh : Nat → Option (Int × Int)} {n : Nat} (h : sh n = none) : bestOf sh (n + 1) = bestOf sh n ∧ ∀ l, narAt sh (n + 1) l = narAt sh n l := by
  have e : bestOf sh (n + 1) = bestOf sh n := by
    conv => lhs; unfold bestOf
    rw [h]
  refine ⟨e, fun l => ?_⟩
  unfold narAt
  rw [e]
  by_cases hl : l = n
  · subst hl; rw [h]; simp
  · have : (l < n + 1) ↔ (l < n) := by omega
    simp only [this]
/-- a share that is less than all before, or the first one -/
theorem best_new {sh : Nat → Option (Int × Int)} {n : Nat} {s : Int × Int} (hp : ∀ l t, l ≤ n → sh l = some t → faultP t = 0) (h : sh n = some s) (hb : bestOf sh n = none ∨ ∃ b, bestOf sh n = some b ∧ s.1 * b.2 < b.1 * s.2) :
    bestOf sh (n + 1) = some s ∧ ∀ l, narAt sh (n + 1) l = decide (l = n) := by
  have e : bestOf sh (n + 1) = some s := by
    conv => lhs; unfold bestOf
    rw [h]
    rcases hb with hb | ⟨b, hb, hlt⟩
    · rw [hb]
    · rw [hb]; simp only; rw [if_pos hlt]
  refine ⟨e, fun l => ?_⟩
  unfold narAt
  rw [e]
  by_cases hl : l = n
  · subst hl; rw [h]; simp
  · have hx : ∀ x, sh l = some x → l < n → x ≠ s := by
      intro x hx hln hxs
      subst hxs
      rcases hb with hb | ⟨b, hb, hlt⟩
      · have := best_none _ hb l hln; rw [this] at hx; cases hx
      · -- of the first n none is less than b
        let sh' : Nat → Option (Int × Int) := fun l => if l < n then sh l else none
        have hsame : ∀ m, m ≤ n → bestOf sh' m = bestOf sh m := by
          intro m
          induction m with
          | zero => intro _; rfl
          | succ m ih =>
            intro hm
            unfold bestOf
            rw [ih (by omega)]
            have : sh' m = sh m := if_pos (by omega)
            rw [this]
        have hp' : ∀ l t, sh' l = some t → 1 ≤ t.2 := by
          intro l t ht
          by_cases hl : l < n
          · have : sh' l = sh l := if_pos hl
            rw [this] at ht
            exact fault_pos (hp l t (by omega) ht)
          · have : sh' l = none := if_neg hl
            rw [this] at ht; cases ht
        have hmin := (best_some hp' n b (by rw [hsame n (Nat.le_refl _)]; exact hb)).2 l x hln (by rw [show sh' l = sh l from if_pos hln]; exact hx)
        obtain ⟨⟨l0, hl0, hb0⟩, _⟩ := best_some hp' n b (by rw [hsame n (Nat.le_refl _)]; exact hb)
        have pb := hp' l0 b hb0
        have px := fault_pos (hp n x (Nat.le_refl _) h)
        have := (cross_lt px pb).2 hlt
        grind
    have hne : decide (l = n) = false := decide_eq_false hl
    rw [hne]
    by_cases hln : l < n
    · cases hs : sh l with
      | none => simp
      | some x =>
        have := hx x hs hln
        simp [this]
    · have : ¬ l < n + 1 := by omega
      simp [this]
/-- a share as great as the least before -/
theorem best_same {sh : Nat → Option (Int × Int)} {n : Nat} {s : Int × Int} (h : sh n = some s) (hb : bestOf sh n = some s) : bestOf sh (n + 1) = some s ∧ ∀ l, narAt sh (n + 1) l = (narAt sh n l || decide (l = n)) := by
  have e : bestOf sh (n + 1) = some s := by
    conv => lhs; unfold bestOf
    rw [h, hb]
    simp only
    split <;> rfl
  refine ⟨e, fun l => ?_⟩
  unfold narAt
  rw [e, hb]
  by_cases hl : l = n
  · subst hl; rw [h]; simp
  · have : (l < n + 1) ↔ (l < n) := by omega
    simp only [this, hl, decide_false, Bool.or_false]
/-- a greater one -/
theorem best_more {sh : Nat → Option (Int × Int)} {n : Nat} {s b : Int × Int} (h : sh n = some s) (hb : bestOf sh n = some b) (hlt : b.1 * s.2 < s.1 * b.2) : bestOf sh (n + 1) = some b ∧ ∀ l, narAt sh (n + 1) l = narAt sh n l := by
  have e : bestOf sh (n + 1) = some b := by
    conv => lhs; unfold bestOf
    rw [h, hb]
    simp only
    rw [if_neg (by omega)]
  refine ⟨e, fun l => ?_⟩
  unfold narAt
  rw [e, hb]
  by_cases hl : l = n
  · subst hl
    rw [h]
    have : ¬ s = b := by rintro rfl; omega
    simp [this]
  · have : (l < n + 1) ↔ (l < n) := by omega
    simp only [this]

/-- the round, flow by flow -/
theorem round_step (paths : List (List Int)) (done : List Bool) (nar : Nat → Bool) (k : Nat) : ((List.range (k + 1)).filter fun f => !dB done f && (paths.getD f []).any fun x => nar x.toNat).map (fun f : Nat => (f : Int)) =
    ((List.range k).filter fun f => !dB done f && (paths.getD f []).any fun x => nar x.toNat).map (fun f : Nat => (f : Int)) ++ (if (!dB done k && (paths.getD k []).any fun x => nar x.toNat) = true then [(k : Int)] else []) := by
  rw [List.range_succ, List.filter_append, List.map_append]
  congr 1
  simp only [List.filter_cons, List.filter_nil]
  split <;> rfl
def roundTo (paths : List (List Int)) (done : List Bool) (nar : Nat → Bool) (k : Nat) : List Int := ((List.range k).filter fun f => !dB done f && (paths.getD f []).any fun x => nar x.toNat).map (fun f : Nat => (f : Int))
theorem roundTo_all (paths : List (List Int)) (done : List Bool) (nar : Nat → Bool) : roundTo paths done nar paths.length = roundOf paths done nar := rfl
theorem roundTo_length (paths : List (List Int)) (done : List Bool) (nar : Nat → Bool) (k : Nat) : (roundTo paths done nar k).length ≤ k := by
  unfold roundTo
  rw [List.length_map]
  exact Nat.le_trans (List.length_filter_le _ _) (by simp)

/-- so many fewer are free -/
theorem freeN_step {paths : List (List Int)} {done : List Bool} {nar : Nat → Bool} (hl : done.length = paths.length) : freeN paths (setDone done (roundOf paths done nar)) + (roundOf paths done nar).length = freeN paths done := by
  have hm : ∀ f, f < paths.length → dB (setDone done (roundOf paths done nar)) f = (decide ((f : Int) ∈ roundOf paths done nar) || dB done f) := fun f hf => dB_setDone (by omega)
  have hlen : (roundOf paths done nar).length = (List.range paths.length).countP fun f => !dB done f && (paths.getD f []).any fun x => nar x.toNat := by
    unfold roundOf
    rw [List.length_map, List.countP_eq_length_filter]
  rw [hlen]
  unfold freeN
  have key : ∀ l : List Nat, (∀ f ∈ l, f < paths.length) → l.countP (fun f => !dB (setDone done (roundOf paths done nar)) f) + l.countP (fun f => !dB done f && (paths.getD f []).any fun x => nar x.toNat) = l.countP (fun f => !dB done f) := by
    intro l
    induction l with
    | nil => intro _; rfl
    | cons f l ih =>
      intro h
      have h1 := ih (fun g hg => h g (by simp [hg]))
      have hf := h f (by simp)
      rw [List.countP_cons, List.countP_cons, List.countP_cons, hm f hf]
      have hd : decide ((f : Int) ∈ roundOf paths done nar) = (!dB done f && (paths.getD f []).any fun x => nar x.toNat) := by
        rw [Bool.eq_iff_iff, decide_eq_true_eq, mem_round, Bool.and_eq_true, Bool.not_eq_true', List.any_eq_true]
        constructor
        · rintro ⟨_, h2, h3⟩; exact ⟨h2, h3⟩
        · rintro ⟨h2, h3⟩; exact ⟨hf, h2, h3⟩
      rw [hd]
      generalize ((paths.getD f []).any fun x => nar x.toNat) = z
      cases dB done f <;> cases z <;> simp only [Bool.not_true, Bool.not_false, Bool.true_and, Bool.false_and, Bool.or_true, Bool.or_false, Bool.true_or, Bool.false_or, if_true, if_false, Bool.false_eq_true] <;> omega
  exact key _ (fun f hf => List.mem_range.1 hf)
end Go.Proofs.YtdldgefahgojaakDoor.Fl

/- Rows of bools and of fractions that a call makes and writes into: what a walk is told of them. -/
namespace Go.Proofs.YtdldgefahgojaakDoor
namespace Fl
open Go.RowKit Fr Ns Ld
set_option linter.unusedSimpArgs false
set_option linter.unusedVariables false

theorem infoBool : (Tryd.prog.info? 4).map (fun i => (i.zero, i.size, i.bytes)) = some (some (.bool false), 1, 1) := by kernel_rfl
def boolsV (l : List Bool) : List Value := l.map Value.bool
theorem boolsV_length (l : List Bool) : (boolsV l).length = l.length := by simp [boolsV]
end Fl
end Go.Proofs.YtdldgefahgojaakDoor

/- The rounds' memory and how far they are: what the walk through the document's Fill is told. -/
namespace Go.Proofs.YtdldgefahgojaakDoor
namespace Fl
open Go.RowKit Fr Ns Ld
set_option linter.unusedSimpArgs false
set_option linter.unusedVariables false

theorem made_fracs (n : Nat) : (madeCells #[Value.int .i64 0, Value.int .i64 0] (n * 2)).toList = flat (List.replicate n (0, 0)) := by
  apply List.ext_getElem?
  intro i
  by_cases hi : i < n * 2
  · have h1 : (madeCells #[Value.int .i64 0, Value.int .i64 0] (n * 2)).toList[i]? = some (.int .i64 0) := by
      unfold madeCells
      simp only [Array.toList_map, List.getElem?_map, Array.toList_range, List.getElem?_range hi, Option.map_some]
      rcases Nat.mod_two_eq_zero_or_one i with h | h <;> simp [h]
    rw [h1]
    rcases Nat.mod_two_eq_zero_or_one i with h | h
    · have e : i = i / 2 * 2 := by omega
      have := (flat_at (List.replicate n ((0 : Int), (0 : Int))) (i / 2) (by simp; omega)).1
      rw [← e] at this
      rw [this, getD_replicate _ _ _ _ (by omega)]
    · have e : i = i / 2 * 2 + 1 := by omega
      have := (flat_at (List.replicate n ((0 : Int), (0 : Int))) (i / 2) (by simp; omega)).2
      rw [← e] at this
      rw [this, getD_replicate _ _ _ _ (by omega)]
  · rw [List.getElem?_eq_none (by simp [size_madeCells]; omega), List.getElem?_eq_none (by rw [flat_length]; simp; omega)]
theorem made_bools (n : Nat) : (madeCells #[Value.bool false] n).toList = boolsV (List.replicate n false) := by
  rw [toList_madeCells_one]; simp [boolsV]

theorem owns_later {w w' : World} {base : Nat} {e : TypeId} {size n : Nat} {v : Value} {xs : List Value} (hb : Below w.heap.size w w') (h : w.ownsRow base e size v n xs) : w'.ownsRow base e size v n xs := by
  refine ⟨h.1, ?_⟩
  rcases h.2 with h' | ⟨g', cap', cur, h', hg, hc, r⟩
  · exact .inl h'
  · have hlt : g' < w.heap.size := (Array.getElem?_eq_some_iff.1 hc).1
    exact .inr ⟨g', cap', cur, h', hg, by rw [hb.block g' hlt]; exact hc, r⟩
/-- what the rounds' memory holds -/
def FillMem (gr gd : Nat) (w : World) (v6 : Value) (rate : List (Int × Int)) (done : List Bool) (acc : List (List Int)) : Prop :=
  RowAt w gr 35 (flat rate) ∧ RowAt w gd 4 (boolsV done) ∧ ∃ vs, w.ownsRow (gd + 1) 27 1 v6 acc.length vs ∧ ∀ i, i < acc.length → IntsAt (fun b => gd < b ∧ v6.ownBlock ≠ some b) w (vs.getD i undef) (acc.getD i [])
theorem mem_later {gr gd : Nat} {w w' : World} {v6 : Value} {rate : List (Int × Int)} {done : List Bool} {acc : List (List Int)} (h : FillMem gr gd w v6 rate done acc) (hb : Below w.heap.size w w') : FillMem gr gd w' v6 rate done acc := by
  obtain ⟨h1, h2, vs, h3, h4⟩ := h
  exact ⟨h1.later hb h1.lt, h2.later hb h2.lt, vs, owns_later hb h3, fun i hi => (h4 i hi).later hb⟩
theorem nar_start (sh : Nat → Option (Int × Int)) (n : Nat) : (List.range n).map (narAt sh 0) = List.replicate n false := by
  apply List.ext_getElem
  · simp
  · intro i h1 h2
    simp [narAt]
/-- how far the rounds are -/
def FillAt (caps : List Int) (paths : List (List Int)) (rate : List (Int × Int)) (done : List Bool) (acc : List (List Int)) : Prop :=
  ∃ (k : Nat) (b : Rat) (D : Int), Inv caps paths rate done b D ∧ D * 6 ^ freeN paths done ≤ 46656 ∧ freeN paths done ≤ k ∧ fill caps paths = ((fillFrom caps paths k rate done).1, acc ++ (fillFrom caps paths k rate done).2)

theorem freeN_le (paths : List (List Int)) (done : List Bool) : freeN paths done ≤ paths.length := by
  unfold freeN
  exact Nat.le_trans List.countP_le_length (by simp)
theorem freeN_start (paths : List (List Int)) : freeN paths (List.replicate paths.length false) = paths.length := by
  unfold freeN
  have : (List.range paths.length).countP (fun f => !dB (List.replicate paths.length false) f) = (List.range paths.length).length := by
    rw [List.countP_eq_length]
    intro f hf
    have : dB (List.replicate paths.length false) f = false := by
      unfold dB
      simp only [List.getD, List.getElem?_replicate]
      split <;> rfl
    rw [this]; rfl
  rw [this]; simp
theorem fillAt_start {caps : List Int} {paths : List (List Int)} (hg : Good caps paths) : FillAt caps paths (List.replicate paths.length (0, 0)) (List.replicate paths.length false) [] := by
  refine ⟨paths.length, 0, 1, inv_start hg, ?_, freeN_le _ _, by simp [fill]⟩
  rw [Int.one_mul]
  have h1 : (6 : Int) ^ freeN paths (List.replicate paths.length false) ≤ 6 ^ 6 := six (Nat.le_trans (freeN_le _ _) hg.2.2.1)
  have h2 : (6 : Int) ^ 6 = 46656 := by decide
  omega
theorem all_of_free {paths : List (List Int)} {done : List Bool} (h : freeN paths done = 0) : ∀ f, f < paths.length → dB done f = true := by
  intro f hf
  unfold freeN at h
  rw [List.countP_eq_zero] at h
  simpa using h f (List.mem_range.2 hf)
theorem fillAt_end {caps : List Int} {paths : List (List Int)} {rate : List (Int × Int)} {done : List Bool} {acc : List (List Int)} (h : FillAt caps paths rate done acc) (hz : freeN paths done = 0) : fill caps paths = (rate, acc) := by
  obtain ⟨k, b, D, hi, _, _, he⟩ := h
  have hall : done.all id = true := (all_done hi.ld).2 (all_of_free hz)
  have : fillFrom caps paths k rate done = (rate, []) := by
    cases k with
    | zero => rfl
    | succ k => simp only [fillFrom]; rw [if_pos hall]
  rw [he, this]; simp
theorem len_le_flatten : ∀ (l : List (List Int)), (∀ a ∈ l, a ≠ []) → l.length ≤ l.flatten.length := by
  intro l
  induction l with
  | nil => intro _; simp
  | cons a l ih =>
    intro h
    have := ih (fun x hx => h x (by simp [hx]))
    have ha := h a (by simp)
    have : 0 < a.length := List.length_pos_iff.2 ha
    simp only [List.length_cons, List.flatten_cons, List.length_append]
    omega
theorem rises_ne {x : Nat → Rat} : ∀ {l : List (List Int)} {b : Rat}, Rises x b l → ∀ a ∈ l, a ≠ [] := by
  intro l
  induction l with
  | nil => intro b _ a ha; simp at ha
  | cons c l ih =>
    intro b h a ha
    obtain ⟨h1, v, _, _, h2⟩ := h
    rcases List.mem_cons.1 ha with rfl | ha
    · exact h1
    · exact ih h2 a ha
theorem flatten_bound {n : Nat} {l : List Int} (hn : l.Nodup) (h : ∀ u ∈ l, ∃ f : Nat, u = f ∧ f < n) : l.length ≤ n := by
  induction n generalizing l with
  | zero =>
    cases l with
    | nil => simp
    | cons a r => obtain ⟨f, _, hf⟩ := h a (by simp); omega
  | succ n ih =>
    have h1 := ih (l := l.erase (n : Int)) (hn.erase _) (by
      intro x hx
      have hx' := (hn.mem_erase_iff).1 hx
      obtain ⟨f, rfl, hf⟩ := h x hx'.2
      refine ⟨f, rfl, ?_⟩
      have : f ≠ n := fun e => hx'.1 (by rw [e])
      omega)
    have h2 : l.length ≤ (l.erase (n : Int)).length + 1 := by rw [List.length_erase]; split <;> omega
    omega
theorem fill_rounds_le {caps : List Int} {paths : List (List Int)} (hg : Good caps paths) : (fill caps paths).2.length ≤ paths.length := by
  obtain ⟨_, h1, h2, h3⟩ := fill_fair hg
  exact Nat.le_trans (len_le_flatten _ (rises_ne h1)) (flatten_bound h2 (fun u hu => (h3 u).1 hu))
theorem acc_length {caps : List Int} {paths : List (List Int)} {rate : List (Int × Int)} {acc : List (List Int)} (h : fill caps paths = (rate, acc)) (hg : Good caps paths) : acc.length ≤ paths.length := by
  have := fill_rounds_le hg
  rw [h] at this
  exact this

/-- all that one round asks -/
theorem fillAt_facts {caps : List Int} {paths : List (List Int)} {rate : List (Int × Int)} {done : List Bool} {acc : List (List Int)} (hg : Good caps paths) (h : FillAt caps paths rate done acc) (hz : 0 < freeN paths done) :
    rate.length = paths.length ∧ done.length = paths.length ∧
    (∀ l, l < caps.length → ∀ j, faultP (linkSum rate done ((users paths l).take j) (caps.getD l 0, 1) 0).1 = 0 ∧ (linkSum rate done ((users paths l).take j) (caps.getD l 0, 1) 0).1.2 ≤ 46656 ∧ (linkSum rate done ((users paths l).take j) (caps.getD l 0, 1) 0).2 ≤ j) ∧
    (∀ f, f < paths.length → dB done f = true → faultP (rP rate f) = 0) ∧
    (∀ l s, l < caps.length → shareOf caps paths rate done l = some s → faultP s = 0 ∧ 0 ≤ s.1) ∧
    ∃ bst, bestOf (shareOf caps paths rate done) caps.length = some bst ∧ faultP bst = 0 ∧ roundOf paths done (narAt (shareOf caps paths rate done) caps.length) ≠ [] ∧
      FillAt caps paths (setRate rate (roundOf paths done (narAt (shareOf caps paths rate done) caps.length)) bst) (setDone done (roundOf paths done (narAt (shareOf caps paths rate done) caps.length))) (acc ++ [roundOf paths done (narAt (shareOf caps paths rate done) caps.length)]) := by
  obtain ⟨k, b, D, hi, hD, hk, he⟩ := h
  have hD' : D ≤ 46656 := by
    have h1 : (1 : Int) ≤ 6 ^ freeN paths done := by
      have := six (a := 0) (b := freeN paths done) (by omega)
      simpa using this
    have := Int.mul_le_mul_of_nonneg_left h1 (show 0 ≤ D by have := hi.hD; omega)
    omega
  have hex : ∃ f, f < paths.length ∧ dB done f = false := by
    apply Classical.byContradiction
    intro hn
    have : freeN paths done = 0 := by
      unfold freeN
      rw [List.countP_eq_zero]
      intro f hf hd
      exact hn ⟨f, List.mem_range.1 hf, by simpa using hd⟩
    omega
  have hnall : ¬ done.all id = true := fun ha => by
    obtain ⟨f, hf, hd⟩ := hex
    rw [(all_done hi.ld).1 ha f hf] at hd
    cases hd
  obtain ⟨bst, hb, hbv, hne, kk, hk1, hk6, hi'⟩ := inv_step hg hi hex
  have hsr : ∀ l s, l < caps.length → shareOf caps paths rate done l = some s → faultP s = 0 ∧ 0 ≤ s.1 := by
    intro l s hl hs
    obtain ⟨h1, h2, _⟩ := share_right hg hi hD' hl hs
    refine ⟨h1, ?_⟩
    have hp := fault_pos h1
    have e : (0 : Rat) = val (0, 1) := by rw [val_whole]; rfl
    rw [e] at h2
    have := (cross (a := (0, 1)) (by decide) hp).1 h2
    simpa using this
  refine ⟨hi.lr, hi.ld, fun l hl j => ?_, fun f hf hd => ?_, hsr, bst, hb, ?_, hne, ?_⟩
  · obtain ⟨h1, h2, _, _, h5⟩ := linkSum_right hg hi hD' hl j
    exact ⟨h1, Int.le_trans (Int.le_of_dvd (by have := hi.hD; omega) h2.2.2) hD', h5⟩
  · have ho := hi.over f hf hd
    obtain ⟨l, hl, hfl, hall, hs, _⟩ := hi.neck f hf hd
    have h2 := le_sumQ (x := xQ rate) (fun g hgl => Rat.le_of_lt (hi.over g (usN_lt hgl) (hall g hgl)).2.1) hfl
    have h3 := (capQ_bd hg.1 hl).2
    have h4 : xQ rate f = val (rP rate f) := rfl
    exact over_fault ho.1 hi.hD (by omega) (by rw [← h4]; exact Rat.le_of_lt ho.2.1) (by rw [← h4]; grind)
  · obtain ⟨⟨l, hl, hs⟩, _⟩ := best_some (fun l s h => by
      obtain ⟨_, _, _, _, _, ho⟩ := share_some (fun f a b => (hi.over f a b).1) h
      exact ho.1) _ _ hb
    exact (hsr l bst hl hs).1
  · have hfs := freeN_step (nar := narOf (shareOf caps paths rate done) caps.length) hi.ld
    have hlen : 0 < (roundOf paths done (narOf (shareOf caps paths rate done) caps.length)).length := List.length_pos_iff.2 hne
    cases k with
    | zero => omega
    | succ k =>
      refine ⟨k, _, _, hi', ?_, ?_, ?_⟩
      · have e1 : (6 : Int) ^ (freeN paths (setDone done (roundOf paths done (narOf (shareOf caps paths rate done) caps.length))) + 1) ≤ 6 ^ freeN paths done := six (by omega)
        have p0 : (0 : Int) ≤ 6 ^ freeN paths (setDone done (roundOf paths done (narOf (shareOf caps paths rate done) caps.length))) := Int.le_of_lt (Int.pow_pos (by decide))
        have h6 : (kk : Int) * 6 ^ freeN paths (setDone done (roundOf paths done (narOf (shareOf caps paths rate done) caps.length))) ≤ 6 * 6 ^ freeN paths (setDone done (roundOf paths done (narOf (shareOf caps paths rate done) caps.length))) := Int.mul_le_mul_of_nonneg_right (by omega) p0
        rw [Int.pow_succ] at e1
        have e3 : D * ((kk : Int) * 6 ^ freeN paths (setDone done (roundOf paths done (narOf (shareOf caps paths rate done) caps.length)))) ≤ D * 6 ^ freeN paths done := Int.mul_le_mul_of_nonneg_left (by omega) (by have := hi.hD; omega)
        rw [← narAt_eq, Int.mul_assoc]
        omega
      · rw [← narAt_eq]; omega
      · rw [he, fillFrom, if_neg hnall, hb]
        simp only [narAt_eq, List.append_assoc, List.singleton_append]
theorem owns_keep {w w' : World} {base : Nat} {e : TypeId} {size n : Nat} {v : Value} {xs : List Value} (hk : ∀ g, base ≤ g → g < w.heap.size → w'.heap[g]? = w.heap[g]?) (h : w.ownsRow base e size v n xs) : w'.ownsRow base e size v n xs := by
  refine ⟨h.1, ?_⟩
  rcases h.2 with h' | ⟨g', cap', cur, h', hg, hc, r⟩
  · exact .inl h'
  · have hlt : g' < w.heap.size := (Array.getElem?_eq_some_iff.1 hc).1
    exact .inr ⟨g', cap', cur, h', hg, by rw [hk g' hg hlt]; exact hc, r⟩
theorem range_dB (l : List Bool) : (List.range l.length).map (dB l) = l := by
  apply List.ext_getElem
  · simp
  · intro i h1 h2
    simp [dB, List.getD, List.getElem?_eq_getElem h2]
theorem range_rP (l : List (Int × Int)) : (List.range l.length).map (rP l) = l := by
  apply List.ext_getElem
  · simp
  · intro i h1 h2
    simp [rP, List.getD, List.getElem?_eq_getElem h2]
theorem setDone_nil (done : List Bool) : setDone done [] = done := by
  unfold setDone
  simp only [List.contains_nil, Bool.false_or]
  exact range_dB done
theorem setRate_nil (rate : List (Int × Int)) (b : Int × Int) : setRate rate [] b = rate := by
  unfold setRate
  simp only [List.contains_nil, Bool.false_eq_true, if_false]
  exact range_rP rate
theorem mem_take_succ {rd : List Int} {i : Nat} (hi : i < rd.length) (f : Int) : f ∈ rd.take (i + 1) ↔ f ∈ rd.take i ∨ f = rd.getD i 0 := by
  rw [take_snoc rd i hi 0, List.mem_append]
  simp
theorem setDone_step {done : List Bool} {rd : List Int} {i m : Nat} (hi : i < rd.length) (hm : rd.getD i 0 = m) (hl : m < done.length) : setDone done (rd.take (i + 1)) = (setDone done (rd.take i)).set m true := by
  apply List.ext_getElem
  · simp [setDone]
  · intro k h1 h2
    have hk : k < done.length := by simpa [setDone] using h1
    simp only [setDone, List.getElem_map, List.getElem_range, List.getElem_set, List.contains_iff_mem]
    by_cases e : m = k
    · subst e
      rw [if_pos rfl]
      have : ((m : Nat) : Int) ∈ rd.take (i + 1) := (mem_take_succ hi _).2 (.inr hm.symm)
      simp [this]
    · rw [if_neg e]
      congr 1
      rw [Bool.eq_iff_iff, List.contains_iff_mem, List.contains_iff_mem, mem_take_succ hi, hm]
      constructor
      · rintro (h | h)
        · exact h
        · omega
      · exact .inl
theorem setRate_step {rate : List (Int × Int)} {rd : List Int} {b : Int × Int} {i m : Nat} (hi : i < rd.length) (hm : rd.getD i 0 = m) (hl : m < rate.length) : setRate rate (rd.take (i + 1)) b = (setRate rate (rd.take i) b).set m b := by
  apply List.ext_getElem
  · simp [setRate]
  · intro k h1 h2
    have hk : k < rate.length := by simpa [setRate] using h1
    simp only [setRate, List.getElem_map, List.getElem_range, List.getElem_set]
    by_cases e : m = k
    · subst e
      rw [if_pos rfl, if_pos]
      rw [List.contains_iff_mem]
      exact (mem_take_succ hi _).2 (.inr hm.symm)
    · rw [if_neg e]
      have : (rd.take (i + 1)).contains ((k : Nat) : Int) = (rd.take i).contains ((k : Nat) : Int) := by
        rw [Bool.eq_iff_iff, List.contains_iff_mem, List.contains_iff_mem, mem_take_succ hi, hm]
        constructor
        · rintro (h | h)
          · exact h
          · omega
        · exact .inl
      rw [this]
theorem flat_set : ∀ (l : List (Int × Int)) (m : Nat) (a : Int × Int), flat (l.set m a) = ((flat l).set (m * 2) (.int .i64 a.1)).set (m * 2 + 1) (.int .i64 a.2) := by
  intro l
  induction l with
  | nil => intro m a; simp [flat]
  | cons b l ih =>
    intro m a
    cases m with
    | zero => simp [flat]
    | succ m =>
      rw [List.set_cons_succ, flat, ih, show (m + 1) * 2 = m * 2 + 1 + 1 by omega]
      simp [flat]
theorem dB_map (g : Nat → Bool) {n x : Nat} (h : x < n) : dB ((List.range n).map g) x = g x := by
  simp [dB, List.getD, List.getElem?_map, List.getElem?_range h]
theorem any_take (p : List Int) (g : Int → Bool) (i : Nat) (h : i < p.length) : (p.take (i + 1)).any g = ((p.take i).any g || g (p.getD i 0)) := by
  rw [take_snoc p i h 0, List.any_append]
  simp
theorem RowAt.keep {w w' : World} {g : Nat} {T : TypeId} {xs : List Value} (hk : w'.heap[g]? = w.heap[g]?) (h : RowAt w g T xs) : RowAt w' g T xs := by
  unfold RowAt
  rw [hk]; exact h
theorem best_mem {sh : Nat → Option (Int × Int)} : ∀ (n : Nat) (b : Int × Int), bestOf sh n = some b → ∃ l, l < n ∧ sh l = some b := by
  intro n
  induction n with
  | zero => intro b h; simp [bestOf] at h
  | succ n ih =>
    intro b h
    unfold bestOf at h
    cases hs : sh n with
    | none => rw [hs] at h; obtain ⟨l, hl, hb⟩ := ih b h; exact ⟨l, by omega, hb⟩
    | some s =>
      rw [hs] at h
      cases hb : bestOf sh n with
      | none => rw [hb] at h; obtain rfl := Option.some.inj h; exact ⟨n, by omega, hs⟩
      | some b0 =>
        rw [hb] at h
        simp only at h
        split at h
        · obtain rfl := Option.some.inj h; exact ⟨n, by omega, hs⟩
        · obtain rfl := Option.some.inj h; obtain ⟨l, hl, hb'⟩ := ih b0 hb; exact ⟨l, by omega, hb'⟩
theorem nar_new {sh : Nat → Option (Int × Int)} {n l : Nat} (h : ∀ i, narAt sh (l + 1) i = decide (i = l)) : (List.range n).map (narAt sh (l + 1)) = (List.replicate n false).set l true := by
  apply List.ext_getElem
  · simp
  · intro i h1 h2
    simp only [List.getElem_map, List.getElem_range, List.getElem_set, List.getElem_replicate, h]
    by_cases e : i = l
    · subst e; simp
    · have : ¬ l = i := fun x => e x.symm
      simp [e, this]
theorem nar_same {sh : Nat → Option (Int × Int)} {n l : Nat} (h : ∀ i, narAt sh (l + 1) i = (narAt sh l i || decide (i = l))) : (List.range n).map (narAt sh (l + 1)) = ((List.range n).map (narAt sh l)).set l true := by
  apply List.ext_getElem
  · simp
  · intro i h1 h2
    simp only [List.getElem_map, List.getElem_range, List.getElem_set, h]
    by_cases e : i = l
    · subst e; simp
    · have : ¬ l = i := fun x => e x.symm
      simp [e, this]
theorem boolsV_set (l : List Bool) (i : Nat) (b : Bool) : boolsV (l.set i b) = (boolsV l).set i (.bool b) := by simp [boolsV, List.map_set]
theorem RowAt.set2 {w : World} {g : Nat} {T : TypeId} {a b : Value} (h : RowAt w g T [a, b]) (x y : Value) : RowAt ((w.setCell ⟨g, 0, none⟩ x).setCell ⟨g, 1, none⟩ y) g T [x, y] := by
  have := (h.set 0 x).set 1 y
  simpa using this
theorem fillAt_acc {caps : List Int} {paths : List (List Int)} {rate : List (Int × Int)} {done : List Bool} {acc : List (List Int)} (hg : Good caps paths) (h : FillAt caps paths rate done acc) : acc.length ≤ paths.length := by
  obtain ⟨k, b, D, _, _, _, he⟩ := h
  have := fill_rounds_le hg
  rw [he] at this
  simp only [List.length_append] at this
  omega
/-- one round more -/
theorem mem_append {gr gd : Nat} {wr w13 : World} {v6 v' v16 : Value} {o : Obj} {rate' : List (Int × Int)} {done' : List Bool} {acc : List (List Int)} {rd : List Int} {vs : List Value} (hrt : RowAt wr gr 35 (flat rate')) (hdn : RowAt wr gd 4 (boolsV done')) (hgr : gr < gd)
    (hv : ∀ i, i < acc.length → IntsAt (fun b => gd < b ∧ v6.ownBlock ≠ some b) wr (vs.getD i undef) (acc.getD i [])) (hnew : IntsAt (fun b => gd < b ∧ v6.ownBlock ≠ some b) wr v16 rd) (hvs : vs.length = acc.length)
    (hown' : w13.ownsRow (gd + 1) 27 1 v' (acc.length + 1) (vs ++ [v16])) (hgrow : (wr.alloc o).grownBy w13 v6.ownBlock) (hat : v'.ownBlock = v6.ownBlock ∨ v'.ownBlock = some (wr.alloc o).heap.size) (hb : Below (gd + 1) wr w13) :
    FillMem gr gd w13 v' rate' done' (acc ++ [rd]) := by
  refine ⟨hrt.later hb (by omega), hdn.later hb (by omega), vs ++ [v16], by simpa using hown', ?_⟩
  have hkeep : ∀ b, (gd < b ∧ v6.ownBlock ≠ some b) → b < wr.heap.size → w13.heap[b]? = wr.heap[b]? := by
    intro b hb' hlt
    have h1 := hgrow.block b (by simp; omega) (fun e => hb'.2 e.symm)
    rw [h1]
    exact ((Below.refl wr.heap.size wr).alloc (Nat.le_refl _) o).block b hlt
  have hQ : ∀ b, (gd < b ∧ v6.ownBlock ≠ some b) → b < wr.heap.size → (gd < b ∧ v'.ownBlock ≠ some b) := by
    intro b hb' hlt
    refine ⟨hb'.1, ?_⟩
    rcases hat with h | h
    · rw [h]; exact hb'.2
    · rw [h]
      simp
      omega
  exact ints_snoc hvs (fun i hi => (hv i hi).keep hkeep hQ) (hnew.keep hkeep hQ)
theorem flat_cells {rate : List (Int × Int)} {m : Nat} (h : m < rate.length) : (flat rate)[m * 2]? = some (.int .i64 (rP rate m).1) ∧ (flat rate)[m * 2 + 1]? = some (.int .i64 (rP rate m).2) := flat_at rate m h
theorem bools_cell {done : List Bool} {m : Nat} (h : m < done.length) : (boolsV done)[m]? = some (.bool (dB done m)) := by
  simp [boolsV, dB, List.getD, List.getElem?_eq_getElem h]

end Fl
end Go.Proofs.YtdldgefahgojaakDoor

/- More plain facts on loads: a flow of rate 0 more, what is left and what goes over together, rates of 0. No Go in it. -/
namespace Go.Proofs.YtdldgefahgojaakDoor.Ld
open Fr Ns
set_option linter.unusedSimpArgs false

theorem users_snoc (paths : List (List Int)) (path : List Int) (link : Int) : users (paths ++ [path]) link = users paths link ++ (if inB path link then [(paths.length : Int)] else []) := by
  unfold users
  rw [usersFrom_snoc, Nat.zero_add]
theorem sum_zero {t : Int × Int} (h : faultP t = 0) : sumP t (0, 1) = t := by
  have := low_of_fault h
  unfold sumP
  simp only [Int.mul_one, Int.zero_mul, Int.add_zero]
  exact Prod.ext this.1 this.2
theorem getD_snoc_lt (r : List (Int × Int)) (z d : Int × Int) (k : Nat) (h : k < r.length) : (r ++ [z]).getD k d = r.getD k d := by
  simp [List.getD, List.getElem?_append_left h]
theorem addUp_more (r : List (Int × Int)) (z : Int × Int) : ∀ (us : List Int) (s : Int × Int), (∀ u ∈ us, u.toNat < r.length) → addUp (r ++ [z]) us s = addUp r us s := by
  intro us
  induction us with
  | nil => intro s _; rfl
  | cons u us ih =>
    intro s h
    simp only [addUp]
    rw [getD_snoc_lt r z _ _ (h u (by simp)), ih _ (fun x hx => h x (by simp [hx]))]
theorem loadOf_more {paths : List (List Int)} {r : List (Int × Int)} (hr : ratesE r = 0) (hl : r.length = paths.length) (path : List Int) (l : Nat) : loadOf (paths ++ [path]) (r ++ [(0, 1)]) l = loadOf paths r l := by
  have e : addUp (r ++ [(0, 1)]) (users paths l) (0, 1) = addUp r (users paths l) (0, 1) := addUp_more r _ _ _ (fun u hu => by have := users_mem hu; omega)
  unfold loadOf
  rw [users_snoc]
  split
  · rw [addUp_snoc, e]
    cases h : addUp r (users paths l) (0, 1) with
    | none => rfl
    | some t =>
      have ht := addUp_fault hr _ _ _ (by decide) h
      have hg : (r ++ [(0, 1)]).getD ((paths.length : Int).toNat) (0, 1) = (0, 1) := by
        rw [show ((paths.length : Int).toNat) = r.length by omega]
        simp [List.getD]
      simp only [Option.bind_some]
      rw [hg, sum_zero ht, if_pos (show mayP t = true from mayB_of_fault ht)]
  · rw [List.append_nil, e]
theorem load_more {caps : List Int} {paths : List (List Int)} {r : List (Int × Int)} {path : List Int} (h : loadE caps paths r = 0) (ha : Ns.addE caps paths path = 0) :
    loadE caps (paths ++ [path]) (r ++ [(0, 1)]) = 0 ∧ (∀ n, loadL (paths ++ [path]) (r ++ [(0, 1)]) n = loadL paths r n) ∧ fitsB caps (paths ++ [path]) (r ++ [(0, 1)]) = fitsB caps paths r := by
  obtain ⟨h1, h2, h3, h4⟩ := loadE_0 h
  have hm := netE_add ha
  have hL : ∀ n, loadL (paths ++ [path]) (r ++ [(0, 1)]) n = loadL paths r n := fun n => by
    unfold loadL
    simp only [loadOf_more h3 h2]
  refine ⟨loadE_mk hm.2.2.2 (by simp [h2]) ?_ ?_, hL, ?_⟩
  · rw [ratesE_iff] at h3 ⊢
    intro a hA
    rcases List.mem_append.1 hA with hA | hA
    · exact h3 a hA
    · simp at hA; subst hA; decide
  · unfold allOk at h4 ⊢
    simp only [loadOf_more h3 h2]
    exact h4
  · unfold fitsB
    rw [hL]
    simp

/-- what goes over, and what is left, is all -/
theorem left_sum {c : Int} {x : Int × Int} (hx : faultP x = 0) : lowT (x.1 * (leftOf c x).2 + (leftOf c x).1 * x.2) (x.2 * (leftOf c x).2) = c ∧ lowB (x.1 * (leftOf c x).2 + (leftOf c x).1 * x.2) (x.2 * (leftOf c x).2) = 1 := by
  obtain ⟨b1, _, _, _⟩ := fault_0 hx
  have hb : 1 ≤ (1 : Int) * x.2 := by omega
  have hp := lowB_pos (t := c * x.2 + -x.1 * 1) hb
  have hrat := low_ratio (c * x.2 + -x.1 * 1) (1 * x.2)
  have e1 : (leftOf c x).1 = lowT (c * x.2 + -x.1 * 1) (1 * x.2) := rfl
  have e2 : (leftOf c x).2 = lowB (c * x.2 + -x.1 * 1) (1 * x.2) := rfl
  rw [← e1, ← e2] at hrat
  rw [← e2] at hp
  generalize (leftOf c x).1 = p at *
  generalize (leftOf c x).2 = q at *
  have hq : 1 ≤ x.2 * q := Int.mul_le_mul b1 hp (by decide) (by omega)
  have key : (x.1 * q + p * x.2) * 1 = c * (x.2 * q) := by
    have h' : p * x.2 = (c * x.2 + -x.1) * q := by simpa using hrat
    rw [Int.mul_one, h', Int.add_mul, Int.neg_mul, Int.mul_assoc]
    omega
  have := low_of_ratio hq (by decide : (1 : Int) ≤ 1) key
  have hc : gd c 1 = 1 := by unfold gd; simp
  have hs := low_self hc
  exact ⟨this.1.trans hs.1, this.2.trans hs.2⟩
theorem left_sign {c : Int} {x : Int × Int} (hx : faultP x = 0) (h : x.1 ≤ c * x.2) : 0 ≤ (leftOf c x).1 := by
  obtain ⟨b1, _, _, _⟩ := fault_0 hx
  show 0 ≤ lowT (c * x.2 + -x.1 * 1) (1 * x.2)
  unfold lowT
  have hb : 1 ≤ (1 : Int) * x.2 := by omega
  exact Int.ediv_nonneg (by omega) (by have := gd_pos (t := c * x.2 + -x.1 * 1) hb; omega)

theorem capsFrom_ge : ∀ {l : List Int} {x : Int}, capsFrom l = 0 → x ∈ l → 1 ≤ x := by
  intro l
  induction l with
  | nil => intro x _ h; simp at h
  | cons y r ih =>
    intro x h hm
    unfold capsFrom at h
    split at h
    · omega
    · rcases List.mem_cons.1 hm with rfl | hm
      · omega
      · exact ih h hm
theorem capsFrom_bounds : ∀ {l : List Int} {x : Int}, capsFrom l = 0 → x ∈ l → 1 ≤ x ∧ x ≤ 1000 := by
  intro l
  induction l with
  | nil => intro x _ h; simp at h
  | cons y r ih =>
    intro x h hm
    unfold capsFrom at h
    split at h
    · omega
    · rcases List.mem_cons.1 hm with rfl | hm
      · omega
      · exact ih h hm
theorem addUp_zeros (n : Nat) : ∀ us : List Int, addUp (List.replicate n (0, 1)) us (0, 1) = some (0, 1) := by
  intro us
  induction us with
  | nil => rfl
  | cons u us ih =>
    have hg : (List.replicate n ((0 : Int), (1 : Int))).getD u.toNat (0, 1) = (0, 1) := by
      simp only [List.getD, List.getElem?_replicate]
      split <;> rfl
    have hs : sumP (0, 1) (0, 1) = (0, 1) := sum_zero (by decide)
    simp only [addUp]
    rw [hg, hs, if_pos (by decide)]
    exact ih
theorem zeros {caps : List Int} {paths : List (List Int)} :
    loadE caps paths (List.replicate paths.length (0, 1)) = netE caps paths ∧ (∀ n, loadL paths (List.replicate paths.length (0, 1)) n = List.replicate n (0, 1)) ∧ (netE caps paths = 0 → fitsB caps paths (List.replicate paths.length (0, 1)) = true) := by
  have hO : ∀ l, loadOf paths (List.replicate paths.length (0, 1)) l = some (0, 1) := fun l => addUp_zeros _ _
  have hL : ∀ n, loadL paths (List.replicate paths.length (0, 1)) n = List.replicate n (0, 1) := fun n => by
    unfold loadL
    apply List.ext_getElem
    · simp
    · intro i h1 h2
      simp [hO]
  refine ⟨?_, hL, fun h => ?_⟩
  · by_cases h : netE caps paths = 0
    · rw [h]
      refine loadE_mk h (by simp) ((ratesE_iff _).2 (fun a ha => ?_)) ?_
      · rw [List.eq_of_mem_replicate ha]; decide
      · unfold allOk
        simp [hO]
    · rw [loadE, if_neg h]
  · unfold fitsB
    rw [hL]
    simp only [Bool.and_eq_true, List.all_eq_true, List.mem_range, decide_eq_true_eq]
    refine ⟨fun a ha => by rw [List.eq_of_mem_replicate ha]; decide, fun l hl => ?_⟩
    have hg : (List.replicate caps.length ((0 : Int), (1 : Int))).getD l (0, 1) = (0, 1) := by
      simp only [List.getD, List.getElem?_replicate]
      split <;> rfl
    rw [hg]
    have hb := (netE_0 h).2.2.2.2.1
    have hc : 1 ≤ caps.getD l 0 := capsFrom_ge (by
      have := netE_0 h
      rw [linksE, if_neg (by omega), if_neg (by omega)] at hb
      exact hb) (getD_mem caps l hl 0)
    simp only [Int.mul_one]
    omega
end Go.Proofs.YtdldgefahgojaakDoor.Ld

/- Loads, narrow places and fairness as the document says them, and as rational numbers: they are the same. No Go in it. -/
namespace Go.Proofs.YtdldgefahgojaakDoor.Fl
open Fr Ns Ld
set_option linter.unusedSimpArgs false

theorem pathFrom_bd' (L : Int) : ∀ (l seen : List Int), pathFrom L seen l = 0 → ∀ x ∈ l, 0 ≤ x ∧ x < L := by
  intro l
  induction l with
  | nil => intro _ _ x h; simp at h
  | cons y r ih =>
    intro seen h x hx
    unfold pathFrom at h
    split at h
    · omega
    · split at h
      · omega
      · rcases List.mem_cons.1 hx with rfl | hx
        · omega
        · exact ih _ h x hx
theorem good_of_net {caps : List Int} {paths : List (List Int)} (h : netE caps paths = 0) : Good caps paths := by
  have h0 := netE_0 h
  have hl := h0.2.2.2.2.1
  rw [linksE, if_neg (by omega), if_neg (by omega)] at hl
  refine ⟨fun c hc => capsFrom_bounds hl hc, fun p hp => ?_, h0.2.2.2.1, h0.2.2.1⟩
  have hpe := (pathsFrom_iff _ _).1 h0.2.2.2.2.2 p hp
  unfold pathE at hpe
  split at hpe
  · omega
  · rename_i hn
    exact ⟨fun e => hn (by rw [e]; rfl), fun x hx => pathFrom_bd' _ _ _ hpe x hx⟩

theorem rP_eq {r : List (Int × Int)} {u : Nat} (h : u < r.length) (d : Int × Int) : r.getD u d = rP r u := by
  simp [rP, List.getD, List.getElem?_eq_getElem h]
theorem addUp_val {r : List (Int × Int)} (hr : ∀ a ∈ r, 1 ≤ a.2) : ∀ (us : List Int) (s t : Int × Int), 1 ≤ s.2 → (∀ u ∈ us, u.toNat < r.length) → addUp r us s = some t → val t = val s + sumQ (xQ r) (us.map Int.toNat) := by
  intro us
  induction us with
  | nil => intro s t _ _ h; simp only [addUp, Option.some.injEq] at h; rw [h]; simp only [List.map_nil, sumQ]; grind
  | cons u us ih =>
    intro s t hs hu h
    simp only [addUp] at h
    have hul := hu u (by simp)
    have hra : 1 ≤ (rP r u.toNat).2 := by rw [← rP_eq hul (0, 0)]; exact hr _ (getD_mem r _ hul _)
    rw [rP_eq hul] at h
    split at h
    · have hp : 1 ≤ s.2 * (rP r u.toNat).2 := Int.mul_le_mul hs hra (by decide) (by omega)
      have := ih _ t (lowB_pos hp) (fun v hv => hu v (by simp [hv])) h
      rw [this, val_sum hs hra]
      simp only [List.map_cons, sumQ, xQ]
      grind
    · cases h
theorem users_lt {paths : List (List Int)} {l : Int} {u : Int} (h : u ∈ users paths l) : u.toNat < paths.length := by have := users_mem h; omega
theorem loadOf_val {paths : List (List Int)} {r : List (Int × Int)} {l : Nat} {s : Int × Int} (hl : r.length = paths.length) (hr : ratesE r = 0) (h : loadOf paths r l = some s) : val s = sumQ (xQ r) (usN paths l) := by
  have := addUp_val (fun a ha => fault_pos ((ratesE_iff r).1 hr a ha)) _ (0, 1) s (by decide) (fun u hu => by rw [hl]; exact users_lt hu) h
  rw [this, val_whole]
  have : (((0 : Int) : Int) : Rat) = 0 := rfl
  rw [this]
  unfold usN
  grind
/-- the load of a link, and its number -/
theorem load_at {caps : List Int} {paths : List (List Int)} {r : List (Int × Int)} (h : loadE caps paths r = 0) {l : Nat} (hl : l < caps.length) (d : Int × Int) : faultP ((loadL paths r caps.length).getD l d) = 0 ∧ val ((loadL paths r caps.length).getD l d) = sumQ (xQ r) (usN paths l) := by
  obtain ⟨h1, h2, h3, h4⟩ := loadE_0 h
  obtain ⟨s, hs⟩ := allOk_at h4 hl
  rw [loadL_getD _ _ _ _ hl, hs]
  exact ⟨loadOf_fault h3 hs, loadOf_val h2 h3 hs⟩
theorem val_nonneg {a : Int × Int} (ha : 1 ≤ a.2) : 0 ≤ val a ↔ 0 ≤ a.1 := by
  have e : (0 : Rat) = val (0, 1) := by rw [val_whole]; rfl
  rw [e, cross (a := (0, 1)) (by decide) ha]
  simp
theorem fits_iff {caps : List Int} {paths : List (List Int)} {r : List (Int × Int)} (h : loadE caps paths r = 0) : fitsB caps paths r = true ↔ FitsQ (usN paths) (capQ caps) caps.length paths.length (xQ r) := by
  obtain ⟨h1, h2, h3, h4⟩ := loadE_0 h
  have hp : ∀ f, f < paths.length → 1 ≤ (rP r f).2 := fun f hf => fault_pos ((ratesE_iff r).1 h3 _ (getD_mem r f (by omega) (0, 0)))
  unfold fitsB
  simp only [Bool.and_eq_true, List.all_eq_true, List.mem_range, decide_eq_true_eq]
  have key : ∀ l, l < caps.length → (((loadL paths r caps.length).getD l (0, 1)).1 ≤ caps.getD l 0 * ((loadL paths r caps.length).getD l (0, 1)).2 ↔ sumQ (xQ r) (usN paths l) ≤ capQ caps l) := by
    intro l hl
    obtain ⟨f1, f2⟩ := load_at h hl (0, 1)
    rw [← f2]
    have e : capQ caps l = val (caps.getD l 0, 1) := by rw [val_whole]; rfl
    rw [e, cross (b := (caps.getD l 0, 1)) (fault_pos f1) (Int.le_refl 1)]
    simp
  constructor
  · rintro ⟨ha, hb⟩
    refine ⟨fun f hf => (val_nonneg (hp f hf)).2 (ha _ (getD_mem r f (by omega) (0, 0))), fun l hl => (key l hl).1 (hb l hl)⟩
  · rintro ⟨ha, hb⟩
    refine ⟨fun a hm => ?_, fun l hl => (key l hl).2 (hb l hl)⟩
    obtain ⟨i, hi, rfl⟩ := List.mem_iff_getElem.1 hm
    have := (val_nonneg (hp i (by omega))).1 (ha i (by omega))
    simpa [rP, List.getD, List.getElem?_eq_getElem hi] using this

/-! ### narrow places -/
def fullB (caps : List Int) (paths : List (List Int)) (r : List (Int × Int)) (l : Nat) : Bool := decide (l < caps.length) && decide ((loadL paths r caps.length).getD l (0, 1) = (caps.getD l 0, 1))
def mostB (paths : List (List Int)) (r : List (Int × Int)) (f : Nat) (x : Int) : Bool := (users paths x).all fun u => decide (cmpI ((rP r u.toNat).1 * (rP r f).2) ((rP r f).1 * (rP r u.toNat).2) ≤ 0)
def neckOf (caps : List Int) (paths : List (List Int)) (r : List (Int × Int)) (f : Nat) : Int := ((paths.getD f []).find? fun x => fullB caps paths r x.toNat && mostB paths r f x).getD (-1)
def fairB (caps : List Int) (paths : List (List Int)) (r : List (Int × Int)) : Bool := fitsB caps paths r && (List.range paths.length).all fun f => decide (neckOf caps paths r f ≠ -1)

theorem cmp_le {a b : Int × Int} (ha : 1 ≤ a.2) (hb : 1 ≤ b.2) : cmpI (a.1 * b.2) (b.1 * a.2) ≤ 0 ↔ val a ≤ val b := by
  rw [cross ha hb]; unfold cmpI
  split
  · constructor <;> intro <;> omega
  · split
    · constructor <;> intro <;> omega
    · constructor <;> intro <;> omega
theorem full_iff {caps : List Int} {paths : List (List Int)} {r : List (Int × Int)} (h : loadE caps paths r = 0) {l : Nat} (hl : l < caps.length) : fullB caps paths r l = true ↔ sumQ (xQ r) (usN paths l) = capQ caps l := by
  obtain ⟨f1, f2⟩ := load_at h hl (0, 1)
  have hg := (good_of_net (loadE_0 h).1).1 _ (getD_mem caps l hl 0)
  have e : capQ caps l = val (caps.getD l 0, 1) := by rw [val_whole]; rfl
  have fw : faultP (caps.getD l 0, 1) = 0 := fault_of (mayB_iff.2 (by omega)) (low_self (show gd (caps.getD l 0) 1 = 1 by unfold gd; simp)).1 (low_self (show gd (caps.getD l 0) 1 = 1 by unfold gd; simp)).2
  unfold fullB
  simp only [Bool.and_eq_true, decide_eq_true_eq, hl, true_and]
  constructor
  · intro he
    rw [← f2, he, e]
  · intro he
    exact val_inj' f1 fw (by rw [f2, he, e])
theorem most_iff {caps : List Int} {paths : List (List Int)} {r : List (Int × Int)} (h : loadE caps paths r = 0) {f : Nat} (hf : f < paths.length) {x : Int} (hx : 0 ≤ x) : mostB paths r f x = true ↔ ∀ g ∈ usN paths x.toNat, xQ r g ≤ xQ r f := by
  obtain ⟨h1, h2, h3, h4⟩ := loadE_0 h
  have hp : ∀ f, f < paths.length → 1 ≤ (rP r f).2 := fun f hf => fault_pos ((ratesE_iff r).1 h3 _ (getD_mem r f (by omega) (0, 0)))
  have e : ((x.toNat : Nat) : Int) = x := by omega
  unfold mostB usN
  rw [e, List.all_eq_true]
  simp only [decide_eq_true_eq, List.mem_map]
  constructor
  · rintro hm g ⟨u, hu, rfl⟩
    exact (cmp_le (hp _ (users_lt hu)) (hp f hf)).1 (hm u hu)
  · intro hm u hu
    exact (cmp_le (hp _ (users_lt hu)) (hp f hf)).2 (hm _ ⟨u, hu, rfl⟩)
theorem neck_iff {caps : List Int} {paths : List (List Int)} {r : List (Int × Int)} (h : loadE caps paths r = 0) {f : Nat} (hf : f < paths.length) : neckOf caps paths r f ≠ -1 ↔ NeckQ (usN paths) (capQ caps) caps.length (xQ r) f := by
  have hg := good_of_net (loadE_0 h).1
  have hpath := hg.2.1 _ (getD_mem paths f hf [])
  unfold neckOf
  cases hfi : (paths.getD f []).find? fun x => fullB caps paths r x.toNat && mostB paths r f x with
  | none =>
    simp only [Option.getD_none, ne_eq, not_true_eq_false, false_iff]
    rintro ⟨l, hl, hfl, hs, hm⟩
    obtain ⟨_, hin⟩ := usN_iff.1 hfl
    rw [List.find?_eq_none] at hfi
    have hmem : (l : Int) ∈ paths.getD f [] := by simpa [inB] using hin
    refine hfi (l : Int) hmem ?_
    have e : ((l : Int)).toNat = l := by omega
    rw [Bool.and_eq_true, e]
    exact ⟨(full_iff h hl).2 hs, (most_iff h hf (by omega)).2 (by rw [e]; exact hm)⟩
  | some x =>
    have hx := List.mem_of_find?_eq_some hfi
    have hpx := List.find?_some hfi
    have hb := hpath.2 x hx
    simp only [Option.getD_some]
    rw [Bool.and_eq_true] at hpx
    constructor
    · intro _
      obtain ⟨t1, t2⟩ := toNat_lt hg hf hx
      exact ⟨x.toNat, t1, t2, (full_iff h t1).1 hpx.1, (most_iff h hf hb.1).1 hpx.2⟩
    · intro _; omega
theorem fair_iff {caps : List Int} {paths : List (List Int)} {r : List (Int × Int)} (h : loadE caps paths r = 0) : fairB caps paths r = true ↔ FitsQ (usN paths) (capQ caps) caps.length paths.length (xQ r) ∧ ∀ f, f < paths.length → NeckQ (usN paths) (capQ caps) caps.length (xQ r) f := by
  unfold fairB
  rw [Bool.and_eq_true, fits_iff h, List.all_eq_true]
  simp only [List.mem_range, decide_eq_true_eq]
  constructor
  · rintro ⟨h1, h2⟩; exact ⟨h1, fun f hf => (neck_iff h hf).1 (h2 f hf)⟩
  · rintro ⟨h1, h2⟩; exact ⟨h1, fun f hf => (neck_iff h hf).2 (h2 f hf)⟩

/-! ### rates that are fair can be loaded -/
theorem addUp_some {r : List (Int × Int)} {D : Int} (hD1 : 1 ≤ D) (hD2 : D ≤ 46656) : ∀ (us : List Int) (s : Int × Int), Over D s → 0 ≤ val s → (∀ u ∈ us, u.toNat < r.length ∧ Over D (rP r u.toNat) ∧ 0 ≤ xQ r u.toNat) → val s + sumQ (xQ r) (us.map Int.toNat) ≤ 1000 → ∃ t, addUp r us s = some t := by
  intro us
  induction us with
  | nil => intro s _ _ _ _; exact ⟨s, rfl⟩
  | cons u us ih =>
    intro s hs h0 hu hle
    obtain ⟨u1, u2, u3⟩ := hu u (by simp)
    have hsum := over_sum hs u2
    have hv := val_sum hs.1 u2.1
    have hnn : (0 : Rat) ≤ sumQ (xQ r) (us.map Int.toNat) := by
      have := sumQ_le (x := fun _ => 0) (y := xQ r) (l := us.map Int.toNat) (fun g hg => by
        obtain ⟨v, hv, rfl⟩ := List.mem_map.1 hg
        exact (hu v (by simp [hv])).2.2)
      have e : ∀ l : List Nat, sumQ (fun _ => 0) l = 0 := by
        intro l
        induction l with
        | nil => rfl
        | cons a r ih => simp only [sumQ, ih]; grind
      rw [e] at this
      exact this
    simp only [List.map_cons, sumQ] at hle
    have hx : xQ r u.toNat = val (rP r u.toNat) := rfl
    have hf : faultP (sumP s (rP r u.toNat)) = 0 := over_fault hsum hD1 (by omega) (by grind) (by grind)
    simp only [addUp]
    rw [rP_eq u1, if_pos (show mayP (sumP s (rP r u.toNat)) = true from mayB_of_fault hf)]
    exact ih _ hsum (by grind) (fun v hv => hu v (by simp [hv])) (by grind)
theorem fair_load {caps : List Int} {paths : List (List Int)} {x : List (Int × Int)} (hn : netE caps paths = 0) (hx : Fair caps paths x) : loadE caps paths x = 0 := by
  have hg := good_of_net hn
  obtain ⟨D, hD1, hD2, hov⟩ := hx.bottom
  refine loadE_mk hn hx.len ((ratesE_iff x).2 fun a ha => ?_) ?_
  · obtain ⟨i, hi, rfl⟩ := List.mem_iff_getElem.1 ha
    have := (hx.right i (by have := hx.len; omega)).1
    simpa [rP, List.getD, List.getElem?_eq_getElem hi] using this
  · unfold allOk
    rw [List.all_eq_true]
    intro l hl
    have hl' := List.mem_range.1 hl
    have h0 : val (0, 1) = 0 := by rw [val_whole]; rfl
    obtain ⟨t, ht⟩ := addUp_some hD1 hD2 (users paths l) (0, 1) (over_whole D 0) (by rw [h0]; exact Rat.le_refl) (fun u hu => by
      have := users_lt hu
      exact ⟨by have := hx.len; omega, hov _ this, Rat.le_of_lt (hx.right _ this).2.1⟩) (by
      have h1 := hx.fits.2 l hl'
      have h2 := (capQ_bd hg.1 hl').2
      have e : (users paths (l : Int)).map Int.toNat = usN paths l := rfl
      rw [h0, e]
      grind)
    rw [loadOf, ht]; rfl
/-- only one is fair -/
theorem only_one {caps : List Int} {paths : List (List Int)} {r : List (Int × Int)} (h : loadE caps paths r = 0) : fairB caps paths r = true ↔ (fill caps paths).1 = r := by
  obtain ⟨h1, h2, h3, h4⟩ := loadE_0 h
  have hg := good_of_net h1
  have hx := (fill_fair hg).1
  generalize (fill caps paths).1 = x at hx
  constructor
  · intro hf
    obtain ⟨f1, f2⟩ := (fair_iff h).1 hf
    have := only (fun l _ g hg => usN_lt hg) f1 hx.fits f2 hx.neck
    apply List.ext_getElem
    · rw [hx.len, h2]
    · intro i i1 i2
      have hi : i < paths.length := by have := hx.len; omega
      have e := this i hi
      have fr : faultP (rP r i) = 0 := (ratesE_iff r).1 h3 _ (getD_mem r i (by omega) (0, 0))
      have := val_inj' (hx.right i hi).1 fr e.symm
      simpa [rP, List.getD, List.getElem?_eq_getElem i1, List.getElem?_eq_getElem i2] using this
  · rintro rfl
    exact (fair_iff h).2 ⟨hx.fits, hx.neck⟩
end Go.Proofs.YtdldgefahgojaakDoor.Fl

/- Short lists that a law writes out, and a log beside them. -/
namespace Go.Proofs.YtdldgefahgojaakDoor
namespace Ev
open Go.RowKit Fr Ns Fl
set_option linter.unusedSimpArgs false
set_option linter.unusedVariables false

theorem lit_ints (u : World) (l : List Int) (A : Array Value) (hA : A.toList = l.map (Value.int .i64)) (n : Nat) (hn : n = l.length) (hl : l.length ≤ 6) : IntsAt (fun b => u.heap.size ≤ b) (u.alloc (.cells A 3)) (.slice (some ⟨u.heap.size, 0, none⟩) n n) l := by
  subst hn
  have hr : RowAt (u.alloc (.cells A 3)) u.heap.size 3 (l.map (Value.int .i64)) := row_made u A 3 u.heap.size _ rfl hA
  refine ⟨_, l.length, rfl, ⟨Nat.le_refl _, by omega⟩, .inr ⟨u.heap.size, 0, rfl, fun i hi => ?_, Nat.le_refl _⟩⟩
  rw [Nat.zero_add]
  exact hr.cell (by simp [List.getD, List.getElem?_eq_getElem hi])
theorem nil_intsL {Q : Nat → Prop} (u : World) : IntsAt Q u (.slice none 0 0) [] := ⟨none, 0, rfl, ⟨Nat.le_refl _, by simp⟩, .inl rfl⟩
theorem LogAt.few {X : LogFace} {w u : World} {a : Addr} {m : Nat} {s : LogS} (h : LogAt X w a m s u) : s.marks.length ≤ m := h.choose_spec.2.2.1
theorem LogAt.to {X : LogFace} {w u : World} {a : Addr} {m m' : Nat} {s : LogS} (h : LogAt X w a m s u) (hm : s.marks.length ≤ m') : LogAt X w a m' s u := by
  obtain ⟨F, h1, h2, h3, h4, h5⟩ := h
  exact ⟨F, h1, h2, hm, h4, h5⟩
end Ev
end Go.Proofs.YtdldgefahgojaakDoor

/- Six, and no more: the document's log under the law LogMany. No Go in it. -/
namespace Go.Proofs.YtdldgefahgojaakDoor.Ev
open Ns
set_option linter.unusedSimpArgs false
set_option linter.unusedVariables false

/-- behind i times the same flow over one link -/
structure ManyS (i : Nat) (s : LogS) : Prop where
  caps : s.caps = [9]
  goes : s.stopped = false ∧ s.left = -1
  flows : s.flows = List.replicate (min i 6) [0]
  none : i = 0 → s.bytes = 0
theorem many0 : ManyS 0 (log0 [9]) := ⟨rfl, ⟨rfl, rfl⟩, rfl, fun _ => rfl⟩
theorem many_add {i : Nat} {s : LogS} (h : ManyS i s) : addLE s [0] = (if i < 6 then 0 else 4) ∧ ∀ n, ManyS (i + 1) (addLS s [0] n) := by
  obtain ⟨g1, g2⟩ := h.goes
  have hl : s.flows.length = min i 6 := by rw [h.flows]; simp
  by_cases hi : i < 6
  · have e : addF s [0] = 0 := by
      unfold addF
      rw [if_neg (by rw [g1]; decide), if_neg (by omega), h.caps]
      decide
    have hz : ¬ s.left = 0 := by omega
    refine ⟨by rw [addLE, lastE, if_pos e, if_neg hz, if_pos hi], fun n => ?_⟩
    rw [addLS, if_pos e, putS, if_neg hz]
    refine ⟨h.caps, ⟨g1, ?_⟩, ?_, fun hh => by omega⟩
    · show (if 0 < s.left then s.left - 1 else s.left) = -1
      rw [if_neg (by omega)]; exact g2
    · show flowsL (s.done ++ [s.flows ++ [[0]]]) = _
      rw [flowsL_snoc, h.flows, show min (i + 1) 6 = min i 6 + 1 by omega, List.replicate_succ']
  · have e : addF s [0] = 4 := by
      unfold addF
      rw [if_neg (by rw [g1]; decide), if_pos (by omega)]
    refine ⟨by rw [addLE, lastE, e, if_neg (by decide), if_neg hi], fun n => ?_⟩
    rw [addLS, if_neg (by rw [e]; decide)]
    exact ⟨h.caps, h.goes, by rw [h.flows]; congr 1; omega, fun hh => by omega⟩
end Go.Proofs.YtdldgefahgojaakDoor.Ev

/- Over one link all get alike, in one round. No Go in it. -/
namespace Go.Proofs.YtdldgefahgojaakDoor.Fl
open Fr Ns Ld
set_option linter.unusedSimpArgs false

theorem usersFrom_alike : ∀ (m i : Nat), usersFrom 0 i (List.replicate m [0]) = (List.range m).map fun j : Nat => ((i + j : Nat) : Int) := by
  intro m
  induction m with
  | zero => intro i; rfl
  | succ m ih =>
    intro i
    rw [List.replicate_succ, usersFrom, if_pos (by decide), ih, List.range_succ_eq_map, List.map_cons, List.map_map]
    congr 1
    apply List.map_congr_left
    intro j _
    simp only [Function.comp]
    congr 1
    omega
theorem usN_alike (m : Nat) : usN (List.replicate m [0]) 0 = List.range m := by
  unfold usN users
  rw [show ((0 : Nat) : Int) = 0 from rfl, usersFrom_alike, List.map_map]
  apply List.ext_getElem
  · simp
  · intro i h1 h2
    simp
theorem sumQ_const {x : Nat → Rat} {q : Rat} : ∀ l : List Nat, (∀ g ∈ l, x g = q) → sumQ x l = q * (l.length : Nat) := by
  intro l
  induction l with
  | nil => intro _; simp [sumQ]
  | cons u us ih =>
    intro h
    simp only [sumQ, List.length_cons]
    rw [h u (by simp), ih (fun g hg => h g (by simp [hg])), Rat.natCast_add]
    grind
theorem one_round {x : Nat → Rat} {q b : Rat} {rs : List (List Int)} (hr : Rises x b rs) (hn : rs.flatten ≠ []) (hq : ∀ u ∈ rs.flatten, x u.toNat = q) : rs.length = 1 := by
  cases rs with
  | nil => simp at hn
  | cons a rs =>
    cases rs with
    | nil => rfl
    | cons c rs =>
      exfalso
      obtain ⟨h1, v, _, hv, h2, v', hlt, hv', _⟩ := hr
      obtain ⟨u, hu⟩ := List.exists_mem_of_ne_nil _ h1
      obtain ⟨u', hu'⟩ := List.exists_mem_of_ne_nil _ h2
      have e1 := hq u (by simp [hu])
      have e2 := hq u' (by simp [hu'])
      rw [hv u hu] at e1
      rw [hv' u' hu'] at e2
      grind
theorem good_alike {c : Int} {m : Nat} (h1 : 1 ≤ c) (h2 : c ≤ 1000) (m1 : 1 ≤ m) (m6 : m ≤ 6) : Good [c] (List.replicate m [0]) := by
  refine ⟨fun x hx => ?_, fun p hp => ?_, by simpa using m6, by simp; omega⟩
  · simp at hx; subst hx; exact ⟨h1, h2⟩
  · rw [List.eq_of_mem_replicate hp]
    refine ⟨by decide, fun x hx => ?_⟩
    simp at hx
    subst hx
    simp
theorem fill_alike {c : Int} {m : Nat} (h1 : 1 ≤ c) (h2 : c ≤ 1000) (m1 : 1 ≤ m) (m6 : m ≤ 6) :
    (fill [c] (List.replicate m [0])).1 = List.replicate m (lowT c m, lowB c m) ∧ (fill [c] (List.replicate m [0])).2.length = 1 := by
  have hg := good_alike h1 h2 m1 m6
  obtain ⟨hx, hr, _, hfl⟩ := fill_fair hg
  have hm : (1 : Int) ≤ (m : Int) := by omega
  have hq : val (lowT c m, lowB c m) * ((m : Int) : Rat) = (c : Rat) := by
    rw [val_low hm]
    exact val_mul (a := (c, (m : Int))) hm
  have hmp := castPos hm
  have hc0 : (0 : Rat) < (c : Rat) := castPos h1
  have hq0 : 0 ≤ val (lowT c m, lowB c m) := by
    apply Classical.byContradiction
    intro hn
    have : val (lowT c m, lowB c m) * ((m : Int) : Rat) ≤ 0 * ((m : Int) : Rat) := Rat.mul_le_mul_of_nonneg_right (by grind) (Rat.le_of_lt hmp)
    rw [hq, Rat.zero_mul] at this
    grind
  have hlen : (List.replicate m ([0] : List Int)).length = m := by simp
  have hxr : ∀ f, f < m → xQ (List.replicate m (lowT c m, lowB c m)) f = val (lowT c m, lowB c m) := fun f hf => by
    unfold xQ rP; rw [getD_replicate _ _ _ _ hf]
  have hs : sumQ (xQ (List.replicate m (lowT c m, lowB c m))) (usN (List.replicate m [0]) 0) = capQ [c] 0 := by
    rw [usN_alike, sumQ_const _ (fun g hg => hxr g (List.mem_range.1 hg)), List.length_range]
    have : ((m : Nat) : Rat) = ((m : Int) : Rat) := by rw [Rat.intCast_natCast]
    rw [this, hq]; rfl
  have hfit : FitsQ (usN (List.replicate m [0])) (capQ [c]) ([c] : List Int).length (List.replicate m ([0] : List Int)).length (xQ (List.replicate m (lowT c m, lowB c m))) := by
    refine ⟨fun f hf => ?_, fun l hl => ?_⟩
    · rw [hlen] at hf; rw [hxr f hf]; exact hq0
    · have : l = 0 := by simpa using hl
      subst this
      rw [hs]; exact Rat.le_refl
  have hnk : ∀ f, f < (List.replicate m ([0] : List Int)).length → NeckQ (usN (List.replicate m [0])) (capQ [c]) ([c] : List Int).length (xQ (List.replicate m (lowT c m, lowB c m))) f := by
    intro f hf
    rw [hlen] at hf
    refine ⟨0, by simp, by rw [usN_alike]; exact List.mem_range.2 hf, hs, fun g hg => ?_⟩
    rw [usN_alike] at hg
    rw [hxr f hf, hxr g (List.mem_range.1 hg)]
    exact Rat.le_refl
  have he := only (fun l _ g hg => usN_lt hg) hfit hx.fits hnk hx.neck
  rw [hlen] at he
  have hfq : faultP (lowT c m, lowB c m) = 0 := by
    have h3 : val (lowT c m, lowB c m) ≤ 1000 := by
      have := (hx.right 0 (by rw [hlen]; omega)).2.2
      rw [← he 0 (by omega), hxr 0 (by omega)] at this
      exact this
    exact over_fault (D := (m : Int)) (over_of (m := c) hm rfl) hm (by omega) hq0 h3
  refine ⟨?_, ?_⟩
  · apply List.ext_getElem
    · rw [hx.len]; simp
    · intro i i1 i2
      have hi : i < m := by simpa using i2
      have e := he i hi
      rw [hxr i hi] at e
      have := val_inj' (hx.right i (by rw [hlen]; exact hi)).1 hfq e.symm
      simpa [rP, List.getD, List.getElem?_eq_getElem i1] using this
  · refine one_round hr ?_ (q := val (lowT c m, lowB c m)) (fun u hu => ?_)
    · intro e
      have := (hfl 0).2 ⟨0, rfl, by rw [hlen]; omega⟩
      rw [e] at this
      cases this
    · obtain ⟨f, rfl, hf⟩ := (hfl u).1 hu
      rw [hlen] at hf
      have e : ((f : Int)).toNat = f := by omega
      rw [e, ← he f hf, hxr f hf]
end Go.Proofs.YtdldgefahgojaakDoor.Fl

/- The records of the landed log: what bytes an Add and a Drop write down, and what is found among them again. No Go in it. -/
namespace Go.Proofs.YtdldgefahgojaakDoor.Ev
open Ns
set_option linter.unusedSimpArgs false
set_option linter.unusedVariables false

/-- a record: its first byte tells how many are behind it (0: one) -/
def RecR (r : List Nat) : Prop := 2 ≤ r.length ∧ r.length = 1 + max (r.getD 0 0) 1 ∧ r.length ≤ 7 ∧ ∀ x ∈ r, x ≤ 255
/-- what a record makes of the flows -/
def stepR (f : Flows) (r : List Nat) : Flows := if r.getD 0 0 = 0 then lessF f (r.getD 1 0 : Nat) else f ++ [(r.drop 1).map fun (x : Nat) => (x : Int)]
def doneR (f : Flows) : List (List Nat) → List Flows
  | [] => [f]
  | r :: rs => f :: doneR (stepR f r) rs
def marksR (p : Nat) : List (List Nat) → List Nat
  | [] => [p]
  | r :: rs => p :: marksR (p + r.length) rs
/-- a record may stand behind these flows -/
def MayR (f : Flows) (r : List Nat) : Prop := RecR r ∧ (r.getD 0 0 = 0 → r.getD 1 0 < f.length) ∧ (r.getD 0 0 ≠ 0 → f.length < 6)
def AllR (f : Flows) : List (List Nat) → Prop
  | [] => True
  | r :: rs => MayR f r ∧ AllR (stepR f r) rs

theorem doneR_len (rs : List (List Nat)) : ∀ f, (doneR f rs).length = rs.length + 1 := by
  induction rs with
  | nil => intro f; rfl
  | cons r rs ih => intro f; simp [doneR, ih]
theorem marksR_len (rs : List (List Nat)) : ∀ p, (marksR p rs).length = rs.length + 1 := by
  induction rs with
  | nil => intro f; rfl
  | cons r rs ih => intro f; simp [marksR, ih]
theorem getD_cons_succ' {α : Type} (x d : α) (l : List α) (k : Nat) : (x :: l).getD (k + 1) d = l.getD k d := by simp [List.getD]
theorem flowsL_cons (f : Flows) (d : List Flows) (h : 0 < d.length) : flowsL (f :: d) = flowsL d := by
  unfold flowsL
  rw [List.length_cons, show d.length + 1 - 1 = (d.length - 1) + 1 by omega, getD_cons_succ']
theorem topM_cons (p : Nat) (m : List Nat) (h : 0 < m.length) : topM (p :: m) = topM m := by
  unfold topM
  rw [List.length_cons, show m.length + 1 - 1 = (m.length - 1) + 1 by omega, getD_cons_succ']
theorem doneR_snoc (rs : List (List Nat)) (r : List Nat) : ∀ f, doneR f (rs ++ [r]) = doneR f rs ++ [stepR (flowsL (doneR f rs)) r] := by
  induction rs with
  | nil => intro f; rfl
  | cons x rs ih =>
    intro f
    simp only [List.cons_append, doneR, ih]
    rw [flowsL_cons _ _ (by rw [doneR_len]; omega)]
theorem marksR_snoc (rs : List (List Nat)) (r : List Nat) : ∀ p, marksR p (rs ++ [r]) = marksR p rs ++ [topM (marksR p rs) + r.length] := by
  induction rs with
  | nil => intro f; rfl
  | cons x rs ih =>
    intro p
    simp only [List.cons_append, marksR, ih]
    rw [topM_cons _ _ (by rw [marksR_len]; omega)]
theorem allR_snoc (rs : List (List Nat)) (r : List Nat) : ∀ f, AllR f rs → MayR (flowsL (doneR f rs)) r → AllR f (rs ++ [r]) := by
  induction rs with
  | nil => intro f _ h; exact ⟨h, trivial⟩
  | cons x rs ih =>
    intro f h hm
    refine ⟨h.1, ih _ h.2 ?_⟩
    rw [doneR, flowsL_cons _ _ (by rw [doneR_len]; omega)] at hm
    exact hm
theorem doneR_take (rs : List (List Nat)) : ∀ f k, (doneR f rs).take (k + 1) = doneR f (rs.take k) := by
  induction rs with
  | nil => intro f k; cases k <;> simp [doneR]
  | cons r rs ih =>
    intro f k
    cases k with
    | zero => simp [doneR]
    | succ k => simp only [doneR, List.take_succ_cons, ih]
theorem marksR_take (rs : List (List Nat)) : ∀ p k, (marksR p rs).take (k + 1) = marksR p (rs.take k) := by
  induction rs with
  | nil => intro f k; cases k <;> simp [marksR]
  | cons r rs ih =>
    intro f k
    cases k with
    | zero => simp [marksR]
    | succ k => simp only [marksR, List.take_succ_cons, ih]
theorem allR_take (rs : List (List Nat)) : ∀ f k, AllR f rs → AllR f (rs.take k) := by
  induction rs with
  | nil => intro f k _; cases k <;> exact trivial
  | cons r rs ih =>
    intro f k h
    cases k with
    | zero => exact trivial
    | succ k => exact ⟨h.1, ih _ _ h.2⟩
theorem marksR_at (rs : List (List Nat)) : ∀ p k, k ≤ rs.length → (marksR p rs).getD k 0 = p + (rs.take k).flatten.length := by
  induction rs with
  | nil => intro p k h; simp at h; subst h; simp [marksR]
  | cons r rs ih =>
    intro p k h
    cases k with
    | zero => simp [marksR]
    | succ k =>
      rw [marksR, getD_cons_succ', ih _ _ (by simpa using h)]
      simp only [List.take_succ_cons, List.flatten_cons, List.length_append]
      omega
theorem doneR_at (rs : List (List Nat)) : ∀ f k, k < rs.length → (doneR f rs).getD (k + 1) [] = stepR ((doneR f rs).getD k []) (rs.getD k []) := by
  induction rs with
  | nil => intro f k h; simp at h
  | cons r rs ih =>
    intro f k h
    cases k with
    | zero => cases rs <;> simp [doneR]
    | succ k =>
      rw [doneR, getD_cons_succ', getD_cons_succ', getD_cons_succ', ih _ _ (by simpa using h)]
theorem allR_at (rs : List (List Nat)) : ∀ f k, k < rs.length → AllR f rs → MayR ((doneR f rs).getD k []) (rs.getD k []) := by
  induction rs with
  | nil => intro f k h; simp at h
  | cons r rs ih =>
    intro f k h ha
    cases k with
    | zero => simpa [doneR] using ha.1
    | succ k =>
      rw [doneR, getD_cons_succ', getD_cons_succ']
      exact ih _ _ (by simpa using h) ha.2
theorem topM_marks (rs : List (List Nat)) : topM (marksR 0 rs) = rs.flatten.length := by
  unfold topM
  rw [marksR_len, Nat.add_sub_cancel, marksR_at _ _ _ (Nat.le_refl _), List.take_length, Nat.zero_add]

/-- how the bytes B are those of a log: its records, and behind them what is there of one at which it stopped -/
structure BytesR (s : LogS) (B : List Nat) (rs : List (List Nat)) (half : List Nat) : Prop where
  all : AllR [] rs
  done : s.done = doneR [] rs
  marks : s.marks = marksR 0 rs
  bytes : B = rs.flatten ++ half
  torn : half = [] ∨ ∃ r, RecR r ∧ half = r.take (r.length / 2)
  small : ∀ x ∈ B, x ≤ 255

/-- where record k begins -/
def posR (rs : List (List Nat)) (k : Nat) : Nat := (rs.take k).flatten.length
theorem posR_0 (rs : List (List Nat)) : posR rs 0 = 0 := by simp [posR]
theorem posR_step (rs : List (List Nat)) (k : Nat) (h : k < rs.length) : posR rs (k + 1) = posR rs k + (rs.getD k []).length := by
  unfold posR
  have e : rs.take (k + 1) = rs.take k ++ [rs.getD k []] := by rw [List.take_add_one, List.getElem?_eq_getElem h]; simp [List.getD, List.getElem?_eq_getElem h]
  rw [e, List.flatten_append, List.length_append, List.flatten_singleton]
theorem posR_all (rs : List (List Nat)) (k : Nat) (h : rs.length ≤ k) : posR rs k = rs.flatten.length := by unfold posR; rw [List.take_of_length_le h]
theorem posR_mono (rs : List (List Nat)) : ∀ k j, k ≤ j → posR rs k ≤ posR rs j := by
  intro k j h
  induction j with
  | zero => obtain rfl : k = 0 := by omega
            exact Nat.le_refl _
  | succ j ih =>
    by_cases e : k = j + 1
    · subst e; exact Nat.le_refl _
    · have h1 := ih (by omega)
      by_cases hj : j < rs.length
      · rw [posR_step rs j hj]; omega
      · rw [posR_all rs (j + 1) (by omega)]
        rw [posR_all rs j (by omega)] at h1
        exact h1
/-- a byte of record k -/
theorem at_rec {rs : List (List Nat)} {half : List Nat} {k i : Nat} (hk : k < rs.length) (hi : i < (rs.getD k []).length) : (rs.flatten ++ half).getD (posR rs k + i) 0 = (rs.getD k []).getD i 0 := by
  have e : rs.flatten = (rs.take k).flatten ++ ((rs.getD k []) ++ (rs.drop (k + 1)).flatten) := by
    conv => lhs; rw [← List.take_append_drop k rs]
    rw [List.flatten_append]
    congr 1
    rw [List.drop_eq_getElem_cons hk, List.flatten_cons]
    simp [List.getD, List.getElem?_eq_getElem hk]
  rw [e, List.append_assoc, List.getD, List.getElem?_append_right (by unfold posR; omega)]
  rw [show posR rs k + i - (rs.take k).flatten.length = i by unfold posR; omega, List.append_assoc, List.getElem?_append_left hi]
  rfl
theorem at_half {rs : List (List Nat)} {half : List Nat} {i : Nat} : (rs.flatten ++ half).getD (posR rs rs.length + i) 0 = half.getD i 0 := by
  rw [posR_all rs _ (Nat.le_refl _), List.getD, List.getElem?_append_right (by omega), show rs.flatten.length + i - rs.flatten.length = i by omega]
  rfl
theorem leftK_top (m : List Nat) (H : Nat) : ∀ k j, j < k → leftK m H k < j → ¬ m.getD j 0 ≤ H := by
  intro k
  induction k with
  | zero => intro j h; omega
  | succ k ih =>
    intro j h h2
    unfold leftK at h2
    split at h2
    · omega
    · by_cases e : j = k
      · subst e; assumption
      · exact ih j (by omega) h2
/-- what the bytes up to H hold: N whole records, and then none -/
theorem bytes_upto {s : LogS} {B : List Nat} {rs : List (List Nat)} {half : List Nat} (h : BytesR s B rs half) {H : Nat} (hH : H ≤ B.length) :
    ∃ N, N = leftN' s.marks H ∧ N ≤ rs.length ∧ (∀ k, k < N → posR rs (k + 1) = posR rs k + (1 + max (B.getD (posR rs k) 0) 1) ∧ posR rs (k + 1) ≤ H) ∧ posR rs N ≤ H ∧
      (posR rs N < H → H < posR rs N + (1 + max (B.getD (posR rs N) 0) 1)) := by
  refine ⟨leftN' s.marks H, rfl, ?_⟩
  have hm := h.marks
  have hat : ∀ k, k ≤ rs.length → s.marks.getD k 0 = posR rs k := fun k hk => by rw [hm, marksR_at rs 0 k hk, Nat.zero_add]; rfl
  have hlen : s.marks.length = rs.length + 1 := by rw [hm, marksR_len]
  have h0 : s.marks.getD 0 0 ≤ H := by rw [hat 0 (by omega), posR_0]; exact Nat.zero_le _
  have hbd := leftK_bd s.marks H h0 s.marks.length
  have htop := leftK_top s.marks H s.marks.length
  unfold leftN'
  generalize leftK s.marks H s.marks.length = N at hbd htop ⊢
  have hN : N ≤ rs.length := by omega
  have hNH : posR rs N ≤ H := by have := hbd.2; rwa [hat N hN] at this
  have hsz : ∀ k, k < rs.length → posR rs (k + 1) = posR rs k + (1 + max (B.getD (posR rs k) 0) 1) := by
    intro k hk
    have hr := (allR_at rs [] k hk h.all).1
    have e := at_rec (half := half) (i := 0) hk (by have := hr.1; omega)
    rw [← h.bytes, Nat.add_zero] at e
    rw [posR_step rs k hk, e, hr.2.1]
  refine ⟨hN, fun k hk => ⟨hsz k (by omega), Nat.le_trans (posR_mono rs _ _ hk) hNH⟩, hNH, fun hlt => ?_⟩
  by_cases e : N < rs.length
  · have := htop (N + 1) (by omega) (by omega)
    rw [hat (N + 1) (by omega)] at this
    rw [← hsz N e]; omega
  · obtain rfl : N = rs.length := by omega
    have e0 := at_half (rs := rs) (half := half) (i := 0)
    rw [← h.bytes, Nat.add_zero] at e0
    have hB : B.length = posR rs rs.length + half.length := by rw [h.bytes, List.length_append, posR_all rs _ (Nat.le_refl _)]
    rcases h.torn with rfl | ⟨r, hr, rfl⟩
    · simp at hB; omega
    · rw [e0]
      have hl : (r.take (r.length / 2)).length = r.length / 2 := by rw [List.length_take]; omega
      have h2 := hr.1
      have e1 : (r.take (r.length / 2)).getD 0 0 = r.getD 0 0 := getD_take _ _ _ _ (by omega)
      have := hr.2.1
      rw [e1]; omega
/-- a path as a record -/
def addR (p : List Int) : List Nat := p.length :: p.map Int.toNat
def dropR (i : Int) : List Nat := [0, i.toNat]
theorem recR_add {L : Nat} {p : List Int} (hL : L ≤ 6) (hp : pathE L p = 0) (h1 : 1 ≤ p.length) (h6 : p.length ≤ 6) (hb : ∀ x ∈ p, 0 ≤ x ∧ x < L) : RecR (addR p) := by
  refine ⟨by simp [addR]; omega, by simp [addR]; omega, by simp [addR]; omega, fun x hx => ?_⟩
  simp only [addR, List.mem_cons, List.mem_map] at hx
  rcases hx with rfl | ⟨y, hy, rfl⟩
  · omega
  · have := hb y hy; omega
theorem stepR_add {f : Flows} {p : List Int} (h1 : 1 ≤ p.length) (hb : ∀ x ∈ p, 0 ≤ x) : stepR f (addR p) = f ++ [p] := by
  have e0 : (addR p).getD 0 0 = p.length := by simp [addR]
  unfold stepR
  rw [e0, if_neg (by omega)]
  congr 2
  simp only [addR, List.drop_succ_cons, List.drop_zero, List.map_map]
  conv => rhs; rw [← List.map_id p]
  refine List.map_congr_left fun x hx => ?_
  have := hb x hx
  simp only [Function.comp, id]
  omega
theorem recR_drop {i : Int} (h : i < 256) : RecR (dropR i) := by
  refine ⟨by simp [dropR], by simp [dropR], by simp [dropR], fun x hx => ?_⟩
  simp [dropR] at hx
  rcases hx with rfl | rfl <;> omega
theorem stepR_drop {f : Flows} {i : Int} (h : 0 ≤ i) : stepR f (dropR i) = lessF f i := by
  have e0 : (dropR i).getD 0 0 = 0 := rfl
  have e1 : (dropR i).getD 1 0 = i.toNat := rfl
  unfold stepR
  rw [e0, if_pos rfl, e1]
  congr 1
  omega
/-- a record more -/
theorem BytesR.put {s : LogS} {B : List Nat} {rs : List (List Nat)} (h : BytesR s B rs []) {r : List Nat} (hr : MayR s.flows r) (hB : s.bytes = B.length) (hl : s.left ≠ 0) : BytesR (putS s r.length (stepR s.flows r)) (B ++ r) (rs ++ [r]) [] := by
  have hput : putS s r.length (stepR s.flows r) = { s with done := s.done ++ [stepR s.flows r], marks := s.marks ++ [s.bytes + r.length], bytes := s.bytes + r.length, left := if 0 < s.left then s.left - 1 else s.left } := by unfold putS; rw [if_neg hl]
  have hf : s.flows = flowsL (doneR [] rs) := by unfold LogS.flows; rw [h.done]
  have hBl : B.length = rs.flatten.length := by rw [h.bytes]; simp
  rw [hput]
  refine ⟨allR_snoc _ _ _ h.all (hf ▸ hr), ?_, ?_, ?_, .inl rfl, fun x hx => ?_⟩
  · show s.done ++ [stepR s.flows r] = _
    rw [doneR_snoc, h.done, hf]
  · show s.marks ++ [s.bytes + r.length] = _
    rw [marksR_snoc, h.marks, topM_marks, hB, hBl]
  · rw [h.bytes]; simp
  · rcases List.mem_append.1 hx with hx | hx
    · exact h.small x hx
    · exact hr.1.2.2.2 x hx
/-- half of one more -/
theorem BytesR.half {s : LogS} {B : List Nat} {rs : List (List Nat)} (h : BytesR s B rs []) {r : List Nat} (hr : RecR r) (f : Flows) (hl : s.left = 0) : BytesR (putS s r.length f) (B ++ r.take (r.length / 2)) rs (r.take (r.length / 2)) := by
  have hput : putS s r.length f = { s with bytes := s.bytes + r.length / 2, stopped := true } := by unfold putS; rw [if_pos hl]
  rw [hput]
  refine ⟨h.all, h.done, h.marks, ?_, .inr ⟨r, hr, rfl⟩, fun x hx => ?_⟩
  · rw [h.bytes]; simp
  · rcases List.mem_append.1 hx with hx | hx
    · exact h.small x hx
    · exact hr.2.2.2 x (List.mem_of_mem_take hx)
/-- behind a crash -/
theorem BytesR.crash {s : LogS} {B : List Nat} {rs : List (List Nat)} {half : List Nat} (h : BytesR s B rs half) {keep : Int} {N : Nat} (hN : N = leftN' s.marks (highN s keep)) (hl : N ≤ rs.length) : BytesR (crashS s keep) (B.take (posR rs N)) (rs.take N) [] := by
  refine ⟨allR_take _ _ _ h.all, ?_, ?_, ?_, .inl rfl, fun x hx => h.small x (List.mem_of_mem_take hx)⟩
  · show s.done.take (leftN' s.marks (highN s keep) + 1) = _
    rw [← hN, h.done, doneR_take]
  · show s.marks.take (leftN' s.marks (highN s keep) + 1) = _
    rw [← hN, h.marks, marksR_take]
  · have e : rs.flatten = (rs.take N).flatten ++ (rs.drop N).flatten := by rw [← List.flatten_append, List.take_append_drop]
    rw [h.bytes, List.append_nil, e, List.append_assoc]
    exact List.take_left' rfl
end Go.Proofs.YtdldgefahgojaakDoor.Ev

/- The landed log in memory (package log): a struct, the links, a row of bytes, a row of flows; and what a call leaves of it. -/
namespace Go.Proofs.YtdldgefahgojaakDoor
namespace Ev
open Go.RowKit Fr Ns Fl
set_option linter.unusedSimpArgs false
set_option linter.unusedVariables false

theorem infoByte : (Tryd.prog.info? 5).map (fun i => (i.zero, i.size, i.bytes)) = some (some (.int .u8 0), 1, 1) := by kernel_rfl
/-- bytes as cells -/
def u8s (B : List Nat) : List Value := B.map fun (x : Nat) => Value.int .u8 (x : Int)
theorem u8s_length (B : List Nat) : (u8s B).length = B.length := by simp [u8s]
theorem u8s_append (B C : List Nat) : u8s (B ++ C) = u8s B ++ u8s C := by simp [u8s]
theorem u8s_take (B : List Nat) (n : Nat) : u8s (B.take n) = (u8s B).take n := by simp [u8s, List.map_take]
theorem u8s_at {B : List Nat} {k : Nat} (h : k < B.length) : (u8s B)[k]? = some (.int .u8 ((B.getD k 0 : Nat) : Int)) := by simp [u8s, List.getD, List.getElem?_eq_getElem h]
theorem ones_u8 (B : List Nat) : ∀ u ∈ u8s B, u.oneCell' = true := by
  intro u hu
  obtain ⟨x, _, rfl⟩ := List.mem_map.1 hu
  rfl
/-- a row of the thing's own, wherever its block is kept -/
theorem own_keep {w w' : World} {base : Nat} {e : TypeId} {size n : Nat} {v : Value} {xs : List Value} (hk : ∀ g, v.ownBlock = some g → w'.heap[g]? = w.heap[g]?) (h : w.ownsRow base e size v n xs) : w'.ownsRow base e size v n xs := by
  obtain ⟨h0, h⟩ := h
  refine ⟨h0, ?_⟩
  rcases h with h | ⟨g, cap, cur, e1, hb, hg, hr⟩
  · exact .inl h
  · exact .inr ⟨g, cap, cur, e1, hb, by rw [hk g (by rw [e1]; rfl)]; exact hg, hr⟩
theorem own_base {w : World} {base base' : Nat} {e : TypeId} {size n : Nat} {v : Value} {xs : List Value} (hb : ∀ g, v.ownBlock = some g → base' ≤ g) (h : w.ownsRow base e size v n xs) : w.ownsRow base' e size v n xs := by
  obtain ⟨h0, h⟩ := h
  refine ⟨h0, ?_⟩
  rcases h with h | ⟨g, cap, cur, e1, _, hg, hr⟩
  · exact .inl h
  · exact .inr ⟨g, cap, cur, e1, hb g (by rw [e1]; rfl), hg, hr⟩
theorem own_lt {w : World} {base : Nat} {e : TypeId} {size n g : Nat} {v : Value} {xs : List Value} (h : w.ownsRow base e size v n xs) (hg : v.ownBlock = some g) : base ≤ g ∧ g < w.heap.size ∧ ∃ cur, w.heap[g]? = some (.cells cur e (0, 0)) := by
  rcases h.2 with ⟨rfl, _⟩ | ⟨g', cap, cur, e1, hb, hg', _⟩
  · simp [Value.ownBlock] at hg
  · rw [e1] at hg
    simp [Value.ownBlock] at hg
    subst hg
    exact ⟨hb, (Array.getElem?_eq_some_iff.1 hg').1, _, hg'⟩
theorem own_ne {w : World} {base base' : Nat} {e e' : TypeId} {size n size' n' g : Nat} {v v' : Value} {xs xs' : List Value} (h : w.ownsRow base e size v n xs) (h' : w.ownsRow base' e' size' v' n' xs') (hne : e ≠ e') (hg : v.ownBlock = some g) : v'.ownBlock ≠ some g := by
  intro hg'
  obtain ⟨_, _, c1, h1⟩ := own_lt h hg
  obtain ⟨_, _, c2, h2⟩ := own_lt h' hg'
  rw [h1] at h2
  simp at h2
  exact hne h2.2
theorem own_row {w : World} {base : Nat} {e T : TypeId} {size n g : Nat} {v : Value} {xs ys : List Value} (h : w.ownsRow base e size v n xs) (hr : RowAt w g T ys) (hne : e ≠ T) : v.ownBlock ≠ some g := by
  intro hg
  obtain ⟨_, _, c1, h1⟩ := own_lt h hg
  unfold RowAt at hr
  rw [h1] at hr
  simp at hr
  exact hne hr.2
/-- the first of a row's cells -/
theorem own_take {w : World} {base : Nat} {e : TypeId} {n m cap : Nat} {a : Option Addr} {xs : List Value} (h : w.ownsRow base e 1 (.slice a n cap) n xs) (hm : m ≤ n) : w.ownsRow base e 1 (.slice a m cap) m (xs.take m) := by
  obtain ⟨h0, h⟩ := h
  refine ⟨by rw [List.length_take]; omega, ?_⟩
  rcases h with ⟨e1, h1⟩ | ⟨g, cap', cur, e1, hb, hg, hc, hx, hs, ht⟩
  · simp only [Value.slice.injEq] at e1
    obtain ⟨rfl, rfl, rfl⟩ := e1
    exact .inl ⟨by rw [show m = 0 by omega], by omega⟩
  · simp only [Value.slice.injEq] at e1
    obtain ⟨rfl, -, rfl⟩ := e1
    refine .inr ⟨g, cap, cur, rfl, hb, hg, by omega, hx, hs, ?_⟩
    rw [← ht, List.take_take, Nat.min_eq_left (by omega), Nat.mul_one]
theorem own_cell {w : World} {base : Nat} {e : TypeId} {n cap : Nat} {a : Option Addr} {xs : List Value} (h : w.ownsRow base e 1 (.slice a n cap) n xs) : (n = 0 ∧ cap = 0 ∧ a = none) ∨ ∃ g, a = some ⟨g, 0, none⟩ ∧ n ≤ cap ∧ cap ≤ maxLen ∧ (∀ i, w.frozen? ⟨g, i, none⟩ = false) ∧ ∀ k x, xs[k]? = some x → w.cell? ⟨g, k, none⟩ = some x := by
  have h' := h
  rcases h.2 with ⟨e1, h1⟩ | ⟨g, cap', cur, e1, hb, hg, hc, hx, hs, ht⟩
  · simp only [Value.slice.injEq] at e1
    obtain ⟨rfl, -, rfl⟩ := e1
    exact .inl ⟨h1, rfl, rfl⟩
  · simp only [Value.slice.injEq] at e1
    obtain ⟨rfl, -, rfl⟩ := e1
    refine .inr ⟨g, rfl, hc, hx, fun i => frozen_of_row w g i _ e hg, fun k x hk => ?_⟩
    have := h'.cells (g := g) rfl k x hk
    rw [add_addr, Nat.zero_add] at this
    exact this

/-- flows in a row of the thing's own; their lists lie in other blocks of Q -/
structure OwnLs (w : World) (Q : Nat → Prop) (v : Value) (f : Flows) (ws : List Value) : Prop where
  row : w.ownsRow 0 27 1 v f.length ws
  each : ∀ i, i < f.length → IntsAt (fun b => Q b ∧ v.ownBlock ≠ some b) w (ws.getD i undef) (f.getD i [])
  own : ∀ b, v.ownBlock = some b → Q b
def newQ (Q : Nat → Prop) (w w' : World) (b : Nat) : Prop := Q b ∨ (w.heap.size ≤ b ∧ b < w'.heap.size)
theorem OwnLs.keep {w w' : World} {Q R : Nat → Prop} {v : Value} {f : Flows} {ws : List Value} (h : OwnLs w Q v f ws) (hk : ∀ b, Q b → b < w.heap.size → w'.heap[b]? = w.heap[b]?) (hR : ∀ b, Q b → b < w.heap.size → R b) : OwnLs w' R v f ws :=
  ⟨own_keep (fun b hb => hk b (h.own b hb) (own_lt h.row hb).2.1) h.row, fun i hi => (h.each i hi).keep (fun b hb hl => hk b hb.1 hl) (fun b hb hl => ⟨hR b hb.1 hl, hb.2⟩), fun b hb => hR b (h.own b hb) (own_lt h.row hb).2.1⟩
theorem OwnLs.nil (w : World) (Q : Nat → Prop) : OwnLs w Q (.slice none 0 0) [] [] :=
  ⟨World.ownsRow_nil _ _ _ _, fun i hi => by simp at hi, fun b hb => by simp [Value.ownBlock] at hb⟩
/-- as a list of lists -/
theorem OwnLs.lists {w : World} {Q : Nat → Prop} {v : Value} {f : Flows} {ws : List Value} (h : OwnLs w Q v f ws) (hl : f.length ≤ 1000) : ListsAt (fun _ => True) w v f := by
  have hwl : ws.length = f.length := by have := h.row.1; omega
  exact lists_of_owns (by omega) hwl h.row (fun i hi => (h.each i hi).keep (fun _ _ _ => rfl) (fun _ _ _ => trivial)) (fun _ _ => trivial)
/-- only one block has changed -/
def Only (g : Nat) (w w' : World) : Prop := Below 0 w w' ∧ ∀ b, b ≠ g → w'.heap[b]? = w.heap[b]?
/-- the blocks of a log behind a call -/
def Fn (F : Nat → Prop) (w w' : World) (b : Nat) : Prop := F b ∨ (w.heap.size ≤ b ∧ b < w'.heap.size)
/-- the log's blocks without its struct and its bytes -/
def Qo (F : Nat → Prop) (g : Nat) (bv : Value) (b : Nat) : Prop := F b ∧ b ≠ g ∧ bv.ownBlock ≠ some b
/-- the landed log's memory: the struct at the block g, the links, a row of bytes, a row of flows -/
structure LgMem (w : World) (g : Nat) (F : Nat → Prop) (cv bv fv : Value) (caps : List Int) (sf : Nat) (lf : Int) (st : Bool) (B : List Nat) (f : Flows) (ws : List Value) : Prop where
  cells : RowAt w g 60 [cv, bv, .int .i64 sf, fv, .int .i64 lf, .bool st]
  own : F g
  lt : ∀ b, F b → b < w.heap.size
  caps : IntsAt (fun b => Qo F g bv b ∧ fv.ownBlock ≠ some b) w cv caps
  bytes : w.ownsRow 0 5 1 bv B.length (u8s B)
  flows : OwnLs w (Qo F g bv) fv f ws
  fb : ∀ b, bv.ownBlock = some b → F b
section
variable {w w' : World} {g : Nat} {F : Nat → Prop} {cv bv fv bv' fv' : Value} {caps : List Int} {sf sf' : Nat} {lf lf' : Int} {st st' : Bool} {B C : List Nat} {f f' : Flows} {ws ws' : List Value}
theorem kept_lt {b : Nat} (h1 : w'.heap[b]? = w.heap[b]?) (h2 : b < w.heap.size) : b < w'.heap.size := by
  rw [Array.getElem?_eq_getElem h2] at h1
  exact (Array.getElem?_eq_some_iff.1 h1).1
theorem LgMem.keep (h : LgMem w g F cv bv fv caps sf lf st B f ws) (hk : ∀ b, F b → w'.heap[b]? = w.heap[b]?) : LgMem w' g F cv bv fv caps sf lf st B f ws := by
  refine ⟨?_, h.own, fun b hb => kept_lt (hk b hb) (h.lt b hb), h.caps.keep (fun b hb _ => hk b hb.1.1) (fun _ h _ => h), own_keep (fun b hb => hk b (h.fb b hb)) h.bytes, h.flows.keep (fun b hb _ => hk b hb.1) (fun _ h _ => h), h.fb⟩
  have := h.cells
  unfold RowAt at this ⊢
  rw [hk g h.own]; exact this
theorem LgMem.apart (h : LgMem w g F cv bv fv caps sf lf st B f ws) : bv.ownBlock ≠ some g ∧ fv.ownBlock ≠ some g ∧ ∀ b, bv.ownBlock = some b → fv.ownBlock ≠ some b :=
  ⟨own_row h.bytes h.cells (by decide), own_row h.flows.row h.cells (by decide), fun b hb => own_ne h.bytes h.flows.row (by decide) hb⟩
theorem LgMem.shape (h : LgMem w g F cv bv fv caps sf lf st B f ws) : (∃ a c, cv = .slice a caps.length c ∧ caps.length ≤ c) ∧ (∃ a c, bv = .slice a B.length c) ∧ ∃ a c, fv = .slice a f.length c := by
  obtain ⟨a, c, e, hm, _⟩ := h.caps
  exact ⟨⟨a, c, e, hm.1⟩, owns_shape h.bytes, owns_shape h.flows.row⟩
theorem LgMem.six (h : LgMem w g F cv bv fv caps sf lf st B f ws) : w.cell? ⟨g, 0, none⟩ = some cv ∧ w.cell? ⟨g, 1, none⟩ = some bv ∧ w.cell? ⟨g, 2, none⟩ = some (.int .i64 sf) ∧ w.cell? ⟨g, 3, none⟩ = some fv ∧ w.cell? ⟨g, 4, none⟩ = some (.int .i64 lf) ∧ w.cell? ⟨g, 5, none⟩ = some (.bool st) ∧ (∀ i, w.frozen? ⟨g, i, none⟩ = false) ∧ g < w.heap.size :=
  ⟨h.cells.cell rfl, h.cells.cell rfl, h.cells.cell rfl, h.cells.cell rfl, h.cells.cell rfl, h.cells.cell rfl, h.cells.frozen, h.cells.lt⟩
/-- the struct's own numbers are others -/
theorem LgMem.put (h : LgMem w g F cv bv fv caps sf lf st B f ws) (hc : RowAt w' g 60 [cv, bv, .int .i64 (sf' : Int), fv, .int .i64 lf', .bool st']) (hk : ∀ b, b ≠ g → w'.heap[b]? = w.heap[b]?) : LgMem w' g F cv bv fv caps sf' lf' st' B f ws := by
  obtain ⟨n1, n2, _⟩ := h.apart
  have hlt : ∀ b, F b → b < w'.heap.size := fun b hb => by
    by_cases e : b = g
    · subst e; exact hc.lt
    · exact kept_lt (hk b e) (h.lt b hb)
  exact ⟨hc, h.own, hlt, h.caps.keep (fun b hb _ => hk b hb.1.2.1) (fun _ h _ => h), own_keep (fun b hb => hk b (fun e => n1 (e ▸ hb))) h.bytes, h.flows.keep (fun b hb _ => hk b hb.2.1) (fun _ h _ => h), h.fb⟩
/-- other bytes -/
theorem LgMem.newB (h : LgMem w g F cv bv fv caps sf lf st B f ws) (hr : RowAt w' g 60 [cv, bv', .int .i64 sf, fv, .int .i64 lf, .bool st]) (hk : ∀ b, b < w.heap.size → b ≠ g → bv.ownBlock ≠ some b → w'.heap[b]? = w.heap[b]?) (hz : w.heap.size ≤ w'.heap.size)
    (ho : w'.ownsRow 0 5 1 bv' C.length (u8s C)) (hat : ∀ b, bv'.ownBlock = some b → bv.ownBlock = some b ∨ w.heap.size ≤ b) : LgMem w' g (Fn F w w') cv bv' fv caps sf lf st C f ws := by
  have q : ∀ b, Qo F g bv b → b < w.heap.size → Qo (Fn F w w') g bv' b := fun b hb hl => ⟨.inl hb.1, hb.2.1, fun e => by rcases hat b e with e | e; exact hb.2.2 e; omega⟩
  refine ⟨hr, .inl h.own, fun b hb => ?_, h.caps.keep (fun b hb hl => hk b hl hb.1.2.1 hb.1.2.2) (fun b hb hl => ⟨q b hb.1 hl, hb.2⟩), ho, h.flows.keep (fun b hb hl => hk b hl hb.2.1 hb.2.2) q, fun b hb => ?_⟩
  · rcases hb with hb | hb
    · have := h.lt b hb; omega
    · exact hb.2
  · rcases hat b hb with e | e
    · exact .inl (h.fb b e)
    · exact .inr ⟨e, (own_lt ho hb).2.1⟩
/-- other flows, and fewer bytes -/
theorem LgMem.newF (h : LgMem w g F cv bv fv caps sf lf st B f ws) (hr : RowAt w' g 60 [cv, bv', .int .i64 (sf' : Int), fv', .int .i64 lf', .bool st']) (hk : ∀ b, b < w.heap.size → b ≠ g → fv.ownBlock ≠ some b → w'.heap[b]? = w.heap[b]?) (hz : w.heap.size ≤ w'.heap.size)
    (ho : w'.ownsRow 0 5 1 bv' C.length (u8s C)) (hab : ∀ b, bv'.ownBlock = some b → bv.ownBlock = some b) (hof : OwnLs w' (newQ (Qo F g bv) w w') fv' f' ws') (hat : ∀ b, fv'.ownBlock = some b → fv.ownBlock = some b ∨ w.heap.size ≤ b) : LgMem w' g (Fn F w w') cv bv' fv' caps sf' lf' st' C f' ws' := by
  have hbl : ∀ b, bv'.ownBlock = some b → b < w.heap.size := fun b hb => (own_lt h.bytes (hab b hb)).2.1
  have hgl := h.cells.lt
  have q : ∀ b, newQ (Qo F g bv) w w' b → Qo (Fn F w w') g bv' b := fun b hb => by
    rcases hb with hb | hb
    · exact ⟨.inl hb.1, hb.2.1, fun e => hb.2.2 (hab b e)⟩
    · exact ⟨.inr hb, by omega, fun e => by have := hbl b e; omega⟩
  refine ⟨hr, .inl h.own, fun b hb => ?_, h.caps.keep (fun b hb hl => hk b hl hb.1.2.1 hb.2) (fun b hb hl => ⟨q b (.inl hb.1), fun e => ?_⟩), ho, hof.keep (fun _ _ _ => rfl) (fun b hb _ => q b hb), fun b hb => .inl (h.fb b (hab b hb))⟩
  · rcases hb with hb | hb
    · have := h.lt b hb; omega
    · exact hb.2
  · rcases hat b e with e | e
    · exact hb.2 e
    · omega
end
/-- the landed log -/
structure LgAt (w : World) (g : Nat) (F : Nat → Prop) (cv bv fv : Value) (s : LogS) (B : List Nat) (ws : List Value) : Prop where
  mem : LgMem w g F cv bv fv s.caps s.safe s.left s.stopped B s.flows ws
  len : s.bytes = B.length
  recs : ∃ rs half, BytesR s B rs half ∧ (s.stopped = false → half = [])
  far : s.left ≤ 9223372036854775807
def LgInv (w : World) (p : Value) (F : Nat → Prop) (s : LogS) : Prop := ∃ g cv bv fv B ws, p = .pointer (some ⟨g, 0, none⟩) ∧ LgAt w g F cv bv fv s B ws
section
variable {w w' : World} {g : Nat} {F : Nat → Prop} {cv bv fv : Value} {s : LogS} {B : List Nat} {ws : List Value}
theorem LgAt.keep (h : LgAt w g F cv bv fv s B ws) (hk : ∀ b, F b → w'.heap[b]? = w.heap[b]?) : LgAt w' g F cv bv fv s B ws := ⟨h.mem.keep hk, h.len, h.recs, h.far⟩
theorem LgAt.put {sf : Nat} {lf : Int} {st : Bool} (h : LgAt w g F cv bv fv s B ws) (hc : RowAt w' g 60 [cv, bv, .int .i64 (sf : Int), fv, .int .i64 lf, .bool st]) (hk : ∀ b, b ≠ g → w'.heap[b]? = w.heap[b]?) (hst : st = false → s.stopped = false) (hlf : lf ≤ 9223372036854775807) :
    LgAt w' g F cv bv fv { s with safe := sf, left := lf, stopped := st } B ws := by
  obtain ⟨rs, half, hr, hz⟩ := h.recs
  exact ⟨h.mem.put hc hk, h.len, ⟨rs, half, ⟨hr.all, hr.done, hr.marks, hr.bytes, hr.torn, hr.small⟩, fun e => hz (hst e)⟩, hlf⟩
end
def logX : LogFace where
  Inv := LgInv
  lt := fun ⟨_, _, _, _, _, _, _, h⟩ => h.mem.lt
  keep := fun ⟨g, cv, bv, fv, B, ws, e, h⟩ hk => ⟨g, cv, bv, fv, B, ws, e, h.keep hk⟩
  ptr := fun ⟨_, _, _, _, _, _, e, _⟩ => ⟨_, e⟩
theorem moved_of {w w' : World} {g : Nat} {F : Nat → Prop} {cv bv fv : Value} {s : LogS} {B : List Nat} {ws : List Value} (h : LgAt w' g (Fn F w w') cv bv fv s B ws) (hb : ButIn F w w') : MovedL logX (.pointer (some ⟨g, 0, none⟩)) F s w w' :=
  ⟨Fn F w w', ⟨g, cv, bv, fv, B, ws, rfl, h⟩, fun b hb => hb.elim .inl (fun h => .inr h.1), hb⟩
/-- the struct alone has changed -/
theorem moved_put {w w' : World} {g : Nat} {F : Nat → Prop} {cv bv fv : Value} {s : LogS} {B : List Nat} {ws : List Value} (h : LgAt w' g F cv bv fv s B ws) (hg : F g) (ho : Only g w w') : MovedL logX (.pointer (some ⟨g, 0, none⟩)) F s w w' :=
  ⟨F, ⟨g, cv, bv, fv, B, ws, rfl, h⟩, fun b hb => .inl hb, ho.1, fun b _ hF => ho.2 b (fun e => hF (e ▸ hg))⟩
/-- nothing of a log has changed -/
theorem moved_none {w w' : World} {g : Nat} {F : Nat → Prop} {cv bv fv : Value} {s : LogS} {B : List Nat} {ws : List Value} (h : LgAt w g F cv bv fv s B ws) (hb : Below w.heap.size w w') : MovedL logX (.pointer (some ⟨g, 0, none⟩)) F s w w' :=
  ⟨F, ⟨g, cv, bv, fv, B, ws, rfl, h.keep (fun b hb' => hb.block b (h.mem.lt b hb'))⟩, fun b hb => .inl hb, ButIn.of_below hb⟩
end Ev
end Go.Proofs.YtdldgefahgojaakDoor

/- What is asked of package net's Check, as the document says it: a contract to be proved of the landed code. -/
namespace Go.Proofs.YtdldgefahgojaakDoor
namespace Ns
open Go.RowKit Fr

def CheckSaid : Prop := ∀ (Q : Nat → Prop) (caps : List Int) (paths : List (List Int)) (v : Value) (w : World), NetAt Q w v caps paths →
  Calls Tryd.prog 24 #[v] w fun e w' => e = .returned (errV (netE caps paths)) ∧ Below w.heap.size w w'
end Ns
end Go.Proofs.YtdldgefahgojaakDoor

/- Rows of bools, and of ints with room behind them, as a walk meets them. -/
namespace Go.Proofs.YtdldgefahgojaakDoor
namespace Ev
open Go.RowKit Ns Fl
set_option linter.unusedSimpArgs false
set_option linter.unusedVariables false

theorem infoB : (Tryd.prog.info? 4).map (fun i => (i.zero, i.size, i.bytes)) = some (some (.bool false), 1, 1) := by kernel_rfl
theorem madeB (n : Nat) : (madeCells #[Value.bool false] n).toList = (List.replicate n false).map Value.bool := by
  apply List.ext_getElem
  · simp [madeCells]
  · intro i h1 h2
    simp [madeCells, Nat.mod_one]
/-- a row that the call owns, and what lies behind its length -/
theorem owns_row {w : World} {base n c : Nat} {T : TypeId} {a : Option Addr} {xs : List Value} (hn : 0 < n) (h : w.ownsRow base T 1 (.slice a n c) n xs) : ∃ g sp, a = some ⟨g, 0, none⟩ ∧ base ≤ g ∧ n ≤ c ∧ RowAt w g T (xs ++ sp) := by
  rcases h.2 with ⟨_, h0⟩ | ⟨g, cap, cur, hv, hb, hg, hc, hm, hs, ht⟩
  · omega
  · simp only [Value.slice.injEq] at hv
    refine ⟨g, cur.toList.drop (n * 1), hv.1, hb, by rw [hv.2.2]; exact hc, ?_⟩
    unfold RowAt
    rw [hg, ← ht, List.take_append_drop]
theorem boolsCell {l : List Bool} {i : Nat} (h : i < l.length) : (l.map Value.bool)[i]? = some (.bool (l.getD i false)) := by
  simp [List.getD, List.getElem?_eq_getElem h]
theorem intsCell {l : List Int} {sp : List Value} {i : Nat} (h : i < l.length) : (l.map (Value.int .i64) ++ sp)[i]? = some (.int .i64 (l.getD i 0)) := by
  rw [List.getElem?_append_left (by simpa using h)]
  simp [List.getD, List.getElem?_eq_getElem h]
theorem boolsSet {l : List Bool} {i : Nat} {b : Bool} : (l.map Value.bool).set i (.bool b) = (l.set i b).map Value.bool := by rw [List.map_set]
theorem intsSet {l : List Int} {sp : List Value} {i : Nat} {x : Int} (h : i < l.length) : (l.map (Value.int .i64) ++ sp).set i (.int .i64 x) = (l.set i x).map (Value.int .i64) ++ sp := by
  rw [List.set_append_left _ _ (by simpa using h), List.map_set]
/-- a row of ints with room behind it is a list -/
theorem intsRow {Q : Nat → Prop} {w : World} {g c : Nat} {l : List Int} {sp : List Value} (h : RowAt w g 3 (l.map (Value.int .i64) ++ sp)) (hc : l.length ≤ c) (hl : l.length ≤ 9223372036854775807) (hQ : Q g) : IntsAt Q w (.slice (some ⟨g, 0, none⟩) l.length c) l :=
  ⟨_, c, rfl, ⟨hc, hl⟩, .inr ⟨g, 0, rfl, fun i hi => by rw [Nat.zero_add]; exact h.cell (intsCell hi), hQ⟩⟩
/-- a list in a row of its own, that may be written into -/
def OwnInts (B : Nat) (w : World) (y : Value) (l : List Int) : Prop := ∃ g c sp, y = .slice (some ⟨g, 0, none⟩) l.length c ∧ l.length ≤ c ∧ B ≤ g ∧ RowAt w g 3 (l.map (Value.int .i64) ++ sp)
theorem OwnInts.ints {B : Nat} {w : World} {y : Value} {l : List Int} (h : OwnInts B w y l) (hl : l.length ≤ 9223372036854775807) : IntsAt (fun b => B ≤ b) w y l := by
  obtain ⟨g, c, sp, rfl, hc, hg, hr⟩ := h
  exact intsRow hr hc hl hg
end Ev
end Go.Proofs.YtdldgefahgojaakDoor

/- A made row of ints whose first places are written. No Go in it. -/
namespace Go.Proofs.YtdldgefahgojaakDoor
namespace Ev
open Go.RowKit Fr Ns Ld Fl
set_option linter.unusedSimpArgs false
set_option linter.unusedVariables false

theorem nil_intsB {Q : Nat → Prop} (w : World) : IntsAt Q w (.slice none 0 0) [] := ⟨none, 0, rfl, ⟨Nat.le_refl _, by simp⟩, .inl rfl⟩
theorem madeI (n : Nat) : (madeCells #[Value.int .i64 0] n).toList = (List.replicate n (0 : Int)).map (Value.int .i64) := by
  apply List.ext_getElem
  · simp [madeCells]
  · intro i h1 h2
    simp [madeCells, Nat.mod_one]
/-- what went so far, and room for the rest -/
theorem went_set {a : List Int} {n k : Nat} {x : Int} (ha : a.length = k) (hk : k < n) : (a ++ List.replicate (n - k) 0).set k x = (a ++ [x]) ++ List.replicate (n - (k + 1)) 0 := by
  obtain ⟨m, hm⟩ : ∃ m, n - k = m + 1 := ⟨n - k - 1, by omega⟩
  have e : n - (k + 1) = m := by omega
  rw [hm, e, List.replicate_succ, ← ha]
  simp
theorem row_set {w : World} {g n k : Nat} {T : TypeId} {a b : List Int} {x : Int} (h : RowAt w g T ((a ++ List.replicate (n - k) 0).map (Value.int .i64))) (ha : a.length = k) (hk : k < n) (hb : b = a ++ [x]) : RowAt (w.setCell ⟨g, k, none⟩ (.int .i64 x)) g T ((b ++ List.replicate (n - (k + 1)) 0).map (Value.int .i64)) := by
  have := h.set k (.int .i64 x)
  rw [← List.map_set, went_set ha hk, ← hb] at this
  exact this
end Ev
end Go.Proofs.YtdldgefahgojaakDoor
