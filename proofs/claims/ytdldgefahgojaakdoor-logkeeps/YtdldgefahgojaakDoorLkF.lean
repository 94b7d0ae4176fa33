/- The law LogKeeps: what the step tells. -/
import Derived.Test.YtdldgefahgojaakDoorPlains
import Derived.Test.YtdldgefahgojaakDoorToldB
namespace Go.Proofs.YtdldgefahgojaakDoor
namespace Ev
open Go.RowKit Fr Ns Ld Fl
set_option linter.unusedSimpArgs false
set_option linter.unusedVariables false

section
variable {X : LogFace} {w : World} {caps : List Int} {paths : List (List Int)} {drops syncs fails keeps : List Int} {a0 a1 a2 a3 a4 a5 : Option Addr} {c0 c1 c2 c3 c4 c5 : Nat} {aj : Addr} {dv mv : Value} {t r k m : Nat} {s : LogS} {dn : List Flows} {mk : List Nat} {a : Act} {u : World}
set_option maxRecDepth 100000 in
set_option maxHeartbeats 8000000 in
theorem lk_at {nx : Nat} {fv : Int} {ev : Value} {bv : Value} (h1 : t < 9223372036854775807) (ha : Slots 397 (lkB a0 a1 a2 a3 a4 a5 caps.length paths.length drops.length syncs.length fails.length keeps.length c0 c1 c2 c3 c4 c5 aj dv mv t r [(29, .int .i64 k), (31, .pointer (some ⟨nx, 0, none⟩)), (33, bv), (32, .int .i64 fv), (34, ev)]) a) :
    Lk [1, 1, 1, 1, 1, 1, 1, 1, 1, 1, 1, 1, 1, 1, 1, 1, 1, 0, 1, 0, 0, 1, 0, 0, 1, 0, 1, 0, 0, 1, 0, 0, 1, 1, 1, 1, 1, 1, 1, 0] (fun a' u' => Slots 397 (lkB a0 a1 a2 a3 a4 a5 caps.length paths.length drops.length syncs.length fails.length keeps.length c0 c1 c2 c3 c4 c5 aj dv mv (t + 1) r [(29, .int .i64 k), (31, .pointer (some ⟨nx, 0, none⟩)), (33, bv), (32, .int .i64 fv), (34, ev)]) a' ∧ u' = u) a u := by
  have hw : IntKind.i64.wrap ((t : Int) + 1) = (t : Int) + 1 := by rw [IntKind.wrap_i64]; omega
  clear h1
  refine Thru.mk fun J K hJ hK => ?_
  obtain ⟨Y, rfl, hY⟩ := ha.lay
  obtain ⟨e0, e1, e2, e3, e4, e5, e6, e7, e8, e9, e10, e11, e12, e13, e14, e15, -⟩ := hY
  rw [range_lk]
  simp only [e0, e1, e2, e3, e4, e5, e6, e7, e8, e9, e10, e11, e12, e13, e14, e15]
  clear ha e0 e1 e2 e3 e4 e5 e6 e7 e8 e9 e10 e11 e12 e13 e14 e15
  conv => arg 2; whnf
  go_wp2
  refine Met.intro (hJ _ _ ?_)
  exact ⟨⟨rfl, by kernel_rfl, has_cons rfl (has_cons rfl (has_cons rfl (has_cons rfl (has_cons rfl (has_cons rfl (has_cons rfl (has_cons rfl (has_cons rfl (has_cons rfl (has_cons rfl (has_cons rfl (has_cons rfl (has_cons rfl (has_cons rfl (has_cons rfl (has_nil))))))))))))))))⟩, rfl⟩
set_option maxRecDepth 100000 in
set_option maxHeartbeats 8000000 in
theorem lk_stop {nx : Nat} {fv kk : Int} {bv pv : Value} {g : Flows} (hg : w.cell? ⟨0, 0, none⟩ = some handleV) (ha : Slots 397 (lkB a0 a1 a2 a3 a4 a5 caps.length paths.length drops.length syncs.length fails.length keeps.length c0 c1 c2 c3 c4 c5 aj dv mv t r [(29, .int .i64 k), (31, .pointer (some ⟨nx, 0, none⟩)), (33, bv), (32, .int .i64 fv), (34, errV kk)]) a) (hk : KeepsE X w aj (.slice a0 caps.length c0) m s dv mv dn mk [(nx, pv, g)] u) :
    Lk [1, 1, 1, 1, 1, 1, 1, 1, 1, 1, 1, 1, 1, 1, 1, 1, 1, 0, 1, 0, 0, 1, 0, 0, 1, 0, 1, 0, 0, 1, 0, 0, 1, 1, 1, 1, 1, 1, 1, 1, 0] (fun a' u' => Slots 397 (lkB a0 a1 a2 a3 a4 a5 caps.length paths.length drops.length syncs.length fails.length keeps.length c0 c1 c2 c3 c4 c5 aj dv mv t r [(29, .int .i64 k), (31, .pointer (some ⟨nx, 0, none⟩)), (33, bv), (32, .int .i64 fv), (34, errV kk), (35, .bool (kk == 6))]) a' ∧ KeepsE X w aj (.slice a0 caps.length c0) m s dv mv dn mk [(nx, pv, g)] u') a u := by
  have HE : Hid (Calls Tryd.prog 7 #[errV kk, .int .i64 6] u fun e w' => e = .returned (.bool (kk == 6)) ∧ Hid (KeepsE X w aj (.slice a0 caps.length c0) m s dv mv dn mk [(nx, pv, g)] w')) := by
    refine (Error_any kk 6 u (cell_later hk.below hg)).mono ?_
    rintro e w' ⟨he, hb⟩
    exact ⟨he, hk.later hb⟩
  clear hk hg
  generalize (kk == 6) = x at *
  generalize errV kk = ev at *
  refine Thru.mk fun J K hJ hK => ?_
  obtain ⟨Y, rfl, hY⟩ := ha.lay
  obtain ⟨e0, e1, e2, e3, e4, e5, e6, e7, e8, e9, e10, e11, e12, e13, e14, e15, -⟩ := hY
  rw [range_lk]
  simp only [e0, e1, e2, e3, e4, e5, e6, e7, e8, e9, e10, e11, e12, e13, e14, e15]
  clear ha e0 e1 e2 e3 e4 e5 e6 e7 e8 e9 e10 e11 e12 e13 e14 e15
  conv => arg 2; whnf
  go_wp2_with fail
  refine HE.out.mono ?_
  rintro e w1 ⟨rfl, hk⟩
  clear HE
  go_wp2
  refine Met.intro (hJ _ _ ?_)
  exact ⟨⟨rfl, by kernel_rfl, has_cons rfl (has_cons rfl (has_cons rfl (has_cons rfl (has_cons rfl (has_cons rfl (has_cons rfl (has_cons rfl (has_cons rfl (has_cons rfl (has_cons rfl (has_cons rfl (has_cons rfl (has_cons rfl (has_cons rfl (has_cons rfl (has_cons rfl (has_nil)))))))))))))))))⟩, hk.out⟩
set_option maxRecDepth 100000 in
set_option maxHeartbeats 8000000 in
theorem lk_told {nx : Nat} {fv kk : Int} {x : Bool} {bv pv : Value} {g : Flows} (hg : w.cell? ⟨0, 0, none⟩ = some handleV) (ha : Slots 397 (lkB a0 a1 a2 a3 a4 a5 caps.length paths.length drops.length syncs.length fails.length keeps.length c0 c1 c2 c3 c4 c5 aj dv mv t r [(29, .int .i64 k), (31, .pointer (some ⟨nx, 0, none⟩)), (33, bv), (32, .int .i64 fv), (34, errV kk), (35, .bool x)]) a) (hk : KeepsE X w aj (.slice a0 caps.length c0) m s dv mv dn mk [(nx, pv, g)] u) :
    Lk [1, 1, 1, 1, 1, 1, 1, 1, 1, 1, 1, 1, 1, 1, 1, 1, 1, 0, 1, 0, 0, 1, 0, 0, 1, 0, 1, 0, 0, 1, 0, 0, 1, 1, 1, 1, 1, 1, 1, 1, 1, 0] (fun a' u' => Slots 397 (lkB a0 a1 a2 a3 a4 a5 caps.length paths.length drops.length syncs.length fails.length keeps.length c0 c1 c2 c3 c4 c5 aj dv mv t r [(29, .int .i64 k), (31, .pointer (some ⟨nx, 0, none⟩)), (33, bv), (34, errV kk), (35, .bool x), (24, .bool (kk == fv))]) a' ∧ KeepsE X w aj (.slice a0 caps.length c0) m s dv mv dn mk [(nx, pv, g)] u') a u := by
  have HE : Hid (Calls Tryd.prog 7 #[errV kk, .int .i64 fv] u fun e w' => e = .returned (.bool (kk == fv)) ∧ Hid (KeepsE X w aj (.slice a0 caps.length c0) m s dv mv dn mk [(nx, pv, g)] w')) := by
    refine (Error_any kk fv u (cell_later hk.below hg)).mono ?_
    rintro e w' ⟨he, hb⟩
    exact ⟨he, hk.later hb⟩
  clear hk hg
  generalize (kk == fv) = y at *
  generalize errV kk = ev at *
  refine Thru.mk fun J K hJ hK => ?_
  obtain ⟨Y, rfl, hY⟩ := ha.lay
  obtain ⟨e0, e1, e2, e3, e4, e5, e6, e7, e8, e9, e10, e11, e12, e13, e14, e15, e16, -⟩ := hY
  rw [range_lk]
  simp only [e0, e1, e2, e3, e4, e5, e6, e7, e8, e9, e10, e11, e12, e13, e14, e15, e16]
  clear ha e0 e1 e2 e3 e4 e5 e6 e7 e8 e9 e10 e11 e12 e13 e14 e15 e16
  conv => arg 2; whnf
  go_wp2_with fail
  refine HE.out.mono ?_
  rintro e w1 ⟨rfl, hk⟩
  clear HE
  go_wp2
  refine Met.intro (hJ _ _ ?_)
  exact ⟨⟨rfl, by kernel_rfl, has_cons rfl (has_cons rfl (has_cons rfl (has_cons rfl (has_cons rfl (has_cons rfl (has_cons rfl (has_cons rfl (has_cons rfl (has_cons rfl (has_cons rfl (has_cons rfl (has_cons rfl (has_cons rfl (has_cons rfl (has_cons rfl (has_cons rfl (has_nil)))))))))))))))))⟩, hk.out⟩
set_option maxRecDepth 100000 in
set_option maxHeartbeats 8000000 in
theorem lk_ok {nx : Nat} {x y : Bool} {bv ev : Value} (hxy : x = true ∨ y = true) (ha : Slots 397 (lkB a0 a1 a2 a3 a4 a5 caps.length paths.length drops.length syncs.length fails.length keeps.length c0 c1 c2 c3 c4 c5 aj dv mv t r [(29, .int .i64 k), (31, .pointer (some ⟨nx, 0, none⟩)), (33, bv), (34, ev), (35, .bool x), (24, .bool y)]) a) :
    Lk [1, 1, 1, 1, 1, 1, 1, 1, 1, 1, 1, 1, 1, 1, 1, 1, 1, 0, 1, 0, 0, 1, 0, 0, 1, 0, 1, 0, 0, 1, 0, 0, 1, 1, 1, 1, 1, 1, 1, 1, 1, 1, 0] (fun a' u' => Slots 397 (lkB a0 a1 a2 a3 a4 a5 caps.length paths.length drops.length syncs.length fails.length keeps.length c0 c1 c2 c3 c4 c5 aj dv mv t r [(29, .int .i64 k), (31, .pointer (some ⟨nx, 0, none⟩)), (33, bv), (34, ev)]) a' ∧ u' = u) a u := by
  cases x with
  | true =>
    clear hxy
    refine Thru.mk fun J K hJ hK => ?_
    obtain ⟨Y, rfl, hY⟩ := ha.lay
    obtain ⟨e0, e1, e2, e3, e4, e5, e6, e7, e8, e9, e10, e11, e12, e13, e14, e15, e16, -⟩ := hY
    rw [range_lk]
    simp only [e0, e1, e2, e3, e4, e5, e6, e7, e8, e9, e10, e11, e12, e13, e14, e15, e16]
    clear ha e0 e1 e2 e3 e4 e5 e6 e7 e8 e9 e10 e11 e12 e13 e14 e15 e16
    conv => arg 2; whnf
    go_wp2
    refine Met.intro (hJ _ _ ?_)
    exact ⟨⟨rfl, by kernel_rfl, has_cons rfl (has_cons rfl (has_cons rfl (has_cons rfl (has_cons rfl (has_cons rfl (has_cons rfl (has_cons rfl (has_cons rfl (has_cons rfl (has_cons rfl (has_cons rfl (has_cons rfl (has_cons rfl (has_cons rfl (has_nil)))))))))))))))⟩, rfl⟩
  | false =>
    obtain rfl : y = true := by rcases hxy with h | h; cases h; exact h
    clear hxy
    refine Thru.mk fun J K hJ hK => ?_
    obtain ⟨Y, rfl, hY⟩ := ha.lay
    obtain ⟨e0, e1, e2, e3, e4, e5, e6, e7, e8, e9, e10, e11, e12, e13, e14, e15, e16, -⟩ := hY
    rw [range_lk]
    simp only [e0, e1, e2, e3, e4, e5, e6, e7, e8, e9, e10, e11, e12, e13, e14, e15, e16]
    clear ha e0 e1 e2 e3 e4 e5 e6 e7 e8 e9 e10 e11 e12 e13 e14 e15 e16
    conv => arg 2; whnf
    go_wp2
    refine Met.intro (hJ _ _ ?_)
    exact ⟨⟨rfl, by kernel_rfl, has_cons rfl (has_cons rfl (has_cons rfl (has_cons rfl (has_cons rfl (has_cons rfl (has_cons rfl (has_cons rfl (has_cons rfl (has_cons rfl (has_cons rfl (has_cons rfl (has_cons rfl (has_cons rfl (has_cons rfl (has_nil)))))))))))))))⟩, rfl⟩
end
end Ev
end Go.Proofs.YtdldgefahgojaakDoor
