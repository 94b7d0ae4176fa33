/- The law LogKeeps: what the rates should be. -/
import Derived.Test.YtdldgefahgojaakDoorPlains
import Derived.Test.YtdldgefahgojaakDoorRFill
namespace Go.Proofs.YtdldgefahgojaakDoor
namespace Ev
open Go.RowKit Fr Ns Ld Fl
set_option linter.unusedSimpArgs false
set_option linter.unusedVariables false

section
variable {X : LogFace} {w : World} {caps : List Int} {paths : List (List Int)} {drops syncs fails keeps : List Int} {a0 a1 a2 a3 a4 a5 : Option Addr} {c0 c1 c2 c3 c4 c5 : Nat} {aj : Addr} {dv mv : Value} {t r k m : Nat} {s : LogS} {dn : List Flows} {mk : List Nat} {a : Act} {u : World}
set_option maxRecDepth 100000 in
set_option maxHeartbeats 8000000 in
theorem lk_want0 {l : Nat} (ha : Slots 397 (lkB a0 a1 a2 a3 a4 a5 caps.length paths.length drops.length syncs.length fails.length keeps.length c0 c1 c2 c3 c4 c5 aj dv mv t r [(40, .int .i64 (l : Nat))]) a) :
    Lk [1, 1, 1, 1, 1, 1, 1, 1, 1, 1, 1, 1, 1, 1, 1, 1, 1, 0, 1, 0, 0, 1, 0, 0, 1, 1, 1, 1, 1, 1, 1, 1, 1, 1, 1, 1, 1, 1, 0] (fun a' u' => Slots 397 (lkB a0 a1 a2 a3 a4 a5 caps.length paths.length drops.length syncs.length fails.length keeps.length c0 c1 c2 c3 c4 c5 aj dv mv t r [(40, .int .i64 (l : Nat)), (42, .slice none 0 0)]) a' ∧ u' = u) a u := by
  refine Thru.mk fun J K hJ hK => ?_
  obtain ⟨Y, rfl, hY⟩ := ha.lay
  obtain ⟨e0, e1, e2, e3, e4, e5, e6, e7, e8, e9, e10, e11, -⟩ := hY
  rw [range_lk]
  simp only [e0, e1, e2, e3, e4, e5, e6, e7, e8, e9, e10, e11]
  clear ha e0 e1 e2 e3 e4 e5 e6 e7 e8 e9 e10 e11
  conv => arg 2; whnf
  go_wp2
  refine Met.intro (hJ _ _ ?_)
  exact ⟨⟨rfl, by kernel_rfl, has_cons rfl (has_cons rfl (has_cons rfl (has_cons rfl (has_cons rfl (has_cons rfl (has_cons rfl (has_cons rfl (has_cons rfl (has_cons rfl (has_cons rfl (has_cons rfl (has_cons rfl (has_nil)))))))))))))⟩, rfl⟩
set_option maxRecDepth 100000 in
set_option maxHeartbeats 8000000 in
theorem lk_e5 {l : Nat} {wv : Value} (ha : Slots 397 (lkB a0 a1 a2 a3 a4 a5 caps.length paths.length drops.length syncs.length fails.length keeps.length c0 c1 c2 c3 c4 c5 aj dv mv t r [(40, .int .i64 (l : Nat)), (42, wv)]) a) :
    Lk [1, 1, 1, 1, 1, 1, 1, 1, 1, 1, 1, 1, 1, 1, 1, 1, 1, 0, 1, 0, 0, 1, 0, 0, 1, 1, 1, 1, 1, 1, 1, 1, 1, 1, 1, 1, 1, 1, 1, 0] (fun a' u' => Slots 397 (lkB a0 a1 a2 a3 a4 a5 caps.length paths.length drops.length syncs.length fails.length keeps.length c0 c1 c2 c3 c4 c5 aj dv mv t r [(40, .int .i64 (l : Nat)), (42, wv), (43, .int .i64 5)]) a' ∧ u' = u) a u := by
  refine Thru.mk fun J K hJ hK => ?_
  obtain ⟨Y, rfl, hY⟩ := ha.lay
  obtain ⟨e0, e1, e2, e3, e4, e5, e6, e7, e8, e9, e10, e11, e12, -⟩ := hY
  rw [range_lk]
  simp only [e0, e1, e2, e3, e4, e5, e6, e7, e8, e9, e10, e11, e12]
  clear ha e0 e1 e2 e3 e4 e5 e6 e7 e8 e9 e10 e11 e12
  conv => arg 2; whnf
  go_wp2
  refine Met.intro (hJ _ _ ?_)
  exact ⟨⟨rfl, by kernel_rfl, has_cons rfl (has_cons rfl (has_cons rfl (has_cons rfl (has_cons rfl (has_cons rfl (has_cons rfl (has_cons rfl (has_cons rfl (has_cons rfl (has_cons rfl (has_cons rfl (has_cons rfl (has_cons rfl (has_nil))))))))))))))⟩, rfl⟩
set_option maxRecDepth 100000 in
set_option maxHeartbeats 8000000 in
theorem lk_some {l : Nat} {wv : Value} (hd : dn.length = l + 1) (ha : Slots 397 (lkB a0 a1 a2 a3 a4 a5 caps.length paths.length drops.length syncs.length fails.length keeps.length c0 c1 c2 c3 c4 c5 aj dv mv t r [(40, .int .i64 (l : Nat)), (42, wv), (43, .int .i64 5)]) a) (hk : KeepsE X w aj (.slice a0 caps.length c0) m s dv mv dn mk [] u) :
    Lk [1, 1, 1, 1, 1, 1, 1, 1, 1, 1, 1, 1, 1, 1, 1, 1, 1, 0, 1, 0, 0, 1, 0, 0, 1, 1, 1, 1, 1, 1, 1, 1, 1, 1, 1, 1, 1, 1, 1, 1, 0, 0] (fun a' u' => ∃ b : Bool, Slots 397 (lkB a0 a1 a2 a3 a4 a5 caps.length paths.length drops.length syncs.length fails.length keeps.length c0 c1 c2 c3 c4 c5 aj dv mv t r [(40, .int .i64 (l : Nat)), (42, wv), (43, .int .i64 5), (372, .bool b)]) a' ∧ u' = u ∧ (b = true ↔ 0 < (dn.getD l []).length)) a u := by
  obtain ⟨D, c, pv, hdv, hc, hcell, F0, hK0, hL0⟩ := hk.last (i := l) (by omega)
  have q2 := (hcell u (Below.refl _ _)).2
  have hlt : (l : Int) < dn.length := by omega
  have h00 : (0 : Int) ≤ (l : Int) := by omega
  subst hdv
  obtain ⟨ap, cp, rfl, _⟩ := hL0
  clear hk hK0 hcell hd
  generalize (dn.getD l []).length = fl at *
  generalize dn.length = dl at *
  refine Thru.mk fun J K hJ hK => ?_
  obtain ⟨Y, rfl, hY⟩ := ha.lay
  obtain ⟨e0, e1, e2, e3, e4, e5, e6, e7, e8, e9, e10, e11, e12, e13, -⟩ := hY
  rw [range_lk]
  simp only [e0, e1, e2, e3, e4, e5, e6, e7, e8, e9, e10, e11, e12, e13]
  clear ha e0 e1 e2 e3 e4 e5 e6 e7 e8 e9 e10 e11 e12 e13
  conv => arg 2; whnf
  go_wp2
  refine Met.intro (hJ _ _ ?_)
  exact ⟨_, ⟨rfl, by kernel_rfl, has_cons rfl (has_cons rfl (has_cons rfl (has_cons rfl (has_cons rfl (has_cons rfl (has_cons rfl (has_cons rfl (has_cons rfl (has_cons rfl (has_cons rfl (has_cons rfl (has_cons rfl (has_cons rfl (has_cons rfl (has_nil)))))))))))))))⟩, rfl, by simp⟩
set_option maxRecDepth 100000 in
set_option maxHeartbeats 8000000 in
theorem lk_fill {l : Nat} {wv : Value} (hv0 : IntsAt (fun b => b < w.heap.size) w (.slice a0 caps.length c0) caps) (hcap : caps.length ≤ 12) (hgood : Fl.Good caps (dn.getD l [])) (hd : dn.length = l + 1) (ha : Slots 397 (lkB a0 a1 a2 a3 a4 a5 caps.length paths.length drops.length syncs.length fails.length keeps.length c0 c1 c2 c3 c4 c5 aj dv mv t r [(40, .int .i64 (l : Nat)), (42, wv), (43, .int .i64 5)]) a) (hk : KeepsE X w aj (.slice a0 caps.length c0) m s dv mv dn mk [] u) :
    Lk [1, 1, 1, 1, 1, 1, 1, 1, 1, 1, 1, 1, 1, 1, 1, 1, 1, 0, 1, 0, 0, 1, 0, 0, 1, 1, 1, 1, 1, 1, 1, 1, 1, 1, 1, 1, 1, 1, 1, 1, 0, 1, 0, 0] (fun a' u' => ∃ wv', Slots 397 (lkB a0 a1 a2 a3 a4 a5 caps.length paths.length drops.length syncs.length fails.length keeps.length c0 c1 c2 c3 c4 c5 aj dv mv t r [(40, .int .i64 (l : Nat)), (42, wv')]) a' ∧ KeepsE X w aj (.slice a0 caps.length c0) m s dv mv dn mk [] u' ∧ FracsAt (fun _ => True) u' wv' (fill caps (dn.getD l [])).1) a u := by
  obtain ⟨D, c, pv, hdv, hc, hcell, F0, hK0, hL0⟩ := hk.last (i := l) (by omega)
  obtain ⟨q1, q2⟩ := hcell u (Below.refl _ _)
  have hlt : (l : Int) < dn.length := by omega
  have h00 : (0 : Int) ≤ (l : Int) := by omega
  have HF : Hid (Calls Tryd.prog 22 #[.agg #[(.slice a0 caps.length c0), pv]] u fun e w' => ∃ y z, e = .returned (.tuple #[y, z]) ∧ Hid (KeepsE X w aj (.slice a0 caps.length c0) m s dv mv dn mk [] w') ∧ Hid (FracsAt (fun _ => True) w' y (fill caps (dn.getD l [])).1)) := by
    refine (RFill_any (Q := fun _ => True) caps (dn.getD l []) _ u ⟨_, _, rfl, (hv0.later hk.below).keep (fun _ _ _ => rfl) (fun _ _ _ => trivial), hL0.keep (fun _ _ _ => rfl) (fun _ _ _ => trivial)⟩ hgood hcap).mono ?_
    rintro e w' ⟨y, z, he, hy, hz, hb⟩
    exact ⟨y, z, he, hk.later hb, hy.keep (fun _ _ _ => rfl) (fun _ _ _ => trivial)⟩
  subst hdv
  obtain ⟨ap, cp, rfl, _⟩ := hL0
  clear hk hK0 hcell hd hgood hv0
  generalize dn.getD l [] = fl at *
  generalize dn.length = dl at *
  refine Thru.mk fun J K hJ hK => ?_
  obtain ⟨Y, rfl, hY⟩ := ha.lay
  obtain ⟨e0, e1, e2, e3, e4, e5, e6, e7, e8, e9, e10, e11, e12, e13, -⟩ := hY
  rw [range_lk]
  simp only [e0, e1, e2, e3, e4, e5, e6, e7, e8, e9, e10, e11, e12, e13]
  clear ha e0 e1 e2 e3 e4 e5 e6 e7 e8 e9 e10 e11 e12 e13
  conv => arg 2; whnf
  go_wp2_with fail
  refine HF.out.mono ?_
  rintro e w1 ⟨y, z, rfl, hk, hy⟩
  clear HF
  go_wp2
  refine Met.intro (hJ _ _ ?_)
  exact ⟨y, ⟨rfl, by kernel_rfl, has_cons rfl (has_cons rfl (has_cons rfl (has_cons rfl (has_cons rfl (has_cons rfl (has_cons rfl (has_cons rfl (has_cons rfl (has_cons rfl (has_cons rfl (has_cons rfl (has_cons rfl (has_nil)))))))))))))⟩, hk.out, hy.out⟩
set_option maxRecDepth 100000 in
set_option maxHeartbeats 8000000 in
theorem lk_e00 {l : Nat} {wv : Value} (ha : Slots 397 (lkB a0 a1 a2 a3 a4 a5 caps.length paths.length drops.length syncs.length fails.length keeps.length c0 c1 c2 c3 c4 c5 aj dv mv t r [(40, .int .i64 (l : Nat)), (42, wv)]) a) :
    Lk [1, 1, 1, 1, 1, 1, 1, 1, 1, 1, 1, 1, 1, 1, 1, 1, 1, 0, 1, 0, 0, 1, 0, 0, 1, 1, 1, 1, 1, 1, 1, 1, 1, 1, 1, 1, 1, 1, 1, 1, 0, 1, 0, 1] (fun a' u' => Slots 397 (lkB a0 a1 a2 a3 a4 a5 caps.length paths.length drops.length syncs.length fails.length keeps.length c0 c1 c2 c3 c4 c5 aj dv mv t r [(42, wv), (43, .int .i64 0)]) a' ∧ u' = u) a u := by
  refine Thru.mk fun J K hJ hK => ?_
  obtain ⟨Y, rfl, hY⟩ := ha.lay
  obtain ⟨e0, e1, e2, e3, e4, e5, e6, e7, e8, e9, e10, e11, e12, -⟩ := hY
  rw [range_lk]
  simp only [e0, e1, e2, e3, e4, e5, e6, e7, e8, e9, e10, e11, e12]
  clear ha e0 e1 e2 e3 e4 e5 e6 e7 e8 e9 e10 e11 e12
  conv => arg 2; whnf
  go_wp2
  refine Met.intro (hJ _ _ ?_)
  exact ⟨⟨rfl, by kernel_rfl, has_cons rfl (has_cons rfl (has_cons rfl (has_cons rfl (has_cons rfl (has_cons rfl (has_cons rfl (has_cons rfl (has_cons rfl (has_cons rfl (has_cons rfl (has_cons rfl (has_cons rfl (has_nil)))))))))))))⟩, rfl⟩
end
end Ev
end Go.Proofs.YtdldgefahgojaakDoor
