/- The law LogKeeps: the rates. -/
import Derived.Test.YtdldgefahgojaakDoorPlains
import Derived.Test.YtdldgefahgojaakDoorLdSame
import Derived.Test.YtdldgefahgojaakDoorToldB
namespace Go.Proofs.YtdldgefahgojaakDoor
namespace Ev
open Go.RowKit Fr Ns Ld Fl
set_option linter.unusedSimpArgs false
set_option linter.unusedVariables false

section
variable {X : LogFace} {w : World} {caps : List Int} {paths : List (List Int)} {drops syncs fails keeps : List Int} {a0 a1 a2 a3 a4 a5 : Option Addr} {c0 c1 c2 c3 c4 c5 : Nat} {aj : Addr} {dv mv : Value} {t r k m : Nat} {s : LogS} {dn : List Flows} {mk : List Nat} {a : Act} {u : World}
theorem eqF_selfK (l : List (Int × Int)) : eqF l l = true := by simp [eqF]
set_option maxRecDepth 100000 in
set_option maxHeartbeats 8000000 in
theorem lk_rates {wv : Value} {fs : List (Int × Int)} (hR : LRatesSaid X) (hm : m ≤ 1000) (hfs : fs = okL (ratesLE s.flows) (fill s.caps s.flows).1) (ha : Slots 397 (lkB a0 a1 a2 a3 a4 a5 caps.length paths.length drops.length syncs.length fails.length keeps.length c0 c1 c2 c3 c4 c5 aj dv mv t r [(42, wv), (43, .int .i64 (ratesLE s.flows))]) a) (hk : KeepsE X w aj (.slice a0 caps.length c0) m s dv mv dn mk [] u) (hw : FracsAt (fun _ => True) u wv fs) :
    Lk [1, 1, 1, 1, 1, 1, 1, 1, 1, 1, 1, 1, 1, 1, 1, 1, 1, 0, 1, 0, 0, 1, 0, 0, 1, 1, 1, 1, 1, 1, 1, 1, 1, 1, 1, 1, 1, 1, 1, 1, 1, 0] (fun a' u' => ∃ rv, Slots 397 (lkB a0 a1 a2 a3 a4 a5 caps.length paths.length drops.length syncs.length fails.length keeps.length c0 c1 c2 c3 c4 c5 aj dv mv t r [(42, wv), (43, .int .i64 (ratesLE s.flows)), (44, rv), (45, errV (ratesLE s.flows))]) a' ∧ KeepsE X w aj (.slice a0 caps.length c0) m s dv mv dn mk [] u' ∧ FracsAt (fun _ => True) u' wv fs ∧ FracsAt (fun _ => True) u' rv fs) a u := by
  have HR : Hid (Calls Tryd.prog 8 #[.pointer (some aj)] u fun e w' => ∃ y, e = .returned (.tuple #[y, errV (ratesLE s.flows)]) ∧ Hid (KeepsE X w aj (.slice a0 caps.length c0) m s dv mv dn mk [] w') ∧ Hid (FracsAt (fun _ => True) w' wv fs) ∧ Hid (FracsAt (fun _ => True) w' y fs)) := by
    refine (k_rates hR hk hm).mono ?_
    rintro e w' ⟨y, he, hy, hb⟩
    rw [← hfs] at hy
    exact ⟨y, he, hk.later hb, hw.later hb, hy.keep (fun _ _ _ => rfl) (fun _ _ _ => trivial)⟩
  clear hk hR hw hfs
  generalize errV (ratesLE s.flows) = ev at *
  generalize ratesLE s.flows = re at *
  refine Thru.mk fun J K hJ hK => ?_
  obtain ⟨Y, rfl, hY⟩ := ha.lay
  obtain ⟨e0, e1, e2, e3, e4, e5, e6, e7, e8, e9, e10, e11, e12, -⟩ := hY
  rw [range_lk]
  simp only [e0, e1, e2, e3, e4, e5, e6, e7, e8, e9, e10, e11, e12]
  clear ha e0 e1 e2 e3 e4 e5 e6 e7 e8 e9 e10 e11 e12
  conv => arg 2; whnf
  go_wp2_with fail
  refine HR.out.mono ?_
  rintro e w1 ⟨y, rfl, hk, h1, h2⟩
  clear HR
  go_wp2
  refine Met.intro (hJ _ _ ?_)
  exact ⟨y, ⟨rfl, by kernel_rfl, has_cons rfl (has_cons rfl (has_cons rfl (has_cons rfl (has_cons rfl (has_cons rfl (has_cons rfl (has_cons rfl (has_cons rfl (has_cons rfl (has_cons rfl (has_cons rfl (has_cons rfl (has_cons rfl (has_cons rfl (has_nil)))))))))))))))⟩, hk.out, h1.out, h2.out⟩
set_option maxRecDepth 100000 in
set_option maxHeartbeats 8000000 in
theorem lk_err {wv rv : Value} {ee : Int} {fs : List (Int × Int)} (hg : w.cell? ⟨0, 0, none⟩ = some handleV) (ha : Slots 397 (lkB a0 a1 a2 a3 a4 a5 caps.length paths.length drops.length syncs.length fails.length keeps.length c0 c1 c2 c3 c4 c5 aj dv mv t r [(42, wv), (43, .int .i64 ee), (44, rv), (45, errV ee)]) a) (hk : KeepsE X w aj (.slice a0 caps.length c0) m s dv mv dn mk [] u) (hw : FracsAt (fun _ => True) u wv fs) (hr : FracsAt (fun _ => True) u rv fs) :
    Lk [1, 1, 1, 1, 1, 1, 1, 1, 1, 1, 1, 1, 1, 1, 1, 1, 1, 0, 1, 0, 0, 1, 0, 0, 1, 1, 1, 1, 1, 1, 1, 1, 1, 1, 1, 1, 1, 1, 1, 1, 1, 1, 0] (fun a' u' => Slots 397 (lkB a0 a1 a2 a3 a4 a5 caps.length paths.length drops.length syncs.length fails.length keeps.length c0 c1 c2 c3 c4 c5 aj dv mv t r [(42, wv), (44, rv), (24, .bool true)]) a' ∧ KeepsE X w aj (.slice a0 caps.length c0) m s dv mv dn mk [] u' ∧ FracsAt (fun _ => True) u' wv fs ∧ FracsAt (fun _ => True) u' rv fs) a u := by
  have HE : Hid (Calls Tryd.prog 7 #[errV ee, .int .i64 ee] u fun e w' => e = .returned (.bool true) ∧ Hid (KeepsE X w aj (.slice a0 caps.length c0) m s dv mv dn mk [] w') ∧ Hid (FracsAt (fun _ => True) w' wv fs) ∧ Hid (FracsAt (fun _ => True) w' rv fs)) := by
    refine (Error_any ee ee u (cell_later hk.below hg)).mono ?_
    rintro e w' ⟨he, hb⟩
    rw [beq_self_eq_true] at he
    exact ⟨he, hk.later hb, hw.later hb, hr.later hb⟩
  clear hk hg hw hr
  generalize errV ee = ev at *
  refine Thru.mk fun J K hJ hK => ?_
  obtain ⟨Y, rfl, hY⟩ := ha.lay
  obtain ⟨e0, e1, e2, e3, e4, e5, e6, e7, e8, e9, e10, e11, e12, e13, e14, -⟩ := hY
  rw [range_lk]
  simp only [e0, e1, e2, e3, e4, e5, e6, e7, e8, e9, e10, e11, e12, e13, e14]
  clear ha e0 e1 e2 e3 e4 e5 e6 e7 e8 e9 e10 e11 e12 e13 e14
  conv => arg 2; whnf
  go_wp2_with fail
  refine HE.out.mono ?_
  rintro e w1 ⟨rfl, hk, h1, h2⟩
  clear HE
  go_wp2
  refine Met.intro (hJ _ _ ?_)
  exact ⟨⟨rfl, by kernel_rfl, has_cons rfl (has_cons rfl (has_cons rfl (has_cons rfl (has_cons rfl (has_cons rfl (has_cons rfl (has_cons rfl (has_cons rfl (has_cons rfl (has_cons rfl (has_cons rfl (has_cons rfl (has_cons rfl (has_nil))))))))))))))⟩, hk.out, h1.out, h2.out⟩
set_option maxRecDepth 100000 in
set_option maxHeartbeats 8000000 in
theorem lk_end {wv rv : Value} {fs : List (Int × Int)} (ha : Slots 397 (lkB a0 a1 a2 a3 a4 a5 caps.length paths.length drops.length syncs.length fails.length keeps.length c0 c1 c2 c3 c4 c5 aj dv mv t r [(42, wv), (44, rv), (24, .bool true)]) a) (hk : KeepsE X w aj (.slice a0 caps.length c0) m s dv mv dn mk [] u) (hw : FracsAt (fun _ => True) u wv fs) (hr : FracsAt (fun _ => True) u rv fs) :
    Lk [1, 1, 1, 1, 1, 1, 1, 1, 1, 1, 1, 1, 1, 1, 1, 1, 1, 0, 1, 0, 0, 1, 0, 0, 1, 1, 1, 1, 1, 1, 1, 1, 1, 1, 1, 1, 1, 1, 1, 1, 1, 1, 1] (fun a' u' => Slots 397 (lkB a0 a1 a2 a3 a4 a5 caps.length paths.length drops.length syncs.length fails.length keeps.length c0 c1 c2 c3 c4 c5 aj dv mv t r []) a' ∧ KeepsE X w aj (.slice a0 caps.length c0) m s dv mv dn mk [] u') a u := by
  have HF : Hid (Calls Tryd.prog 23 #[rv, wv] u fun e w' => e = .returned (.bool true) ∧ Hid (KeepsE X w aj (.slice a0 caps.length c0) m s dv mv dn mk [] w')) := by
    refine (SFracs_any fs fs rv wv u hr hw).mono ?_
    rintro e w' ⟨he, n, rfl⟩
    rw [eqF_selfK] at he
    exact ⟨he, hk.later (below_drewN (Below.refl _ _) _)⟩
  clear hk hw hr
  refine Thru.mk fun J K hJ hK => ?_
  obtain ⟨Y, rfl, hY⟩ := ha.lay
  obtain ⟨e0, e1, e2, e3, e4, e5, e6, e7, e8, e9, e10, e11, e12, e13, -⟩ := hY
  rw [range_lk]
  simp only [e0, e1, e2, e3, e4, e5, e6, e7, e8, e9, e10, e11, e12, e13]
  clear ha e0 e1 e2 e3 e4 e5 e6 e7 e8 e9 e10 e11 e12 e13
  conv => arg 2; whnf
  go_wp2_with fail
  refine HF.out.mono ?_
  rintro e w1 ⟨rfl, hk⟩
  clear HF
  go_wp2
  refine Met.intro (hJ _ _ ?_)
  exact ⟨⟨rfl, by kernel_rfl, has_cons rfl (has_cons rfl (has_cons rfl (has_cons rfl (has_cons rfl (has_cons rfl (has_cons rfl (has_cons rfl (has_cons rfl (has_cons rfl (has_cons rfl (has_nil)))))))))))⟩, hk.out⟩
end
end Ev
end Go.Proofs.YtdldgefahgojaakDoor
