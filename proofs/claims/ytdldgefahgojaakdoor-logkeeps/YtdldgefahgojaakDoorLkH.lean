/- The law LogKeeps: its paths are the last ones. -/
import Derived.Test.YtdldgefahgojaakDoorPlains
import Derived.Test.YtdldgefahgojaakDoorSame
namespace Go.Proofs.YtdldgefahgojaakDoor
namespace Ev
open Go.RowKit Fr Ns Ld Fl
set_option linter.unusedSimpArgs false
set_option linter.unusedVariables false

section
variable {X : LogFace} {w : World} {caps : List Int} {paths : List (List Int)} {drops syncs fails keeps : List Int} {a0 a1 a2 a3 a4 a5 : Option Addr} {c0 c1 c2 c3 c4 c5 : Nat} {aj : Addr} {dv mv : Value} {t r k m : Nat} {s : LogS} {dn : List Flows} {mk : List Nat} {a : Act} {u : World}
theorem eqL_selfK (l : List (List Int)) : eqL l l = true := by simp [eqL]
set_option maxRecDepth 100000 in
set_option maxHeartbeats 8000000 in
theorem lk_same {d : Nat} (hP : LPathsSaid X) (hm : m ≤ 1000) (hdn : s.done = dn) (hd : dn.length = d + 1) (hdm : dn.length ≤ 1000) (ha : Slots 397 (lkB a0 a1 a2 a3 a4 a5 caps.length paths.length drops.length syncs.length fails.length keeps.length c0 c1 c2 c3 c4 c5 aj dv mv t r [(29, .int .i64 k)]) a) (hk : KeepsE X w aj (.slice a0 caps.length c0) m s dv mv dn mk [] u) :
    Lk [1, 1, 1, 1, 1, 1, 1, 1, 1, 1, 1, 1, 1, 1, 1, 1, 1, 0, 1, 0, 0, 1, 0, 0, 1, 0, 1, 0, 0, 1, 0, 0, 1, 1, 1, 1, 1, 1, 1, 1, 1, 1, 1, 1] (fun a' u' => Slots 397 (lkB a0 a1 a2 a3 a4 a5 caps.length paths.length drops.length syncs.length fails.length keeps.length c0 c1 c2 c3 c4 c5 aj dv mv t r [(29, .int .i64 k)]) a' ∧ KeepsE X w aj (.slice a0 caps.length c0) m s dv mv dn mk [] u') a u := by
  obtain ⟨D, c, pv, hdv, hc, hcell, F0, hK0, hL0⟩ := hk.last (i := d) (by omega)
  have hfl : dn.getD d [] = s.flows := by
    show _ = flowsL s.done
    rw [flowsL, hdn, hd]; rfl
  rw [hfl] at hL0
  have KL : Hid (∀ u', Below u.heap.size u u' → KeepsE X w aj (.slice a0 caps.length c0) m s dv mv dn mk [] u') := fun u' hb => hk.later hb
  have HP : Hid (∀ u', Below u.heap.size u u' → Calls Tryd.prog 13 #[.pointer (some aj)] u' fun e w' => ∃ ay cy, e = .returned (.slice ay s.flows.length cy) ∧ Hid (Below u.heap.size u w') ∧ Hid (ListsAt (fun _ => True) w' (.slice ay s.flows.length cy) s.flows)) := fun u' hb => by
    refine (k_paths hP (hk.later hb) hm).mono ?_
    rintro e w' ⟨y, he, hl, hb2⟩
    obtain ⟨ay, cy, rfl, _⟩ := id hl
    exact ⟨ay, cy, he, Bel.call hb (Nat.le_refl _) hb2, hl.keep (fun _ _ _ => rfl) (fun _ _ _ => trivial)⟩
  have HL : Hid (∀ u' va, ListsAt (fun _ => True) u' va s.flows → Below u.heap.size u u' → Calls Tryd.prog 21 #[va, pv] u' fun e w' => e = .returned (.bool true) ∧ Hid (Below u.heap.size u w')) := fun u' va hva hb => by
    refine (SLists_any s.flows s.flows va pv u' hva (hL0.later hb)).mono ?_
    rintro e w' ⟨he, n, rfl⟩
    rw [eqL_selfK] at he
    exact ⟨he, below_drewN hb _⟩
  have HSA : Hid (∀ u', Below u.heap.size u u' → u'.cell? ⟨D, d * 2 + 1, none⟩ = some pv) := fun u' hb => (hcell u' hb).2
  have q2 := (hcell u (Below.refl _ _)).2
  have hw1 : IntKind.i64.wrap ((dn.length : Int) - 1) = (d : Int) := by rw [IntKind.wrap_i64]; omega
  have hlt : (d : Int) < dn.length := by omega
  have P1 : Hid (Below u.heap.size u u.drew) := (Below.refl _ _).drew
  subst hdv
  obtain ⟨ap, cp, rfl, _⟩ := hL0
  generalize s.flows.length = fl at *
  have h00 : (0 : Int) ≤ (d : Int) := by omega
  clear hk hK0 hcell hP hfl hd hdm hdn
  generalize dn.length = dl at *
  refine Thru.mk fun J K hJ hK => ?_
  obtain ⟨Y, rfl, hY⟩ := ha.lay
  obtain ⟨e0, e1, e2, e3, e4, e5, e6, e7, e8, e9, e10, e11, -⟩ := hY
  rw [range_lk]
  simp only [e0, e1, e2, e3, e4, e5, e6, e7, e8, e9, e10, e11]
  clear ha e0 e1 e2 e3 e4 e5 e6 e7 e8 e9 e10 e11
  conv => arg 2; whnf
  go_wp2_with fail
  go_region_held3 (fun u' => u'.cell? ⟨D, d * 2 + 1, none⟩ = some (.slice ap fl cp)) ((refine HSA.out _ ?_; first | exact P1.out | exact Hb1.out | exact Hb2.out))
    (first
      | (go_at_call 13; refine (HP.out _ P1.out).mono ?_; rintro e w1 ⟨ay, cy, rfl, Hb1, Hl1⟩)
      | (go_at_call 21; refine (HL.out _ _ Hl1.out Hb1.out).mono ?_; rintro e w2 ⟨rfl, Hb2⟩))
  all_goals
    go_wp2_with fail
    refine Met.intro (hJ _ _ ?_)
    exact ⟨⟨rfl, by kernel_rfl, has_cons rfl (has_cons rfl (has_cons rfl (has_cons rfl (has_cons rfl (has_cons rfl (has_cons rfl (has_cons rfl (has_cons rfl (has_cons rfl (has_cons rfl (has_cons rfl (has_nil))))))))))))⟩, KL.out _ Hb2.out⟩
end
end Ev
end Go.Proofs.YtdldgefahgojaakDoor
