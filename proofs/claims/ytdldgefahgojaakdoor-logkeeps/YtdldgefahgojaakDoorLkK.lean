/- The law LogKeeps: behind the crash. -/
import Derived.Test.YtdldgefahgojaakDoorPlains
import Derived.Test.YtdldgefahgojaakDoorSame
namespace Go.Proofs.YtdldgefahgojaakDoor
namespace Ev
open Go.RowKit Fr Ns Ld Fl
set_option linter.unusedSimpArgs false
set_option linter.unusedVariables false

section
variable {X : LogFace} {w : World} {caps : List Int} {paths : List (List Int)} {drops syncs fails keeps : List Int} {a0 a1 a2 a3 a4 a5 : Option Addr} {c0 c1 c2 c3 c4 c5 : Nat} {aj : Addr} {dv mv : Value} {t r k m : Nat} {s : LogS} {dn : List Flows} {mk : List Nat} {a : Act} {u : World}
theorem eqL_selfM (l : List (List Int)) : eqL l l = true := by simp [eqL]
set_option maxRecDepth 100000 in
set_option maxHeartbeats 8000000 in
theorem lk_after {l : Nat} (hP : LPathsSaid X) (hB : LBytesSaid X) (hSf : LSafeSaid X) (hm : m ≤ 1000) (hdn : s.done = dn) (hd : dn.length = l + 1) (hmk : mk.length = l + 1) (hb1 : s.bytes = mk.getD l 0) (hb2 : s.safe = mk.getD l 0) (ha : Slots 397 (lkB a0 a1 a2 a3 a4 a5 caps.length paths.length drops.length syncs.length fails.length keeps.length c0 c1 c2 c3 c4 c5 aj dv mv t r [(40, .int .i64 (l : Nat))]) a) (hk : KeepsE X w aj (.slice a0 caps.length c0) m s dv mv dn mk [] u) :
    Lk [1, 1, 1, 1, 1, 1, 1, 1, 1, 1, 1, 1, 1, 1, 1, 1, 1, 0, 1, 0, 0, 1, 0, 0, 1, 1, 1, 1, 1, 1, 1, 1, 1, 1, 1, 1, 1, 0] (fun a' u' => Slots 397 (lkB a0 a1 a2 a3 a4 a5 caps.length paths.length drops.length syncs.length fails.length keeps.length c0 c1 c2 c3 c4 c5 aj dv mv t r [(40, .int .i64 (l : Nat))]) a' ∧ KeepsE X w aj (.slice a0 caps.length c0) m s dv mv dn mk [] u') a u := by
  obtain ⟨D, c, pv, hdv, hc, hcell, F0, hK0, hL0⟩ := hk.last (i := l) (by omega)
  have hfl : dn.getD l [] = s.flows := by
    show _ = flowsL s.done
    rw [flowsL, hdn, hd]; rfl
  rw [hfl] at hL0
  obtain ⟨M, cm, hmv, hcm, hmcell⟩ := hk.mark (by omega)
  have KL : Hid (∀ u', Below u.heap.size u u' → KeepsE X w aj (.slice a0 caps.length c0) m s dv mv dn mk [] u') := fun u' hb => hk.later hb
  have HP : Hid (∀ u', Below u.heap.size u u' → Calls Tryd.prog 13 #[.pointer (some aj)] u' fun e w' => ∃ ay cy, e = .returned (.slice ay s.flows.length cy) ∧ Hid (Below u.heap.size u w') ∧ Hid (ListsAt (fun _ => True) w' (.slice ay s.flows.length cy) s.flows)) := fun u' hb => by
    refine (k_paths hP (hk.later hb) hm).mono ?_
    rintro e w' ⟨y, he, hl, hb2⟩
    obtain ⟨ay, cy, rfl, _⟩ := id hl
    exact ⟨ay, cy, he, Bel.call hb (Nat.le_refl _) hb2, hl.keep (fun _ _ _ => rfl) (fun _ _ _ => trivial)⟩
  have HL : Hid (∀ u' va, ListsAt (fun _ => True) u' va s.flows → Below u.heap.size u u' → Calls Tryd.prog 21 #[va, pv] u' fun e w' => e = .returned (.bool true) ∧ Hid (Below u.heap.size u w')) := fun u' va hva hb => by
    refine (SLists_any s.flows s.flows va pv u' hva (hL0.later hb)).mono ?_
    rintro e w' ⟨he, n, rfl⟩
    rw [eqL_selfM] at he
    exact ⟨he, below_drewN hb _⟩
  have HBy : Hid (∀ u', Below u.heap.size u u' → Calls Tryd.prog 9 #[.pointer (some aj)] u' fun e w' => e = .returned (.int .i64 (mk.getD l 0 : Nat)) ∧ Hid (Below u.heap.size u w')) := fun u' hb => by
    refine (k_bytes hB (hk.later hb) hm).mono ?_
    rintro e w' ⟨he, n, rfl⟩
    rw [hb1] at he
    exact ⟨he, below_drewN hb _⟩
  have HSf : Hid (∀ u', Below u.heap.size u u' → Calls Tryd.prog 14 #[.pointer (some aj)] u' fun e w' => e = .returned (.int .i64 (mk.getD l 0 : Nat)) ∧ Hid (Below u.heap.size u w')) := fun u' hb => by
    refine (k_safe hSf (hk.later hb) hm).mono ?_
    rintro e w' ⟨he, n, rfl⟩
    rw [hb2] at he
    exact ⟨he, below_drewN hb _⟩
  have HSA : Hid (∀ u', Below u.heap.size u u' → u'.cell? ⟨D, l * 2 + 1, none⟩ = some pv ∧ u'.cell? ⟨M, l, none⟩ = some (.int .i64 (mk.getD l 0 : Nat))) := fun u' hb => ⟨(hcell u' hb).2, hmcell u' l hb (by omega)⟩
  obtain ⟨q2, q3⟩ := HSA.out u (Below.refl _ _)
  have hlt : (l : Int) < dn.length := by omega
  have hlt2 : (l : Int) < mk.length := by omega
  have P1 : Hid (Below u.heap.size u u.drew) := (Below.refl _ _).drew
  subst hdv hmv
  obtain ⟨ap, cp, rfl, _⟩ := hL0
  generalize s.flows.length = fl at *
  have h00 : (0 : Int) ≤ (l : Int) := by omega
  generalize ((mk.getD l 0 : Nat) : Int) = z at *
  have hz : (z != z) = false := by simp
  clear hk hK0 hcell hmcell hP hB hSf hfl hd hdn hmk hb1 hb2
  generalize dn.length = dl at *
  generalize mk.length = ml at *
  refine Thru.mk fun J K hJ hK => ?_
  obtain ⟨Y, rfl, hY⟩ := ha.lay
  obtain ⟨e0, e1, e2, e3, e4, e5, e6, e7, e8, e9, e10, e11, -⟩ := hY
  rw [range_lk]
  simp only [e0, e1, e2, e3, e4, e5, e6, e7, e8, e9, e10, e11]
  clear ha e0 e1 e2 e3 e4 e5 e6 e7 e8 e9 e10 e11
  conv => arg 2; whnf
  go_wp2_with fail
  go_region_held3 (fun u' => u'.cell? ⟨D, l * 2 + 1, none⟩ = some (.slice ap fl cp) ∧ u'.cell? ⟨M, l, none⟩ = some (.int .i64 z)) ((refine HSA.out _ ?_; first | exact P1.out | exact Hb1.out | exact Hb2.out | exact Hb3.out | exact Hb4.out))
    (first
      | (go_at_call 13; refine (HP.out _ P1.out).mono ?_; rintro e w1 ⟨ay, cy, rfl, Hb1, Hl1⟩)
      | (go_at_call 21; refine (HL.out _ _ Hl1.out Hb1.out).mono ?_; rintro e w2 ⟨rfl, Hb2⟩)
      | (go_at_call 9; refine (HBy.out _ Hb2.out).mono ?_; rintro e w3 ⟨rfl, Hb3⟩)
      | (go_at_call 14; refine (HSf.out _ Hb3.out).mono ?_; rintro e w4 ⟨rfl, Hb4⟩))
  all_goals
    go_wp2_with fail
    refine Met.intro (hJ _ _ ?_)
    exact ⟨⟨rfl, by kernel_rfl, has_cons rfl (has_cons rfl (has_cons rfl (has_cons rfl (has_cons rfl (has_cons rfl (has_cons rfl (has_cons rfl (has_cons rfl (has_cons rfl (has_cons rfl (has_cons rfl (has_nil))))))))))))⟩, KL.out _ Hb4.out⟩
end
end Ev
end Go.Proofs.YtdldgefahgojaakDoor
