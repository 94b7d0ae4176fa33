/- The law LogKeeps: the inner loop. -/
import Derived.Test.YtdldgefahgojaakDoorLkP
import Derived.Test.YtdldgefahgojaakDoorPlains
namespace Go.Proofs.YtdldgefahgojaakDoor
namespace Ev
open Go.RowKit Fr Ns Ld Fl
set_option linter.unusedSimpArgs false
set_option linter.unusedVariables false

section
variable {X : LogFace} {w : World} {caps : List Int} {paths : List (List Int)} {drops syncs fails keeps : List Int} {a0 a1 a2 a3 a4 a5 : Option Addr} {c0 c1 c2 c3 c4 c5 : Nat} {aj : Addr} {dv mv : Value} {t r k m : Nat} {s : LogS} {dn : List Flows} {mk : List Nat} {a : Act} {u : World}
theorem lk_loop2 (hA : LAddSaid X) (hD : LDropSaid X) (hS : LSyncSaid X) (hB : LBytesSaid X) (hSf : LSafeSaid X) (hP : LPathsSaid X) (hg : w.cell? ⟨0, 0, none⟩ = some handleV) (hv0 : IntsAt (fun b => b < w.heap.size) w (.slice a0 caps.length c0) caps) (hv1 : ListsAt (fun b => b < w.heap.size) w (.slice a1 paths.length c1) paths) (hv2 : IntsAt (fun b => b < w.heap.size) w (.slice a2 drops.length c2) drops) (hv3 : IntsAt (fun b => b < w.heap.size) w (.slice a3 syncs.length c3) syncs) (hm : m + 10 ≤ 1000) (hc : s.caps = caps) (ha : Slots 397 (lkB a0 a1 a2 a3 a4 a5 caps.length paths.length drops.length syncs.length fails.length keeps.length c0 c1 c2 c3 c4 c5 aj dv mv t r [(29, .int .i64 0)]) a) (hk : KeepsE X w aj (.slice a0 caps.length c0) m s dv mv s.done s.marks [] u) :
    Lk [1, 1, 1, 1, 1, 1, 1, 1, 1, 1, 1, 1, 1, 1, 1, 1, 1, 0, 1, 0, 0, 1, 0, 0, 1, 0, 1] (fun a' u' => ∃ (s' : LogS) (dv' mv' : Value) (t' : Nat), Slots 397 (lkB a0 a1 a2 a3 a4 a5 caps.length paths.length drops.length syncs.length fails.length keeps.length c0 c1 c2 c3 c4 c5 aj dv' mv' t' r []) a' ∧ KeepsE X w aj (.slice a0 caps.length c0) (m + 10) s' dv' mv' s'.done s'.marks [] u' ∧ s'.caps = caps) a u := by
  refine Lk.loop (p0 := [1, 1, 1, 1, 1, 1, 1, 1, 1, 1, 1, 1, 1, 1, 1, 1, 1, 0, 1, 0, 0, 1, 0, 0, 1, 0, 1, 0, 0]) (id := 2) (by kernel_rfl) (fun a' u' => ∃ (k t' : Nat) (s' : LogS) (dv' mv' : Value), k ≤ 10 ∧ Slots 397 (lkB a0 a1 a2 a3 a4 a5 caps.length paths.length drops.length syncs.length fails.length keeps.length c0 c1 c2 c3 c4 c5 aj dv' mv' t' r [(29, .int .i64 k)]) a' ∧ KeepsE X w aj (.slice a0 caps.length c0) (m + k) s' dv' mv' s'.done s'.marks [] u' ∧ s'.caps = caps) (fun a' _ => 10 - (intOf (a'.tmps.toList.getD 29 undef)).toNat) ⟨0, t, s, dv, mv, by omega, ha, hk, hc⟩ ?_
  rintro a1 u1 ⟨k, t', s', dv', mv', hk10, hs, hk', hc'⟩
  by_cases h : k < 10 ∧ t' < paths.length
  · left
    refine Lk.seq (p0 := [1, 1, 1, 1, 1, 1, 1, 1, 1, 1, 1, 1, 1, 1, 1, 1, 1, 0, 1, 0, 0, 1, 0, 0, 1, 0, 1, 0, 0, 0]) (p1 := [1, 1, 1, 1, 1, 1, 1, 1, 1, 1, 1, 1, 1, 1, 1, 1, 1, 0, 1, 0, 0, 1, 0, 0, 1, 0, 1, 0, 0, 1]) (by kernel_rfl) (lk_in2 h.1 h.2 hs) ?_
    rintro a2 u2 ⟨hs2, rfl⟩
    refine Lk.seq (p0 := [1, 1, 1, 1, 1, 1, 1, 1, 1, 1, 1, 1, 1, 1, 1, 1, 1, 0, 1, 0, 0, 1, 0, 0, 1, 0, 1, 0, 0, 1, 0]) (p1 := [1, 1, 1, 1, 1, 1, 1, 1, 1, 1, 1, 1, 1, 1, 1, 1, 1, 0, 1, 0, 0, 1, 0, 0, 1, 0, 1, 0, 0, 1, 1]) (by kernel_rfl) (Lk.block (p0 := [1, 1, 1, 1, 1, 1, 1, 1, 1, 1, 1, 1, 1, 1, 1, 1, 1, 0, 1, 0, 0, 1, 0, 0, 1, 0, 1, 0, 0, 1, 0, 0]) (id := 3) (by kernel_rfl) (lk_round2 hA hD hS hB hSf hP hg hv0 hv1 hv2 hv3 h.2 (by omega) hc' hs2 hk')) ?_
    rintro a3 u3 ⟨s3, dv3, mv3, hs3, hk3, hc3⟩
    refine (lk_inc2 h.1 hs3).mono ?_
    rintro a4 u4 ⟨hs4, rfl⟩
    refine ⟨⟨k + 1, t' + 1, s3, dv3, mv3, by omega, hs4, hk3, hc3⟩, ?_⟩
    have e1 := slot_int (hs.2.2.2.2.2.2.2.2.2.2.2.2.2.1)
    have e2 := slot_int (hs4.2.2.2.2.2.2.2.2.2.2.2.2.2.1)
    show 10 - (intOf (a4.tmps.toList.getD 29 undef)).toNat < 10 - (intOf (a1.tmps.toList.getD 29 undef)).toNat
    rw [e1, e2]
    omega
  · right
    refine LkX.seq (p0 := [1, 1, 1, 1, 1, 1, 1, 1, 1, 1, 1, 1, 1, 1, 1, 1, 1, 0, 1, 0, 0, 1, 0, 0, 1, 0, 1, 0, 0, 0]) (p1 := [1, 1, 1, 1, 1, 1, 1, 1, 1, 1, 1, 1, 1, 1, 1, 1, 1, 0, 1, 0, 0, 1, 0, 0, 1, 0, 1, 0, 0, 1]) (by kernel_rfl) ((lk_out2 h hs).mono ?_)
    rintro a2 u2 ⟨hs2, rfl⟩
    exact ⟨s', dv', mv', t', hs2, hk'.to (by have := hk'.few; omega), hc'⟩
end
end Ev
end Go.Proofs.YtdldgefahgojaakDoor
