/- The law LogKeeps: the outer loop. -/
import Derived.Test.YtdldgefahgojaakDoorLkQ
import Derived.Test.YtdldgefahgojaakDoorLkS
namespace Go.Proofs.YtdldgefahgojaakDoor
namespace Ev
open Go.RowKit Fr Ns Ld Fl
set_option linter.unusedSimpArgs false
set_option linter.unusedVariables false

section
variable {X : LogFace} {w : World} {caps : List Int} {paths : List (List Int)} {drops syncs fails keeps : List Int} {a0 a1 a2 a3 a4 a5 : Option Addr} {c0 c1 c2 c3 c4 c5 : Nat} {aj : Addr} {dv mv : Value} {t r k m : Nat} {s : LogS} {dn : List Flows} {mk : List Nat} {a : Act} {u : World}
theorem lk_loop1 (hA : LAddSaid X) (hD : LDropSaid X) (hS : LSyncSaid X) (hC : LCrashSaid X) (hF : LFailSaid X) (hfr : ∀ x ∈ fails, x ≤ 9223372036854775807) (hP : LPathsSaid X) (hB : LBytesSaid X) (hSf : LSafeSaid X) (hR : LRatesSaid X) (hg : w.cell? ⟨0, 0, none⟩ = some handleV) (hv0 : IntsAt (fun b => b < w.heap.size) w (.slice a0 caps.length c0) caps) (hv1 : ListsAt (fun b => b < w.heap.size) w (.slice a1 paths.length c1) paths) (hv2 : IntsAt (fun b => b < w.heap.size) w (.slice a2 drops.length c2) drops) (hv3 : IntsAt (fun b => b < w.heap.size) w (.slice a3 syncs.length c3) syncs) (hv4 : IntsAt (fun b => b < w.heap.size) w (.slice a4 fails.length c4) fails) (hv5 : IntsAt (fun b => b < w.heap.size) w (.slice a5 keeps.length c5) keeps) (hc : s.caps = caps) (hst : s.stopped = false) (ha : Slots 397 (lkB a0 a1 a2 a3 a4 a5 caps.length paths.length drops.length syncs.length fails.length keeps.length c0 c1 c2 c3 c4 c5 aj dv mv 0 0 []) a) (hk : KeepsE X w aj (.slice a0 caps.length c0) 1 s dv mv s.done s.marks [] u) :
    Lk [1, 1, 1, 1, 1, 1, 1, 1, 1, 1, 1, 1, 1, 1, 1, 1, 1, 0, 1] (fun a' u' => a'.defers = [] ∧ a'.tmps.toList.length = 397 ∧ Below w.heap.size w u') a u := by
  refine Lk.loop (p0 := [1, 1, 1, 1, 1, 1, 1, 1, 1, 1, 1, 1, 1, 1, 1, 1, 1, 0, 1, 0, 0]) (id := 0) (by kernel_rfl) (fun a' u' => ∃ (r t' : Nat) (s' : LogS) (dv' mv' : Value), r ≤ 4 ∧ Slots 397 (lkB a0 a1 a2 a3 a4 a5 caps.length paths.length drops.length syncs.length fails.length keeps.length c0 c1 c2 c3 c4 c5 aj dv' mv' t' r []) a' ∧ KeepsE X w aj (.slice a0 caps.length c0) (1 + 10 * r) s' dv' mv' s'.done s'.marks [] u' ∧ s'.stopped = false ∧ s'.caps = caps) (fun a' _ => 4 - (intOf (a'.tmps.toList.getD 28 undef)).toNat) ⟨0, 0, s, dv, mv, by omega, ha, hk, hst, hc⟩ ?_
  rintro ac1 u1 ⟨r, t', s', dv', mv', hr4, hs, hk', hst', hc'⟩
  by_cases h : r ≤ fails.length ∧ r < 4
  · left
    refine Lk.seq (p0 := [1, 1, 1, 1, 1, 1, 1, 1, 1, 1, 1, 1, 1, 1, 1, 1, 1, 0, 1, 0, 0, 0]) (p1 := [1, 1, 1, 1, 1, 1, 1, 1, 1, 1, 1, 1, 1, 1, 1, 1, 1, 0, 1, 0, 0, 1]) (by kernel_rfl) (lk_in1 h.1 h.2 hs) ?_
    rintro ac2 u2 ⟨hs2, rfl⟩
    refine Lk.seq (R := fun a' u' => ∃ (s' : LogS) (dv' mv' : Value) (t' : Nat), Slots 397 (lkB a0 a1 a2 a3 a4 a5 caps.length paths.length drops.length syncs.length fails.length keeps.length c0 c1 c2 c3 c4 c5 aj dv' mv' t' r []) a' ∧ KeepsE X w aj (.slice a0 caps.length c0) (1 + 10 * r + 10) s' dv' mv' s'.done s'.marks [] u' ∧ s'.stopped = false ∧ s'.caps = caps) (p0 := [1, 1, 1, 1, 1, 1, 1, 1, 1, 1, 1, 1, 1, 1, 1, 1, 1, 0, 1, 0, 0, 1, 0]) (p1 := [1, 1, 1, 1, 1, 1, 1, 1, 1, 1, 1, 1, 1, 1, 1, 1, 1, 0, 1, 0, 0, 1, 1]) (by kernel_rfl) (Lk.block (p0 := [1, 1, 1, 1, 1, 1, 1, 1, 1, 1, 1, 1, 1, 1, 1, 1, 1, 0, 1, 0, 0, 1, 0, 0]) (id := 1) (by kernel_rfl) (Lk.seq (p0 := [1, 1, 1, 1, 1, 1, 1, 1, 1, 1, 1, 1, 1, 1, 1, 1, 1, 0, 1, 0, 0, 1, 0, 0, 0]) (p1 := [1, 1, 1, 1, 1, 1, 1, 1, 1, 1, 1, 1, 1, 1, 1, 1, 1, 0, 1, 0, 0, 1, 0, 0, 1]) (by kernel_rfl) (lk_fail hF hfr hv4 (by omega) hst' hs2 hk') ?_)) ?_
    · rintro ac3 u3 ⟨s3, hs3, hk3, e1, e2, e3⟩
      rw [← e1, ← e2] at hk3
      refine Lk.seq (R := fun a' u' => ∃ (s' : LogS) (dv' mv' : Value) (t' : Nat), Slots 397 (lkB a0 a1 a2 a3 a4 a5 caps.length paths.length drops.length syncs.length fails.length keeps.length c0 c1 c2 c3 c4 c5 aj dv' mv' t' r []) a' ∧ KeepsE X w aj (.slice a0 caps.length c0) (1 + 10 * r + 10) s' dv' mv' s'.done s'.marks [] u' ∧ s'.caps = caps) (p0 := [1, 1, 1, 1, 1, 1, 1, 1, 1, 1, 1, 1, 1, 1, 1, 1, 1, 0, 1, 0, 0, 1, 0, 0, 1, 0]) (p1 := [1, 1, 1, 1, 1, 1, 1, 1, 1, 1, 1, 1, 1, 1, 1, 1, 1, 0, 1, 0, 0, 1, 0, 0, 1, 1]) (by kernel_rfl) (Lk.seq (p0 := [1, 1, 1, 1, 1, 1, 1, 1, 1, 1, 1, 1, 1, 1, 1, 1, 1, 0, 1, 0, 0, 1, 0, 0, 1, 0, 0]) (p1 := [1, 1, 1, 1, 1, 1, 1, 1, 1, 1, 1, 1, 1, 1, 1, 1, 1, 0, 1, 0, 0, 1, 0, 0, 1, 0, 1]) (by kernel_rfl) (lk_k0 hs3) ?_) ?_
      · rintro ac4 u4 ⟨hs4, rfl⟩
        exact lk_loop2 hA hD hS hB hSf hP hg hv0 hv1 hv2 hv3 (by omega) (e3.trans hc') hs4 hk3
      · rintro ac5 u5 ⟨s5, dv5, mv5, t5, hs5, hk5, hc5⟩
        refine (lk_tail hC hB hSf hP hR hg hv0 hv5 (by omega) hc5 hs5 hk5).mono ?_
        rintro ac6 u6 ⟨s6, dv6, mv6, hs6, hk6, hst6, hc6⟩
        exact ⟨s6, dv6, mv6, t5, hs6, hk6, hst6, hc6⟩
    · rintro ac7 u7 ⟨s7, dv7, mv7, t7, hs7, hk7, hst7, hc7⟩
      refine (lk_inc1 (by omega) hs7).mono ?_
      rintro ac8 u8 ⟨hs8, rfl⟩
      refine ⟨⟨r + 1, t7, s7, dv7, mv7, by omega, hs8, hk7.to (by have := hk7.few; omega), hst7, hc7⟩, ?_⟩
      have e1 := slot_int (hs.2.2.2.2.2.2.2.2.2.2.2.2.1)
      have e2 := slot_int (hs8.2.2.2.2.2.2.2.2.2.2.2.2.1)
      show 4 - (intOf (ac8.tmps.toList.getD 28 undef)).toNat < 4 - (intOf (ac1.tmps.toList.getD 28 undef)).toNat
      rw [e1, e2]
      omega
  · right
    refine LkX.seq (p0 := [1, 1, 1, 1, 1, 1, 1, 1, 1, 1, 1, 1, 1, 1, 1, 1, 1, 0, 1, 0, 0, 0]) (p1 := [1, 1, 1, 1, 1, 1, 1, 1, 1, 1, 1, 1, 1, 1, 1, 1, 1, 0, 1, 0, 0, 1]) (by kernel_rfl) ((lk_out1 h hs).mono ?_)
    rintro ac2 u2 ⟨hs2, rfl⟩
    exact ⟨hs2.1, hs2.2.1, hk'.below⟩
end
end Ev
end Go.Proofs.YtdldgefahgojaakDoor
