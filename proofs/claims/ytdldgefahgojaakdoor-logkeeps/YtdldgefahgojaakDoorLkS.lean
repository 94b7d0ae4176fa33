/- The law LogKeeps: behind the inner loop. -/
import Derived.Test.YtdldgefahgojaakDoorPlains
import Derived.Test.YtdldgefahgojaakDoorLkK
import Derived.Test.YtdldgefahgojaakDoorLkM
import Derived.Test.YtdldgefahgojaakDoorLkR
namespace Go.Proofs.YtdldgefahgojaakDoor
namespace Ev
open Go.RowKit Fr Ns Ld Fl
set_option linter.unusedSimpArgs false
set_option linter.unusedVariables false

section
variable {X : LogFace} {w : World} {caps : List Int} {paths : List (List Int)} {drops syncs fails keeps : List Int} {a0 a1 a2 a3 a4 a5 : Option Addr} {c0 c1 c2 c3 c4 c5 : Nat} {aj : Addr} {dv mv : Value} {t r k m : Nat} {s : LogS} {dn : List Flows} {mk : List Nat} {a : Act} {u : World}
theorem lk_tail (hC : LCrashSaid X) (hB : LBytesSaid X) (hSf : LSafeSaid X) (hP : LPathsSaid X) (hR : LRatesSaid X) (hg : w.cell? ⟨0, 0, none⟩ = some handleV) (hv0 : IntsAt (fun b => b < w.heap.size) w (.slice a0 caps.length c0) caps) (hv5 : IntsAt (fun b => b < w.heap.size) w (.slice a5 keeps.length c5) keeps) (hm : m ≤ 1000) (hc : s.caps = caps) (ha : Slots 397 (lkB a0 a1 a2 a3 a4 a5 caps.length paths.length drops.length syncs.length fails.length keeps.length c0 c1 c2 c3 c4 c5 aj dv mv t r []) a) (hk : KeepsE X w aj (.slice a0 caps.length c0) m s dv mv s.done s.marks [] u) :
    Lk [1, 1, 1, 1, 1, 1, 1, 1, 1, 1, 1, 1, 1, 1, 1, 1, 1, 0, 1, 0, 0, 1, 0, 0, 1, 1] (fun a' u' => ∃ (s' : LogS) (dv' mv' : Value), Slots 397 (lkB a0 a1 a2 a3 a4 a5 caps.length paths.length drops.length syncs.length fails.length keeps.length c0 c1 c2 c3 c4 c5 aj dv' mv' t r []) a' ∧ KeepsE X w aj (.slice a0 caps.length c0) m s' dv' mv' s'.done s'.marks [] u' ∧ s'.stopped = false ∧ s'.caps = caps) a u := by
  have hok := hk.ok
  have hlen := hok.len
  have hpos := hok.pos
  have hfew := hk.few
  have hbl := hok.bytes_le
  refine Lk.seq (p0 := [1, 1, 1, 1, 1, 1, 1, 1, 1, 1, 1, 1, 1, 1, 1, 1, 1, 0, 1, 0, 0, 1, 0, 0, 1, 1, 0]) (p1 := [1, 1, 1, 1, 1, 1, 1, 1, 1, 1, 1, 1, 1, 1, 1, 1, 1, 0, 1, 0, 0, 1, 0, 0, 1, 1, 1]) (by kernel_rfl) (lk_keep0 ha) ?_
  rintro ac1 u1 ⟨hs1, rfl⟩
  refine Lk.seq (p0 := [1, 1, 1, 1, 1, 1, 1, 1, 1, 1, 1, 1, 1, 1, 1, 1, 1, 0, 1, 0, 0, 1, 0, 0, 1, 1, 1, 0]) (p1 := [1, 1, 1, 1, 1, 1, 1, 1, 1, 1, 1, 1, 1, 1, 1, 1, 1, 0, 1, 0, 0, 1, 0, 0, 1, 1, 1, 1]) (by kernel_rfl) (lk_keep hv5 hk.below hs1) ?_
  rintro ac2 u2 ⟨kp, hs2, rfl⟩
  refine Lk.seq (p0 := [1, 1, 1, 1, 1, 1, 1, 1, 1, 1, 1, 1, 1, 1, 1, 1, 1, 0, 1, 0, 0, 1, 0, 0, 1, 1, 1, 1, 0]) (p1 := [1, 1, 1, 1, 1, 1, 1, 1, 1, 1, 1, 1, 1, 1, 1, 1, 1, 0, 1, 0, 0, 1, 0, 0, 1, 1, 1, 1, 1]) (by kernel_rfl) (lk_all hB hm hs2 hk) ?_
  rintro ac3 u3 ⟨hs3, hk3⟩
  refine Lk.seq (p0 := [1, 1, 1, 1, 1, 1, 1, 1, 1, 1, 1, 1, 1, 1, 1, 1, 1, 0, 1, 0, 0, 1, 0, 0, 1, 1, 1, 1, 1, 0]) (p1 := [1, 1, 1, 1, 1, 1, 1, 1, 1, 1, 1, 1, 1, 1, 1, 1, 1, 0, 1, 0, 0, 1, 0, 0, 1, 1, 1, 1, 1, 1]) (by kernel_rfl) (lk_was hSf hm hs3 hk3) ?_
  rintro ac4 u4 ⟨hs4, hk4⟩
  refine Lk.seq (p0 := [1, 1, 1, 1, 1, 1, 1, 1, 1, 1, 1, 1, 1, 1, 1, 1, 1, 0, 1, 0, 0, 1, 0, 0, 1, 1, 1, 1, 1, 1, 0]) (p1 := [1, 1, 1, 1, 1, 1, 1, 1, 1, 1, 1, 1, 1, 1, 1, 1, 1, 0, 1, 0, 0, 1, 0, 0, 1, 1, 1, 1, 1, 1, 1]) (by kernel_rfl) (lk_crash hC hm hs4 hk4) ?_
  rintro ac5 u5 ⟨hs5, hk5⟩
  refine Lk.seq (p0 := [1, 1, 1, 1, 1, 1, 1, 1, 1, 1, 1, 1, 1, 1, 1, 1, 1, 0, 1, 0, 0, 1, 0, 0, 1, 1, 1, 1, 1, 1, 1, 0]) (p1 := [1, 1, 1, 1, 1, 1, 1, 1, 1, 1, 1, 1, 1, 1, 1, 1, 1, 0, 1, 0, 0, 1, 0, 0, 1, 1, 1, 1, 1, 1, 1, 1]) (by kernel_rfl) (lk_high0 hs5) ?_
  rintro ac6 u6 ⟨hs6, rfl⟩
  refine Lk.seq (p0 := [1, 1, 1, 1, 1, 1, 1, 1, 1, 1, 1, 1, 1, 1, 1, 1, 1, 0, 1, 0, 0, 1, 0, 0, 1, 1, 1, 1, 1, 1, 1, 1, 0]) (p1 := [1, 1, 1, 1, 1, 1, 1, 1, 1, 1, 1, 1, 1, 1, 1, 1, 1, 0, 1, 0, 0, 1, 0, 0, 1, 1, 1, 1, 1, 1, 1, 1, 1]) (by kernel_rfl) (lk_high (safe_le hok) (by omega) hs6) ?_
  rintro ac7 u7 ⟨hs7, rfl⟩
  refine Lk.seq (p0 := [1, 1, 1, 1, 1, 1, 1, 1, 1, 1, 1, 1, 1, 1, 1, 1, 1, 0, 1, 0, 0, 1, 0, 0, 1, 1, 1, 1, 1, 1, 1, 1, 1, 0]) (p1 := [1, 1, 1, 1, 1, 1, 1, 1, 1, 1, 1, 1, 1, 1, 1, 1, 1, 0, 1, 0, 0, 1, 0, 0, 1, 1, 1, 1, 1, 1, 1, 1, 1, 1]) (by kernel_rfl) (lk_left0 hs7) ?_
  rintro ac8 u8 ⟨hs8, rfl⟩
  refine Lk.seq (R := fun a' u' => Slots 397 (lkB a0 a1 a2 a3 a4 a5 caps.length paths.length drops.length syncs.length fails.length keeps.length c0 c1 c2 c3 c4 c5 aj dv mv t r [(40, .int .i64 ((scanK s.marks (highN s kp) s.marks.length : Nat)))]) a' ∧ u' = u8) (p0 := [1, 1, 1, 1, 1, 1, 1, 1, 1, 1, 1, 1, 1, 1, 1, 1, 1, 0, 1, 0, 0, 1, 0, 0, 1, 1, 1, 1, 1, 1, 1, 1, 1, 1, 0]) (p1 := [1, 1, 1, 1, 1, 1, 1, 1, 1, 1, 1, 1, 1, 1, 1, 1, 1, 0, 1, 0, 0, 1, 0, 0, 1, 1, 1, 1, 1, 1, 1, 1, 1, 1, 1]) (by kernel_rfl) (Lk.seq (p0 := [1, 1, 1, 1, 1, 1, 1, 1, 1, 1, 1, 1, 1, 1, 1, 1, 1, 0, 1, 0, 0, 1, 0, 0, 1, 1, 1, 1, 1, 1, 1, 1, 1, 1, 0, 0]) (p1 := [1, 1, 1, 1, 1, 1, 1, 1, 1, 1, 1, 1, 1, 1, 1, 1, 1, 0, 1, 0, 0, 1, 0, 0, 1, 1, 1, 1, 1, 1, 1, 1, 1, 1, 0, 1]) (by kernel_rfl) (lk_i0 hs8) ?_) ?_
  · rintro ac9 u9 ⟨hs9, rfl⟩
    exact lk_loop3 (by omega) hpos hs9 hk5
  rintro ac10 u10 ⟨hs10, rfl⟩
  have el : scanK s.marks (highN s kp) s.marks.length = leftN' s.marks (highN s kp) := scanK_eq _ _ _
  rw [el] at hs10
  have hlt := left_lt hok (highN s kp)
  obtain ⟨l, hl⟩ : ∃ l, leftN' s.marks (highN s kp) = l := ⟨_, rfl⟩
  rw [hl] at hs10 hlt
  obtain ⟨DD, cd, pv, hdv, hcd, _⟩ := hk5.last (i := 0) (by omega)
  obtain ⟨MM, cm, hmv, hcm, _⟩ := hk5.mark hpos
  subst hdv hmv
  have hcut := hk5.cut (k := l + 1) (by omega) (by omega) (by omega) hpos
  obtain ⟨s2, hs2e⟩ : ∃ s2, crashS s kp = s2 := ⟨_, rfl⟩
  have d1 : s.done.take (l + 1) = s2.done := by rw [← hs2e, ← hl]; rfl
  have d2 : s.marks.take (l + 1) = s2.marks := by rw [← hs2e, ← hl]; rfl
  have d3 : s2.stopped = false := by rw [← hs2e]; rfl
  have d4 : s2.caps = caps := by rw [← hs2e]; exact hc
  have d5 : s2.bytes = s2.marks.getD l 0 := by
    rw [← d2, ← hs2e]
    show s.marks.getD (leftN' s.marks (highN s kp)) 0 = _
    rw [hl]; simp [List.getD, List.getElem?_take]
  have d6 : s2.safe = s2.marks.getD l 0 := by
    rw [← d5, ← hs2e]; rfl
  have l1 : s2.done.length = l + 1 := by rw [← d1, List.length_take]; omega
  have l2 : s2.marks.length = l + 1 := by rw [← d2, List.length_take]; omega
  rw [hs2e, d1, d2] at hcut
  refine Lk.seq (p0 := [1, 1, 1, 1, 1, 1, 1, 1, 1, 1, 1, 1, 1, 1, 1, 1, 1, 0, 1, 0, 0, 1, 0, 0, 1, 1, 1, 1, 1, 1, 1, 1, 1, 1, 1, 0]) (p1 := [1, 1, 1, 1, 1, 1, 1, 1, 1, 1, 1, 1, 1, 1, 1, 1, 1, 0, 1, 0, 0, 1, 0, 0, 1, 1, 1, 1, 1, 1, 1, 1, 1, 1, 1, 1]) (by kernel_rfl) (lk_cutD (by omega) hcd (by omega) hs10) ?_
  rintro ac11 u11 ⟨hs11, rfl⟩
  refine Lk.seq (p0 := [1, 1, 1, 1, 1, 1, 1, 1, 1, 1, 1, 1, 1, 1, 1, 1, 1, 0, 1, 0, 0, 1, 0, 0, 1, 1, 1, 1, 1, 1, 1, 1, 1, 1, 1, 1, 0]) (p1 := [1, 1, 1, 1, 1, 1, 1, 1, 1, 1, 1, 1, 1, 1, 1, 1, 1, 0, 1, 0, 0, 1, 0, 0, 1, 1, 1, 1, 1, 1, 1, 1, 1, 1, 1, 1, 1]) (by kernel_rfl) (lk_cutM (by omega) hcm (by omega) hs11) ?_
  rintro ac12 u12 ⟨hs12, rfl⟩
  refine Lk.seq (p0 := [1, 1, 1, 1, 1, 1, 1, 1, 1, 1, 1, 1, 1, 1, 1, 1, 1, 0, 1, 0, 0, 1, 0, 0, 1, 1, 1, 1, 1, 1, 1, 1, 1, 1, 1, 1, 1, 0]) (p1 := [1, 1, 1, 1, 1, 1, 1, 1, 1, 1, 1, 1, 1, 1, 1, 1, 1, 0, 1, 0, 0, 1, 0, 0, 1, 1, 1, 1, 1, 1, 1, 1, 1, 1, 1, 1, 1, 1]) (by kernel_rfl) (lk_after hP hB hSf hm rfl l1 l2 d5 d6 hs12 hcut) ?_
  rintro ac13 u13 ⟨hs13, hk13⟩
  refine Lk.seq (p0 := [1, 1, 1, 1, 1, 1, 1, 1, 1, 1, 1, 1, 1, 1, 1, 1, 1, 0, 1, 0, 0, 1, 0, 0, 1, 1, 1, 1, 1, 1, 1, 1, 1, 1, 1, 1, 1, 1, 0]) (p1 := [1, 1, 1, 1, 1, 1, 1, 1, 1, 1, 1, 1, 1, 1, 1, 1, 1, 0, 1, 0, 0, 1, 0, 0, 1, 1, 1, 1, 1, 1, 1, 1, 1, 1, 1, 1, 1, 1, 1]) (by kernel_rfl) (lk_want0 hs13) ?_
  rintro ac14 u14 ⟨hs14, rfl⟩
  refine Lk.seq (p0 := [1, 1, 1, 1, 1, 1, 1, 1, 1, 1, 1, 1, 1, 1, 1, 1, 1, 0, 1, 0, 0, 1, 0, 0, 1, 1, 1, 1, 1, 1, 1, 1, 1, 1, 1, 1, 1, 1, 1, 0]) (p1 := [1, 1, 1, 1, 1, 1, 1, 1, 1, 1, 1, 1, 1, 1, 1, 1, 1, 0, 1, 0, 0, 1, 0, 0, 1, 1, 1, 1, 1, 1, 1, 1, 1, 1, 1, 1, 1, 1, 1, 1]) (by kernel_rfl) (lk_e5 hs14) ?_
  rintro ac15 u15 ⟨hs15, rfl⟩
  refine Lk.seq (p0 := [1, 1, 1, 1, 1, 1, 1, 1, 1, 1, 1, 1, 1, 1, 1, 1, 1, 0, 1, 0, 0, 1, 0, 0, 1, 1, 1, 1, 1, 1, 1, 1, 1, 1, 1, 1, 1, 1, 1, 1, 0]) (p1 := [1, 1, 1, 1, 1, 1, 1, 1, 1, 1, 1, 1, 1, 1, 1, 1, 1, 0, 1, 0, 0, 1, 0, 0, 1, 1, 1, 1, 1, 1, 1, 1, 1, 1, 1, 1, 1, 1, 1, 1, 1]) (by kernel_rfl) (lk_want hv0 l1 rfl d4 hs15 hk13) ?_
  rintro ac16 u16 ⟨wv, hs16, hk16, hw16⟩
  refine Lk.seq (p0 := [1, 1, 1, 1, 1, 1, 1, 1, 1, 1, 1, 1, 1, 1, 1, 1, 1, 0, 1, 0, 0, 1, 0, 0, 1, 1, 1, 1, 1, 1, 1, 1, 1, 1, 1, 1, 1, 1, 1, 1, 1, 0]) (p1 := [1, 1, 1, 1, 1, 1, 1, 1, 1, 1, 1, 1, 1, 1, 1, 1, 1, 0, 1, 0, 0, 1, 0, 0, 1, 1, 1, 1, 1, 1, 1, 1, 1, 1, 1, 1, 1, 1, 1, 1, 1, 1]) (by kernel_rfl) (lk_rates hR hm rfl hs16 hk16 hw16) ?_
  rintro ac17 u17 ⟨rv, hs17, hk17, hw17, hr17⟩
  refine Lk.seq (p0 := [1, 1, 1, 1, 1, 1, 1, 1, 1, 1, 1, 1, 1, 1, 1, 1, 1, 0, 1, 0, 0, 1, 0, 0, 1, 1, 1, 1, 1, 1, 1, 1, 1, 1, 1, 1, 1, 1, 1, 1, 1, 1, 0]) (p1 := [1, 1, 1, 1, 1, 1, 1, 1, 1, 1, 1, 1, 1, 1, 1, 1, 1, 0, 1, 0, 0, 1, 0, 0, 1, 1, 1, 1, 1, 1, 1, 1, 1, 1, 1, 1, 1, 1, 1, 1, 1, 1, 1]) (by kernel_rfl) (lk_err hg hs17 hk17 hw17 hr17) ?_
  rintro ac18 u18 ⟨hs18, hk18, hw18, hr18⟩
  refine (lk_end hs18 hk18 hw18 hr18).mono ?_
  rintro ac19 u19 ⟨hs19, hk19⟩
  exact ⟨s2, _, _, hs19, hk19, d3, d4⟩
end
end Ev
end Go.Proofs.YtdldgefahgojaakDoor
