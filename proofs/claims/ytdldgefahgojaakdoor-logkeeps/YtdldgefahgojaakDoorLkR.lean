/- The law LogKeeps: the loop that looks what is left; what the rates should be. -/
import Derived.Test.YtdldgefahgojaakDoorPlains
import Derived.Test.YtdldgefahgojaakDoorLkL
namespace Go.Proofs.YtdldgefahgojaakDoor
namespace Ev
open Go.RowKit Fr Ns Ld Fl
set_option linter.unusedSimpArgs false
set_option linter.unusedVariables false

section
variable {X : LogFace} {w : World} {caps : List Int} {paths : List (List Int)} {drops syncs fails keeps : List Int} {a0 a1 a2 a3 a4 a5 : Option Addr} {c0 c1 c2 c3 c4 c5 : Nat} {aj : Addr} {dv mv : Value} {t r k m : Nat} {s : LogS} {dn : List Flows} {mk : List Nat} {a : Act} {u : World}
theorem lk_loop3 {H : Nat} (hl : mk.length ≤ 1000) (hpos : 0 < mk.length) (ha : Slots 397 (lkB a0 a1 a2 a3 a4 a5 caps.length paths.length drops.length syncs.length fails.length keeps.length c0 c1 c2 c3 c4 c5 aj dv mv t r [(39, .int .i64 (H : Nat)), (40, .int .i64 0), (41, .int .i64 0)]) a) (hk : KeepsE X w aj (.slice a0 caps.length c0) m s dv mv dn mk [] u) :
    Lk [1, 1, 1, 1, 1, 1, 1, 1, 1, 1, 1, 1, 1, 1, 1, 1, 1, 0, 1, 0, 0, 1, 0, 0, 1, 1, 1, 1, 1, 1, 1, 1, 1, 1, 0, 1] (fun a' u' => Slots 397 (lkB a0 a1 a2 a3 a4 a5 caps.length paths.length drops.length syncs.length fails.length keeps.length c0 c1 c2 c3 c4 c5 aj dv mv t r [(40, .int .i64 ((scanK mk H mk.length : Nat)))]) a' ∧ u' = u) a u := by
  obtain ⟨M, c, hmv, hc, hcell⟩ := hk.mark hpos
  clear hcell
  subst hmv
  refine Lk.loop (p0 := [1, 1, 1, 1, 1, 1, 1, 1, 1, 1, 1, 1, 1, 1, 1, 1, 1, 0, 1, 0, 0, 1, 0, 0, 1, 1, 1, 1, 1, 1, 1, 1, 1, 1, 0, 1, 0, 0]) (id := 4) (by kernel_rfl) (fun a' u' => ∃ i : Nat, i ≤ mk.length ∧ Slots 397 (lkB a0 a1 a2 a3 a4 a5 caps.length paths.length drops.length syncs.length fails.length keeps.length c0 c1 c2 c3 c4 c5 aj dv (.slice (some ⟨M, 0, none⟩) mk.length c) t r [(39, .int .i64 (H : Nat)), (40, .int .i64 ((scanK mk H i : Nat))), (41, .int .i64 (i : Nat))]) a' ∧ u' = u) (fun a' _ => mk.length - (intOf (a'.tmps.toList.getD 41 undef)).toNat) ⟨0, by omega, ha, rfl⟩ ?_
  rintro a1 u1 ⟨i, hi, hs, rfl⟩
  by_cases h : i < mk.length
  · left
    refine Lk.seq (p0 := [1, 1, 1, 1, 1, 1, 1, 1, 1, 1, 1, 1, 1, 1, 1, 1, 1, 0, 1, 0, 0, 1, 0, 0, 1, 1, 1, 1, 1, 1, 1, 1, 1, 1, 0, 1, 0, 0, 0]) (p1 := [1, 1, 1, 1, 1, 1, 1, 1, 1, 1, 1, 1, 1, 1, 1, 1, 1, 0, 1, 0, 0, 1, 0, 0, 1, 1, 1, 1, 1, 1, 1, 1, 1, 1, 0, 1, 0, 0, 1]) (by kernel_rfl) (lk_in3 h hs) ?_
    rintro a2 u2 ⟨hs2, rfl⟩
    refine Lk.seq (p0 := [1, 1, 1, 1, 1, 1, 1, 1, 1, 1, 1, 1, 1, 1, 1, 1, 1, 0, 1, 0, 0, 1, 0, 0, 1, 1, 1, 1, 1, 1, 1, 1, 1, 1, 0, 1, 0, 0, 1, 0]) (p1 := [1, 1, 1, 1, 1, 1, 1, 1, 1, 1, 1, 1, 1, 1, 1, 1, 1, 0, 1, 0, 0, 1, 0, 0, 1, 1, 1, 1, 1, 1, 1, 1, 1, 1, 0, 1, 0, 0, 1, 1]) (by kernel_rfl) (Lk.block (p0 := [1, 1, 1, 1, 1, 1, 1, 1, 1, 1, 1, 1, 1, 1, 1, 1, 1, 0, 1, 0, 0, 1, 0, 0, 1, 1, 1, 1, 1, 1, 1, 1, 1, 1, 0, 1, 0, 0, 1, 0, 0]) (id := 5) (by kernel_rfl) (lk_scan h hs2 hk)) ?_
    rintro a3 u3 ⟨hs3, rfl⟩
    refine (lk_inc3 (u := u3) (by omega) hs3).mono ?_
    rintro a4 u4 ⟨hs4, rfl⟩
    refine ⟨⟨i + 1, by omega, hs4, rfl⟩, ?_⟩
    have e1 := slot_int (hs.2.2.2.2.2.2.2.2.2.2.2.2.2.2.2.1)
    have e2 := slot_int (hs4.2.2.2.2.2.2.2.2.2.2.2.2.2.2.2.1)
    show mk.length - (intOf (a4.tmps.toList.getD 41 undef)).toNat < mk.length - (intOf (a1.tmps.toList.getD 41 undef)).toNat
    rw [e1, e2]
    omega
  · right
    obtain rfl : i = mk.length := by omega
    refine LkX.seq (p0 := [1, 1, 1, 1, 1, 1, 1, 1, 1, 1, 1, 1, 1, 1, 1, 1, 1, 0, 1, 0, 0, 1, 0, 0, 1, 1, 1, 1, 1, 1, 1, 1, 1, 1, 0, 1, 0, 0, 0]) (p1 := [1, 1, 1, 1, 1, 1, 1, 1, 1, 1, 1, 1, 1, 1, 1, 1, 1, 0, 1, 0, 0, 1, 0, 0, 1, 1, 1, 1, 1, 1, 1, 1, 1, 1, 0, 1, 0, 0, 1]) (by kernel_rfl) ((lk_out3 (by omega) hs).mono ?_)
    rintro a2 u2 ⟨hs2, rfl⟩
    exact ⟨⟨hs2.1, hs2.2.1, has_cons hs2.2.2.1 (has_cons hs2.2.2.2.1 (has_cons hs2.2.2.2.2.1 (has_cons hs2.2.2.2.2.2.1 (has_cons hs2.2.2.2.2.2.2.1 (has_cons hs2.2.2.2.2.2.2.2.1 (has_cons hs2.2.2.2.2.2.2.2.2.1 (has_cons hs2.2.2.2.2.2.2.2.2.2.1 (has_cons hs2.2.2.2.2.2.2.2.2.2.2.1 (has_cons hs2.2.2.2.2.2.2.2.2.2.2.2.1 (has_cons hs2.2.2.2.2.2.2.2.2.2.2.2.2.1 (has_cons hs2.2.2.2.2.2.2.2.2.2.2.2.2.2.2.1 (has_nil))))))))))))⟩, rfl⟩
theorem good_log {s : LogS} (h : LogOk s) (hp : 0 < s.flows.length) : Fl.Good s.caps s.flows ∧ s.caps.length ≤ 12 := by
  obtain ⟨h6, hpa⟩ := h.flows_right
  have hl := h.caps
  have hcl : 0 < s.caps.length ∧ s.caps.length ≤ 6 := by
    unfold linksE at hl
    split at hl
    · omega
    · split at hl <;> omega
  refine ⟨good_of_net ?_, by omega⟩
  rw [netE, if_neg (by omega), if_neg (by omega), if_pos hl]
  exact (pathsFrom_iff _ _).2 hpa
theorem lk_want {l : Nat} (hv0 : IntsAt (fun b => b < w.heap.size) w (.slice a0 caps.length c0) caps) (hd : dn.length = l + 1) (hdn : s.done = dn) (hc : s.caps = caps) (ha : Slots 397 (lkB a0 a1 a2 a3 a4 a5 caps.length paths.length drops.length syncs.length fails.length keeps.length c0 c1 c2 c3 c4 c5 aj dv mv t r [(40, .int .i64 (l : Nat)), (42, .slice none 0 0), (43, .int .i64 5)]) a) (hk : KeepsE X w aj (.slice a0 caps.length c0) m s dv mv dn mk [] u) :
    Lk [1, 1, 1, 1, 1, 1, 1, 1, 1, 1, 1, 1, 1, 1, 1, 1, 1, 0, 1, 0, 0, 1, 0, 0, 1, 1, 1, 1, 1, 1, 1, 1, 1, 1, 1, 1, 1, 1, 1, 1, 0] (fun a' u' => ∃ wv, Slots 397 (lkB a0 a1 a2 a3 a4 a5 caps.length paths.length drops.length syncs.length fails.length keeps.length c0 c1 c2 c3 c4 c5 aj dv mv t r [(42, wv), (43, .int .i64 (ratesLE s.flows))]) a' ∧ KeepsE X w aj (.slice a0 caps.length c0) m s dv mv dn mk [] u' ∧ FracsAt (fun _ => True) u' wv (okL (ratesLE s.flows) (fill s.caps s.flows).1)) a u := by
  have hfl : dn.getD l [] = s.flows := by
    show _ = flowsL s.done
    rw [flowsL, hdn, hd]; rfl
  refine Lk.seq (p0 := [1, 1, 1, 1, 1, 1, 1, 1, 1, 1, 1, 1, 1, 1, 1, 1, 1, 0, 1, 0, 0, 1, 0, 0, 1, 1, 1, 1, 1, 1, 1, 1, 1, 1, 1, 1, 1, 1, 1, 1, 0, 0]) (p1 := [1, 1, 1, 1, 1, 1, 1, 1, 1, 1, 1, 1, 1, 1, 1, 1, 1, 0, 1, 0, 0, 1, 0, 0, 1, 1, 1, 1, 1, 1, 1, 1, 1, 1, 1, 1, 1, 1, 1, 1, 0, 1]) (by kernel_rfl) (lk_some hd ha hk) ?_
  rintro a1 u1 ⟨b, hs1, rfl, hb⟩
  rw [hfl] at hb
  refine Lk.cond (k := 372) (p0 := [1, 1, 1, 1, 1, 1, 1, 1, 1, 1, 1, 1, 1, 1, 1, 1, 1, 0, 1, 0, 0, 1, 0, 0, 1, 1, 1, 1, 1, 1, 1, 1, 1, 1, 1, 1, 1, 1, 1, 1, 0, 1, 0]) (p1 := [1, 1, 1, 1, 1, 1, 1, 1, 1, 1, 1, 1, 1, 1, 1, 1, 1, 0, 1, 0, 0, 1, 0, 0, 1, 1, 1, 1, 1, 1, 1, 1, 1, 1, 1, 1, 1, 1, 1, 1, 0, 1, 1]) (by kernel_rfl) (hs1.2.2.2.2.2.2.2.2.2.2.2.2.2.2.2.2.1) (fun hbt => ?_) (fun hbf => ?_)
  · have hp := hb.1 hbt
    have e0 : ratesLE s.flows = 0 := by rw [ratesLE, if_neg (by omega)]
    obtain ⟨g1, g2⟩ := good_log hk.ok hp
    rw [e0, okL_0, ← hfl, hc]
    rw [hc, ← hfl] at g1
    rw [hc] at g2
    refine Lk.seq (p0 := [1, 1, 1, 1, 1, 1, 1, 1, 1, 1, 1, 1, 1, 1, 1, 1, 1, 0, 1, 0, 0, 1, 0, 0, 1, 1, 1, 1, 1, 1, 1, 1, 1, 1, 1, 1, 1, 1, 1, 1, 0, 1, 0, 0]) (p1 := [1, 1, 1, 1, 1, 1, 1, 1, 1, 1, 1, 1, 1, 1, 1, 1, 1, 0, 1, 0, 0, 1, 0, 0, 1, 1, 1, 1, 1, 1, 1, 1, 1, 1, 1, 1, 1, 1, 1, 1, 0, 1, 0, 1]) (by kernel_rfl) (lk_fill hv0 g2 g1 hd ⟨hs1.1, hs1.2.1, has_cons hs1.2.2.1 (has_cons hs1.2.2.2.1 (has_cons hs1.2.2.2.2.1 (has_cons hs1.2.2.2.2.2.1 (has_cons hs1.2.2.2.2.2.2.1 (has_cons hs1.2.2.2.2.2.2.2.1 (has_cons hs1.2.2.2.2.2.2.2.2.1 (has_cons hs1.2.2.2.2.2.2.2.2.2.1 (has_cons hs1.2.2.2.2.2.2.2.2.2.2.1 (has_cons hs1.2.2.2.2.2.2.2.2.2.2.2.1 (has_cons hs1.2.2.2.2.2.2.2.2.2.2.2.2.1 (has_cons hs1.2.2.2.2.2.2.2.2.2.2.2.2.2.1 (has_cons hs1.2.2.2.2.2.2.2.2.2.2.2.2.2.2.1 (has_cons hs1.2.2.2.2.2.2.2.2.2.2.2.2.2.2.2.1 (has_nil))))))))))))))⟩ hk) ?_
    rintro a2 u2 ⟨wv, hs2, hk2, hf2⟩
    refine (lk_e00 hs2).mono ?_
    rintro a3 u3 ⟨hs3, rfl⟩
    exact ⟨wv, hs3, hk2, hf2⟩
  · have hz : s.flows.length = 0 := by
      by_cases h : 0 < s.flows.length
      · rw [hb.2 h] at hbf; cases hbf
      · omega
    have e0 : ratesLE s.flows = 5 := by rw [ratesLE, if_pos hz]
    rw [e0]
    exact Lk.skip (by kernel_rfl) ⟨_, ⟨hs1.1, hs1.2.1, has_cons hs1.2.2.1 (has_cons hs1.2.2.2.1 (has_cons hs1.2.2.2.2.1 (has_cons hs1.2.2.2.2.2.1 (has_cons hs1.2.2.2.2.2.2.1 (has_cons hs1.2.2.2.2.2.2.2.1 (has_cons hs1.2.2.2.2.2.2.2.2.1 (has_cons hs1.2.2.2.2.2.2.2.2.2.1 (has_cons hs1.2.2.2.2.2.2.2.2.2.2.1 (has_cons hs1.2.2.2.2.2.2.2.2.2.2.2.1 (has_cons hs1.2.2.2.2.2.2.2.2.2.2.2.2.1 (has_cons hs1.2.2.2.2.2.2.2.2.2.2.2.2.2.2.1 (has_cons hs1.2.2.2.2.2.2.2.2.2.2.2.2.2.2.2.1 (has_nil)))))))))))))⟩, hk, fracs_nil _ _⟩
end
end Ev
end Go.Proofs.YtdldgefahgojaakDoor
