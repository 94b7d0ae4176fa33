/- The law LogKeeps: a round of the inner loop. -/
import Derived.Test.YtdldgefahgojaakDoorPlains
import Derived.Test.YtdldgefahgojaakDoorLkO
import Derived.Test.YtdldgefahgojaakDoorLkF
import Derived.Test.YtdldgefahgojaakDoorLkH
namespace Go.Proofs.YtdldgefahgojaakDoor
namespace Ev
open Go.RowKit Fr Ns Ld Fl
set_option linter.unusedSimpArgs false
set_option linter.unusedVariables false

section
variable {X : LogFace} {w : World} {caps : List Int} {paths : List (List Int)} {drops syncs fails keeps : List Int} {a0 a1 a2 a3 a4 a5 : Option Addr} {c0 c1 c2 c3 c4 c5 : Nat} {aj : Addr} {dv mv : Value} {t r k m : Nat} {s : LogS} {dn : List Flows} {mk : List Nat} {a : Act} {u : World}
theorem lk_made {nx n0 : Nat} {kk fv : Int} {s0 : LogS} {pv : Value} {g gg : Flows} (hB : LBytesSaid X) (hm : m ≤ 1000) (hn : n0 = s0.bytes) (hst : Stepped s0 s kk fv gg) (hg : fv = 0 → g = gg) (hdn : s0.done = dn) (hmk : s0.marks = mk) (hdm : dn.length ≤ 1000) (hmm : mk.length ≤ 1000) (ha : Slots 397 (lkB a0 a1 a2 a3 a4 a5 caps.length paths.length drops.length syncs.length fails.length keeps.length c0 c1 c2 c3 c4 c5 aj dv mv t r [(29, .int .i64 k), (31, .pointer (some ⟨nx, 0, none⟩)), (33, .int .i64 n0), (34, errV kk)]) a) (hk : KeepsE X w aj (.slice a0 caps.length c0) m s dv mv dn mk [(nx, pv, g)] u) :
    Lk [1, 1, 1, 1, 1, 1, 1, 1, 1, 1, 1, 1, 1, 1, 1, 1, 1, 0, 1, 0, 0, 1, 0, 0, 1, 0, 1, 0, 0, 1, 0, 0, 1, 1, 1, 1, 1, 1, 1, 1, 1, 1, 1, 0] (fun a' u' => ∃ dv' mv', Slots 397 (lkB a0 a1 a2 a3 a4 a5 caps.length paths.length drops.length syncs.length fails.length keeps.length c0 c1 c2 c3 c4 c5 aj dv' mv' t r [(29, .int .i64 k)]) a' ∧ KeepsE X w aj (.slice a0 caps.length c0) m s dv' mv' s.done s.marks [] u') a u := by
  refine Lk.seq (p0 := [1, 1, 1, 1, 1, 1, 1, 1, 1, 1, 1, 1, 1, 1, 1, 1, 1, 0, 1, 0, 0, 1, 0, 0, 1, 0, 1, 0, 0, 1, 0, 0, 1, 1, 1, 1, 1, 1, 1, 1, 1, 1, 1, 0, 0]) (p1 := [1, 1, 1, 1, 1, 1, 1, 1, 1, 1, 1, 1, 1, 1, 1, 1, 1, 0, 1, 0, 0, 1, 0, 0, 1, 0, 1, 0, 0, 1, 0, 0, 1, 1, 1, 1, 1, 1, 1, 1, 1, 1, 1, 0, 1]) (by kernel_rfl) (lk_nil ha) ?_
  rintro a1 u1 ⟨b, hs1, rfl, hb⟩
  refine Lk.cond (k := 261) (p0 := [1, 1, 1, 1, 1, 1, 1, 1, 1, 1, 1, 1, 1, 1, 1, 1, 1, 0, 1, 0, 0, 1, 0, 0, 1, 0, 1, 0, 0, 1, 0, 0, 1, 1, 1, 1, 1, 1, 1, 1, 1, 1, 1, 0, 1, 0]) (p1 := [1, 1, 1, 1, 1, 1, 1, 1, 1, 1, 1, 1, 1, 1, 1, 1, 1, 0, 1, 0, 0, 1, 0, 0, 1, 0, 1, 0, 0, 1, 0, 0, 1, 1, 1, 1, 1, 1, 1, 1, 1, 1, 1, 0, 1, 1]) (by kernel_rfl) (hs1.2.2.2.2.2.2.2.2.2.2.2.2.2.2.2.2.2.1) (fun hbt => ?_) (fun hbf => ?_)
  · obtain ⟨g1, g2, g3, g4⟩ := hst.good (hb.1 hbt)
    have hgg := hg g1
    subst hgg
    refine Lk.seq (p0 := [1, 1, 1, 1, 1, 1, 1, 1, 1, 1, 1, 1, 1, 1, 1, 1, 1, 0, 1, 0, 0, 1, 0, 0, 1, 0, 1, 0, 0, 1, 0, 0, 1, 1, 1, 1, 1, 1, 1, 1, 1, 1, 1, 0, 1, 0, 0]) (p1 := [1, 1, 1, 1, 1, 1, 1, 1, 1, 1, 1, 1, 1, 1, 1, 1, 1, 0, 1, 0, 0, 1, 0, 0, 1, 0, 1, 0, 0, 1, 0, 0, 1, 1, 1, 1, 1, 1, 1, 1, 1, 1, 1, 0, 1, 0, 1]) (by kernel_rfl) (lk_more hB hm (by omega) ⟨hs1.1, hs1.2.1, has_cons hs1.2.2.1 (has_cons hs1.2.2.2.1 (has_cons hs1.2.2.2.2.1 (has_cons hs1.2.2.2.2.2.1 (has_cons hs1.2.2.2.2.2.2.1 (has_cons hs1.2.2.2.2.2.2.2.1 (has_cons hs1.2.2.2.2.2.2.2.2.1 (has_cons hs1.2.2.2.2.2.2.2.2.2.1 (has_cons hs1.2.2.2.2.2.2.2.2.2.2.1 (has_cons hs1.2.2.2.2.2.2.2.2.2.2.2.1 (has_cons hs1.2.2.2.2.2.2.2.2.2.2.2.2.1 (has_cons hs1.2.2.2.2.2.2.2.2.2.2.2.2.2.1 (has_cons hs1.2.2.2.2.2.2.2.2.2.2.2.2.2.2.1 (has_cons hs1.2.2.2.2.2.2.2.2.2.2.2.2.2.2.2.1 (has_cons hs1.2.2.2.2.2.2.2.2.2.2.2.2.2.2.2.2.1 (has_nil)))))))))))))))⟩ hk) ?_
    rintro a2 u2 ⟨hs2, hk2⟩
    refine Lk.seq (p0 := [1, 1, 1, 1, 1, 1, 1, 1, 1, 1, 1, 1, 1, 1, 1, 1, 1, 0, 1, 0, 0, 1, 0, 0, 1, 0, 1, 0, 0, 1, 0, 0, 1, 1, 1, 1, 1, 1, 1, 1, 1, 1, 1, 0, 1, 0, 1, 0]) (p1 := [1, 1, 1, 1, 1, 1, 1, 1, 1, 1, 1, 1, 1, 1, 1, 1, 1, 0, 1, 0, 0, 1, 0, 0, 1, 0, 1, 0, 0, 1, 0, 0, 1, 1, 1, 1, 1, 1, 1, 1, 1, 1, 1, 0, 1, 0, 1, 1]) (by kernel_rfl) (lk_done hdm hs2 hk2) ?_
    rintro a3 u3 ⟨dv', hs3, hk3⟩
    refine (lk_marks hB hm hmm hs3 hk3).mono ?_
    rintro a4 u4 ⟨mv', hs4, hk4⟩
    rw [g2, g3, hdn, hmk]
    exact ⟨dv', mv', hs4, hk4⟩
  · have hne : kk ≠ 0 := fun h => by rw [hb.2 h] at hbf; cases hbf
    obtain ⟨-, g2, g3⟩ := hst.bad hne
    refine Lk.skip (by kernel_rfl) ⟨dv, mv, ⟨hs1.1, hs1.2.1, has_cons hs1.2.2.1 (has_cons hs1.2.2.2.1 (has_cons hs1.2.2.2.2.1 (has_cons hs1.2.2.2.2.2.1 (has_cons hs1.2.2.2.2.2.2.1 (has_cons hs1.2.2.2.2.2.2.2.1 (has_cons hs1.2.2.2.2.2.2.2.2.1 (has_cons hs1.2.2.2.2.2.2.2.2.2.1 (has_cons hs1.2.2.2.2.2.2.2.2.2.2.1 (has_cons hs1.2.2.2.2.2.2.2.2.2.2.2.1 (has_cons hs1.2.2.2.2.2.2.2.2.2.2.2.2.1 (has_cons hs1.2.2.2.2.2.2.2.2.2.2.2.2.2.1 (has_nil))))))))))))⟩, ?_⟩
    rw [g2, g3, hdn, hmk]
    exact hk.less
theorem lk_round2 (hA : LAddSaid X) (hD : LDropSaid X) (hS : LSyncSaid X) (hB : LBytesSaid X) (hSf : LSafeSaid X) (hP : LPathsSaid X) (hg : w.cell? ⟨0, 0, none⟩ = some handleV) (hv0 : IntsAt (fun b => b < w.heap.size) w (.slice a0 caps.length c0) caps) (hv1 : ListsAt (fun b => b < w.heap.size) w (.slice a1 paths.length c1) paths) (hv2 : IntsAt (fun b => b < w.heap.size) w (.slice a2 drops.length c2) drops) (hv3 : IntsAt (fun b => b < w.heap.size) w (.slice a3 syncs.length c3) syncs) (h1 : t < paths.length) (hm : m + 1 ≤ 1000) (hc : s.caps = caps) (ha : Slots 397 (lkB a0 a1 a2 a3 a4 a5 caps.length paths.length drops.length syncs.length fails.length keeps.length c0 c1 c2 c3 c4 c5 aj dv mv t r [(29, .int .i64 k)]) a) (hk : KeepsE X w aj (.slice a0 caps.length c0) m s dv mv s.done s.marks [] u) :
    Lk [1, 1, 1, 1, 1, 1, 1, 1, 1, 1, 1, 1, 1, 1, 1, 1, 1, 0, 1, 0, 0, 1, 0, 0, 1, 0, 1, 0, 0, 1, 0, 0] (fun a' u' => ∃ s' dv' mv', Slots 397 (lkB a0 a1 a2 a3 a4 a5 caps.length paths.length drops.length syncs.length fails.length keeps.length c0 c1 c2 c3 c4 c5 aj dv' mv' (t + 1) r [(29, .int .i64 k)]) a' ∧ KeepsE X w aj (.slice a0 caps.length c0) (m + 1) s' dv' mv' s'.done s'.marks [] u' ∧ s'.caps = caps) a u := by
  have hlen := hk.ok.len
  have hpos := hk.ok.pos
  have hfew := hk.few
  have hpl : paths.length ≤ 9223372036854775807 := by
    obtain ⟨_, _, _, ⟨_, h⟩, _⟩ := id hv1
    exact h
  refine Lk.seq (p0 := [1, 1, 1, 1, 1, 1, 1, 1, 1, 1, 1, 1, 1, 1, 1, 1, 1, 0, 1, 0, 0, 1, 0, 0, 1, 0, 1, 0, 0, 1, 0, 0, 0]) (p1 := [1, 1, 1, 1, 1, 1, 1, 1, 1, 1, 1, 1, 1, 1, 1, 1, 1, 0, 1, 0, 0, 1, 0, 0, 1, 0, 1, 0, 0, 1, 0, 0, 1]) (by kernel_rfl) (lk_sync hS hB hSf hv3 (by omega) ha hk) ?_
  rintro a1 u1 ⟨s1, hs1, hk1, e1, e2, e3⟩
  obtain ⟨d, hd⟩ : ∃ d, s.done.length = d + 1 := ⟨s.done.length - 1, by omega⟩
  have hfl : s.done.getD d [] = s1.flows := by
    show _ = flowsL s1.done
    rw [flowsL, e1, hd]; rfl
  have hf6 : s1.flows.length ≤ 1000 := by have := hk1.ok.flows_right.1; omega
  refine Lk.seq (p0 := [1, 1, 1, 1, 1, 1, 1, 1, 1, 1, 1, 1, 1, 1, 1, 1, 1, 0, 1, 0, 0, 1, 0, 0, 1, 0, 1, 0, 0, 1, 0, 0, 1, 0]) (p1 := [1, 1, 1, 1, 1, 1, 1, 1, 1, 1, 1, 1, 1, 1, 1, 1, 1, 0, 1, 0, 0, 1, 0, 0, 1, 0, 1, 0, 0, 1, 0, 0, 1, 1]) (by kernel_rfl) (lk_now hd (by omega) hs1 hk1) ?_
  rintro a2 u2 ⟨pv, hs2, hk2⟩
  rw [hfl] at hk2
  refine Lk.seq (p0 := [1, 1, 1, 1, 1, 1, 1, 1, 1, 1, 1, 1, 1, 1, 1, 1, 1, 0, 1, 0, 0, 1, 0, 0, 1, 0, 1, 0, 0, 1, 0, 0, 1, 1, 0]) (p1 := [1, 1, 1, 1, 1, 1, 1, 1, 1, 1, 1, 1, 1, 1, 1, 1, 1, 0, 1, 0, 0, 1, 0, 0, 1, 0, 1, 0, 0, 1, 0, 0, 1, 1, 1]) (by kernel_rfl) (lk_next hs2 hk2) ?_
  rintro a3 u3 ⟨hs3, hk3⟩
  refine Lk.seq (p0 := [1, 1, 1, 1, 1, 1, 1, 1, 1, 1, 1, 1, 1, 1, 1, 1, 1, 0, 1, 0, 0, 1, 0, 0, 1, 0, 1, 0, 0, 1, 0, 0, 1, 1, 1, 0]) (p1 := [1, 1, 1, 1, 1, 1, 1, 1, 1, 1, 1, 1, 1, 1, 1, 1, 1, 0, 1, 0, 0, 1, 0, 0, 1, 0, 1, 0, 0, 1, 0, 0, 1, 1, 1, 1]) (by kernel_rfl) (lk_e0 (f := []) (g := []) hs3) ?_
  rintro a4 u4 ⟨hs4, rfl⟩
  refine Lk.seq (p0 := [1, 1, 1, 1, 1, 1, 1, 1, 1, 1, 1, 1, 1, 1, 1, 1, 1, 0, 1, 0, 0, 1, 0, 0, 1, 0, 1, 0, 0, 1, 0, 0, 1, 1, 1, 1, 0]) (p1 := [1, 1, 1, 1, 1, 1, 1, 1, 1, 1, 1, 1, 1, 1, 1, 1, 1, 0, 1, 0, 0, 1, 0, 0, 1, 0, 1, 0, 0, 1, 0, 0, 1, 1, 1, 1, 1]) (by kernel_rfl) (lk_bytes hB (by omega) hs4 hk3) ?_
  rintro a5 u5 ⟨hs5, hk5⟩
  refine Lk.seq (p0 := [1, 1, 1, 1, 1, 1, 1, 1, 1, 1, 1, 1, 1, 1, 1, 1, 1, 0, 1, 0, 0, 1, 0, 0, 1, 0, 1, 0, 0, 1, 0, 0, 1, 1, 1, 1, 1, 0]) (p1 := [1, 1, 1, 1, 1, 1, 1, 1, 1, 1, 1, 1, 1, 1, 1, 1, 1, 0, 1, 0, 0, 1, 0, 0, 1, 0, 1, 0, 0, 1, 0, 0, 1, 1, 1, 1, 1, 1]) (by kernel_rfl) (lk_err0 (f := []) (g := []) hs5) ?_
  rintro a6 u6 ⟨hs6, rfl⟩
  refine Lk.seq (p0 := [1, 1, 1, 1, 1, 1, 1, 1, 1, 1, 1, 1, 1, 1, 1, 1, 1, 0, 1, 0, 0, 1, 0, 0, 1, 0, 1, 0, 0, 1, 0, 0, 1, 1, 1, 1, 1, 1, 0]) (p1 := [1, 1, 1, 1, 1, 1, 1, 1, 1, 1, 1, 1, 1, 1, 1, 1, 1, 0, 1, 0, 0, 1, 0, 0, 1, 0, 1, 0, 0, 1, 0, 0, 1, 1, 1, 1, 1, 1, 1]) (by kernel_rfl) (lk_step hA hD hv0 hv1 hv2 h1 hm hf6 rfl (e3.trans hc) hs6 hk5) ?_
  rintro a7 u7 ⟨s2, kk, fv, gg, g, pv2, hs7, hk7, hst, hg7⟩
  refine Lk.seq (p0 := [1, 1, 1, 1, 1, 1, 1, 1, 1, 1, 1, 1, 1, 1, 1, 1, 1, 0, 1, 0, 0, 1, 0, 0, 1, 0, 1, 0, 0, 1, 0, 0, 1, 1, 1, 1, 1, 1, 1, 0]) (p1 := [1, 1, 1, 1, 1, 1, 1, 1, 1, 1, 1, 1, 1, 1, 1, 1, 1, 0, 1, 0, 0, 1, 0, 0, 1, 0, 1, 0, 0, 1, 0, 0, 1, 1, 1, 1, 1, 1, 1, 1]) (by kernel_rfl) (lk_at (by omega) hs7) ?_
  rintro a8 u8 ⟨hs8, rfl⟩
  refine Lk.seq (p0 := [1, 1, 1, 1, 1, 1, 1, 1, 1, 1, 1, 1, 1, 1, 1, 1, 1, 0, 1, 0, 0, 1, 0, 0, 1, 0, 1, 0, 0, 1, 0, 0, 1, 1, 1, 1, 1, 1, 1, 1, 0]) (p1 := [1, 1, 1, 1, 1, 1, 1, 1, 1, 1, 1, 1, 1, 1, 1, 1, 1, 0, 1, 0, 0, 1, 0, 0, 1, 0, 1, 0, 0, 1, 0, 0, 1, 1, 1, 1, 1, 1, 1, 1, 1]) (by kernel_rfl) (lk_stop hg hs8 hk7) ?_
  rintro a9 u9 ⟨hs9, hk9⟩
  refine Lk.seq (p0 := [1, 1, 1, 1, 1, 1, 1, 1, 1, 1, 1, 1, 1, 1, 1, 1, 1, 0, 1, 0, 0, 1, 0, 0, 1, 0, 1, 0, 0, 1, 0, 0, 1, 1, 1, 1, 1, 1, 1, 1, 1, 0]) (p1 := [1, 1, 1, 1, 1, 1, 1, 1, 1, 1, 1, 1, 1, 1, 1, 1, 1, 0, 1, 0, 0, 1, 0, 0, 1, 0, 1, 0, 0, 1, 0, 0, 1, 1, 1, 1, 1, 1, 1, 1, 1, 1]) (by kernel_rfl) (lk_told hg hs9 hk9) ?_
  rintro a10 u10 ⟨hs10, hk10⟩
  have hxy : (kk == 6) = true ∨ (kk == fv) = true := by
    by_cases h : kk = 0
    · right; rw [h, (hst.good h).1]; rfl
    · rcases (hst.bad h).1 with h | h
      · left; rw [h]; rfl
      · right; rw [h]; simp
  refine Lk.seq (p0 := [1, 1, 1, 1, 1, 1, 1, 1, 1, 1, 1, 1, 1, 1, 1, 1, 1, 0, 1, 0, 0, 1, 0, 0, 1, 0, 1, 0, 0, 1, 0, 0, 1, 1, 1, 1, 1, 1, 1, 1, 1, 1, 0]) (p1 := [1, 1, 1, 1, 1, 1, 1, 1, 1, 1, 1, 1, 1, 1, 1, 1, 1, 0, 1, 0, 0, 1, 0, 0, 1, 0, 1, 0, 0, 1, 0, 0, 1, 1, 1, 1, 1, 1, 1, 1, 1, 1, 1]) (by kernel_rfl) (lk_ok hxy hs10) ?_
  rintro a11 u11 ⟨hs11, rfl⟩
  refine Lk.seq (p0 := [1, 1, 1, 1, 1, 1, 1, 1, 1, 1, 1, 1, 1, 1, 1, 1, 1, 0, 1, 0, 0, 1, 0, 0, 1, 0, 1, 0, 0, 1, 0, 0, 1, 1, 1, 1, 1, 1, 1, 1, 1, 1, 1, 0]) (p1 := [1, 1, 1, 1, 1, 1, 1, 1, 1, 1, 1, 1, 1, 1, 1, 1, 1, 0, 1, 0, 0, 1, 0, 0, 1, 0, 1, 0, 0, 1, 0, 0, 1, 1, 1, 1, 1, 1, 1, 1, 1, 1, 1, 1]) (by kernel_rfl) (lk_made hB hm rfl hst hg7 e1 e2 (by omega) (by omega) hs11 hk10) ?_
  rintro a12 u12 ⟨dv', mv', hs12, hk12⟩
  have hlen2 := hk12.ok.len
  have hpos2 := hk12.ok.pos
  have hfew2 := hk12.few
  obtain ⟨d2, hd2⟩ : ∃ d, s2.done.length = d + 1 := ⟨s2.done.length - 1, by omega⟩
  refine (lk_same hP hm rfl hd2 (by omega) hs12 hk12).mono ?_
  rintro a13 u13 ⟨hs13, hk13⟩
  exact ⟨s2, dv', mv', hs13, hk13, by rw [hst.caps, e3, hc]⟩
end
end Ev
end Go.Proofs.YtdldgefahgojaakDoor
