/- The law FracZero returns true for every fraction: with 0 added a fraction is itself, times 0 it is 0, and one that is none is refused by all three calls. No condition. -/
import Derived.Test.YtkkmmmmipjnljaaFracE
import Derived.Test.YtkkmmmmipjnljaaRows
import Derived.ProofKit
import Derived.OpenShut
import Derived.Lib.SmallJoins
namespace Go.Proofs.Ytkkmmmmipjnljaa
namespace FracZeroLaw
open Go.ChangeShapes Go.WideShapes Go.ChangeAt Go.RowKit Go.Joins Fr
set_option linter.unusedSimpArgs false
set_option linter.unusedVariables false

theorem own : ownKnob Try.prog.godebug = none := by kernel_rfl
theorem cellsF : Try.prog.cellsOf 27 = 2 := by kernel_rfl

theorem add_zero {t b : Int} (h : fault t b = 0) : addT t b 0 1 = t ∧ addB t b 0 1 = b ∧ addE t b 0 1 = 0 := by
  have hk : fault2 t b 0 1 = 0 := by rw [fault2, if_pos h, fault_01]
  obtain ⟨l1, l2⟩ := low_of_fault h
  have hm := mayB_of_fault h
  rw [addT, addB, addE, if_pos hk, if_pos hk, if_pos hk, Int.mul_one, Int.zero_mul, Int.add_zero, Int.mul_one, madeT, madeB, madeE, l1, l2, hm]
  exact ⟨rfl, rfl, rfl⟩
theorem times_zero {t b : Int} (h : fault t b = 0) : timesT t b 0 = 0 ∧ timesB t b 0 = 1 ∧ timesE t b 0 = 0 := by
  obtain ⟨m1, m2, m3, m4⟩ := fault_0 h
  obtain ⟨l1, l2⟩ := low_zero m1
  have hn : (-1000 : Int) ≤ 0 ∧ (0 : Int) ≤ 1000 := by decide
  rw [timesT, timesB, timesE, if_pos h, if_pos h, if_pos h, if_pos hn, if_pos hn, if_pos hn, Int.mul_zero, madeT, madeB, madeE, l1, l2]
  exact ⟨rfl, rfl, rfl⟩
theorem add_bad {t b k : Int} (h : fault t b = k) (k0 : k ≠ 0) : addT t b 0 1 = 0 ∧ addB t b 0 1 = 0 ∧ addE t b 0 1 = k := by
  have hk : fault2 t b 0 1 = k := by rw [fault2, h, if_neg k0]
  rw [addT, addB, addE, hk, if_neg k0, if_neg k0, if_neg k0]
  exact ⟨rfl, rfl, rfl⟩
theorem times_bad {t b k : Int} (h : fault t b = k) (k0 : k ≠ 0) : timesT t b 0 = 0 ∧ timesB t b 0 = 0 ∧ timesE t b 0 = k := by
  rw [timesT, timesB, timesE, h, if_neg k0, if_neg k0, if_neg k0]
  exact ⟨rfl, rfl, rfl⟩

set_option maxHeartbeats 1000000 in
theorem walk (t b : Int) (w : World) :
    Calls Try.prog 5 #[.agg #[.int .i64 t, .int .i64 b]] w fun e w' => e = .returned (.bool true) ∧ Below w.heap.size w w' := by
  by_cases hk : fault t b = 0
  · obtain ⟨a1, a2, a3⟩ := add_zero hk
    obtain ⟨s1, s2, s3⟩ := times_zero hk
    have HA : Hid (pairV (addT t b 0 1) (addB t b 0 1) (addE t b 0 1) = .tuple #[.agg #[.int .i64 t, .int .i64 b], .nilIface]) := show _ = _ by rw [a1, a2, a3]; rfl
    have HT : Hid (pairV (timesT t b 0) (timesB t b 0) (timesE t b 0) = .tuple #[.agg #[.int .i64 0, .int .i64 1], .nilIface]) := show _ = _ by rw [s1, s2, s3]; rfl
    clear a1 a2 a3 s1 s2 s3 hk
    go_enter Try.func5, Try.ntmps5
    go_wp2_with fail
    refine (Add_any t b 0 1 _).mono ?_
    rintro e w1 ⟨rfl, hb1⟩
    rw [HA.out]
    obtain ⟨hc, hf⟩ := bcell hb1
    have hz0 : w.heap.size < w1.heap.size := by have := hb1.size; simp at this; omega
    have hz1 : w.heap.size + 1 < w1.heap.size := by have := hb1.size; simp at this; omega
    have hb0 : Below w.heap.size w w1 := (((Below.refl _ _).alloc (Nat.le_refl _) _).alloc (by simp; try omega) _).trans (hb1.mono (by simp; omega))
    go_wp2_with fail
    refine (Times_any t b 0 _).mono ?_
    rintro e w2 ⟨rfl, hb2⟩
    rw [HT.out]
    obtain ⟨hc2, hf2⟩ := bcell hb2
    have hb3 : Below w.heap.size w w2 := (hb0.alloc (by omega) _).trans (hb2.mono (by simp; omega))
    have hz3 : w1.heap.size < w2.heap.size := by have := hb2.size; simp at this; omega
    have hz4 : w.heap.size < w2.heap.size := by omega
    have hz5 : w.heap.size + 1 < w2.heap.size := by omega
    have hz6 : w.heap.size < w1.heap.size + 1 := by omega
    have hz7 : w.heap.size + 1 < w1.heap.size + 1 := by omega
    go_wp2
    go_ret
    refine ⟨rfl, ?_⟩
    repeat (first | exact hb3 | refine Below.setCell ?_ (by first | (simp; done) | (simp; omega)) _ | refine Below.alloc ?_ (by first | omega | (simp; omega)) _ | refine Below.drew ?_)
  · obtain ⟨k, Hk0⟩ : ∃ k, Hid (fault t b = k) := ⟨_, rfl⟩
    have k0 : k ≠ 0 := by rw [← Hk0.out]; exact hk
    obtain ⟨a1, a2, a3⟩ := add_bad Hk0.out k0
    obtain ⟨s1, s2, s3⟩ := times_bad Hk0.out k0
    have HA : Hid (pairV (addT t b 0 1) (addB t b 0 1) (addE t b 0 1) = .tuple #[.agg #[.int .i64 0, .int .i64 0], .iface 23 (.int .i64 k)]) := show _ = _ by rw [a1, a2, a3, pairV, errV_ne k0]
    have HT : Hid (pairV (timesT t b 0) (timesB t b 0) (timesE t b 0) = .tuple #[.agg #[.int .i64 0, .int .i64 0], .iface 23 (.int .i64 k)]) := show _ = _ by rw [s1, s2, s3, pairV, errV_ne k0]
    have HC : Hid (errV (fault t b) = .iface 23 (.int .i64 k)) := show _ = _ by rw [Hk0.out, errV_ne k0]
    clear a1 a2 a3 s1 s2 s3 hk k0
    go_enter Try.func5, Try.ntmps5
    go_wp2_with fail
    refine (Add_any t b 0 1 _).mono ?_
    rintro e w1 ⟨rfl, hb1⟩
    rw [HA.out]
    obtain ⟨hc, hf⟩ := bcell hb1
    have hz0 : w.heap.size < w1.heap.size := by have := hb1.size; simp at this; omega
    have hz1 : w.heap.size + 1 < w1.heap.size := by have := hb1.size; simp at this; omega
    have hb0 : Below w.heap.size w w1 := (((Below.refl _ _).alloc (Nat.le_refl _) _).alloc (by simp; try omega) _).trans (hb1.mono (by simp; omega))
    go_wp2_with fail
    refine (Times_any t b 0 _).mono ?_
    rintro e w2 ⟨rfl, hb2⟩
    rw [HT.out]
    obtain ⟨hc2, hf2⟩ := bcell hb2
    have hb3 : Below w.heap.size w w2 := (hb0.alloc (by omega) _).trans (hb2.mono (by simp; omega))
    have hz3 : w1.heap.size < w2.heap.size := by have := hb2.size; simp at this; omega
    have hz4 : w.heap.size < w2.heap.size := by omega
    have hz5 : w.heap.size + 1 < w2.heap.size := by omega
    have hz6 : w.heap.size < w1.heap.size + 1 := by omega
    have hz7 : w.heap.size + 1 < w1.heap.size + 1 := by omega
    go_wp2_with fail
    refine (Check_any t b _).mono ?_
    rintro e w3 ⟨rfl, hb4⟩
    rw [HC.out]
    go_wp2
    go_ret
    refine ⟨rfl, ?_⟩
    refine Below.trans ?_ (hb4.mono (by simp; omega))
    repeat (first | exact hb3 | refine Below.setCell ?_ (by first | (simp; done) | (simp; omega)) _ | refine Below.alloc ?_ (by first | omega | (simp; omega)) _ | refine Below.drew ?_)

set_option maxRecDepth 100000 in
theorem lifted (os : Os) (started : os.Started) (H : Type) (enc : TypeId × Value → H) :
    ReturnsInHanded {} Try.checked os 5 .any (Rows.fracZeroSpec.pre6 enc Try.prog Try.f5 Rows.fracZeroRow.domain false) (Rows.fracZeroSpec.post enc Try.prog Try.f5 false true false false) := by
  refine returnsInHanded_of_change (C := Try.checked) own started (by kernel_rfl) Try.func5
    (ChangeSpec.witness6 (enc := enc) (C := Try.checked) false ⟨#[], #[.agg #[.int .i64 0, .int .i64 0]], []⟩ 8 (by kernel_rfl) (by kernel_rfl) (by kernel_rfl) (by kernel_rfl)) ?_
  intro W base args ds gs before hval0 hW _ _
  have hval : ∀ (j : Nat) t v, Try.f5.params[j]? = some t → args[j]? = some v → Value.okWide Try.prog W .any base t v := hval0
  have hW' := hW
  obtain ⟨p, q, hA0, hV, rfl, _, _⟩ := hW
  have hA : DataW.TrodAll enc Try.prog W 0 (fun _ => true) true Try.f5.params.toList args.toList ds p := hA0
  rw [Try.params5] at hA hval
  obtain ⟨v0, d0, rfl, rfl, h0⟩ := trodAll_one hA
  obtain ⟨rfl, rfl⟩ := trodVars_none hV
  obtain ⟨c0, c1, y0, y1, m, rfl, rfl, rfl, hy0, hy1⟩ := open_agg2 Try.underlying27 (by kernel_rfl) cellsF (hval 0 27 v0 rfl rfl) h0
  obtain ⟨a, e0, rfl, wa⟩ := DataW.trod_int Try.underlying3 hy0
  obtain ⟨b, e1, rfl, wb⟩ := DataW.trod_int Try.underlying3 hy1
  simp at e0 e1
  subst e0 e1
  clear hA0 hval0
  simp only [List.append_nil] at hW'
  have structReads : ∀ (W' : World) (sp : Nat → Bool), DataW.Trod enc Try.prog W' 0 sp true 27 (.agg #[.int .i64 a, .int .i64 b]) (.agg [.lit (.int .i64 a), .lit (.int .i64 b)]) [] := fun W' sp =>
    shut_agg2 (y0 := (.lit (.int .i64 a), [])) (y1 := (.lit (.int .i64 b), [])) Try.underlying27 (by kernel_rfl) cellsF ⟨1, by simp [DataW.trod, Try.underlying3, wa]⟩ ⟨1, by simp [DataW.trod, Try.underlying3, wb]⟩
  refine (walk a b W).mono fun e W' ⟨he, hg⟩ => ?_
  subst he
  exact ⟨_, rfl, _, _, _, [], [], [], hW', trodAll_mk1 (shut_bool Try.underlying4 _), trodAll_mk1 (structReads _ _), rfl, hg.frame _, fun h => by cases h⟩
end FracZeroLaw

theorem fracZero_holds : Rows.FracZeroSaid :=
  OpenClaim.holds_of_wide 5 Try.f5 rfl rfl rfl rfl rfl rfl rfl ⟨rfl, rfl, rfl, rfl, rfl⟩ rfl rfl rfl rfl rfl (by kernel_rfl) Try.func5 (by kernel_rfl)
    (of_decide_eq_true (by kernel_rfl)) (by unfold Func.isWrapper; rw [if_neg (by decide +kernel)]; exact ⟨rfl, rfl⟩)
    (fun os started H enc _ => FracZeroLaw.lifted os started H enc)
#print axioms fracZero_holds
end Go.Proofs.Ytkkmmmmipjnljaa
