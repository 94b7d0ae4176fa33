/- frac.Add and frac.By of what is right, where the answer may be: no error is told. -/
import Derived.Test.YtdldgefahgojaakDoorFracBy
import Derived.Test.YtdldgefahgojaakDoorFracE
import Derived.Test.YtdldgefahgojaakDoorPlains
namespace Go.Proofs.YtdldgefahgojaakDoor
namespace Fl
open Go.RowKit Fr Ns Ld
set_option linter.unusedSimpArgs false
set_option linter.unusedVariables false

theorem f2_mk {t b u c : Int} (h1 : fault t b = 0) (h2 : fault u c = 0) : fault2 t b u c = 0 := by rw [fault2, if_pos h1, h2]
theorem may_of_fault {a : Int × Int} (h : faultP a = 0) : mayB a.1 a.2 = true := (fault_iff.1 h).1
/-- the sum of two that are right, where it is right too -/
theorem FAdd_may {s a : Int × Int} (hs : faultP s = 0) (ha : faultP a = 0) (h : faultP (sumP s a) = 0) (w : World) :
    Calls Tryd.prog 76 #[.agg #[.int .i64 s.1, .int .i64 s.2], .agg #[.int .i64 a.1, .int .i64 a.2]] w fun e w' => e = .returned (.tuple #[.agg #[.int .i64 (sumP s a).1, .int .i64 (sumP s a).2], .nilIface]) ∧ Below w.heap.size w w' := by
  have := Add_any s.1 s.2 a.1 a.2 w
  have hf := f2_mk hs ha
  have hm : mayB (lowT (s.1 * a.2 + a.1 * s.2) (s.2 * a.2)) (lowB (s.1 * a.2 + a.1 * s.2) (s.2 * a.2)) = true := may_of_fault h
  rw [addT, addB, Fr.addE, if_pos hf, if_pos hf, if_pos hf, madeT, madeB, madeE, if_pos hm, if_pos hm, if_pos hm] at this
  exact this
/-- a part of one that is right, where it is right too -/
theorem FBy_may {s : Int × Int} {k : Int} (hs : faultP s = 0) (h1 : 1 ≤ k) (h2 : k ≤ 1000) (h : faultP (partP s k) = 0) (w : World) :
    Calls Tryd.prog 78 #[.agg #[.int .i64 s.1, .int .i64 s.2], .int .i64 k] w fun e w' => e = .returned (.tuple #[.agg #[.int .i64 (partP s k).1, .int .i64 (partP s k).2], .nilIface]) ∧ Below w.heap.size w w' := by
  have := By_any s.1 s.2 k w
  have hf : fault s.1 s.2 = 0 := hs
  have hm : mayB (lowT s.1 (s.2 * k)) (lowB s.1 (s.2 * k)) = true := may_of_fault h
  have hk : 1 ≤ k ∧ k ≤ 1000 := ⟨h1, h2⟩
  rw [byT, byB, byE, if_pos hf, if_pos hf, if_pos hf, if_pos hk, if_pos hk, if_pos hk, madeT, madeB, madeE, if_pos hm, if_pos hm, if_pos hm] at this
  exact this
/-- two that are right, compared -/
theorem FCmp_right {s a : Int × Int} (hs : faultP s = 0) (ha : faultP a = 0) (w : World) :
    Calls Tryd.prog 75 #[.agg #[.int .i64 s.1, .int .i64 s.2], .agg #[.int .i64 a.1, .int .i64 a.2]] w fun e w' => e = .returned (.tuple #[.int .i64 (cmpI (s.1 * a.2) (a.1 * s.2)), .nilIface]) ∧ Below w.heap.size w w' := by
  have := Compare_any s.1 s.2 a.1 a.2 w
  have hf := f2_mk hs ha
  rw [cmpV, if_pos hf, hf, errV_0] at this
  exact this
theorem neg_right {a : Int × Int} (h : faultP a = 0) : faultP (negP a) = 0 := fault_iff.2 ⟨mayB_iff.2 (by have := fault_0 h; show _ ∧ _; simp only [negP]; omega), by show gd (-a.1) a.2 = 1; rw [gd_neg]; exact (fault_iff.1 h).2⟩
end Fl
end Go.Proofs.YtdldgefahgojaakDoor
