/- Package even's Gap does what is asked of it. -/
import Derived.Test.YtgbhknagmndbfaiEvA
import Derived.Test.YtgbhknagmndbfaiMinMaxI
import Derived.Test.YtgbhknagmndbfaiPlains
namespace Go.Proofs.Ytgbhknagmndbfai
namespace Ev
open Go.RowKit Fr Ns Ld Fl
set_option linter.unusedSimpArgs false
set_option linter.unusedVariables false

set_option maxHeartbeats 1000000 in
theorem egap_said : EGapSaid := by
  intro Q l v w h
  have HK : Hid (Calls Try.prog 14 #[v] w fun e w' => e = .returned (errV (few l 1000)) ∧ Below w.heap.size w w') := drawn (echeck_any l v w h)
  by_cases hk : few l 1000 = 0
  · obtain ⟨n1, n6, hb⟩ := few_0.1 hk
    have HX : Hid (∀ u, Below w.heap.size w u → Calls Try.prog 15 #[v] u fun e w' => e = .returned (.int .i64 (mxL l)) ∧ Below u.heap.size u w') := fun u hu => drawn (Max_any l v u (h.later hu) n1)
    have HN : Hid (∀ u, Below w.heap.size w u → Calls Try.prog 16 #[v] u fun e w' => e = .returned (.int .i64 (mnL l)) ∧ Below u.heap.size u w') := fun u hu => drawn (Min_any l v u (h.later hu) n1)
    have bx := hb _ (mxL_spec n1).1
    have bn := hb _ (mnL_spec n1).1
    have HG : Hid (gapL l = mxL l - mnL l) := rfl
    rw [hk, errV_0] at HK
    rw [hk, okI_0, errV_0]
    obtain ⟨a, cap, rfl, ⟨hm, hm2⟩, _⟩ := h
    clear hk hb
    generalize gapL l = G at *
    generalize mxL l = X at *
    generalize mnL l = N at *
    go_enter Try.func6, Try.ntmps6
    go_wp2_with fail
    refine HK.out.mono ?_
    rintro e w1 ⟨rfl, hw1⟩
    have B1 : Hid (Below w.heap.size w w1) := hw1
    clear hw1
    go_wp2_with fail
    refine (HX.out _ B1.out).mono ?_
    rintro e w2 ⟨rfl, hw2⟩
    have B2 : Hid (Below w.heap.size w w2) := B1.out.trans (hw2.mono B1.out.size)
    clear hw2
    go_wp2_with fail
    refine (HN.out _ B2.out).mono ?_
    rintro e w3 ⟨rfl, hw3⟩
    have B3 : Hid (Below w.heap.size w w3) := B2.out.trans (hw3.mono B2.out.size)
    clear hw3
    go_wp2
    refine bodyPost_ret (v := .tuple #[.int .i64 G, .nilIface]) (by simp [results, Try.results6, go_sem, HG.out]; try go_num) rfl ⟨rfl, B3.out⟩
  · have HV : Hid (errV (few l 1000) = .iface 54 (.int .i64 (few l 1000))) := errV_ne hk
    rw [HV.out] at HK
    rw [okI_ne hk, HV.out]
    generalize few l 1000 = ek at *
    clear hk
    obtain ⟨a, cap, rfl, ⟨hm, hm2⟩, _⟩ := h
    go_enter Try.func6, Try.ntmps6
    go_wp2_with fail
    refine HK.out.mono ?_
    rintro e w1 ⟨rfl, hw1⟩
    have B1 : Hid (Below w.heap.size w w1) := hw1
    clear hw1
    go_wp2
    refine bodyPost_ret (v := .tuple #[.int .i64 0, .iface 54 (.int .i64 ek)]) (by simp [results, Try.results6, go_sem]) rfl ⟨rfl, B1.out⟩
end Ev
end Go.Proofs.Ytgbhknagmndbfai
