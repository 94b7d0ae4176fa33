/- Package rank's Least keeps what the document says. -/
import Derived.Test.YtajihmkbnepbjajRkS
import Derived.Test.YtajihmkbnepbjajPlains
namespace Go.Proofs.Ytajihmkbnepbjaj
namespace Fl
open Go.RowKit Fr Ns Ld
set_option linter.unusedSimpArgs false
set_option linter.unusedVariables false

set_option maxHeartbeats 2000000 in
theorem least_said : LeastSaid := by
  intro Q r x w hx
  have HA : Hid (∀ u, Below w.heap.size w u → Calls Try.prog 29 #[x] u fun e w' => ∃ z, e = .returned (.tuple #[z, errV (sortE r)]) ∧ FracsAt (fun b => u.heap.size ≤ b) w' z (okL (sortE r) (sortP r)) ∧ Below u.heap.size u w') := fun u hu => sorted_said Q r x u (hx.later hu)
  obtain ⟨ax, cx, nx, rfl⟩ := hx.shape
  have hP0 : Below w.heap.size w (w.alloc (.cells #[.int .i64 0, .int .i64 0] 49)) := (Below.refl _ _).alloc (Nat.le_refl _) _
  have HP0 : Hid (Below w.heap.size w (w.alloc (.cells #[.int .i64 0, .int .i64 0] 49))) := hP0
  clear hP0
  by_cases he : sortE r = 0
  · rw [he, errV_0, show okL (0 : Int) (sortP r) = sortP r from if_pos rfl] at HA
    have hls := sortP_length r
    by_cases hl : r.length = 0
    · have r1 : leastE r = 5 := by rw [leastE, if_pos he, if_pos hl]
      have r2 : leastV r = (0, 0) := by rw [leastV, if_neg (by rw [r1]; decide)]
      rw [r1, r2, errV_ne (by decide)]
      generalize sortP r = sr at *
      have hs0 : sr.length = 0 := by omega
      clear hx he r1 r2 hls hl
      go_enter Try.func14, Try.ntmps14
      go_wp2_with fail
      refine (HA.out _ HP0.out).mono ?_
      rintro e w1 ⟨z1, rfl, hz1, hw1⟩
      have HB1 : Hid (Below w.heap.size w w1) := Bel.call HP0.out (Nat.le_refl _) hw1
      have hzz : w.heap.size < w1.heap.size := by have := hw1.size; simp at this; omega
      obtain ⟨hc1, hf1⟩ := bcell hw1
      obtain ⟨a1, k1, rfl, _⟩ := hz1
      clear hw1
      go_wp2
      refine bodyPost_ret (v := .tuple #[.agg #[.int .i64 0, .int .i64 0], .iface 72 (.int .i64 5)]) (by simp [results, Try.results14, go_sem, hc1, hzz]) rfl ⟨rfl, ?_⟩
      repeat (first | exact HB1.out | refine Below.setCell ?_ (by simp) _ | refine Below.drew ?_)
    · obtain ⟨r1, r2, _⟩ := least_mk he hl
      rw [r1, r2, errV_0]
      generalize sortP r = sr at *
      have hs0 : 0 < sr.length := by omega
      have hs0' : (0 : Int) < (sr.length : Int) := by omega
      have hne : ¬ sr.length = 0 := by omega
      obtain ⟨p, HPp⟩ : ∃ p, Hid (sr.getD 0 (0, 0) = p) := ⟨_, rfl⟩
      rw [HPp.out]
      obtain ⟨t1, t2⟩ := p
      clear hx he r1 r2 hls hl
      go_enter Try.func14, Try.ntmps14
      go_wp2_with fail
      refine (HA.out _ HP0.out).mono ?_
      rintro e w1 ⟨z1, rfl, hz1, hw1⟩
      have HB1 : Hid (Below w.heap.size w w1) := Bel.call HP0.out (Nat.le_refl _) hw1
      have hzz : w.heap.size < w1.heap.size := by have := hw1.size; simp at this; omega
      obtain ⟨hc1, hf1⟩ := bcell hw1
      obtain ⟨a1, k1, rfl, _, hcs⟩ := hz1
      rcases hcs with rfl | ⟨b, off, rfl, hcs, hQ⟩
      · simp at hs0
      obtain ⟨c1, c2⟩ := hcs 0 hs0
      rw [Nat.zero_mul, Nat.add_zero, HPp.out] at c1 c2
      clear hw1 hcs hQ
      go_wp2
      refine bodyPost_ret (v := .tuple #[.agg #[.int .i64 t1, .int .i64 t2], .nilIface]) (by simp [results, Try.results14, go_sem, hc1, hzz]) rfl ⟨rfl, ?_⟩
      repeat (first | exact HB1.out | refine Below.setCell ?_ (by simp) _ | refine Below.drew ?_)
  · have HV : Hid (errV (sortE r) = .iface 72 (.int .i64 (sortE r))) := errV_ne he
    have r1 : leastE r = sortE r := by rw [leastE, if_neg he]
    have r2 : leastV r = (0, 0) := by rw [leastV, if_neg (by rw [r1]; exact he)]
    rw [r1, r2, HV.out]
    rw [HV.out] at HA
    generalize okL (sortE r) (sortP r) = oa at *
    generalize sortE r = er at *
    clear hx he r1 r2
    go_enter Try.func14, Try.ntmps14
    go_wp2_with fail
    refine (HA.out _ HP0.out).mono ?_
    rintro e w1 ⟨z1, rfl, hz1, hw1⟩
    have HB1 : Hid (Below w.heap.size w w1) := Bel.call HP0.out (Nat.le_refl _) hw1
    have hzz : w.heap.size < w1.heap.size := by have := hw1.size; simp at this; omega
    obtain ⟨hc1, hf1⟩ := bcell hw1
    obtain ⟨a1, k1, rfl, _⟩ := hz1
    clear hw1
    go_wp2
    refine bodyPost_ret (v := .tuple #[.agg #[.int .i64 0, .int .i64 0], .iface 72 (.int .i64 er)]) (by simp [results, Try.results14, go_sem, hc1, hzz]) rfl ⟨rfl, ?_⟩
    repeat (first | exact HB1.out | refine Below.setCell ?_ (by simp) _ | refine Below.drew ?_)
end Fl
end Go.Proofs.Ytajihmkbnepbjaj
