/- Package grow's Fewer: the rates of the net without a flow. -/
import Derived.Test.YtajihmkbnepbjajNetG
import Derived.Test.YtajihmkbnepbjajFillSaidR
import Derived.Test.YtajihmkbnepbjajPlains
namespace Go.Proofs.Ytajihmkbnepbjaj
namespace Fl
open Go.RowKit Fr Ns Ld
set_option linter.unusedSimpArgs false
set_option linter.unusedVariables false

set_option maxRecDepth 100000 in
set_option maxHeartbeats 2000000 in
theorem gfewer_said : GFewerSaid := by
  intro Q caps paths flow v w h
  have HA : Hid (∀ u, Below w.heap.size w u → Calls Try.prog 32 #[v, .int .i64 flow] u fun e w' => ∃ x, e = .returned (.tuple #[x, errV (dropE caps paths flow)]) ∧
    NetAt (fun b => u.heap.size ≤ b) w' x (okL (dropE caps paths flow) caps) (okL (dropE caps paths flow) (less paths flow)) ∧ Below u.heap.size u w') := fun u hu => drop_said Q caps paths flow v u (h.later hu)
  by_cases hk : dropE caps paths flow = 0
  · have HR : Hid (∀ (R : Nat → Prop) (y : Value) (u : World), NetAt R u y caps (less paths flow) → Calls Try.prog 13 #[y] u fun e w' => ∃ z, e = .returned (.tuple #[z, .nilIface]) ∧
      FracsAt (fun b => u.heap.size ≤ b) w' z (fill caps (less paths flow)).1 ∧ Below u.heap.size u w') := by
      intro R y u hy
      have := rates_said R _ _ y u hy
      rw [(drop_net hk).2.2.2, errV_0, okL_0] at this
      exact this
    rw [hk, errV_0, okL_0, okL_0] at HA
    rw [hk, errV_0, okL_0]
    obtain ⟨v1, v2, rfl, h1, h2⟩ := h
    obtain ⟨a1, cap1, rfl, _⟩ := h1
    obtain ⟨a2, cap2, rfl, _⟩ := h2
    generalize (fill caps (less paths flow)).1 = lr at *
    clear hk
    generalize less paths flow = np at *
    go_enter Try.func16, Try.ntmps16
    go_wp2_with fail
    refine (HA.out _ ((Below.refl _ _).alloc (Nat.le_refl _) _)).mono ?_
    rintro e w1 ⟨x, rfl, hx, hw1⟩
    have HX : Hid (∀ o, NetAt (fun b => w.heap.size ≤ b) (w1.alloc o) x caps np) := fun o => (hx.later (Bel.more (Below.refl w1.heap.size w1) (Nat.le_refl _) o)).keep (fun _ _ _ => rfl) (fun b hb _ => by simp at hb; omega)
    have HB1 : Hid (Below w.heap.size w w1) := ((Below.refl _ _).alloc (Nat.le_refl _) _).trans (hw1.mono (by simp))
    have hs1 : w.heap.size < w1.heap.size := by have := hw1.size; simp at this; omega
    obtain ⟨x1, x2, rfl, hx1, hx2⟩ := hx
    obtain ⟨b1, d1, rfl, _⟩ := hx1
    obtain ⟨b2, d2, rfl, _⟩ := hx2
    clear hw1
    go_wp2_with fail
    refine (HR.out _ _ _ (HX.out _)).mono ?_
    rintro e w2 ⟨z, rfl, hz, hw2⟩
    have HZ : Hid (FracsAt (fun b => w.heap.size ≤ b) w2 z lr) := hz.keep (fun _ _ _ => rfl) (fun b hb _ => by simp at hb; omega)
    have HB2 : Hid (Below w.heap.size w w2) := (Bel.more HB1.out (Nat.le_refl _) _).trans (hw2.mono (by simp; omega))
    obtain ⟨az, capz, rfl, _⟩ := hz
    clear hw2
    go_wp2
    refine bodyPost_ret (v := .tuple #[.slice az lr.length capz, .nilIface]) (by simp [results, Try.results16, go_sem]) rfl ⟨_, rfl, HZ.out, HB2.out⟩
  · have HV : Hid (errV (dropE caps paths flow) = .iface 72 (.int .i64 (dropE caps paths flow))) := errV_ne hk
    have HK0 : okL (dropE caps paths flow) (fill caps (less paths flow)).1 = [] := okL_ne hk _
    have HK1 : okL (dropE caps paths flow) caps = [] := okL_ne hk _
    have HK2 : okL (dropE caps paths flow) (less paths flow) = [] := okL_ne hk _
    rw [HV.out, HK1, HK2] at HA
    rw [HV.out, HK0]
    clear HK0 HK1 HK2
    generalize dropE caps paths flow = ek at *
    clear hk
    obtain ⟨v1, v2, rfl, h1, h2⟩ := h
    obtain ⟨a1, cap1, rfl, _⟩ := h1
    obtain ⟨a2, cap2, rfl, _⟩ := h2
    go_enter Try.func16, Try.ntmps16
    go_wp2_with fail
    refine (HA.out _ ((Below.refl _ _).alloc (Nat.le_refl _) _)).mono ?_
    rintro e w1 ⟨x, rfl, hx, hw1⟩
    have HB1 : Hid (Below w.heap.size w w1) := ((Below.refl _ _).alloc (Nat.le_refl _) _).trans (hw1.mono (by simp))
    have hs1 : w.heap.size < w1.heap.size := by have := hw1.size; simp at this; omega
    obtain ⟨x1, x2, rfl, hx1, hx2⟩ := hx
    obtain ⟨b1, d1, rfl, _⟩ := hx1
    obtain ⟨b2, d2, rfl, _⟩ := hx2
    clear hw1
    go_wp2
    refine bodyPost_ret (v := .tuple #[.slice none 0 0, .iface 72 (.int .i64 ek)]) (by simp [results, Try.results16, go_sem]) rfl ?_
    exact ⟨_, rfl, fracs_nil _ _, Bel.more HB1.out (Nat.le_refl _) _⟩
end Fl
end Go.Proofs.Ytajihmkbnepbjaj
