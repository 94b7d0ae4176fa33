/- The document's Net (package fairref1) over a net that is only read. -/
import Derived.Test.YtajihmkbnepbjajDoorIntsB
namespace Go.Proofs.YtajihmkbnepbjajDoor
namespace Ns
open Go.RowKit
set_option linter.unusedSimpArgs false
set_option linter.unusedVariables false

set_option maxHeartbeats 2000000 in
theorem RNet_any {Q : Nat → Prop} (caps : List Int) (paths : List (List Int)) (v : Value) (w : World) (h : NetAt Q w v caps paths) :
    Calls Tryd.prog 14 #[v] w fun e w' => e = .returned (.int .i64 (netE caps paths)) ∧ Below w.heap.size w w' := by
  obtain ⟨v1, v2, rfl, h1, h2⟩ := h
  have h1' := h1
  obtain ⟨a1, cap1, rfl, ⟨hm1, hn1⟩, _⟩ := h1'
  obtain ⟨a2, cap2, rfl, ⟨hm2, hn2⟩, h2⟩ := h2
  by_cases c0 : caps.length = 0
  · have HR : Hid (netE caps paths = 5) := by show _ = _; rw [netE, if_pos (.inl c0)]
    have q : ((caps.length : Int) == 0) = true := by rw [c0]; rfl
    clear h1 h2 c0
    go_enter Tryd.func14, Tryd.ntmps14
    go_wp2
    go_ret
    exact ⟨ret_int HR.out.symm, (Below.refl _ _).alloc (Nat.le_refl _) _⟩
  have q : ((caps.length : Int) == 0) = false := beq_eq_false_iff_ne.2 (by omega)
  by_cases p0 : paths.length = 0
  · have HR : Hid (netE caps paths = 5) := by show _ = _; rw [netE, if_pos (.inr p0)]
    have q2 : ((paths.length : Int) == 0) = true := by rw [p0]; rfl
    clear h1 h2 c0 p0
    go_enter Tryd.func14, Tryd.ntmps14
    go_wp2
    go_ret
    exact ⟨ret_int HR.out.symm, (Below.refl _ _).alloc (Nat.le_refl _) _⟩
  have q2 : ((paths.length : Int) == 0) = false := beq_eq_false_iff_ne.2 (by omega)
  by_cases c6 : 6 < caps.length
  · have HR : Hid (netE caps paths = 4) := by show _ = _; rw [netE, if_neg (by omega), if_pos (.inl c6)]
    have q6 : (6 : Int) < (caps.length : Int) := by omega
    clear h1 h2 c0 p0
    go_enter Tryd.func14, Tryd.ntmps14
    go_wp2
    go_ret
    exact ⟨ret_int HR.out.symm, (Below.refl _ _).alloc (Nat.le_refl _) _⟩
  by_cases p6 : 6 < paths.length
  · have HR : Hid (netE caps paths = 4) := by show _ = _; rw [netE, if_neg (by omega), if_pos (.inr p6)]
    have q6 : ¬ (6 : Int) < (caps.length : Int) := by omega
    have q6' : decide ((6 : Int) < (paths.length : Int)) = true := by simp; omega
    clear h1 h2 c0 p0
    go_enter Tryd.func14, Tryd.ntmps14
    go_wp2
    go_ret
    exact ⟨ret_int HR.out.symm, (Below.refl _ _).alloc (Nat.le_refl _) _⟩
  have q6 : ¬ (6 : Int) < (caps.length : Int) := by omega
  have q6' : decide ((6 : Int) < (paths.length : Int)) = false := by simp; omega
  have HR : Hid (netE caps paths = if linksE caps = 0 then pathsFrom caps.length paths else linksE caps) := by show _ = _; rw [netE, if_neg (by omega), if_neg (by omega)]
  rcases h2 with rfl | ⟨b, off, rfl, h2, hQ⟩
  · exact absurd rfl p0
  obtain ⟨H⟩ : Nonempty (Hid (∀ i, i < paths.length → ∃ x, w.cell? ⟨b, off + i, none⟩ = some x ∧ IntsAt Q w x (paths.getD i []))) := ⟨h2⟩
  have H1 : Hid (IntsAt Q w (.slice a1 caps.length cap1) caps) := h1
  obtain ⟨R, hR⟩ : ∃ R, Hid (netE caps paths = R) := ⟨_, rfl⟩
  obtain ⟨E0, hE0⟩ : ∃ E, Hid (linksE caps = E) := ⟨_, rfl⟩
  clear h1 h2 c0 p0 c6 p6
  go_enter Tryd.func14, Tryd.ntmps14
  go_wp2_with fail
  refine (Links_any caps _ _ (H1.out.later ((Below.refl _ _).alloc (Nat.le_refl _) _))).mono ?_
  rintro e w1 ⟨rfl, rfl⟩
  rw [hE0.out]
  go_wp2
  go_loopw [3, 4] (fun e i wr => ∃ (k m : Nat) (ev : Int), k ≤ paths.length ∧ i = .int .i64 k ∧ e = .int .i64 ev ∧ Hid (wr = (w.alloc (.cells #[.slice a1 caps.length cap1, .slice (some ⟨b, off, none⟩) paths.length cap2] 49)).drewN m) ∧ Hid ((ev = 0 ∧ R = pathsFrom caps.length (paths.drop k)) ∨ (ev ≠ 0 ∧ R = ev))) (fun _ i _ => paths.length - (intOf i).toNat)
  case atStart =>
    refine ⟨0, 0, E0, by omega, rfl, rfl, rfl, ?_⟩
    rw [← hR.out, HR.out, hE0.out]
    by_cases h : E0 = 0
    · exact .inl ⟨h, by rw [if_pos h]; rfl⟩
    · exact .inr ⟨h, by rw [if_neg h]⟩
  case round =>
    obtain ⟨k, m, ev, hk, rfl, rfl, hw, hn⟩ := hrel
    have g0 : wr.cell? ⟨w.heap.size, 0, none⟩ = some (.slice a1 caps.length cap1) := by rw [hw.out]; simp
    have g1 : wr.cell? ⟨w.heap.size, 1, none⟩ = some (.slice (some ⟨b, off, none⟩) paths.length cap2) := by rw [hw.out]; simp
    have HB : Hid (Below w.heap.size w wr) := by
      show Below w.heap.size w wr
      rw [hw.out]; exact below_drewN ((Below.refl _ _).alloc (Nat.le_refl _) _) _
    by_cases hlt : k < paths.length
    · by_cases he : ev = 0
      · have qe : (ev == 0) = true := beq_iff_eq.2 he
        obtain ⟨x, hx, hi⟩ := H.out k hlt
        have hx' : wr.cell? ⟨b, off + k, none⟩ = some x := cell_later HB.out hx
        have hi' : IntsAt Q wr x (paths.getD k []) := hi.later HB.out
        have hs := pathsFrom_cons caps.length paths k hlt
        have HN : Hid ((pathE caps.length (paths.getD k []) = 0 ∧ R = pathsFrom caps.length (paths.drop (k + 1))) ∨ (pathE caps.length (paths.getD k []) ≠ 0 ∧ R = pathE caps.length (paths.getD k []))) := by
          rcases hn.out with ⟨_, hn⟩ | ⟨h, _⟩
          · rw [hn, hs]
            by_cases h : pathE caps.length (paths.getD k []) = 0
            · exact .inl ⟨h, by rw [if_pos h]⟩
            · exact .inr ⟨h, by rw [if_neg h]⟩
          · exact absurd he h
        generalize paths.getD k [] = pk at *
        have HP : Hid (∀ n : Nat, Calls Tryd.prog 15 #[.int .i64 caps.length, x] (wr.drewN n) fun e w'' => e = .returned (.int .i64 (pathE caps.length pk)) ∧ ∃ m, w'' = (wr.drewN n).drewN m) :=
          fun n => Path_any caps.length pk x (wr.drewN n) (hi'.later (below_drewN (Below.refl _ _) n))
        obtain ⟨ai, capi, rfl, _⟩ := hi
        generalize pathE caps.length pk = ev2 at *
        clear he hs hi' hx
        go_wp2
        go_quiet ((go_at_call 15; exact Calls.quiet_of (HP.out _)))
        go_wp2
        go_roundw
        case rel => exact ⟨k + 1, m + nq, ev2, by omega, by go_num, rfl, (show _ = _ by rw [hw.out]; simp), HN⟩
        case measure => simp [intOf]; omega
      · have qe : (ev == 0) = false := beq_eq_false_iff_ne.2 he
        have HE : Hid (netE caps paths = ev) := by
          show _ = _
          rw [hR.out]
          rcases hn.out with ⟨h, _⟩ | ⟨_, h⟩
          · exact absurd h he
          · exact h
        clear he
        go_wp2
        go_ret
        exact ⟨ret_int HE.out.symm, HB.out⟩
    · have HE : Hid (netE caps paths = ev) := by
        show _ = _
        rw [hR.out]
        rcases hn.out with ⟨h, h'⟩ | ⟨_, h⟩
        · rw [h', h, List.drop_of_length_le (by omega)]; rfl
        · exact h
      go_wp2
      go_ret
      exact ⟨ret_int HE.out.symm, HB.out⟩
end Ns
end Go.Proofs.YtajihmkbnepbjajDoor
