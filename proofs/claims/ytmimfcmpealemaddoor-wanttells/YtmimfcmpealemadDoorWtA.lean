/- Package want's check: its closure, the library's IndexFunc and ContainsFunc with it, and what check tells. -/
import Derived.Test.YtmimfcmpealemadDoorNetB
import Derived.Test.YtmimfcmpealemadDoorPlains
namespace Go.Proofs.YtmimfcmpealemadDoor
namespace Fl
open Go.RowKit Fr Ns Ld
set_option linter.unusedSimpArgs false
set_option linter.unusedVariables false

theorem wbad_any (x : Int) (w : World) :
    Calls Tryd.prog 49 #[.int .i64 x] w fun e w' => e = .returned (.bool (badC x)) ∧ w' = w := by
  have HR : Hid (badC x = (decide (x < 1) || decide (1000 < x))) := rfl
  by_cases h1 : x < 1
  · go_enter Tryd.func49, Tryd.ntmps49
    go_wp2
    go_ret
    exact ⟨ret_bool (by rw [HR.out]; simp [h1]; try omega), rfl⟩
  · go_enter Tryd.func49, Tryd.ntmps49
    go_wp2
    go_ret
    exact ⟨ret_bool (by rw [HR.out]; simp [h1]; try omega), rfl⟩

set_option maxHeartbeats 400000 in
theorem WIndexFunc_any {Q : Nat → Prop} (l : List Int) (v : Value) (w : World) (h : IntsAt Q w v l) :
    Calls Tryd.prog 62 #[v, .func (.func 49) #[] #[]] w fun e w' => ∃ j : Int, e = .returned (.int .i64 j) ∧ decide (0 ≤ j) = anyBad l ∧ ∃ m, w' = w.drewN m := by
  obtain ⟨a, cap, rfl, ⟨hm, hm2⟩, h⟩ := h
  rcases h with rfl | ⟨b, off, rfl, h, hQ⟩
  · go_enter Tryd.func62, Tryd.ntmps62
    go_wp2
    go_loop [5, 8] (fun _ i => i = .int .i64 0) (fun _ _ => 0)
    case atStart => rfl
    case round =>
      subst hrel
      go_wp2
      go_ret
      exact ⟨_, rfl, rfl, 0, rfl⟩
  · obtain ⟨H⟩ : Nonempty (Hid (∀ i, i < l.length → w.cell? ⟨b, off + i, none⟩ = some (.int .i64 (l.getD i 0)))) := ⟨h⟩
    clear h
    go_enter Tryd.func62, Tryd.ntmps62
    go_wp2
    go_loopw [5, 8] (fun _ i wr => ∃ k m : Nat, k ≤ l.length ∧ i = .int .i64 k ∧ Hid (wr = w.drewN m) ∧ Hid (anyBad (l.take k) = false)) (fun _ i _ => l.length - (intOf i).toNat)
    case atStart => exact ⟨0, 0, by omega, rfl, rfl, rfl⟩
    case round =>
      obtain ⟨k, m, hk, rfl, hw, hn⟩ := hrel
      by_cases hlt : k < l.length
      · have hc : wr.cell? ⟨b, off + k, none⟩ = some (.int .i64 (l.getD k 0)) := by rw [hw.out]; exact H.out k hlt
        have hs : Hid (anyBad (l.take (k + 1)) = (anyBad (l.take k) || badC (l.getD k 0))) := by show _ = _; rw [take_snoc l k hlt 0, anyBad_snoc]
        have hme : Hid (l.getD k 0 ∈ l) := getD_mem l k hlt 0
        generalize l.getD k 0 = x at hc hs hme
        have HC : Hid (∀ u : World, Calls Tryd.prog 49 #[.int .i64 x] u fun e w' => e = .returned (.bool (badC x)) ∧ w' = u) := fun u => wbad_any x u
        cases hx : badC x with
        | true =>
          have HR : Hid (anyBad l = true) := anyBad_mem hme.out hx
          rw [hx] at HC
          clear hx
          go_wp2_with fail
          refine (HC.out _).mono ?_
          rintro e w' ⟨rfl, rfl⟩
          go_wp2
          go_ret
          exact ⟨_, rfl, by rw [HR.out]; simp, m, hw.out⟩
        | false =>
          have HR : Hid (anyBad (l.take (k + 1)) = false) := by show _ = _; rw [hs.out, hn.out, hx]; rfl
          rw [hx] at HC
          clear hx
          go_wp2_with fail
          refine (HC.out _).mono ?_
          rintro e w' ⟨rfl, rfl⟩
          go_wp2
          go_roundw
          case rel => exact ⟨k + 1, m, by omega, by go_num, hw, HR⟩
          case measure => simp [intOf]; omega
      · go_wp2
        go_ret
        refine ⟨_, rfl, ?_, m, hw.out⟩
        have := hn.out
        rw [List.take_of_length_le (by omega)] at this
        rw [this]
        rfl

theorem WContainsFunc_any {Q : Nat → Prop} (l : List Int) (v : Value) (w : World) (h : IntsAt Q w v l) :
    Calls Tryd.prog 48 #[v, .func (.func 49) #[] #[]] w fun e w' => e = .returned (.bool (anyBad l)) ∧ ∃ m, w' = w.drewN m := by
  have HI : Hid (Calls Tryd.prog 62 #[v, .func (.func 49) #[] #[]] w fun e w' => ∃ j : Int, e = .returned (.int .i64 j) ∧ decide (0 ≤ j) = anyBad l ∧ ∃ m, w' = w.drewN m) := WIndexFunc_any l v w h
  obtain ⟨a, cap, rfl, _⟩ := h
  go_enter Tryd.func48, Tryd.ntmps48
  go_wp2_with fail
  refine HI.out.mono ?_
  rintro e w' ⟨j, rfl, hj, m, rfl⟩
  have HJ : Hid (decide (0 ≤ j) = anyBad l) := hj
  clear hj
  go_wp2
  go_ret
  exact ⟨ret_bool HJ.out, m, rfl⟩


theorem all_want (l : List Int) : l.all wantB = !anyBad l := by
  induction l with
  | nil => rfl
  | cons x r ih =>
    simp only [List.all_cons, ih, anyBad, List.any_cons, Bool.not_or]
    congr 1
    unfold wantB badC
    by_cases h1 : 1 ≤ x <;> by_cases h2 : x ≤ 1000 <;> simp [h1, h2] <;> omega

set_option maxRecDepth 100000 in
set_option maxHeartbeats 2000000 in
theorem wcheck_any {Q R : Nat → Prop} (caps : List Int) (paths : List (List Int)) (want : List Int) (v x : Value) (w : World) (h : NetAt Q w v caps paths) (hx : IntsAt R w x want) :
    Calls Tryd.prog 21 #[v, x] w fun e w' => e = .returned (errV (wantE caps paths want)) ∧ Below w.heap.size w w' := by
  have HCk : Hid (∀ u, Below w.heap.size w u → Calls Tryd.prog 47 #[v] u fun e w' => e = .returned (errV (netE caps paths)) ∧ Below u.heap.size u w') := fun u hu => check_said Q caps paths v u (h.later hu)
  have HCo : Hid (∀ u : World, Below w.heap.size w u → Calls Tryd.prog 48 #[x, .func (.func 49) #[] #[]] u fun e w' => e = .returned (.bool (anyBad want)) ∧ ∃ m, w' = u.drewN m) := fun u hu => WContainsFunc_any want _ u (hx.later hu)
  obtain ⟨v1, v2, rfl, h1, h2⟩ := h
  obtain ⟨a1, cap1, rfl, ⟨hm1, hn1⟩, _⟩ := h1
  obtain ⟨a2, cap2, rfl, ⟨hm2, hn2⟩, _⟩ := h2
  obtain ⟨a3, cap3, rfl, ⟨hm3, hn3⟩, _⟩ := hx
  by_cases hk : netE caps paths = 0
  · rw [hk, errV_0] at HCk
    by_cases hl : want.length = paths.length
    · have HE : Hid (wantE caps paths want = if anyBad want then 1 else 0) := by
        show _ = _
        rw [wantE, if_pos hk, if_pos hl, all_want]
        cases anyBad want <;> rfl
      have q : ((want.length : Int) == (paths.length : Int)) = true := by rw [hl]; simp
      have Hl : Hid (want.length = paths.length) := hl
      clear hk hl
      cases hb : anyBad want with
      | true =>
        rw [hb] at HE HCo
        clear hb
        go_enter Tryd.func21, Tryd.ntmps21
        go_wp2_with fail
        refine (HCk.out _ ((Below.refl _ _).alloc (Nat.le_refl _) _)).mono ?_
        rintro e w1 ⟨rfl, hw1⟩
        have g1 : w1.cell? ⟨w.heap.size, 1, none⟩ = some (.slice a2 paths.length cap2) := cell_later hw1 (by simp)
        have HB : Hid (Below w.heap.size w w1) := ((Below.refl _ _).alloc (Nat.le_refl _) _).trans (hw1.mono (by simp))
        clear hw1
        go_wp2_with fail
        refine (HCo.out _ HB.out).mono ?_
        rintro e w2 ⟨rfl, m, rfl⟩
        go_wp2
        go_ret
        exact ⟨ret_errv (by rw [HE.out]; rfl), below_drewN HB.out _⟩
      | false =>
        rw [hb] at HE HCo
        clear hb
        go_enter Tryd.func21, Tryd.ntmps21
        go_wp2_with fail
        refine (HCk.out _ ((Below.refl _ _).alloc (Nat.le_refl _) _)).mono ?_
        rintro e w1 ⟨rfl, hw1⟩
        have g1 : w1.cell? ⟨w.heap.size, 1, none⟩ = some (.slice a2 paths.length cap2) := cell_later hw1 (by simp)
        have HB : Hid (Below w.heap.size w w1) := ((Below.refl _ _).alloc (Nat.le_refl _) _).trans (hw1.mono (by simp))
        clear hw1
        go_wp2_with fail
        refine (HCo.out _ HB.out).mono ?_
        rintro e w2 ⟨rfl, m, rfl⟩
        go_wp2
        go_ret
        exact ⟨ret_errv (by rw [HE.out]; rfl), below_drewN HB.out _⟩
    · have HE : Hid (wantE caps paths want = 3) := by
        show _ = _
        rw [wantE, if_pos hk, if_neg hl]
      have q : ((want.length : Int) == (paths.length : Int)) = false := beq_eq_false_iff_ne.2 (by omega)
      clear hk hl
      go_enter Tryd.func21, Tryd.ntmps21
      go_wp2_with fail
      refine (HCk.out _ ((Below.refl _ _).alloc (Nat.le_refl _) _)).mono ?_
      rintro e w1 ⟨rfl, hw1⟩
      have g1 : w1.cell? ⟨w.heap.size, 1, none⟩ = some (.slice a2 paths.length cap2) := cell_later hw1 (by simp)
      have HB : Hid (Below w.heap.size w w1) := ((Below.refl _ _).alloc (Nat.le_refl _) _).trans (hw1.mono (by simp))
      clear hw1
      go_wp2
      go_ret
      exact ⟨ret_errv (by rw [HE.out]; rfl), HB.out⟩
  · have HE : Hid (wantE caps paths want = netE caps paths) := by
      show _ = _
      rw [wantE, if_neg hk]
    have HV : Hid (errV (netE caps paths) = .iface 57 (.int .i64 (netE caps paths))) := errV_ne hk
    rw [HV.out] at HCk
    generalize netE caps paths = ek at *
    clear hk
    go_enter Tryd.func21, Tryd.ntmps21
    go_wp2_with fail
    refine (HCk.out _ ((Below.refl _ _).alloc (Nat.le_refl _) _)).mono ?_
    rintro e w1 ⟨rfl, hw1⟩
    have HB : Hid (Below w.heap.size w w1) := ((Below.refl _ _).alloc (Nat.le_refl _) _).trans (hw1.mono (by simp))
    clear hw1
    go_wp2
    go_ret
    exact ⟨ret_errv (by rw [HE.out, HV.out]; rfl), HB.out⟩
end Fl
end Go.Proofs.YtmimfcmpealemadDoor
