/- Package net's checkPath and Check: what is wrong with a path, and with a net. -/
import Derived.Test.YtpnmmmlckdkcdakGreatDoorNetA
import Derived.Test.YtpnmmmlckdkcdakGreatDoorPlains
namespace Go.Proofs.YtpnmmmlckdkcdakGreatDoor
namespace Ns
open Go.RowKit Fr
set_option linter.unusedSimpArgs false
set_option linter.unusedVariables false

theorem ret_err {a b : Int} (h : a = b) : Ending.returned (errV a) = .returned (errV b) := by rw [h]
theorem ret_errv {k : Int} {v : Value} (h : v = errV k) : Ending.returned v = .returned (errV k) := by rw [h]

set_option maxHeartbeats 2000000 in
theorem checkPath_any {Q R : Nat → Prop} (caps : List Int) (paths : List (List Int)) (path : List Int) (v p : Value) (w : World) (h : NetAt Q w v caps paths) (hp : IntsAt R w p path) :
    Calls Tryz.prog 36 #[v, p] w fun e w' => e = .returned (errV (pathE caps.length path)) ∧ Below w.heap.size w w' := by
  have HN : Hid (NetAt Q w v caps paths) := h
  obtain ⟨v1, v2, rfl, h1, h2⟩ := h
  obtain ⟨a1, cap1, rfl, ⟨hm1, hn1⟩, _⟩ := h1
  obtain ⟨a2, cap2, rfl, ⟨hm2, hn2⟩, _⟩ := h2
  have hP := hp
  obtain ⟨a, cap, rfl, ⟨hm, hm3⟩, hp⟩ := hp
  by_cases h0 : path.length = 0
  · have HR : Hid (pathE caps.length path = 5) := by show _ = _; rw [pathE, if_pos h0]
    have q : ((path.length : Int) == 0) = true := by rw [h0]; rfl
    clear hp h0 hP
    go_enter Tryz.func36, Tryz.ntmps36
    go_wp2
    go_ret
    exact ⟨ret_errv (by rw [HR.out]; rfl), (Below.refl _ _).alloc (Nat.le_refl _) _⟩
  · have q : ((path.length : Int) == 0) = false := beq_eq_false_iff_ne.2 (by omega)
    have HR : Hid (pathE caps.length path = pathFrom caps.length [] path) := by show _ = _; rw [pathE, if_neg h0]
    rcases hp with rfl | ⟨b, off, rfl, hp, hQ⟩
    · exact absurd rfl h0
    obtain ⟨H⟩ : Nonempty (Hid (∀ i, i < path.length → w.cell? ⟨b, off + i, none⟩ = some (.int .i64 (path.getD i 0)))) := ⟨hp⟩
    have HQ : Hid (R b) := hQ
    clear hp h0 hP hQ
    go_enter Tryz.func36, Tryz.ntmps36
    go_wp2
    go_loopw [5, 6, 13] (fun _ _ i wr => ∃ k : Nat, k ≤ path.length ∧ i = .int .i64 k ∧ Hid (Below (w.heap.size + 1) (w.alloc (.cells #[.slice a1 caps.length cap1, .slice a2 paths.length cap2] 37)) wr) ∧ Hid (pathFrom caps.length [] path = pathFrom caps.length (path.take k) (path.drop k))) (fun _ _ i _ => path.length - (intOf i).toNat)
    case atStart => exact ⟨0, by omega, rfl, Below.refl _ _, rfl⟩
    case round =>
      obtain ⟨k, hk, rfl, hb, hn⟩ := hrel
      have g0 : wr.cell? ⟨w.heap.size, 0, none⟩ = some (.slice a1 caps.length cap1) := (hb.out.cell (p := ⟨w.heap.size, 0, none⟩) (by simp)).trans (by simp)
      have g1 : wr.cell? ⟨w.heap.size, 1, none⟩ = some (.slice a2 paths.length cap2) := (hb.out.cell (p := ⟨w.heap.size, 1, none⟩) (by simp)).trans (by simp)
      have hsz : w.heap.size + 1 ≤ wr.heap.size := by have := hb.out.size; simpa using this
      have HB : Hid (Below w.heap.size w wr) := ((Below.refl _ _).alloc (Nat.le_refl _) _).trans (hb.out.mono (by omega))
      have hkc : (k : Int) ≤ (cap : Int) := by omega
      by_cases hlt : k < path.length
      · have hc : wr.cell? ⟨b, off + k, none⟩ = some (.int .i64 (path.getD k 0)) := cell_later HB.out (H.out k hlt)
        have hs : Hid (pathFrom caps.length (path.take k) (path.drop k) = if path.getD k 0 < 0 ∨ (caps.length : Int) ≤ path.getD k 0 then 1 else if inB (path.take k) (path.getD k 0) then 7 else pathFrom caps.length (path.take (k + 1)) (path.drop (k + 1))) := by
          show _ = _
          rw [drop_cons path k hlt 0, take_snoc path k hlt 0]; rfl
        generalize path.getD k 0 = x at hc hs
        have HL : Hid (Calls Tryz.prog 68 #[.agg #[.slice a1 caps.length cap1, .slice a2 paths.length cap2], .int .i64 x] wr fun e w' => e = .returned (.bool (linkB caps.length x)) ∧ Below wr.heap.size wr w') := hasLink_any caps paths x _ wr (HN.out.later HB.out)
        have HC : Hid (∀ u : World, Below wr.heap.size wr u → Calls Tryz.prog 69 #[.slice (some ⟨b, off, none⟩) k cap, .int .i64 x] u fun e w' => e = .returned (.bool (inB (path.take k) x)) ∧ w' = u) := fun u hu =>
          Contains_any (Q := R) (path.take k) x (.slice (some ⟨b, off, none⟩) k cap) u (IntsAt.take hm hm3 (fun i hi => cell_later hu (cell_later HB.out (H.out i hi))) k hk HQ.out)
        have HBB : Hid (∀ u : World, Below wr.heap.size wr u → Below w.heap.size w u ∧ Below (w.heap.size + 1) (w.alloc (.cells #[.slice a1 caps.length cap1, .slice a2 paths.length cap2] 37)) u) := fun u hu => ⟨HB.out.trans (hu.mono (by omega)), hb.out.trans (hu.mono hsz)⟩
        cases hx : linkB caps.length x with
        | false =>
          have HE : Hid (pathE caps.length path = 1) := by
            show _ = _
            have : x < 0 ∨ (caps.length : Int) ≤ x := by simp only [linkB, Bool.and_eq_false_iff, decide_eq_false_iff_not] at hx; omega
            rw [HR.out, hn.out, hs.out, if_pos this]
          rw [hx] at HL
          clear hx
          go_wp2_with fail
          refine HL.out.mono ?_
          rintro e w1 ⟨rfl, hw1⟩
          have HW : Hid (Below wr.heap.size wr w1) := hw1
          clear hw1
          go_wp2
          go_ret
          exact ⟨ret_errv (by rw [HE.out]; rfl), (HBB.out _ HW.out).1⟩
        | true =>
          have hx' : ¬ (x < 0 ∨ (caps.length : Int) ≤ x) := by simp only [linkB, Bool.and_eq_true, decide_eq_true_eq] at hx; omega
          rw [hx] at HL
          clear hx
          cases hi : inB (path.take k) x with
          | true =>
            have HE : Hid (pathE caps.length path = 7) := by show _ = _; rw [HR.out, hn.out, hs.out, if_neg hx', if_pos hi]
            rw [hi] at HC
            clear hi hx'
            go_wp2_with fail
            refine HL.out.mono ?_
            rintro e w1 ⟨rfl, hw1⟩
            have HW : Hid (Below wr.heap.size wr w1) := hw1
            clear hw1
            go_wp2_with fail
            refine (HC.out _ HW.out).mono ?_
            rintro e w1 ⟨rfl, rfl⟩
            go_wp2
            go_ret
            exact ⟨ret_errv (by rw [HE.out]; rfl), (HBB.out _ HW.out).1⟩
          | false =>
            have HE : Hid (pathFrom caps.length [] path = pathFrom caps.length (path.take (k + 1)) (path.drop (k + 1))) := by
              show _ = _
              rw [hn.out, hs.out, if_neg hx', if_neg (by rw [hi]; decide)]
            rw [hi] at HC
            clear hi hx'
            go_wp2_with fail
            refine HL.out.mono ?_
            rintro e w1 ⟨rfl, hw1⟩
            have HW : Hid (Below wr.heap.size wr w1) := hw1
            clear hw1
            go_wp2_with fail
            refine (HC.out _ HW.out).mono ?_
            rintro e w1 ⟨rfl, rfl⟩
            go_wp2
            go_roundw
            case rel => exact ⟨k + 1, by omega, by go_num, (HBB.out _ HW.out).2, HE⟩
            case measure => simp [intOf]; omega
      · have HE : Hid (pathE caps.length path = 0) := by
          show _ = _
          rw [HR.out, hn.out, List.drop_of_length_le (by omega)]; rfl
        go_wp2
        go_ret
        exact ⟨ret_errv (by rw [HE.out]; rfl), HB.out⟩

set_option maxHeartbeats 2000000 in
theorem check_said : CheckSaid := by
  intro Q caps paths v w h
  have HN : Hid (NetAt Q w v caps paths) := h
  obtain ⟨v1, v2, rfl, h1, h2⟩ := h
  have H1 : Hid (IntsAt Q w v1 caps) := h1
  obtain ⟨a1, cap1, rfl, ⟨hm1, hn1⟩, _⟩ := h1
  obtain ⟨a2, cap2, rfl, ⟨hm2, hn2⟩, h2⟩ := h2
  by_cases c0 : caps.length = 0
  · have HR : Hid (netE caps paths = 5) := by show _ = _; rw [netE, if_pos (.inl c0)]
    have q : ((caps.length : Int) == 0) = true := by rw [c0]; rfl
    clear h2 c0
    go_enter Tryz.func18, Tryz.ntmps18
    go_wp2
    go_ret
    exact ⟨ret_errv (by rw [HR.out]; rfl), (Below.refl _ _).alloc (Nat.le_refl _) _⟩
  have q : ((caps.length : Int) == 0) = false := beq_eq_false_iff_ne.2 (by omega)
  by_cases p0 : paths.length = 0
  · have HR : Hid (netE caps paths = 5) := by show _ = _; rw [netE, if_pos (.inr p0)]
    have q2 : ((paths.length : Int) == 0) = true := by rw [p0]; rfl
    clear h2 c0 p0
    go_enter Tryz.func18, Tryz.ntmps18
    go_wp2
    go_ret
    exact ⟨ret_errv (by rw [HR.out]; rfl), (Below.refl _ _).alloc (Nat.le_refl _) _⟩
  have q2 : ((paths.length : Int) == 0) = false := beq_eq_false_iff_ne.2 (by omega)
  by_cases c6 : 6 < caps.length
  · have HR : Hid (netE caps paths = 4) := by show _ = _; rw [netE, if_neg (by omega), if_pos (.inl c6)]
    have q6 : (6 : Int) < (caps.length : Int) := by omega
    clear h2 c0 p0
    go_enter Tryz.func18, Tryz.ntmps18
    go_wp2
    go_ret
    exact ⟨ret_errv (by rw [HR.out]; rfl), (Below.refl _ _).alloc (Nat.le_refl _) _⟩
  by_cases p6 : 6 < paths.length
  · have HR : Hid (netE caps paths = 4) := by show _ = _; rw [netE, if_neg (by omega), if_pos (.inr p6)]
    have q6 : ¬ (6 : Int) < (caps.length : Int) := by omega
    have q6' : decide ((6 : Int) < (paths.length : Int)) = true := by simp; omega
    clear h2 c0 p0
    go_enter Tryz.func18, Tryz.ntmps18
    go_wp2
    go_ret
    exact ⟨ret_errv (by rw [HR.out]; rfl), (Below.refl _ _).alloc (Nat.le_refl _) _⟩
  have q6 : ¬ (6 : Int) < (caps.length : Int) := by omega
  have q6' : decide ((6 : Int) < (paths.length : Int)) = false := by simp; omega
  have HR : Hid (netE caps paths = if anyBad caps then 1 else pathsFrom caps.length paths) := by
    show _ = _
    have : linksE caps = if anyBad caps then 1 else 0 := by rw [linksE, if_neg c0, if_neg c6, capsFrom_bad]
    rw [netE, if_neg (by omega), if_neg (by omega), this]
    cases anyBad caps <;> simp
  rcases h2 with rfl | ⟨b, off, rfl, h2, hQ⟩
  · exact absurd rfl p0
  obtain ⟨H⟩ : Nonempty (Hid (∀ i, i < paths.length → ∃ x, w.cell? ⟨b, off + i, none⟩ = some x ∧ IntsAt Q w x (paths.getD i []))) := ⟨h2⟩
  have HC : Hid (∀ u : World, Below w.heap.size w u → Calls Tryz.prog 34 #[.slice a1 caps.length cap1, .func (.func 35) #[] #[]] u fun e w' => e = .returned (.bool (anyBad caps)) ∧ ∃ m, w' = u.drewN m) := fun u hu =>
    ContainsFunc_any caps _ u (H1.out.later hu)
  clear h2 c0 p0 c6 p6
  cases hb : anyBad caps with
  | true =>
    rw [hb] at HR HC
    go_enter Tryz.func18, Tryz.ntmps18
    go_wp2_with fail
    refine (HC.out _ ((Below.refl _ _).alloc (Nat.le_refl _) _)).mono ?_
    rintro e w1 ⟨rfl, m, rfl⟩
    go_wp2
    go_ret
    exact ⟨ret_errv (by rw [HR.out]; rfl), below_drewN ((Below.refl _ _).alloc (Nat.le_refl _) _) _⟩
  | false =>
    rw [hb] at HR HC
    replace HR : Hid (netE caps paths = pathsFrom caps.length paths) := HR.out
    go_enter Tryz.func18, Tryz.ntmps18
    go_wp2_with fail
    refine (HC.out _ ((Below.refl _ _).alloc (Nat.le_refl _) _)).mono ?_
    rintro e w1 ⟨rfl, m, rfl⟩
    go_wp2
    go_loopw [4, 5, 35] (fun _ _ i wr => ∃ k : Nat, k ≤ paths.length ∧ i = .int .i64 k ∧ Hid (Below (w.heap.size + 1) (w.alloc (.cells #[.slice a1 caps.length cap1, .slice (some ⟨b, off, none⟩) paths.length cap2] 37)) wr) ∧ Hid (netE caps paths = pathsFrom caps.length (paths.drop k))) (fun _ _ i _ => paths.length - (intOf i).toNat)
    case atStart => exact ⟨0, by omega, rfl, below_drewN (Below.refl _ _) _, HR.out⟩
    case round =>
      obtain ⟨k, hk, rfl, hb, hn⟩ := hrel
      have g0 : wr.cell? ⟨w.heap.size, 0, none⟩ = some (.slice a1 caps.length cap1) := (hb.out.cell (p := ⟨w.heap.size, 0, none⟩) (by simp)).trans (by simp)
      have g1 : wr.cell? ⟨w.heap.size, 1, none⟩ = some (.slice (some ⟨b, off, none⟩) paths.length cap2) := (hb.out.cell (p := ⟨w.heap.size, 1, none⟩) (by simp)).trans (by simp)
      have hsz : w.heap.size + 1 ≤ wr.heap.size := by have := hb.out.size; simpa using this
      have HB : Hid (Below w.heap.size w wr) := ((Below.refl _ _).alloc (Nat.le_refl _) _).trans (hb.out.mono (by omega))
      have HBB : Hid (∀ u : World, Below wr.heap.size wr u → Below w.heap.size w u ∧ Below (w.heap.size + 1) (w.alloc (.cells #[.slice a1 caps.length cap1, .slice (some ⟨b, off, none⟩) paths.length cap2] 37)) u) := fun u hu => ⟨HB.out.trans (hu.mono (by omega)), hb.out.trans (hu.mono hsz)⟩
      by_cases hlt : k < paths.length
      · obtain ⟨x, hx, hi⟩ := H.out k hlt
        have hx' : wr.cell? ⟨b, off + k, none⟩ = some x := cell_later HB.out hx
        have hs := pathsFrom_cons caps.length paths k hlt
        have HP : Hid (Calls Tryz.prog 36 #[.agg #[.slice a1 caps.length cap1, .slice (some ⟨b, off, none⟩) paths.length cap2], x] wr fun e w' => e = .returned (errV (pathE caps.length (paths.getD k []))) ∧ Below wr.heap.size wr w') :=
          checkPath_any caps paths (paths.getD k []) _ x wr (HN.out.later HB.out) (hi.later HB.out)
        obtain ⟨ai, capi, rfl, _⟩ := hi
        generalize paths.getD k [] = pk at *
        by_cases he : pathE caps.length pk = 0
        · have HE : Hid (netE caps paths = pathsFrom caps.length (paths.drop (k + 1))) := by show _ = _; rw [hn.out, hs, if_pos he]
          rw [he, errV_0] at HP
          clear he hs hx
          go_wp2_with fail
          refine HP.out.mono ?_
          rintro e w1 ⟨rfl, hw1⟩
          have HW : Hid (Below wr.heap.size wr w1) := hw1
          clear hw1
          go_wp2
          go_roundw
          case rel => exact ⟨k + 1, by omega, by go_num, (HBB.out _ HW.out).2, HE⟩
          case measure => simp [intOf]; omega
        · have HE : Hid (netE caps paths = pathE caps.length pk) := by show _ = _; rw [hn.out, hs, if_neg he]
          have HV : Hid (errV (pathE caps.length pk) = .iface 65 (.int .i64 (pathE caps.length pk))) := errV_ne he
          rw [HV.out] at HP
          generalize pathE caps.length pk = ek at *
          clear he hs hx
          go_wp2_with fail
          refine HP.out.mono ?_
          rintro e w1 ⟨rfl, hw1⟩
          have HW : Hid (Below wr.heap.size wr w1) := hw1
          clear hw1
          go_wp2
          go_ret
          exact ⟨ret_errv (by rw [HE.out, HV.out]; rfl), (HBB.out _ HW.out).1⟩
      · have HE : Hid (netE caps paths = 0) := by
          show _ = _
          rw [hn.out, List.drop_of_length_le (by omega)]; rfl
        go_wp2
        go_ret
        exact ⟨ret_errv (by rw [HE.out]; rfl), HB.out⟩
end Ns
end Go.Proofs.YtpnmmmlckdkcdakGreatDoor
