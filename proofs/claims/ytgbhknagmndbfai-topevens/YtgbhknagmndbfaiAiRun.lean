/- Package aimd's run: so many ticks, one behind the other. -/
import Derived.Test.YtgbhknagmndbfaiAiB
import Derived.Test.YtgbhknagmndbfaiCloneI
namespace Go.Proofs.Ytgbhknagmndbfai
namespace Ev
open Go.RowKit Fr Ns Ld Fl
set_option linter.unusedSimpArgs false
set_option linter.unusedVariables false

theorem nil_intsA {Q : Nat → Prop} (w : World) : IntsAt Q w (.slice none 0 0) [] := ⟨none, 0, rfl, ⟨Nat.le_refl _, by simp⟩, .inl rfl⟩
/-- what run hands out: shares, cuts and a fault -/
def RunOut (l : List Int) (limit up ticks : Int) (w w' : World) (e : Ending) : Prop := ∃ y, e = .returned (.tuple #[y, .int .i64 (okI (runE l limit up ticks) (runC l limit up ticks : Int)), errV (runE l limit up ticks)]) ∧
    IntsAt (fun b => w.heap.size ≤ b) w' y (okL (runE l limit up ticks) (runL l limit up ticks)) ∧ Below w.heap.size w w'
theorem out_bad {l : List Int} {limit up ticks k : Int} {w w' : World} (h : runE l limit up ticks = k) (hk : k ≠ 0) (hb : Below w.heap.size w w') : RunOut l limit up ticks w w' (.returned (.tuple #[.slice none 0 0, .int .i64 0, errV k])) := by
  refine ⟨.slice none 0 0, ?_, ?_, hb⟩
  · rw [h, okI_ne hk]
  · rw [h, okL, if_neg hk]; exact nil_intsA _
theorem out_good {l : List Int} {limit up ticks : Int} {x : List Int} {c : Nat} {y : Value} {w w' : World} (h : runE l limit up ticks = 0) (hl : runL l limit up ticks = x) (hc : runC l limit up ticks = c) (hy : IntsAt (fun b => w.heap.size ≤ b) w' y x) (hb : Below w.heap.size w w') : RunOut l limit up ticks w w' (.returned (.tuple #[y, .int .i64 c, .nilIface])) := by
  refine ⟨y, ?_, ?_, hb⟩
  · rw [h, okI_0, hc]; rfl
  · rw [h, okL, if_pos rfl, hl]; exact hy

set_option maxRecDepth 100000 in
set_option maxHeartbeats 4000000 in
theorem arun_any {Q : Nat → Prop} (l : List Int) (limit up ticks : Int) (v : Value) (w : World) (h : IntsAt Q w v l) :
    Calls Try.prog 17 #[v, .int .i64 limit, .int .i64 up, .int .i64 ticks] w fun e w' => RunOut l limit up ticks w w' e := by
  have HK : Hid (Calls Try.prog 29 #[v, .int .i64 limit, .int .i64 up] w fun e w' => e = .returned (errV (chkE l limit up)) ∧ Below w.heap.size w w') := drawn (acheck_any l limit up v w h)
  by_cases ht : ticks < 0 ∨ 60 < ticks
  · have HE : Hid (runE l limit up ticks = 1) := by show _ = _; rw [runE, if_pos ht]
    obtain ⟨a, cap, rfl, ⟨hm, hm2⟩, _⟩ := h
    by_cases h0 : ticks < 0
    · clear ht
      go_enter Try.func17, Try.ntmps17
      go_wp2
      exact bodyPost_ret (v := .tuple #[.slice none 0 0, .int .i64 0, .iface 54 (.int .i64 1)]) (by simp [results, Try.results17, go_sem]) rfl (out_bad HE.out (by decide) (Below.refl _ _))
    · have h1 : 60 < ticks := by omega
      clear ht
      go_enter Try.func17, Try.ntmps17
      go_wp2
      exact bodyPost_ret (v := .tuple #[.slice none 0 0, .int .i64 0, .iface 54 (.int .i64 1)]) (by simp [results, Try.results17, go_sem]) rfl (out_bad HE.out (by decide) (Below.refl _ _))
  · have t0 : ¬ ticks < 0 := by omega
    have t1 : ¬ 60 < ticks := by omega
    by_cases hk : chkE l limit up = 0
    · obtain ⟨hf, hkn⟩ := chkE_0.1 hk
      obtain ⟨n1, n6, hb⟩ := few_0.1 hf
      obtain ⟨k1, k2, k3, k4⟩ := knobs_iff.1 hkn
      rw [hk, errV_0] at HK
      obtain ⟨K, rfl⟩ : ∃ K : Nat, ticks = K := ⟨ticks.toNat, by omega⟩
      have HCl : Hid (∀ u, Below w.heap.size w u → Calls Try.prog 30 #[v] u fun e w' => ∃ x, e = .returned x ∧ OwnInts u.heap.size w' x l ∧ Below u.heap.size u w') := fun u hu => CloneE_ints l v u (h.later hu) n1 (by omega)
      have HS0 : Hid (stAt l limit up 0 = some (l, 0)) := rfl
      have HRan : Hid (∀ k x c, stAt l limit up k = some (x, c) → x.length = l.length ∧ few x 10000 = 0) := fun k x c hs => by
        have := ran hf hkn k x c hs
        exact ⟨this.len, this.few⟩
      have HTg : Hid (∀ (x : List Int) (g c : Nat) (sp : List Value) (u : World), few x 10000 = 0 → x.length = l.length → l.length ≤ c → RowAt u g 3 (x.map (Value.int .i64) ++ sp) → Calls Try.prog 31 #[.slice (some ⟨g, 0, none⟩) l.length c] u fun e w' => e = .returned (.int .i64 (tot x)) ∧ w' = u) := fun x g c sp u hx hl hc hr => by
        obtain ⟨m1, m6, mb⟩ := few_0.1 hx
        have := atogether_any (Q := fun _ => True) x (.slice (some ⟨g, 0, none⟩) x.length c) u (intsRow hr (by omega) (by omega) trivial) m6 mb
        rw [hl] at this
        exact this
      have HHv : Hid (∀ (x : List Int) (g c : Nat) (sp : List Value) (u : World), few x 10000 = 0 → x.length = l.length → l.length ≤ c → w.heap.size ≤ g → RowAt u g 3 (x.map (Value.int .i64) ++ sp) → Calls Try.prog 32 #[.slice (some ⟨g, 0, none⟩) l.length c] u fun e w' => e = .returned (.tuple #[]) ∧ RowAt w' g 3 ((x.map (· / 2)).map (Value.int .i64) ++ sp) ∧ Below w.heap.size u w') := fun x g c sp u hx hl hc hg hr => by
        obtain ⟨m1, m6, mb⟩ := few_0.1 hx
        have := ahalve_any x w.heap.size g c sp u hr hg (by omega) m6 mb
        rw [hl] at this
        exact this
      have HRs : Hid (∀ (x : List Int) (g c : Nat) (sp : List Value) (u : World), few x 10000 = 0 → x.length = l.length → l.length ≤ c → w.heap.size ≤ g → RowAt u g 3 (x.map (Value.int .i64) ++ sp) → Calls Try.prog 33 #[.slice (some ⟨g, 0, none⟩) l.length c, .int .i64 up] u fun e w' => e = .returned (errV (upE x up)) ∧ UpRow x up w' g sp ∧ Below w.heap.size u w') := fun x g c sp u hx hl hc hg hr => by
        obtain ⟨m1, m6, mb⟩ := few_0.1 hx
        have := araise_any x up w.heap.size g c sp u hr hg (by omega) m6 mb k3 k4
        rw [hl] at this
        exact this
      have HCut : Hid (∀ k x c, stAt l limit up k = some (x, c) → few x 10000 = 0 → limit < tot x → stAt l limit up (k + 1) = some (x.map (· / 2), c + 1)) := fun k x c hs hx hd => by rw [stAt_up hs, step_cut hx hkn hd]
      have HUp : Hid (∀ k x c, stAt l limit up k = some (x, c) → few x 10000 = 0 → ¬ limit < tot x → x.any (over up) = false → stAt l limit up (k + 1) = some (x.map (· + up), c)) := fun k x c hs hx hd ha => by rw [stAt_up hs, step_up hx hkn hd ha]
      have HFell : Hid (∀ k x c, k < K → stAt l limit up k = some (x, c) → few x 10000 = 0 → ¬ limit < tot x → x.any (over up) = true → runE l limit up (K : Int) = 4) := fun k x c hkK hs hx hd ha => run_fell (by omega) hf hkn (stAt_none (by omega : k + 1 ≤ K) (by rw [stAt_up hs, step_full hx hkn hd ha]))
      have HEnd : Hid (∀ x c, stAt l limit up K = some (x, c) → runE l limit up (K : Int) = 0 ∧ runL l limit up (K : Int) = x ∧ runC l limit up (K : Int) = c) := fun x c hs => run_end (by omega) hf hkn hs
      have Hn6 : Hid (l.length ≤ 6) := n6
      have HCk : Hid (∀ k x c, stAt l limit up k = some (x, c) → c ≤ k) := fun k x c hs => (ran hf hkn k x c hs).cuts
      obtain ⟨a, cap, rfl, ⟨hm, hm2⟩, _⟩ := h
      clear hk hf hkn hb ht
      go_enter Try.func17, Try.ntmps17
      go_wp2_with fail
      refine HK.out.mono ?_
      rintro e w1 ⟨rfl, hw1⟩
      have B1 : Hid (Below w.heap.size w w1) := hw1
      clear hw1
      go_wp2_with fail
      refine (HCl.out _ B1.out).mono ?_
      rintro e w2 ⟨sv, rfl, ⟨g, c, sp, rfl, hc, hg, hr⟩, hw2⟩
      have B2 : Hid (Below w.heap.size w w2) := Bel.call B1.out (Nat.le_refl _) hw2
      have hg' : w.heap.size ≤ g := Nat.le_trans B1.out.size hg
      have R2 : Hid (RowAt w2 g 3 (l.map (Value.int .i64) ++ sp)) := hr
      clear hw2 hg hr B1
      go_wp2
      go_loopw [13, 14, 32] (fun s13 _ s32 wr => ∃ (k : Nat) (x : List Int) (n : Nat), k ≤ K ∧ s32 = .int .i64 k ∧ s13 = .int .i64 n ∧ Hid (stAt l limit up k = some (x, n)) ∧ Hid (RowAt wr g 3 (x.map (Value.int .i64) ++ sp)) ∧ Hid (Below w.heap.size w wr)) (fun _ _ s32 _ => K - (intOf s32).toNat)
      case atStart => exact ⟨0, l, 0, by omega, rfl, rfl, HS0, R2, B2⟩
      case round =>
        clear R2 B2
        obtain ⟨k, x, n, hkK, rfl, rfl, hs, hr, hbl⟩ := hrel
        obtain ⟨hxl, hxf⟩ := HRan.out _ _ _ hs.out
        have Hxl : Hid (x.length = l.length) := hxl
        have Hxf : Hid (few x 10000 = 0) := hxf
        have hnk := HCk.out _ _ _ hs.out
        clear hxl hxf
        by_cases hlt : k < K
        · have HT := (show Hid (Calls Try.prog 31 #[.slice (some ⟨g, 0, none⟩) l.length c] wr fun e w' => e = .returned (.int .i64 (tot x)) ∧ w' = wr) from HTg.out x g c sp wr Hxf.out Hxl.out hc hr.out)
          by_cases hd : limit < tot x
          · have HH : Hid (Calls Try.prog 32 #[.slice (some ⟨g, 0, none⟩) l.length c] wr fun e w' => e = .returned (.tuple #[]) ∧ RowAt w' g 3 ((x.map (· / 2)).map (Value.int .i64) ++ sp) ∧ Below w.heap.size wr w') := HHv.out x g c sp wr Hxf.out Hxl.out hc hg' hr.out
            have HN : Hid (stAt l limit up (k + 1) = some (x.map (· / 2), n + 1)) := HCut.out _ _ _ hs.out Hxf.out hd
            generalize tot x = tx at *
            go_wp2_with fail
            refine HT.out.mono ?_
            rintro e w3 ⟨rfl, rfl⟩
            go_wp2_with fail
            refine HH.out.mono ?_
            rintro e w4 ⟨rfl, hr4, hb4⟩
            have R4 : Hid (RowAt w4 g 3 ((x.map (· / 2)).map (Value.int .i64) ++ sp)) := hr4
            have B4 : Hid (Below w.heap.size w w4) := hbl.out.trans hb4
            clear hr4 hb4
            go_wp2
            go_roundw
            case rel => exact ⟨k + 1, x.map (· / 2), n + 1, by omega, by go_num, by go_num, HN, R4, B4⟩
            case measure => simp [intOf]; omega
          · have HR : Hid (Calls Try.prog 33 #[.slice (some ⟨g, 0, none⟩) l.length c, .int .i64 up] wr fun e w' => e = .returned (errV (upE x up)) ∧ UpRow x up w' g sp ∧ Below w.heap.size wr w') := HRs.out x g c sp wr Hxf.out Hxl.out hc hg' hr.out
            cases ha : x.any (over up) with
            | true =>
              have HE : Hid (runE l limit up (K : Int) = 4) := HFell.out k x n hlt hs.out Hxf.out (by omega) ha
              have hu : upE x up = 4 := by rw [upE, if_pos ha]
              rw [hu] at HR
              clear ha hu
              generalize tot x = tx at *
              go_wp2_with fail
              refine HT.out.mono ?_
              rintro e w3 ⟨rfl, rfl⟩
              go_wp2_with fail
              refine HR.out.mono ?_
              rintro e w4 ⟨rfl, _, hb4⟩
              have B4 : Hid (Below w.heap.size w w4) := hbl.out.trans hb4
              clear hb4
              rw [show errV 4 = Value.iface 54 (.int .i64 4) from rfl]
              go_wp2
              exact bodyPost_ret (v := .tuple #[.slice none 0 0, .int .i64 0, .iface 54 (.int .i64 4)]) (by simp [results, Try.results17, go_sem]) rfl (out_bad HE.out (by decide) B4.out)
            | false =>
              have HN : Hid (stAt l limit up (k + 1) = some (x.map (· + up), n)) := HUp.out _ _ _ hs.out Hxf.out (by omega) ha
              have hu : upE x up = 0 := by rw [upE, if_neg (by rw [ha]; decide)]
              have HA : Hid (x.any (over up) = false) := ha
              rw [hu, errV_0] at HR
              clear ha hu
              generalize tot x = tx at *
              go_wp2_with fail
              refine HT.out.mono ?_
              rintro e w3 ⟨rfl, rfl⟩
              go_wp2_with fail
              refine HR.out.mono ?_
              rintro e w4 ⟨rfl, hr4, hb4⟩
              have R4 : Hid (RowAt w4 g 3 ((x.map (· + up)).map (Value.int .i64) ++ sp)) := hr4 HA.out
              have B4 : Hid (Below w.heap.size w w4) := hbl.out.trans hb4
              clear hr4 hb4
              go_wp2
              go_roundw
              case rel => exact ⟨k + 1, x.map (· + up), n, by omega, by go_num, by go_num, HN, R4, B4⟩
              case measure => simp [intOf]; omega
        · obtain rfl : k = K := by omega
          obtain ⟨e1, e2, e3⟩ := HEnd.out _ _ hs.out
          have HE1 : Hid (runE l limit up (k : Int) = 0) := e1
          have HE2 : Hid (runL l limit up (k : Int) = x) := e2
          have HE3 : Hid (runC l limit up (k : Int) = n) := e3
          have HV : Hid (IntsAt (fun b => w.heap.size ≤ b) wr (.slice (some ⟨g, 0, none⟩) l.length c) x) := by
            have h6 := Hn6.out
            have := intsRow (Q := fun b => w.heap.size ≤ b) hr.out (by rw [Hxl.out]; exact hc) (by rw [Hxl.out]; omega) hg'
            rw [Hxl.out] at this
            exact this
          clear e1 e2 e3
          go_wp2
          exact bodyPost_ret (v := .tuple #[.slice (some ⟨g, 0, none⟩) l.length c, .int .i64 n, .nilIface]) (by simp [results, Try.results17, go_sem]) rfl (out_good HE1.out HE2.out HE3.out HV.out hbl.out)
    · have HV : Hid (errV (chkE l limit up) = .iface 54 (.int .i64 (chkE l limit up))) := errV_ne hk
      have HE : Hid (runE l limit up ticks = chkE l limit up) := runE_ne ht hk
      have Hk : Hid (chkE l limit up ≠ 0) := hk
      have HO : Hid (∀ w', Below w.heap.size w w' → RunOut l limit up ticks w w' (.returned (.tuple #[.slice none 0 0, .int .i64 0, .iface 54 (.int .i64 (chkE l limit up))]))) := fun w' hb => by
        rw [← HV.out]
        exact out_bad HE.out Hk.out hb
      rw [HV.out] at HK
      clear hk ht HE HV Hk
      generalize chkE l limit up = ek at *
      obtain ⟨a, cap, rfl, ⟨hm, hm2⟩, _⟩ := h
      go_enter Try.func17, Try.ntmps17
      go_wp2_with fail
      refine HK.out.mono ?_
      rintro e w1 ⟨rfl, hw1⟩
      have B1 : Hid (Below w.heap.size w w1) := hw1
      clear hw1
      go_wp2
      exact bodyPost_ret (v := .tuple #[.slice none 0 0, .int .i64 0, .iface 54 (.int .i64 ek)]) (by simp [results, Try.results17, go_sem]) rfl (HO.out _ B1.out)
end Ev
end Go.Proofs.Ytgbhknagmndbfai
