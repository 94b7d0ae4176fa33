/- What package fill's own struct holds, and its sharers. -/
import Derived.Test.YtpnmmmlckdkcdakGreatDoorFiA
namespace Go.Proofs.YtpnmmmlckdkcdakGreatDoor
namespace Fl
open Go.RowKit Fr Ns Ld
set_option linter.unusedSimpArgs false
set_option linter.unusedVariables false

/-- how far the flows of a net have come, as it lies in memory -/
def FillW (caps : List Int) (paths : List (List Int)) (rate : List (Int × Int)) (done : List Bool) (gF gf gr : Nat) (v : Value) (w : World) : Prop :=
  ∃ a1 cap1 a2 cap2, v = .agg #[.slice a1 caps.length cap1, .slice a2 paths.length cap2] ∧
    RowAt w gF 153 [.slice a1 caps.length cap1, .slice a2 paths.length cap2, .slice (some ⟨gf, 0, none⟩) paths.length paths.length, .slice (some ⟨gr, 0, none⟩) paths.length paths.length] ∧
    NetAt (fun b => b ≠ gF ∧ b ≠ gf ∧ b ≠ gr) w v caps paths ∧ RowAt w gf 4 (boolsV (freeL done)) ∧ RowAt w gr 58 (flat rate)
theorem FillW.later {caps : List Int} {paths : List (List Int)} {rate : List (Int × Int)} {done : List Bool} {gF gf gr : Nat} {v : Value} {w w' : World} (h : FillW caps paths rate done gF gf gr v w) (hb : Below w.heap.size w w') : FillW caps paths rate done gF gf gr v w' := by
  obtain ⟨a1, cap1, a2, cap2, e, h1, h2, h3, h4⟩ := h
  exact ⟨a1, cap1, a2, cap2, e, h1.later hb h1.lt, h2.later hb, h3.later hb h3.lt, h4.later hb h4.lt⟩
/-- what a walk reads of it, in this world and in every later one -/
theorem FillW.facts {caps : List Int} {paths : List (List Int)} {rate : List (Int × Int)} {done : List Bool} {gF gf gr : Nat} {v : Value} {w : World} (h : FillW caps paths rate done gF gf gr v w) (hld : done.length = paths.length) (hlr : rate.length = paths.length) :
    ∃ a1 cap1 a2 cap2, v = .agg #[.slice a1 caps.length cap1, .slice a2 paths.length cap2] ∧ (caps.length ≤ cap1 ∧ caps.length ≤ 9223372036854775807) ∧ (paths.length ≤ cap2 ∧ paths.length ≤ 9223372036854775807) ∧ (gF < w.heap.size ∧ gf < w.heap.size ∧ gr < w.heap.size) ∧
      Hid (∀ u, Below w.heap.size w u → u.cell? ⟨gF, 0, none⟩ = some (.slice a1 caps.length cap1) ∧ u.cell? ⟨gF, 1, none⟩ = some (.slice a2 paths.length cap2) ∧ u.cell? ⟨gF, 2, none⟩ = some (.slice (some ⟨gf, 0, none⟩) paths.length paths.length) ∧ u.cell? ⟨gF, 3, none⟩ = some (.slice (some ⟨gr, 0, none⟩) paths.length paths.length)) ∧
      Hid (∀ i, i < paths.length → ∀ u, Below w.heap.size w u → u.cell? ⟨gf, i, none⟩ = some (.bool (!dB done i))) ∧
      Hid (∀ i, i < paths.length → ∀ u, Below w.heap.size w u → u.cell? ⟨gr, i * 2, none⟩ = some (.int .i64 (rP rate i).1) ∧ u.cell? ⟨gr, i * 2 + 1, none⟩ = some (.int .i64 (rP rate i).2)) ∧
      Hid (∀ i, i < caps.length → ∃ b off, a1 = some ⟨b, off, none⟩ ∧ ∀ u, Below w.heap.size w u → u.cell? ⟨b, off + i, none⟩ = some (.int .i64 (caps.getD i 0))) ∧
      Hid (∀ i, i < paths.length → ∃ b off x, a2 = some ⟨b, off, none⟩ ∧ ∀ u, Below w.heap.size w u → u.cell? ⟨b, off + i, none⟩ = some x ∧ IntsAt (fun _ => True) u x (paths.getD i [])) := by
  obtain ⟨a1, cap1, a2, cap2, rfl, hF, hN, hf, hr⟩ := h
  obtain ⟨v1, v2, e, h1, h2⟩ := hN
  simp only [Value.agg.injEq, Array.mk.injEq, List.cons.injEq, and_true] at e
  obtain ⟨rfl, rfl⟩ := e
  obtain ⟨_, _, e, hm1, hc1⟩ := h1
  simp only [Value.slice.injEq] at e
  obtain ⟨rfl, _, rfl⟩ := e
  obtain ⟨_, _, e, hm2, hc2⟩ := h2
  simp only [Value.slice.injEq] at e
  obtain ⟨rfl, _, rfl⟩ := e
  refine ⟨a1, cap1, a2, cap2, rfl, hm1, hm2, ⟨hF.lt, hf.lt, hr.lt⟩, fun u hu => ?_, fun i hi u hu => ?_, fun i hi u hu => ?_, fun i hi => ?_, fun i hi => ?_⟩
  · have := hF.later hu hF.lt
    exact ⟨this.cell (i := 0) rfl, this.cell (i := 1) rfl, this.cell (i := 2) rfl, this.cell (i := 3) rfl⟩
  · exact (hf.later hu hf.lt).cell (free_cell (by omega))
  · obtain ⟨e1, e2⟩ := flat_cells (rate := rate) (m := i) (by omega)
    exact ⟨(hr.later hu hr.lt).cell e1, (hr.later hu hr.lt).cell e2⟩
  · rcases hc1 with rfl | ⟨b, off, rfl, hc, _⟩
    · simp at hi
    · exact ⟨b, off, rfl, fun u hu => cell_later hu (hc i hi)⟩
  · rcases hc2 with rfl | ⟨b, off, rfl, hc, _⟩
    · simp at hi
    · obtain ⟨x, hx, hxi⟩ := hc i hi
      exact ⟨b, off, x, rfl, fun u hu => ⟨cell_later hu hx, (hxi.later hu).keep (fun _ _ _ => rfl) (fun _ _ _ => trivial)⟩⟩

set_option maxHeartbeats 1000000 in
theorem sharers_any (caps : List Int) (paths : List (List Int)) (rate : List (Int × Int)) (done : List Bool) (gF gf gr : Nat) (v : Value) (w : World) (l : Nat) (h : FillW caps paths rate done gF gf gr v w) (hld : done.length = paths.length) (hlr : rate.length = paths.length) (h6 : paths.length ≤ 6) :
    Calls Tryz.prog 153 #[.pointer (some ⟨gF, 0, none⟩), .int .i64 l] w fun e w' => e = .returned (.int .i64 ((linkTo caps paths rate done l paths.length).2 : Nat)) ∧ w' = w := by
  obtain ⟨a1, cap1, a2, cap2, rfl, ⟨hm1, hn1⟩, ⟨hm2, hn2⟩, ⟨z1, z2, z3⟩, HF, Hf, Hr, HC, HP⟩ := h.facts hld hlr
  have HS : Hid (∀ k, k < paths.length → (linkTo caps paths rate done l (k + 1)).2 = if inB (paths.getD k []) l = true then (if dB done k = true then (linkTo caps paths rate done l k).2 else (linkTo caps paths rate done l k).2 + 1) else (linkTo caps paths rate done l k).2) := fun k hk => by
    rw [linkTo_step hk]
    split
    · split <;> rfl
    · rfl
  have HL : Hid (∀ k, k ≤ paths.length → (linkTo caps paths rate done l k).2 ≤ k) := fun k hk => linkTo_free k hk
  have H0 : Hid (Value.int .i64 0 = .int .i64 ((linkTo caps paths rate done l 0).2 : Nat)) := rfl
  generalize (fun k => (linkTo caps paths rate done l k).2) = LS at *
  obtain ⟨LS, hLS⟩ : ∃ LS : Nat → Nat, ∀ k, (linkTo caps paths rate done l k).2 = LS k := ⟨_, fun _ => rfl⟩
  simp only [hLS] at HS HL H0 ⊢
  obtain ⟨c0, c1, c2, c3⟩ := HF.out w (Below.refl _ _)
  clear hLS h
  go_enter Tryz.func153, Tryz.ntmps153
  go_wp2
  go_loop [5, 6, 7, 14] (fun m _ _ i => ∃ k : Nat, k ≤ paths.length ∧ i = .int .i64 k ∧ m = .int .i64 (LS k : Nat)) (fun _ _ _ i => paths.length - (intOf i).toNat)
  case atStart => exact ⟨0, by omega, rfl, H0.out⟩
  case round =>
    obtain ⟨k, hk, rfl, rfl⟩ := hrel
    have hlk := HL.out k hk
    by_cases hlt : k < paths.length
    · obtain ⟨b, off, x, rfl, hx⟩ := HP.out k hlt
      obtain ⟨cx, hxi⟩ := hx w (Below.refl _ _)
      have cf := Hf.out k hlt w (Below.refl _ _)
      have hs := HS.out k hlt
      have HCo : Hid (Calls Tryz.prog 69 #[x, .int .i64 l] w fun e w' => e = .returned (.bool (inB (paths.getD k []) l)) ∧ w' = w) := Contains_any _ _ _ w hxi
      clear hx
      generalize paths.getD k [] = pf at *
      obtain ⟨ax, capx, rfl, _⟩ := hxi
      generalize inB pf l = ib at *
      cases hd : dB done k with
      | true =>
        rw [hd] at cf hs
        have HN : Hid (LS (k + 1) = LS k) := by
          show _ = _
          rw [hs]
          simp
        clear hs hd
        go_wp2
        go_round
        case rel => exact ⟨k + 1, by omega, by go_num, by rw [HN.out]⟩
        case measure => simp [intOf]; omega
      | false =>
        rw [hd] at cf hs
        cases ib with
        | true =>
          have HN : Hid (LS (k + 1) = LS k + 1) := by
            show _ = _
            rw [hs]
            simp
          clear hs hd
          go_wp2_with fail
          refine HCo.out.mono ?_
          rintro e w ⟨rfl, rfl⟩
          go_wp2
          go_round
          case rel => exact ⟨k + 1, by omega, by go_num, by rw [HN.out]; go_num⟩
          case measure => simp [intOf]; omega
        | false =>
          have HN : Hid (LS (k + 1) = LS k) := by
            show _ = _
            rw [hs]
            simp
          clear hs hd
          go_wp2_with fail
          refine HCo.out.mono ?_
          rintro e w ⟨rfl, rfl⟩
          go_wp2
          go_round
          case rel => exact ⟨k + 1, by omega, by go_num, by rw [HN.out]⟩
          case measure => simp [intOf]; omega
    · obtain rfl : k = paths.length := by omega
      go_wp2
      go_ret
      exact ⟨rfl, rfl⟩
end Fl
end Go.Proofs.YtpnmmmlckdkcdakGreatDoor
