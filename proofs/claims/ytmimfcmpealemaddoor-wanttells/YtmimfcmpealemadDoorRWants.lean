/- The document's Wants (package fairref1): the fault of a net, and of wants. -/
import Derived.Test.YtmimfcmpealemadDoorIntsC
import Derived.Test.YtmimfcmpealemadDoorPlains
namespace Go.Proofs.YtmimfcmpealemadDoor
namespace Fl
open Go.RowKit Fr Ns Ld
set_option linter.unusedSimpArgs false
set_option linter.unusedVariables false

theorem wantB_step {want : List Int} {k : Nat} (h : k < want.length) : (want.take (k + 1)).all wantB = ((want.take k).all wantB && wantB (want.getD k 0)) := by
  rw [take_snoc want k h 0, List.all_append]
  simp
theorem wantB_not {want : List Int} {k : Nat} (h : k < want.length) (hx : wantB (want.getD k 0) = false) : want.all wantB = false := by
  rw [List.all_eq_false]
  exact ⟨_, getD_mem want k h 0, by rw [hx]; exact Bool.false_ne_true⟩

set_option maxRecDepth 100000 in
set_option maxHeartbeats 2000000 in
theorem RWants_any {Q : Nat → Prop} (caps : List Int) (paths : List (List Int)) (want : List Int) (v x : Value) (w : World) (h : NetAt Q w v caps paths) (hx : IntsAt Q w x want) :
    Calls Tryd.prog 5 #[v, x] w fun e w' => e = .returned (.int .i64 (wantE caps paths want)) ∧ Below w.heap.size w w' := by
  have HN : Hid (∀ u : World, Below w.heap.size w u → Calls Tryd.prog 20 #[v] u fun e w' => e = .returned (.int .i64 (netE caps paths)) ∧ Below u.heap.size u w') := fun u hu => RNet_any caps paths v u (h.later hu)
  obtain ⟨v1, v2, rfl, ⟨a1, cap1, rfl, ⟨hm1, hn1⟩, _⟩, ⟨a2, cap2, rfl, ⟨hm2, hn2⟩, _⟩⟩ := h
  obtain ⟨ax, capx, rfl, ⟨hmx, hnx⟩, hx⟩ := hx
  have HX : Hid (∀ i, i < want.length → ∃ b off, ax = some ⟨b, off, none⟩ ∧ ∀ u, Below w.heap.size w u → u.cell? ⟨b, off + i, none⟩ = some (.int .i64 (want.getD i 0))) := by
    intro i hi
    rcases hx with rfl | ⟨b, off, rfl, h, _⟩
    · simp at hi
    · exact ⟨b, off, rfl, fun u hu => cell_later hu (h i hi)⟩
  have B0 : Hid (Below w.heap.size w (w.alloc (.cells #[.slice a1 caps.length cap1, .slice a2 paths.length cap2] 25))) := (Below.refl _ _).alloc (Nat.le_refl _) _
  clear hx
  by_cases he : netE caps paths = 0
  · rw [he] at HN
    by_cases hl : want.length = paths.length
    · have HE : Hid (wantE caps paths want = if want.all wantB then 0 else 1) := by show _ = _; rw [wantE, if_pos he, if_pos hl]
      have q : ((want.length : Int) != (paths.length : Int)) = false := by simp [hl]
      have hl1 : want.length ≤ paths.length := by omega
      have hl2 : paths.length ≤ want.length := by omega
      clear he hl
      go_enter Tryd.func5, Tryd.ntmps5
      go_wp2_with fail
      refine (HN.out _ B0.out).mono ?_
      rintro e w1 ⟨rfl, hw1⟩
      have g1 : w1.cell? ⟨w.heap.size, 1, none⟩ = some (.slice a2 paths.length cap2) := cell_later hw1 (by simp)
      have HB1 : Hid (Below w.heap.size w w1) := B0.out.trans (hw1.mono (by simp))
      clear hw1
      go_wp2
      go_loop [5, 6] (fun s5 s6 => ∃ k : Nat, k ≤ want.length ∧ s6 = .int .i64 k ∧ ((s5 = .int .i64 0 ∧ Hid ((want.take k).all wantB = true)) ∨ (s5 = .int .i64 1 ∧ Hid (want.all wantB = false)))) (fun _ s6 => want.length - (intOf s6).toNat)
      case atStart => exact ⟨0, by omega, rfl, .inl ⟨rfl, rfl⟩⟩
      case round =>
        obtain ⟨k, hk, rfl, hor⟩ := hrel
        rcases hor with ⟨rfl, hall⟩ | ⟨rfl, hall⟩
        · by_cases hlt : k < want.length
          · obtain ⟨b, off, rfl, hc⟩ := HX.out k hlt
            have c0 := hc _ HB1.out
            have hs : Hid (wantB (want.getD k 0) = true → (want.take (k + 1)).all wantB = true) := fun hx => by rw [wantB_step hlt, hall.out, hx]; rfl
            have hno : Hid (wantB (want.getD k 0) = false → want.all wantB = false) := fun hx => wantB_not hlt hx
            clear hc
            generalize want.getD k 0 = y at *
            by_cases h1 : y < 1
            · have HR : Hid (want.all wantB = false) := hno.out (by simp [wantB]; omega)
              go_wp2
              go_round
              case rel => exact ⟨k + 1, by omega, by go_num, .inr ⟨rfl, HR⟩⟩
              case measure => simp [intOf]; omega
            · by_cases h2 : 1000 < y
              · have HR : Hid (want.all wantB = false) := hno.out (by simp [wantB]; omega)
                go_wp2
                go_round
                case rel => exact ⟨k + 1, by omega, by go_num, .inr ⟨rfl, HR⟩⟩
                case measure => simp [intOf]; omega
              · have HR : Hid ((want.take (k + 1)).all wantB = true) := hs.out (by simp [wantB]; omega)
                go_wp2
                go_round
                case rel => exact ⟨k + 1, by omega, by go_num, .inl ⟨rfl, HR⟩⟩
                case measure => simp [intOf]; omega
          · have HR : Hid (want.all wantB = true) := by have := hall.out; rwa [List.take_of_length_le (by omega)] at this
            go_wp2
            go_ret
            exact ⟨by rw [HE.out, HR.out]; rfl, HB1.out⟩
        · by_cases hlt : k < want.length
          · go_wp2
            go_ret
            exact ⟨by rw [HE.out, hall.out]; rfl, HB1.out⟩
          · go_wp2
            go_ret
            exact ⟨by rw [HE.out, hall.out]; rfl, HB1.out⟩
    · have HE : Hid (wantE caps paths want = 3) := by show _ = _; rw [wantE, if_pos he, if_neg hl]
      have q : ((want.length : Int) != (paths.length : Int)) = true := by simp; omega
      clear he hl
      go_enter Tryd.func5, Tryd.ntmps5
      go_wp2_with fail
      refine (HN.out _ B0.out).mono ?_
      rintro e w1 ⟨rfl, hw1⟩
      have g1 : w1.cell? ⟨w.heap.size, 1, none⟩ = some (.slice a2 paths.length cap2) := cell_later hw1 (by simp)
      have HB1 : Hid (Below w.heap.size w w1) := B0.out.trans (hw1.mono (by simp))
      clear hw1
      go_wp2
      go_loop [5, 6] (fun s5 s6 => s5 = .int .i64 3 ∧ s6 = .int .i64 0) (fun _ _ => 0)
      case atStart => exact ⟨rfl, rfl⟩
      case round =>
        obtain ⟨rfl, rfl⟩ := hrel
        by_cases hlt : 0 < want.length
        · go_wp2
          go_ret
          exact ⟨by rw [HE.out]; rfl, HB1.out⟩
        · go_wp2
          go_ret
          exact ⟨by rw [HE.out]; rfl, HB1.out⟩
  · have HE : Hid (wantE caps paths want = netE caps paths) := by show _ = _; rw [wantE, if_neg he]
    have hb : (netE caps paths == 0) = false := beq_eq_false_iff_ne.2 he
    generalize netE caps paths = ek at *
    clear he
    go_enter Tryd.func5, Tryd.ntmps5
    go_wp2_with fail
    refine (HN.out _ B0.out).mono ?_
    rintro e w1 ⟨rfl, hw1⟩
    have HB1 : Hid (Below w.heap.size w w1) := B0.out.trans (hw1.mono (by simp))
    clear hw1
    go_wp2
    go_loop [5, 6] (fun s5 s6 => s5 = .int .i64 ek ∧ s6 = .int .i64 0) (fun _ _ => 0)
    case atStart => exact ⟨rfl, rfl⟩
    case round =>
      obtain ⟨rfl, rfl⟩ := hrel
      by_cases hlt : 0 < want.length
      · go_wp2
        go_ret
        exact ⟨by rw [HE.out]; rfl, HB1.out⟩
      · go_wp2
        go_ret
        exact ⟨by rw [HE.out]; rfl, HB1.out⟩
end Fl
end Go.Proofs.YtmimfcmpealemadDoor
