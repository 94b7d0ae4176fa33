/- Package neck's first: the first link of a path that is so. -/
import Derived.Test.YtmimfcmpealemadDoorNkC
namespace Go.Proofs.YtmimfcmpealemadDoor
namespace Fl
open Go.RowKit Fr Ns Ld
set_option linter.unusedSimpArgs false
set_option linter.unusedVariables false

set_option maxHeartbeats 1000000 in
theorem NIndex_any {Q R S : Nat → Prop} {caps : List Int} {paths : List (List Int)} {r : List (Int × Int)} {FL : List Int} {f gF gN gR gI : Nat} (p : List Int) (v : Value) (w : World) (hv : IntsAt S w v p) (h : SoAt Q R w caps paths r FL f gF gN gR gI)
    (hf : f < paths.length) (hl : r.length = paths.length) (hr : ratesE r = 0) (hp : paths.length ≤ 6) :
    Calls Tryd.prog 62 #[v, .func (.func 38) #[] #[.pointer (some ⟨gF, 0, none⟩), .pointer (some ⟨gN, 0, none⟩), .pointer (some ⟨gR, 0, none⟩), .pointer (some ⟨gI, 0, none⟩)]] w fun e w' => ∃ j : Int, e = .returned (.int .i64 j) ∧ AtFirst p (soB FL paths r f) j ∧ Below w.heap.size w w' := by
  have HG : Hid (∀ (l : Int) (u : World), Below w.heap.size w u → Calls Tryd.prog 38 #[.int .i64 l, .pointer (some ⟨gF, 0, none⟩), .pointer (some ⟨gN, 0, none⟩), .pointer (some ⟨gR, 0, none⟩), .pointer (some ⟨gI, 0, none⟩)] u fun e w' => e = .returned (.bool (soB FL paths r f l)) ∧ Below u.heap.size u w') := fun l u hu => so_any l u (h.later hu) hf hl hr hp
  obtain ⟨a, cap, rfl, ⟨hm, hm2⟩, hv⟩ := hv
  have H : Hid (∀ i, i < p.length → ∃ b off, a = some ⟨b, off, none⟩ ∧ ∀ u, Below w.heap.size w u → u.cell? ⟨b, off + i, none⟩ = some (.int .i64 (p.getD i 0))) := by
    intro i hi
    rcases hv with rfl | ⟨b, off, rfl, h, _⟩
    · simp at hi
    · exact ⟨b, off, rfl, fun u hu => cell_later hu (h i hi)⟩
  generalize soB FL paths r f = so at *
  clear hv h hf hl hr hp
  go_enter Tryd.func62, Tryd.ntmps62
  go_wp2
  go_loopw [5, 8] (fun _ i wr => ∃ k : Nat, k ≤ p.length ∧ i = .int .i64 k ∧ Hid (Below w.heap.size w wr) ∧ Hid ((p.take k).find? so = none)) (fun _ i _ => p.length - (intOf i).toNat)
  case atStart => exact ⟨0, by omega, rfl, Below.refl _ _, rfl⟩
  case round =>
    obtain ⟨k, hk, rfl, hw, hn⟩ := hrel
    by_cases hlt : k < p.length
    · obtain ⟨b, off, rfl, hc⟩ := H.out k hlt
      have c1 := hc _ hw.out
      have HC := (show Hid (∀ u : World, Below w.heap.size w u → _) from fun u hu => HG.out (p.getD k 0) u hu)
      clear hc
      cases hx : so (p.getD k 0) with
      | true =>
        have HR : Hid (AtFirst p so k) := .inr ⟨k, rfl, hlt, find_at hlt hn.out hx⟩
        rw [hx] at HC
        generalize p.getD k 0 = x at *
        clear hx
        go_wp2_with fail
        refine (HC.out _ hw.out).mono ?_
        rintro e w1 ⟨rfl, hw1⟩
        have HB1 : Hid (Below w.heap.size w w1) := hw.out.trans (hw1.mono hw.out.size)
        clear hw1
        go_wp2
        go_ret
        exact ⟨_, rfl, HR.out, HB1.out⟩
      | false =>
        have HR : Hid ((p.take (k + 1)).find? so = none) := find_snoc_no hlt hn.out hx
        rw [hx] at HC
        generalize p.getD k 0 = x at *
        clear hx
        go_wp2_with fail
        refine (HC.out _ hw.out).mono ?_
        rintro e w1 ⟨rfl, hw1⟩
        have HB1 : Hid (Below w.heap.size w w1) := hw.out.trans (hw1.mono hw.out.size)
        clear hw1
        go_wp2
        go_roundw
        case rel => exact ⟨k + 1, by omega, by go_num, HB1, HR⟩
        case measure => simp [intOf]; omega
    · go_wp2
      go_ret
      refine ⟨_, rfl, .inl ⟨rfl, ?_⟩, hw.out⟩
      have := hn.out
      rwa [List.take_of_length_le (by omega)] at this

theorem first_any {Q R S : Nat → Prop} {caps : List Int} {paths : List (List Int)} {r : List (Int × Int)} {FL : List Int} {f gF gN gR gI : Nat} (p : List Int) (v : Value) (w : World) (hv : IntsAt S w v p) (h : SoAt Q R w caps paths r FL f gF gN gR gI)
    (hf : f < paths.length) (hl : r.length = paths.length) (hr : ratesE r = 0) (hp : paths.length ≤ 6) :
    Calls Tryd.prog 37 #[v, .func (.func 38) #[] #[.pointer (some ⟨gF, 0, none⟩), .pointer (some ⟨gN, 0, none⟩), .pointer (some ⟨gR, 0, none⟩), .pointer (some ⟨gI, 0, none⟩)]] w fun e w' => e = .returned (.int .i64 ((p.find? (soB FL paths r f)).getD (-1))) ∧ Below w.heap.size w w' := by
  have HI : Hid (Calls Tryd.prog 62 #[v, .func (.func 38) #[] #[.pointer (some ⟨gF, 0, none⟩), .pointer (some ⟨gN, 0, none⟩), .pointer (some ⟨gR, 0, none⟩), .pointer (some ⟨gI, 0, none⟩)]] w fun e w' => ∃ j : Int, e = .returned (.int .i64 j) ∧ AtFirst p (soB FL paths r f) j ∧ Below w.heap.size w w') := NIndex_any p v w hv h hf hl hr hp
  obtain ⟨a, cap, rfl, ⟨hm, hm2⟩, hv⟩ := hv
  have H : Hid (∀ i, i < p.length → ∃ b off, a = some ⟨b, off, none⟩ ∧ ∀ u, Below w.heap.size w u → u.cell? ⟨b, off + i, none⟩ = some (.int .i64 (p.getD i 0))) := by
    intro i hi
    rcases hv with rfl | ⟨b, off, rfl, h, _⟩
    · simp at hi
    · exact ⟨b, off, rfl, fun u hu => cell_later hu (h i hi)⟩
  generalize soB FL paths r f = so at *
  clear hv h hf hl hr hp
  go_enter Tryd.func37, Tryd.ntmps37
  go_wp2_with fail
  refine HI.out.mono ?_
  rintro e w1 ⟨j, rfl, hj, hw1⟩
  have HB : Hid (Below w.heap.size w w1) := hw1
  clear hw1
  rcases hj with ⟨rfl, hj⟩ | ⟨i, rfl, hi, hj⟩
  · have HJ : Hid (p.find? so = none) := hj
    clear hj
    go_wp2
    go_ret
    exact ⟨by rw [HJ.out]; rfl, HB.out⟩
  · obtain ⟨b, off, rfl, hc⟩ := H.out i hi
    have c0 := hc _ HB.out
    have HJ : Hid (p.find? so = some (p.getD i 0)) := hj
    clear hj hc
    generalize p.getD i 0 = x at *
    go_wp2
    go_ret
    exact ⟨by rw [HJ.out]; rfl, HB.out⟩
end Fl
end Go.Proofs.YtmimfcmpealemadDoor
