/- Package aimd's together, halve and raise, over a row of the call's own. -/
import Derived.Test.YtgbhknagmndbfaiAiA
import Derived.Test.YtgbhknagmndbfaiPlains
namespace Go.Proofs.Ytgbhknagmndbfai
namespace Ev
open Go.RowKit Fr Ns Ld Fl
set_option linter.unusedSimpArgs false
set_option linter.unusedVariables false

set_option maxHeartbeats 1000000 in
theorem atogether_any {Q : Nat → Prop} (l : List Int) (v : Value) (w : World) (h : IntsAt Q w v l) (h6 : l.length ≤ 6) (hb : ∀ x ∈ l, 0 ≤ x ∧ x ≤ 10000) :
    Calls Try.prog 31 #[v] w fun e w' => e = .returned (.int .i64 (tot l)) ∧ w' = w := by
  obtain ⟨a, cap, rfl, ⟨hm, hm2⟩, h'⟩ := id h
  have HC : Hid (∀ i, i < l.length → ∃ b off, a = some ⟨b, off, none⟩ ∧ w.cell? ⟨b, off + i, none⟩ = some (.int .i64 (l.getD i 0))) := by
    intro i hi
    rcases h' with h | ⟨b, off, rfl, h, _⟩
    · rw [h] at hi; simp at hi
    · exact ⟨b, off, rfl, h i hi⟩
  have HB : Hid (∀ k, k ≤ l.length → 0 ≤ tot (l.take k) ∧ tot (l.take k) ≤ 60000) := fun k hk => by
    have := tot_bd (M := 10000) (l := l.take k) (fun x hx => hb x (List.mem_of_mem_take hx))
    rw [List.length_take] at this
    omega
  clear h h' hb
  go_enter Try.func31, Try.ntmps31
  go_wp2
  go_loop [3, 5, 8] (fun s _ i => ∃ k : Nat, k ≤ l.length ∧ i = .int .i64 k ∧ s = .int .i64 (tot (l.take k))) (fun _ _ i => l.length - (intOf i).toNat)
  case atStart => exact ⟨0, by omega, rfl, rfl⟩
  case round =>
    obtain ⟨k, hk, rfl, rfl⟩ := hrel
    by_cases hlt : k < l.length
    · obtain ⟨b, off, rfl, c0⟩ := HC.out k hlt
      have hs := tot_step l k hlt
      have b1 := HB.out k hk
      have b2 := HB.out (k + 1) hlt
      rw [hs] at b2
      have HS : Hid (tot (l.take (k + 1)) = tot (l.take k) + l.getD k 0) := hs
      clear hs
      generalize tot (l.take k) = t at *
      generalize l.getD k 0 = y at *
      go_wp2
      go_round
      case rel => exact ⟨k + 1, by omega, by go_num, by rw [HS.out]⟩
      case measure => simp [intOf]; omega
    · have HT : Hid (tot (l.take k) = tot l) := by show _ = _; rw [List.take_of_length_le (by omega)]
      go_wp2
      go_ret
      exact ⟨by rw [HT.out]; rfl, rfl⟩

theorem half_quo {x : Int} (h : 0 ≤ x) : x.tdiv 2 = x / 2 := Int.tdiv_eq_ediv_of_nonneg h

set_option maxHeartbeats 1000000 in
theorem ahalve_any (l : List Int) (B g c : Nat) (sp : List Value) (w : World) (hr : RowAt w g 3 (l.map (Value.int .i64) ++ sp)) (hg : B ≤ g) (hc : l.length ≤ c) (h6 : l.length ≤ 6) (hb : ∀ x ∈ l, 0 ≤ x ∧ x ≤ 10000) :
    Calls Try.prog 32 #[.slice (some ⟨g, 0, none⟩) l.length c] w fun e w' => e = .returned (.tuple #[]) ∧ RowAt w' g 3 ((l.map (· / 2)).map (Value.int .i64) ++ sp) ∧ Below B w w' := by
  have H0 : Hid (RowAt w g 3 ((midL (· / 2) l 0).map (Value.int .i64) ++ sp)) := by rw [midL_0]; exact hr
  have HB : Hid (∀ k, k < l.length → 0 ≤ l.getD k 0 ∧ l.getD k 0 ≤ 10000) := fun k hk => hb _ (getD_mem l k hk 0)
  clear hr hb
  go_enter Try.func32, Try.ntmps32
  go_wp2
  go_loopw [2, 5] (fun _ i wr => ∃ k : Nat, k ≤ l.length ∧ i = .int .i64 k ∧ Hid (RowAt wr g 3 ((midL (· / 2) l k).map (Value.int .i64) ++ sp)) ∧ Hid (Below B w wr)) (fun _ i _ => l.length - (intOf i).toNat)
  case atStart => exact ⟨0, by omega, rfl, H0, Below.refl _ _⟩
  case round =>
    obtain ⟨k, hk, rfl, hro, hbl⟩ := hrel
    by_cases hlt : k < l.length
    · obtain ⟨b1, b2⟩ := HB.out k hlt
      have c0 := hro.out.cell (intsCell (l := midL (· / 2) l k) (sp := sp) (i := k) (by rw [midL_length]; exact hlt))
      rw [midL_at hlt] at c0
      have f0 := hro.out.frozen k
      have z0 := hro.out.lt
      have hq := half_quo b1
      have HN : Hid (RowAt (wr.setCell ⟨g, k, none⟩ (.int .i64 (l.getD k 0 / 2))) g 3 ((midL (· / 2) l (k + 1)).map (Value.int .i64) ++ sp)) := by
        have := hro.out.set k (.int .i64 (l.getD k 0 / 2))
        rw [intsSet (by rw [midL_length]; exact hlt), midL_set (f := (· / 2)) hlt] at this
        exact this
      have HBn : Hid (Below B w (wr.setCell ⟨g, k, none⟩ (.int .i64 (l.getD k 0 / 2)))) := hbl.out.setCell hg _
      generalize l.getD k 0 = y at *
      go_wp2
      go_roundw
      case rel => exact ⟨k + 1, by omega, by go_num, HN, HBn⟩
      case measure => simp [intOf]; omega
    · obtain rfl : k = l.length := by omega
      have HE : Hid (RowAt wr g 3 ((l.map (· / 2)).map (Value.int .i64) ++ sp)) := by
        have := hro.out
        rw [midL_all] at this
        exact this
      go_wp2
      go_end0
      exact ⟨rfl, HE.out, hbl.out⟩

theorem araise_tells (up : Int) (g : Nat) (w : World) (h : w.cell? ⟨g, 0, none⟩ = some (.int .i64 up)) (h1 : 1 ≤ up) (h2 : up ≤ 1000) : TellsC 45 (.pointer (some ⟨g, 0, none⟩)) w (over up) := by
  refine ⟨enters Try.func45 (by kernel_rfl) (by kernel_rfl), fun x u hu => ?_⟩
  have c0 := cell_later hu h
  have HR : Hid (over up x = decide (10000 - up < x)) := by
    show _ = _
    rw [over, decide_eq_decide]
    omega
  clear hu h
  go_enter Try.func45, Try.ntmps45
  go_wp2
  go_ret
  exact ⟨ret_bool (by rw [HR.out]), Below.refl _ _⟩

def upE (l : List Int) (up : Int) : Int := if l.any (over up) then 4 else 0
/-- where none is too great, each is more -/
def UpRow (l : List Int) (up : Int) (w : World) (g : Nat) (sp : List Value) : Prop := l.any (over up) = false → RowAt w g 3 ((l.map (· + up)).map (Value.int .i64) ++ sp)

set_option maxHeartbeats 2000000 in
theorem araise_any (l : List Int) (up : Int) (B g c : Nat) (sp : List Value) (w : World) (hr : RowAt w g 3 (l.map (Value.int .i64) ++ sp)) (hg : B ≤ g) (hc : l.length ≤ c) (h6 : l.length ≤ 6) (hb : ∀ x ∈ l, 0 ≤ x ∧ x ≤ 10000) (h1 : 1 ≤ up) (h2 : up ≤ 1000) :
    Calls Try.prog 33 #[.slice (some ⟨g, 0, none⟩) l.length c, .int .i64 up] w fun e w' => e = .returned (errV (upE l up)) ∧ UpRow l up w' g sp ∧ Below B w w' := by
  have hgw : g < w.heap.size := hr.lt
  have B0 : Hid (Below B w (w.alloc (.cells #[.int .i64 up] 3))) := (Below.refl _ _).alloc (by omega) _
  have B1 : Hid (Below w.heap.size w (w.alloc (.cells #[.int .i64 up] 3))) := (Below.refl _ _).alloc (Nat.le_refl _) _
  have HV : IntsAt (fun _ => True) (w.alloc (.cells #[.int .i64 up] 3)) (.slice (some ⟨g, 0, none⟩) l.length c) l := intsRow (hr.alloc _) hc (by omega) trivial
  have HC : Hid (Calls Try.prog 26 #[.slice (some ⟨g, 0, none⟩) l.length c, .func (.func 45) #[] #[.pointer (some ⟨w.heap.size, 0, none⟩)]] (w.alloc (.cells #[.int .i64 up] 3)) fun e w' => e = .returned (.bool (l.any (over up))) ∧ Below (w.alloc (.cells #[.int .i64 up] 3)).heap.size (w.alloc (.cells #[.int .i64 up] 3)) w') :=
    ContainsFuncC l _ _ (araise_tells up w.heap.size _ (by simp) h1 h2) HV
  have HB : Hid (∀ k, k < l.length → 0 ≤ l.getD k 0 ∧ l.getD k 0 ≤ 10000) := fun k hk => hb _ (getD_mem l k hk 0)
  have H0 : Hid (RowAt w g 3 ((midL (· + up) l 0).map (Value.int .i64) ++ sp)) := by rw [midL_0]; exact hr
  clear hr hb HV
  cases ha : l.any (over up) with
  | true =>
    have HE : Hid (upE l up = 4) := by show _ = _; rw [upE, if_pos ha]
    have HU : Hid (∀ u, UpRow l up u g sp) := fun u h => by rw [ha] at h; cases h
    rw [ha] at HC
    clear ha
    go_enter Try.func33, Try.ntmps33
    go_wp2_with fail
    refine HC.out.mono ?_
    rintro e w1 ⟨rfl, hw1⟩
    have HB1 : Hid (Below B w w1) := Bel.call B0.out (by omega) hw1
    clear hw1
    go_wp2
    go_ret
    exact ⟨ret_ai (by rw [HE.out]; rfl), HU.out _, HB1.out⟩
  | false =>
    have HZ : Hid (upE l up = 0) := by show _ = _; rw [upE, if_neg (by rw [ha]; decide)]
    rw [ha] at HC
    clear ha
    go_enter Try.func33, Try.ntmps33
    go_wp2_with fail
    refine HC.out.mono ?_
    rintro e w1 ⟨rfl, hw1⟩
    have HB1 : Hid (Below B w w1) := Bel.call B0.out (by omega) hw1
    have HR1 : Hid (RowAt w1 g 3 ((midL (· + up) l 0).map (Value.int .i64) ++ sp)) := (H0.out.alloc _).later hw1 (by simp; omega)
    have HX1 : Hid (RowAt w1 w.heap.size 3 [.int .i64 up]) := (RowAt.new w #[.int .i64 up] 3).later hw1 (by simp)
    clear hw1 H0 HC B0 B1
    go_wp2
    go_loopw [5, 12] (fun _ i wr => ∃ k : Nat, k ≤ l.length ∧ i = .int .i64 k ∧ Hid (RowAt wr g 3 ((midL (· + up) l k).map (Value.int .i64) ++ sp)) ∧ Hid (RowAt wr w.heap.size 3 [.int .i64 up]) ∧ Hid (Below B w wr)) (fun _ i _ => l.length - (intOf i).toNat)
    case atStart => exact ⟨0, by omega, rfl, HR1, HX1, HB1⟩
    case round =>
      clear HR1 HX1 HB1
      obtain ⟨k, hk, rfl, hro, hxo, hbl⟩ := hrel
      by_cases hlt : k < l.length
      · obtain ⟨b1, b2⟩ := HB.out k hlt
        have c0 := hro.out.cell (intsCell (l := midL (· + up) l k) (sp := sp) (i := k) (by rw [midL_length]; exact hlt))
        rw [midL_at hlt] at c0
        have cu := hxo.out.cell (i := 0) rfl
        have f0 := hro.out.frozen k
        have z0 := hro.out.lt
        have HN : Hid (RowAt ((wr.setCell ⟨g, k, none⟩ (.int .i64 (l.getD k 0 + up))).drew) g 3 ((midL (· + up) l (k + 1)).map (Value.int .i64) ++ sp)) := by
          have := hro.out.set k (.int .i64 (l.getD k 0 + up))
          rw [intsSet (by rw [midL_length]; exact hlt), midL_set (f := (· + up)) hlt] at this
          exact this
        have HX : Hid (RowAt ((wr.setCell ⟨g, k, none⟩ (.int .i64 (l.getD k 0 + up))).drew) w.heap.size 3 [.int .i64 up]) := hxo.out.other (a := ⟨g, k, none⟩) (by simp; omega) _
        have HBn : Hid (Below B w ((wr.setCell ⟨g, k, none⟩ (.int .i64 (l.getD k 0 + up))).drew)) := (hbl.out.setCell hg _).drew
        generalize l.getD k 0 = y at *
        go_wp2_with fail
        go_region
        go_wp2
        go_roundw
        case rel => exact ⟨k + 1, by omega, by go_num, HN, HX, HBn⟩
        case measure => simp [intOf]; omega
      · obtain rfl : k = l.length := by omega
        have HE : Hid (RowAt wr g 3 ((l.map (· + up)).map (Value.int .i64) ++ sp)) := by
          have := hro.out
          rw [midL_all] at this
          exact this
        go_wp2
        go_ret
        exact ⟨ret_ai (by rw [HZ.out]; rfl), fun _ => HE.out, hbl.out⟩
end Ev
end Go.Proofs.Ytgbhknagmndbfai
