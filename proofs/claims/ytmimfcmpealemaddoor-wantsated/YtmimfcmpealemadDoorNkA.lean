/- Package neck's anyGreater: is one of these rates greater? -/
import Derived.Test.YtmimfcmpealemadDoorPlains
import Derived.Test.YtmimfcmpealemadDoorFracE
namespace Go.Proofs.YtmimfcmpealemadDoor
namespace Fl
open Go.RowKit Fr Ns Ld
set_option linter.unusedSimpArgs false
set_option linter.unusedVariables false

theorem GCmp_right {a b : Int × Int} (ha : faultP a = 0) (hb : faultP b = 0) (w : World) :
    Calls Tryd.prog 18 #[.agg #[.int .i64 a.1, .int .i64 a.2], .agg #[.int .i64 b.1, .int .i64 b.2]] w fun e w' => e = .returned (.tuple #[.int .i64 (cmpI (a.1 * b.2) (b.1 * a.2)), .nilIface]) ∧ Below w.heap.size w w' := by
  have := Compare_any a.1 a.2 b.1 b.2 w
  have h1 : fault a.1 a.2 = 0 := ha
  have hf : fault2 a.1 a.2 b.1 b.2 = 0 := by rw [fault2, if_pos h1]; exact hb
  rw [cmpV, if_pos hf, hf, errV_0] at this
  exact this

theorem grOne_any (a t : Int × Int) (g : Nat) (w : World) (ha : faultP a = 0) (ht : faultP t = 0) (h0 : w.cell? ⟨g, 0, none⟩ = some (.int .i64 t.1)) (h1 : w.cell? ⟨g, 1, none⟩ = some (.int .i64 t.2)) :
    Calls Tryd.prog 64 #[.agg #[.int .i64 a.1, .int .i64 a.2], .pointer (some ⟨g, 0, none⟩)] w fun e w' => e = .returned (.bool (gtB t a)) ∧ Below w.heap.size w w' := by
  have HC : Hid (∀ u : World, Calls Tryd.prog 18 #[.agg #[.int .i64 a.1, .int .i64 a.2], .agg #[.int .i64 t.1, .int .i64 t.2]] u fun e w' => e = .returned (.tuple #[.int .i64 (cmpI (a.1 * t.2) (t.1 * a.2)), .nilIface]) ∧ Below u.heap.size u w') := fun u => GCmp_right ha ht u
  have HR : Hid (gtB t a = decide (0 < cmpI (a.1 * t.2) (t.1 * a.2))) := rfl
  generalize cmpI (a.1 * t.2) (t.1 * a.2) = c at *
  generalize gtB t a = gr at *
  generalize a.1 = a1 at *
  generalize a.2 = a2 at *
  generalize t.1 = t1 at *
  generalize t.2 = t2 at *
  clear ha ht
  have hlt : g < w.heap.size := World.block_lt_of_cell? _ _ h0
  have c0 : (w.alloc (.cells #[.int .i64 a1, .int .i64 a2] 39)).cell? ⟨g, 0, none⟩ = some (.int .i64 t1) := cell_later ((Below.refl _ _).alloc (Nat.le_refl _) _) h0
  have c1 : (w.alloc (.cells #[.int .i64 a1, .int .i64 a2] 39)).cell? ⟨g, 1, none⟩ = some (.int .i64 t2) := cell_later ((Below.refl _ _).alloc (Nat.le_refl _) _) h1
  go_enter Tryd.func64, Tryd.ntmps64
  go_wp2_with fail
  refine (HC.out _).mono ?_
  rintro e w1 ⟨rfl, hw1⟩
  have HB : Hid (Below w.heap.size w w1) := ((Below.refl _ _).alloc (Nat.le_refl _) _).trans (hw1.mono (by simp))
  clear hw1 c0 c1 h0 h1
  go_wp2
  go_ret
  exact ⟨Fr.ret_bool (by rw [HR.out]), HB.out⟩

set_option maxHeartbeats 1000000 in
theorem GIndex_any {Q : Nat → Prop} (l : List (Int × Int)) (t : Int × Int) (g : Nat) (v : Value) (w : World) (h : FracsAt Q w v l) (hr : ∀ a ∈ l, faultP a = 0) (ht : faultP t = 0) (h0 : w.cell? ⟨g, 0, none⟩ = some (.int .i64 t.1)) (h1 : w.cell? ⟨g, 1, none⟩ = some (.int .i64 t.2)) :
    Calls Tryd.prog 60 #[v, .func (.func 64) #[] #[.pointer (some ⟨g, 0, none⟩)]] w fun e w' => ∃ j : Int, e = .returned (.int .i64 j) ∧ decide (0 ≤ j) = anyGr l t ∧ Below w.heap.size w w' := by
  have HG : Hid (∀ i, i < l.length → ∀ u : World, Below w.heap.size w u → Calls Tryd.prog 64 #[.agg #[.int .i64 (l.getD i (0, 0)).1, .int .i64 (l.getD i (0, 0)).2], .pointer (some ⟨g, 0, none⟩)] u fun e w' => e = .returned (.bool (gtB t (l.getD i (0, 0)))) ∧ Below u.heap.size u w') := fun i hi u hu => grOne_any _ t g u (hr _ (getD_mem l i hi _)) ht (cell_later hu h0) (cell_later hu h1)
  obtain ⟨a, cap, rfl, ⟨hm, hm2⟩, h⟩ := h
  have H : Hid (∀ i, i < l.length → ∃ b off, a = some ⟨b, off, none⟩ ∧ ∀ u, Below w.heap.size w u → u.cell? ⟨b, off + i * 2, none⟩ = some (.int .i64 (l.getD i (0, 0)).1) ∧ u.cell? ⟨b, off + i * 2 + 1, none⟩ = some (.int .i64 (l.getD i (0, 0)).2)) := by
    intro i hi
    rcases h with rfl | ⟨b, off, rfl, h, _⟩
    · simp at hi
    · exact ⟨b, off, rfl, fun u hu => ⟨cell_later hu (h i hi).1, cell_later hu (h i hi).2⟩⟩
  clear h h0 h1 hr ht
  go_enter Tryd.func60, Tryd.ntmps60
  go_wp2
  go_loopw [5, 8] (fun _ i wr => ∃ k : Nat, k ≤ l.length ∧ i = .int .i64 k ∧ Hid (Below w.heap.size w wr) ∧ Hid (anyGr (l.take k) t = false)) (fun _ i _ => l.length - (intOf i).toNat)
  case atStart => exact ⟨0, by omega, rfl, Below.refl _ _, rfl⟩
  case round =>
    obtain ⟨k, hk, rfl, hw, hn⟩ := hrel
    by_cases hlt : k < l.length
    · obtain ⟨b, off, rfl, hc⟩ := H.out k hlt
      obtain ⟨c1, c2⟩ := hc _ hw.out
      have hs : Hid (anyGr (l.take (k + 1)) t = (anyGr (l.take k) t || gtB t (l.getD k (0, 0)))) := by show _ = _; rw [take_snoc l k hlt (0, 0)]; simp [anyGr]
      have hme : Hid (gtB t (l.getD k (0, 0)) = true → anyGr l t = true) := fun hx => List.any_eq_true.2 ⟨_, getD_mem l k hlt (0, 0), hx⟩
      have HC := (show Hid (∀ u : World, Below w.heap.size w u → _) from fun u hu => HG.out k hlt u hu)
      clear hc
      cases hx : gtB t (l.getD k (0, 0)) with
      | true =>
        have HR : Hid (anyGr l t = true) := hme.out hx
        rw [hx] at HC
        generalize (l.getD k (0, 0)).1 = t1 at *
        generalize (l.getD k (0, 0)).2 = bo at *
        clear hx hs
        go_wp2_with fail
        refine (HC.out _ hw.out).mono ?_
        rintro e w1 ⟨rfl, hw1⟩
        have HB1 : Hid (Below w.heap.size w w1) := hw.out.trans (hw1.mono hw.out.size)
        clear hw1
        go_wp2
        go_ret
        exact ⟨_, rfl, by rw [HR.out]; simp, HB1.out⟩
      | false =>
        have HR : Hid (anyGr (l.take (k + 1)) t = false) := by show _ = _; rw [hs.out, hn.out, hx]; rfl
        rw [hx] at HC
        generalize (l.getD k (0, 0)).1 = t1 at *
        generalize (l.getD k (0, 0)).2 = bo at *
        clear hx hs
        go_wp2_with fail
        refine (HC.out _ hw.out).mono ?_
        rintro e w1 ⟨rfl, hw1⟩
        have HB1 : Hid (Below w.heap.size w w1) := hw.out.trans (hw1.mono hw.out.size)
        clear hw1
        go_wp2
        go_roundw
        case rel => exact ⟨k + 1, by omega, by go_num, HB1, HR⟩
        case measure => simp [intOf]; omega
    · go_wp2
      go_ret
      refine ⟨_, rfl, ?_, hw.out⟩
      have := hn.out
      rw [List.take_of_length_le (by omega)] at this
      rw [this]
      rfl

theorem GContains_any {Q : Nat → Prop} (l : List (Int × Int)) (t : Int × Int) (g : Nat) (v : Value) (w : World) (h : FracsAt Q w v l) (hr : ∀ a ∈ l, faultP a = 0) (ht : faultP t = 0) (h0 : w.cell? ⟨g, 0, none⟩ = some (.int .i64 t.1)) (h1 : w.cell? ⟨g, 1, none⟩ = some (.int .i64 t.2)) :
    Calls Tryd.prog 33 #[v, .func (.func 64) #[] #[.pointer (some ⟨g, 0, none⟩)]] w fun e w' => e = .returned (.bool (anyGr l t)) ∧ Below w.heap.size w w' := by
  have HI : Hid (Calls Tryd.prog 60 #[v, .func (.func 64) #[] #[.pointer (some ⟨g, 0, none⟩)]] w fun e w' => ∃ j : Int, e = .returned (.int .i64 j) ∧ decide (0 ≤ j) = anyGr l t ∧ Below w.heap.size w w') := GIndex_any l t g v w h hr ht h0 h1
  obtain ⟨a, cap, rfl, _⟩ := h
  clear h0 h1
  go_enter Tryd.func33, Tryd.ntmps33
  go_wp2_with fail
  refine HI.out.mono ?_
  rintro e w' ⟨j, rfl, hj, hw⟩
  have HJ : Hid (decide (0 ≤ j) = anyGr l t) := hj
  have HW : Hid (Below w.heap.size w w') := hw
  clear hj hw
  go_wp2
  go_ret
  exact ⟨Ns.ret_bool HJ.out, HW.out⟩

theorem anyGr_any {Q : Nat → Prop} (l : List (Int × Int)) (t : Int × Int) (v : Value) (w : World) (h : FracsAt Q w v l) (hr : ∀ a ∈ l, faultP a = 0) (ht : faultP t = 0) :
    Calls Tryd.prog 40 #[v, .agg #[.int .i64 t.1, .int .i64 t.2]] w fun e w' => e = .returned (.bool (anyGr l t)) ∧ Below w.heap.size w w' := by
  have B0 : Hid (Below w.heap.size w (w.alloc (.cells #[.int .i64 t.1, .int .i64 t.2] 39))) := (Below.refl _ _).alloc (Nat.le_refl _) _
  have HC : Hid (Calls Tryd.prog 33 #[v, .func (.func 64) #[] #[.pointer (some ⟨w.heap.size, 0, none⟩)]] (w.alloc (.cells #[.int .i64 t.1, .int .i64 t.2] 39)) fun e w' => e = .returned (.bool (anyGr l t)) ∧ Below (w.alloc (.cells #[.int .i64 t.1, .int .i64 t.2] 39)).heap.size (w.alloc (.cells #[.int .i64 t.1, .int .i64 t.2] 39)) w') := GContains_any l t w.heap.size v (w.alloc (.cells #[.int .i64 t.1, .int .i64 t.2] 39)) (h.later B0.out) hr ht (by simp) (by simp)
  generalize anyGr l t = gr at *
  generalize t.1 = t1 at *
  generalize t.2 = t2 at *
  obtain ⟨a, cap, rfl, _⟩ := h
  clear hr ht
  go_enter Tryd.func40, Tryd.ntmps40
  go_wp2_with fail
  refine HC.out.mono ?_
  rintro e w1 ⟨rfl, hw1⟩
  have HB : Hid (Below w.heap.size w w1) := B0.out.trans (hw1.mono (by simp))
  clear hw1
  go_wp2
  go_ret
  exact ⟨rfl, HB.out⟩
end Fl
end Go.Proofs.YtmimfcmpealemadDoor
