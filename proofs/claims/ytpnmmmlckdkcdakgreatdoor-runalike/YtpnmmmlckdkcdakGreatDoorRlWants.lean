/- Package run's wants and newDesk: what each word wants, as a map, and a log over the session's links. -/
import Derived.Test.YtpnmmmlckdkcdakGreatDoorPlains
import Derived.Test.YtpnmmmlckdkcdakGreatDoorLgLN
import Derived.MapKept
import Derived.Carry
import Derived.Laws.Rows
namespace Go.Proofs.YtpnmmmlckdkcdakGreatDoor
namespace Ev
open Go.RowKit Go.MapKept Fr Ns Ld Fl
set_option linter.unusedSimpArgs false
set_option linter.unusedVariables false

def wantV (l m : Int) : Value := .agg #[.int .i64 l, .int .i64 m]
/-- the map of the words -/
def wantsM : Array MapEntry := #[⟨.string ⟨#[97, 100, 100]⟩, wantV 1 3000, 0⟩, ⟨.string ⟨#[100, 114, 111, 112]⟩, wantV 1 1, 1⟩, ⟨.string ⟨#[114, 97, 116, 101, 115]⟩, wantV 0 0, 2⟩,
  ⟨.string ⟨#[108, 101, 97, 115, 116]⟩, wantV 0 0, 3⟩, ⟨.string ⟨#[105, 110, 100, 101, 120]⟩, wantV 1 3000, 4⟩, ⟨.string ⟨#[115, 112, 108, 105, 116]⟩, wantV 2 3000, 5⟩]
/-- what a word wants -/
def wantOf (s : Txt) : Option (Int × Int) := if s = tAdd then some (1, 3000) else if s = tDrop then some (1, 1) else if s = tRates then some (0, 0) else if s = tLeast then some (0, 0) else if s = tIndex then some (1, 3000) else if s = tSplit then some (2, 3000) else none
theorem txt_beq (a b : Txt) : ((⟨a.toArray⟩ : ByteArray) == ⟨b.toArray⟩) = decide (a = b) := by
  rw [Bool.eq_iff_iff, bytes_beq, decide_eq_true_iff]
  constructor
  · intro e
    have := congrArg (fun x : ByteArray => x.data.toList) e
    simpa using this
  · rintro rfl; rfl
theorem same_txt (a b : Txt) : Instr.sameNow .string (.string ⟨a.toArray⟩) (.string ⟨b.toArray⟩) = some (decide (a = b)) := by
  show some ((⟨a.toArray⟩ : ByteArray) == ⟨b.toArray⟩) = _
  rw [txt_beq]
theorem find_want (s : Txt) : ∃ i, Instr.findNow .string (.string ⟨s.toArray⟩) wantsM.toList 0 = some ((wantOf s).map fun x => (i, wantV x.1 x.2)) := by
  have hs := same_txt s
  unfold wantOf
  by_cases h1 : s = tAdd
  · subst h1; exact ⟨0, rfl⟩
  · by_cases h2 : s = tDrop
    · subst h2; exact ⟨1, rfl⟩
    · by_cases h3 : s = tRates
      · subst h3; exact ⟨2, rfl⟩
      · by_cases h4 : s = tLeast
        · subst h4; exact ⟨3, rfl⟩
        · by_cases h5 : s = tIndex
          · subst h5; exact ⟨4, rfl⟩
          · by_cases h6 : s = tSplit
            · subst h6; exact ⟨5, rfl⟩
            · rw [if_neg h1, if_neg h2, if_neg h3, if_neg h4, if_neg h5, if_neg h6]
              refine ⟨0, ?_⟩
              have k1 := hs tAdd; have k2 := hs tDrop; have k3 := hs tRates; have k4 := hs tLeast; have k5 := hs tIndex; have k6 := hs tSplit
              rw [decide_eq_false h1] at k1; rw [decide_eq_false h2] at k2; rw [decide_eq_false h3] at k3; rw [decide_eq_false h4] at k4; rw [decide_eq_false h5] at k5; rw [decide_eq_false h6] at k6
              simp only [tAdd, tDrop, tRates, tLeast, tIndex, tSplit] at k1 k2 k3 k4 k5 k6
              simp [wantsM, Instr.findNow, k1, k2, k3, k4, k5, k6]
/-- what the word's look-up gives -/
def wantL (s : Txt) : Int := ((wantOf s).getD (0, 0)).1
def wantM (s : Txt) : Int := ((wantOf s).getD (0, 0)).2
theorem zeroWant (w : World) : (zeroValue 165).run Tryz.prog w = .ok (wantV 0 0) w := by kernel_rfl
theorem look_want {w : World} {r : Nat} (s : Txt) (hr : w.heap[r]? = some (.map wantsM 6)) :
    (Instr.lookup 85 (.map (some r)) (.string ⟨s.toArray⟩) true).run Tryz.prog w = .ok (.tuple #[.agg #[.int .i64 (wantL s), .int .i64 (wantM s)], .bool (wantOf s).isSome]) w := by
  obtain ⟨i, hi⟩ := find_want s
  have hk := run_findKey (P := Tryz.prog) (w := w) Tryz.underlying9 hi
  have hc := run_checkKey (P := Tryz.prog) (w := w) (k := .string ⟨s.toArray⟩) Tryz.underlying9 (by trivial) false 9999
  have he : wantsM.isEmpty = false := rfl
  unfold Instr.lookup wantL wantM
  cases h : wantOf s with
  | none => rw [h] at hk; simp [run_underlying Tryz.underlying85, Go.MapKept.run_getObj_map hr, he, hc, hk, Result.andThen, zeroWant, wantV]
  | some x => rw [h] at hk; simp [run_underlying Tryz.underlying85, Go.MapKept.run_getObj_map hr, he, hc, hk, Result.andThen, wantV]
set_option maxRecDepth 100000 in
theorem put_want (w : World) (es : Array MapEntry) (c : Nat) (k : ByteArray) (v : Value) (h : Instr.findNow .string (.string k) es.toList 0 = some none) :
    (Instr.mapUpdate 85 (.map (some w.heap.size)) (.string k) v).run Tryz.prog (w.alloc (.map es c)) = .ok () (w.alloc (.map (es.push ⟨.string k, v, c⟩) (c + 1))) := by
  have hb : (w.alloc (.map es c)).heap[w.heap.size]? = some (.map es c) := heap_alloc_new w _
  have hk := run_findKey (P := Tryz.prog) (w := w.alloc (.map es c)) Tryz.underlying9 h
  have hc := run_checkKey (P := Tryz.prog) (w := w.alloc (.map es c)) (k := .string k) Tryz.underlying9 (by trivial) false 9999
  have hs : ∀ o, (setObj w.heap.size o).run Tryz.prog (w.alloc (.map es c)) = .ok () (w.alloc o) := fun o => by
    rw [Go.MapKept.run_setObj_map o hb]
    have e : (w.heap.push (.map es c)).setIfInBounds w.heap.size o = w.heap.push o := by
      apply Array.ext_getElem?
      intro i
      rw [Array.getElem?_setIfInBounds, Array.getElem?_push, Array.getElem?_push]
      by_cases hi : i = w.heap.size
      · subst hi; simp
      · rw [if_neg (fun e => hi e.symm), if_neg hi, if_neg hi]
    show Result.ok () ({ w with heap := (w.heap.push (.map es c)).setIfInBounds w.heap.size o } : World) = Result.ok () { w with heap := w.heap.push o }
    rw [e]
  unfold Instr.mapUpdate
  simp [run_underlying Tryz.underlying85, Go.MapKept.run_getObj_map hb, hc, hk, hs, Result.andThen]

set_option maxRecDepth 100000 in
theorem rwants (w : World) : Calls Tryz.prog 78 #[] w fun e w' => e = .returned (.map (some w.heap.size)) ∧ w' = w.alloc (.map wantsM 6) := by
  have hmm := @run_makeMap Tryz.prog
  have p1 := put_want w #[] 0 ⟨#[97, 100, 100]⟩ (wantV 1 3000) rfl
  have p2 := put_want w #[⟨.string ⟨#[97, 100, 100]⟩, wantV 1 3000, 0⟩] 1 ⟨#[100, 114, 111, 112]⟩ (wantV 1 1) rfl
  have p3 := put_want w #[⟨.string ⟨#[97, 100, 100]⟩, wantV 1 3000, 0⟩, ⟨.string ⟨#[100, 114, 111, 112]⟩, wantV 1 1, 1⟩] 2 ⟨#[114, 97, 116, 101, 115]⟩ (wantV 0 0) rfl
  have p4 := put_want w #[⟨.string ⟨#[97, 100, 100]⟩, wantV 1 3000, 0⟩, ⟨.string ⟨#[100, 114, 111, 112]⟩, wantV 1 1, 1⟩, ⟨.string ⟨#[114, 97, 116, 101, 115]⟩, wantV 0 0, 2⟩] 3 ⟨#[108, 101, 97, 115, 116]⟩ (wantV 0 0) rfl
  have p5 := put_want w #[⟨.string ⟨#[97, 100, 100]⟩, wantV 1 3000, 0⟩, ⟨.string ⟨#[100, 114, 111, 112]⟩, wantV 1 1, 1⟩, ⟨.string ⟨#[114, 97, 116, 101, 115]⟩, wantV 0 0, 2⟩, ⟨.string ⟨#[108, 101, 97, 115, 116]⟩, wantV 0 0, 3⟩] 4 ⟨#[105, 110, 100, 101, 120]⟩ (wantV 1 3000) rfl
  have p6 := put_want w #[⟨.string ⟨#[97, 100, 100]⟩, wantV 1 3000, 0⟩, ⟨.string ⟨#[100, 114, 111, 112]⟩, wantV 1 1, 1⟩, ⟨.string ⟨#[114, 97, 116, 101, 115]⟩, wantV 0 0, 2⟩, ⟨.string ⟨#[108, 101, 97, 115, 116]⟩, wantV 0 0, 3⟩, ⟨.string ⟨#[105, 110, 100, 101, 120]⟩, wantV 1 3000, 4⟩] 5 ⟨#[115, 112, 108, 105, 116]⟩ (wantV 2 3000) rfl
  unfold wantsM
  unfold wantV at *
  simp only [List.push_toArray, List.cons_append, List.nil_append, Nat.reduceAdd] at p1 p2 p3 p4 p5 p6
  go_enter Tryz.func78, Tryz.ntmps78
  go_wp2
  go_ret
  exact ⟨rfl, rfl⟩

set_option maxRecDepth 100000 in
set_option maxHeartbeats 1000000 in
theorem rnewdesk (w : World) : Calls Tryz.prog 45 #[] w fun e w' => ∃ a r F, e = .returned (.agg #[.pointer (some a), .map (some r)]) ∧ DeskAt logX w' (.pointer (some a)) F [] 0 ∧ (∀ b, F b → w.heap.size ≤ b) ∧ w.heap.size ≤ r ∧ w'.heap[r]? = some (.map wantsM 6) ∧ ¬ F r ∧ Below w.heap.size w w' := by
  have HN : Hid (∀ (u : World) (g : Nat), u.cell? ⟨g, 0, none⟩ = some (.int .i64 12) → u.cell? ⟨g, 1, none⟩ = some (.int .i64 6) → u.cell? ⟨g, 2, none⟩ = some (.int .i64 4) → u.cell? ⟨g, 3, none⟩ = some (.int .i64 10) →
      Calls Tryz.prog 8 #[.slice (some ⟨g, 0, none⟩) 4 4] u fun e w' => ∃ a F, e = .returned (.tuple #[.pointer (some a), .nilIface]) ∧ DeskAt logX w' (.pointer (some a)) F [] 0 ∧ (∀ b, F b → u.heap.size ≤ b) ∧ Below u.heap.size u w') := fun u g c0 c1 c2 c3 => by
    refine desk_new lnew_said (Q := fun _ => True) ⟨_, 4, rfl, ⟨by decide, by decide⟩, .inr ⟨g, 0, rfl, fun i hi => ?_, trivial⟩⟩
    have hi' : i = 0 ∨ i = 1 ∨ i = 2 ∨ i = 3 := by have : i < 4 := hi; omega
    rcases hi' with rfl | rfl | rfl | rfl
    · exact c0
    · exact c1
    · exact c2
    · exact c3
  go_enter Tryz.func45, Tryz.ntmps45
  go_wp2_with fail
  refine (HN.out _ _ (by simp) (by simp) (by simp) (by simp)).mono ?_
  rintro e w1 ⟨a, F, rfl, hD, hF, hb1⟩
  have hz1 : w.heap.size + 2 ≤ w1.heap.size := by have := hb1.size; simpa using this
  have HD : Hid (DeskAt logX w1 (.pointer (some a)) F [] 0) := hD
  have HF : Hid (∀ b, F b → w.heap.size + 2 ≤ b) := fun b hb => by have := hF b hb; simpa using this
  have HB : Hid (Below w.heap.size w w1) := Bel.call (((Below.refl _ _).alloc (Nat.le_refl _) _).alloc (by simp) _) (by simp) hb1
  have R00 : RowAt (w.alloc (.cells #[.pointer none, .map none] 87)) w.heap.size 87 [.pointer none, .map none] := row_made _ _ _ _ _ rfl rfl
  have R0 : RowAt w1 w.heap.size 87 [.pointer none, .map none] := RowAt.later (B := w.heap.size + 2) ⟨hb1.os, hb1.tape, hb1.output, hb1.size, fun b hb => hb1.block b (by simp; omega)⟩ (by omega) (R00.alloc _)
  have d0 := R0.cell (i := 0) rfl
  have d1 := R0.cell (i := 1) rfl
  have x0 := R0.frozen
  have l0 := R0.lt
  have HR : Hid (RowAt w1 w.heap.size 87 [.pointer none, .map none]) := R0
  clear hD hF hb1 R0
  go_wp2_with fail
  refine (rwants _).mono ?_
  rintro e w2 ⟨rfl, rfl⟩
  go_wp2
  have HW : Hid (RowAt (((w1.setCell ⟨w.heap.size, 0, none⟩ (.pointer (some a))).setCell ⟨w.heap.size, 1, none⟩ (.map (some w1.heap.size))).alloc (.map wantsM 6)) w.heap.size 87 [.pointer (some a), .map (some w1.heap.size)]) := ((HR.out.set 0 (.pointer (some a))).set 1 (.map (some w1.heap.size))).alloc _
  refine bodyPost_ret (results_cell_row rfl _ _ w.heap.size 87 #[.pointer (some a), .map (some w1.heap.size)] (0, 0) _ rfl HW.out Tryz.underlying87 rfl (by kernel_rfl)) rfl ?_
  refine ⟨a, w1.heap.size, F, rfl, HD.out.keep (fun b hb => ?_), fun b hb => by have := HF.out b hb; omega, by omega, ?_, fun h => by have := HD.out.lt _ h; omega, ?_⟩
  · have := HF.out b hb
    have h2 := HD.out.lt b hb
    rw [heap_alloc_old _ _ (by simpa using h2), stay_set _ _ _ _ _ (by omega), stay_set _ _ _ _ _ (by omega)]
  · have := heap_alloc_new ((w1.setCell ⟨w.heap.size, 0, none⟩ (.pointer (some a))).setCell ⟨w.heap.size, 1, none⟩ (.map (some w1.heap.size))) (.map wantsM 6)
    simpa using this
  · exact ((HB.out.setCell (Nat.le_refl _) _).setCell (Nat.le_refl _) _).alloc (by simp; omega) _
end Ev
end Go.Proofs.YtpnmmmlckdkcdakGreatDoor
