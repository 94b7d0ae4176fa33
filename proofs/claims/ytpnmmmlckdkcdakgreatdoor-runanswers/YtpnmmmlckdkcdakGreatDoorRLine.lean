/- The document's Line (package fairref2) answers any line, and says which flows there are then. -/
import Derived.Test.YtpnmmmlckdkcdakGreatDoorRLnRatesRLnLeastAll
import Derived.Test.YtpnmmmlckdkcdakGreatDoorRLnAddRLnDropAll
import Derived.Test.YtpnmmmlckdkcdakGreatDoorRLnIndexRLnSplitAll
import Derived.Test.YtpnmmmlckdkcdakGreatDoorRLnBadARLnBadBRLnBadNAll
namespace Go.Proofs.YtpnmmmlckdkcdakGreatDoor
namespace Ev
open Go.RowKit Fr Ns Ld Fl
set_option linter.unusedSimpArgs false
set_option linter.unusedVariables false

theorem RLine_any {Q : Nat → Prop} (f : Flows) (s : Txt) (v : Value) (w : World) (h : NetAt Q w v capsR f) (hf : RightF f) (hs : s.length ≤ 3000) :
    Calls Tryz.prog 23 #[v, .string ⟨s.toArray⟩] w fun e w' => ∃ x, e = .returned (.tuple #[.string ⟨(lineT f s).toArray⟩, x]) ∧ NetAt (fun b => Q b ∨ w.heap.size ≤ b) w' x capsR (lineF f s) ∧ Below w.heap.size w w' := by
  cases hr : readT s with
  | false => exact line_bad_num f s v w h hf hs hr
  | true =>
    have hfe : ∀ b : Bool, (readT s && b) = b := fun b => by rw [hr]; rfl
    by_cases h1 : wordT s = tAdd
    · have e : fitsT s = decide (1 ≤ (numsT s).length) := by rw [fitsT, hfe, if_pos (.inl h1)]
      by_cases hc : 1 ≤ (numsT s).length
      · exact line_add f s v w h hf hs hr h1 hc
      · exact line_bad_add f s v w h hf hs hr (by rw [e]; exact decide_eq_false hc) h1 (by omega)
    · by_cases h2 : wordT s = tIndex
      · have e : fitsT s = decide (1 ≤ (numsT s).length) := by rw [fitsT, hfe, if_pos (.inr h2)]
        by_cases hc : 1 ≤ (numsT s).length
        · exact line_index f s v w h hf hs hr h2 hc
        · exact line_bad_index f s v w h hf hs hr (by rw [e]; exact decide_eq_false hc) h2 (by omega)
      · by_cases h3 : wordT s = tDrop
        · have e : fitsT s = decide ((numsT s).length = 1) := by rw [fitsT, hfe, if_neg (by simp [h1, h2]), if_pos h3]
          by_cases hc : (numsT s).length = 1
          · exact line_drop f s v w h hf hs hr h3 hc
          · by_cases hc2 : 1 < (numsT s).length
            · exact line_bad_drop2 f s v w h hf hs hr (by rw [e]; simp; omega) h3 hc2
            · exact line_bad_drop0 f s v w h hf hs hr (by rw [e]; simp; omega) h3 (by omega)
        · by_cases h4 : wordT s = tRates
          · have e : fitsT s = decide ((numsT s).length = 0) := by rw [fitsT, hfe, if_neg (by simp [h1, h2]), if_neg h3, if_pos (.inl h4)]
            by_cases hc : (numsT s).length = 0
            · exact line_rates f s v w h hf hs hr h4 hc
            · exact line_bad_rates f s v w h hf hs hr (by rw [e]; exact decide_eq_false hc) h4 (by omega)
          · by_cases h5 : wordT s = tLeast
            · have e : fitsT s = decide ((numsT s).length = 0) := by rw [fitsT, hfe, if_neg (by simp [h1, h2]), if_neg h3, if_pos (.inr h5)]
              by_cases hc : (numsT s).length = 0
              · exact line_least f s v w h hf hs hr h5 hc
              · exact line_bad_least f s v w h hf hs hr (by rw [e]; exact decide_eq_false hc) h5 (by omega)
            · by_cases h6 : wordT s = tSplit
              · have e : fitsT s = decide (2 ≤ (numsT s).length) := by rw [fitsT, hfe, if_neg (by simp [h1, h2]), if_neg h3, if_neg (by simp [h4, h5]), if_pos h6]
                by_cases hc : 2 ≤ (numsT s).length
                · exact line_split f s v w h hf hs hr h6 hc
                · exact line_bad_split f s v w h hf hs hr (by rw [e]; exact decide_eq_false hc) h6 (by omega)
              · have e : fitsT s = false := by rw [fitsT, hfe, if_neg (by simp [h1, h2]), if_neg h3, if_neg (by simp [h4, h5]), if_neg h6]
                exact line_bad_word f s v w h hf hs hr e _ rfl h1 h2 h3 h4 h5 h6 trivial
end Ev
end Go.Proofs.YtpnmmmlckdkcdakGreatDoor
