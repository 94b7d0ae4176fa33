/- Full links and narrow places as lists. No Go in it. -/
import Derived.Test.YtdegbfgnbobgoacNkPlain
namespace Go.Proofs.Ytdegbfgnbobgoac.Fl
open Fr Ns Ld
set_option linter.unusedSimpArgs false

/-- of the first k links those whose loads are just what they take -/
def fullTo (caps : List Int) (ls : List (Int × Int)) (k : Nat) : List Int := ((List.range k).filter fun l => decide (ls.getD l (0, 0) = (caps.getD l 0, 1))).map (fun l : Nat => (l : Int))
theorem fullTo_step (caps : List Int) (ls : List (Int × Int)) (k : Nat) : fullTo caps ls (k + 1) = fullTo caps ls k ++ (if ls.getD k (0, 0) = (caps.getD k 0, 1) then [(k : Int)] else []) := by
  unfold fullTo
  rw [List.range_succ, List.filter_append, List.map_append]
  congr 1
  simp only [List.filter_cons, List.filter_nil, decide_eq_true_eq]
  split <;> rfl
theorem fullTo_length (caps : List Int) (ls : List (Int × Int)) (k : Nat) : (fullTo caps ls k).length ≤ k := by
  unfold fullTo
  rw [List.length_map]
  exact Nat.le_trans (List.length_filter_le _ _) (by simp)

def necksL (caps : List Int) (paths : List (List Int)) (r : List (Int × Int)) : List Int := (List.range paths.length).map (neckOf caps paths r)
theorem necksL_length (caps : List Int) (paths : List (List Int)) (r : List (Int × Int)) : (necksL caps paths r).length = paths.length := by simp [necksL]
theorem necksL_at {caps : List Int} {paths : List (List Int)} {r : List (Int × Int)} {f : Nat} (h : f < paths.length) : (necksL caps paths r).getD f 0 = neckOf caps paths r f := by
  simp [necksL, List.getD, List.getElem?_map, List.getElem?_range h]
theorem in_full {caps : List Int} {paths : List (List Int)} {r : List (Int × Int)} {x : Int} (h0 : 0 ≤ x) (h1 : x < caps.length) : inB (fullTo caps (loadL paths r caps.length) caps.length) x = fullB caps paths r x.toNat := by
  have hl : x.toNat < caps.length := by omega
  have hd : (loadL paths r caps.length).getD x.toNat (0, 0) = (loadL paths r caps.length).getD x.toNat (0, 1) := by rw [loadL_getD _ _ _ _ hl, loadL_getD _ _ _ _ hl]
  rw [Bool.eq_iff_iff]
  unfold inB fullTo fullB
  rw [List.contains_iff_mem, List.mem_map]
  simp only [List.mem_filter, List.mem_range, decide_eq_true_eq, Bool.and_eq_true]
  constructor
  · rintro ⟨l, ⟨hl', he⟩, rfl⟩
    have e : ((l : Int)).toNat = l := by omega
    rw [e] at hd ⊢
    exact ⟨hl', by rw [← hd]; exact he⟩
  · rintro ⟨_, he⟩
    exact ⟨x.toNat, ⟨hl, by rw [hd]; exact he⟩, by omega⟩
/-- fair are rates that fit, of which no flow's narrow place is -1 -/
theorem fairB_eq (caps : List Int) (paths : List (List Int)) (r : List (Int × Int)) : fairB caps paths r = (fitsB caps paths r && !inB (necksL caps paths r) (-1)) := by
  unfold fairB
  congr 1
  rw [Bool.eq_iff_iff, List.all_eq_true]
  simp only [List.mem_range, decide_eq_true_eq, Bool.not_eq_true', inB, necksL]
  rw [← Bool.not_eq_true, List.contains_iff_mem, List.mem_map]
  constructor
  · rintro h ⟨f, hf, e⟩
    exact h f (List.mem_range.1 hf) e
  · intro h f hf e
    exact h ⟨f, List.mem_range.2 hf, e⟩
end Go.Proofs.Ytdegbfgnbobgoac.Fl
