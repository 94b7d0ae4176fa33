/- What package net's calls tell, in plain numbers. -/
import Derived.Test.YtdegbfgnbobgoacNetDef0
import Derived.Test.YtdegbfgnbobgoacErrV
namespace Go.Proofs.Ytdegbfgnbobgoac
namespace Ns
open Go.RowKit Fr
set_option linter.unusedSimpArgs false
set_option linter.unusedVariables false

/-- what comes out beside a fault: nothing -/
def okL {α : Type} (k : Int) (l : List α) : List α := if k = 0 then l else []
theorem okL_0 {α : Type} (l : List α) : okL 0 l = l := rfl
theorem okL_ne {α : Type} {k : Int} (h : k ≠ 0) (l : List α) : okL k l = [] := if_neg h
def usersE (caps : List Int) (paths : List (List Int)) (link : Int) : Int :=
  if netE caps paths = 0 then if link < 0 ∨ (caps.length : Int) ≤ link then 1 else 0 else netE caps paths
def addE (caps : List Int) (paths : List (List Int)) (path : List Int) : Int :=
  if netE caps paths = 0 then if paths.length = 6 then 4 else pathE caps.length path else netE caps paths
def dropE (caps : List Int) (paths : List (List Int)) (flow : Int) : Int :=
  if netE caps paths = 0 then if flow < 0 ∨ (paths.length : Int) ≤ flow then 1 else if paths.length = 1 then 5 else 0 else netE caps paths
def less (paths : List (List Int)) (flow : Int) : List (List Int) := paths.take flow.toNat ++ paths.drop (flow.toNat + 1)

theorem netE_0 {caps : List Int} {paths : List (List Int)} (h : netE caps paths = 0) :
    0 < caps.length ∧ caps.length ≤ 6 ∧ 0 < paths.length ∧ paths.length ≤ 6 ∧ linksE caps = 0 ∧ pathsFrom caps.length paths = 0 := by
  unfold netE at h
  split at h
  · omega
  · split at h
    · omega
    · split at h
      · refine ⟨by omega, by omega, by omega, by omega, by assumption, h⟩
      · contradiction
theorem netE_mk {caps : List Int} {paths : List (List Int)} (h : 0 < caps.length ∧ caps.length ≤ 6 ∧ 0 < paths.length ∧ paths.length ≤ 6 ∧ linksE caps = 0 ∧ pathsFrom caps.length paths = 0) : netE caps paths = 0 := by
  rw [netE, if_neg (by omega), if_neg (by omega), if_pos h.2.2.2.2.1]
  exact h.2.2.2.2.2
theorem pathsFrom_append (L : Int) (l m : List (List Int)) (h : pathsFrom L l = 0) : pathsFrom L (l ++ m) = pathsFrom L m := by
  induction l with
  | nil => rfl
  | cons p r ih =>
    simp only [List.cons_append, pathsFrom] at h ⊢
    split at h
    · rw [if_pos (by assumption)]; exact ih h
    · contradiction
theorem pathsFrom_one (L : Int) (p : List Int) : pathsFrom L [p] = pathE L p := by
  simp only [pathsFrom]
  split <;> simp_all
theorem pathsFrom_iff (L : Int) (l : List (List Int)) : pathsFrom L l = 0 ↔ ∀ p ∈ l, pathE L p = 0 := by
  induction l with
  | nil => simp [pathsFrom]
  | cons q r ih =>
    simp only [pathsFrom, List.mem_cons, forall_eq_or_imp]
    split
    · simp [ih, *]
    · simp [*]
/-- a net with a flow more is a net -/
theorem netE_add {caps : List Int} {paths : List (List Int)} {path : List Int} (h : addE caps paths path = 0) :
    netE caps paths = 0 ∧ paths.length < 6 ∧ pathE caps.length path = 0 ∧ netE caps (paths ++ [path]) = 0 := by
  unfold addE at h
  split at h
  · rename_i h0
    split at h
    · omega
    · have := netE_0 h0
      refine ⟨h0, by omega, h, netE_mk ⟨this.1, this.2.1, by simp, by simp; omega, this.2.2.2.2.1, ?_⟩⟩
      rw [pathsFrom_append _ _ _ this.2.2.2.2.2, pathsFrom_one, h]
  · contradiction
end Ns
end Go.Proofs.Ytdegbfgnbobgoac
