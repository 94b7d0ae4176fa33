/- The rates of the flows over a link, whether one is greater, and the first of a path that is so. No Go in it. -/
import Derived.Test.YtdegbfgnbobgoacNkDef
namespace Go.Proofs.Ytdegbfgnbobgoac.Fl
open Fr Ns Ld
set_option linter.unusedSimpArgs false

def overL (paths : List (List Int)) (r : List (Int × Int)) (l : Int) : List (Int × Int) := (users paths l).map fun u => rP r u.toNat
theorem overL_step (paths : List (List Int)) (r : List (Int × Int)) (l : Int) (k : Nat) (h : k < paths.length) : overL (paths.take (k + 1)) r l = overL (paths.take k) r l ++ (if inB (paths.getD k []) l then [rP r k] else []) := by
  unfold overL
  rw [take_snoc paths k h [], users_snoc, List.map_append]
  congr 1
  have : (paths.take k).length = k := by rw [List.length_take]; omega
  rw [this]
  split <;> simp
theorem overL_length (paths : List (List Int)) (r : List (Int × Int)) (l : Int) : (overL paths r l).length ≤ paths.length := by
  unfold overL
  rw [List.length_map]
  exact users_length l 0 paths
theorem overL_right {paths : List (List Int)} {r : List (Int × Int)} (l : Int) (hl : r.length = paths.length) (hr : ratesE r = 0) : ∀ a ∈ overL paths r l, faultP a = 0 := by
  intro a ha
  obtain ⟨u, hu, rfl⟩ := List.mem_map.1 ha
  have := users_mem hu
  exact (ratesE_iff r).1 hr _ (getD_mem r _ (by omega) _)

def gtB (t a : Int × Int) : Bool := decide (0 < cmpI (a.1 * t.2) (t.1 * a.2))
def anyGr (l : List (Int × Int)) (t : Int × Int) : Bool := l.any (gtB t)
theorem mostB_over (paths : List (List Int)) (r : List (Int × Int)) (f : Nat) (x : Int) : mostB paths r f x = !anyGr (overL paths r x) (rP r f) := by
  unfold mostB anyGr overL gtB
  rw [List.any_map, List.all_eq_not_any_not]
  congr 2
  funext u
  simp only [Function.comp]
  rw [← decide_not]
  congr 1
  exact propext Int.not_le

/-- what IndexFunc hands back: the place of the first that is so, or -1 -/
def AtFirst (l : List Int) (p : Int → Bool) (j : Int) : Prop := (j = -1 ∧ l.find? p = none) ∨ ∃ i : Nat, j = i ∧ i < l.length ∧ l.find? p = some (l.getD i 0)
theorem find_snoc_no {l : List Int} {p : Int → Bool} {k : Nat} (h : k < l.length) (hn : (l.take k).find? p = none) (hx : p (l.getD k 0) = false) : (l.take (k + 1)).find? p = none := by
  rw [take_snoc l k h 0, List.find?_append, hn]
  simp only [Option.none_or, List.find?_cons, hx, List.find?_nil]
theorem find_at {l : List Int} {p : Int → Bool} {k : Nat} (h : k < l.length) (hn : (l.take k).find? p = none) (hx : p (l.getD k 0) = true) : l.find? p = some (l.getD k 0) := by
  have e : l = l.take k ++ l.drop k := (List.take_append_drop _ _).symm
  have : l.find? p = (l.take k ++ l.drop k).find? p := congrArg _ e
  rw [this, List.find?_append, hn, drop_cons l k h 0]
  simp only [Option.none_or, List.find?_cons, hx]
end Go.Proofs.Ytdegbfgnbobgoac.Fl
