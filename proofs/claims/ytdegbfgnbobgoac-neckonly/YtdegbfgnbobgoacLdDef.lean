/- Slices of fractions: what a walk is told of them; and package fairsame's Fracs. -/
import Derived.Test.YtdegbfgnbobgoacNetDef0
import Derived.Test.YtdegbfgnbobgoacPlains
namespace Go.Proofs.Ytdegbfgnbobgoac
namespace Ld
open Go.RowKit Fr Ns
set_option linter.unusedSimpArgs false
set_option linter.unusedVariables false

/-- the slice v holds the fractions l in the world w, in a block of which Q holds -/
def FracsAt (Q : Nat → Prop) (w : World) (v : Value) (l : List (Int × Int)) : Prop :=
  ∃ a cap, v = .slice a l.length cap ∧ (l.length ≤ cap ∧ l.length ≤ 9223372036854775807) ∧
    (l = [] ∨ ∃ b off, a = some ⟨b, off, none⟩ ∧ (∀ i, i < l.length → w.cell? ⟨b, off + i * 2, none⟩ = some (.int .i64 (l.getD i (0, 0)).1) ∧ w.cell? ⟨b, off + i * 2 + 1, none⟩ = some (.int .i64 (l.getD i (0, 0)).2)) ∧ Q b)

theorem FracsAt.later {Q : Nat → Prop} {w w' : World} {v : Value} {l : List (Int × Int)} (hb : Below w.heap.size w w') (h : FracsAt Q w v l) : FracsAt Q w' v l := by
  obtain ⟨a, cap, rfl, hm, h⟩ := h
  refine ⟨a, cap, rfl, hm, ?_⟩
  rcases h with h | ⟨b, off, rfl, h, hQ⟩
  · exact .inl h
  · exact .inr ⟨b, off, rfl, fun i hi => ⟨cell_later hb (h i hi).1, cell_later hb (h i hi).2⟩, hQ⟩
theorem FracsAt.keep {Q R : Nat → Prop} {w w' : World} {v : Value} {l : List (Int × Int)} (hk : ∀ b, Q b → b < w.heap.size → w'.heap[b]? = w.heap[b]?) (hQR : ∀ b, Q b → b < w.heap.size → R b) (h : FracsAt Q w v l) : FracsAt R w' v l := by
  obtain ⟨a, cap, rfl, hm, h⟩ := h
  refine ⟨a, cap, rfl, hm, ?_⟩
  rcases h with h | ⟨b, off, rfl, h, hQ⟩
  · exact .inl h
  · by_cases hl : l = []
    · exact .inl hl
    · have hb : b < w.heap.size := World.block_lt_of_cell? _ _ (h 0 (List.length_pos_iff.2 hl)).1
      refine .inr ⟨b, off, rfl, fun i hi => ?_, hQR b hQ hb⟩
      rw [World.cell?_of_block (w := w) (a := ⟨b, off + i * 2, none⟩) (hk b hQ hb), World.cell?_of_block (w := w) (a := ⟨b, off + i * 2 + 1, none⟩) (hk b hQ hb)]
      exact h i hi
theorem FracsAt.shape {Q : Nat → Prop} {w : World} {v : Value} {l : List (Int × Int)} (h : FracsAt Q w v l) : ∃ a n k, v = .slice a n k := by
  obtain ⟨_, _, rfl, _⟩ := h
  exact ⟨_, _, _, rfl⟩
theorem fracs_nil (Q : Nat → Prop) (w : World) : FracsAt Q w (.slice none 0 0) [] := ⟨none, 0, rfl, ⟨Nat.le_refl _, by simp⟩, .inl rfl⟩

theorem cell_set2 {w : World} {g : Nat} {x y z z' : Value} (h0 : w.cell? ⟨g, 0, none⟩ = some z) (h1 : w.cell? ⟨g, 1, none⟩ = some z') :
    ((w.setCell ⟨g, 0, none⟩ x).setCell ⟨g, 1, none⟩ y).cell? ⟨g, 0, none⟩ = some x ∧ ((w.setCell ⟨g, 0, none⟩ x).setCell ⟨g, 1, none⟩ y).cell? ⟨g, 1, none⟩ = some y := by
  constructor <;> go_simp
theorem infoFrac : (Try.prog.info? 37).map (fun i => (i.zero, i.size, i.bytes)) = some (some (.agg #[.int .i64 0, .int .i64 0]), 2, 16) := by kernel_rfl

/-- the cells of a row of fractions -/
def flat : List (Int × Int) → List Value
  | [] => []
  | a :: r => .int .i64 a.1 :: .int .i64 a.2 :: flat r
theorem flat_length (l : List (Int × Int)) : (flat l).length = l.length * 2 := by
  induction l with
  | nil => rfl
  | cons a r ih => simp [flat, ih]; omega
theorem flat_append (l m : List (Int × Int)) : flat (l ++ m) = flat l ++ flat m := by
  induction l with
  | nil => rfl
  | cons a r ih => simp [flat, ih]
theorem flat_at : ∀ (l : List (Int × Int)) (i : Nat), i < l.length → (flat l)[i * 2]? = some (.int .i64 (l.getD i (0, 0)).1) ∧ (flat l)[i * 2 + 1]? = some (.int .i64 (l.getD i (0, 0)).2) := by
  intro l
  induction l with
  | nil => intro i h; simp at h
  | cons a r ih =>
    intro i h
    cases i with
    | zero => simp [flat]
    | succ i =>
      have := ih i (by simpa using h)
      rw [show (i + 1) * 2 = i * 2 + 1 + 1 by omega]
      simpa [flat] using this
/-- a row of fractions that the call owns is a list -/
theorem fracs_of_owns {Q : Nat → Prop} {w : World} {base : Nat} {v : Value} {l : List (Int × Int)} (hl : l.length ≤ 9223372036854775807) (h : w.ownsRow base 37 2 v l.length (flat l)) (hQ : ∀ g, base ≤ g → Q g) : FracsAt Q w v l := by
  have h' := h
  obtain ⟨h0, h⟩ := h
  rcases h with ⟨rfl, h⟩ | ⟨g, cap, cur, rfl, hb, hg, hc, hm, hs, ht⟩
  · have : l = [] := List.eq_nil_of_length_eq_zero h
    subst this
    exact fracs_nil _ _
  · refine ⟨_, cap, rfl, ⟨hc, hl⟩, .inr ⟨g, 0, rfl, fun i hi => ?_, hQ g hb⟩⟩
    have e := flat_at l i hi
    have c1 := h'.cells (g := g) rfl (i * 2) _ e.1
    have c2 := h'.cells (g := g) rfl (i * 2 + 1) _ e.2
    rw [add_addr] at c1 c2
    exact ⟨c1, by rw [Nat.add_assoc]; exact c2⟩
/-- the two cells of a fraction that is appended -/
theorem news_two (w : World) (x y : Value) (T : TypeId) : ∀ j u, [x, y][j]? = some u → (w.alloc (.cells #[x, y] T)).cell? ((⟨w.heap.size, 0, none⟩ : Addr).add j) = some u := by
  intro j u hj
  match j, hj with
  | 0, hj => simp at hj; subst hj; simp [Addr.add]
  | 1, hj => simp at hj; subst hj; simp [Addr.add]
theorem ones_two (a b : Int) : ∀ u ∈ [Value.int .i64 a, Value.int .i64 b], u.oneCell' = true := by
  intro u hu
  simp at hu
  rcases hu with rfl | rfl <;> rfl
end Ld
end Go.Proofs.Ytdegbfgnbobgoac
