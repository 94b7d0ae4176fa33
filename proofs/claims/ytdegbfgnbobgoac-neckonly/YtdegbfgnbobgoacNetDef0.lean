/- Slices of int, slices of these, and a net: what a walk is told of them, and what stays of it. -/
import Derived.Test.YtdegbfgnbobgoacChecked
import Derived.Test.YtdegbfgnbobgoacPlains
import Derived.WalkKit
import Derived.WalkSpells
import Derived.WalkLawsBesides
import Derived.Deep.QuietTactic
import Derived.BigQuiet
import Derived.Deep.RegionHeld3
namespace Go.Proofs.Ytdegbfgnbobgoac
namespace Ns
open Go.RowKit
set_option linter.unusedSimpArgs false
set_option linter.unusedVariables false

/-- the slice v holds the numbers l in the world w, in a block of which Q holds -/
def IntsAt (Q : Nat → Prop) (w : World) (v : Value) (l : List Int) : Prop :=
  ∃ a cap, v = .slice a l.length cap ∧ (l.length ≤ cap ∧ l.length ≤ 9223372036854775807) ∧
    (l = [] ∨ ∃ b off, a = some ⟨b, off, none⟩ ∧ (∀ i, i < l.length → w.cell? ⟨b, off + i, none⟩ = some (.int .i64 (l.getD i 0))) ∧ Q b)

theorem IntsAt.later {Q : Nat → Prop} {w w' : World} {v : Value} {l : List Int} (hb : Below w.heap.size w w') (h : IntsAt Q w v l) : IntsAt Q w' v l := by
  obtain ⟨a, cap, rfl, hm, h⟩ := h
  refine ⟨a, cap, rfl, hm, ?_⟩
  rcases h with h | ⟨b, off, rfl, h, hQ⟩
  · exact .inl h
  · exact .inr ⟨b, off, rfl, fun i hi => cell_later hb (h i hi), hQ⟩
/-- only the blocks of which Q holds matter -/
theorem IntsAt.keep {Q R : Nat → Prop} {w w' : World} {v : Value} {l : List Int} (hk : ∀ b, Q b → b < w.heap.size → w'.heap[b]? = w.heap[b]?) (hQR : ∀ b, Q b → b < w.heap.size → R b) (h : IntsAt Q w v l) : IntsAt R w' v l := by
  obtain ⟨a, cap, rfl, hm, h⟩ := h
  refine ⟨a, cap, rfl, hm, ?_⟩
  rcases h with h | ⟨b, off, rfl, h, hQ⟩
  · exact .inl h
  · by_cases hl : l = []
    · exact .inl hl
    · have hb : b < w.heap.size := World.block_lt_of_cell? _ _ (h 0 (List.length_pos_iff.2 hl))
      refine .inr ⟨b, off, rfl, fun i hi => ?_, hQR b hQ hb⟩
      rw [World.cell?_of_block (w := w) (a := ⟨b, off + i, none⟩) (hk b hQ hb)]
      exact h i hi

theorem ret_bool {a b : Bool} (h : a = b) : Ending.returned (.bool a) = .returned (.bool b) := by rw [h]
theorem ret_int {k : IntKind} {a b : Int} (h : a = b) : Ending.returned (.int k a) = .returned (.int k b) := by rw [h]

theorem IntsAt.take {Q : Nat → Prop} {w : World} {b off cap : Nat} {l : List Int} (hm : l.length ≤ cap) (hm2 : l.length ≤ 9223372036854775807) (h : ∀ i, i < l.length → w.cell? ⟨b, off + i, none⟩ = some (.int .i64 (l.getD i 0))) (k : Nat) (hk : k ≤ l.length) (hQ : Q b) :
    IntsAt Q w (.slice (some ⟨b, off, none⟩) k cap) (l.take k) := by
  refine ⟨_, cap, by rw [List.length_take, Nat.min_eq_left hk], ⟨by rw [List.length_take]; omega, by rw [List.length_take]; omega⟩, .inr ⟨b, off, rfl, fun i hi => ?_, hQ⟩⟩
  rw [List.length_take] at hi
  rw [h i (by omega)]
  congr 2
  simp [List.getD, List.getElem?_take, show i < k by omega]

/-- the slice v holds the lists ll in the world w -/
def ListsAt (Q : Nat → Prop) (w : World) (v : Value) (ll : List (List Int)) : Prop :=
  ∃ a cap, v = .slice a ll.length cap ∧ (ll.length ≤ cap ∧ ll.length ≤ 9223372036854775807) ∧
    (ll = [] ∨ ∃ b off, a = some ⟨b, off, none⟩ ∧ (∀ i, i < ll.length → ∃ x, w.cell? ⟨b, off + i, none⟩ = some x ∧ IntsAt Q w x (ll.getD i [])) ∧ Q b)

theorem ListsAt.later {Q : Nat → Prop} {w w' : World} {v : Value} {l : List (List Int)} (hb : Below w.heap.size w w') (h : ListsAt Q w v l) : ListsAt Q w' v l := by
  obtain ⟨a, cap, rfl, hm, h⟩ := h
  refine ⟨a, cap, rfl, hm, ?_⟩
  rcases h with h | ⟨b, off, rfl, h, hQ⟩
  · exact .inl h
  · refine .inr ⟨b, off, rfl, fun i hi => ?_, hQ⟩
    obtain ⟨x, hx, hi⟩ := h i hi
    exact ⟨x, cell_later hb hx, hi.later hb⟩
theorem ListsAt.keep {Q R : Nat → Prop} {w w' : World} {v : Value} {l : List (List Int)} (hk : ∀ b, Q b → b < w.heap.size → w'.heap[b]? = w.heap[b]?) (hQR : ∀ b, Q b → b < w.heap.size → R b) (h : ListsAt Q w v l) : ListsAt R w' v l := by
  obtain ⟨a, cap, rfl, hm, h⟩ := h
  refine ⟨a, cap, rfl, hm, ?_⟩
  rcases h with h | ⟨b, off, rfl, h, hQ⟩
  · exact .inl h
  · by_cases hl : l = []
    · exact .inl hl
    · obtain ⟨x0, hx0, _⟩ := h 0 (List.length_pos_iff.2 hl)
      have hb : b < w.heap.size := World.block_lt_of_cell? _ _ hx0
      refine .inr ⟨b, off, rfl, fun i hi => ?_, hQR b hQ hb⟩
      obtain ⟨x, hx, hxi⟩ := h i hi
      exact ⟨x, by rw [World.cell?_of_block (w := w) (a := ⟨b, off + i, none⟩) (hk b hQ hb)]; exact hx, hxi.keep hk hQR⟩

/-- the value v is the net of these links and paths in the world w -/
def NetAt (Q : Nat → Prop) (w : World) (v : Value) (caps : List Int) (paths : List (List Int)) : Prop :=
  ∃ v1 v2, v = .agg #[v1, v2] ∧ IntsAt Q w v1 caps ∧ ListsAt Q w v2 paths
theorem NetAt.later {Q : Nat → Prop} {w w' : World} {v : Value} {c : List Int} {l : List (List Int)} (hb : Below w.heap.size w w') (h : NetAt Q w v c l) : NetAt Q w' v c l := by
  obtain ⟨v1, v2, rfl, h1, h2⟩ := h
  exact ⟨v1, v2, rfl, h1.later hb, h2.later hb⟩
theorem NetAt.keep {Q R : Nat → Prop} {w w' : World} {v : Value} {c : List Int} {l : List (List Int)} (hk : ∀ b, Q b → b < w.heap.size → w'.heap[b]? = w.heap[b]?) (hQR : ∀ b, Q b → b < w.heap.size → R b) (h : NetAt Q w v c l) : NetAt R w' v c l := by
  obtain ⟨v1, v2, rfl, h1, h2⟩ := h
  exact ⟨v1, v2, rfl, h1.keep hk hQR, h2.keep hk hQR⟩
/-- a store into a block of which Q does not hold -/
theorem NetAt.setCell {Q : Nat → Prop} {w : World} {v : Value} {c : List Int} {l : List (List Int)} (h : NetAt Q w v c l) {a : Addr} (ha : ¬ Q a.block) (u : Value) : NetAt Q (w.setCell a u) v c l :=
  h.keep (fun b hb _ => Below.heap_setCell w a u b (fun e => ha (e ▸ hb))) (fun _ h _ => h)

theorem NetAt.shape {Q : Nat → Prop} {w : World} {v : Value} {c : List Int} {l : List (List Int)} (h : NetAt Q w v c l) : ∃ a n k a' n' k', v = .agg #[.slice a n k, .slice a' n' k'] := by
  obtain ⟨_, _, rfl, ⟨_, _, rfl, _⟩, ⟨_, _, rfl, _⟩⟩ := h
  exact ⟨_, _, _, _, _, _, rfl⟩
theorem pathsFrom_cons (L : Int) (l : List (List Int)) (k : Nat) (h : k < l.length) :
    pathsFrom L (l.drop k) = if pathE L (l.getD k []) = 0 then pathsFrom L (l.drop (k + 1)) else pathE L (l.getD k []) := by
  rw [drop_cons l k h []]; rfl

theorem infoInt : (Try.prog.info? 3).map (fun i => (i.zero, i.size, i.bytes)) = some (some (.int .i64 0), 1, 8) := by kernel_rfl

/-- a row of ints that the call owns is a list -/
theorem ints_of_owns {Q : Nat → Prop} {w : World} {base : Nat} {v : Value} {l : List Int} (hl : l.length ≤ 9223372036854775807) (h : w.ownsRow base 3 1 v l.length (l.map (Value.int .i64))) (hQ : ∀ g, base ≤ g → Q g) : IntsAt Q w v l := by
  have h' := h
  obtain ⟨h0, h⟩ := h
  rcases h with ⟨rfl, h⟩ | ⟨g, cap, cur, rfl, hb, hg, hc, hm, hs, ht⟩
  · have : l = [] := List.eq_nil_of_length_eq_zero h
    subst this
    exact ⟨none, 0, rfl, ⟨Nat.le_refl _, by simp⟩, .inl rfl⟩
  · refine ⟨_, cap, rfl, ⟨hc, hl⟩, .inr ⟨g, 0, rfl, fun i hi => ?_, hQ g hb⟩⟩
    have := h'.cells (g := g) rfl i (.int .i64 (l.getD i 0)) (by simp [List.getD, List.getElem?_eq_getElem hi])
    have e : (⟨g, 0, none⟩ : Addr).add i = ⟨g, 0 + i, none⟩ := by unfold Addr.add; split <;> simp_all
    rw [e] at this
    exact this

/-- behind an append to a row of the call's own nothing below has turned -/
theorem rel_append {B : Nat} {W wr w1 : World} {e : TypeId} {sz n : Nat} {v : Value} {xs : List Value} {o : Obj} (hb : Below B W wr) (hs : B ≤ wr.heap.size) (ho : wr.ownsRow B e sz v n xs) (hg : (wr.alloc o).grownBy w1 v.ownBlock) : Below B W w1 :=
  (hb.alloc hs o).grown hg (by simp; omega) (fun k hk => (ho.lt k hk).1)

theorem users_step (paths : List (List Int)) (link : Int) (k : Nat) (h : k < paths.length) :
    users (paths.take (k + 1)) link = users (paths.take k) link ++ (if inB (paths.getD k []) link then [(k : Int)] else []) := by
  unfold users
  rw [take_snoc paths k h [], usersFrom_snoc]
  have : 0 + (paths.take k).length = k := by rw [List.length_take]; omega
  rw [this]

/-- the values in the cells of a list of lists -/
theorem ListsAt.vals {Q : Nat → Prop} {w : World} {v : Value} {ll : List (List Int)} (h : ListsAt Q w v ll) (hne : ll ≠ []) :
    ∃ b off cap vs, v = .slice (some ⟨b, off, none⟩) ll.length cap ∧ ll.length ≤ cap ∧ List.length vs = ll.length ∧ ∀ i, i < ll.length → w.cell? ⟨b, off + i, none⟩ = some (vs.getD i undef) ∧ IntsAt Q w (vs.getD i undef) (ll.getD i []) := by
  obtain ⟨a, cap, rfl, ⟨hm, hm2⟩, h⟩ := h
  rcases h with h | ⟨b, off, rfl, h, hQ⟩
  · exact absurd h hne
  · refine ⟨b, off, cap, (List.range ll.length).map (fun i => (w.cell? ⟨b, off + i, none⟩).getD undef), rfl, hm, by simp, fun i hi => ?_⟩
    obtain ⟨x, hx, hi'⟩ := h i hi
    have e : ((List.range ll.length).map (fun i => (w.cell? ⟨b, off + i, none⟩).getD undef)).getD i undef = x := by
      simp [List.getD, List.getElem?_range hi, hx]
    rw [e]
    exact ⟨hx, hi'⟩

theorem add_addr (b off i : Nat) : (⟨b, off, none⟩ : Addr).add i = ⟨b, off + i, none⟩ := by unfold Addr.add; split <;> simp_all

theorem ones {Q : Nat → Prop} {w : World} {vs : List Value} {ll : List (List Int)} (hl : vs.length = ll.length) (h : ∀ i, i < ll.length → IntsAt Q w (vs.getD i undef) (ll.getD i [])) : ∀ u ∈ vs, u.oneCell' = true := by
  intro u hu
  obtain ⟨i, hi, rfl⟩ := List.mem_iff_getElem.1 hu
  obtain ⟨a, c, e, _⟩ := h i (by omega)
  have : vs[i] = vs.getD i undef := by simp [List.getD, List.getElem?_eq_getElem hi]
  rw [this, e]
  rfl

theorem ints_snoc {Q : Nat → Prop} {w : World} {vs : List Value} {ll : List (List Int)} {v : Value} {l : List Int} (hl : vs.length = ll.length) (h : ∀ i, i < ll.length → IntsAt Q w (vs.getD i undef) (ll.getD i [])) (hv : IntsAt Q w v l) :
    ∀ i, i < (ll ++ [l]).length → IntsAt Q w ((vs ++ [v]).getD i undef) ((ll ++ [l]).getD i []) := by
  intro i hi
  by_cases hlt : i < ll.length
  · have e1 : (vs ++ [v]).getD i undef = vs.getD i undef := by simp [List.getD, List.getElem?_append_left (show i < vs.length by omega)]
    have e2 : (ll ++ [l]).getD i [] = ll.getD i [] := by simp [List.getD, List.getElem?_append_left hlt]
    rw [e1, e2]; exact h i hlt
  · have hi' : i = ll.length := by simp at hi; omega
    subst hi'
    have e1 : (vs ++ [v]).getD ll.length undef = v := by rw [← hl]; simp [List.getD]
    have e2 : (ll ++ [l]).getD ll.length [] = l := by simp [List.getD]
    rw [e1, e2]; exact hv
end Ns
end Go.Proofs.Ytdegbfgnbobgoac
