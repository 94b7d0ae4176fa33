/- Facts and contracts that the walks lean on, one text behind the other; no walk of Go in them. -/
import Derived.Test.YtgacckmgbalggaiChecked
import Derived.WalkKit
import Derived.WalkSpells
import Derived.WalkLawsBesides
import Derived.Deep.QuietTactic
import Derived.BigQuiet
import Derived.Deep.RegionHeld3
import Derived.OwnWalk
import Derived.ProofKit
import Derived.OpenShut
import Derived.Lib.SmallJoins
/- An error as a value, and old memory behind a contract. -/
namespace Go.Proofs.Ytgacckmgbalggai
namespace Fr
open Go.RowKit

/-- an error value: none, or the number in an api.Errno -/
def errV (k : Int) : Value := if k = 0 then .nilIface else .iface 63 (.int .i64 k)
theorem errV_0 : errV 0 = .nilIface := rfl
theorem errV_ne {k : Int} (h : k ≠ 0) : errV k = .iface 63 (.int .i64 k) := by simp [errV, h]

theorem bcell {W w1 : World} (hb : Below W.heap.size W w1) : (∀ b o, b < W.heap.size → w1.cell? ⟨b, o, none⟩ = W.cell? ⟨b, o, none⟩) ∧ (∀ b o, b < W.heap.size → w1.frozen? ⟨b, o, none⟩ = W.frozen? ⟨b, o, none⟩) :=
  ⟨fun b o h => hb.cell (p := ⟨b, o, none⟩) h, fun b o h => hb.frozen (p := ⟨b, o, none⟩) h⟩

end Fr
end Go.Proofs.Ytgacckmgbalggai

/- Plain facts on nets: which number is in a list, what is wrong with links, a path, a net. No Go in it. -/
namespace Go.Proofs.Ytgacckmgbalggai.Ns

def inB (l : List Int) (n : Int) : Bool := l.contains n
theorem inB_nil (n : Int) : inB [] n = false := rfl
theorem inB_snoc (l : List Int) (x n : Int) : inB (l ++ [x]) n = (inB l n || x == n) := by
  rw [Bool.eq_iff_iff]
  simp [inB]
  constructor
  · rintro (h | h)
    · exact .inl h
    · exact .inr h.symm
  · rintro (h | h)
    · exact .inl h
    · exact .inr h.symm
theorem inB_of_mem {l : List Int} {n : Int} (h : n ∈ l) : inB l n = true := by simpa [inB] using h
theorem take_snoc {α : Type} (l : List α) (k : Nat) (h : k < l.length) (d : α) : l.take (k + 1) = l.take k ++ [l.getD k d] := by
  rw [List.take_succ_eq_append_getElem h]
  simp [List.getD, List.getElem?_eq_getElem h]
theorem drop_cons {α : Type} (l : List α) (k : Nat) (h : k < l.length) (d : α) : l.drop k = l.getD k d :: l.drop (k + 1) := by
  rw [List.drop_eq_getElem_cons h]
  simp [List.getD, List.getElem?_eq_getElem h]
theorem getD_mem {α : Type} (l : List α) (k : Nat) (h : k < l.length) (d : α) : l.getD k d ∈ l := by
  simp [List.getD, List.getElem?_eq_getElem h]

/-- what is wrong with links: 5 there is none, 4 too many, 1 one is out of bounds, 0 nothing -/
def capsFrom : List Int → Int
  | [] => 0
  | x :: r => if x < 1 ∨ 1000 < x then 1 else capsFrom r
def linksE (l : List Int) : Int := if l.length = 0 then 5 else if 6 < l.length then 4 else capsFrom l
/-- what is wrong with a path, behind the links that it went over -/
def pathFrom (links : Int) : List Int → List Int → Int
  | _, [] => 0
  | seen, x :: r => if x < 0 ∨ links ≤ x then 1 else if inB seen x then 7 else pathFrom links (seen ++ [x]) r
def pathE (links : Int) (p : List Int) : Int := if p.length = 0 then 5 else pathFrom links [] p
/-- what is wrong with some paths: the first fault -/
def pathsFrom (links : Int) : List (List Int) → Int
  | [] => 0
  | p :: r => if pathE links p = 0 then pathsFrom links r else pathE links p
def netE (caps : List Int) (paths : List (List Int)) : Int :=
  if caps.length = 0 ∨ paths.length = 0 then 5 else if 6 < caps.length ∨ 6 < paths.length then 4
  else if linksE caps = 0 then pathsFrom caps.length paths else linksE caps

theorem capsFrom_bd (l : List Int) : 0 ≤ capsFrom l ∧ capsFrom l ≤ 1 := by
  induction l with
  | nil => simp [capsFrom]
  | cons x r ih => unfold capsFrom; split <;> omega
theorem pathFrom_bd (links : Int) (s l : List Int) : 0 ≤ pathFrom links s l ∧ pathFrom links s l ≤ 7 := by
  induction l generalizing s with
  | nil => simp [pathFrom]
  | cons x r ih => unfold pathFrom; split; omega; split; omega; exact ih _

/-- who goes over a link: the flows' numbers, rising -/
def usersFrom (link : Int) : Nat → List (List Int) → List Int
  | _, [] => []
  | i, p :: r => if inB p link then (i : Int) :: usersFrom link (i + 1) r else usersFrom link (i + 1) r
def users (paths : List (List Int)) (link : Int) : List Int := usersFrom link 0 paths
theorem usersFrom_snoc (link : Int) (i : Nat) (l : List (List Int)) (p : List Int) :
    usersFrom link i (l ++ [p]) = usersFrom link i l ++ (if inB p link then [((i + l.length : Nat) : Int)] else []) := by
  induction l generalizing i with
  | nil => simp [usersFrom]
  | cons q r ih =>
    simp only [List.cons_append, usersFrom, ih]
    have : i + 1 + r.length = i + (q :: r).length := by simp; omega
    rw [this]
    split <;> simp
theorem users_length (link : Int) (i : Nat) (l : List (List Int)) : (usersFrom link i l).length ≤ l.length := by
  induction l generalizing i with
  | nil => simp [usersFrom]
  | cons q r ih => unfold usersFrom; have := ih (i + 1); split <;> simp <;> omega

end Go.Proofs.Ytgacckmgbalggai.Ns

/- Slices of int, slices of these, and a net: what a walk is told of them, and what stays of it. -/
namespace Go.Proofs.Ytgacckmgbalggai
namespace Ns
open Go.RowKit
set_option linter.unusedSimpArgs false
set_option linter.unusedVariables false

/-- the slice v holds the numbers l in the world w, in a block of which Q holds -/
def IntsAt (Q : Nat → Prop) (w : World) (v : Value) (l : List Int) : Prop :=
  ∃ a cap, v = .slice a l.length cap ∧ (l.length ≤ cap ∧ l.length ≤ 9223372036854775807) ∧
    (l = [] ∨ ∃ b off, a = some ⟨b, off, none⟩ ∧ (∀ i, i < l.length → w.cell? ⟨b, off + i, none⟩ = some (.int .i64 (l.getD i 0))) ∧ Q b)

theorem IntsAt.later {Q : Nat → Prop} {w w' : World} {v : Value} {l : List Int} (hb : Below w.heap.size w w') (h : IntsAt Q w v l) : IntsAt Q w' v l := by
  obtain ⟨a, cap, rfl, hm, h⟩ := h
  refine ⟨a, cap, rfl, hm, ?_⟩
  rcases h with h | ⟨b, off, rfl, h, hQ⟩
  · exact .inl h
  · exact .inr ⟨b, off, rfl, fun i hi => cell_later hb (h i hi), hQ⟩
/-- only the blocks of which Q holds matter -/
theorem IntsAt.keep {Q R : Nat → Prop} {w w' : World} {v : Value} {l : List Int} (hk : ∀ b, Q b → b < w.heap.size → w'.heap[b]? = w.heap[b]?) (hQR : ∀ b, Q b → b < w.heap.size → R b) (h : IntsAt Q w v l) : IntsAt R w' v l := by
  obtain ⟨a, cap, rfl, hm, h⟩ := h
  refine ⟨a, cap, rfl, hm, ?_⟩
  rcases h with h | ⟨b, off, rfl, h, hQ⟩
  · exact .inl h
  · by_cases hl : l = []
    · exact .inl hl
    · have hb : b < w.heap.size := World.block_lt_of_cell? _ _ (h 0 (List.length_pos_iff.2 hl))
      refine .inr ⟨b, off, rfl, fun i hi => ?_, hQR b hQ hb⟩
      rw [World.cell?_of_block (w := w) (a := ⟨b, off + i, none⟩) (hk b hQ hb)]
      exact h i hi

theorem ret_bool {a b : Bool} (h : a = b) : Ending.returned (.bool a) = .returned (.bool b) := by rw [h]
theorem ret_int {k : IntKind} {a b : Int} (h : a = b) : Ending.returned (.int k a) = .returned (.int k b) := by rw [h]

theorem IntsAt.take {Q : Nat → Prop} {w : World} {b off cap : Nat} {l : List Int} (hm : l.length ≤ cap) (hm2 : l.length ≤ 9223372036854775807) (h : ∀ i, i < l.length → w.cell? ⟨b, off + i, none⟩ = some (.int .i64 (l.getD i 0))) (k : Nat) (hk : k ≤ l.length) (hQ : Q b) :
    IntsAt Q w (.slice (some ⟨b, off, none⟩) k cap) (l.take k) := by
  refine ⟨_, cap, by rw [List.length_take, Nat.min_eq_left hk], ⟨by rw [List.length_take]; omega, by rw [List.length_take]; omega⟩, .inr ⟨b, off, rfl, fun i hi => ?_, hQ⟩⟩
  rw [List.length_take] at hi
  rw [h i (by omega)]
  congr 2
  simp [List.getD, List.getElem?_take, show i < k by omega]

/-- the slice v holds the lists ll in the world w -/
def ListsAt (Q : Nat → Prop) (w : World) (v : Value) (ll : List (List Int)) : Prop :=
  ∃ a cap, v = .slice a ll.length cap ∧ (ll.length ≤ cap ∧ ll.length ≤ 9223372036854775807) ∧
    (ll = [] ∨ ∃ b off, a = some ⟨b, off, none⟩ ∧ (∀ i, i < ll.length → ∃ x, w.cell? ⟨b, off + i, none⟩ = some x ∧ IntsAt Q w x (ll.getD i [])) ∧ Q b)

theorem ListsAt.later {Q : Nat → Prop} {w w' : World} {v : Value} {l : List (List Int)} (hb : Below w.heap.size w w') (h : ListsAt Q w v l) : ListsAt Q w' v l := by
  obtain ⟨a, cap, rfl, hm, h⟩ := h
  refine ⟨a, cap, rfl, hm, ?_⟩
  rcases h with h | ⟨b, off, rfl, h, hQ⟩
  · exact .inl h
  · refine .inr ⟨b, off, rfl, fun i hi => ?_, hQ⟩
    obtain ⟨x, hx, hi⟩ := h i hi
    exact ⟨x, cell_later hb hx, hi.later hb⟩
theorem ListsAt.keep {Q R : Nat → Prop} {w w' : World} {v : Value} {l : List (List Int)} (hk : ∀ b, Q b → b < w.heap.size → w'.heap[b]? = w.heap[b]?) (hQR : ∀ b, Q b → b < w.heap.size → R b) (h : ListsAt Q w v l) : ListsAt R w' v l := by
  obtain ⟨a, cap, rfl, hm, h⟩ := h
  refine ⟨a, cap, rfl, hm, ?_⟩
  rcases h with h | ⟨b, off, rfl, h, hQ⟩
  · exact .inl h
  · by_cases hl : l = []
    · exact .inl hl
    · obtain ⟨x0, hx0, _⟩ := h 0 (List.length_pos_iff.2 hl)
      have hb : b < w.heap.size := World.block_lt_of_cell? _ _ hx0
      refine .inr ⟨b, off, rfl, fun i hi => ?_, hQR b hQ hb⟩
      obtain ⟨x, hx, hxi⟩ := h i hi
      exact ⟨x, by rw [World.cell?_of_block (w := w) (a := ⟨b, off + i, none⟩) (hk b hQ hb)]; exact hx, hxi.keep hk hQR⟩

/-- the value v is the net of these links and paths in the world w -/
def NetAt (Q : Nat → Prop) (w : World) (v : Value) (caps : List Int) (paths : List (List Int)) : Prop :=
  ∃ v1 v2, v = .agg #[v1, v2] ∧ IntsAt Q w v1 caps ∧ ListsAt Q w v2 paths
theorem NetAt.later {Q : Nat → Prop} {w w' : World} {v : Value} {c : List Int} {l : List (List Int)} (hb : Below w.heap.size w w') (h : NetAt Q w v c l) : NetAt Q w' v c l := by
  obtain ⟨v1, v2, rfl, h1, h2⟩ := h
  exact ⟨v1, v2, rfl, h1.later hb, h2.later hb⟩
theorem NetAt.keep {Q R : Nat → Prop} {w w' : World} {v : Value} {c : List Int} {l : List (List Int)} (hk : ∀ b, Q b → b < w.heap.size → w'.heap[b]? = w.heap[b]?) (hQR : ∀ b, Q b → b < w.heap.size → R b) (h : NetAt Q w v c l) : NetAt R w' v c l := by
  obtain ⟨v1, v2, rfl, h1, h2⟩ := h
  exact ⟨v1, v2, rfl, h1.keep hk hQR, h2.keep hk hQR⟩
/-- a store into a block of which Q does not hold -/
theorem NetAt.setCell {Q : Nat → Prop} {w : World} {v : Value} {c : List Int} {l : List (List Int)} (h : NetAt Q w v c l) {a : Addr} (ha : ¬ Q a.block) (u : Value) : NetAt Q (w.setCell a u) v c l :=
  h.keep (fun b hb _ => Below.heap_setCell w a u b (fun e => ha (e ▸ hb))) (fun _ h _ => h)

theorem NetAt.shape {Q : Nat → Prop} {w : World} {v : Value} {c : List Int} {l : List (List Int)} (h : NetAt Q w v c l) : ∃ a n k a' n' k', v = .agg #[.slice a n k, .slice a' n' k'] := by
  obtain ⟨_, _, rfl, ⟨_, _, rfl, _⟩, ⟨_, _, rfl, _⟩⟩ := h
  exact ⟨_, _, _, _, _, _, rfl⟩
theorem pathsFrom_cons (L : Int) (l : List (List Int)) (k : Nat) (h : k < l.length) :
    pathsFrom L (l.drop k) = if pathE L (l.getD k []) = 0 then pathsFrom L (l.drop (k + 1)) else pathE L (l.getD k []) := by
  rw [drop_cons l k h []]; rfl

theorem infoInt : (Try.prog.info? 3).map (fun i => (i.zero, i.size, i.bytes)) = some (some (.int .i64 0), 1, 8) := by kernel_rfl

/-- a row of ints that the call owns is a list -/
theorem ints_of_owns {Q : Nat → Prop} {w : World} {base : Nat} {v : Value} {l : List Int} (hl : l.length ≤ 9223372036854775807) (h : w.ownsRow base 3 1 v l.length (l.map (Value.int .i64))) (hQ : ∀ g, base ≤ g → Q g) : IntsAt Q w v l := by
  have h' := h
  obtain ⟨h0, h⟩ := h
  rcases h with ⟨rfl, h⟩ | ⟨g, cap, cur, rfl, hb, hg, hc, hm, hs, ht⟩
  · have : l = [] := List.eq_nil_of_length_eq_zero h
    subst this
    exact ⟨none, 0, rfl, ⟨Nat.le_refl _, by simp⟩, .inl rfl⟩
  · refine ⟨_, cap, rfl, ⟨hc, hl⟩, .inr ⟨g, 0, rfl, fun i hi => ?_, hQ g hb⟩⟩
    have := h'.cells (g := g) rfl i (.int .i64 (l.getD i 0)) (by simp [List.getD, List.getElem?_eq_getElem hi])
    have e : (⟨g, 0, none⟩ : Addr).add i = ⟨g, 0 + i, none⟩ := by unfold Addr.add; split <;> simp_all
    rw [e] at this
    exact this

/-- behind an append to a row of the call's own nothing below has turned -/
theorem rel_append {B : Nat} {W wr w1 : World} {e : TypeId} {sz n : Nat} {v : Value} {xs : List Value} {o : Obj} (hb : Below B W wr) (hs : B ≤ wr.heap.size) (ho : wr.ownsRow B e sz v n xs) (hg : (wr.alloc o).grownBy w1 v.ownBlock) : Below B W w1 :=
  (hb.alloc hs o).grown hg (by simp; omega) (fun k hk => (ho.lt k hk).1)

theorem users_step (paths : List (List Int)) (link : Int) (k : Nat) (h : k < paths.length) :
    users (paths.take (k + 1)) link = users (paths.take k) link ++ (if inB (paths.getD k []) link then [(k : Int)] else []) := by
  unfold users
  rw [take_snoc paths k h [], usersFrom_snoc]
  have : 0 + (paths.take k).length = k := by rw [List.length_take]; omega
  rw [this]

/-- the values in the cells of a list of lists -/
theorem ListsAt.vals {Q : Nat → Prop} {w : World} {v : Value} {ll : List (List Int)} (h : ListsAt Q w v ll) (hne : ll ≠ []) :
    ∃ b off cap vs, v = .slice (some ⟨b, off, none⟩) ll.length cap ∧ ll.length ≤ cap ∧ List.length vs = ll.length ∧ ∀ i, i < ll.length → w.cell? ⟨b, off + i, none⟩ = some (vs.getD i undef) ∧ IntsAt Q w (vs.getD i undef) (ll.getD i []) := by
  obtain ⟨a, cap, rfl, ⟨hm, hm2⟩, h⟩ := h
  rcases h with h | ⟨b, off, rfl, h, hQ⟩
  · exact absurd h hne
  · refine ⟨b, off, cap, (List.range ll.length).map (fun i => (w.cell? ⟨b, off + i, none⟩).getD undef), rfl, hm, by simp, fun i hi => ?_⟩
    obtain ⟨x, hx, hi'⟩ := h i hi
    have e : ((List.range ll.length).map (fun i => (w.cell? ⟨b, off + i, none⟩).getD undef)).getD i undef = x := by
      simp [List.getD, List.getElem?_range hi, hx]
    rw [e]
    exact ⟨hx, hi'⟩

theorem add_addr (b off i : Nat) : (⟨b, off, none⟩ : Addr).add i = ⟨b, off + i, none⟩ := by unfold Addr.add; split <;> simp_all

theorem ones {Q : Nat → Prop} {w : World} {vs : List Value} {ll : List (List Int)} (hl : vs.length = ll.length) (h : ∀ i, i < ll.length → IntsAt Q w (vs.getD i undef) (ll.getD i [])) : ∀ u ∈ vs, u.oneCell' = true := by
  intro u hu
  obtain ⟨i, hi, rfl⟩ := List.mem_iff_getElem.1 hu
  obtain ⟨a, c, e, _⟩ := h i (by omega)
  have : vs[i] = vs.getD i undef := by simp [List.getD, List.getElem?_eq_getElem hi]
  rw [this, e]
  rfl

theorem ints_snoc {Q : Nat → Prop} {w : World} {vs : List Value} {ll : List (List Int)} {v : Value} {l : List Int} (hl : vs.length = ll.length) (h : ∀ i, i < ll.length → IntsAt Q w (vs.getD i undef) (ll.getD i [])) (hv : IntsAt Q w v l) :
    ∀ i, i < (ll ++ [l]).length → IntsAt Q w ((vs ++ [v]).getD i undef) ((ll ++ [l]).getD i []) := by
  intro i hi
  by_cases hlt : i < ll.length
  · have e1 : (vs ++ [v]).getD i undef = vs.getD i undef := by simp [List.getD, List.getElem?_append_left (show i < vs.length by omega)]
    have e2 : (ll ++ [l]).getD i [] = ll.getD i [] := by simp [List.getD, List.getElem?_append_left hlt]
    rw [e1, e2]; exact h i hlt
  · have hi' : i = ll.length := by simp at hi; omega
    subst hi'
    have e1 : (vs ++ [v]).getD ll.length undef = v := by rw [← hl]; simp [List.getD]
    have e2 : (ll ++ [l]).getD ll.length [] = l := by simp [List.getD]
    rw [e1, e2]; exact hv
end Ns
end Go.Proofs.Ytgacckmgbalggai

/- What package net's calls tell, in plain numbers. -/
namespace Go.Proofs.Ytgacckmgbalggai
namespace Ns
open Go.RowKit Fr
set_option linter.unusedSimpArgs false
set_option linter.unusedVariables false

/-- what comes out beside a fault: nothing -/
def okL {α : Type} (k : Int) (l : List α) : List α := if k = 0 then l else []
theorem okL_0 {α : Type} (l : List α) : okL 0 l = l := rfl
theorem okL_ne {α : Type} {k : Int} (h : k ≠ 0) (l : List α) : okL k l = [] := if_neg h
def usersE (caps : List Int) (paths : List (List Int)) (link : Int) : Int :=
  if netE caps paths = 0 then if link < 0 ∨ (caps.length : Int) ≤ link then 1 else 0 else netE caps paths
def addE (caps : List Int) (paths : List (List Int)) (path : List Int) : Int :=
  if netE caps paths = 0 then if paths.length = 6 then 4 else pathE caps.length path else netE caps paths
def dropE (caps : List Int) (paths : List (List Int)) (flow : Int) : Int :=
  if netE caps paths = 0 then if flow < 0 ∨ (paths.length : Int) ≤ flow then 1 else if paths.length = 1 then 5 else 0 else netE caps paths
def less (paths : List (List Int)) (flow : Int) : List (List Int) := paths.take flow.toNat ++ paths.drop (flow.toNat + 1)

theorem netE_0 {caps : List Int} {paths : List (List Int)} (h : netE caps paths = 0) :
    0 < caps.length ∧ caps.length ≤ 6 ∧ 0 < paths.length ∧ paths.length ≤ 6 ∧ linksE caps = 0 ∧ pathsFrom caps.length paths = 0 := by
  unfold netE at h
  split at h
  · omega
  · split at h
    · omega
    · split at h
      · refine ⟨by omega, by omega, by omega, by omega, by assumption, h⟩
      · contradiction
theorem netE_mk {caps : List Int} {paths : List (List Int)} (h : 0 < caps.length ∧ caps.length ≤ 6 ∧ 0 < paths.length ∧ paths.length ≤ 6 ∧ linksE caps = 0 ∧ pathsFrom caps.length paths = 0) : netE caps paths = 0 := by
  rw [netE, if_neg (by omega), if_neg (by omega), if_pos h.2.2.2.2.1]
  exact h.2.2.2.2.2
theorem pathsFrom_append (L : Int) (l m : List (List Int)) (h : pathsFrom L l = 0) : pathsFrom L (l ++ m) = pathsFrom L m := by
  induction l with
  | nil => rfl
  | cons p r ih =>
    simp only [List.cons_append, pathsFrom] at h ⊢
    split at h
    · rw [if_pos (by assumption)]; exact ih h
    · contradiction
theorem pathsFrom_one (L : Int) (p : List Int) : pathsFrom L [p] = pathE L p := by
  simp only [pathsFrom]
  split <;> simp_all
theorem pathsFrom_iff (L : Int) (l : List (List Int)) : pathsFrom L l = 0 ↔ ∀ p ∈ l, pathE L p = 0 := by
  induction l with
  | nil => simp [pathsFrom]
  | cons q r ih =>
    simp only [pathsFrom, List.mem_cons, forall_eq_or_imp]
    split
    · simp [ih, *]
    · simp [*]
/-- a net with a flow more is a net -/
theorem netE_add {caps : List Int} {paths : List (List Int)} {path : List Int} (h : addE caps paths path = 0) :
    netE caps paths = 0 ∧ paths.length < 6 ∧ pathE caps.length path = 0 ∧ netE caps (paths ++ [path]) = 0 := by
  unfold addE at h
  split at h
  · rename_i h0
    split at h
    · omega
    · have := netE_0 h0
      refine ⟨h0, by omega, h, netE_mk ⟨this.1, this.2.1, by simp, by simp; omega, this.2.2.2.2.1, ?_⟩⟩
      rw [pathsFrom_append _ _ _ this.2.2.2.2.2, pathsFrom_one, h]
  · contradiction
end Ns
end Go.Proofs.Ytgacckmgbalggai

/- Some in the order of a number, of several the first: who is how far ahead, and the first of those that are left. No Go in it. -/
namespace Go.Proofs.Ytgacckmgbalggai.Ev
open Ns
set_option linter.unusedSimpArgs false
set_option linter.unusedVariables false

/-- the lesser number is ahead, of several the first -/
def ahead (key : Nat → Int) (j i : Nat) : Bool := decide (key j < key i ∨ key j = key i ∧ j < i)
theorem ahead_iff {key : Nat → Int} {j i : Nat} : ahead key j i = true ↔ key j < key i ∨ key j = key i ∧ j < i := by simp [ahead]
theorem ahead_trans {key : Nat → Int} {a b c : Nat} (h1 : ahead key a b = true) (h2 : ahead key b c = true) : ahead key a c = true := by
  rw [ahead_iff] at *; omega
theorem ahead_irrefl {key : Nat → Int} {a : Nat} : ahead key a a = false := by
  rw [← Bool.not_eq_true, ahead_iff]; omega
theorem ahead_total {key : Nat → Int} {a b : Nat} (h : a ≠ b) : ahead key a b = true ∨ ahead key b a = true := by
  rw [ahead_iff, ahead_iff]; omega
/-- how many are ahead of one -/
def rankK (key : Nat → Int) (n i : Nat) : Nat := (List.range n).countP fun j => ahead key j i
theorem countP_lt {p q : Nat → Bool} {n b : Nat} (hb : b < n) (h : ∀ i, i < n → p i = true → q i = true) (h1 : p b = false) (h2 : q b = true) : (List.range n).countP p < (List.range n).countP q := by
  induction n with
  | zero => omega
  | succ n ih =>
    rw [List.range_succ, List.countP_append, List.countP_append]
    have hmono : (List.range n).countP p ≤ (List.range n).countP q := by
      refine List.countP_mono_left fun i hi => ?_
      exact h i (by have := List.mem_range.1 hi; omega)
    have hn := h n (by omega)
    simp only [List.countP_cons, List.countP_nil]
    by_cases e : b = n
    · subst e
      rw [h1, h2]
      simp
      omega
    · have := ih (by omega) (fun i hi => h i (by omega))
      split <;> split <;> simp_all <;> omega
theorem rank_lt {key : Nat → Int} {n j i : Nat} (hj : j < n) (h : ahead key j i = true) : rankK key n j < rankK key n i :=
  countP_lt hj (fun k _ hk => ahead_trans hk h) ahead_irrefl h
theorem rank_iff {key : Nat → Int} {n j i : Nat} (hj : j < n) (hi : i < n) : rankK key n j < rankK key n i ↔ ahead key j i = true := by
  constructor
  · intro h
    by_cases e : j = i
    · subst e; omega
    · rcases ahead_total (key := key) e with h' | h'
      · exact h'
      · have := rank_lt hi h'; omega
  · exact rank_lt hj
theorem rank_inj {key : Nat → Int} {n j i : Nat} (hj : j < n) (hi : i < n) (h : rankK key n j = rankK key n i) : j = i := by
  apply Classical.byContradiction
  intro e
  rcases ahead_total (key := key) e with h' | h'
  · have := rank_lt hj h'; omega
  · have := rank_lt hi h'; omega

/-- the first in order of those that are not got yet -/
def bestK (key : Nat → Int) (got : Nat → Bool) : Nat → Option Nat
  | 0 => none
  | m + 1 => match bestK key got m with
    | none => if got m then none else some m
    | some b => if !got m && decide (key m < key b) then some m else some b
theorem best_spec (key : Nat → Int) (got : Nat → Bool) : ∀ m, (∀ b, bestK key got m = some b → b < m ∧ got b = false ∧ ∀ i, i < m → got i = false → i ≠ b → ahead key b i = true) ∧ (bestK key got m = none → ∀ i, i < m → got i = true) := by
  intro m
  induction m with
  | zero => exact ⟨fun b h => by simp [bestK] at h, fun _ i h => by omega⟩
  | succ m ih =>
    obtain ⟨i1, i2⟩ := ih
    simp only [bestK]
    cases hb : bestK key got m with
    | none =>
      have hn := i2 hb
      cases hg : got m with
      | true =>
        refine ⟨fun b h => by simp at h, fun _ i hi => ?_⟩
        by_cases e : i = m
        · rw [e]; exact hg
        · exact hn i (by omega)
      | false =>
        refine ⟨fun b h => ?_, fun h => by simp at h⟩
        simp at h
        subst h
        refine ⟨by omega, hg, fun i hi hgi hne => ?_⟩
        have := hn i (by omega)
        rw [this] at hgi
        cases hgi
    | some c =>
      obtain ⟨c1, c2, c3⟩ := i1 c hb
      by_cases ht : (!got m && decide (key m < key c)) = true
      · simp only [ht, if_true]
        refine ⟨fun b h => ?_, fun h => by simp at h⟩
        simp only [Option.some.injEq] at h
        subst h
        rw [Bool.and_eq_true, Bool.not_eq_true', decide_eq_true_eq] at ht
        refine ⟨by omega, ht.1, fun i hi hgi hne => ?_⟩
        by_cases e : i = c
        · subst e; rw [ahead_iff]; omega
        · refine ahead_trans ?_ (c3 i (by omega) hgi e)
          rw [ahead_iff]; omega
      · have ht' : (!got m && decide (key m < key c)) = false := by simpa using ht
        simp only [ht', Bool.false_eq_true, if_false]
        refine ⟨fun b h => ?_, fun h => by simp at h⟩
        simp only [Option.some.injEq] at h
        subst h
        refine ⟨by omega, c2, fun i hi hgi hne => ?_⟩
        by_cases e : i = m
        · subst e
          rw [hgi] at ht'
          simp at ht'
          rw [ahead_iff]
          omega
        · exact c3 i (by omega) hgi hne
theorem countP_congr' {p q : Nat → Bool} {n : Nat} (h : ∀ i, i < n → p i = q i) : (List.range n).countP p = (List.range n).countP q := by
  refine List.countP_congr fun i hi => ?_
  rw [h i (List.mem_range.1 hi)]
theorem countP_one {p q : Nat → Bool} {n b : Nat} (hb : b < n) (h : ∀ i, i < n → q i = (p i || decide (i = b))) (h1 : p b = false) : (List.range n).countP q = (List.range n).countP p + 1 := by
  induction n with
  | zero => omega
  | succ n ih =>
    rw [List.range_succ, List.countP_append, List.countP_append]
    simp only [List.countP_cons, List.countP_nil]
    by_cases e : b = n
    · subst e
      have : (List.range b).countP q = (List.range b).countP p := countP_congr' fun i hi => by
        rw [h i (by omega), decide_eq_false (by omega), Bool.or_false]
      rw [this, h b (by omega), h1]
      simp
    · have := ih (by omega) (fun i hi => h i (by omega))
      rw [this, h n (by omega), decide_eq_false (by omega), Bool.or_false]
      omega
/-- just k are fewer than k places ahead; and the first of the others is just behind k -/
theorem rank_count (key : Nat → Int) (n : Nat) : ∀ k, k ≤ n → (List.range n).countP (fun i => decide (rankK key n i < k)) = k ∧ (k < n → ∃ b, bestK key (fun i => decide (rankK key n i < k)) n = some b ∧ b < n ∧ rankK key n b = k) := by
  have step : ∀ k, k < n → (List.range n).countP (fun i => decide (rankK key n i < k)) = k → ∃ b, bestK key (fun i => decide (rankK key n i < k)) n = some b ∧ b < n ∧ rankK key n b = k := by
    intro k hk hc
    obtain ⟨s1, s2⟩ := best_spec key (fun i => decide (rankK key n i < k)) n
    cases hb : bestK key (fun i => decide (rankK key n i < k)) n with
    | none =>
      exfalso
      have hall := s2 hb
      have : (List.range n).countP (fun i => decide (rankK key n i < k)) = n := by
        have := List.countP_eq_length (p := fun i => decide (rankK key n i < k)) (l := List.range n)
        rw [List.length_range] at this
        exact this.2 fun i hi => hall i (List.mem_range.1 hi)
      omega
    | some b =>
      obtain ⟨b1, b2, b3⟩ := s1 b hb
      refine ⟨b, rfl, b1, ?_⟩
      have b2' : k ≤ rankK key n b := by simpa using b2
      have : rankK key n b = (List.range n).countP (fun i => decide (rankK key n i < k)) := by
        unfold rankK
        refine countP_congr' fun i hi => ?_
        rw [Bool.eq_iff_iff, decide_eq_true_eq]
        constructor
        · intro ha
          by_cases hr : rankK key n i < k
          · exact hr
          · exfalso
            have hne : i ≠ b := fun e => by rw [e, ahead_irrefl] at ha; cases ha
            have h2 := b3 i hi (by simpa using hr) hne
            have := ahead_trans ha h2
            rw [ahead_irrefl] at this
            cases this
        · intro hr
          have hr' : rankK key n i < k := hr
          exact (rank_iff (key := key) hi b1).1 (by omega)
      omega
  intro k
  induction k with
  | zero =>
    intro _
    have h0 : (List.range n).countP (fun i => decide (rankK key n i < 0)) = 0 := by
      rw [List.countP_eq_zero]
      intro i _
      simp
    exact ⟨h0, fun hk => step 0 hk h0⟩
  | succ k ih =>
    intro hk
    obtain ⟨c1, c2⟩ := ih (by omega)
    obtain ⟨b, hb, hbn, hbr⟩ := c2 (by omega)
    have h1 : (List.range n).countP (fun i => decide (rankK key n i < k + 1)) = k + 1 := by
      have := countP_one (p := fun i => decide (rankK key n i < k)) (q := fun i => decide (rankK key n i < k + 1)) hbn (fun i hi => by
        rw [Bool.eq_iff_iff, Bool.or_eq_true, decide_eq_true_eq, decide_eq_true_eq, decide_eq_true_eq]
        constructor
        · intro h
          by_cases e : rankK key n i < k
          · exact .inl e
          · exact .inr (rank_inj (key := key) hi hbn (by omega))
        · rintro (h | h)
          · omega
          · rw [h]; omega) (by simp; omega)
      rw [this, c1]
    exact ⟨h1, fun hk' => step (k + 1) hk' h1⟩
theorem rank_bound {key : Nat → Int} {n i : Nat} (h : i < n) : rankK key n i < n := by
  have hle : rankK key n i ≤ n := by
    unfold rankK
    exact Nat.le_trans List.countP_le_length (by simp)
  by_cases e : rankK key n i = n
  · exfalso
    unfold rankK at e
    have := List.countP_eq_length (p := fun j => ahead key j i) (l := List.range n)
    rw [List.length_range] at this
    have := this.1 e i (List.mem_range.2 h)
    simp [ahead_irrefl] at this
  · omega
end Go.Proofs.Ytgacckmgbalggai.Ev

/- Plain facts on fractions: two whole numbers, their greatest common divisor, lowest terms, the bounds. No Go in it. -/
namespace Go.Proofs.Ytgacckmgbalggai.Fr

/-- both numbers are within a fraction's bounds -/
def mayB (t b : Int) : Bool := decide (1 ≤ b ∧ b ≤ 100000000 ∧ -1000000000 ≤ t ∧ t ≤ 1000000000)
/-- the greatest common divisor -/
def gd (t b : Int) : Int := (Nat.gcd t.natAbs b.natAbs : Int)
def lowT (t b : Int) : Int := t / gd t b
def lowB (t b : Int) : Int := b / gd t b
/-- in lowest terms already -/
def isLow (t b : Int) : Bool := decide (t = lowT t b ∧ b = lowB t b)
/-- what is wrong with a fraction: 1 out of bounds, 3 not in lowest terms, 0 nothing -/
def fault (t b : Int) : Int := if mayB t b then (if isLow t b then 0 else 3) else 1
/-- of two: the first fault -/
def fault2 (t b u c : Int) : Int := if fault t b = 0 then fault u c else fault t b

theorem mayB_iff {t b : Int} : mayB t b = true ↔ (1 ≤ b ∧ b ≤ 100000000 ∧ -1000000000 ≤ t ∧ t ≤ 1000000000) := by simp [mayB]

theorem gd_neg (t b : Int) : gd (-t) b = gd t b := by simp [gd]
theorem gd_pos {t b : Int} (h : 1 ≤ b) : 1 ≤ gd t b := by
  unfold gd
  have : 0 < Nat.gcd t.natAbs b.natAbs := Nat.gcd_pos_of_pos_right _ (by omega)
  omega
theorem gd_dvd_left (t b : Int) : gd t b ∣ t := by
  unfold gd
  exact Int.ofNat_dvd_left.2 (Nat.gcd_dvd_left _ _)
theorem gd_dvd_right (t b : Int) : gd t b ∣ b := by
  unfold gd
  exact Int.ofNat_dvd_left.2 (Nat.gcd_dvd_right _ _)

theorem tdiv_gd (t b : Int) : t.tdiv (gd t b) = lowT t b := Int.tdiv_eq_ediv_of_dvd (gd_dvd_left t b)
theorem lowT_mul {t b : Int} : lowT t b * gd t b = t := by
  unfold lowT; exact Int.ediv_mul_cancel (gd_dvd_left t b)
theorem lowB_mul {t b : Int} : lowB t b * gd t b = b := by
  unfold lowB; exact Int.ediv_mul_cancel (gd_dvd_right t b)

/-- a product with a number from 0 on -/
theorem mul_bd {t c A C : Int} (h1 : -A ≤ t) (h2 : t ≤ A) (h3 : 0 ≤ c) (h4 : c ≤ C) : -(A * C) ≤ t * c ∧ t * c ≤ A * C := by
  have hA : 0 ≤ A := by omega
  have a1 : t * c ≤ A * c := Int.mul_le_mul_of_nonneg_right h2 h3
  have a2 : A * c ≤ A * C := Int.mul_le_mul_of_nonneg_left h4 hA
  have a3 : (-A) * c ≤ t * c := Int.mul_le_mul_of_nonneg_right h1 h3
  rw [Int.neg_mul] at a3
  omega
/-- a product with a number of either sign -/
theorem mul_bd' {t c A C : Int} (h1 : -A ≤ t) (h2 : t ≤ A) (h3 : -C ≤ c) (h4 : c ≤ C) : -(A * C) ≤ t * c ∧ t * c ≤ A * C := by
  by_cases h : 0 ≤ c
  · exact mul_bd h1 h2 h h4
  · have := mul_bd (t := t) (c := -c) (A := A) (C := C) h1 h2 (by omega) (by omega)
    rw [Int.mul_neg] at this
    omega

theorem fault_0 {t b : Int} (h : fault t b = 0) : 1 ≤ b ∧ b ≤ 100000000 ∧ -1000000000 ≤ t ∧ t ≤ 1000000000 := by
  unfold fault at h
  split at h
  · exact mayB_iff.1 ‹_›
  · omega
theorem fault2_0 {t b u c : Int} (h : fault2 t b u c = 0) : fault t b = 0 ∧ fault u c = 0 := by
  unfold fault2 at h
  split at h
  · exact ⟨‹_›, h⟩
  · contradiction
theorem fault_cases (t b : Int) : fault t b = 0 ∨ fault t b = 1 ∨ fault t b = 3 := by
  unfold fault
  split
  · split <;> simp
  · simp

theorem low_of_fault {t b : Int} (h : fault t b = 0) : lowT t b = t ∧ lowB t b = b := by
  unfold fault at h
  split at h
  · split at h
    · have := ‹isLow t b = true›
      simp only [isLow, decide_eq_true_eq] at this
      exact ⟨this.1.symm, this.2.symm⟩
    · omega
  · omega
theorem mayB_of_fault {t b : Int} (h : fault t b = 0) : mayB t b = true := by
  unfold fault at h
  split at h
  · assumption
  · omega
theorem fault_of {t b : Int} (hm : mayB t b = true) (h1 : lowT t b = t) (h2 : lowB t b = b) : fault t b = 0 := by
  unfold fault
  rw [hm, if_pos rfl, if_pos]
  simp only [isLow, decide_eq_true_eq]
  exact ⟨h1.symm, h2.symm⟩
theorem gd_zero {b : Int} (h : 1 ≤ b) : gd 0 b = b := by
  unfold gd
  simp
  omega
theorem low_zero {b : Int} (h : 1 ≤ b) : lowT 0 b = 0 ∧ lowB 0 b = 1 := by
  unfold lowT lowB
  rw [gd_zero h]
  exact ⟨Int.zero_ediv b, Int.ediv_self (by omega)⟩
theorem fault_01 : fault 0 1 = 0 := by decide

/-- which of two numbers is less -/
def cmpI (x y : Int) : Int := if x < y then -1 else if y < x then 1 else 0

end Go.Proofs.Ytgacckmgbalggai.Fr

/- Plain facts: lowest terms hang on the ratio alone; sums, parts and multiples of fractions in lowest terms. No Go in it. -/
namespace Go.Proofs.Ytgacckmgbalggai.Fr

theorem gd_comm (t b : Int) : gd t b = gd b t := by unfold gd; rw [Nat.gcd_comm]
theorem gd_one_iff {t b : Int} : gd t b = 1 ↔ Nat.Coprime t.natAbs b.natAbs := by
  unfold gd Nat.Coprime
  omega

theorem natAbs_div {t g : Int} (h : g ∣ t) : (t / g).natAbs = t.natAbs / g.natAbs := by
  obtain ⟨k, rfl⟩ := h
  by_cases hg : g = 0
  · subst hg; simp
  · rw [Int.mul_ediv_cancel_left k hg, Int.natAbs_mul, Nat.mul_div_cancel_left _ (Int.natAbs_pos.2 hg)]

/-- what is in lowest terms has no divisor in common -/
theorem low_coprime {t b : Int} (hb : 1 ≤ b) : gd (lowT t b) (lowB t b) = 1 := by
  rw [gd_one_iff]
  unfold lowT lowB
  rw [natAbs_div (gd_dvd_left t b), natAbs_div (gd_dvd_right t b)]
  have e : (gd t b).natAbs = Nat.gcd t.natAbs b.natAbs := by unfold gd; omega
  rw [e]
  exact Nat.coprime_div_gcd_div_gcd (Nat.gcd_pos_of_pos_right _ (by omega))
theorem lowB_pos {t b : Int} (hb : 1 ≤ b) : 1 ≤ lowB t b := by
  have h1 := gd_pos (t := t) hb
  have h2 := lowB_mul (t := t) (b := b)
  by_cases h : 1 ≤ lowB t b
  · exact h
  · exfalso
    have h3 : lowB t b ≤ 0 := by omega
    have h4 : lowB t b * gd t b ≤ 0 := Int.mul_nonpos_of_nonpos_of_nonneg h3 (by omega)
    omega
theorem low_ratio (t b : Int) : lowT t b * b = t * lowB t b := by
  have h1 := lowT_mul (t := t) (b := b)
  have h2 := lowB_mul (t := t) (b := b)
  calc lowT t b * b = lowT t b * (lowB t b * gd t b) := by rw [h2]
    _ = (lowT t b * gd t b) * lowB t b := by rw [Int.mul_assoc, Int.mul_comm (gd t b)]
    _ = t * lowB t b := by rw [h1]

theorem dvd_of_coprime {q p q' : Int} (h : gd p q = 1) (hd : q ∣ p * q') : q ∣ q' := by
  rw [gd_one_iff] at h
  have hd' : q.natAbs ∣ p.natAbs * q'.natAbs := by rw [← Int.natAbs_mul]; exact Int.natAbs_dvd_natAbs.2 hd
  exact Int.natAbs_dvd_natAbs.1 (Nat.Coprime.dvd_of_dvd_mul_left h.symm hd')

/-- two pairs of one ratio, each with no divisor in common, are one pair -/
theorem ratio_uniq {p q p' q' : Int} (h : gd p q = 1) (h' : gd p' q' = 1) (hq : 1 ≤ q) (hq' : 1 ≤ q') (e : p * q' = p' * q) : p = p' ∧ q = q' := by
  have d1 : q ∣ q' := dvd_of_coprime h (by rw [e]; exact Int.dvd_mul_left _ _)
  have d2 : q' ∣ q := dvd_of_coprime h' (by rw [← e]; exact Int.dvd_mul_left _ _)
  have e1 : q = q' := by
    have a1 := Int.le_of_dvd (by omega) d1
    have a2 := Int.le_of_dvd (by omega) d2
    omega
  refine ⟨?_, e1⟩
  rw [e1] at e
  exact Int.eq_of_mul_eq_mul_right (by omega) e

theorem low_of_ratio {t b u c : Int} (hb : 1 ≤ b) (hc : 1 ≤ c) (e : t * c = u * b) : lowT t b = lowT u c ∧ lowB t b = lowB u c := by
  refine ratio_uniq (low_coprime hb) (low_coprime hc) (lowB_pos hb) (lowB_pos hc) ?_
  have r1 := low_ratio t b
  have r2 := low_ratio u c
  have hbc : b * c ≠ 0 := Int.mul_ne_zero (by omega) (by omega)
  apply Int.eq_of_mul_eq_mul_right hbc
  calc lowT t b * lowB u c * (b * c) = (lowT t b * b) * (lowB u c * c) := by ac_rfl
    _ = (t * lowB t b) * (lowB u c * c) := by rw [r1]
    _ = (t * c) * (lowB t b * lowB u c) := by ac_rfl
    _ = (u * b) * (lowB t b * lowB u c) := by rw [e]
    _ = (u * lowB u c) * (lowB t b * b) := by ac_rfl
    _ = (lowT u c * c) * (lowB t b * b) := by rw [r2]
    _ = lowT u c * lowB t b * (b * c) := by ac_rfl

theorem low_self {p q : Int} (h : gd p q = 1) : lowT p q = p ∧ lowB p q = q := by
  unfold lowT lowB
  rw [h]
  exact ⟨Int.ediv_one _, Int.ediv_one _⟩
theorem fault_iff {t b : Int} : fault t b = 0 ↔ mayB t b = true ∧ gd t b = 1 := by
  constructor
  · intro h
    refine ⟨mayB_of_fault h, ?_⟩
    obtain ⟨l1, l2⟩ := low_of_fault h
    have := low_coprime (t := t) (b := b) (fault_0 h).1
    rw [l1, l2] at this
    exact this
  · rintro ⟨hm, hg⟩
    obtain ⟨l1, l2⟩ := low_self hg
    exact fault_of hm l1 l2
/-- what was brought to lowest terms, and is within the bounds, is a fraction -/
theorem fault_low {t b : Int} (hb : 1 ≤ b) (hm : mayB (lowT t b) (lowB t b) = true) : fault (lowT t b) (lowB t b) = 0 :=
  fault_iff.2 ⟨hm, low_coprime hb⟩

end Go.Proofs.Ytgacckmgbalggai.Fr

/- Plain facts on loads: rates that are right, what goes over a link, what is left, whether it fits. No Go in it. -/
namespace Go.Proofs.Ytgacckmgbalggai.Ld
open Fr Ns
set_option linter.unusedSimpArgs false

def faultP (a : Int × Int) : Int := fault a.1 a.2
/-- the sum of two in lowest terms -/
def sumP (a b : Int × Int) : Int × Int := (lowT (a.1 * b.2 + b.1 * a.2) (a.2 * b.2), lowB (a.1 * b.2 + b.1 * a.2) (a.2 * b.2))
def mayP (a : Int × Int) : Bool := mayB a.1 a.2
/-- the first fault of some rates -/
def ratesE : List (Int × Int) → Int
  | [] => 0
  | a :: r => if faultP a = 0 then ratesE r else faultP a
/-- the rates of some flows added up, one by one: none, if that is too much -/
def addUp (r : List (Int × Int)) : List Int → Int × Int → Option (Int × Int)
  | [], s => some s
  | u :: us, s => if mayP (sumP s (r.getD u.toNat (0, 1))) then addUp r us (sumP s (r.getD u.toNat (0, 1))) else none
def loadOf (paths : List (List Int)) (r : List (Int × Int)) (l : Nat) : Option (Int × Int) := addUp r (users paths l) (0, 1)
/-- none is too much, of the first so many links -/
def allOk (paths : List (List Int)) (r : List (Int × Int)) (n : Nat) : Bool := (List.range n).all fun l => (loadOf paths r l).isSome
def loadL (paths : List (List Int)) (r : List (Int × Int)) (n : Nat) : List (Int × Int) := (List.range n).map fun l => (loadOf paths r l).getD (0, 1)
/-- what is wrong with a net and rates -/
def loadE (caps : List Int) (paths : List (List Int)) (r : List (Int × Int)) : Int :=
  if netE caps paths = 0 then if r.length = paths.length then if ratesE r = 0 then if allOk paths r caps.length then 0 else 4 else ratesE r else 3 else netE caps paths
/-- no rate is below 0, no link's load above what it takes -/
def fitsB (caps : List Int) (paths : List (List Int)) (r : List (Int × Int)) : Bool :=
  (r.all fun a => decide (0 ≤ a.1)) && (List.range caps.length).all fun l => decide (((loadL paths r caps.length).getD l (0, 1)).1 ≤ caps.getD l 0 * ((loadL paths r caps.length).getD l (0, 1)).2)
/-- what is left on a link -/
def leftOf (c : Int) (a : Int × Int) : Int × Int := sumP (c, 1) (-a.1, a.2)
def leftL (caps : List Int) (paths : List (List Int)) (r : List (Int × Int)) : List (Int × Int) := (List.range caps.length).map fun l => leftOf (caps.getD l 0) ((loadL paths r caps.length).getD l (0, 1))
def leftE (caps : List Int) (paths : List (List Int)) (r : List (Int × Int)) : Int :=
  if loadE caps paths r = 0 then if (leftL caps paths r).all mayP then 0 else 4 else loadE caps paths r

theorem ratesE_iff (r : List (Int × Int)) : ratesE r = 0 ↔ ∀ a ∈ r, faultP a = 0 := by
  induction r with
  | nil => simp [ratesE]
  | cons a r ih =>
    simp only [ratesE, List.mem_cons, forall_eq_or_imp]
    split
    · simp [ih, *]
    · simp [*]
theorem ratesE_cons (r : List (Int × Int)) (k : Nat) (h : k < r.length) : ratesE (r.drop k) = if faultP (r.getD k (0, 0)) = 0 then ratesE (r.drop (k + 1)) else faultP (r.getD k (0, 0)) := by
  rw [drop_cons r k h (0, 0)]; rfl
theorem loadL_length (paths : List (List Int)) (r : List (Int × Int)) (n : Nat) : (loadL paths r n).length = n := by simp [loadL]
theorem leftL_length (caps : List Int) (paths : List (List Int)) (r : List (Int × Int)) : (leftL caps paths r).length = caps.length := by simp [leftL]
theorem loadL_getD (paths : List (List Int)) (r : List (Int × Int)) (n l : Nat) (h : l < n) (d : Int × Int) : (loadL paths r n).getD l d = (loadOf paths r l).getD (0, 1) := by
  simp [loadL, List.getD, List.getElem?_map, List.getElem?_range h]
theorem loadL_snoc (paths : List (List Int)) (r : List (Int × Int)) (n : Nat) : loadL paths r (n + 1) = loadL paths r n ++ [(loadOf paths r n).getD (0, 1)] := by
  simp [loadL, List.range_succ]
theorem allOk_snoc (paths : List (List Int)) (r : List (Int × Int)) (n : Nat) : allOk paths r (n + 1) = (allOk paths r n && (loadOf paths r n).isSome) := by
  simp [allOk, List.range_succ]
theorem allOk_le {paths : List (List Int)} {r : List (Int × Int)} {n m : Nat} (h : allOk paths r n = true) (hm : m ≤ n) : allOk paths r m = true := by
  simp only [allOk, List.all_eq_true, List.mem_range] at h ⊢
  exact fun l hl => h l (by omega)
theorem allOk_at {paths : List (List Int)} {r : List (Int × Int)} {n l : Nat} (h : allOk paths r n = true) (hl : l < n) : ∃ s, loadOf paths r l = some s := by
  simp only [allOk, List.all_eq_true, List.mem_range] at h
  exact Option.isSome_iff_exists.1 (h l hl)

theorem loadE_0 {caps : List Int} {paths : List (List Int)} {r : List (Int × Int)} (h : loadE caps paths r = 0) : netE caps paths = 0 ∧ r.length = paths.length ∧ ratesE r = 0 ∧ allOk paths r caps.length = true := by
  unfold loadE at h
  split at h
  · split at h
    · split at h
      · split at h
        · exact ⟨by assumption, by assumption, by assumption, by assumption⟩
        · omega
      · contradiction
    · omega
  · contradiction
theorem loadE_mk {caps : List Int} {paths : List (List Int)} {r : List (Int × Int)} (h1 : netE caps paths = 0) (h2 : r.length = paths.length) (h3 : ratesE r = 0) (h4 : allOk paths r caps.length = true) : loadE caps paths r = 0 := by
  rw [loadE, if_pos h1, if_pos h2, if_pos h3, if_pos h4]

theorem fault_sumP {a b : Int × Int} (ha : faultP a = 0) (hb : faultP b = 0) (h : mayP (sumP a b) = true) : faultP (sumP a b) = 0 := by
  have h1 := fault_0 ha
  have h2 := fault_0 hb
  have hp : 1 ≤ a.2 * b.2 := Int.mul_le_mul h1.1 h2.1 (by decide) (by omega)
  exact fault_low hp h
/-- what is added up of right rates is right -/
theorem addUp_fault {r : List (Int × Int)} (hr : ratesE r = 0) : ∀ (us : List Int) (s t : Int × Int), faultP s = 0 → addUp r us s = some t → faultP t = 0 := by
  intro us
  induction us with
  | nil => intro s t hs h; simp only [addUp, Option.some.injEq] at h; exact h ▸ hs
  | cons u us ih =>
    intro s t hs h
    simp only [addUp] at h
    split at h
    · rename_i hm
      refine ih _ _ (fault_sumP hs ?_ hm) h
      by_cases hu : u.toNat < r.length
      · exact (ratesE_iff r).1 hr _ (getD_mem r _ hu _)
      · rw [List.getD_eq_getElem?_getD, List.getElem?_eq_none (by omega)]
        decide
    · cases h
theorem loadOf_fault {paths : List (List Int)} {r : List (Int × Int)} {l : Nat} {s : Int × Int} (hr : ratesE r = 0) (h : loadOf paths r l = some s) : faultP s = 0 := addUp_fault hr _ _ _ (by decide) h
theorem addUp_snoc (r : List (Int × Int)) : ∀ (us : List Int) (u : Int) (s : Int × Int), addUp r (us ++ [u]) s = (addUp r us s).bind fun t => if mayP (sumP t (r.getD u.toNat (0, 1))) then some (sumP t (r.getD u.toNat (0, 1))) else none := by
  intro us
  induction us with
  | nil => intro u s; simp [addUp]
  | cons x us ih =>
    intro u s
    simp only [List.cons_append, addUp]
    split
    · exact ih _ _
    · rfl
/-- the users' numbers are flows -/
theorem usersFrom_mem (link : Int) : ∀ (l : List (List Int)) (i : Nat) (u : Int), u ∈ usersFrom link i l → (i : Int) ≤ u ∧ u < i + l.length := by
  intro l
  induction l with
  | nil => intro i u h; simp [usersFrom] at h
  | cons p r ih =>
    intro i u h
    simp only [usersFrom] at h
    split at h
    · rcases List.mem_cons.1 h with rfl | h
      · simp; omega
      · have := ih (i + 1) u h
        simp; omega
    · have := ih (i + 1) u h
      simp; omega
theorem users_mem {paths : List (List Int)} {link u : Int} (h : u ∈ users paths link) : 0 ≤ u ∧ u < paths.length := by
  have := usersFrom_mem link paths 0 u h
  omega
end Go.Proofs.Ytgacckmgbalggai.Ld

/- Fractions as rational numbers: what a sum, a part and an order of two are. No Go in it. -/
namespace Go.Proofs.Ytgacckmgbalggai.Fl
open Fr Ns Ld
set_option linter.unusedSimpArgs false

/-- the number that a fraction is -/
def val (a : Int × Int) : Rat := (a.1 : Rat) / (a.2 : Rat)

theorem castPos {b : Int} (h : 1 ≤ b) : (0 : Rat) < (b : Rat) := by
  have : ((0 : Int) : Rat) < (b : Rat) := Rat.intCast_lt_intCast.2 (by omega)
  simpa using this
theorem castNe {b : Int} (h : 1 ≤ b) : (b : Rat) ≠ 0 := by
  have := castPos h
  intro e
  rw [e] at this
  exact absurd this (by decide)
theorem val_mul {a : Int × Int} (h : 1 ≤ a.2) : val a * (a.2 : Rat) = (a.1 : Rat) := by
  have := castNe h
  unfold val
  grind
theorem val_of_mul {a : Int × Int} {q : Rat} (h : 1 ≤ a.2) (e : q * (a.2 : Rat) = (a.1 : Rat)) : val a = q := by
  have := castNe h
  have := val_mul h
  grind
theorem val_low {t b : Int} (h : 1 ≤ b) : val (lowT t b, lowB t b) = val (t, b) := by
  have hb := lowB_pos (t := t) h
  apply val_of_mul (a := (lowT t b, lowB t b)) hb
  have hr := low_ratio t b
  have hr' : (lowT t b : Rat) * (b : Rat) = (t : Rat) * (lowB t b : Rat) := by
    rw [← Rat.intCast_mul, ← Rat.intCast_mul, hr]
  have hv := val_mul (a := (t, b)) h
  have hn := castNe h
  simp only at hv ⊢
  have : (val (t, b) * (lowB t b : Rat)) * (b : Rat) = (lowT t b : Rat) * (b : Rat) := by
    rw [hr', Rat.mul_assoc, Rat.mul_comm (lowB t b : Rat), ← Rat.mul_assoc, hv]
  grind
theorem val_sum {a b : Int × Int} (ha : 1 ≤ a.2) (hb : 1 ≤ b.2) : val (sumP a b) = val a + val b := by
  have hp : 1 ≤ a.2 * b.2 := Int.mul_le_mul ha hb (by decide) (by omega)
  unfold sumP
  rw [val_low hp]
  apply val_of_mul (a := (a.1 * b.2 + b.1 * a.2, a.2 * b.2)) hp
  have h1 := val_mul ha
  have h2 := val_mul hb
  simp only
  rw [Rat.intCast_mul, Rat.intCast_add, Rat.intCast_mul, Rat.intCast_mul, ← h1, ← h2]
  grind
theorem val_neg (a : Int × Int) : val (-a.1, a.2) = - val a := by
  unfold val
  simp only [Rat.intCast_neg]
  grind
theorem val_whole (c : Int) : val (c, 1) = (c : Rat) := by
  have := val_mul (a := (c, 1)) (show (1 : Int) ≤ 1 by decide)
  simp only [Rat.intCast_one, Rat.mul_one] at this
  exact this
theorem val_part {t b k : Int} (hb : 1 ≤ b) (hk : 1 ≤ k) : val (lowT t (b * k), lowB t (b * k)) * (k : Rat) = val (t, b) := by
  have hp : 1 ≤ b * k := Int.mul_le_mul hb hk (by decide) (by omega)
  rw [val_low hp]
  have h1 := val_mul (a := (t, b * k)) hp
  have h2 := val_mul (a := (t, b)) hb
  have hn := castNe hb
  simp only [Rat.intCast_mul] at h1 h2
  have : (val (t, b * k) * (k : Rat)) * (b : Rat) = val (t, b) * (b : Rat) := by
    rw [h2, ← h1]; grind
  grind
theorem cross {a b : Int × Int} (ha : 1 ≤ a.2) (hb : 1 ≤ b.2) : (val a ≤ val b ↔ a.1 * b.2 ≤ b.1 * a.2) := by
  have h1 := val_mul ha
  have h2 := val_mul hb
  have p1 := castPos ha
  have p2 := castPos hb
  have p3 : (0 : Rat) < (a.2 : Rat) * (b.2 : Rat) := Rat.mul_pos p1 p2
  have e1 : ((a.1 * b.2 : Int) : Rat) = val a * ((a.2 : Rat) * (b.2 : Rat)) := by rw [Rat.intCast_mul, ← h1]; grind
  have e2 : ((b.1 * a.2 : Int) : Rat) = val b * ((a.2 : Rat) * (b.2 : Rat)) := by rw [Rat.intCast_mul, ← h2]; grind
  rw [← Rat.intCast_le_intCast, e1, e2]
  exact ⟨fun h => Rat.mul_le_mul_of_nonneg_right h (Rat.le_of_lt p3), fun h => Rat.le_of_mul_le_mul_right h p3⟩
theorem cross_lt {a b : Int × Int} (ha : 1 ≤ a.2) (hb : 1 ≤ b.2) : (val a < val b ↔ a.1 * b.2 < b.1 * a.2) := by
  have := cross hb ha
  rw [← Rat.not_le, this]
  omega
theorem fault_pos {a : Int × Int} (h : faultP a = 0) : 1 ≤ a.2 := (fault_0 h).1
/-- in lowest terms the number tells the fraction -/
theorem val_inj {a b : Int × Int} (ha : 1 ≤ a.2) (hb : 1 ≤ b.2) (ga : gd a.1 a.2 = 1) (gb : gd b.1 b.2 = 1) (h : val a = val b) : a = b := by
  have h1 : a.1 * b.2 ≤ b.1 * a.2 := (cross ha hb).1 (by rw [h]; exact Rat.le_refl)
  have h2 : b.1 * a.2 ≤ a.1 * b.2 := (cross hb ha).1 (by rw [h]; exact Rat.le_refl)
  have := ratio_uniq ga gb ha hb (by omega)
  exact Prod.ext this.1 this.2
theorem val_inj' {a b : Int × Int} (ha : faultP a = 0) (hb : faultP b = 0) (h : val a = val b) : a = b := val_inj (fault_pos ha) (fault_pos hb) (fault_iff.1 ha).2 (fault_iff.1 hb).2 h

/-- a fraction in lowest terms whose bottom divides D -/
def Over (D : Int) (a : Int × Int) : Prop := 1 ≤ a.2 ∧ gd a.1 a.2 = 1 ∧ a.2 ∣ D
theorem over_of {D t b m : Int} (hb : 1 ≤ b) (e : t * D = m * b) : Over D (lowT t b, lowB t b) := by
  refine ⟨lowB_pos hb, low_coprime hb, ?_⟩
  have h : lowT t b * D = m * lowB t b := by
    have h1 := lowT_mul (t := t) (b := b)
    have h2 := lowB_mul (t := t) (b := b)
    have hg := gd_pos (t := t) hb
    rw [← h1] at e
    have e' : m * b = m * (lowB t b * gd t b) := by rw [h2]
    rw [e'] at e
    have : (lowT t b * D) * gd t b = (m * lowB t b) * gd t b := by
      rw [Int.mul_right_comm, e, Int.mul_assoc]
    exact Int.eq_of_mul_eq_mul_right (by omega) this
  exact dvd_of_coprime (low_coprime hb) ⟨m, by rw [h, Int.mul_comm]⟩
theorem over_sum {D : Int} {a b : Int × Int} (ha : Over D a) (hb : Over D b) : Over D (sumP a b) := by
  obtain ⟨a1, _, k, hk⟩ := ha
  obtain ⟨b1, _, m, hm⟩ := hb
  have hp : 1 ≤ a.2 * b.2 := Int.mul_le_mul a1 b1 (by decide) (by omega)
  refine over_of (m := a.1 * k + b.1 * m) hp ?_
  have e1 : a.1 * b.2 * D = a.1 * k * (a.2 * b.2) := by rw [hk]; grind
  have e2 : b.1 * a.2 * D = b.1 * m * (a.2 * b.2) := by rw [hm]; grind
  rw [Int.add_mul, Int.add_mul, e1, e2]
theorem over_neg {D : Int} {a : Int × Int} (ha : Over D a) : Over D (-a.1, a.2) := ⟨ha.1, by rw [gd_neg]; exact ha.2.1, ha.2.2⟩
theorem over_whole (D c : Int) : Over D (c, 1) := ⟨Int.le_refl 1, by unfold gd; simp, ⟨D, by simp⟩⟩
theorem over_part {D k : Int} {a : Int × Int} (ha : Over D a) (hk : 1 ≤ k) : Over (D * k) (lowT a.1 (a.2 * k), lowB a.1 (a.2 * k)) := by
  obtain ⟨a1, _, m, hm⟩ := ha
  have hp : 1 ≤ a.2 * k := Int.mul_le_mul a1 hk (by decide) (by omega)
  exact over_of (m := a.1 * m) hp (by rw [hm]; grind)
theorem Over.mono {D E : Int} {a : Int × Int} (h : Over D a) (hd : D ∣ E) : Over E a := ⟨h.1, h.2.1, Int.dvd_trans h.2.2 hd⟩
theorem over_fault {D : Int} {a : Int × Int} (h : Over D a) (h1 : 1 ≤ D) (h2 : D ≤ 1000000) (l : 0 ≤ val a) (u : val a ≤ 1000) : faultP a = 0 := by
  obtain ⟨a1, ag, hd⟩ := h
  have hb : a.2 ≤ D := Int.le_of_dvd (by omega) hd
  have e0 : val (0, 1) = 0 := by rw [val_whole]; rfl
  have e1 : val (1000, 1) = 1000 := by rw [val_whole]; rfl
  rw [← e0] at l
  rw [← e1] at u
  have l' := (cross (a := (0, 1)) (by decide) a1).1 l
  have u' := (cross (b := (1000, 1)) a1 (by decide)).1 u
  simp only at l' u'
  exact fault_iff.2 ⟨mayB_iff.2 (by omega), ag⟩
end Go.Proofs.Ytgacckmgbalggai.Fl

/- Shares: all of them together, their squares, the gap, and what some that go from one to another one make of these. No Go in it. -/
namespace Go.Proofs.Ytgacckmgbalggai.Ev
open Fr Ns Ld Fl
set_option linter.unusedSimpArgs false
set_option linter.unusedVariables false

def tot : List Int → Int
  | [] => 0
  | x :: r => x + tot r
def sqs : List Int → Int
  | [] => 0
  | x :: r => x * x + sqs r
theorem tot_append (l m : List Int) : tot (l ++ m) = tot l + tot m := by
  induction l with
  | nil => simp [tot]
  | cons x r ih => simp only [List.cons_append, tot, ih]; omega
theorem sqs_append (l m : List Int) : sqs (l ++ m) = sqs l + sqs m := by
  induction l with
  | nil => simp [sqs]
  | cons x r ih => simp only [List.cons_append, sqs, ih]; omega
theorem tot_step (l : List Int) (k : Nat) (h : k < l.length) : tot (l.take (k + 1)) = tot (l.take k) + l.getD k 0 := by
  rw [take_snoc l k h 0, tot_append]; simp [tot]
theorem sqs_step (l : List Int) (k : Nat) (h : k < l.length) : sqs (l.take (k + 1)) = sqs (l.take k) + l.getD k 0 * l.getD k 0 := by
  rw [take_snoc l k h 0, sqs_append]; simp [sqs]

def inTo (most x : Int) : Bool := decide (0 ≤ x) && decide (x ≤ most)
/-- what is wrong with shares: 5 there is none, 4 too many, 1 one is out of bounds, 0 nothing -/
def few (l : List Int) (most : Int) : Int := if l.length = 0 then 5 else if 6 < l.length then 4 else if l.all (inTo most) then 0 else 1
theorem few_0 {l : List Int} {most : Int} : few l most = 0 ↔ 0 < l.length ∧ l.length ≤ 6 ∧ ∀ x ∈ l, 0 ≤ x ∧ x ≤ most := by
  unfold few
  split
  · constructor
    · intro h; omega
    · intro h; omega
  · split
    · constructor
      · intro h; omega
      · intro h; omega
    · split
      · rename_i h
        rw [List.all_eq_true] at h
        constructor
        · intro _
          exact ⟨by omega, by omega, fun x hx => by simpa [inTo] using h x hx⟩
        · intro _; rfl
      · rename_i h
        constructor
        · intro e; omega
        · rintro ⟨_, _, hb⟩
          exfalso; apply h
          rw [List.all_eq_true]
          intro x hx
          simpa [inTo] using hb x hx

theorem tot_bd {M : Int} : ∀ {l : List Int}, (∀ x ∈ l, 0 ≤ x ∧ x ≤ M) → 0 ≤ tot l ∧ tot l ≤ l.length * M := by
  intro l
  induction l with
  | nil => intro _; simp [tot]
  | cons x r ih =>
    intro h
    have h1 := h x (by simp)
    have h2 := ih fun y hy => h y (by simp [hy])
    simp only [tot, List.length_cons]
    have e : ((r.length + 1 : Nat) : Int) * M = r.length * M + M := by rw [Int.natCast_add, Int.add_mul]; simp
    rw [e]
    omega
theorem sqs_bd {M : Int} : ∀ {l : List Int}, (∀ x ∈ l, 0 ≤ x ∧ x ≤ M) → 0 ≤ sqs l ∧ sqs l ≤ l.length * (M * M) := by
  intro l
  induction l with
  | nil => intro _; simp [sqs]
  | cons x r ih =>
    intro h
    have h1 := h x (by simp)
    have h2 := ih fun y hy => h y (by simp [hy])
    simp only [sqs, List.length_cons]
    have e : ((r.length + 1 : Nat) : Int) * (M * M) = r.length * (M * M) + M * M := by rw [Int.natCast_add, Int.add_mul]; simp
    rw [e]
    have h3 : x * x ≤ M * M := Int.mul_le_mul h1.2 h1.2 h1.1 (by omega)
    have h4 : 0 ≤ x * x := Int.mul_nonneg h1.1 h1.1
    omega

def dev (x : Int) : List Int → Int
  | [] => 0
  | y :: r => (x - y) * (x - y) + dev x r
theorem sq_nonneg (x : Int) : 0 ≤ x * x := by
  rcases Int.le_total 0 x with h | h
  · exact Int.mul_nonneg h h
  · exact Int.mul_nonneg_of_nonpos_of_nonpos h h
theorem sq_zero {x : Int} (h : x * x = 0) : x = 0 := by
  rcases Int.mul_eq_zero.1 h with h | h <;> exact h
theorem dev_nonneg (x : Int) : ∀ l, 0 ≤ dev x l := by
  intro l
  induction l with
  | nil => simp [dev]
  | cons y r ih => have := sq_nonneg (x - y); simp only [dev]; omega
theorem dev_zero {x : Int} : ∀ {l}, dev x l = 0 → ∀ y ∈ l, y = x := by
  intro l
  induction l with
  | nil => intro _ y hy; simp at hy
  | cons z r ih =>
    intro h y hy
    have h1 := sq_nonneg (x - z)
    have h2 := dev_nonneg x r
    simp only [dev] at h
    have h3 : (x - z) * (x - z) = 0 := by omega
    have h4 := sq_zero h3
    rcases List.mem_cons.1 hy with rfl | hy
    · omega
    · exact ih (by omega) y hy
theorem dev_eq (x : Int) : ∀ l : List Int, dev x l = l.length * (x * x) - 2 * (x * tot l) + sqs l := by
  intro l
  induction l with
  | nil => simp [dev, tot, sqs]
  | cons y r ih =>
    simp only [dev, tot, sqs, List.length_cons, ih]
    have e : ((r.length + 1 : Nat) : Int) = r.length + 1 := by simp
    rw [e]
    grind
theorem part_eq (x : Int) (r : List Int) : ((x :: r).length : Int) * sqs (x :: r) - tot (x :: r) * tot (x :: r) = (r.length * sqs r - tot r * tot r) + dev x r := by
  rw [dev_eq]
  simp only [tot, sqs, List.length_cons]
  have e : ((r.length + 1 : Nat) : Int) = r.length + 1 := by simp
  rw [e]
  grind
/-- the square of all together is no more than so many times their squares together, and as much just if all are alike -/
theorem cauchy : ∀ l : List Int, tot l * tot l ≤ l.length * sqs l := by
  intro l
  induction l with
  | nil => simp [tot, sqs]
  | cons x r ih =>
    have := part_eq x r
    have := dev_nonneg x r
    omega
theorem cauchy_eq : ∀ {l : List Int}, tot l * tot l = l.length * sqs l → ∀ x ∈ l, ∀ y ∈ l, x = y := by
  intro l
  induction l with
  | nil => intro _ x hx; simp at hx
  | cons z r ih =>
    intro h
    have h1 := part_eq z r
    have h2 := dev_nonneg z r
    have h3 := cauchy r
    have hz := dev_zero (x := z) (l := r) (by omega)
    intro x hx y hy
    have e : ∀ x ∈ z :: r, x = z := fun x hx => by
      rcases List.mem_cons.1 hx with rfl | hx
      · rfl
      · exact hz x hx
    rw [e x hx, e y hy]
theorem alike_eq {c : Int} : ∀ {l : List Int}, (∀ x ∈ l, x = c) → tot l = l.length * c ∧ sqs l = l.length * (c * c) := by
  intro l
  induction l with
  | nil => intro _; simp [tot, sqs]
  | cons x r ih =>
    intro h
    have h1 := h x (by simp)
    have h2 := ih fun y hy => h y (by simp [hy])
    simp only [tot, sqs, List.length_cons, h1, h2.1, h2.2]
    have e : ((r.length + 1 : Nat) : Int) = r.length + 1 := by simp
    rw [e]
    constructor <;> grind
theorem square_all : ∀ {l : List Int}, (∀ x ∈ l, 0 ≤ x) → sqs l ≤ tot l * tot l ∧ 0 ≤ tot l := by
  intro l
  induction l with
  | nil => intro _; simp [tot, sqs]
  | cons x r ih =>
    intro h
    have h1 := h x (by simp)
    obtain ⟨h2, h3⟩ := ih fun y hy => h y (by simp [hy])
    have h4 : 0 ≤ x * tot r := Int.mul_nonneg h1 h3
    simp only [tot, sqs]
    have e : (x + tot r) * (x + tot r) = x * x + 2 * (x * tot r) + tot r * tot r := by grind
    rw [e]
    constructor <;> omega

/-! ### the gap -/
theorem mx_ge (a : Int) : ∀ l : List Int, a ≤ l.foldl max a ∧ ∀ x ∈ l, x ≤ l.foldl max a := by
  intro l
  induction l generalizing a with
  | nil => simp
  | cons y r ih =>
    obtain ⟨h1, h2⟩ := ih (max a y)
    simp only [List.foldl_cons]
    refine ⟨by omega, fun x hx => ?_⟩
    rcases List.mem_cons.1 hx with rfl | hx
    · omega
    · exact h2 x hx
theorem mx_in (a : Int) : ∀ l : List Int, l.foldl max a = a ∨ l.foldl max a ∈ l := by
  intro l
  induction l generalizing a with
  | nil => simp
  | cons y r ih =>
    simp only [List.foldl_cons]
    rcases ih (max a y) with h | h
    · rcases Int.le_total a y with h' | h'
      · right; rw [h, Int.max_eq_right h']; simp
      · left; rw [h, Int.max_eq_left h']
    · right; simp [h]
theorem mn_le (a : Int) : ∀ l : List Int, l.foldl min a ≤ a ∧ ∀ x ∈ l, l.foldl min a ≤ x := by
  intro l
  induction l generalizing a with
  | nil => simp
  | cons y r ih =>
    obtain ⟨h1, h2⟩ := ih (min a y)
    simp only [List.foldl_cons]
    refine ⟨by omega, fun x hx => ?_⟩
    rcases List.mem_cons.1 hx with rfl | hx
    · omega
    · exact h2 x hx
theorem mn_in (a : Int) : ∀ l : List Int, l.foldl min a = a ∨ l.foldl min a ∈ l := by
  intro l
  induction l generalizing a with
  | nil => simp
  | cons y r ih =>
    simp only [List.foldl_cons]
    rcases ih (min a y) with h | h
    · rcases Int.le_total a y with h' | h'
      · left; rw [h, Int.min_eq_left h']
      · right; rw [h, Int.min_eq_right h']; simp
    · right; simp [h]
def mxL (l : List Int) : Int := l.foldl max (l.getD 0 0)
def mnL (l : List Int) : Int := l.foldl min (l.getD 0 0)
/-- the greatest less the least -/
def gapL (l : List Int) : Int := mxL l - mnL l
theorem mx_step (l : List Int) (a : Int) (k : Nat) (h : k < l.length) : (l.take (k + 1)).foldl max a = max ((l.take k).foldl max a) (l.getD k 0) := by
  rw [take_snoc l k h 0, List.foldl_append]; rfl
theorem mn_step (l : List Int) (a : Int) (k : Nat) (h : k < l.length) : (l.take (k + 1)).foldl min a = min ((l.take k).foldl min a) (l.getD k 0) := by
  rw [take_snoc l k h 0, List.foldl_append]; rfl
theorem mxL_spec {l : List Int} (h : 0 < l.length) : mxL l ∈ l ∧ ∀ x ∈ l, x ≤ mxL l := by
  refine ⟨?_, (mx_ge _ l).2⟩
  rcases mx_in (l.getD 0 0) l with e | e
  · unfold mxL; rw [e]; exact getD_mem l 0 h 0
  · exact e
theorem mnL_spec {l : List Int} (h : 0 < l.length) : mnL l ∈ l ∧ ∀ x ∈ l, mnL l ≤ x := by
  refine ⟨?_, (mn_le _ l).2⟩
  rcases mn_in (l.getD 0 0) l with e | e
  · unfold mnL; rw [e]; exact getD_mem l 0 h 0
  · exact e
theorem gap_nonneg {l : List Int} (h : 0 < l.length) : 0 ≤ gapL l := by
  have := (mxL_spec h).2 _ (mnL_spec h).1
  unfold gapL; omega
/-- no two are further apart than the gap -/
theorem gap_ge {l : List Int} (h : 0 < l.length) {x y : Int} (hx : x ∈ l) (hy : y ∈ l) : x - y ≤ gapL l := by
  have h1 := (mxL_spec h).2 x hx
  have h2 := (mnL_spec h).2 y hy
  unfold gapL; omega
theorem gap_le {l : List Int} {d : Int} (h : 0 < l.length) (hd : ∀ x ∈ l, ∀ y ∈ l, x - y ≤ d) : gapL l ≤ d := hd _ (mxL_spec h).1 _ (mnL_spec h).1
theorem gap_zero {l : List Int} (h : 0 < l.length) : gapL l = 0 ↔ ∀ x ∈ l, ∀ y ∈ l, x = y := by
  constructor
  · intro e x hx y hy
    have h1 := gap_ge h hx hy
    have h2 := gap_ge h hy hx
    omega
  · intro e
    have h1 := gap_nonneg h
    have h2 := gap_le (d := 0) h (fun x hx y hy => by have := e x hx y hy; omega)
    omega

/-! ### the index -/
def idx (l : List Int) : Int × Int := (lowT (tot l * tot l) (l.length * sqs l), lowB (tot l * tot l) (l.length * sqs l))
def idxE (l : List Int) : Int := if few l 1000 = 0 then if tot l = 0 then 5 else 0 else few l 1000
theorem idxE_0 {l : List Int} : idxE l = 0 ↔ few l 1000 = 0 ∧ tot l ≠ 0 := by
  unfold idxE
  split
  · split
    · constructor
      · intro h; omega
      · rintro ⟨_, h⟩; contradiction
    · constructor
      · intro _; exact ⟨by assumption, by assumption⟩
      · intro _; rfl
  · constructor
    · intro h; contradiction
    · rintro ⟨h, _⟩; contradiction
theorem idx_parts {l : List Int} (h : idxE l = 0) : 1 ≤ tot l ∧ tot l ≤ 6000 ∧ 1 ≤ sqs l ∧ sqs l ≤ 6000000 ∧ 1 ≤ (l.length : Int) * sqs l ∧ (l.length : Int) * sqs l ≤ 36000000 ∧ 0 ≤ tot l * tot l ∧ tot l * tot l ≤ 36000000 := by
  obtain ⟨h1, h2⟩ := idxE_0.1 h
  obtain ⟨n1, n2, hb⟩ := few_0.1 h1
  have t := tot_bd hb
  have s := sqs_bd hb
  have c := cauchy l
  have hn : (1 : Int) ≤ l.length ∧ (l.length : Int) ≤ 6 := by omega
  have t1 : 1 ≤ tot l := by omega
  have t2 : tot l ≤ 6000 := by
    have : (l.length : Int) * 1000 ≤ 6 * 1000 := by omega
    omega
  have tt : 1 ≤ tot l * tot l := Int.mul_le_mul t1 t1 (by decide) (by omega)
  have t3 : tot l * tot l ≤ 6000 * 6000 := Int.mul_le_mul t2 t2 (by omega) (by omega)
  have s2 : sqs l ≤ 6000000 := by
    have : (l.length : Int) * (1000 * 1000) ≤ 6 * 1000000 := by omega
    omega
  have s1 : 1 ≤ sqs l := by
    rcases Int.lt_or_le 0 (sqs l) with hs | hs
    · omega
    · have : sqs l = 0 := by omega
      rw [this] at c
      omega
  have ns : (l.length : Int) * sqs l ≤ 6 * 6000000 := Int.mul_le_mul hn.2 s2 (by omega) (by omega)
  exact ⟨t1, t2, s1, s2, by omega, by omega, by omega, by omega⟩
theorem low_bd {t b : Int} (h0 : 0 ≤ t) (hb : 1 ≤ b) : 0 ≤ lowT t b ∧ lowT t b ≤ t ∧ 1 ≤ lowB t b ∧ lowB t b ≤ b := by
  have g := gd_pos (t := t) hb
  have e1 := lowT_mul (t := t) (b := b)
  have e2 := lowB_mul (t := t) (b := b)
  have p := lowB_pos (t := t) hb
  have q : 0 ≤ lowT t b := by
    rcases Int.lt_or_le (lowT t b) 0 with h | h
    · have : lowT t b * gd t b ≤ -1 * gd t b := Int.mul_le_mul_of_nonneg_right (by omega) (by omega)
      omega
    · exact h
  have a1 : lowT t b * 1 ≤ lowT t b * gd t b := Int.mul_le_mul_of_nonneg_left g q
  have a2 : lowB t b * 1 ≤ lowB t b * gd t b := Int.mul_le_mul_of_nonneg_left g (by omega)
  refine ⟨q, by omega, p, by omega⟩
theorem idx_right {l : List Int} (h : idxE l = 0) : faultP (idx l) = 0 := by
  obtain ⟨_, _, _, _, b1, b2, t1, t2⟩ := idx_parts h
  obtain ⟨c1, c2, c3, c4⟩ := low_bd t1 b1
  exact fault_low b1 (mayB_iff.2 (by omega))
theorem idx_val {l : List Int} (h : idxE l = 0) : val (idx l) = val (tot l * tot l, (l.length : Int) * sqs l) := val_low (idx_parts h).2.2.2.2.1
theorem cmp_le' {a b : Int × Int} (ha : 1 ≤ a.2) (hb : 1 ≤ b.2) : cmpI (a.1 * b.2) (b.1 * a.2) ≤ 0 ↔ val a ≤ val b := by
  rw [cross ha hb]; unfold cmpI
  split
  · constructor <;> intro <;> omega
  · split
    · constructor <;> intro <;> omega
    · constructor <;> intro <;> omega
theorem cmp_eq' {a b : Int × Int} (ha : 1 ≤ a.2) (hb : 1 ≤ b.2) : cmpI (a.1 * b.2) (b.1 * a.2) = 0 ↔ val a = val b := by
  have h1 := cross ha hb
  have h2 := cross hb ha
  have e : val a = val b ↔ val a ≤ val b ∧ val b ≤ val a := by
    constructor
    · intro e; rw [e]; exact ⟨Rat.le_refl, Rat.le_refl⟩
    · rintro ⟨x, y⟩; grind
  rw [e, h1, h2]; unfold cmpI
  split
  · constructor <;> intro <;> omega
  · split
    · constructor <;> intro <;> omega
    · constructor <;> intro <;> omega
/-- from all for one to all alike -/
theorem idx_between {l : List Int} (h : idxE l = 0) : cmpI (1 * (idx l).2) ((idx l).1 * (l.length : Int)) ≤ 0 ∧ cmpI ((idx l).1 * 1) (1 * (idx l).2) ≤ 0 ∧ (cmpI ((idx l).1 * 1) (1 * (idx l).2) = 0 ↔ gapL l = 0) := by
  obtain ⟨h1, h2⟩ := idxE_0.1 h
  obtain ⟨n1, n2, hb⟩ := few_0.1 h1
  have hn : (1 : Int) ≤ l.length := by omega
  obtain ⟨t1, t2, s1, s2, b1, b2, q1, q2⟩ := idx_parts h
  have hv := idx_val h
  have hp := fault_pos (idx_right h)
  refine ⟨?_, ?_, ?_⟩
  · rw [cmp_le' (a := (1, (l.length : Int))) (b := idx l) hn hp, hv, cross (a := (1, (l.length : Int))) (b := (tot l * tot l, (l.length : Int) * sqs l)) hn b1]
    have := (square_all fun x hx => (hb x hx).1).1
    have := Int.mul_le_mul_of_nonneg_left this (show (0 : Int) ≤ l.length by omega)
    simp only
    grind
  · rw [cmp_le' (a := idx l) (b := (1, 1)) hp (by decide), hv, cross (a := (tot l * tot l, (l.length : Int) * sqs l)) (b := (1, 1)) b1 (by decide)]
    have := cauchy l
    simpa using this
  · rw [cmp_eq' (a := idx l) (b := (1, 1)) hp (by decide), hv, gap_zero n1]
    have e : val (tot l * tot l, (l.length : Int) * sqs l) = val (1, 1) ↔ tot l * tot l = (l.length : Int) * sqs l := by
      have := cmp_eq' (a := (tot l * tot l, (l.length : Int) * sqs l)) (b := (1, 1)) b1 (by decide)
      rw [← this]
      simp only [Int.mul_one, Int.one_mul]
      unfold cmpI
      split
      · constructor <;> intro <;> omega
      · split
        · constructor <;> intro <;> omega
        · constructor <;> intro <;> omega
    rw [e]
    constructor
    · exact cauchy_eq
    · intro ha
      obtain ⟨e1, e2⟩ := alike_eq (c := l.getD 0 0) (l := l) fun x hx => ha x hx _ (getD_mem l 0 n1 0)
      rw [e1, e2]
      grind

/-! ### some go from one to another one -/
def giveL (l : List Int) (f t : Nat) (m : Int) : List Int := (l.set f (l.getD f 0 - m)).set t ((l.set f (l.getD f 0 - m)).getD t 0 + m)
theorem tot_set : ∀ (l : List Int) (f : Nat) (x : Int), f < l.length → tot (l.set f x) = tot l - l.getD f 0 + x := by
  intro l
  induction l with
  | nil => intro f x h; simp at h
  | cons y r ih =>
    intro f x h
    cases f with
    | zero => simp [tot]; omega
    | succ f => have := ih f x (by simpa using h); simp [tot] at this ⊢; omega
theorem sqs_set : ∀ (l : List Int) (f : Nat) (x : Int), f < l.length → sqs (l.set f x) = sqs l - l.getD f 0 * l.getD f 0 + x * x := by
  intro l
  induction l with
  | nil => intro f x h; simp at h
  | cons y r ih =>
    intro f x h
    cases f with
    | zero => simp [sqs]; omega
    | succ f => have := ih f x (by simpa using h); simp [sqs] at this ⊢; omega
theorem getD_set_self (l : List Int) (f : Nat) (x : Int) (h : f < l.length) : (l.set f x).getD f 0 = x := by
  simp [List.getD, h]
theorem getD_set_ne (l : List Int) {f g : Nat} (x : Int) (h : f ≠ g) : (l.set f x).getD g 0 = l.getD g 0 := by
  simp [List.getD, List.getElem?_set_ne h]
theorem giveL_length (l : List Int) (f t : Nat) (m : Int) : (giveL l f t m).length = l.length := by simp [giveL]
theorem give_same (l : List Int) (f : Nat) (m : Int) (hf : f < l.length) : giveL l f f m = l := by
  unfold giveL
  rw [getD_set_self _ _ _ hf, List.set_set]
  have e : l.getD f 0 - m + m = l.getD f 0 := by omega
  rw [e]
  apply List.ext_getElem?
  intro i
  by_cases h : f = i
  · subst h
    rw [List.getElem?_set_self hf]
    simp [List.getD, List.getElem?_eq_getElem hf]
  · rw [List.getElem?_set_ne h]
theorem give_tot (l : List Int) (f t : Nat) (m : Int) (hf : f < l.length) (ht : t < l.length) : tot (giveL l f t m) = tot l := by
  by_cases e : f = t
  · subst e; rw [give_same _ _ _ hf]
  · unfold giveL
    rw [tot_set _ _ _ (by simpa using ht), tot_set _ _ _ hf]
    omega
/-- what a richer one gives a poorer one, no more than the half between, makes squares no more -/
theorem give_sqs (l : List Int) (f t : Nat) (m : Int) (hf : f < l.length) (ht : t < l.length) (hm : 0 ≤ m) (h2 : 2 * m ≤ l.getD f 0 - l.getD t 0) : sqs (giveL l f t m) ≤ sqs l := by
  by_cases e : f = t
  · subst e; rw [give_same _ _ _ hf]; exact Int.le_refl _
  · unfold giveL
    rw [sqs_set _ _ _ (by simpa using ht), sqs_set _ _ _ hf, getD_set_ne _ _ e]
    generalize l.getD f 0 = a at *
    generalize l.getD t 0 = b at *
    have e1 : (a - m) * (a - m) = a * a - 2 * (m * a) + m * m := by grind
    have e2 : (b + m) * (b + m) = b * b + 2 * (m * b) + m * m := by grind
    have e3 : m * (2 * m) ≤ m * (a - b) := Int.mul_le_mul_of_nonneg_left h2 hm
    have e4 : m * (2 * m) = 2 * (m * m) := by grind
    have e5 : m * (a - b) = m * a - m * b := by grind
    rw [e1, e2]
    have hmm := sq_nonneg m
    omega
theorem mem_give {l : List Int} {f t : Nat} {m : Int} {x : Int} (hf : f < l.length) (ht : t < l.length) (e : f ≠ t) (h : x ∈ giveL l f t m) : x ∈ l ∨ x = l.getD f 0 - m ∨ x = l.getD t 0 + m := by
  unfold giveL at h
  rw [getD_set_ne _ _ e] at h
  rcases List.mem_or_eq_of_mem_set h with h | h
  · rcases List.mem_or_eq_of_mem_set h with h | h
    · exact .inl h
    · exact .inr (.inl h)
  · exact .inr (.inr h)
theorem give_gap (l : List Int) (f t : Nat) (m : Int) (hf : f < l.length) (ht : t < l.length) (hm : 0 ≤ m) (h2 : 2 * m ≤ l.getD f 0 - l.getD t 0) : gapL (giveL l f t m) ≤ gapL l := by
  by_cases e : f = t
  · subst e; rw [give_same _ _ _ hf]; exact Int.le_refl _
  · have h0 : 0 < l.length := by omega
    have bx : ∀ x ∈ giveL l f t m, mnL l ≤ x ∧ x ≤ mxL l := by
      intro x hx
      have a1 := (mxL_spec h0).2
      have a2 := (mnL_spec h0).2
      have f1 := a1 _ (getD_mem l f hf 0)
      have f2 := a2 _ (getD_mem l f hf 0)
      have t1 := a1 _ (getD_mem l t ht 0)
      have t2 := a2 _ (getD_mem l t ht 0)
      rcases mem_give hf ht e hx with h | h | h
      · exact ⟨a2 x h, a1 x h⟩
      · omega
      · omega
    refine gap_le (by rw [giveL_length]; exact h0) fun x hx y hy => ?_
    have := bx x hx
    have := bx y hy
    unfold gapL
    omega
/-- no less even -/
theorem give_idx {l : List Int} {f t : Nat} {m : Int} (h : idxE l = 0) (hy : few (giveL l f t m) 1000 = 0) (hf : f < l.length) (ht : t < l.length) (hm : 0 ≤ m) (h2 : 2 * m ≤ l.getD f 0 - l.getD t 0) :
    idxE (giveL l f t m) = 0 ∧ cmpI ((idx l).1 * (idx (giveL l f t m)).2) ((idx (giveL l f t m)).1 * (idx l).2) ≤ 0 := by
  have e0 : idxE (giveL l f t m) = 0 := idxE_0.2 ⟨hy, by rw [give_tot l f t m hf ht]; exact (idxE_0.1 h).2⟩
  refine ⟨e0, ?_⟩
  rw [cmp_le' (fault_pos (idx_right h)) (fault_pos (idx_right e0)), idx_val h, idx_val e0, give_tot l f t m hf ht, giveL_length]
  have p1 := (idx_parts h).2.2.2.2.1
  have p2 := (idx_parts e0).2.2.2.2.1
  rw [giveL_length] at p2
  rw [cross (a := (tot l * tot l, (l.length : Int) * sqs l)) (b := (tot l * tot l, (l.length : Int) * sqs (giveL l f t m))) p1 p2]
  have := give_sqs l f t m hf ht hm h2
  have := Int.mul_le_mul_of_nonneg_left this (show (0 : Int) ≤ l.length by omega)
  exact Int.mul_le_mul_of_nonneg_left this (sq_nonneg _)

/-! ### times as much -/
theorem tot_times (c : Int) : ∀ l : List Int, tot (l.map (· * c)) = tot l * c := by
  intro l
  induction l with
  | nil => simp [tot]
  | cons x r ih => simp only [List.map_cons, tot, ih]; grind
theorem sqs_times (c : Int) : ∀ l : List Int, sqs (l.map (· * c)) = sqs l * (c * c) := by
  intro l
  induction l with
  | nil => simp [sqs]
  | cons x r ih => simp only [List.map_cons, sqs, ih]; grind
theorem times_idx {l : List Int} {c : Int} (h : idxE l = 0) (hc : 1 ≤ c) (hm : ∀ x ∈ l, x * c ≤ 1000) : idxE (l.map (· * c)) = 0 ∧ idx (l.map (· * c)) = idx l := by
  obtain ⟨h1, h2⟩ := idxE_0.1 h
  obtain ⟨n1, n2, hb⟩ := few_0.1 h1
  have e0 : idxE (l.map (· * c)) = 0 := by
    refine idxE_0.2 ⟨few_0.2 ⟨by simpa using n1, by simpa using n2, fun x hx => ?_⟩, ?_⟩
    · obtain ⟨y, hy, rfl⟩ := List.mem_map.1 hx
      exact ⟨Int.mul_nonneg (hb y hy).1 (by omega), hm y hy⟩
    · rw [tot_times]
      intro e
      rcases Int.mul_eq_zero.1 e with e | e
      · exact h2 e
      · omega
  refine ⟨e0, ?_⟩
  have p1 := (idx_parts h).2.2.2.2.1
  have p2 := (idx_parts e0).2.2.2.2.1
  unfold idx
  rw [tot_times, sqs_times, List.length_map] at *
  have := low_of_ratio (t := tot l * c * (tot l * c)) (b := l.length * (sqs l * (c * c))) (u := tot l * tot l) (c := l.length * sqs l) p2 p1 (by grind)
  rw [this.1, this.2]
theorem times_gap {l : List Int} {c : Int} (h : 0 < l.length) (hc : 0 ≤ c) : gapL (l.map (· * c)) = gapL l * c := by
  have h' : 0 < (l.map (· * c)).length := by simpa using h
  have a := mxL_spec h
  have b := mnL_spec h
  have a' := mxL_spec h'
  have b' := mnL_spec h'
  have e1 : mxL (l.map (· * c)) = mxL l * c := by
    have u1 : mxL l * c ≤ _ := a'.2 _ (List.mem_map.2 ⟨_, a.1, rfl⟩)
    obtain ⟨y, hy, e⟩ := List.mem_map.1 a'.1
    have u2 := Int.mul_le_mul_of_nonneg_right (a.2 y hy) hc
    have e : y * c = _ := e
    omega
  have e2 : mnL (l.map (· * c)) = mnL l * c := by
    have u1 : _ ≤ mnL l * c := b'.2 _ (List.mem_map.2 ⟨_, b.1, rfl⟩)
    obtain ⟨y, hy, e⟩ := List.mem_map.1 b'.1
    have u2 := Int.mul_le_mul_of_nonneg_right (b.2 y hy) hc
    have e : y * c = _ := e
    omega
  unfold gapL
  rw [e1, e2, Int.sub_mul]
end Go.Proofs.Ytgacckmgbalggai.Ev

/- In parts, and from all to all: what each gets, all together, how far apart. No Go in it. -/
namespace Go.Proofs.Ytgacckmgbalggai.Ev
open Fr Ns Ld Fl
set_option linter.unusedSimpArgs false
set_option linter.unusedVariables false

theorem range_map (w : List Int) (f : Int → Int) : (List.range w.length).map (fun i => f (w.getD i 0)) = w.map f := by
  apply List.ext_getElem
  · simp
  · intro i h1 h2
    simp at h1 h2
    simp [List.getD, List.getElem?_eq_getElem h1]
theorem tot_ind (f : Nat → Int) (p : Nat → Bool) : ∀ n : Nat, tot ((List.range n).map fun i => f i + if p i then 1 else 0) = tot ((List.range n).map f) + ((List.range n).countP p : Nat) := by
  intro n
  induction n with
  | zero => simp [tot]
  | succ n ih =>
    rw [List.range_succ, List.map_append, List.map_append, List.countP_append, tot_append, tot_append, ih]
    simp only [List.map_cons, List.map_nil, tot, List.countP_cons, List.countP_nil]
    cases p n <;> simp <;> omega
theorem tot_const (c : Int) : ∀ n : Nat, tot ((List.range n).map fun _ => c) = n * c := by
  intro n
  induction n with
  | zero => simp [tot]
  | succ n ih =>
    rw [List.range_succ, List.map_append, tot_append, ih]
    simp only [List.map_cons, List.map_nil, tot]
    rw [Int.natCast_add, Int.add_mul]; simp
theorem tot_add (f g : Nat → Int) : ∀ n : Nat, tot ((List.range n).map fun i => f i + g i) = tot ((List.range n).map f) + tot ((List.range n).map g) := by
  intro n
  induction n with
  | zero => simp [tot]
  | succ n ih =>
    rw [List.range_succ, List.map_append, List.map_append, List.map_append, tot_append, tot_append, tot_append, ih]
    simp only [List.map_cons, List.map_nil, tot]
    omega

/-! ### split -/
def baseG (many all x : Int) : Int := many * x / all
def restG (many all x : Int) : Int := many * x % all
def keyG (many : Int) (w : List Int) (i : Nat) : Int := -restG many (tot w) (w.getD i 0)
def leftG (many : Int) (w : List Int) : Int := many - tot (w.map (baseG many (tot w)))
def splitL (many : Int) (w : List Int) : List Int := (List.range w.length).map fun i => baseG many (tot w) (w.getD i 0) + if decide (rankK (keyG many w) w.length i < (leftG many w).toNat) then 1 else 0
def splitS (many : Int) (w : List Int) : List Int := if many < 0 then (splitL (-many) w).map (fun x => -x) else splitL many w
def splitE (many : Int) (w : List Int) : Int := if idxE w = 0 then if many < -10000 ∨ 10000 < many then 1 else 0 else idxE w
theorem splitL_length (many : Int) (w : List Int) : (splitL many w).length = w.length := by simp [splitL]
theorem splitS_length (many : Int) (w : List Int) : (splitS many w).length = w.length := by unfold splitS; split <;> simp [splitL_length]
theorem splitL_at {many : Int} {w : List Int} {i : Nat} (h : i < w.length) : (splitL many w).getD i 0 = baseG many (tot w) (w.getD i 0) + if decide (rankK (keyG many w) w.length i < (leftG many w).toNat) then 1 else 0 := by
  simp [splitL, List.getD, List.getElem?_map, List.getElem?_range h]
theorem rest_bd {many all x : Int} (ha : 1 ≤ all) : 0 ≤ restG many all x ∧ restG many all x < all := ⟨Int.emod_nonneg _ (by omega), Int.emod_lt_of_pos _ (by omega)⟩
theorem parts_sum (many all : Int) : ∀ w : List Int, tot (w.map (baseG many all)) * all + tot (w.map (restG many all)) = many * tot w := by
  intro w
  induction w with
  | nil => simp [tot]
  | cons x r ih =>
    simp only [List.map_cons, tot]
    have : baseG many all x * all + restG many all x = many * x := by
      unfold baseG restG
      have := Int.mul_ediv_add_emod (many * x) all
      grind
    grind
theorem rests_pos {many all : Int} (ha : 1 ≤ all) : ∀ w : List Int, 0 ≤ tot (w.map (restG many all)) ∧ tot (w.map (restG many all)) ≤ (w.countP fun x => decide (0 < restG many all x) : Nat) * all := by
  intro w
  induction w with
  | nil => simp [tot]
  | cons x r ih =>
    simp only [List.map_cons, tot, List.countP_cons]
    have hr := rest_bd (many := many) (x := x) ha
    by_cases h : 0 < restG many all x
    · rw [decide_eq_true h]
      simp only [if_true]
      have e : (((r.countP fun x => decide (0 < restG many all x)) + 1 : Nat) : Int) * all = (r.countP fun x => decide (0 < restG many all x) : Nat) * all + all := by rw [Int.natCast_add, Int.add_mul]; simp
      rw [e]
      omega
    · rw [decide_eq_false h]
      simp only [Bool.false_eq_true, if_false, Nat.add_zero]
      omega
theorem left_eq {many : Int} {w : List Int} : leftG many w * tot w = tot (w.map (restG many (tot w))) := by
  have := parts_sum many (tot w) w
  unfold leftG
  rw [Int.sub_mul]
  omega
theorem left_bd {many : Int} {w : List Int} (ha : 1 ≤ tot w) : 0 ≤ leftG many w ∧ leftG many w ≤ (w.countP fun x => decide (0 < restG many (tot w) x) : Nat) := by
  have h := rests_pos (many := many) ha w
  rw [← left_eq] at h
  generalize leftG many w = a at *
  generalize ((w.countP fun x => decide (0 < restG many (tot w) x) : Nat) : Int) = c at *
  refine ⟨?_, ?_⟩
  · exact Int.nonneg_of_mul_nonneg_left h.1 (by omega)
  · exact Int.le_of_mul_le_mul_right h.2 (by omega)
theorem count_range (w : List Int) (p : Int → Bool) : (List.range w.length).countP (fun i => p (w.getD i 0)) = w.countP p := by
  have : w = (List.range w.length).map (fun i => w.getD i 0) := by
    have := range_map w id
    simpa using this.symm
  conv => rhs; rw [this, List.countP_map]
  rfl
/-- all is given -/
theorem split_tot {many : Int} {w : List Int} (ha : 1 ≤ tot w) : tot (splitL many w) = many := by
  have hb := left_bd (many := many) ha
  have hle : w.countP (fun x => decide (0 < restG many (tot w) x)) ≤ w.length := List.countP_le_length
  unfold splitL
  rw [tot_ind (fun i => baseG many (tot w) (w.getD i 0)), (rank_count (keyG many w) w.length (leftG many w).toNat (by omega)).1, range_map w (baseG many (tot w))]
  have : ((leftG many w).toNat : Int) = leftG many w := by omega
  rw [this]
  unfold leftG
  omega
theorem split_part {many : Int} {w : List Int} {i : Nat} (h0 : 0 ≤ many) (ha : 1 ≤ tot w) (hi : i < w.length) : baseG many (tot w) (w.getD i 0) ≤ (splitL many w).getD i 0 ∧ (splitL many w).getD i 0 ≤ baseG many (tot w) (w.getD i 0) + 1 ∧ (w.getD i 0 = 0 → (splitL many w).getD i 0 = 0) := by
  rw [splitL_at hi]
  refine ⟨by split <;> omega, by split <;> omega, fun hz => ?_⟩
  rw [hz]
  have e1 : baseG many (tot w) 0 = 0 := by simp [baseG]
  have hk : keyG many w i = 0 := by unfold keyG restG; rw [hz]; simp
  have hr : w.countP (fun x => decide (0 < restG many (tot w) x)) ≤ rankK (keyG many w) w.length i := by
    rw [← count_range]
    unfold rankK
    refine List.countP_mono_left fun j _ hj => ?_
    rw [ahead_iff, hk]
    unfold keyG
    have : 0 < restG many (tot w) (w.getD j 0) := by simpa using hj
    omega
  have hb := left_bd (many := many) ha
  rw [e1, decide_eq_false (by omega)]
  rfl
theorem neg_tot : ∀ w : List Int, tot (w.map fun x => -x) = -tot w := by
  intro w
  induction w with
  | nil => rfl
  | cons x r ih => simp only [List.map_cons, tot, ih]; omega
theorem splitS_tot {many : Int} {w : List Int} (ha : 1 ≤ tot w) : tot (splitS many w) = many := by
  unfold splitS
  split
  · rw [neg_tot, split_tot ha]; omega
  · exact split_tot ha
/-- of alike weights alike parts, the first ones one more -/
theorem rank_alike (c : Int) {n i : Nat} (key : Nat → Int) (hk : ∀ j, j < n → key j = c) (hi : i < n) : rankK key n i = i := by
  unfold rankK
  have : (List.range n).countP (fun j => ahead key j i) = (List.range n).countP (fun j => decide (j < i)) := countP_congr' fun j hj => by
    rw [Bool.eq_iff_iff, ahead_iff, decide_eq_true_eq, hk j hj, hk i hi]
    omega
  rw [this]
  clear this hk
  induction n with
  | zero => omega
  | succ n ih =>
    rw [List.range_succ, List.countP_append]
    simp only [List.countP_cons, List.countP_nil]
    by_cases e : i = n
    · subst e
      have : (List.range i).countP (fun j => decide (j < i)) = i := by
        have := List.countP_eq_length (p := fun j => decide (j < i)) (l := List.range i)
        rw [List.length_range] at this
        exact this.2 fun j hj => by simpa using hj
      rw [this]
      simp
    · rw [ih (by omega), decide_eq_false (by omega)]
      simp
theorem split_even {many c : Int} {n i : Nat} (hc : 1 ≤ c) (hn : 1 ≤ n) (hi : i < n) : (splitL many (List.replicate n c)).getD i 0 = many / n + if (i : Int) < many % n then 1 else 0 := by
  have hl : (List.replicate n c).length = n := by simp
  have htot : tot (List.replicate n c) = n * c := by
    have := (alike_eq (c := c) (l := List.replicate n c) (fun x hx => (List.mem_replicate.1 hx).2)).1
    rwa [hl] at this
  have hg : ∀ j, j < n → (List.replicate n c).getD j 0 = c := fun j hj => by simp [List.getD, List.getElem?_replicate, hj]
  have hb : many * c / (n * c) = many / n := Int.mul_ediv_mul_of_pos_left many n (by omega)
  rw [splitL_at (by rw [hl]; exact hi), hg i hi, htot, hl]
  have hbase : baseG many (n * c) c = many / n := hb
  rw [hbase]
  have hrk : rankK (keyG many (List.replicate n c)) n i = i := rank_alike (-restG many (n * c) c) _ (fun j hj => by unfold keyG; rw [hg j hj, htot]) hi
  rw [hrk]
  have hleft : leftG many (List.replicate n c) = many % n := by
    unfold leftG
    rw [htot, List.map_replicate, hbase]
    have : tot (List.replicate n (many / n)) = n * (many / n) := by
      have := (alike_eq (c := many / n) (l := List.replicate n (many / n)) (fun x hx => (List.mem_replicate.1 hx).2)).1
      simpa using this
    rw [this]
    have := Int.mul_ediv_add_emod many n
    omega
  rw [hleft]
  have hm := Int.emod_nonneg many (show (n : Int) ≠ 0 by omega)
  congr 1
  by_cases h : (i : Int) < many % n
  · rw [if_pos h, if_pos (by simp; omega)]
  · rw [if_neg h, if_neg (by simp; omega)]

/-! ### shuffle -/
def takeS (part x : Int) : Int := x * part / 1000
def allS (l : List Int) (part : Int) : Int := tot (l.map (takeS part))
def shufL (l : List Int) (part : Int) : List Int := (List.range l.length).map fun i => (l.getD i 0 - takeS part (l.getD i 0) + allS l part / l.length) + if decide (rankK (fun i => l.getD i 0) l.length i < (allS l part % l.length).toNat) then 1 else 0
def shufE (l : List Int) (part : Int) : Int := if few l 10000 = 0 then if part < 0 ∨ 1000 < part then 1 else 0 else few l 10000
theorem shufL_length (l : List Int) (part : Int) : (shufL l part).length = l.length := by simp [shufL]
theorem shufL_at {l : List Int} {part : Int} {i : Nat} (h : i < l.length) : (shufL l part).getD i 0 = (l.getD i 0 - takeS part (l.getD i 0) + allS l part / l.length) + if decide (rankK (fun i => l.getD i 0) l.length i < (allS l part % l.length).toNat) then 1 else 0 := by
  simp [shufL, List.getD, List.getElem?_map, List.getElem?_range h]
theorem tot_sub (f g : Int → Int) : ∀ l : List Int, tot (l.map fun x => f x - g x) = tot (l.map f) - tot (l.map g) := by
  intro l
  induction l with
  | nil => simp [tot]
  | cons x r ih => simp only [List.map_cons, tot, ih]; omega
/-- all together as much -/
theorem shuf_tot {l : List Int} {part : Int} (hn : 0 < l.length) : tot (shufL l part) = tot l := by
  have hn' : (l.length : Int) ≠ 0 := by omega
  have h1 := Int.emod_nonneg (allS l part) hn'
  have h2 := Int.emod_lt_of_pos (allS l part) (show (0 : Int) < l.length by omega)
  have h3 := Int.mul_ediv_add_emod (allS l part) l.length
  unfold shufL
  rw [tot_ind (fun i => l.getD i 0 - takeS part (l.getD i 0) + allS l part / l.length), (rank_count _ l.length (allS l part % l.length).toNat (by omega)).1, tot_add (fun i => l.getD i 0 - takeS part (l.getD i 0)), range_map l (fun x => x - takeS part x), tot_const, tot_sub (fun x => x) (takeS part)]
  have e : tot (l.map (takeS part)) = allS l part := rfl
  rw [e, List.map_id']
  omega
theorem keep_mono {part x y : Int} (h0 : 0 ≤ part) (h1 : part ≤ 1000) (h : x ≤ y) : x - takeS part x ≤ y - takeS part y ∧ (y - takeS part y) - (x - takeS part x) ≤ y - x := by
  unfold takeS
  obtain ⟨d, rfl⟩ : ∃ d, y = x + d := ⟨y - x, by omega⟩
  have hd : 0 ≤ d := by omega
  have e : (x + d) * part = x * part + d * part := Int.add_mul _ _ _
  rw [e]
  have h2 : 0 ≤ d * part := Int.mul_nonneg hd h0
  have h3 : d * part ≤ d * 1000 := Int.mul_le_mul_of_nonneg_left h1 hd
  generalize x * part = a at *
  generalize d * part = b at *
  omega
/-- and no less even -/
theorem shuf_gap {l : List Int} {part : Int} (hn : 0 < l.length) (h0 : 0 ≤ part) (h1 : part ≤ 1000) : gapL (shufL l part) ≤ gapL l := by
  have hn' : (l.length : Int) ≠ 0 := by omega
  have hg := gap_nonneg hn
  refine gap_le (by rw [shufL_length]; exact hn) fun x hx y hy => ?_
  have at_ : ∀ z ∈ shufL l part, ∃ i, i < l.length ∧ z = (shufL l part).getD i 0 := fun z hz => by
    obtain ⟨i, hi, rfl⟩ := List.mem_iff_getElem.1 hz
    rw [shufL_length] at hi
    exact ⟨i, hi, by simp [List.getD, List.getElem?_eq_getElem (show i < (shufL l part).length by rw [shufL_length]; exact hi)]⟩
  obtain ⟨i, hi, rfl⟩ := at_ x hx
  obtain ⟨j, hj, rfl⟩ := at_ y hy
  rw [shufL_at hi, shufL_at hj]
  have mi := getD_mem l i hi 0
  have mj := getD_mem l j hj 0
  have g1 := gap_ge hn mi mj
  have g2 := gap_ge hn mj mi
  by_cases hall : ∀ x ∈ l, ∀ y ∈ l, x = y
  · have e := hall _ mi _ mj
    have hzero : allS l part % l.length = 0 := by
      have : allS l part = l.length * takeS part (l.getD i 0) := by
        unfold allS
        have := (alike_eq (c := takeS part (l.getD i 0)) (l := l.map (takeS part)) (fun z hz => by
          obtain ⟨u, hu, rfl⟩ := List.mem_map.1 hz
          rw [hall u hu _ mi])).1
        rwa [List.length_map] at this
      rw [this]
      exact Int.mul_emod_right _ _
    rw [hzero, e]
    simp
    omega
  · have hpos : 1 ≤ gapL l := by
      have : gapL l ≠ 0 := fun h => hall ((gap_zero hn).1 h)
      omega
    have hri := rank_iff (key := fun i => l.getD i 0) hi hj
    have hrj := rank_iff (key := fun i => l.getD i 0) hj hi
    rw [ahead_iff] at hri hrj
    generalize hK : (allS l part % l.length).toNat = K at *
    generalize rankK (fun i => l.getD i 0) l.length i = ri at *
    generalize rankK (fun i => l.getD i 0) l.length j = rj at *
    rcases Int.le_total (l.getD i 0) (l.getD j 0) with h | h
    · have := keep_mono h0 h1 h
      by_cases a : ri < K <;> by_cases b : rj < K <;> simp only [a, b, decide_true, decide_false, if_true, Bool.false_eq_true, if_false] <;> omega
    · have := keep_mono h0 h1 h
      by_cases a : ri < K <;> by_cases b : rj < K <;> simp only [a, b, decide_true, decide_false, if_true, Bool.false_eq_true, if_false]
      · omega
      · by_cases e : l.getD i 0 = l.getD j 0
        · rw [e]; omega
        · exfalso
          have : rj < ri := hrj.2 (.inl (by omega))
          omega
      · omega
      · omega
/-- of no part nothing goes -/
theorem shuf_none {l : List Int} (hn : 0 < l.length) : shufL l 0 = l ∧ allS l 0 = 0 := by
  have ha : allS l 0 = 0 := by
    unfold allS
    have := (alike_eq (c := 0) (l := l.map (takeS 0)) (fun z hz => by
      obtain ⟨u, hu, rfl⟩ := List.mem_map.1 hz
      simp [takeS])).1
    rw [this]; simp
  refine ⟨?_, ha⟩
  unfold shufL
  rw [ha]
  have : (fun i => (l.getD i 0 - takeS 0 (l.getD i 0) + 0 / (l.length : Int)) + if decide (rankK (fun i => l.getD i 0) l.length i < ((0 : Int) % l.length).toNat) then 1 else 0) = fun i => id (l.getD i 0) := by
    funext i
    simp [takeS]
  rw [this, range_map l id]
  simp
/-- of all all are alike, or one apart -/
theorem shuf_all {l : List Int} (hn : 0 < l.length) : allS l 1000 = tot l ∧ ∀ i, i < l.length → (shufL l 1000).getD i 0 = tot l / l.length ∨ (shufL l 1000).getD i 0 = tot l / l.length + 1 := by
  have ht : ∀ x : Int, takeS 1000 x = x := fun x => by unfold takeS; exact Int.mul_ediv_cancel x (by decide)
  have ha : allS l 1000 = tot l := by
    unfold allS
    have : l.map (takeS 1000) = l.map id := List.map_congr_left fun x _ => ht x
    rw [this, List.map_id]
  refine ⟨ha, fun i hi => ?_⟩
  rw [shufL_at hi, ht, ha]
  split
  · right; omega
  · left; omega

/-! ### the meter -/
def nextM (cap came wait rate : Int) : Int :=
  let r := rate + rate * (2 * (cap - came) - wait) / (4 * cap)
  if cap < r then (if cap < 1 then 1 else cap) else if r < 1 then 1 else r
def metE (cap came wait : Int) : Int := if cap < 1 ∨ 1000 < cap ∨ came < 0 ∨ 10000 < came ∨ wait < 0 ∨ 10000 < wait then 1 else 0
theorem metE_0 {cap came wait : Int} : metE cap came wait = 0 ↔ 1 ≤ cap ∧ cap ≤ 1000 ∧ 0 ≤ came ∧ came ≤ 10000 ∧ 0 ≤ wait ∧ wait ≤ 10000 := by
  unfold metE
  split <;> constructor <;> intro hh <;> omega
theorem next_bd {cap came wait rate : Int} (h : 1 ≤ cap) : 1 ≤ nextM cap came wait rate ∧ nextM cap came wait rate ≤ cap := by
  unfold nextM
  simp only
  split
  · rw [if_neg (by omega)]; omega
  · split <;> omega
/-- where all is as it should be it stays -/
theorem next_stays {cap rate : Int} (h1 : 1 ≤ rate) (h2 : rate ≤ cap) : nextM cap cap 0 rate = rate := by
  unfold nextM
  simp only [Int.sub_self, Int.mul_zero, Int.zero_ediv, Int.add_zero]
  rw [if_neg (by omega), if_neg (by omega)]
/-- the more came, or waits, the less it is -/
theorem next_less {cap came wait rate a b : Int} (hc : 1 ≤ cap) (hr : 1 ≤ rate) (h : 2 * (cap - a) - b ≤ 2 * (cap - came) - wait) : nextM cap a b rate ≤ nextM cap came wait rate := by
  have h1 : rate * (2 * (cap - a) - b) ≤ rate * (2 * (cap - came) - wait) := Int.mul_le_mul_of_nonneg_left h (by omega)
  have h2 : rate * (2 * (cap - a) - b) / (4 * cap) ≤ rate * (2 * (cap - came) - wait) / (4 * cap) := Int.ediv_le_ediv (by omega) h1
  unfold nextM
  simp only
  generalize rate * (2 * (cap - a) - b) / (4 * cap) = p at *
  generalize rate * (2 * (cap - came) - wait) / (4 * cap) = q at *
  split <;> split <;> (try rw [if_neg (by omega : ¬ cap < 1)]) <;> (try (split <;> omega)) <;> omega
theorem next_idle {cap rate : Int} (hc : 1 ≤ cap) (hr : 1 ≤ rate) : nextM cap 0 0 rate = if cap < rate + rate / 2 then cap else rate + rate / 2 := by
  unfold nextM
  have e : rate * (2 * (cap - 0) - 0) / (4 * cap) = rate / 2 := by
    rw [show rate * (2 * (cap - 0) - 0) = rate * (2 * cap) by grind, show 4 * cap = 2 * (2 * cap) by omega]
    exact Int.mul_ediv_mul_of_pos_left rate 2 (by omega)
  simp only [e]
  split
  · rw [if_neg (by omega)]
  · rw [if_neg (by omega)]
end Go.Proofs.Ytgacckmgbalggai.Ev

/- A bucket of tokens, a pool ahead of a link, marks of a thousand: tick by tick, and what stays so. No Go in it. -/
namespace Go.Proofs.Ytgacckmgbalggai.Ev
open Fr Ns Ld Fl
set_option linter.unusedSimpArgs false
set_option linter.unusedVariables false

theorem foldl_step {α : Type} (f : α → Int → α) (a : α) (l : List Int) (k : Nat) (h : k < l.length) : (l.take (k + 1)).foldl f a = f ((l.take k).foldl f a) (l.getD k 0) := by
  rw [take_snoc l k h 0, List.foldl_append]; rfl
theorem take_all {l : List Int} {k : Nat} (h : l.length ≤ k) : l.take k = l := List.take_of_length_le h
/-- what is wrong with what comes tick by tick -/
def ticksE (l : List Int) : Int := if 60 < l.length then 4 else if l.all (inTo 10000) then 0 else 1
theorem ticksE_0 {l : List Int} : ticksE l = 0 ↔ l.length ≤ 60 ∧ ∀ x ∈ l, 0 ≤ x ∧ x ≤ 10000 := by
  unfold ticksE
  split
  · constructor
    · intro h; omega
    · intro h; omega
  · split
    · rename_i h
      rw [List.all_eq_true] at h
      exact ⟨fun _ => ⟨by omega, fun x hx => by simpa [inTo] using h x hx⟩, fun _ => rfl⟩
    · rename_i h
      constructor
      · intro e; omega
      · rintro ⟨_, hb⟩
        exfalso; apply h
        rw [List.all_eq_true]
        intro x hx
        simpa [inTo] using hb x hx

/-! ### the bucket: how many it holds, how many come, how many there are -/
def bktE (s r h : Int) : Int := if s < 1 ∨ 10000 < s ∨ r < 0 ∨ s < r ∨ h < 0 ∨ s < h then 1 else 0
theorem bktE_0 {s r h : Int} : bktE s r h = 0 ↔ 1 ≤ s ∧ s ≤ 10000 ∧ 0 ≤ r ∧ r ≤ s ∧ 0 ≤ h ∧ h ≤ s := by
  unfold bktE
  split <;> constructor <;> intro hh <;> omega
def fillH (s r h : Int) : Int := if s < h + r then s else h + r
def goes (w h : Int) : Int := if h < w then h else w
/-- what waits, the tokens, what went -/
def stepB (s r : Int) (p : Int × Int × List Int) (c : Int) : Int × Int × List Int := (p.1 + c - goes (p.1 + c) p.2.1, fillH s r (p.2.1 - goes (p.1 + c) p.2.1), p.2.2 ++ [goes (p.1 + c) p.2.1])
def bkSt (s r h : Int) (l : List Int) : Int × Int × List Int := l.foldl (stepB s r) (0, h, [])
def sentL (s r h : Int) (l : List Int) : List Int := (bkSt s r h l).2.2
theorem bkSt_step (s r h : Int) (l : List Int) (k : Nat) (hk : k < l.length) : bkSt s r h (l.take (k + 1)) = stepB s r (bkSt s r h (l.take k)) (l.getD k 0) := foldl_step _ _ l k hk

structure BkInv (s r h : Int) (l : List Int) (k : Nat) : Prop where
  len : (bkSt s r h (l.take k)).2.2.length = k
  wait : 0 ≤ (bkSt s r h (l.take k)).1 ∧ (bkSt s r h (l.take k)).1 + tot (bkSt s r h (l.take k)).2.2 = tot (l.take k)
  has : 0 ≤ (bkSt s r h (l.take k)).2.1 ∧ (bkSt s r h (l.take k)).2.1 ≤ s
  sent : ∀ x ∈ (bkSt s r h (l.take k)).2.2, 0 ≤ x ∧ x ≤ s
theorem bk_inv {s r h : Int} {l : List Int} (hb : bktE s r h = 0) (hl : ∀ x ∈ l, 0 ≤ x) : ∀ k, k ≤ l.length → BkInv s r h l k := by
  have h0 := bktE_0.1 hb
  intro k
  induction k with
  | zero => intro _; exact ⟨by simp [bkSt], by simp [bkSt, tot], by simp [bkSt]; omega, by simp [bkSt]⟩
  | succ k ih =>
    intro hk
    obtain ⟨i1, i2, i3, i4⟩ := ih (by omega)
    have hc := hl _ (getD_mem l k (by omega) 0)
    have ht := tot_step l k (by omega)
    have hst := bkSt_step s r h l k (by omega)
    generalize bkSt s r h (l.take k) = p at *
    generalize l.getD k 0 = c at *
    have hg : 0 ≤ goes (p.1 + c) p.2.1 ∧ goes (p.1 + c) p.2.1 ≤ p.2.1 ∧ goes (p.1 + c) p.2.1 ≤ p.1 + c := by unfold goes; split <;> omega
    have hf : ∀ x, 0 ≤ x → 0 ≤ fillH s r x ∧ fillH s r x ≤ s := by intro x hx; unfold fillH; split <;> omega
    refine ⟨?_, ?_, ?_, ?_⟩ <;> rw [hst] <;> simp only [stepB]
    · simp [i1]
    · rw [tot_append, ht]
      simp only [tot]
      omega
    · exact hf _ (by omega)
    · intro x hx
      rcases List.mem_append.1 hx with hx | hx
      · exact i4 x hx
      · simp at hx; omega
theorem sent_take {s r h : Int} {l : List Int} (k : Nat) (hk : k ≤ l.length) : ∀ m, k ≤ m → m ≤ l.length → BkInv s r h l k → (bkSt s r h (l.take m)).2.2.take k = (bkSt s r h (l.take k)).2.2 := by
  intro m
  induction m with
  | zero =>
    intro h1 _ hi
    have : k = 0 := by omega
    subst this
    rw [List.take_of_length_le (by rw [hi.len]; omega)]
  | succ m ih =>
    intro h1 h2 hi
    by_cases e : k = m + 1
    · rw [← e, List.take_of_length_le (by rw [hi.len]; omega)]
    · have := ih (by omega) (by omega) hi
      rw [bkSt_step s r h l m (by omega)]
      simp only [stepB]
      have hlen : k ≤ (bkSt s r h (l.take m)).2.2.length := by
        have := congrArg List.length this
        rw [hi.len, List.length_take] at this
        omega
      rw [List.take_append_of_le_length hlen]
      exact this
/-- in any row of ticks no more goes than the bucket holds, and what came between -/
theorem sent_row {s r h : Int} {l : List Int} (hb : bktE s r h = 0) (hl : ∀ x ∈ l, 0 ≤ x) (i : Nat) : ∀ k, i ≤ k → k ≤ l.length →
    tot (bkSt s r h (l.take k)).2.2 - tot (bkSt s r h (l.take i)).2.2 + (bkSt s r h (l.take k)).2.1 ≤ (bkSt s r h (l.take i)).2.1 + (k - i : Nat) * r := by
  have h0 := bktE_0.1 hb
  intro k
  induction k with
  | zero => intro h1 _; have : i = 0 := by omega
            subst this; simp
  | succ k ih =>
    intro h1 h2
    by_cases e : i = k + 1
    · subst e; simp
    · have hi := ih (by omega) (by omega)
      rw [bkSt_step s r h l k (by omega)]
      generalize bkSt s r h (l.take k) = p at *
      simp only [stepB, tot_append, tot]
      have hf : fillH s r (p.2.1 - goes (p.1 + l.getD k 0) p.2.1) ≤ p.2.1 - goes (p.1 + l.getD k 0) p.2.1 + r := by unfold fillH; split <;> omega
      have e1 : ((k + 1 - i : Nat) : Int) * r = (k - i : Nat) * r + r := by
        rw [show k + 1 - i = (k - i) + 1 by omega, Int.natCast_add, Int.add_mul]; simp
      rw [e1]
      omega
theorem sentL_length {s r h : Int} {l : List Int} (hb : bktE s r h = 0) (hl : ∀ x ∈ l, 0 ≤ x) : (sentL s r h l).length = l.length := by
  have := (bk_inv hb hl l.length (Nat.le_refl _)).len
  rwa [take_all (Nat.le_refl _)] at this
theorem sentL_pre {s r h : Int} {l : List Int} (hb : bktE s r h = 0) (hl : ∀ x ∈ l, 0 ≤ x) {k : Nat} (hk : k ≤ l.length) : (sentL s r h l).take k = (bkSt s r h (l.take k)).2.2 := by
  have := sent_take k hk l.length hk (Nat.le_refl _) (bk_inv hb hl k hk)
  rwa [take_all (Nat.le_refl _)] at this
theorem sentL_bounds {s r h : Int} {l : List Int} (hb : bktE s r h = 0) (hl : ∀ x ∈ l, 0 ≤ x) :
    (∀ k, k < l.length → 0 ≤ (sentL s r h l).getD k 0 ∧ (sentL s r h l).getD k 0 ≤ s) ∧ (∀ k, k ≤ l.length → tot ((sentL s r h l).take k) ≤ tot (l.take k)) ∧
    (∀ i k, i ≤ k → k < l.length → tot ((sentL s r h l).take (k + 1)) - tot ((sentL s r h l).take i) ≤ s + ((k : Int) - i) * r) ∧
    (0 < l.length → (sentL s r h l).getD 0 0 = goes (l.getD 0 0) h) := by
  have h0 := bktE_0.1 hb
  refine ⟨fun k hk => ?_, fun k hk => ?_, fun i k hik hk => ?_, fun hp => ?_⟩
  · have := (bk_inv hb hl l.length (Nat.le_refl _)).sent
    rw [take_all (Nat.le_refl _)] at this
    exact this _ (getD_mem (sentL s r h l) k (by rw [sentL_length hb hl]; exact hk) 0)
  · rw [sentL_pre hb hl hk]
    have := (bk_inv hb hl k hk).wait
    omega
  · rw [sentL_pre hb hl (by omega), sentL_pre hb hl (by omega)]
    have h1 := sent_row hb hl i k hik (by omega)
    have h2 := (bk_inv hb hl i (by omega)).has
    rw [bkSt_step s r h l k hk]
    generalize bkSt s r h (l.take k) = p at *
    simp only [stepB, tot_append, tot]
    have hg : goes (p.1 + l.getD k 0) p.2.1 ≤ p.2.1 := by unfold goes; split <;> omega
    have e : ((k - i : Nat) : Int) = (k : Int) - i := by omega
    rw [e] at h1
    omega
  · have e1 := sentL_pre hb hl (k := 1) (by omega)
    rw [bkSt_step s r h l 0 hp] at e1
    have e2 : (sentL s r h l).getD 0 0 = ((sentL s r h l).take 1).getD 0 0 := by simp [List.getD, List.getElem?_take]
    rw [e2, e1]
    simp [bkSt, stepB]

/-! ### the pool: its room, its link, what waits -/
def poolE (room cap wait : Int) : Int := if room < 0 ∨ 10000 < room ∨ cap < 1 ∨ 1000 < cap ∨ wait < 0 ∨ room < wait then 1 else 0
theorem poolE_0 {room cap wait : Int} : poolE room cap wait = 0 ↔ 0 ≤ room ∧ room ≤ 10000 ∧ 1 ≤ cap ∧ cap ≤ 1000 ∧ 0 ≤ wait ∧ wait ≤ room := by
  unfold poolE
  split <;> constructor <;> intro hh <;> omega
def wentP (cap n : Int) : Int := if cap < n then cap else n
def lostP (room cap n : Int) : Int := if room < n - wentP cap n then n - wentP cap n - room else 0
def waitP (room cap n : Int) : Int := if room < n - wentP cap n then room else n - wentP cap n
/-- all that went, was lost, and what waits -/
def stepP (room cap : Int) (p : Int × Int × Int) (c : Int) : Int × Int × Int := (p.1 + wentP cap (p.2.2 + c), p.2.1 + lostP room cap (p.2.2 + c), waitP room cap (p.2.2 + c))
def poSt (room cap wait : Int) (l : List Int) : Int × Int × Int := l.foldl (stepP room cap) (0, 0, wait)
theorem poSt_step (room cap wait : Int) (l : List Int) (k : Nat) (hk : k < l.length) : poSt room cap wait (l.take (k + 1)) = stepP room cap (poSt room cap wait (l.take k)) (l.getD k 0) := foldl_step _ _ l k hk
theorem po_keeps {room cap wait : Int} {l : List Int} (hb : poolE room cap wait = 0) (hl : ∀ x ∈ l, 0 ≤ x) : ∀ k, k ≤ l.length →
    0 ≤ (poSt room cap wait (l.take k)).1 ∧ 0 ≤ (poSt room cap wait (l.take k)).2.1 ∧ 0 ≤ (poSt room cap wait (l.take k)).2.2 ∧ (poSt room cap wait (l.take k)).2.2 ≤ room ∧ (poSt room cap wait (l.take k)).1 ≤ k * cap ∧
    (poSt room cap wait (l.take k)).1 + (poSt room cap wait (l.take k)).2.1 + (poSt room cap wait (l.take k)).2.2 = wait + tot (l.take k) := by
  have h0 := poolE_0.1 hb
  intro k
  induction k with
  | zero => intro _; simp [poSt, tot]; omega
  | succ k ih =>
    intro hk
    have hi := ih (by omega)
    have hc := hl _ (getD_mem l k (by omega) 0)
    rw [poSt_step room cap wait l k (by omega), tot_step l k (by omega)]
    generalize poSt room cap wait (l.take k) = p at *
    generalize l.getD k 0 = c at *
    have e1 : ((k + 1 : Nat) : Int) * cap = k * cap + cap := by rw [Int.natCast_add, Int.add_mul]; simp
    rw [e1]
    simp only [stepP]
    unfold lostP waitP wentP
    split <;> split <;> omega
/-- with more room no more is lost, and as much or more went -/
theorem po_room {room cap wait more : Int} {l : List Int} (hm : 0 ≤ more) : ∀ k, k ≤ l.length →
    (poSt room cap wait (l.take k)).2.2 ≤ (poSt (room + more) cap wait (l.take k)).2.2 ∧
    (poSt (room + more) cap wait (l.take k)).2.2 - (poSt room cap wait (l.take k)).2.2 ≤ (poSt room cap wait (l.take k)).2.1 - (poSt (room + more) cap wait (l.take k)).2.1 ∧
    (poSt room cap wait (l.take k)).1 ≤ (poSt (room + more) cap wait (l.take k)).1 := by
  intro k
  induction k with
  | zero => intro _; simp [poSt]
  | succ k ih =>
    intro hk
    have hi := ih (by omega)
    rw [poSt_step room cap wait l k (by omega), poSt_step (room + more) cap wait l k (by omega)]
    generalize poSt room cap wait (l.take k) = p at *
    generalize poSt (room + more) cap wait (l.take k) = q at *
    generalize l.getD k 0 = c at *
    simp only [stepP]
    unfold lostP waitP wentP
    split <;> split <;> split <;> split <;> omega
/-- with a wider link no more waits, and no more is lost -/
theorem po_link {room cap wait more : Int} {l : List Int} (hm : 0 ≤ more) : ∀ k, k ≤ l.length →
    (poSt room (cap + more) wait (l.take k)).2.2 ≤ (poSt room cap wait (l.take k)).2.2 ∧ (poSt room (cap + more) wait (l.take k)).2.1 ≤ (poSt room cap wait (l.take k)).2.1 := by
  intro k
  induction k with
  | zero => intro _; simp [poSt]
  | succ k ih =>
    intro hk
    have hi := ih (by omega)
    rw [poSt_step room cap wait l k (by omega), poSt_step room (cap + more) wait l k (by omega)]
    generalize poSt room cap wait (l.take k) = p at *
    generalize poSt room (cap + more) wait (l.take k) = q at *
    generalize l.getD k 0 = c at *
    simp only [stepP]
    unfold lostP waitP wentP
    split <;> split <;> split <;> split <;> omega
/-- shaped ahead of a pool nothing is lost -/
theorem shaped {s r h room cap : Int} {l : List Int} (hb : bktE s r h = 0) (hl : ∀ x ∈ l, 0 ≤ x) (hp : poolE room cap 0 = 0) (h1 : r ≤ cap) (h2 : s ≤ room + cap) : ∀ k, k ≤ l.length →
    (poSt room cap 0 ((sentL s r h l).take k)).2.1 = 0 ∧ (poSt room cap 0 ((sentL s r h l).take k)).2.2 + (bkSt s r h (l.take k)).2.1 ≤ room + cap := by
  have b0 := bktE_0.1 hb
  have p0 := poolE_0.1 hp
  have hsl := sentL_length hb hl
  have hs0 : ∀ x ∈ sentL s r h l, 0 ≤ x := by
    have := (bk_inv hb hl l.length (Nat.le_refl _)).sent
    rw [take_all (Nat.le_refl _)] at this
    exact fun x hx => (this x hx).1
  intro k
  induction k with
  | zero => intro _; simp [poSt, bkSt]; omega
  | succ k ih =>
    intro hk
    have hi := ih (by omega)
    have hpk := po_keeps hp hs0 k (by omega)
    have hbi := bk_inv hb hl k (by omega)
    have hc := hl _ (getD_mem l k (by omega) 0)
    have e : (sentL s r h l).getD k 0 = goes ((bkSt s r h (l.take k)).1 + l.getD k 0) (bkSt s r h (l.take k)).2.1 := by
      have e1 := sentL_pre hb hl (k := k + 1) (by omega)
      rw [bkSt_step s r h l k (by omega)] at e1
      have e2 : (sentL s r h l).getD k 0 = ((sentL s r h l).take (k + 1)).getD k 0 := by simp [List.getD, List.getElem?_take]
      rw [e2, e1]
      simp only [stepB]
      have := hbi.len
      simp [List.getD, List.getElem?_append_right (show (bkSt s r h (l.take k)).2.2.length ≤ k by omega), this]
    rw [poSt_step room cap 0 (sentL s r h l) k (by omega), bkSt_step s r h l k (by omega), e]
    have hw := hbi.wait
    have hh := hbi.has
    generalize poSt room cap 0 ((sentL s r h l).take k) = p at *
    generalize bkSt s r h (l.take k) = b at *
    generalize l.getD k 0 = c at *
    simp only [stepP, stepB]
    have hg : 0 ≤ goes (b.1 + c) b.2.1 ∧ goes (b.1 + c) b.2.1 ≤ b.2.1 := by unfold goes; split <;> omega
    generalize goes (b.1 + c) b.2.1 = n at *
    have hf : fillH s r (b.2.1 - n) ≤ b.2.1 - n + r ∧ fillH s r (b.2.1 - n) ≤ s := by unfold fillH; split <;> omega
    generalize fillH s r (b.2.1 - n) = f at *
    unfold lostP waitP wentP
    split <;> split <;> omega

/-! ### marks -/
def markB (f i : Int) : Bool := decide (i * f / 1000 < (i + 1) * f / 1000)
def cntM (f a : Int) : Nat → Int
  | 0 => 0
  | m + 1 => cntM f a m + if markB f (a + m) then 1 else 0
theorem cnt_eq {f : Int} (h0 : 0 ≤ f) (h1 : f ≤ 1000) (a : Int) : ∀ m : Nat, cntM f a m = (a + m) * f / 1000 - a * f / 1000 := by
  intro m
  induction m with
  | zero => simp [cntM]
  | succ m ih =>
    have e : (a + ((m + 1 : Nat) : Int)) * f = (a + m) * f + f := by
      rw [show a + ((m + 1 : Nat) : Int) = (a + m) + 1 by omega, Int.add_mul, Int.one_mul]
    have e2 : (a + (m : Int) + 1) * f = (a + m) * f + f := by rw [Int.add_mul, Int.one_mul]
    have hm : markB f (a + m) = decide ((a + m) * f / 1000 < ((a + m) * f + f) / 1000) := by unfold markB; rw [e2]
    simp only [cntM, ih]
    rw [e]
    generalize markB f (a + m) = b at *
    generalize (a + (m : Int)) * f = p at *
    generalize a * f = q at *
    by_cases h : p / 1000 < (p + f) / 1000
    · rw [decide_eq_true h] at hm; rw [hm]; simp only [if_true]; omega
    · rw [decide_eq_false h] at hm; rw [hm]; simp only [Bool.false_eq_true, if_false]; omega
/-- as evenly as may be -/
theorem cnt_even {f : Int} (h0 : 0 ≤ f) (h1 : f ≤ 1000) (a : Int) (m : Nat) : cntM f a m = f * m / 1000 ∨ cntM f a m = f * m / 1000 + 1 := by
  rw [cnt_eq h0 h1]
  have e : (a + (m : Int)) * f = a * f + f * m := by rw [Int.add_mul, Int.mul_comm (m : Int)]
  rw [e]
  generalize a * f = p
  generalize f * (m : Int) = q
  omega
theorem cnt_thousand {f : Int} (h0 : 0 ≤ f) (h1 : f ≤ 1000) (a : Int) : cntM f a 1000 = f := by
  rw [cnt_eq h0 h1]
  have e : (a + ((1000 : Nat) : Int)) * f = a * f + 1000 * f := by rw [Int.add_mul]; rfl
  rw [e]
  generalize a * f = p
  omega
theorem cnt_more {f g : Int} (h0 : 0 ≤ f) (h1 : f ≤ g) (h2 : g ≤ 1000) (m : Nat) : cntM f 0 m ≤ cntM g 0 m := by
  rw [cnt_eq h0 (by omega), cnt_eq (by omega) h2]
  have : (0 + (m : Int)) * f ≤ (0 + (m : Int)) * g := Int.mul_le_mul_of_nonneg_left h1 (by omega)
  simp only [Int.zero_mul]
  omega
end Go.Proofs.Ytgacckmgbalggai.Ev

/- What the calls of packages bucket, pool, mark and source tell, as the document says it. No Go in it. -/
namespace Go.Proofs.Ytgacckmgbalggai.Ev
open Fr Ns Ld Fl
set_option linter.unusedSimpArgs false
set_option linter.unusedVariables false

def ok3 (k : Int) (p : Int × Int × Int) : Int × Int × Int := if k = 0 then p else (0, 0, 0)
def ok4 (k : Int) (p : Int × Int × Int × Int) : Int × Int × Int × Int := if k = 0 then p else (0, 0, 0, 0)
def okN (k : Int) (n : Int) : Int := if k = 0 then n else 0
def okB (k : Int) (b : Bool) : Bool := decide (k = 0) && b
/-! ### bucket -/
def takeE (s r h m : Int) : Int := if bktE s r h = 0 then (if m < 0 ∨ 10000 < m then 1 else if h < m then 8 else 0) else bktE s r h
def sendE (s r h : Int) (l : List Int) : Int := if bktE s r h = 0 then ticksE l else bktE s r h
theorem sendE_0 {s r h : Int} {l : List Int} (he : sendE s r h l = 0) : bktE s r h = 0 ∧ ticksE l = 0 := by
  unfold sendE at he
  split at he
  · exact ⟨by assumption, he⟩
  · contradiction
/-! ### pool -/
def ptickE (room cap wait came : Int) : Int := if poolE room cap wait = 0 then (if came < 0 ∨ 10000 < came then 1 else 0) else poolE room cap wait
def prunE (room cap wait : Int) (l : List Int) : Int := if poolE room cap wait = 0 then ticksE l else poolE room cap wait
theorem prunE_0 {room cap wait : Int} {l : List Int} (he : prunE room cap wait l = 0) : poolE room cap wait = 0 ∧ ticksE l = 0 := by
  unfold prunE at he
  split at he
  · exact ⟨by assumption, he⟩
  · contradiction
/-! ### mark -/
def misE (f i : Int) : Int := if f < 0 ∨ 1000 < f ∨ i < 0 ∨ 1000000000 < i then 1 else 0
def mcntE (f a m : Int) : Int := if f < 0 ∨ 1000 < f ∨ a < 0 ∨ 10000 < a ∨ m < 0 ∨ 10000 < m then 1 else 0
def mlstE (f m : Int) : Int := if f < 0 ∨ 1000 < f ∨ m < 0 ∨ 60 < m then 1 else 0
def markL (f : Int) (m : Nat) : List Bool := (List.range m).map fun k : Nat => markB f (k : Int)
theorem markL_length (f : Int) (m : Nat) : (markL f m).length = m := by simp [markL]
theorem markL_at (f : Int) (m k : Nat) (h : k < m) : (markL f m).getD k false = markB f k := by
  simp [markL, List.getD, List.getElem?_map, List.getElem?_range h]
/-! ### source: its window, what is under way, what is left, what came -/
def srcE (win way left came : Int) : Int := if win < 1 ∨ 1000 < win ∨ way < 0 ∨ 10000 < way ∨ left < 0 ∨ 10000 < left ∨ came < 0 ∨ 10000 < came then 1 else 0
theorem srcE_0 {win way left came : Int} : srcE win way left came = 0 ↔ 1 ≤ win ∧ win ≤ 1000 ∧ 0 ≤ way ∧ way ≤ 10000 ∧ 0 ≤ left ∧ left ≤ 10000 ∧ 0 ≤ came ∧ came ≤ 10000 := by
  unfold srcE
  split <;> constructor <;> intro hh <;> omega
/-- how many go -/
def goN (win way left : Int) : Int := if way < win then (if left < win - way then left else win - way) else 0
def ackW (win : Int) (faster : Bool) : Int := if faster then (if win < 1000 then win + 1 else win) else (if 1 < win then win - 1 else win)
def lostW (win : Int) : Int := if 1 < win then win / 2 else win
def sent4 (win way left came : Int) : Int × Int × Int × Int := (win, way + goN win way left, left - goN win way left, came)
def ackE (win way left came : Int) : Int := if srcE win way left came = 0 then (if way = 0 then 8 else if came = 10000 then 4 else 0) else srcE win way left came
def ack4 (win way left came : Int) (faster : Bool) : Int × Int × Int × Int := (ackW win faster, way - 1, left, came + 1)
def losE (win way left came : Int) : Int := if srcE win way left came = 0 then (if way = 0 then 8 else if left = 10000 then 4 else 0) else srcE win way left came
def los4 (win way left came : Int) : Int × Int × Int × Int := (lostW win, way - 1, left + 1, came)
end Go.Proofs.Ytgacckmgbalggai.Ev

/- What the calls of package meter tell, as the document says it. No Go in it. -/
namespace Go.Proofs.Ytgacckmgbalggai.Ev
open Fr Ns Ld Fl
set_option linter.unusedSimpArgs false
set_option linter.unusedVariables false

def mnxE (cap came wait rate : Int) : Int := if metE cap came wait = 0 then (if rate < 1 ∨ 1000 < rate then 1 else 0) else metE cap came wait
theorem mnxE_0 {cap came wait rate : Int} : mnxE cap came wait rate = 0 ↔ metE cap came wait = 0 ∧ 1 ≤ rate ∧ rate ≤ 1000 := by
  unfold mnxE
  split
  · split <;> constructor <;> intro hh <;> omega
  · constructor <;> intro hh <;> omega
def mrnE (cap came wait rate : Int) (l : List Int) : Int := if mnxE cap came wait rate = 0 then ticksE l else mnxE cap came wait rate
/-- what waits at a tick -/
def waitM (cap wt c : Int) : Int := if wt + c - cap < 0 then 0 else if 10000 < wt + c - cap then 10000 else wt + c - cap
/-- what waits, the rate, the rates so far -/
def stepM (cap : Int) (p : Int × Int × List Int) (c : Int) : Int × Int × List Int := (waitM cap p.1 c, nextM cap c (waitM cap p.1 c) p.2.1, p.2.2 ++ [nextM cap c (waitM cap p.1 c) p.2.1])
def mtSt (cap wait rate : Int) (l : List Int) : Int × Int × List Int := l.foldl (stepM cap) (wait, rate, [])
def runM (cap wait rate : Int) (l : List Int) : List Int := (mtSt cap wait rate l).2.2
theorem mtSt_step (cap wait rate : Int) (l : List Int) (k : Nat) (hk : k < l.length) : mtSt cap wait rate (l.take (k + 1)) = stepM cap (mtSt cap wait rate (l.take k)) (l.getD k 0) := foldl_step _ _ l k hk
end Go.Proofs.Ytgacckmgbalggai.Ev

/- What is asked of package meter's Next, as the document says it. -/
namespace Go.Proofs.Ytgacckmgbalggai
namespace Ev
open Go.RowKit Fr Ns Ld Fl

def MtNextSaid : Prop := ∀ (s r h q : Int) (w : World),
  Calls Try.prog 12 #[.agg #[.int .i64 s, .int .i64 r, .int .i64 h], .int .i64 q] w fun e w' => e = .returned (.tuple #[.int .i64 (okN (mnxE s r h q) (nextM s r h q)), errV (mnxE s r h q)]) ∧ Below w.heap.size w w'
end Ev
end Go.Proofs.Ytgacckmgbalggai

/- Small laws on worlds behind calls: what lies below stays. -/
namespace Go.Proofs.Ytgacckmgbalggai
namespace Bel
open Go.RowKit
theorem more {B : Nat} {W u : World} (h : Below B W u) (hB : B ≤ W.heap.size) (o : Obj) : Below B W (u.alloc o) := h.alloc (Nat.le_trans hB h.size) o
theorem call {B : Nat} {W u u' : World} (h : Below B W u) (hB : B ≤ W.heap.size) (hc : Below u.heap.size u u') : Below B W u' := h.trans (hc.mono (Nat.le_trans hB h.size))
end Bel
end Go.Proofs.Ytgacckmgbalggai

/- Rows of cells that a call makes and writes into: what a walk is told of them. -/
namespace Go.Proofs.Ytgacckmgbalggai
namespace Fl
open Go.RowKit Ns
set_option linter.unusedSimpArgs false
set_option linter.unusedVariables false

/-- the block g holds these cells, and none of it is frozen -/
def RowAt (w : World) (g : Nat) (T : TypeId) (xs : List Value) : Prop := w.heap[g]? = some (.cells xs.toArray T (0, 0))
theorem RowAt.lt {w : World} {g : Nat} {T : TypeId} {xs : List Value} (h : RowAt w g T xs) : g < w.heap.size := (Array.getElem?_eq_some_iff.1 h).1
theorem RowAt.cell {w : World} {g : Nat} {T : TypeId} {xs : List Value} (h : RowAt w g T xs) {i : Nat} {v : Value} (hi : xs[i]? = some v) : w.cell? ⟨g, i, none⟩ = some v := by
  rw [cell_of_row w g i _ T (0, 0) h]
  simpa using hi
theorem RowAt.frozen {w : World} {g : Nat} {T : TypeId} {xs : List Value} (h : RowAt w g T xs) (i : Nat) : w.frozen? ⟨g, i, none⟩ = false := frozen_of_row w g i _ T h
theorem RowAt.set {w : World} {g : Nat} {T : TypeId} {xs : List Value} (h : RowAt w g T xs) (i : Nat) (v : Value) : RowAt (w.setCell ⟨g, i, none⟩ v) g T (xs.set i v) := by
  unfold RowAt
  rw [heap_setCell_same w g i _ T v h]
  simp
theorem RowAt.later {w w' : World} {g B : Nat} {T : TypeId} {xs : List Value} (hb : Below B w w') (hg : g < B) (h : RowAt w g T xs) : RowAt w' g T xs := by
  unfold RowAt
  rw [hb.block g hg]; exact h
theorem RowAt.other {w : World} {g : Nat} {T : TypeId} {xs : List Value} (h : RowAt w g T xs) {a : Addr} (ha : a.block ≠ g) (v : Value) : RowAt (w.setCell a v) g T xs := by
  unfold RowAt
  rw [Below.heap_setCell w a v g (fun e => ha e.symm)]; exact h
theorem RowAt.alloc {w : World} {g : Nat} {T : TypeId} {xs : List Value} (h : RowAt w g T xs) (o : Obj) : RowAt (w.alloc o) g T xs := h.later (((Below.refl w.heap.size w)).alloc (Nat.le_refl _) o) h.lt
theorem RowAt.new (w : World) (a : Array Value) (T : TypeId) : RowAt (w.alloc (.cells a T (0, 0))) w.heap.size T a.toList := by
  unfold RowAt
  rw [heap_alloc_new]
theorem RowAt.owns {w : World} {base g n size : Nat} {T : TypeId} {xs : List Value} (h : RowAt w g T xs) (hb : base ≤ g) (hl : xs.length = n * size) (hn : n ≤ maxLen) : w.ownsRow base T size (.slice (some ⟨g, 0, none⟩) n n) n xs := by
  refine ⟨hl, .inr ⟨g, n, xs.toArray, rfl, hb, h, Nat.le_refl _, hn, by simp [hl], by simp [← hl]⟩⟩
theorem RowAt.of_owns {w : World} {base g n size : Nat} {T : TypeId} {xs : List Value} (h : w.ownsRow base T size (.slice (some ⟨g, 0, none⟩) n n) n xs) : RowAt w g T xs := by
  obtain ⟨h0, h⟩ := h
  rcases h with ⟨e, _⟩ | ⟨g', cap, cur, e, hb, hg, hc, hm, hs, ht⟩
  · cases e
  · simp only [Value.slice.injEq, Option.some.injEq, Addr.mk.injEq, and_true, true_and] at e
    obtain ⟨rfl, rfl⟩ := e
    unfold RowAt
    rw [hg]
    have : cur.toList = xs := by
      have : cur.toList.take (n * size) = cur.toList := List.take_of_length_le (by simp [hs])
      rw [← this]; exact ht
    rw [← this]
/-- the cells of a row of three -/
theorem RowAt.three {w : World} {g : Nat} {T : TypeId} {a b c : Value} (h : RowAt w g T [a, b, c]) : w.cell? ⟨g, 0, none⟩ = some a ∧ w.cell? ⟨g, 1, none⟩ = some b ∧ w.cell? ⟨g, 2, none⟩ = some c ∧ w.frozen? ⟨g, 0, none⟩ = false ∧ w.frozen? ⟨g, 1, none⟩ = false ∧ w.frozen? ⟨g, 2, none⟩ = false ∧ g < w.heap.size :=
  ⟨h.cell rfl, h.cell rfl, h.cell rfl, h.frozen 0, h.frozen 1, h.frozen 2, h.lt⟩
theorem RowAt.set3 {w : World} {g : Nat} {T : TypeId} {a b c : Value} (h : RowAt w g T [a, b, c]) (x y z : Value) : RowAt (((w.setCell ⟨g, 0, none⟩ x).setCell ⟨g, 1, none⟩ y).setCell ⟨g, 2, none⟩ z) g T [x, y, z] := ((h.set 0 x).set 1 y).set 2 z
theorem RowAt.four {w : World} {g : Nat} {T : TypeId} {a b c d : Value} (h : RowAt w g T [a, b, c, d]) : w.cell? ⟨g, 0, none⟩ = some a ∧ w.cell? ⟨g, 1, none⟩ = some b ∧ w.cell? ⟨g, 2, none⟩ = some c ∧ w.cell? ⟨g, 3, none⟩ = some d ∧ w.frozen? ⟨g, 0, none⟩ = false ∧ w.frozen? ⟨g, 1, none⟩ = false ∧ w.frozen? ⟨g, 2, none⟩ = false ∧ w.frozen? ⟨g, 3, none⟩ = false ∧ g < w.heap.size :=
  ⟨h.cell rfl, h.cell rfl, h.cell rfl, h.cell rfl, h.frozen 0, h.frozen 1, h.frozen 2, h.frozen 3, h.lt⟩
theorem RowAt.put4 {w : World} {g : Nat} {T : TypeId} {a b c d : Value} (h : RowAt w g T [a, b, c, d]) (x y z u : Value) : RowAt ((((w.setCell ⟨g, 0, none⟩ x).setCell ⟨g, 1, none⟩ y).setCell ⟨g, 2, none⟩ z).setCell ⟨g, 3, none⟩ u) g T [x, y, z, u] := (((h.set 0 x).set 1 y).set 2 z).set 3 u
theorem row_made (w : World) (a : Array Value) (T : TypeId) (g : Nat) (xs : List Value) (hg : g = w.heap.size) (hx : a.toList = xs) : RowAt (w.alloc (.cells a T (0, 0))) g T xs := by
  rw [hg, ← hx]; exact RowAt.new w a T
theorem new1 (w : World) (x : Value) (T : TypeId) (g : Nat) (hg : g = w.heap.size) : ∀ j u, [x][j]? = some u → (w.alloc (.cells #[x] T)).cell? ((⟨g, 0, none⟩ : Addr).add j) = some u := by
  intro j u hj
  subst hg
  match j, hj with
  | 0, hj => simp at hj; subst hj; simp [Addr.add]
theorem own_keeps {w w' : World} {base : Nat} {e : TypeId} {size n : Nat} {v : Value} {xs : List Value} (hk : ∀ g, base ≤ g → g < w.heap.size → w'.heap[g]? = w.heap[g]?) (h : w.ownsRow base e size v n xs) : w'.ownsRow base e size v n xs := by
  obtain ⟨h0, h⟩ := h
  refine ⟨h0, ?_⟩
  rcases h with h | ⟨g, cap, cur, e1, hb, hg, hr⟩
  · exact .inl h
  · exact .inr ⟨g, cap, cur, e1, hb, by rw [hk g hb (Array.getElem?_eq_some_iff.1 hg).1]; exact hg, hr⟩
theorem stay_set (w : World) (g i k : Nat) (x : Value) (h : k ≠ g) : (w.setCell ⟨g, i, none⟩ x).heap[k]? = w.heap[k]? := Below.heap_setCell w ⟨g, i, none⟩ x k h
theorem own_slice {w : World} {base n size : Nat} {e : TypeId} {v : Value} {xs : List Value} (h : w.ownsRow base e size v n xs) : ∃ a c, v = .slice a n c := by
  rcases h.2 with ⟨rfl, h0⟩ | ⟨g, cap, cur, rfl, _⟩
  · exact ⟨none, 0, by rw [h0]⟩
  · exact ⟨_, _, rfl⟩
theorem grew1 {B : Nat} {W wg : World} {o1 : Obj} {k : Option Nat} (hs : B ≤ W.heap.size) (hg : (W.alloc o1).grownBy wg k) (hk : ∀ j, k = some j → B ≤ j) : Below B W wg :=
  ((Below.refl B W).alloc hs o1).grown hg (by simp; omega) hk
theorem owns_shape {w : World} {base n size : Nat} {e : TypeId} {v : Value} {xs : List Value} (h : w.ownsRow base e size v n xs) : ∃ a c, v = .slice a n c := by
  rcases h.2 with ⟨rfl, h0⟩ | ⟨g, cap, cur, rfl, _⟩
  · exact ⟨none, 0, by rw [h0]⟩
  · exact ⟨_, _, rfl⟩
def bestZ (o : Option (Int × Int)) : Int × Int := o.getD (0, 0)
end Fl
end Go.Proofs.Ytgacckmgbalggai

/- A number from one to another one; what is wrong with what comes tick by tick. No Go in it. -/
namespace Go.Proofs.Ytgacckmgbalggai
namespace Ev
open Go.RowKit Fr Ns Ld Fl
set_option linter.unusedSimpArgs false
set_option linter.unusedVariables false

theorem ret_bk {k : Int} {v : Value} (h : v = errV k) : Ending.returned v = .returned (errV k) := by rw [h]
def inR (n a b : Int) : Bool := decide (a ≤ n) && decide (n ≤ b)
theorem inR_1 {n a b : Int} : inR n a b = true ↔ a ≤ n ∧ n ≤ b := by simp [inR]
theorem inR_0 {n a b : Int} : inR n a b = false ↔ n < a ∨ b < n := by simp [inR]; omega
theorem ticks_any {l : List Int} (h6 : ¬ 60 < l.length) : ticksE l = if l.any (fun x => !inTo 10000 x) then 1 else 0 := by
  have e : l.any (fun x => !inTo 10000 x) = !l.all (inTo 10000) := by simp [List.any_eq_not_all_not]
  rw [ticksE, if_neg h6, e]
  cases l.all (inTo 10000) <;> rfl

end Ev
end Go.Proofs.Ytgacckmgbalggai

/- What is asked of package meter's Check, as the document says it. -/
namespace Go.Proofs.Ytgacckmgbalggai
namespace Ev
open Go.RowKit Fr Ns Ld Fl

def MtCheckSaid : Prop := ∀ (s r h : Int) (w : World),
  Calls Try.prog 45 #[.agg #[.int .i64 s, .int .i64 r, .int .i64 h]] w fun e w' => e = .returned (errV (metE s r h)) ∧ Below w.heap.size w w'
end Ev
end Go.Proofs.Ytgacckmgbalggai

/- Quotients rounded towards 0, and down; the next rate as least and greatest; what a meter is tick by tick. No Go in it. -/
namespace Go.Proofs.Ytgacckmgbalggai.Ev
open Fr Ns Ld Fl
set_option linter.unusedSimpArgs false
set_option linter.unusedVariables false

/-- a quotient that is rounded towards 0, and down -/
theorem quo_down {n b : Int} (hb : 1 ≤ b) : (0 ≤ n ∧ n.tdiv b = n / b) ∨ (n < 0 ∧ n.tdiv b * b = n ∧ n.tdiv b = n / b) ∨ (n < 0 ∧ n.tdiv b * b ≠ n ∧ n.tdiv b - 1 = n / b) := by
  by_cases h0 : 0 ≤ n
  · exact .inl ⟨h0, Int.tdiv_eq_ediv_of_nonneg h0⟩
  · right
    have e1 : n.tdiv b = -((-n) / b) := by
      rw [show n = -(-n) by omega, Int.neg_tdiv, Int.tdiv_eq_ediv_of_nonneg (by omega)]
      simp
    have m1 := Int.mul_ediv_add_emod (-n) b
    have m2 := Int.emod_nonneg (-n) (show b ≠ 0 by omega)
    have m3 := Int.emod_lt_of_pos (-n) (show 0 < b by omega)
    generalize (-n) / b = p at *
    generalize (-n) % b = q at *
    have e2 : n.tdiv b * b = -(b * p) := by rw [e1, Int.neg_mul, Int.mul_comm]
    by_cases hq : q = 0
    · left
      refine ⟨by omega, by rw [e2]; omega, ?_⟩
      rw [e1]
      exact (Int.ediv_eq_of_eq_mul_right (by omega) (by rw [Int.mul_neg]; omega)).symm
    · right
      refine ⟨by omega, by rw [e2]; omega, ?_⟩
      rw [e1]
      have hd : b * (-p - 1) = -(b * p) - b := by rw [Int.mul_sub, Int.mul_neg, Int.mul_one]
      refine (Int.ediv_emod_unique (show 0 < b by omega) (r := b - q) |>.2 ⟨by rw [hd]; omega, by omega, by omega⟩).1.symm
/-- the rest is below 0 just where the quotient was rounded up -/
theorem rem_down {n b : Int} (hb : 1 ≤ b) : (¬ n.tmod b < 0 ∧ n.tdiv b = n / b) ∨ (n.tmod b < 0 ∧ n.tdiv b - 1 = n / b) := by
  have e := Int.mul_tdiv_add_tmod n b
  have m1 := Int.mul_ediv_add_emod n b
  have m2 := Int.emod_nonneg n (show b ≠ 0 by omega)
  have m3 := Int.emod_lt_of_pos n (show 0 < b by omega)
  rcases quo_down (n := n) hb with ⟨h0, h1⟩ | ⟨h0, h1, h2⟩ | ⟨h0, h1, h2⟩
  · left
    rw [h1] at e
    exact ⟨by omega, h1⟩
  · left
    rw [Int.mul_comm] at h1
    exact ⟨by omega, h2⟩
  · right
    have : b * n.tdiv b = b * (n / b) + b := by rw [show n.tdiv b = n / b + 1 by omega, Int.mul_add, Int.mul_one]
    exact ⟨by omega, h2⟩
theorem div_bd {n b : Int} (hb : 1 ≤ b) (h1 : -30000000 ≤ n) (h2 : n ≤ 30000000) : -30000000 ≤ n / b ∧ n / b ≤ 30000000 := by
  constructor
  · exact (Int.le_ediv_iff_mul_le (show 0 < b by omega)).2 (by
      have : 30000000 * 1 ≤ 30000000 * b := Int.mul_le_mul_of_nonneg_left (by omega) (by omega)
      rw [Int.neg_mul]; omega)
  · have := Int.ediv_le_ediv (show 0 < b by omega) h2
    have h3 : 30000000 / b ≤ 30000000 := Int.ediv_le_self _ (by decide)
    omega
theorem nextM_min {s r h q : Int} (hs : 1 ≤ s) : nextM s r h q = min (max (q + q * (2 * (s - r) - h) / (4 * s)) 1) s := by
  unfold nextM
  simp only
  generalize q * (2 * (s - r) - h) / (4 * s) = F
  split
  · rw [if_neg (by omega)]; omega
  · split <;> omega
theorem spare_bd {s r h q : Int} (h0 : metE s r h = 0) (q0 : 1 ≤ q) (q1 : q ≤ 1000) : -30000000 ≤ q * (2 * (s - r) - h) ∧ q * (2 * (s - r) - h) ≤ 30000000 := by
  have hb := metE_0.1 h0
  have e1 : q * (2 * (s - r) - h) ≤ q * 30000 := Int.mul_le_mul_of_nonneg_left (by omega) (by omega)
  have e2 : q * (-30000) ≤ q * (2 * (s - r) - h) := Int.mul_le_mul_of_nonneg_left (by omega) (by omega)
  omega
theorem waitM_min (cap wt c : Int) : waitM cap wt c = min (max (wt + c - cap) 0) 10000 := by
  unfold waitM
  split
  · omega
  · split <;> omega
theorem waitQ_bd (cap wt c : Int) : 0 ≤ waitM cap wt c ∧ waitM cap wt c ≤ 10000 := by rw [waitM_min]; omega
/-- what waits, and the rate, of a meter that is right -/
theorem mtQ_at {s r h q : Int} {l : List Int} (hm : metE s r h = 0) (q0 : 1 ≤ q) (q1 : q ≤ 1000) (k : Nat) (hk : k ≤ l.length) :
    0 ≤ (mtSt s h q (l.take k)).1 ∧ (mtSt s h q (l.take k)).1 ≤ 10000 ∧ 1 ≤ (mtSt s h q (l.take k)).2.1 ∧ (mtSt s h q (l.take k)).2.1 ≤ 1000 ∧ (mtSt s h q (l.take k)).2.2.length = k := by
  have hb := metE_0.1 hm
  induction k with
  | zero => simp [mtSt]; omega
  | succ k ih =>
    obtain ⟨i1, i2, i3, i4, i5⟩ := ih (by omega)
    rw [mtSt_step s h q l k (by omega)]
    unfold stepM
    have w1 := waitQ_bd s (mtSt s h q (l.take k)).1 (l.getD k 0)
    have n1 := next_bd (cap := s) (came := l.getD k 0) (wait := waitM s (mtSt s h q (l.take k)).1 (l.getD k 0)) (rate := (mtSt s h q (l.take k)).2.1) hb.1
    refine ⟨w1.1, w1.2, n1.1, Int.le_trans n1.2 hb.2.1, ?_⟩
    simp [i5]
end Go.Proofs.Ytgacckmgbalggai.Ev

/- What is asked of package meter's Run, as the document says it. -/
namespace Go.Proofs.Ytgacckmgbalggai
namespace Ev
open Go.RowKit Fr Ns Ld Fl

def MtRunSaid : Prop := ∀ (Q : Nat → Prop) (s r h q : Int) (l : List Int) (v : Value) (w : World), IntsAt Q w v l →
  Calls Try.prog 13 #[.agg #[.int .i64 s, .int .i64 r, .int .i64 h], .int .i64 q, v] w fun e w' => ∃ y, e = .returned (.tuple #[y, errV (mrnE s r h q l)]) ∧
    IntsAt (fun b => w.heap.size ≤ b) w' y (okL (mrnE s r h q l) (runM s h q l)) ∧ Below w.heap.size w w'
end Ev
end Go.Proofs.Ytgacckmgbalggai

/- Rows of bools, and of ints with room behind them, as a walk meets them. -/
namespace Go.Proofs.Ytgacckmgbalggai
namespace Ev
open Go.RowKit Ns Fl
set_option linter.unusedSimpArgs false
set_option linter.unusedVariables false

theorem infoB : (Try.prog.info? 4).map (fun i => (i.zero, i.size, i.bytes)) = some (some (.bool false), 1, 1) := by kernel_rfl
theorem madeB (n : Nat) : (madeCells #[Value.bool false] n).toList = (List.replicate n false).map Value.bool := by
  apply List.ext_getElem
  · simp [madeCells]
  · intro i h1 h2
    simp [madeCells, Nat.mod_one]
/-- a row that the call owns, and what lies behind its length -/
theorem owns_row {w : World} {base n c : Nat} {T : TypeId} {a : Option Addr} {xs : List Value} (hn : 0 < n) (h : w.ownsRow base T 1 (.slice a n c) n xs) : ∃ g sp, a = some ⟨g, 0, none⟩ ∧ base ≤ g ∧ n ≤ c ∧ RowAt w g T (xs ++ sp) := by
  rcases h.2 with ⟨_, h0⟩ | ⟨g, cap, cur, hv, hb, hg, hc, hm, hs, ht⟩
  · omega
  · simp only [Value.slice.injEq] at hv
    refine ⟨g, cur.toList.drop (n * 1), hv.1, hb, by rw [hv.2.2]; exact hc, ?_⟩
    unfold RowAt
    rw [hg, ← ht, List.take_append_drop]
theorem boolsCell {l : List Bool} {i : Nat} (h : i < l.length) : (l.map Value.bool)[i]? = some (.bool (l.getD i false)) := by
  simp [List.getD, List.getElem?_eq_getElem h]
theorem intsCell {l : List Int} {sp : List Value} {i : Nat} (h : i < l.length) : (l.map (Value.int .i64) ++ sp)[i]? = some (.int .i64 (l.getD i 0)) := by
  rw [List.getElem?_append_left (by simpa using h)]
  simp [List.getD, List.getElem?_eq_getElem h]
theorem boolsSet {l : List Bool} {i : Nat} {b : Bool} : (l.map Value.bool).set i (.bool b) = (l.set i b).map Value.bool := by rw [List.map_set]
theorem intsSet {l : List Int} {sp : List Value} {i : Nat} {x : Int} (h : i < l.length) : (l.map (Value.int .i64) ++ sp).set i (.int .i64 x) = (l.set i x).map (Value.int .i64) ++ sp := by
  rw [List.set_append_left _ _ (by simpa using h), List.map_set]
/-- a row of ints with room behind it is a list -/
theorem intsRow {Q : Nat → Prop} {w : World} {g c : Nat} {l : List Int} {sp : List Value} (h : RowAt w g 3 (l.map (Value.int .i64) ++ sp)) (hc : l.length ≤ c) (hl : l.length ≤ 9223372036854775807) (hQ : Q g) : IntsAt Q w (.slice (some ⟨g, 0, none⟩) l.length c) l :=
  ⟨_, c, rfl, ⟨hc, hl⟩, .inr ⟨g, 0, rfl, fun i hi => by rw [Nat.zero_add]; exact h.cell (intsCell hi), hQ⟩⟩
/-- a list in a row of its own, that may be written into -/
def OwnInts (B : Nat) (w : World) (y : Value) (l : List Int) : Prop := ∃ g c sp, y = .slice (some ⟨g, 0, none⟩) l.length c ∧ l.length ≤ c ∧ B ≤ g ∧ RowAt w g 3 (l.map (Value.int .i64) ++ sp)
theorem OwnInts.ints {B : Nat} {w : World} {y : Value} {l : List Int} (h : OwnInts B w y l) (hl : l.length ≤ 9223372036854775807) : IntsAt (fun b => B ≤ b) w y l := by
  obtain ⟨g, c, sp, rfl, hc, hg, hr⟩ := h
  exact intsRow hr hc hl hg
end Ev
end Go.Proofs.Ytgacckmgbalggai

/- Slices of ints, one by one. -/
namespace Go.Proofs.Ytgacckmgbalggai
namespace Ev
open Go.RowKit Fr Ns Ld Fl
set_option linter.unusedSimpArgs false
set_option linter.unusedVariables false

theorem ints_cells {Q : Nat → Prop} {w : World} {a : Option Addr} {n cap : Nat} {l : List Int} (h : IntsAt Q w (.slice a n cap) l) : ∀ i, i < l.length → ∃ b off, a = some ⟨b, off, none⟩ ∧ ∀ u, Below w.heap.size w u → u.cell? ⟨b, off + i, none⟩ = some (.int .i64 (l.getD i 0)) := by
  intro i hi
  obtain ⟨_, _, e, _, hc⟩ := h
  simp only [Value.slice.injEq] at e
  obtain ⟨rfl, _, _⟩ := e
  rcases hc with h | ⟨b, off, rfl, h, _⟩
  · rw [h] at hi; simp at hi
  · exact ⟨b, off, rfl, fun u hu => cell_later hu (h i hi)⟩
theorem all_step {l : List Int} {p : Int → Bool} {k : Nat} (h : k < l.length) : (l.take (k + 1)).all p = ((l.take k).all p && p (l.getD k 0)) := by
  rw [take_snoc l k h 0, List.all_append]
  simp
theorem all_not {l : List Int} {p : Int → Bool} {k : Nat} (h : k < l.length) (hx : p (l.getD k 0) = false) : l.all p = false := by
  rw [List.all_eq_false]
  exact ⟨_, getD_mem l k h 0, by rw [hx]; exact Bool.false_ne_true⟩
end Ev
end Go.Proofs.Ytgacckmgbalggai

/- A made row of ints whose first places are written. No Go in it. -/
namespace Go.Proofs.Ytgacckmgbalggai
namespace Ev
open Go.RowKit Fr Ns Ld Fl
set_option linter.unusedSimpArgs false
set_option linter.unusedVariables false

theorem nil_intsB {Q : Nat → Prop} (w : World) : IntsAt Q w (.slice none 0 0) [] := ⟨none, 0, rfl, ⟨Nat.le_refl _, by simp⟩, .inl rfl⟩
theorem madeI (n : Nat) : (madeCells #[Value.int .i64 0] n).toList = (List.replicate n (0 : Int)).map (Value.int .i64) := by
  apply List.ext_getElem
  · simp [madeCells]
  · intro i h1 h2
    simp [madeCells, Nat.mod_one]
/-- what went so far, and room for the rest -/
theorem went_set {a : List Int} {n k : Nat} {x : Int} (ha : a.length = k) (hk : k < n) : (a ++ List.replicate (n - k) 0).set k x = (a ++ [x]) ++ List.replicate (n - (k + 1)) 0 := by
  obtain ⟨m, hm⟩ : ∃ m, n - k = m + 1 := ⟨n - k - 1, by omega⟩
  have e : n - (k + 1) = m := by omega
  rw [hm, e, List.replicate_succ, ← ha]
  simp
theorem row_set {w : World} {g n k : Nat} {T : TypeId} {a b : List Int} {x : Int} (h : RowAt w g T ((a ++ List.replicate (n - k) 0).map (Value.int .i64))) (ha : a.length = k) (hk : k < n) (hb : b = a ++ [x]) : RowAt (w.setCell ⟨g, k, none⟩ (.int .i64 x)) g T ((b ++ List.replicate (n - (k + 1)) 0).map (Value.int .i64)) := by
  have := h.set k (.int .i64 x)
  rw [← List.map_set, went_set ha hk, ← hb] at this
  exact this
end Ev
end Go.Proofs.Ytgacckmgbalggai

/- From the reading of an argument to what a walk is told of it: a struct of three or four ints by value. -/
namespace Go.Proofs.Ytgacckmgbalggai
namespace Ns
open Go.ChangeShapes Go.WideShapes Go.ChangeAt Go.RowKit Go.Joins
set_option linter.unusedVariables false
set_option linter.unusedSimpArgs false

variable {H : Type} {enc : TypeId × Value → H}

theorem cellsMeter : Try.prog.cellsOf 35 = 3 := by kernel_rfl
set_option maxRecDepth 100000 in
theorem meter_of_trod {w : World} {base : Nat} {v : Value} {d : DataW H} {p : List MemPlace} (hv : Value.okWide Try.prog w .any base 35 v) (h : DataW.Trod enc Try.prog w 0 (fun _ => true) true 35 v d p) : ∃ a b c : Int, v = .agg #[.int .i64 a, .int .i64 b, .int .i64 c] := by
  obtain ⟨c0, c1, c2, y0, y1, y2, m, rfl, rfl, rfl, hy0, hy1, hy2⟩ := open_agg3 Try.underlying35 (by kernel_rfl) cellsMeter hv h
  obtain ⟨a, e0, rfl, wa⟩ := DataW.trod_int Try.underlying3 hy0
  obtain ⟨b, e1, rfl, wb⟩ := DataW.trod_int Try.underlying3 hy1
  obtain ⟨c, e2, rfl, wc⟩ := DataW.trod_int Try.underlying3 hy2
  simp at e0 e1 e2
  subst e0 e1 e2
  exact ⟨a, b, c, rfl⟩
end Ns
end Go.Proofs.Ytgacckmgbalggai
