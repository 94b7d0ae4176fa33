/- Facts and contracts that the walks lean on, one text behind the other; no walk of Go in them. -/
import Derived.Test.YtdldgefahgojaakDoorChecked
import Derived.WalkKit
import Derived.WalkSpells
import Derived.WalkLawsBesides
import Derived.Deep.QuietTactic
import Derived.BigQuiet
import Derived.Deep.RegionHeld3
import Derived.Deep.Cut
import Derived.OwnWalk
import Derived.Maps.AppendAt
import Derived.Laws.OwnMore
/- Plain facts on nets: which number is in a list, what is wrong with links, a path, a net. No Go in it. -/
namespace Go.Proofs.YtdldgefahgojaakDoor.Ns

def inB (l : List Int) (n : Int) : Bool := l.contains n
theorem inB_nil (n : Int) : inB [] n = false := rfl
theorem inB_snoc (l : List Int) (x n : Int) : inB (l ++ [x]) n = (inB l n || x == n) := by
  rw [Bool.eq_iff_iff]
  simp [inB]
  constructor
  · rintro (h | h)
    · exact .inl h
    · exact .inr h.symm
  · rintro (h | h)
    · exact .inl h
    · exact .inr h.symm
theorem inB_of_mem {l : List Int} {n : Int} (h : n ∈ l) : inB l n = true := by simpa [inB] using h
theorem take_snoc {α : Type} (l : List α) (k : Nat) (h : k < l.length) (d : α) : l.take (k + 1) = l.take k ++ [l.getD k d] := by
  rw [List.take_succ_eq_append_getElem h]
  simp [List.getD, List.getElem?_eq_getElem h]
theorem drop_cons {α : Type} (l : List α) (k : Nat) (h : k < l.length) (d : α) : l.drop k = l.getD k d :: l.drop (k + 1) := by
  rw [List.drop_eq_getElem_cons h]
  simp [List.getD, List.getElem?_eq_getElem h]
theorem getD_mem {α : Type} (l : List α) (k : Nat) (h : k < l.length) (d : α) : l.getD k d ∈ l := by
  simp [List.getD, List.getElem?_eq_getElem h]

/-- what is wrong with links: 5 there is none, 4 too many, 1 one is out of bounds, 0 nothing -/
def capsFrom : List Int → Int
  | [] => 0
  | x :: r => if x < 1 ∨ 1000 < x then 1 else capsFrom r
def linksE (l : List Int) : Int := if l.length = 0 then 5 else if 6 < l.length then 4 else capsFrom l
/-- what is wrong with a path, behind the links that it went over -/
def pathFrom (links : Int) : List Int → List Int → Int
  | _, [] => 0
  | seen, x :: r => if x < 0 ∨ links ≤ x then 1 else if inB seen x then 7 else pathFrom links (seen ++ [x]) r
def pathE (links : Int) (p : List Int) : Int := if p.length = 0 then 5 else pathFrom links [] p
/-- what is wrong with some paths: the first fault -/
def pathsFrom (links : Int) : List (List Int) → Int
  | [] => 0
  | p :: r => if pathE links p = 0 then pathsFrom links r else pathE links p
def netE (caps : List Int) (paths : List (List Int)) : Int :=
  if caps.length = 0 ∨ paths.length = 0 then 5 else if 6 < caps.length ∨ 6 < paths.length then 4
  else if linksE caps = 0 then pathsFrom caps.length paths else linksE caps

theorem capsFrom_bd (l : List Int) : 0 ≤ capsFrom l ∧ capsFrom l ≤ 1 := by
  induction l with
  | nil => simp [capsFrom]
  | cons x r ih => unfold capsFrom; split <;> omega
theorem pathFrom_bd (links : Int) (s l : List Int) : 0 ≤ pathFrom links s l ∧ pathFrom links s l ≤ 7 := by
  induction l generalizing s with
  | nil => simp [pathFrom]
  | cons x r ih => unfold pathFrom; split; omega; split; omega; exact ih _

/-- who goes over a link: the flows' numbers, rising -/
def usersFrom (link : Int) : Nat → List (List Int) → List Int
  | _, [] => []
  | i, p :: r => if inB p link then (i : Int) :: usersFrom link (i + 1) r else usersFrom link (i + 1) r
def users (paths : List (List Int)) (link : Int) : List Int := usersFrom link 0 paths
theorem usersFrom_snoc (link : Int) (i : Nat) (l : List (List Int)) (p : List Int) :
    usersFrom link i (l ++ [p]) = usersFrom link i l ++ (if inB p link then [((i + l.length : Nat) : Int)] else []) := by
  induction l generalizing i with
  | nil => simp [usersFrom]
  | cons q r ih =>
    simp only [List.cons_append, usersFrom, ih]
    have : i + 1 + r.length = i + (q :: r).length := by simp; omega
    rw [this]
    split <;> simp
theorem users_length (link : Int) (i : Nat) (l : List (List Int)) : (usersFrom link i l).length ≤ l.length := by
  induction l generalizing i with
  | nil => simp [usersFrom]
  | cons q r ih => unfold usersFrom; have := ih (i + 1); split <;> simp <;> omega

end Go.Proofs.YtdldgefahgojaakDoor.Ns

/- Slices of int, slices of these, and a net: what a walk is told of them, and what stays of it. -/
namespace Go.Proofs.YtdldgefahgojaakDoor
namespace Ns
open Go.RowKit
set_option linter.unusedSimpArgs false
set_option linter.unusedVariables false

/-- the slice v holds the numbers l in the world w, in a block of which Q holds -/
def IntsAt (Q : Nat → Prop) (w : World) (v : Value) (l : List Int) : Prop :=
  ∃ a cap, v = .slice a l.length cap ∧ (l.length ≤ cap ∧ l.length ≤ 9223372036854775807) ∧
    (l = [] ∨ ∃ b off, a = some ⟨b, off, none⟩ ∧ (∀ i, i < l.length → w.cell? ⟨b, off + i, none⟩ = some (.int .i64 (l.getD i 0))) ∧ Q b)

theorem IntsAt.later {Q : Nat → Prop} {w w' : World} {v : Value} {l : List Int} (hb : Below w.heap.size w w') (h : IntsAt Q w v l) : IntsAt Q w' v l := by
  obtain ⟨a, cap, rfl, hm, h⟩ := h
  refine ⟨a, cap, rfl, hm, ?_⟩
  rcases h with h | ⟨b, off, rfl, h, hQ⟩
  · exact .inl h
  · exact .inr ⟨b, off, rfl, fun i hi => cell_later hb (h i hi), hQ⟩
/-- only the blocks of which Q holds matter -/
theorem IntsAt.keep {Q R : Nat → Prop} {w w' : World} {v : Value} {l : List Int} (hk : ∀ b, Q b → b < w.heap.size → w'.heap[b]? = w.heap[b]?) (hQR : ∀ b, Q b → b < w.heap.size → R b) (h : IntsAt Q w v l) : IntsAt R w' v l := by
  obtain ⟨a, cap, rfl, hm, h⟩ := h
  refine ⟨a, cap, rfl, hm, ?_⟩
  rcases h with h | ⟨b, off, rfl, h, hQ⟩
  · exact .inl h
  · by_cases hl : l = []
    · exact .inl hl
    · have hb : b < w.heap.size := World.block_lt_of_cell? _ _ (h 0 (List.length_pos_iff.2 hl))
      refine .inr ⟨b, off, rfl, fun i hi => ?_, hQR b hQ hb⟩
      rw [World.cell?_of_block (w := w) (a := ⟨b, off + i, none⟩) (hk b hQ hb)]
      exact h i hi

theorem ret_bool {a b : Bool} (h : a = b) : Ending.returned (.bool a) = .returned (.bool b) := by rw [h]
theorem ret_int {k : IntKind} {a b : Int} (h : a = b) : Ending.returned (.int k a) = .returned (.int k b) := by rw [h]

theorem IntsAt.take {Q : Nat → Prop} {w : World} {b off cap : Nat} {l : List Int} (hm : l.length ≤ cap) (hm2 : l.length ≤ 9223372036854775807) (h : ∀ i, i < l.length → w.cell? ⟨b, off + i, none⟩ = some (.int .i64 (l.getD i 0))) (k : Nat) (hk : k ≤ l.length) (hQ : Q b) :
    IntsAt Q w (.slice (some ⟨b, off, none⟩) k cap) (l.take k) := by
  refine ⟨_, cap, by rw [List.length_take, Nat.min_eq_left hk], ⟨by rw [List.length_take]; omega, by rw [List.length_take]; omega⟩, .inr ⟨b, off, rfl, fun i hi => ?_, hQ⟩⟩
  rw [List.length_take] at hi
  rw [h i (by omega)]
  congr 2
  simp [List.getD, List.getElem?_take, show i < k by omega]

/-- the slice v holds the lists ll in the world w -/
def ListsAt (Q : Nat → Prop) (w : World) (v : Value) (ll : List (List Int)) : Prop :=
  ∃ a cap, v = .slice a ll.length cap ∧ (ll.length ≤ cap ∧ ll.length ≤ 9223372036854775807) ∧
    (ll = [] ∨ ∃ b off, a = some ⟨b, off, none⟩ ∧ (∀ i, i < ll.length → ∃ x, w.cell? ⟨b, off + i, none⟩ = some x ∧ IntsAt Q w x (ll.getD i [])) ∧ Q b)

theorem ListsAt.later {Q : Nat → Prop} {w w' : World} {v : Value} {l : List (List Int)} (hb : Below w.heap.size w w') (h : ListsAt Q w v l) : ListsAt Q w' v l := by
  obtain ⟨a, cap, rfl, hm, h⟩ := h
  refine ⟨a, cap, rfl, hm, ?_⟩
  rcases h with h | ⟨b, off, rfl, h, hQ⟩
  · exact .inl h
  · refine .inr ⟨b, off, rfl, fun i hi => ?_, hQ⟩
    obtain ⟨x, hx, hi⟩ := h i hi
    exact ⟨x, cell_later hb hx, hi.later hb⟩
theorem ListsAt.keep {Q R : Nat → Prop} {w w' : World} {v : Value} {l : List (List Int)} (hk : ∀ b, Q b → b < w.heap.size → w'.heap[b]? = w.heap[b]?) (hQR : ∀ b, Q b → b < w.heap.size → R b) (h : ListsAt Q w v l) : ListsAt R w' v l := by
  obtain ⟨a, cap, rfl, hm, h⟩ := h
  refine ⟨a, cap, rfl, hm, ?_⟩
  rcases h with h | ⟨b, off, rfl, h, hQ⟩
  · exact .inl h
  · by_cases hl : l = []
    · exact .inl hl
    · obtain ⟨x0, hx0, _⟩ := h 0 (List.length_pos_iff.2 hl)
      have hb : b < w.heap.size := World.block_lt_of_cell? _ _ hx0
      refine .inr ⟨b, off, rfl, fun i hi => ?_, hQR b hQ hb⟩
      obtain ⟨x, hx, hxi⟩ := h i hi
      exact ⟨x, by rw [World.cell?_of_block (w := w) (a := ⟨b, off + i, none⟩) (hk b hQ hb)]; exact hx, hxi.keep hk hQR⟩

/-- the value v is the net of these links and paths in the world w -/
def NetAt (Q : Nat → Prop) (w : World) (v : Value) (caps : List Int) (paths : List (List Int)) : Prop :=
  ∃ v1 v2, v = .agg #[v1, v2] ∧ IntsAt Q w v1 caps ∧ ListsAt Q w v2 paths
theorem NetAt.later {Q : Nat → Prop} {w w' : World} {v : Value} {c : List Int} {l : List (List Int)} (hb : Below w.heap.size w w') (h : NetAt Q w v c l) : NetAt Q w' v c l := by
  obtain ⟨v1, v2, rfl, h1, h2⟩ := h
  exact ⟨v1, v2, rfl, h1.later hb, h2.later hb⟩
theorem NetAt.keep {Q R : Nat → Prop} {w w' : World} {v : Value} {c : List Int} {l : List (List Int)} (hk : ∀ b, Q b → b < w.heap.size → w'.heap[b]? = w.heap[b]?) (hQR : ∀ b, Q b → b < w.heap.size → R b) (h : NetAt Q w v c l) : NetAt R w' v c l := by
  obtain ⟨v1, v2, rfl, h1, h2⟩ := h
  exact ⟨v1, v2, rfl, h1.keep hk hQR, h2.keep hk hQR⟩
/-- a store into a block of which Q does not hold -/
theorem NetAt.setCell {Q : Nat → Prop} {w : World} {v : Value} {c : List Int} {l : List (List Int)} (h : NetAt Q w v c l) {a : Addr} (ha : ¬ Q a.block) (u : Value) : NetAt Q (w.setCell a u) v c l :=
  h.keep (fun b hb _ => Below.heap_setCell w a u b (fun e => ha (e ▸ hb))) (fun _ h _ => h)

theorem NetAt.shape {Q : Nat → Prop} {w : World} {v : Value} {c : List Int} {l : List (List Int)} (h : NetAt Q w v c l) : ∃ a n k a' n' k', v = .agg #[.slice a n k, .slice a' n' k'] := by
  obtain ⟨_, _, rfl, ⟨_, _, rfl, _⟩, ⟨_, _, rfl, _⟩⟩ := h
  exact ⟨_, _, _, _, _, _, rfl⟩
theorem pathsFrom_cons (L : Int) (l : List (List Int)) (k : Nat) (h : k < l.length) :
    pathsFrom L (l.drop k) = if pathE L (l.getD k []) = 0 then pathsFrom L (l.drop (k + 1)) else pathE L (l.getD k []) := by
  rw [drop_cons l k h []]; rfl

theorem infoInt : (Tryd.prog.info? 3).map (fun i => (i.zero, i.size, i.bytes)) = some (some (.int .i64 0), 1, 8) := by kernel_rfl

/-- a row of ints that the call owns is a list -/
theorem ints_of_owns {Q : Nat → Prop} {w : World} {base : Nat} {v : Value} {l : List Int} (hl : l.length ≤ 9223372036854775807) (h : w.ownsRow base 3 1 v l.length (l.map (Value.int .i64))) (hQ : ∀ g, base ≤ g → Q g) : IntsAt Q w v l := by
  have h' := h
  obtain ⟨h0, h⟩ := h
  rcases h with ⟨rfl, h⟩ | ⟨g, cap, cur, rfl, hb, hg, hc, hm, hs, ht⟩
  · have : l = [] := List.eq_nil_of_length_eq_zero h
    subst this
    exact ⟨none, 0, rfl, ⟨Nat.le_refl _, by simp⟩, .inl rfl⟩
  · refine ⟨_, cap, rfl, ⟨hc, hl⟩, .inr ⟨g, 0, rfl, fun i hi => ?_, hQ g hb⟩⟩
    have := h'.cells (g := g) rfl i (.int .i64 (l.getD i 0)) (by simp [List.getD, List.getElem?_eq_getElem hi])
    have e : (⟨g, 0, none⟩ : Addr).add i = ⟨g, 0 + i, none⟩ := by unfold Addr.add; split <;> simp_all
    rw [e] at this
    exact this

/-- behind an append to a row of the call's own nothing below has turned -/
theorem rel_append {B : Nat} {W wr w1 : World} {e : TypeId} {sz n : Nat} {v : Value} {xs : List Value} {o : Obj} (hb : Below B W wr) (hs : B ≤ wr.heap.size) (ho : wr.ownsRow B e sz v n xs) (hg : (wr.alloc o).grownBy w1 v.ownBlock) : Below B W w1 :=
  (hb.alloc hs o).grown hg (by simp; omega) (fun k hk => (ho.lt k hk).1)

theorem users_step (paths : List (List Int)) (link : Int) (k : Nat) (h : k < paths.length) :
    users (paths.take (k + 1)) link = users (paths.take k) link ++ (if inB (paths.getD k []) link then [(k : Int)] else []) := by
  unfold users
  rw [take_snoc paths k h [], usersFrom_snoc]
  have : 0 + (paths.take k).length = k := by rw [List.length_take]; omega
  rw [this]

/-- the values in the cells of a list of lists -/
theorem ListsAt.vals {Q : Nat → Prop} {w : World} {v : Value} {ll : List (List Int)} (h : ListsAt Q w v ll) (hne : ll ≠ []) :
    ∃ b off cap vs, v = .slice (some ⟨b, off, none⟩) ll.length cap ∧ ll.length ≤ cap ∧ List.length vs = ll.length ∧ ∀ i, i < ll.length → w.cell? ⟨b, off + i, none⟩ = some (vs.getD i undef) ∧ IntsAt Q w (vs.getD i undef) (ll.getD i []) := by
  obtain ⟨a, cap, rfl, ⟨hm, hm2⟩, h⟩ := h
  rcases h with h | ⟨b, off, rfl, h, hQ⟩
  · exact absurd h hne
  · refine ⟨b, off, cap, (List.range ll.length).map (fun i => (w.cell? ⟨b, off + i, none⟩).getD undef), rfl, hm, by simp, fun i hi => ?_⟩
    obtain ⟨x, hx, hi'⟩ := h i hi
    have e : ((List.range ll.length).map (fun i => (w.cell? ⟨b, off + i, none⟩).getD undef)).getD i undef = x := by
      simp [List.getD, List.getElem?_range hi, hx]
    rw [e]
    exact ⟨hx, hi'⟩

theorem add_addr (b off i : Nat) : (⟨b, off, none⟩ : Addr).add i = ⟨b, off + i, none⟩ := by unfold Addr.add; split <;> simp_all

theorem ones {Q : Nat → Prop} {w : World} {vs : List Value} {ll : List (List Int)} (hl : vs.length = ll.length) (h : ∀ i, i < ll.length → IntsAt Q w (vs.getD i undef) (ll.getD i [])) : ∀ u ∈ vs, u.oneCell' = true := by
  intro u hu
  obtain ⟨i, hi, rfl⟩ := List.mem_iff_getElem.1 hu
  obtain ⟨a, c, e, _⟩ := h i (by omega)
  have : vs[i] = vs.getD i undef := by simp [List.getD, List.getElem?_eq_getElem hi]
  rw [this, e]
  rfl

theorem ints_snoc {Q : Nat → Prop} {w : World} {vs : List Value} {ll : List (List Int)} {v : Value} {l : List Int} (hl : vs.length = ll.length) (h : ∀ i, i < ll.length → IntsAt Q w (vs.getD i undef) (ll.getD i [])) (hv : IntsAt Q w v l) :
    ∀ i, i < (ll ++ [l]).length → IntsAt Q w ((vs ++ [v]).getD i undef) ((ll ++ [l]).getD i []) := by
  intro i hi
  by_cases hlt : i < ll.length
  · have e1 : (vs ++ [v]).getD i undef = vs.getD i undef := by simp [List.getD, List.getElem?_append_left (show i < vs.length by omega)]
    have e2 : (ll ++ [l]).getD i [] = ll.getD i [] := by simp [List.getD, List.getElem?_append_left hlt]
    rw [e1, e2]; exact h i hlt
  · have hi' : i = ll.length := by simp at hi; omega
    subst hi'
    have e1 : (vs ++ [v]).getD ll.length undef = v := by rw [← hl]; simp [List.getD]
    have e2 : (ll ++ [l]).getD ll.length [] = l := by simp [List.getD]
    rw [e1, e2]; exact hv
end Ns
end Go.Proofs.YtdldgefahgojaakDoor

/- Frames by what some of their slots hold; a piece of a function's code; how pieces join. So that a great function goes piece by piece, each a declaration of its own. -/
namespace Go.Proofs.YtdldgefahgojaakDoor
open Go.RowKit
set_option linter.unusedSimpArgs false
set_option linter.unusedVariables false

def Has (t : List Value) : List (Nat × Value) → Prop
  | [] => True
  | (k, v) :: r => t[k]? = some v ∧ Has t r
def HasX (X : Nat → Value) : List (Nat × Value) → Prop
  | [] => True
  | (k, v) :: r => X k = v ∧ HasX X r
/-- a frame of n slots, of which these hold these -/
def Slots (n : Nat) (vs : List (Nat × Value)) (a : Act) : Prop := a.defers = [] ∧ a.tmps.toList.length = n ∧ Has a.tmps.toList vs
theorem has_x {t : List Value} : ∀ vs, Has t vs → HasX (fun i => t.getD i undef) vs := by
  intro vs
  induction vs with
  | nil => intro _; trivial
  | cons p r ih =>
    obtain ⟨k, v⟩ := p
    rintro ⟨h1, h2⟩
    exact ⟨by simp [List.getD, h1], ih h2⟩
theorem Slots.lay {n : Nat} {vs : List (Nat × Value)} {a : Act} (h : Slots n vs a) : ∃ X : Nat → Value, a = ⟨((List.range n).map X).toArray, []⟩ ∧ HasX X vs := by
  obtain ⟨⟨t⟩, d⟩ := a
  obtain ⟨h1, h2, h3⟩ := h
  simp only at h1 h2 h3
  subst h1 h2
  refine ⟨fun i => t.getD i undef, ?_, has_x vs h3⟩
  congr 2
  apply List.ext_getElem
  · simp
  · intro i h1 h2
    simp [List.getD, h1]
theorem Slots.head {n : Nat} {p : Nat × Value} {vs : List (Nat × Value)} {a : Act} (h : Slots n (p :: vs) a) : a.tmps.toList[p.1]? = some p.2 := h.2.2.1
theorem Slots.tail {n : Nat} {p : Nat × Value} {vs : List (Nat × Value)} {a : Act} (h : Slots n (p :: vs) a) : Slots n vs a := ⟨h.1, h.2.1, h.2.2.2⟩
theorem slot_eval {a : Act} {k : Nat} {v : Value} (h : a.tmps.toList[k]? = some v) : a.eval (.tmp k) = v := by
  obtain ⟨⟨t⟩, d⟩ := a
  simp only at h
  simp [Act.eval, Array.getD]
  obtain ⟨hk, e⟩ := List.getElem?_eq_some_iff.1 h
  simp [hk, e]
/-- a piece of code: left, right, within -/
def dig : List Nat → Code → Code
  | [], c => c
  | 0 :: p, .seq a _ => dig p a
  | _ :: p, .seq _ b => dig p b
  | 0 :: p, .cond _ a _ => dig p a
  | _ :: p, .cond _ _ b => dig p b
  | _ :: p, .block _ c => dig p c
  | _ :: p, .loop c => dig p c
  | _ :: p, .scope c => dig p c
  | _ :: _, c => c
/-- a piece goes through to its end -/
def Thru (c : Code) (R : Act → World → Prop) (a : Act) (w : World) : Prop := c.wp Tryd.prog (fun e a' w' => e = .normal ∧ R a' w') a w
/-- no other way out -/
def NoWay : Exit → Act → World → Prop := fun _ _ _ => False
theorem Thru.mk {c : Code} {R : Act → World → Prop} {a : Act} {w : World} (h : ∀ (J K : Act → World → Prop), (∀ a' w', R a' w' → J a' w') → (∀ a' w', Met J a' w' → K a' w') → c.wp Tryd.prog (Exit.then K NoWay) a w) : Thru c R a w := by
  refine wp_mono (h R R (fun _ _ q => q) (fun _ _ q => q)) ?_
  intro e a' w' hq
  cases e with
  | normal => exact ⟨rfl, hq⟩
  | exit id => exact hq.elim
  | goto l => exact hq.elim
  | ret => exact hq.elim
  | panic ch => exact hq.elim
  | outgrown => exact hq.elim
/-- a piece goes out of the block id -/
def Outs (c : Code) (id : Nat) (R : Act → World → Prop) (a : Act) (w : World) : Prop := c.wp Tryd.prog (fun e a' w' => e = .exit id ∧ R a' w') a w
def OneWay (id : Nat) (K : Act → World → Prop) : Exit → Act → World → Prop
  | .exit id', a, w => id' = id ∧ K a w
  | _, _, _ => False
theorem OneWay.mk {id : Nat} {K : Act → World → Prop} {a : Act} {w : World} (h : K a w) : OneWay id K (.exit id) a w := ⟨rfl, h⟩
theorem Outs.mk {c : Code} {id : Nat} {R : Act → World → Prop} {a : Act} {w : World} (h : ∀ (J : Act → World → Prop) (Q : Exit → Act → World → Prop), (∀ a' w', R a' w' → J a' w') → (∀ a' w', Met J a' w' → Q (.exit id) a' w') → c.wp Tryd.prog (Exit.then (fun _ _ => False) Q) a w) : Outs c id R a w := by
  refine wp_mono (h R (OneWay id R) (fun _ _ q => q) (fun _ _ q => ⟨rfl, q⟩)) ?_
  intro e a' w' hq
  cases e with
  | normal => exact hq.elim
  | exit id' => exact ⟨by rw [hq.1], hq.2⟩
  | goto l => exact hq.elim
  | ret => exact hq.elim
  | panic ch => exact hq.elim
  | outgrown => exact hq.elim
theorem Thru.mono {c : Code} {R R' : Act → World → Prop} {a : Act} {w : World} (h : Thru c R a w) (hr : ∀ a' w', R a' w' → R' a' w') : Thru c R' a w :=
  wp_mono h (fun e a' w' q => ⟨q.1, hr _ _ q.2⟩)
theorem Thru.seq {c x y : Code} (hc : c = .seq x y) {R R' : Act → World → Prop} {a : Act} {w : World} (h : Thru x R a w) (hr : ∀ a' w', R a' w' → Thru y R' a' w') : Thru c R' a w := by
  subst hc
  refine wp_seq (wp_mono h ?_)
  rintro e a' w' ⟨rfl, q⟩
  exact hr _ _ q
theorem Thru.cond {c x y : Code} {k : Nat} (hc : c = .cond (.tmp k) x y) {R : Act → World → Prop} {a : Act} {w : World} {b : Bool} (hb : a.tmps.toList[k]? = some (.bool b)) (ht : b = true → Thru x R a w) (hf : b = false → Thru y R a w) : Thru c R a w := by
  subst hc
  refine wp_cond (slot_eval hb) ?_
  cases b with
  | true => exact ht rfl
  | false => exact hf rfl
theorem Thru.skip {c : Code} (hc : c = .skip) {R : Act → World → Prop} {a : Act} {w : World} (h : R a w) : Thru c R a w := by
  subst hc
  exact wp_skip ⟨rfl, h⟩
theorem Thru.block {c x : Code} {id : Nat} (hc : c = .block id x) {R : Act → World → Prop} {a : Act} {w : World} (h : Thru x R a w) : Thru c R a w := by
  subst hc
  refine wp_block (wp_mono h ?_)
  rintro e a' w' ⟨rfl, q⟩
  exact ⟨rfl, q⟩
theorem Outs.mono {c : Code} {id : Nat} {R R' : Act → World → Prop} {a : Act} {w : World} (h : Outs c id R a w) (hr : ∀ a' w', R a' w' → R' a' w') : Outs c id R' a w :=
  wp_mono h (fun e a' w' q => ⟨q.1, hr _ _ q.2⟩)
theorem slot_int {a : Act} {k : Nat} {n : Int} (h : a.tmps.toList[k]? = some (.int .i64 n)) : intOf (a.tmps.toList.getD k undef) = n := by
  rw [List.getD, h]; rfl
theorem Outs.seq {c x y : Code} {id : Nat} (hc : c = .seq x y) {R : Act → World → Prop} {a : Act} {w : World} (h : Outs x id R a w) : Outs c id R a w := by
  subst hc
  refine wp_seq (wp_mono h ?_)
  rintro e a' w' ⟨rfl, q⟩
  exact ⟨rfl, q⟩
theorem Thru.loop {c x : Code} {id : Nat} (hc : c = .block id (.loop x)) {R : Act → World → Prop} (I : Act → World → Prop) (mu : Act → World → Nat) {a : Act} {w : World} (h0 : I a w)
    (round : ∀ a w, I a w → Thru x (fun a' w' => I a' w' ∧ mu a' w' < mu a w) a w ∨ Outs x id R a w) : Thru c R a w := by
  subst hc
  refine wp_block (wp_loop I mu h0 (fun a w hI => ?_))
  rcases round a w hI with h | h
  · refine wp_mono h ?_
    rintro e a' w' ⟨rfl, q⟩
    exact q
  · refine wp_mono h ?_
    rintro e a' w' ⟨rfl, q⟩
    simp only [Exit.then, Exit.inBlock, if_true]
    exact ⟨trivial, q⟩
/-- where the walk of the whole stands at such a piece -/
theorem Thru.here {c : Code} {R : Act → World → Prop} {K : Act → World → Prop} {Q : Exit → Act → World → Prop} {a : Act} {w : World} (h : Thru c R a w) (hr : ∀ a' w', R a' w' → K a' w') : c.wp Tryd.prog (Exit.then K Q) a w := by
  refine wp_mono h ?_
  rintro e a' w' ⟨rfl, q⟩
  exact hr _ _ q
end Go.Proofs.YtdldgefahgojaakDoor

/- What is kept when the power goes: the document's log, step by step. No Go in it. -/
namespace Go.Proofs.YtdldgefahgojaakDoor.Ev
open Ns
set_option linter.unusedSimpArgs false
set_option linter.unusedVariables false

abbrev Flows := List (List Int)
/-- a log: its links; behind each whole record (none at first) the flows and how many bytes there are; all bytes, those that are safe; in how many steps it stops (below 0: never); whether it has -/
structure LogS where
  caps : List Int
  done : List Flows
  marks : List Nat
  bytes : Nat
  safe : Nat
  left : Int
  stopped : Bool
def flowsL (d : List Flows) : Flows := d.getD (d.length - 1) []
def topM (m : List Nat) : Nat := m.getD (m.length - 1) 0
def LogS.flows (s : LogS) : Flows := flowsL s.done
def log0 (caps : List Int) : LogS := ⟨caps, [[]], [0], 0, 0, -1, false⟩
/-- a record of n bytes that makes these flows -/
def putS (s : LogS) (n : Nat) (f : Flows) : LogS :=
  if s.left = 0 then { s with bytes := s.bytes + n / 2, stopped := true }
  else { s with done := s.done ++ [f], marks := s.marks ++ [s.bytes + n], bytes := s.bytes + n, left := if 0 < s.left then s.left - 1 else s.left }
def addF (s : LogS) (p : List Int) : Int := if s.stopped then 6 else if s.flows.length = 6 then 4 else pathE s.caps.length p
def dropF (s : LogS) (i : Int) : Int := if s.stopped then 6 else if i < 0 ∨ (s.flows.length : Int) ≤ i then 1 else 0
def lastE (s : LogS) (k : Int) : Int := if k = 0 then (if s.left = 0 then 6 else 0) else k
def addLE (s : LogS) (p : List Int) : Int := lastE s (addF s p)
def dropLE (s : LogS) (i : Int) : Int := lastE s (dropF s i)
def lessF (f : Flows) (i : Int) : Flows := f.take i.toNat ++ f.drop (i.toNat + 1)
def addLS (s : LogS) (p : List Int) (n : Nat) : LogS := if addF s p = 0 then putS s n (s.flows ++ [p]) else s
def dropLS (s : LogS) (i : Int) (n : Nat) : LogS := if dropF s i = 0 then putS s n (lessF s.flows i) else s
def syncE (s : LogS) : Int := if s.stopped then 6 else if s.left = 0 then 6 else 0
def syncS (s : LogS) : LogS :=
  if s.stopped then s else if s.left = 0 then { s with stopped := true } else { s with safe := s.bytes, left := if 0 < s.left then s.left - 1 else s.left }
def failS (s : LogS) (n : Int) : LogS := { s with left := n }
/-- how many bytes are left when the power goes -/
def highN (s : LogS) (keep : Int) : Nat := if keep ≤ 0 then s.safe else if keep < (s.bytes : Int) - s.safe then s.safe + keep.toNat else s.bytes
/-- the last record, of the first k, that ends no later than there -/
def leftK (m : List Nat) (h : Nat) : Nat → Nat
  | 0 => 0
  | k + 1 => if m.getD k 0 ≤ h then k else leftK m h k
def leftN' (m : List Nat) (h : Nat) : Nat := leftK m h m.length
def crashS (s : LogS) (keep : Int) : LogS :=
  { s with done := s.done.take (leftN' s.marks (highN s keep) + 1), marks := s.marks.take (leftN' s.marks (highN s keep) + 1),
           bytes := s.marks.getD (leftN' s.marks (highN s keep)) 0, safe := s.marks.getD (leftN' s.marks (highN s keep)) 0, left := -1, stopped := false }

/-- a log is right -/
structure LogOk (s : LogS) : Prop where
  caps : linksE s.caps = 0
  len : s.done.length = s.marks.length
  pos : 0 < s.marks.length
  first : s.marks.getD 0 0 = 0
  rise : ∀ i, i + 1 < s.marks.length → s.marks.getD i 0 + 2 ≤ s.marks.getD (i + 1) 0
  safe : ∃ i, i < s.marks.length ∧ s.safe = s.marks.getD i 0
  top : topM s.marks ≤ s.bytes
  torn : s.stopped = false → s.bytes = topM s.marks
  nets : ∀ f ∈ s.done, f.length ≤ 6 ∧ ∀ p ∈ f, pathE s.caps.length p = 0
  few : ∀ i, i < s.marks.length → s.marks.getD i 0 ≤ 1000 * i
  tail : s.bytes ≤ topM s.marks + 1000

theorem flowsL_mem {d : List Flows} (h : 0 < d.length) : flowsL d ∈ d := by
  unfold flowsL
  have : d.length - 1 < d.length := by omega
  rw [List.getD, List.getElem?_eq_getElem this]
  exact List.getElem_mem _
theorem flowsL_snoc (d : List Flows) (f : Flows) : flowsL (d ++ [f]) = f := by simp [flowsL, List.getD]
theorem topM_snoc (m : List Nat) (n : Nat) : topM (m ++ [n]) = n := by simp [topM, List.getD]
theorem getD_take {α : Type} (l : List α) (n i : Nat) (d : α) (h : i < n) : (l.take n).getD i d = l.getD i d := by simp [List.getD, List.getElem?_take, h]
theorem getD_snoc_lt {α : Type} (l : List α) (x d : α) (i : Nat) (h : i < l.length) : (l ++ [x]).getD i d = l.getD i d := by simp [List.getD, List.getElem?_append_left h]
theorem getD_snoc_eq {α : Type} (l : List α) (x d : α) : (l ++ [x]).getD l.length d = x := by simp [List.getD]

theorem LogOk.flows_right {s : LogS} (h : LogOk s) : s.flows.length ≤ 6 ∧ ∀ p ∈ s.flows, pathE s.caps.length p = 0 := h.nets _ (flowsL_mem (by have := h.len; have := h.pos; omega))
theorem log0_ok {caps : List Int} (h : linksE caps = 0) : LogOk (log0 caps) :=
  ⟨h, rfl, by simp [log0], rfl, by simp [log0], ⟨0, by simp [log0], rfl⟩, by simp [log0, topM], fun _ => rfl, by simp [log0], fun i hi => by simp [log0] at hi ⊢; subst hi; simp, by simp [log0]⟩
theorem LogOk.topAt {s : LogS} (h : LogOk s) : topM s.marks ≤ 1000 * (s.marks.length - 1) := h.few _ (by have := h.pos; omega)
theorem LogOk.bytes_le {s : LogS} (h : LogOk s) : s.bytes ≤ 1000 * s.marks.length := by
  have := h.topAt; have := h.tail; have := h.pos; omega
theorem putS_ok {s : LogS} {n : Nat} {f : Flows} (h : LogOk s) (hs : s.stopped = false) (h2 : 2 ≤ n) (hn : n ≤ 1000) (hf : f.length ≤ 6 ∧ ∀ p ∈ f, pathE s.caps.length p = 0) : LogOk (putS s n f) := by
  have ht := h.torn hs
  have hta := h.topAt
  obtain ⟨i, hi, hsi⟩ := h.safe
  have hp := h.pos
  have hl := h.len
  unfold putS
  split
  · exact ⟨h.caps, h.len, h.pos, h.first, h.rise, h.safe, by have := h.top; show topM s.marks ≤ s.bytes + n / 2; omega, fun e => by simp at e, h.nets, h.few, by show s.bytes + n / 2 ≤ topM s.marks + 1000; omega⟩
  · refine ⟨h.caps, by simp [hl], by simp, ?_, fun j hj => ?_, ⟨i, by simp; omega, ?_⟩, ?_, fun _ => ?_, fun g hg => ?_, fun j hj => ?_, ?_⟩
    · show (s.marks ++ [s.bytes + n]).getD 0 0 = 0
      rw [getD_snoc_lt _ _ _ _ hp]; exact h.first
    · show (s.marks ++ [s.bytes + n]).getD j 0 + 2 ≤ (s.marks ++ [s.bytes + n]).getD (j + 1) 0
      have hj' : j + 1 < s.marks.length + 1 := by simpa using hj
      by_cases e : j + 1 = s.marks.length
      · rw [e, getD_snoc_eq, getD_snoc_lt _ _ _ _ (by omega)]
        have : j = s.marks.length - 1 := by omega
        rw [this]
        show topM s.marks + 2 ≤ _
        omega
      · rw [getD_snoc_lt _ _ _ _ (by omega), getD_snoc_lt _ _ _ _ (by omega)]
        exact h.rise j (by omega)
    · show s.safe = (s.marks ++ [s.bytes + n]).getD i 0
      rw [getD_snoc_lt _ _ _ _ hi]; exact hsi
    · show topM (s.marks ++ [s.bytes + n]) ≤ s.bytes + n
      rw [topM_snoc]; exact Nat.le_refl _
    · show s.bytes + n = topM (s.marks ++ [s.bytes + n])
      rw [topM_snoc]
    · rcases List.mem_append.1 hg with hg | hg
      · exact h.nets g hg
      · simp at hg; subst hg; exact hf
    · show (s.marks ++ [s.bytes + n]).getD j 0 ≤ 1000 * j
      have hj' : j < s.marks.length + 1 := by simpa using hj
      by_cases e : j = s.marks.length
      · subst e; rw [getD_snoc_eq]; omega
      · rw [getD_snoc_lt _ _ _ _ (by omega)]; exact h.few j (by omega)
    · show s.bytes + n ≤ topM (s.marks ++ [s.bytes + n]) + 1000
      rw [topM_snoc]; omega
theorem lessF_length {f : Flows} {i : Int} (h0 : 0 ≤ i) (h1 : i < f.length) : (lessF f i).length + 1 = f.length := by
  simp only [lessF, List.length_append, List.length_take, List.length_drop]; omega
theorem lessF_mem {f : Flows} {i : Int} {p : List Int} (h : p ∈ lessF f i) : p ∈ f := by
  rcases List.mem_append.1 h with h | h
  · exact List.mem_of_mem_take h
  · exact List.mem_of_mem_drop h
theorem addF_0 {s : LogS} {p : List Int} (h : addF s p = 0) : s.stopped = false ∧ s.flows.length ≠ 6 ∧ pathE s.caps.length p = 0 := by
  unfold addF at h
  split at h
  · omega
  · split at h
    · omega
    · exact ⟨by simpa using ‹¬ s.stopped = true›, by assumption, h⟩
theorem dropF_0 {s : LogS} {i : Int} (h : dropF s i = 0) : s.stopped = false ∧ 0 ≤ i ∧ i < s.flows.length := by
  unfold dropF at h
  split at h
  · omega
  · split at h
    · omega
    · exact ⟨by simpa using ‹¬ s.stopped = true›, by omega, by omega⟩
theorem addLS_ok {s : LogS} {p : List Int} {n : Nat} (h : LogOk s) (h2 : 2 ≤ n) (hn : n ≤ 1000) : LogOk (addLS s p n) := by
  unfold addLS
  split
  · rename_i h0
    obtain ⟨a1, a2, a3⟩ := addF_0 h0
    obtain ⟨b1, b2⟩ := h.flows_right
    refine putS_ok h a1 h2 hn ⟨by simp; omega, fun q hq => ?_⟩
    rcases List.mem_append.1 hq with hq | hq
    · exact b2 q hq
    · simp at hq; subst hq; exact a3
  · exact h
theorem dropLS_ok {s : LogS} {i : Int} {n : Nat} (h : LogOk s) (h2 : 2 ≤ n) (hn : n ≤ 1000) : LogOk (dropLS s i n) := by
  unfold dropLS
  split
  · rename_i h0
    obtain ⟨a1, a2, a3⟩ := dropF_0 h0
    obtain ⟨b1, b2⟩ := h.flows_right
    exact putS_ok h a1 h2 hn ⟨by have := lessF_length a2 a3; omega, fun q hq => b2 q (lessF_mem hq)⟩
  · exact h
theorem syncS_ok {s : LogS} (h : LogOk s) : LogOk (syncS s) := by
  unfold syncS
  split
  · exact h
  · rename_i hs
    have ht := h.torn (by simpa using hs)
    split
    · exact ⟨h.caps, h.len, h.pos, h.first, h.rise, h.safe, h.top, fun e => by simp at e, h.nets, h.few, h.tail⟩
    · exact ⟨h.caps, h.len, h.pos, h.first, h.rise, ⟨s.marks.length - 1, by have := h.pos; show _ < s.marks.length; omega, ht⟩, h.top, h.torn, h.nets, h.few, h.tail⟩
theorem failS_ok {s : LogS} {n : Int} (h : LogOk s) : LogOk (failS s n) := ⟨h.caps, h.len, h.pos, h.first, h.rise, h.safe, h.top, h.torn, h.nets, h.few, h.tail⟩
theorem leftK_bd (m : List Nat) (h : Nat) (h0 : m.getD 0 0 ≤ h) : ∀ k, (leftK m h k < k ∨ (k = 0 ∧ leftK m h k = 0)) ∧ m.getD (leftK m h k) 0 ≤ h := by
  intro k
  induction k with
  | zero => exact ⟨.inr ⟨rfl, rfl⟩, h0⟩
  | succ k ih =>
    unfold leftK
    split
    · exact ⟨.inl (by omega), by assumption⟩
    · exact ⟨.inl (by omega), ih.2⟩
theorem left_lt {s : LogS} (h : LogOk s) (H : Nat) : leftN' s.marks H < s.marks.length := by
  have := leftK_bd s.marks H (by rw [h.first]; exact Nat.zero_le _) s.marks.length
  have := h.pos
  unfold leftN'
  omega
theorem crashS_ok {s : LogS} {keep : Int} (h : LogOk s) : LogOk (crashS s keep) := by
  have hl := left_lt h (highN s keep)
  have hlen := h.len
  generalize hi : leftN' s.marks (highN s keep) = i at hl
  have ht : topM (s.marks.take (i + 1)) = s.marks.getD i 0 := by
    unfold topM
    rw [List.length_take, show min (i + 1) s.marks.length - 1 = i by omega, getD_take _ _ _ _ (by omega)]
  have hc : crashS s keep = { s with done := s.done.take (i + 1), marks := s.marks.take (i + 1), bytes := s.marks.getD i 0, safe := s.marks.getD i 0, left := -1, stopped := false } := by rw [← hi]; rfl
  rw [hc]
  refine ⟨h.caps, ?_, ?_, ?_, fun j hj => ?_, ⟨i, ?_, ?_⟩, ?_, fun _ => ?_, fun f hf => h.nets f (List.mem_of_mem_take hf), fun j hj => ?_, ?_⟩
  · show (s.done.take (i + 1)).length = (s.marks.take (i + 1)).length
    simp only [List.length_take]; omega
  · show 0 < (s.marks.take (i + 1)).length
    simp only [List.length_take]; omega
  · show (s.marks.take (i + 1)).getD 0 0 = 0
    rw [getD_take _ _ _ _ (by omega)]; exact h.first
  · have hj' : j + 1 < (s.marks.take (i + 1)).length := hj
    rw [List.length_take] at hj'
    show (s.marks.take (i + 1)).getD j 0 + 2 ≤ (s.marks.take (i + 1)).getD (j + 1) 0
    rw [getD_take _ _ _ _ (by omega), getD_take _ _ _ _ (by omega)]
    exact h.rise j (by omega)
  · show i < (s.marks.take (i + 1)).length
    simp only [List.length_take]; omega
  · show s.marks.getD i 0 = (s.marks.take (i + 1)).getD i 0
    rw [getD_take _ _ _ _ (by omega)]
  · show topM (s.marks.take (i + 1)) ≤ s.marks.getD i 0
    rw [ht]; exact Nat.le_refl _
  · show s.marks.getD i 0 = topM (s.marks.take (i + 1))
    rw [ht]
  · have hj' : j < (s.marks.take (i + 1)).length := hj
    rw [List.length_take] at hj'
    show (s.marks.take (i + 1)).getD j 0 ≤ 1000 * j
    rw [getD_take _ _ _ _ (by omega)]; exact h.few j (by omega)
  · show s.marks.getD i 0 ≤ topM (s.marks.take (i + 1)) + 1000
    rw [ht]; omega
/-- behind a crash -/
theorem crash_flows {s : LogS} {keep : Int} (h : LogOk s) : (crashS s keep).flows = s.done.getD (leftN' s.marks (highN s keep)) [] := by
  have hl := left_lt h (highN s keep)
  have := h.len
  show flowsL (s.done.take (leftN' s.marks (highN s keep) + 1)) = _
  unfold flowsL
  rw [List.length_take, show min (leftN' s.marks (highN s keep) + 1) s.done.length - 1 = leftN' s.marks (highN s keep) by omega, getD_take _ _ _ _ (by omega)]
end Go.Proofs.YtdldgefahgojaakDoor.Ev

/- An error as a value, and old memory behind a contract. -/
namespace Go.Proofs.YtdldgefahgojaakDoor
namespace Fr
open Go.RowKit

/-- an error value: none, or the number in an api.Errno -/
def errV (k : Int) : Value := if k = 0 then .nilIface else .iface 61 (.int .i64 k)
theorem errV_0 : errV 0 = .nilIface := rfl
theorem errV_ne {k : Int} (h : k ≠ 0) : errV k = .iface 61 (.int .i64 k) := by simp [errV, h]

theorem bcell {W w1 : World} (hb : Below W.heap.size W w1) : (∀ b o, b < W.heap.size → w1.cell? ⟨b, o, none⟩ = W.cell? ⟨b, o, none⟩) ∧ (∀ b o, b < W.heap.size → w1.frozen? ⟨b, o, none⟩ = W.frozen? ⟨b, o, none⟩) :=
  ⟨fun b o h => hb.cell (p := ⟨b, o, none⟩) h, fun b o h => hb.frozen (p := ⟨b, o, none⟩) h⟩

end Fr
end Go.Proofs.YtdldgefahgojaakDoor

/- Small laws on worlds behind calls: what lies below stays. -/
namespace Go.Proofs.YtdldgefahgojaakDoor
namespace Bel
open Go.RowKit
theorem more {B : Nat} {W u : World} (h : Below B W u) (hB : B ≤ W.heap.size) (o : Obj) : Below B W (u.alloc o) := h.alloc (Nat.le_trans hB h.size) o
theorem call {B : Nat} {W u u' : World} (h : Below B W u) (hB : B ≤ W.heap.size) (hc : Below u.heap.size u u') : Below B W u' := h.trans (hc.mono (Nat.le_trans hB h.size))
end Bel
end Go.Proofs.YtdldgefahgojaakDoor

/- A call that changes memory of its thing's own alone. -/
namespace Go.Proofs.YtdldgefahgojaakDoor
namespace Ev
open Go.RowKit
set_option linter.unusedVariables false

/-- but in some blocks the memory is as it was -/
def ButIn (F : Nat → Prop) (w w' : World) : Prop := Below 0 w w' ∧ ∀ b, b < w.heap.size → ¬ F b → w'.heap[b]? = w.heap[b]?
theorem ButIn.below {F : Nat → Prop} {w w' : World} {B : Nat} (h : ButIn F w w') (hF : ∀ b, F b → B ≤ b) (hB : B ≤ w.heap.size) : Below B w w' :=
  ⟨h.1.os, h.1.tape, h.1.output, h.1.size, fun k hk => h.2 k (by omega) (fun hf => by have := hF k hf; omega)⟩
theorem ButIn.of_below {F : Nat → Prop} {w w' : World} (h : Below w.heap.size w w') : ButIn F w w' := ⟨h.mono (Nat.zero_le _), fun b hb _ => h.block b hb⟩
theorem ButIn.refl (F : Nat → Prop) (w : World) : ButIn F w w := ⟨Below.refl _ _, fun _ _ _ => rfl⟩
end Ev
end Go.Proofs.YtdldgefahgojaakDoor

/- A log as package log has it: what the laws are told of it. -/
namespace Go.Proofs.YtdldgefahgojaakDoor
namespace Ev
open Go.RowKit Ns
set_option linter.unusedSimpArgs false
set_option linter.unusedVariables false

/-- a log as package log has it: what of the memory is its own only the package knows -/
structure LogFace where
  Inv : World → Value → (Nat → Prop) → LogS → Prop
  lt : ∀ {w p F s}, Inv w p F s → ∀ b, F b → b < w.heap.size
  keep : ∀ {w w' p F s}, Inv w p F s → (∀ b, F b → w'.heap[b]? = w.heap[b]?) → Inv w' p F s
  ptr : ∀ {w p F s}, Inv w p F s → ∃ a, p = .pointer (some a)
theorem LogFace.later (X : LogFace) {w w' : World} {p : Value} {F : Nat → Prop} {s : LogS} (hb : Below w.heap.size w w') (h : X.Inv w p F s) : X.Inv w' p F s := X.keep h (fun b hb' => hb.block b (X.lt h b hb'))
/-- what a call on a log leaves: the log then, no memory changed but the log's own -/
def MovedL (X : LogFace) (p : Value) (F : Nat → Prop) (s' : LogS) (w w' : World) : Prop := ∃ F', X.Inv w' p F' s' ∧ (∀ b, F' b → F b ∨ w.heap.size ≤ b) ∧ ButIn F w w'
/-- not too many records for any machine -/
def FewL (s : LogS) : Prop := LogOk s ∧ s.marks.length ≤ 1000
end Ev
end Go.Proofs.YtdldgefahgojaakDoor

/- What is asked of package log's New, as the document says it. -/
namespace Go.Proofs.YtdldgefahgojaakDoor
namespace Ev
open Go.RowKit Fr Ns
/-- what New hands out -/
def MadeL (X : LogFace) (caps : List Int) (w w' : World) (e : Ending) : Prop :=
  ∃ p, e = .returned (.tuple #[p, errV (linksE caps)]) ∧ (∃ a, p = .pointer a) ∧ (linksE caps = 0 → ∃ F, X.Inv w' p F (log0 caps) ∧ ∀ b, F b → w.heap.size ≤ b) ∧ Below w.heap.size w w'
def LNewSaid (X : LogFace) : Prop := ∀ (Q : Nat → Prop) (caps : List Int) (v : Value) (w : World), IntsAt Q w v caps →
  Calls Tryd.prog 5 #[v] w fun e w' => MadeL X caps w w' e
end Ev
end Go.Proofs.YtdldgefahgojaakDoor

/- What is asked of the calls that change a log, as the document says it. -/
namespace Go.Proofs.YtdldgefahgojaakDoor
namespace Ev
open Go.RowKit Fr Ns
def LAddSaid (X : LogFace) : Prop := ∀ (Q : Nat → Prop) (p : Value) (F : Nat → Prop) (s : LogS) (path : List Int) (v : Value) (w : World), X.Inv w p F s → FewL s → IntsAt Q w v path → (∀ b, Q b → ¬ F b) →
  Calls Tryd.prog 6 #[p, v] w fun e w' => ∃ n, e = .returned (errV (addLE s path)) ∧ 2 ≤ n ∧ n ≤ 1000 ∧ MovedL X p F (addLS s path n) w w'
def LDropSaid (X : LogFace) : Prop := ∀ (p : Value) (F : Nat → Prop) (s : LogS) (i : Int) (w : World), X.Inv w p F s → FewL s →
  Calls Tryd.prog 18 #[p, .int .i64 i] w fun e w' => ∃ n, e = .returned (errV (dropLE s i)) ∧ 2 ≤ n ∧ n ≤ 1000 ∧ MovedL X p F (dropLS s i n) w w'
def LSyncSaid (X : LogFace) : Prop := ∀ (p : Value) (F : Nat → Prop) (s : LogS) (w : World), X.Inv w p F s → FewL s →
  Calls Tryd.prog 11 #[p] w fun e w' => e = .returned (errV (syncE s)) ∧ MovedL X p F (syncS s) w w'
def LCrashSaid (X : LogFace) : Prop := ∀ (p : Value) (F : Nat → Prop) (s : LogS) (keep : Int) (w : World), X.Inv w p F s → FewL s →
  Calls Tryd.prog 12 #[p, .int .i64 keep] w fun e w' => e = .returned (.tuple #[]) ∧ MovedL X p F (crashS s keep) w w'
def LFailSaid (X : LogFace) : Prop := ∀ (p : Value) (F : Nat → Prop) (s : LogS) (n : Int) (w : World), X.Inv w p F s → FewL s → s.stopped = false → n ≤ 9223372036854775807 →
  Calls Tryd.prog 16 #[p, .int .i64 n] w fun e w' => e = .returned (.tuple #[]) ∧ MovedL X p F (failS s n) w w'
end Ev
end Go.Proofs.YtdldgefahgojaakDoor

/- What is asked of the calls that read a log, as the document says it. -/
namespace Go.Proofs.YtdldgefahgojaakDoor
namespace Ev
open Go.RowKit Fr Ns
def LPathsSaid (X : LogFace) : Prop := ∀ (p : Value) (F : Nat → Prop) (s : LogS) (w : World), X.Inv w p F s → FewL s →
  Calls Tryd.prog 13 #[p] w fun e w' => ∃ y, e = .returned y ∧ ListsAt (fun b => w.heap.size ≤ b) w' y s.flows ∧ Below w.heap.size w w'
def LBytesSaid (X : LogFace) : Prop := ∀ (p : Value) (F : Nat → Prop) (s : LogS) (w : World), X.Inv w p F s → FewL s →
  Calls Tryd.prog 9 #[p] w fun e w' => e = .returned (.int .i64 s.bytes) ∧ ∃ n, w' = w.drewN n
def LSafeSaid (X : LogFace) : Prop := ∀ (p : Value) (F : Nat → Prop) (s : LogS) (w : World), X.Inv w p F s → FewL s →
  Calls Tryd.prog 14 #[p] w fun e w' => e = .returned (.int .i64 s.safe) ∧ ∃ n, w' = w.drewN n
end Ev
end Go.Proofs.YtdldgefahgojaakDoor

/- A log that package log has made, call by call: what the laws are told of it. -/
namespace Go.Proofs.YtdldgefahgojaakDoor
namespace Ev
open Go.RowKit Fr Ns
set_option linter.unusedSimpArgs false
set_option linter.unusedVariables false

theorem putS_marks (s : LogS) (n : Nat) (f : Flows) : (putS s n f).marks.length ≤ s.marks.length + 1 := by
  unfold putS
  split
  · exact Nat.le_succ _
  · simp
theorem addLS_marks (s : LogS) (p : List Int) (n : Nat) : (addLS s p n).marks.length ≤ s.marks.length + 1 := by
  unfold addLS
  split
  · exact putS_marks _ _ _
  · exact Nat.le_succ _
theorem dropLS_marks (s : LogS) (i : Int) (n : Nat) : (dropLS s i n).marks.length ≤ s.marks.length + 1 := by
  unfold dropLS
  split
  · exact putS_marks _ _ _
  · exact Nat.le_succ _
theorem syncS_marks (s : LogS) : (syncS s).marks = s.marks := by
  unfold syncS
  split
  · rfl
  · split <;> rfl
theorem crashS_marks (s : LogS) (k : Int) : (crashS s k).marks.length ≤ s.marks.length := by
  show (s.marks.take _).length ≤ _
  rw [List.length_take]; omega
/-- the log s at a, in memory from w's end on; but for that w is as it was; at most m records, and the beginning -/
def LogAt (X : LogFace) (w : World) (a : Addr) (m : Nat) (s : LogS) (u : World) : Prop :=
  ∃ F, X.Inv u (.pointer (some a)) F s ∧ LogOk s ∧ s.marks.length ≤ m ∧ (∀ b, F b → w.heap.size ≤ b) ∧ Below w.heap.size w u
theorem LogAt.later {X : LogFace} {w u u' : World} {a : Addr} {m : Nat} {s : LogS} (h : LogAt X w a m s u) (hb : Below u.heap.size u u') : LogAt X w a m s u' := by
  obtain ⟨F, h1, h2, h3, h4, h5⟩ := h
  exact ⟨F, X.later hb h1, h2, h3, h4, Bel.call h5 (Nat.le_refl _) hb⟩
theorem LogAt.below {X : LogFace} {w u : World} {a : Addr} {m : Nat} {s : LogS} (h : LogAt X w a m s u) : Below w.heap.size w u := h.choose_spec.2.2.2.2
theorem LogAt.ok {X : LogFace} {w u : World} {a : Addr} {m : Nat} {s : LogS} (h : LogAt X w a m s u) : LogOk s := h.choose_spec.2.1
theorem LogAt.up {X : LogFace} {w u : World} {a : Addr} {m m' : Nat} {s : LogS} (h : LogAt X w a m s u) (hm : m ≤ m') : LogAt X w a m' s u := by
  obtain ⟨F, h1, h2, h3, h4, h5⟩ := h
  exact ⟨F, h1, h2, by omega, h4, h5⟩
theorem moved_at {X : LogFace} {w u w' : World} {a : Addr} {m : Nat} {s' : LogS} {F : Nat → Prop} (hF : ∀ b, F b → w.heap.size ≤ b) (hb : Below w.heap.size w u) (hm : MovedL X (.pointer (some a)) F s' u w') (hok : LogOk s') (hl : s'.marks.length ≤ m) : LogAt X w a m s' w' := by
  obtain ⟨F', hi, hF', hbut⟩ := hm
  have hs := hb.size
  refine ⟨F', hi, hok, hl, fun b hb' => ?_, hb.trans (hbut.below hF hs)⟩
  rcases hF' b hb' with h | h
  · exact hF b h
  · omega
theorem made_logAt {X : LogFace} {caps : List Int} (hc : linksE caps = 0) {w u : World} (hb : Below w.heap.size w u) : ∀ e w', MadeL X caps u w' e → ∃ a, e = .returned (.tuple #[.pointer (some a), .nilIface]) ∧ LogAt X w a 1 (log0 caps) w' := fun e w' ⟨p, h1, _, h2, h3⟩ => by
  obtain ⟨F, hi, hF⟩ := h2 hc
  obtain ⟨a, rfl⟩ := X.ptr hi
  rw [hc, errV_0] at h1
  have hs := hb.size
  exact ⟨a, h1, F, hi, log0_ok hc, by simp [log0], fun b hb' => by have := hF b hb'; omega, Bel.call hb (Nat.le_refl _) h3⟩
theorem made_logBad {X : LogFace} {caps : List Int} (hc : linksE caps ≠ 0) {u : World} : ∀ e w', MadeL X caps u w' e → ∃ a, e = .returned (.tuple #[.pointer a, .iface 61 (.int .i64 (linksE caps))]) ∧ Below u.heap.size u w' := fun e w' ⟨p, h1, ⟨a, h2⟩, _, h3⟩ => by
  rw [errV_ne hc, h2] at h1
  exact ⟨a, h1, h3⟩
/-- Add of a list in memory that is none of the log's -/
theorem add_at {X : LogFace} (hA : LAddSaid X) {w u u1 : World} {a : Addr} {m : Nat} {s : LogS} {path : List Int} {v : Value} {Q : Nat → Prop} (h : LogAt X w a m s u) (hu : Below u.heap.size u u1) (hv : IntsAt Q u1 v path) (hQ : ∀ b, Q b → u.heap.size ≤ b ∨ b < w.heap.size) (hm : m ≤ 1000) :
    Calls Tryd.prog 6 #[.pointer (some a), v] u1 fun e w' => ∃ n, e = .returned (errV (addLE s path)) ∧ LogAt X w a (m + 1) (addLS s path n) w' := by
  obtain ⟨F, h1, h2, h3, h4, h5⟩ := h
  have hb1 : Below w.heap.size w u1 := Bel.call h5 (Nat.le_refl _) hu
  refine (hA Q _ F s path v u1 (X.later hu h1) ⟨h2, by omega⟩ hv (fun b hb hF => ?_)).mono ?_
  · rcases hQ b hb with h | h
    · have := X.lt h1 b hF; omega
    · have := h4 b hF; omega
  · rintro e w' ⟨n, he, n2, n3, hmv⟩
    exact ⟨n, he, moved_at h4 hb1 hmv (addLS_ok h2 n2 n3) (by have := addLS_marks s path n; omega)⟩
theorem drop_at {X : LogFace} (hD : LDropSaid X) {w u : World} {a : Addr} {m : Nat} {s : LogS} (i : Int) (h : LogAt X w a m s u) (hm : m ≤ 1000) :
    Calls Tryd.prog 18 #[.pointer (some a), .int .i64 i] u fun e w' => ∃ n, e = .returned (errV (dropLE s i)) ∧ LogAt X w a (m + 1) (dropLS s i n) w' := by
  obtain ⟨F, h1, h2, h3, h4, h5⟩ := h
  refine (hD _ F s i u h1 ⟨h2, by omega⟩).mono ?_
  rintro e w' ⟨n, he, n2, n3, hmv⟩
  exact ⟨n, he, moved_at h4 h5 hmv (dropLS_ok h2 n2 n3) (by have := dropLS_marks s i n; omega)⟩
theorem sync_at {X : LogFace} (hS : LSyncSaid X) {w u : World} {a : Addr} {m : Nat} {s : LogS} (h : LogAt X w a m s u) (hm : m ≤ 1000) :
    Calls Tryd.prog 11 #[.pointer (some a)] u fun e w' => e = .returned (errV (syncE s)) ∧ LogAt X w a m (syncS s) w' := by
  obtain ⟨F, h1, h2, h3, h4, h5⟩ := h
  refine (hS _ F s u h1 ⟨h2, by omega⟩).mono ?_
  rintro e w' ⟨he, hmv⟩
  exact ⟨he, moved_at h4 h5 hmv (syncS_ok h2) (by rw [syncS_marks]; exact h3)⟩
theorem crash_at {X : LogFace} (hC : LCrashSaid X) {w u : World} {a : Addr} {m : Nat} {s : LogS} (keep : Int) (h : LogAt X w a m s u) (hm : m ≤ 1000) :
    Calls Tryd.prog 12 #[.pointer (some a), .int .i64 keep] u fun e w' => e = .returned (.tuple #[]) ∧ LogAt X w a m (crashS s keep) w' := by
  obtain ⟨F, h1, h2, h3, h4, h5⟩ := h
  refine (hC _ F s keep u h1 ⟨h2, by omega⟩).mono ?_
  rintro e w' ⟨he, hmv⟩
  exact ⟨he, moved_at h4 h5 hmv (crashS_ok h2) (by have := crashS_marks s keep; omega)⟩
theorem fail_at {X : LogFace} (hF : LFailSaid X) {w u : World} {a : Addr} {m : Nat} {s : LogS} (n : Int) (h : LogAt X w a m s u) (hm : m ≤ 1000) (hs : s.stopped = false) (hn : n ≤ 9223372036854775807) :
    Calls Tryd.prog 16 #[.pointer (some a), .int .i64 n] u fun e w' => e = .returned (.tuple #[]) ∧ LogAt X w a m (failS s n) w' := by
  obtain ⟨F, h1, h2, h3, h4, h5⟩ := h
  refine (hF _ F s n u h1 ⟨h2, by omega⟩ hs hn).mono ?_
  rintro e w' ⟨he, hmv⟩
  exact ⟨he, moved_at h4 h5 hmv (failS_ok h2) h3⟩
theorem paths_at {X : LogFace} (hP : LPathsSaid X) {w u : World} {a : Addr} {m : Nat} {s : LogS} (h : LogAt X w a m s u) (hm : m ≤ 1000) :
    Calls Tryd.prog 13 #[.pointer (some a)] u fun e w' => ∃ y, e = .returned y ∧ ListsAt (fun b => u.heap.size ≤ b) w' y s.flows ∧ LogAt X w a m s w' ∧ Below u.heap.size u w' := by
  obtain ⟨F, h1, h2, h3, h4, h5⟩ := id h
  refine (hP _ F s u h1 ⟨h2, by omega⟩).mono ?_
  rintro e w' ⟨y, he, hy, hb⟩
  exact ⟨y, he, hy, h.later hb, hb⟩
theorem bytes_at {X : LogFace} (hB : LBytesSaid X) {w u : World} {a : Addr} {m : Nat} {s : LogS} (h : LogAt X w a m s u) (hm : m ≤ 1000) :
    Calls Tryd.prog 9 #[.pointer (some a)] u fun e w' => e = .returned (.int .i64 s.bytes) ∧ ∃ n, w' = u.drewN n := by
  obtain ⟨F, h1, h2, h3, h4, h5⟩ := h
  exact hB _ F s u h1 ⟨h2, by omega⟩
theorem safe_at {X : LogFace} (hB : LSafeSaid X) {w u : World} {a : Addr} {m : Nat} {s : LogS} (h : LogAt X w a m s u) (hm : m ≤ 1000) :
    Calls Tryd.prog 14 #[.pointer (some a)] u fun e w' => e = .returned (.int .i64 s.safe) ∧ ∃ n, w' = u.drewN n := by
  obtain ⟨F, h1, h2, h3, h4, h5⟩ := h
  exact hB _ F s u h1 ⟨h2, by omega⟩
end Ev
end Go.Proofs.YtdldgefahgojaakDoor

/- Rows of cells that a call makes and writes into: what a walk is told of them. -/
namespace Go.Proofs.YtdldgefahgojaakDoor
namespace Fl
open Go.RowKit Ns
set_option linter.unusedSimpArgs false
set_option linter.unusedVariables false

/-- the block g holds these cells, and none of it is frozen -/
def RowAt (w : World) (g : Nat) (T : TypeId) (xs : List Value) : Prop := w.heap[g]? = some (.cells xs.toArray T (0, 0))
theorem RowAt.lt {w : World} {g : Nat} {T : TypeId} {xs : List Value} (h : RowAt w g T xs) : g < w.heap.size := (Array.getElem?_eq_some_iff.1 h).1
theorem RowAt.cell {w : World} {g : Nat} {T : TypeId} {xs : List Value} (h : RowAt w g T xs) {i : Nat} {v : Value} (hi : xs[i]? = some v) : w.cell? ⟨g, i, none⟩ = some v := by
  rw [cell_of_row w g i _ T (0, 0) h]
  simpa using hi
theorem RowAt.frozen {w : World} {g : Nat} {T : TypeId} {xs : List Value} (h : RowAt w g T xs) (i : Nat) : w.frozen? ⟨g, i, none⟩ = false := frozen_of_row w g i _ T h
theorem RowAt.set {w : World} {g : Nat} {T : TypeId} {xs : List Value} (h : RowAt w g T xs) (i : Nat) (v : Value) : RowAt (w.setCell ⟨g, i, none⟩ v) g T (xs.set i v) := by
  unfold RowAt
  rw [heap_setCell_same w g i _ T v h]
  simp
theorem RowAt.later {w w' : World} {g B : Nat} {T : TypeId} {xs : List Value} (hb : Below B w w') (hg : g < B) (h : RowAt w g T xs) : RowAt w' g T xs := by
  unfold RowAt
  rw [hb.block g hg]; exact h
theorem RowAt.other {w : World} {g : Nat} {T : TypeId} {xs : List Value} (h : RowAt w g T xs) {a : Addr} (ha : a.block ≠ g) (v : Value) : RowAt (w.setCell a v) g T xs := by
  unfold RowAt
  rw [Below.heap_setCell w a v g (fun e => ha e.symm)]; exact h
theorem RowAt.alloc {w : World} {g : Nat} {T : TypeId} {xs : List Value} (h : RowAt w g T xs) (o : Obj) : RowAt (w.alloc o) g T xs := h.later (((Below.refl w.heap.size w)).alloc (Nat.le_refl _) o) h.lt
theorem RowAt.new (w : World) (a : Array Value) (T : TypeId) : RowAt (w.alloc (.cells a T (0, 0))) w.heap.size T a.toList := by
  unfold RowAt
  rw [heap_alloc_new]
theorem RowAt.owns {w : World} {base g n size : Nat} {T : TypeId} {xs : List Value} (h : RowAt w g T xs) (hb : base ≤ g) (hl : xs.length = n * size) (hn : n ≤ maxLen) : w.ownsRow base T size (.slice (some ⟨g, 0, none⟩) n n) n xs := by
  refine ⟨hl, .inr ⟨g, n, xs.toArray, rfl, hb, h, Nat.le_refl _, hn, by simp [hl], by simp [← hl]⟩⟩
theorem RowAt.of_owns {w : World} {base g n size : Nat} {T : TypeId} {xs : List Value} (h : w.ownsRow base T size (.slice (some ⟨g, 0, none⟩) n n) n xs) : RowAt w g T xs := by
  obtain ⟨h0, h⟩ := h
  rcases h with ⟨e, _⟩ | ⟨g', cap, cur, e, hb, hg, hc, hm, hs, ht⟩
  · cases e
  · simp only [Value.slice.injEq, Option.some.injEq, Addr.mk.injEq, and_true, true_and] at e
    obtain ⟨rfl, rfl⟩ := e
    unfold RowAt
    rw [hg]
    have : cur.toList = xs := by
      have : cur.toList.take (n * size) = cur.toList := List.take_of_length_le (by simp [hs])
      rw [← this]; exact ht
    rw [← this]
/-- the cells of a row of three -/
theorem RowAt.three {w : World} {g : Nat} {T : TypeId} {a b c : Value} (h : RowAt w g T [a, b, c]) : w.cell? ⟨g, 0, none⟩ = some a ∧ w.cell? ⟨g, 1, none⟩ = some b ∧ w.cell? ⟨g, 2, none⟩ = some c ∧ w.frozen? ⟨g, 0, none⟩ = false ∧ w.frozen? ⟨g, 1, none⟩ = false ∧ w.frozen? ⟨g, 2, none⟩ = false ∧ g < w.heap.size :=
  ⟨h.cell rfl, h.cell rfl, h.cell rfl, h.frozen 0, h.frozen 1, h.frozen 2, h.lt⟩
theorem RowAt.set3 {w : World} {g : Nat} {T : TypeId} {a b c : Value} (h : RowAt w g T [a, b, c]) (x y z : Value) : RowAt (((w.setCell ⟨g, 0, none⟩ x).setCell ⟨g, 1, none⟩ y).setCell ⟨g, 2, none⟩ z) g T [x, y, z] := ((h.set 0 x).set 1 y).set 2 z
theorem RowAt.four {w : World} {g : Nat} {T : TypeId} {a b c d : Value} (h : RowAt w g T [a, b, c, d]) : w.cell? ⟨g, 0, none⟩ = some a ∧ w.cell? ⟨g, 1, none⟩ = some b ∧ w.cell? ⟨g, 2, none⟩ = some c ∧ w.cell? ⟨g, 3, none⟩ = some d ∧ w.frozen? ⟨g, 0, none⟩ = false ∧ w.frozen? ⟨g, 1, none⟩ = false ∧ w.frozen? ⟨g, 2, none⟩ = false ∧ w.frozen? ⟨g, 3, none⟩ = false ∧ g < w.heap.size :=
  ⟨h.cell rfl, h.cell rfl, h.cell rfl, h.cell rfl, h.frozen 0, h.frozen 1, h.frozen 2, h.frozen 3, h.lt⟩
theorem RowAt.put4 {w : World} {g : Nat} {T : TypeId} {a b c d : Value} (h : RowAt w g T [a, b, c, d]) (x y z u : Value) : RowAt ((((w.setCell ⟨g, 0, none⟩ x).setCell ⟨g, 1, none⟩ y).setCell ⟨g, 2, none⟩ z).setCell ⟨g, 3, none⟩ u) g T [x, y, z, u] := (((h.set 0 x).set 1 y).set 2 z).set 3 u
theorem row_made (w : World) (a : Array Value) (T : TypeId) (g : Nat) (xs : List Value) (hg : g = w.heap.size) (hx : a.toList = xs) : RowAt (w.alloc (.cells a T (0, 0))) g T xs := by
  rw [hg, ← hx]; exact RowAt.new w a T
theorem new1 (w : World) (x : Value) (T : TypeId) (g : Nat) (hg : g = w.heap.size) : ∀ j u, [x][j]? = some u → (w.alloc (.cells #[x] T)).cell? ((⟨g, 0, none⟩ : Addr).add j) = some u := by
  intro j u hj
  subst hg
  match j, hj with
  | 0, hj => simp at hj; subst hj; simp [Addr.add]
theorem own_keeps {w w' : World} {base : Nat} {e : TypeId} {size n : Nat} {v : Value} {xs : List Value} (hk : ∀ g, base ≤ g → g < w.heap.size → w'.heap[g]? = w.heap[g]?) (h : w.ownsRow base e size v n xs) : w'.ownsRow base e size v n xs := by
  obtain ⟨h0, h⟩ := h
  refine ⟨h0, ?_⟩
  rcases h with h | ⟨g, cap, cur, e1, hb, hg, hr⟩
  · exact .inl h
  · exact .inr ⟨g, cap, cur, e1, hb, by rw [hk g hb (Array.getElem?_eq_some_iff.1 hg).1]; exact hg, hr⟩
theorem stay_set (w : World) (g i k : Nat) (x : Value) (h : k ≠ g) : (w.setCell ⟨g, i, none⟩ x).heap[k]? = w.heap[k]? := Below.heap_setCell w ⟨g, i, none⟩ x k h
theorem own_slice {w : World} {base n size : Nat} {e : TypeId} {v : Value} {xs : List Value} (h : w.ownsRow base e size v n xs) : ∃ a c, v = .slice a n c := by
  rcases h.2 with ⟨rfl, h0⟩ | ⟨g, cap, cur, rfl, _⟩
  · exact ⟨none, 0, by rw [h0]⟩
  · exact ⟨_, _, rfl⟩
theorem grew1 {B : Nat} {W wg : World} {o1 : Obj} {k : Option Nat} (hs : B ≤ W.heap.size) (hg : (W.alloc o1).grownBy wg k) (hk : ∀ j, k = some j → B ≤ j) : Below B W wg :=
  ((Below.refl B W).alloc hs o1).grown hg (by simp; omega) hk
theorem owns_shape {w : World} {base n size : Nat} {e : TypeId} {v : Value} {xs : List Value} (h : w.ownsRow base e size v n xs) : ∃ a c, v = .slice a n c := by
  rcases h.2 with ⟨rfl, h0⟩ | ⟨g, cap, cur, rfl, _⟩
  · exact ⟨none, 0, by rw [h0]⟩
  · exact ⟨_, _, rfl⟩
def bestZ (o : Option (Int × Int)) : Int × Int := o.getD (0, 0)
end Fl
end Go.Proofs.YtdldgefahgojaakDoor

/- A log beside the law's own lists of what was done: what the law LogKeeps carries along. -/
namespace Go.Proofs.YtdldgefahgojaakDoor
namespace Ev
open Go.RowKit Fr Ns Fl
set_option linter.unusedSimpArgs false
set_option linter.unusedVariables false

/-- the cells of some nets over the same links -/
def netCells (cv : Value) : List Value → List Value
  | [] => []
  | p :: r => cv :: p :: netCells cv r
theorem netCells_length (cv : Value) : ∀ ps, (netCells cv ps).length = ps.length * 2 := by
  intro ps
  induction ps with
  | nil => rfl
  | cons p r ih => simp only [netCells, List.length_cons, ih]; omega
theorem netCells_snoc (cv p : Value) : ∀ ps, netCells cv (ps ++ [p]) = netCells cv ps ++ [cv, p] := by
  intro ps
  induction ps with
  | nil => rfl
  | cons q r ih => simp only [List.cons_append, netCells, ih]
theorem netCells_take (cv : Value) : ∀ (ps : List Value) (k : Nat), (netCells cv ps).take (k * 2) = netCells cv (ps.take k) := by
  intro ps
  induction ps with
  | nil => intro k; simp [netCells]
  | cons p r ih =>
    intro k
    cases k with
    | zero => rfl
    | succ k => rw [show (k + 1) * 2 = k * 2 + 1 + 1 by omega]; simp only [netCells, List.take_succ_cons, ih]
theorem netCells_at (cv : Value) : ∀ (ps : List Value) (i : Nat), i < ps.length → (netCells cv ps)[i * 2]? = some cv ∧ (netCells cv ps)[i * 2 + 1]? = some (ps.getD i undef) := by
  intro ps
  induction ps with
  | nil => intro i hi; simp at hi
  | cons p r ih =>
    intro i hi
    cases i with
    | zero => simp [netCells]
    | succ i =>
      have := ih i (by simpa using hi)
      rw [show (i + 1) * 2 = i * 2 + 1 + 1 by omega]
      simp only [netCells, List.getElem?_cons_succ]
      refine ⟨this.1, ?_⟩
      rw [this.2]
      rfl
/-- a block that is none of the log's, nor of the law's two lists -/
def Off (F : Nat → Prop) (dv mv : Value) (b : Nat) : Prop := ¬ F b ∧ dv.ownBlock ≠ some b ∧ mv.ownBlock ≠ some b
theorem ownBlock_any (a : Option Addr) (n c k c' : Nat) : (Value.slice a n c).ownBlock = (Value.slice a k c').ownBlock := by cases a <;> rfl
/-- a net in a block of the law's own -/
structure NetIn (F : Nat → Prop) (dv mv : Value) (u : World) (cv : Value) (nb : Nat) (pv : Value) (f : Flows) : Prop where
  row : RowAt u nb 45 [cv, pv]
  out : Off F dv mv nb
  lists : ListsAt (Off F dv mv) u pv f
/-- the log s, the law's lists of what was done and of how many bytes there were; extra nets -/
structure Keeps (X : LogFace) (w : World) (a : Addr) (cv : Value) (m : Nat) (s : LogS) (dv mv : Value) (dn : List Flows) (mk : List Nat) (ex : List (Nat × Value × Flows)) (F : Nat → Prop) (u : World) : Prop where
  inv : X.Inv u (.pointer (some a)) F s
  ok : LogOk s
  few : s.marks.length ≤ m
  above : ∀ b, F b → w.heap.size ≤ b
  below : Below w.heap.size w u
  nets : ∃ ps, List.length ps = dn.length ∧ u.ownsRow w.heap.size 45 2 dv dn.length (netCells cv ps) ∧ ∀ i, i < dn.length → ListsAt (Off F dv mv) u (ps.getD i undef) (dn.getD i [])
  marks : u.ownsRow w.heap.size 3 1 mv mk.length (mk.map fun n : Nat => Value.int .i64 n)
  apD : ∀ b, dv.ownBlock = some b → ¬ F b
  apM : ∀ b, mv.ownBlock = some b → ¬ F b
  apDM : ∀ b, dv.ownBlock = some b → mv.ownBlock ≠ some b
  exs : ∀ e ∈ ex, NetIn F dv mv u cv e.1 e.2.1 e.2.2
def KeepsE (X : LogFace) (w : World) (a : Addr) (cv : Value) (m : Nat) (s : LogS) (dv mv : Value) (dn : List Flows) (mk : List Nat) (ex : List (Nat × Value × Flows)) (u : World) : Prop := ∃ F, Keeps X w a cv m s dv mv dn mk ex F u
theorem owns_keepB {w w' : World} {base : Nat} {e : TypeId} {size n : Nat} {v : Value} {xs : List Value} (hk : ∀ g, v.ownBlock = some g → w'.heap[g]? = w.heap[g]?) (h : w.ownsRow base e size v n xs) : w'.ownsRow base e size v n xs := by
  obtain ⟨h0, h⟩ := h
  refine ⟨h0, ?_⟩
  rcases h with h | ⟨g, cap, cur, e1, hb, hg, hr⟩
  · exact .inl h
  · exact .inr ⟨g, cap, cur, e1, hb, by rw [hk g (by rw [e1]; rfl)]; exact hg, hr⟩
theorem owns_ltB {w : World} {base : Nat} {e : TypeId} {size n g : Nat} {v : Value} {xs : List Value} (h : w.ownsRow base e size v n xs) (hg : v.ownBlock = some g) : g < w.heap.size := (h.lt g hg).2
/-- what stays of it where all blocks that are not the log's stay, and the log is another one -/
theorem Keeps.turn {X : LogFace} {w : World} {a : Addr} {cv : Value} {m m' : Nat} {s s' : LogS} {dv mv : Value} {dn : List Flows} {mk : List Nat} {ex : List (Nat × Value × Flows)} {F F' : Nat → Prop} {u u' : World} (h : Keeps X w a cv m s dv mv dn mk ex F u)
    (hi : X.Inv u' (.pointer (some a)) F' s') (hok : LogOk s') (hm : s'.marks.length ≤ m') (hF : ∀ b, F' b → F b ∨ u.heap.size ≤ b) (hb : ButIn F u u') : Keeps X w a cv m' s' dv mv dn mk ex F' u' := by
  have hs := h.below.size
  have hst0 : ∀ b, ¬ F b → b < u.heap.size → u'.heap[b]? = u.heap[b]? := fun b h1 h2 => hb.2 b h2 h1
  have hnf0 : ∀ b, ¬ F b → b < u.heap.size → ¬ F' b := fun b h1 h2 h3 => by
    rcases hF b h3 with h | h
    · exact h1 h
    · omega
  have hst : ∀ b, Off F dv mv b → b < u.heap.size → u'.heap[b]? = u.heap[b]? := fun b h1 h2 => hst0 b h1.1 h2
  have hnf : ∀ b, Off F dv mv b → b < u.heap.size → Off F' dv mv b := fun b h1 h2 => ⟨hnf0 b h1.1 h2, h1.2⟩
  obtain ⟨ps, p1, p2, p3⟩ := h.nets
  refine ⟨hi, hok, hm, fun b hb' => ?_, h.below.trans (hb.below h.above hs), ⟨ps, p1, owns_keepB (fun g hg => hst0 g (h.apD g hg) (owns_ltB p2 hg)) p2, fun i hi => (p3 i hi).keep hst hnf⟩, owns_keepB (fun g hg => hst0 g (h.apM g hg) (owns_ltB h.marks hg)) h.marks, fun b hb' => hnf0 b (h.apD b hb') (owns_ltB p2 hb'), fun b hb' => hnf0 b (h.apM b hb') (owns_ltB h.marks hb'), h.apDM, fun e he => ?_⟩
  · rcases hF b hb' with h1 | h1
    · exact h.above b h1
    · omega
  · obtain ⟨e1, e2, e3⟩ := h.exs e he
    refine ⟨?_, hnf _ e2 e1.lt, e3.keep hst hnf⟩
    unfold RowAt
    rw [hst _ e2 e1.lt]; exact e1
theorem Keeps.later {X : LogFace} {w : World} {a : Addr} {cv : Value} {m : Nat} {s : LogS} {dv mv : Value} {dn : List Flows} {mk : List Nat} {ex : List (Nat × Value × Flows)} {F : Nat → Prop} {u u' : World} (h : Keeps X w a cv m s dv mv dn mk ex F u) (hb : Below u.heap.size u u') : Keeps X w a cv m s dv mv dn mk ex F u' :=
  h.turn (X.later hb h.inv) h.ok h.few (fun b hb' => .inl hb') (ButIn.of_below hb)
theorem KeepsE.later {X : LogFace} {w : World} {a : Addr} {cv : Value} {m : Nat} {s : LogS} {dv mv : Value} {dn : List Flows} {mk : List Nat} {ex : List (Nat × Value × Flows)} {u u' : World} (h : KeepsE X w a cv m s dv mv dn mk ex u) (hb : Below u.heap.size u u') : KeepsE X w a cv m s dv mv dn mk ex u' := by
  obtain ⟨F, h⟩ := h
  exact ⟨F, h.later hb⟩
theorem KeepsE.below {X : LogFace} {w : World} {a : Addr} {cv : Value} {m : Nat} {s : LogS} {dv mv : Value} {dn : List Flows} {mk : List Nat} {ex : List (Nat × Value × Flows)} {u : World} (h : KeepsE X w a cv m s dv mv dn mk ex u) : Below w.heap.size w u := h.choose_spec.below
theorem KeepsE.ok {X : LogFace} {w : World} {a : Addr} {cv : Value} {m : Nat} {s : LogS} {dv mv : Value} {dn : List Flows} {mk : List Nat} {ex : List (Nat × Value × Flows)} {u : World} (h : KeepsE X w a cv m s dv mv dn mk ex u) : LogOk s := h.choose_spec.ok
theorem KeepsE.few {X : LogFace} {w : World} {a : Addr} {cv : Value} {m : Nat} {s : LogS} {dv mv : Value} {dn : List Flows} {mk : List Nat} {ex : List (Nat × Value × Flows)} {u : World} (h : KeepsE X w a cv m s dv mv dn mk ex u) : s.marks.length ≤ m := h.choose_spec.few
theorem KeepsE.less {X : LogFace} {w : World} {a : Addr} {cv : Value} {m : Nat} {s : LogS} {dv mv : Value} {dn : List Flows} {mk : List Nat} {ex : List (Nat × Value × Flows)} {u : World} (h : KeepsE X w a cv m s dv mv dn mk ex u) : KeepsE X w a cv m s dv mv dn mk [] u := by
  obtain ⟨F, h⟩ := h
  exact ⟨F, h.inv, h.ok, h.few, h.above, h.below, h.nets, h.marks, h.apD, h.apM, h.apDM, fun e he => by simp at he⟩
theorem KeepsE.to {X : LogFace} {w : World} {a : Addr} {cv : Value} {m m' : Nat} {s : LogS} {dv mv : Value} {dn : List Flows} {mk : List Nat} {ex : List (Nat × Value × Flows)} {u : World} (h : KeepsE X w a cv m s dv mv dn mk ex u) (hm : s.marks.length ≤ m') : KeepsE X w a cv m' s dv mv dn mk ex u := by
  obtain ⟨F, h⟩ := h
  exact ⟨F, h.inv, h.ok, hm, h.above, h.below, h.nets, h.marks, h.apD, h.apM, h.apDM, h.exs⟩
/-- a new net of the law's own, in a new block -/
theorem KeepsE.put {X : LogFace} {w : World} {a : Addr} {cv : Value} {m : Nat} {s : LogS} {dv mv : Value} {dn : List Flows} {mk : List Nat} {ex : List (Nat × Value × Flows)} {u : World} {pv : Value} {f : Flows} (h : KeepsE X w a cv m s dv mv dn mk ex u) (hl : ∀ F, Keeps X w a cv m s dv mv dn mk ex F u → ListsAt (Off F dv mv) u pv f) : KeepsE X w a cv m s dv mv dn mk ((u.heap.size, pv, f) :: ex) (u.alloc (.cells #[cv, pv] 45)) := by
  obtain ⟨F, h⟩ := h
  have hb : Below u.heap.size u (u.alloc (.cells #[cv, pv] 45)) := (Below.refl _ _).alloc (Nat.le_refl _) _
  have h' := h.later hb
  refine ⟨F, h'.inv, h'.ok, h'.few, h'.above, h'.below, h'.nets, h'.marks, h'.apD, h'.apM, h'.apDM, fun e he => ?_⟩
  rcases List.mem_cons.1 he with rfl | he
  · obtain ⟨ps, _, p2, _⟩ := h.nets
    exact ⟨row_made _ _ _ _ _ rfl rfl, ⟨fun hF => by have := X.lt h.inv _ hF; omega, fun e => by have := owns_ltB p2 e; omega, fun e => by have := owns_ltB h.marks e; omega⟩, (hl F h).later hb⟩
  · exact h'.exs e he
/-- the last net that was done -/
theorem KeepsE.last {X : LogFace} {w : World} {a : Addr} {cv : Value} {m : Nat} {s : LogS} {dv mv : Value} {dn : List Flows} {mk : List Nat} {ex : List (Nat × Value × Flows)} {u : World} (h : KeepsE X w a cv m s dv mv dn mk ex u) {i : Nat} (hi : i < dn.length) : ∃ D c pv, dv = .slice (some ⟨D, 0, none⟩) dn.length c ∧ dn.length ≤ c ∧ (∀ u', Below u.heap.size u u' → u'.cell? ⟨D, i * 2, none⟩ = some cv ∧ u'.cell? ⟨D, i * 2 + 1, none⟩ = some pv) ∧ (∃ F, Keeps X w a cv m s dv mv dn mk ex F u ∧ ListsAt (Off F dv mv) u pv (dn.getD i [])) := by
  obtain ⟨F, h⟩ := h
  obtain ⟨ps, p1, p2, p3⟩ := h.nets
  rcases p2.2 with ⟨_, h0⟩ | ⟨D, c, cur, hv, hb, hg, hc, hm, hs, ht⟩
  · omega
  · refine ⟨D, c, ps.getD i undef, hv, hc, fun u' hu' => ?_, F, h, p3 i hi⟩
    rw [hv] at p2
    obtain ⟨n1, n2⟩ := netCells_at cv ps i (by omega)
    have c1 := p2.cellAt (i * 2) (by omega)
    have c2 := p2.cellAt (i * 2 + 1) (by omega)
    rw [n1] at c1
    rw [n2] at c2
    exact ⟨cell_later hu' c1, cell_later hu' c2⟩
theorem KeepsE.mark {X : LogFace} {w : World} {a : Addr} {cv : Value} {m : Nat} {s : LogS} {dv mv : Value} {dn : List Flows} {mk : List Nat} {ex : List (Nat × Value × Flows)} {u : World} (h : KeepsE X w a cv m s dv mv dn mk ex u) (hp : 0 < mk.length) : ∃ M c, mv = .slice (some ⟨M, 0, none⟩) mk.length c ∧ mk.length ≤ c ∧ ∀ u' i, Below u.heap.size u u' → i < mk.length → u'.cell? ⟨M, i, none⟩ = some (.int .i64 (mk.getD i 0 : Nat)) := by
  obtain ⟨F, h⟩ := h
  rcases h.marks.2 with ⟨_, h0⟩ | ⟨M, c, cur, hv, hb, hg, hc, hm, hs, ht⟩
  · omega
  · refine ⟨M, c, hv, hc, fun u' i hu' hi => ?_⟩
    have p2 := h.marks
    rw [hv] at p2
    have c1 := p2.cellAt i (by omega)
    refine cell_later hu' (c1.trans ?_)
    simp [List.getD, List.getElem?_eq_getElem hi]
/-- the lists of before -/
theorem owns_cut {w : World} {base : Nat} {e : TypeId} {size n c k : Nat} {a : Option Addr} {xs : List Value} (h : w.ownsRow base e size (.slice a n c) n xs) (hk : k ≤ n) (hn : 0 < n) : w.ownsRow base e size (.slice a k c) k (xs.take (k * size)) := by
  have hks : k * size ≤ n * size := Nat.mul_le_mul_right _ hk
  refine ⟨by rw [List.length_take, h.1]; omega, ?_⟩
  rcases h.2 with ⟨_, h0⟩ | ⟨g, cap, cur, hv, hb, hg, hc, hm, hs, ht⟩
  · omega
  · simp only [Value.slice.injEq] at hv
    obtain ⟨rfl, -, rfl⟩ := hv
    refine .inr ⟨g, c, cur, rfl, hb, hg, by omega, hm, hs, ?_⟩
    rw [← ht, List.take_take, Nat.min_eq_left hks]
theorem KeepsE.cut {X : LogFace} {w : World} {a : Addr} {cv : Value} {m : Nat} {s : LogS} {dn : List Flows} {mk : List Nat} {u : World} {D M : Option Addr} {cd cm : Nat} (h : KeepsE X w a cv m s (.slice D dn.length cd) (.slice M mk.length cm) dn mk [] u) {k : Nat} (hk : k ≤ dn.length) (hk2 : k ≤ mk.length) (hd : 0 < dn.length) (hm : 0 < mk.length) : KeepsE X w a cv m s (.slice D k cd) (.slice M k cm) (dn.take k) (mk.take k) [] u := by
  obtain ⟨F, h⟩ := h
  obtain ⟨ps, p1, p2, p3⟩ := h.nets
  have e1 : (dn.take k).length = k := by rw [List.length_take]; omega
  have e2 : (mk.take k).length = k := by rw [List.length_take]; omega
  refine ⟨F, h.inv, h.ok, h.few, h.above, h.below, ⟨ps.take k, by rw [List.length_take, List.length_take, p1], ?_, fun i hi => ?_⟩, ?_, ?_, ?_, ?_, fun e he => by simp at he⟩
  · rw [e1]
    have := owns_cut p2 hk hd
    rwa [netCells_take] at this
  · rw [e1] at hi
    have g1 : (ps.take k).getD i undef = ps.getD i undef := by simp [List.getD, List.getElem?_take, hi]
    have g2 : (dn.take k).getD i [] = dn.getD i [] := by simp [List.getD, List.getElem?_take, hi]
    rw [g1, g2]
    refine (p3 i (by omega)).keep (fun _ _ _ => rfl) (fun b h1 _ => ⟨h1.1, fun e => h1.2.1 ((ownBlock_any D _ _ _ _).trans e), fun e => h1.2.2 ((ownBlock_any M _ _ _ _).trans e)⟩)
  · rw [e2]
    have := owns_cut h.marks hk2 hm
    rwa [Nat.mul_one, ← List.map_take] at this
  · intro b hb; exact h.apD b ((ownBlock_any D _ _ _ _).trans hb)
  · intro b hb; exact h.apM b ((ownBlock_any M _ _ _ _).trans hb)
  · intro b hb hM
    exact h.apDM b ((ownBlock_any D _ _ _ _).trans hb) ((ownBlock_any M _ _ _ _).trans hM)
/-- one more was done -/
theorem Keeps.snocD {X : LogFace} {w : World} {a : Addr} {cv : Value} {m : Nat} {s : LogS} {dv mv v' pv : Value} {dn : List Flows} {mk : List Nat} {ex : List (Nat × Value × Flows)} {F : Nat → Prop} {u w1 : World} {o : Obj} {f : Flows} {ps : List Value} (h : Keeps X w a cv m s dv mv dn mk ex F u)
    (p1 : ps.length = dn.length) (p2 : u.ownsRow w.heap.size 45 2 dv dn.length (netCells cv ps)) (p3 : ∀ i, i < dn.length → ListsAt (Off F dv mv) u (ps.getD i undef) (dn.getD i [])) (hp : ListsAt (Off F dv mv) u pv f)
    (ho : w1.ownsRow w.heap.size 45 2 v' (dn.length + 1) (netCells cv ps ++ [cv, pv])) (hg : (u.alloc o).grownBy w1 dv.ownBlock) (hat : v'.ownBlock = dv.ownBlock ∨ v'.ownBlock = some (u.alloc o).heap.size) : Keeps X w a cv m s v' mv (dn ++ [f]) mk ex F w1 := by
  have hsz : (u.alloc o).heap.size = u.heap.size + 1 := by simp
  have hs := h.below.size
  have hst0 : ∀ b, b < u.heap.size → dv.ownBlock ≠ some b → w1.heap[b]? = u.heap[b]? := fun b hb hne => by
    rw [hg.block b (by omega) (fun e => hne e.symm)]
    exact ((Below.refl u.heap.size u).alloc (Nat.le_refl _) o).block b hb
  have hnew : ∀ b, b < u.heap.size → dv.ownBlock ≠ some b → v'.ownBlock ≠ some b := fun b hb hne e => by
    rcases hat with h1 | h1
    · exact hne (by rw [← h1]; exact e)
    · rw [h1, hsz] at e; simp at e; omega
  have hst : ∀ b, Off F dv mv b → b < u.heap.size → w1.heap[b]? = u.heap[b]? := fun b h1 h2 => hst0 b h2 h1.2.1
  have hoff : ∀ b, Off F dv mv b → b < u.heap.size → Off F v' mv b := fun b h1 h2 => ⟨h1.1, hnew b h2 h1.2.1, h1.2.2⟩
  have hB : Below w.heap.size u w1 := ((Below.refl _ _).alloc hs o).grown hg (by omega) (fun k hk => (p2.lt k hk).1)
  refine ⟨X.keep h.inv (fun b hb => hst0 b (X.lt h.inv b hb) (fun e => h.apD b e hb)), h.ok, h.few, h.above, h.below.trans hB, ⟨ps ++ [pv], by simp [p1], ?_, fun i hi => ?_⟩, owns_keepB (fun g hg' => hst0 g (owns_ltB h.marks hg') (fun e => h.apDM g e hg')) h.marks, fun b hb hF => ?_, h.apM, fun b hb hM => ?_, fun e he => ?_⟩
  · rw [netCells_snoc, List.length_append]
    exact ho
  · have hi' : i < dn.length + 1 := by simpa using hi
    by_cases hlt : i < dn.length
    · rw [show (ps ++ [pv]).getD i undef = ps.getD i undef by simp [List.getD, List.getElem?_append_left (show i < ps.length by omega)], show (dn ++ [f]).getD i [] = dn.getD i [] by simp [List.getD, List.getElem?_append_left hlt]]
      exact (p3 i hlt).keep hst hoff
    · obtain rfl : i = dn.length := by omega
      rw [show (ps ++ [pv]).getD dn.length undef = pv by rw [← p1]; simp [List.getD], show (dn ++ [f]).getD dn.length [] = f by simp [List.getD]]
      exact hp.keep hst hoff
  · rcases hat with h1 | h1
    · exact h.apD b (by rw [← h1]; exact hb) hF
    · rw [h1, hsz] at hb; simp at hb; have := X.lt h.inv b hF; omega
  · rcases hat with h1 | h1
    · exact h.apDM b (by rw [← h1]; exact hb) hM
    · rw [h1, hsz] at hb; simp at hb; have := owns_ltB h.marks hM; omega
  · obtain ⟨e1, e2, e3⟩ := h.exs e he
    refine ⟨?_, hoff _ e2 e1.lt, e3.keep hst hoff⟩
    unfold RowAt
    rw [hst _ e2 e1.lt]; exact e1
/-- its bytes, too -/
theorem Keeps.snocM {X : LogFace} {w : World} {a : Addr} {cv : Value} {m : Nat} {s : LogS} {dv mv v' : Value} {dn : List Flows} {mk : List Nat} {ex : List (Nat × Value × Flows)} {F : Nat → Prop} {u w1 : World} {o : Obj} {n : Nat} (h : Keeps X w a cv m s dv mv dn mk ex F u)
    (ho : w1.ownsRow w.heap.size 3 1 v' (mk.length + 1) ((mk.map fun n : Nat => Value.int .i64 n) ++ [.int .i64 n])) (hg : (u.alloc o).grownBy w1 mv.ownBlock) (hat : v'.ownBlock = mv.ownBlock ∨ v'.ownBlock = some (u.alloc o).heap.size) : Keeps X w a cv m s dv v' dn (mk ++ [n]) ex F w1 := by
  have hsz : (u.alloc o).heap.size = u.heap.size + 1 := by simp
  have hs := h.below.size
  obtain ⟨ps, p1, p2, p3⟩ := h.nets
  have hst0 : ∀ b, b < u.heap.size → mv.ownBlock ≠ some b → w1.heap[b]? = u.heap[b]? := fun b hb hne => by
    rw [hg.block b (by omega) (fun e => hne e.symm)]
    exact ((Below.refl u.heap.size u).alloc (Nat.le_refl _) o).block b hb
  have hnew : ∀ b, b < u.heap.size → mv.ownBlock ≠ some b → v'.ownBlock ≠ some b := fun b hb hne e => by
    rcases hat with h1 | h1
    · exact hne (by rw [← h1]; exact e)
    · rw [h1, hsz] at e; simp at e; omega
  have hst : ∀ b, Off F dv mv b → b < u.heap.size → w1.heap[b]? = u.heap[b]? := fun b h1 h2 => hst0 b h2 h1.2.2
  have hoff : ∀ b, Off F dv mv b → b < u.heap.size → Off F dv v' b := fun b h1 h2 => ⟨h1.1, h1.2.1, hnew b h2 h1.2.2⟩
  have hB : Below w.heap.size u w1 := ((Below.refl _ _).alloc hs o).grown hg (by omega) (fun k hk => (h.marks.lt k hk).1)
  refine ⟨X.keep h.inv (fun b hb => hst0 b (X.lt h.inv b hb) (fun e => h.apM b e hb)), h.ok, h.few, h.above, h.below.trans hB, ⟨ps, p1, owns_keepB (fun g hg' => hst0 g (owns_ltB p2 hg') (fun e => h.apDM g hg' e)) p2, fun i hi => (p3 i hi).keep hst hoff⟩, ?_, h.apD, fun b hb hF => ?_, fun b hb hM => ?_, fun e he => ?_⟩
  · rw [List.length_append, List.map_append]
    exact ho
  · rcases hat with h1 | h1
    · exact h.apM b (by rw [← h1]; exact hb) hF
    · rw [h1, hsz] at hb; simp at hb; have := X.lt h.inv b hF; omega
  · rcases hat with h1 | h1
    · exact h.apDM b hb (by rw [← h1]; exact hM)
    · rw [h1, hsz] at hM; simp at hM; have := owns_ltB p2 hb; omega
  · obtain ⟨e1, e2, e3⟩ := h.exs e he
    refine ⟨?_, hoff _ e2 e1.lt, e3.keep hst hoff⟩
    unfold RowAt
    rw [hst _ e2 e1.lt]; exact e1
end Ev
end Go.Proofs.YtdldgefahgojaakDoor

/- Plain facts on fractions: two whole numbers, their greatest common divisor, lowest terms, the bounds. No Go in it. -/
namespace Go.Proofs.YtdldgefahgojaakDoor.Fr

/-- both numbers are within a fraction's bounds -/
def mayB (t b : Int) : Bool := decide (1 ≤ b ∧ b ≤ 100000000 ∧ -1000000000 ≤ t ∧ t ≤ 1000000000)
/-- the greatest common divisor -/
def gd (t b : Int) : Int := (Nat.gcd t.natAbs b.natAbs : Int)
def lowT (t b : Int) : Int := t / gd t b
def lowB (t b : Int) : Int := b / gd t b
/-- in lowest terms already -/
def isLow (t b : Int) : Bool := decide (t = lowT t b ∧ b = lowB t b)
/-- what is wrong with a fraction: 1 out of bounds, 3 not in lowest terms, 0 nothing -/
def fault (t b : Int) : Int := if mayB t b then (if isLow t b then 0 else 3) else 1
/-- of two: the first fault -/
def fault2 (t b u c : Int) : Int := if fault t b = 0 then fault u c else fault t b

theorem mayB_iff {t b : Int} : mayB t b = true ↔ (1 ≤ b ∧ b ≤ 100000000 ∧ -1000000000 ≤ t ∧ t ≤ 1000000000) := by simp [mayB]

theorem gd_neg (t b : Int) : gd (-t) b = gd t b := by simp [gd]
theorem gd_pos {t b : Int} (h : 1 ≤ b) : 1 ≤ gd t b := by
  unfold gd
  have : 0 < Nat.gcd t.natAbs b.natAbs := Nat.gcd_pos_of_pos_right _ (by omega)
  omega
theorem gd_dvd_left (t b : Int) : gd t b ∣ t := by
  unfold gd
  exact Int.ofNat_dvd_left.2 (Nat.gcd_dvd_left _ _)
theorem gd_dvd_right (t b : Int) : gd t b ∣ b := by
  unfold gd
  exact Int.ofNat_dvd_left.2 (Nat.gcd_dvd_right _ _)

theorem tdiv_gd (t b : Int) : t.tdiv (gd t b) = lowT t b := Int.tdiv_eq_ediv_of_dvd (gd_dvd_left t b)
theorem lowT_mul {t b : Int} : lowT t b * gd t b = t := by
  unfold lowT; exact Int.ediv_mul_cancel (gd_dvd_left t b)
theorem lowB_mul {t b : Int} : lowB t b * gd t b = b := by
  unfold lowB; exact Int.ediv_mul_cancel (gd_dvd_right t b)

/-- a product with a number from 0 on -/
theorem mul_bd {t c A C : Int} (h1 : -A ≤ t) (h2 : t ≤ A) (h3 : 0 ≤ c) (h4 : c ≤ C) : -(A * C) ≤ t * c ∧ t * c ≤ A * C := by
  have hA : 0 ≤ A := by omega
  have a1 : t * c ≤ A * c := Int.mul_le_mul_of_nonneg_right h2 h3
  have a2 : A * c ≤ A * C := Int.mul_le_mul_of_nonneg_left h4 hA
  have a3 : (-A) * c ≤ t * c := Int.mul_le_mul_of_nonneg_right h1 h3
  rw [Int.neg_mul] at a3
  omega
/-- a product with a number of either sign -/
theorem mul_bd' {t c A C : Int} (h1 : -A ≤ t) (h2 : t ≤ A) (h3 : -C ≤ c) (h4 : c ≤ C) : -(A * C) ≤ t * c ∧ t * c ≤ A * C := by
  by_cases h : 0 ≤ c
  · exact mul_bd h1 h2 h h4
  · have := mul_bd (t := t) (c := -c) (A := A) (C := C) h1 h2 (by omega) (by omega)
    rw [Int.mul_neg] at this
    omega

theorem fault_0 {t b : Int} (h : fault t b = 0) : 1 ≤ b ∧ b ≤ 100000000 ∧ -1000000000 ≤ t ∧ t ≤ 1000000000 := by
  unfold fault at h
  split at h
  · exact mayB_iff.1 ‹_›
  · omega
theorem fault2_0 {t b u c : Int} (h : fault2 t b u c = 0) : fault t b = 0 ∧ fault u c = 0 := by
  unfold fault2 at h
  split at h
  · exact ⟨‹_›, h⟩
  · contradiction
theorem fault_cases (t b : Int) : fault t b = 0 ∨ fault t b = 1 ∨ fault t b = 3 := by
  unfold fault
  split
  · split <;> simp
  · simp

theorem low_of_fault {t b : Int} (h : fault t b = 0) : lowT t b = t ∧ lowB t b = b := by
  unfold fault at h
  split at h
  · split at h
    · have := ‹isLow t b = true›
      simp only [isLow, decide_eq_true_eq] at this
      exact ⟨this.1.symm, this.2.symm⟩
    · omega
  · omega
theorem mayB_of_fault {t b : Int} (h : fault t b = 0) : mayB t b = true := by
  unfold fault at h
  split at h
  · assumption
  · omega
theorem fault_of {t b : Int} (hm : mayB t b = true) (h1 : lowT t b = t) (h2 : lowB t b = b) : fault t b = 0 := by
  unfold fault
  rw [hm, if_pos rfl, if_pos]
  simp only [isLow, decide_eq_true_eq]
  exact ⟨h1.symm, h2.symm⟩
theorem gd_zero {b : Int} (h : 1 ≤ b) : gd 0 b = b := by
  unfold gd
  simp
  omega
theorem low_zero {b : Int} (h : 1 ≤ b) : lowT 0 b = 0 ∧ lowB 0 b = 1 := by
  unfold lowT lowB
  rw [gd_zero h]
  exact ⟨Int.zero_ediv b, Int.ediv_self (by omega)⟩
theorem fault_01 : fault 0 1 = 0 := by decide

/-- which of two numbers is less -/
def cmpI (x y : Int) : Int := if x < y then -1 else if y < x then 1 else 0

end Go.Proofs.YtdldgefahgojaakDoor.Fr

/- Plain facts: lowest terms hang on the ratio alone; sums, parts and multiples of fractions in lowest terms. No Go in it. -/
namespace Go.Proofs.YtdldgefahgojaakDoor.Fr

theorem gd_comm (t b : Int) : gd t b = gd b t := by unfold gd; rw [Nat.gcd_comm]
theorem gd_one_iff {t b : Int} : gd t b = 1 ↔ Nat.Coprime t.natAbs b.natAbs := by
  unfold gd Nat.Coprime
  omega

theorem natAbs_div {t g : Int} (h : g ∣ t) : (t / g).natAbs = t.natAbs / g.natAbs := by
  obtain ⟨k, rfl⟩ := h
  by_cases hg : g = 0
  · subst hg; simp
  · rw [Int.mul_ediv_cancel_left k hg, Int.natAbs_mul, Nat.mul_div_cancel_left _ (Int.natAbs_pos.2 hg)]

/-- what is in lowest terms has no divisor in common -/
theorem low_coprime {t b : Int} (hb : 1 ≤ b) : gd (lowT t b) (lowB t b) = 1 := by
  rw [gd_one_iff]
  unfold lowT lowB
  rw [natAbs_div (gd_dvd_left t b), natAbs_div (gd_dvd_right t b)]
  have e : (gd t b).natAbs = Nat.gcd t.natAbs b.natAbs := by unfold gd; omega
  rw [e]
  exact Nat.coprime_div_gcd_div_gcd (Nat.gcd_pos_of_pos_right _ (by omega))
theorem lowB_pos {t b : Int} (hb : 1 ≤ b) : 1 ≤ lowB t b := by
  have h1 := gd_pos (t := t) hb
  have h2 := lowB_mul (t := t) (b := b)
  by_cases h : 1 ≤ lowB t b
  · exact h
  · exfalso
    have h3 : lowB t b ≤ 0 := by omega
    have h4 : lowB t b * gd t b ≤ 0 := Int.mul_nonpos_of_nonpos_of_nonneg h3 (by omega)
    omega
theorem low_ratio (t b : Int) : lowT t b * b = t * lowB t b := by
  have h1 := lowT_mul (t := t) (b := b)
  have h2 := lowB_mul (t := t) (b := b)
  calc lowT t b * b = lowT t b * (lowB t b * gd t b) := by rw [h2]
    _ = (lowT t b * gd t b) * lowB t b := by rw [Int.mul_assoc, Int.mul_comm (gd t b)]
    _ = t * lowB t b := by rw [h1]

theorem dvd_of_coprime {q p q' : Int} (h : gd p q = 1) (hd : q ∣ p * q') : q ∣ q' := by
  rw [gd_one_iff] at h
  have hd' : q.natAbs ∣ p.natAbs * q'.natAbs := by rw [← Int.natAbs_mul]; exact Int.natAbs_dvd_natAbs.2 hd
  exact Int.natAbs_dvd_natAbs.1 (Nat.Coprime.dvd_of_dvd_mul_left h.symm hd')

/-- two pairs of one ratio, each with no divisor in common, are one pair -/
theorem ratio_uniq {p q p' q' : Int} (h : gd p q = 1) (h' : gd p' q' = 1) (hq : 1 ≤ q) (hq' : 1 ≤ q') (e : p * q' = p' * q) : p = p' ∧ q = q' := by
  have d1 : q ∣ q' := dvd_of_coprime h (by rw [e]; exact Int.dvd_mul_left _ _)
  have d2 : q' ∣ q := dvd_of_coprime h' (by rw [← e]; exact Int.dvd_mul_left _ _)
  have e1 : q = q' := by
    have a1 := Int.le_of_dvd (by omega) d1
    have a2 := Int.le_of_dvd (by omega) d2
    omega
  refine ⟨?_, e1⟩
  rw [e1] at e
  exact Int.eq_of_mul_eq_mul_right (by omega) e

theorem low_of_ratio {t b u c : Int} (hb : 1 ≤ b) (hc : 1 ≤ c) (e : t * c = u * b) : lowT t b = lowT u c ∧ lowB t b = lowB u c := by
  refine ratio_uniq (low_coprime hb) (low_coprime hc) (lowB_pos hb) (lowB_pos hc) ?_
  have r1 := low_ratio t b
  have r2 := low_ratio u c
  have hbc : b * c ≠ 0 := Int.mul_ne_zero (by omega) (by omega)
  apply Int.eq_of_mul_eq_mul_right hbc
  calc lowT t b * lowB u c * (b * c) = (lowT t b * b) * (lowB u c * c) := by ac_rfl
    _ = (t * lowB t b) * (lowB u c * c) := by rw [r1]
    _ = (t * c) * (lowB t b * lowB u c) := by ac_rfl
    _ = (u * b) * (lowB t b * lowB u c) := by rw [e]
    _ = (u * lowB u c) * (lowB t b * b) := by ac_rfl
    _ = (lowT u c * c) * (lowB t b * b) := by rw [r2]
    _ = lowT u c * lowB t b * (b * c) := by ac_rfl

theorem low_self {p q : Int} (h : gd p q = 1) : lowT p q = p ∧ lowB p q = q := by
  unfold lowT lowB
  rw [h]
  exact ⟨Int.ediv_one _, Int.ediv_one _⟩
theorem fault_iff {t b : Int} : fault t b = 0 ↔ mayB t b = true ∧ gd t b = 1 := by
  constructor
  · intro h
    refine ⟨mayB_of_fault h, ?_⟩
    obtain ⟨l1, l2⟩ := low_of_fault h
    have := low_coprime (t := t) (b := b) (fault_0 h).1
    rw [l1, l2] at this
    exact this
  · rintro ⟨hm, hg⟩
    obtain ⟨l1, l2⟩ := low_self hg
    exact fault_of hm l1 l2
/-- what was brought to lowest terms, and is within the bounds, is a fraction -/
theorem fault_low {t b : Int} (hb : 1 ≤ b) (hm : mayB (lowT t b) (lowB t b) = true) : fault (lowT t b) (lowB t b) = 0 :=
  fault_iff.2 ⟨hm, low_coprime hb⟩

end Go.Proofs.YtdldgefahgojaakDoor.Fr

/- Plain facts on loads: rates that are right, what goes over a link, what is left, whether it fits. No Go in it. -/
namespace Go.Proofs.YtdldgefahgojaakDoor.Ld
open Fr Ns
set_option linter.unusedSimpArgs false

def faultP (a : Int × Int) : Int := fault a.1 a.2
/-- the sum of two in lowest terms -/
def sumP (a b : Int × Int) : Int × Int := (lowT (a.1 * b.2 + b.1 * a.2) (a.2 * b.2), lowB (a.1 * b.2 + b.1 * a.2) (a.2 * b.2))
def mayP (a : Int × Int) : Bool := mayB a.1 a.2
/-- the first fault of some rates -/
def ratesE : List (Int × Int) → Int
  | [] => 0
  | a :: r => if faultP a = 0 then ratesE r else faultP a
/-- the rates of some flows added up, one by one: none, if that is too much -/
def addUp (r : List (Int × Int)) : List Int → Int × Int → Option (Int × Int)
  | [], s => some s
  | u :: us, s => if mayP (sumP s (r.getD u.toNat (0, 1))) then addUp r us (sumP s (r.getD u.toNat (0, 1))) else none
def loadOf (paths : List (List Int)) (r : List (Int × Int)) (l : Nat) : Option (Int × Int) := addUp r (users paths l) (0, 1)
/-- none is too much, of the first so many links -/
def allOk (paths : List (List Int)) (r : List (Int × Int)) (n : Nat) : Bool := (List.range n).all fun l => (loadOf paths r l).isSome
def loadL (paths : List (List Int)) (r : List (Int × Int)) (n : Nat) : List (Int × Int) := (List.range n).map fun l => (loadOf paths r l).getD (0, 1)
/-- what is wrong with a net and rates -/
def loadE (caps : List Int) (paths : List (List Int)) (r : List (Int × Int)) : Int :=
  if netE caps paths = 0 then if r.length = paths.length then if ratesE r = 0 then if allOk paths r caps.length then 0 else 4 else ratesE r else 3 else netE caps paths
/-- no rate is below 0, no link's load above what it takes -/
def fitsB (caps : List Int) (paths : List (List Int)) (r : List (Int × Int)) : Bool :=
  (r.all fun a => decide (0 ≤ a.1)) && (List.range caps.length).all fun l => decide (((loadL paths r caps.length).getD l (0, 1)).1 ≤ caps.getD l 0 * ((loadL paths r caps.length).getD l (0, 1)).2)
/-- what is left on a link -/
def leftOf (c : Int) (a : Int × Int) : Int × Int := sumP (c, 1) (-a.1, a.2)
def leftL (caps : List Int) (paths : List (List Int)) (r : List (Int × Int)) : List (Int × Int) := (List.range caps.length).map fun l => leftOf (caps.getD l 0) ((loadL paths r caps.length).getD l (0, 1))
def leftE (caps : List Int) (paths : List (List Int)) (r : List (Int × Int)) : Int :=
  if loadE caps paths r = 0 then if (leftL caps paths r).all mayP then 0 else 4 else loadE caps paths r

theorem ratesE_iff (r : List (Int × Int)) : ratesE r = 0 ↔ ∀ a ∈ r, faultP a = 0 := by
  induction r with
  | nil => simp [ratesE]
  | cons a r ih =>
    simp only [ratesE, List.mem_cons, forall_eq_or_imp]
    split
    · simp [ih, *]
    · simp [*]
theorem ratesE_cons (r : List (Int × Int)) (k : Nat) (h : k < r.length) : ratesE (r.drop k) = if faultP (r.getD k (0, 0)) = 0 then ratesE (r.drop (k + 1)) else faultP (r.getD k (0, 0)) := by
  rw [drop_cons r k h (0, 0)]; rfl
theorem loadL_length (paths : List (List Int)) (r : List (Int × Int)) (n : Nat) : (loadL paths r n).length = n := by simp [loadL]
theorem leftL_length (caps : List Int) (paths : List (List Int)) (r : List (Int × Int)) : (leftL caps paths r).length = caps.length := by simp [leftL]
theorem loadL_getD (paths : List (List Int)) (r : List (Int × Int)) (n l : Nat) (h : l < n) (d : Int × Int) : (loadL paths r n).getD l d = (loadOf paths r l).getD (0, 1) := by
  simp [loadL, List.getD, List.getElem?_map, List.getElem?_range h]
theorem loadL_snoc (paths : List (List Int)) (r : List (Int × Int)) (n : Nat) : loadL paths r (n + 1) = loadL paths r n ++ [(loadOf paths r n).getD (0, 1)] := by
  simp [loadL, List.range_succ]
theorem allOk_snoc (paths : List (List Int)) (r : List (Int × Int)) (n : Nat) : allOk paths r (n + 1) = (allOk paths r n && (loadOf paths r n).isSome) := by
  simp [allOk, List.range_succ]
theorem allOk_le {paths : List (List Int)} {r : List (Int × Int)} {n m : Nat} (h : allOk paths r n = true) (hm : m ≤ n) : allOk paths r m = true := by
  simp only [allOk, List.all_eq_true, List.mem_range] at h ⊢
  exact fun l hl => h l (by omega)
theorem allOk_at {paths : List (List Int)} {r : List (Int × Int)} {n l : Nat} (h : allOk paths r n = true) (hl : l < n) : ∃ s, loadOf paths r l = some s := by
  simp only [allOk, List.all_eq_true, List.mem_range] at h
  exact Option.isSome_iff_exists.1 (h l hl)

theorem loadE_0 {caps : List Int} {paths : List (List Int)} {r : List (Int × Int)} (h : loadE caps paths r = 0) : netE caps paths = 0 ∧ r.length = paths.length ∧ ratesE r = 0 ∧ allOk paths r caps.length = true := by
  unfold loadE at h
  split at h
  · split at h
    · split at h
      · split at h
        · exact ⟨by assumption, by assumption, by assumption, by assumption⟩
        · omega
      · contradiction
    · omega
  · contradiction
theorem loadE_mk {caps : List Int} {paths : List (List Int)} {r : List (Int × Int)} (h1 : netE caps paths = 0) (h2 : r.length = paths.length) (h3 : ratesE r = 0) (h4 : allOk paths r caps.length = true) : loadE caps paths r = 0 := by
  rw [loadE, if_pos h1, if_pos h2, if_pos h3, if_pos h4]

theorem fault_sumP {a b : Int × Int} (ha : faultP a = 0) (hb : faultP b = 0) (h : mayP (sumP a b) = true) : faultP (sumP a b) = 0 := by
  have h1 := fault_0 ha
  have h2 := fault_0 hb
  have hp : 1 ≤ a.2 * b.2 := Int.mul_le_mul h1.1 h2.1 (by decide) (by omega)
  exact fault_low hp h
/-- what is added up of right rates is right -/
theorem addUp_fault {r : List (Int × Int)} (hr : ratesE r = 0) : ∀ (us : List Int) (s t : Int × Int), faultP s = 0 → addUp r us s = some t → faultP t = 0 := by
  intro us
  induction us with
  | nil => intro s t hs h; simp only [addUp, Option.some.injEq] at h; exact h ▸ hs
  | cons u us ih =>
    intro s t hs h
    simp only [addUp] at h
    split at h
    · rename_i hm
      refine ih _ _ (fault_sumP hs ?_ hm) h
      by_cases hu : u.toNat < r.length
      · exact (ratesE_iff r).1 hr _ (getD_mem r _ hu _)
      · rw [List.getD_eq_getElem?_getD, List.getElem?_eq_none (by omega)]
        decide
    · cases h
theorem loadOf_fault {paths : List (List Int)} {r : List (Int × Int)} {l : Nat} {s : Int × Int} (hr : ratesE r = 0) (h : loadOf paths r l = some s) : faultP s = 0 := addUp_fault hr _ _ _ (by decide) h
theorem addUp_snoc (r : List (Int × Int)) : ∀ (us : List Int) (u : Int) (s : Int × Int), addUp r (us ++ [u]) s = (addUp r us s).bind fun t => if mayP (sumP t (r.getD u.toNat (0, 1))) then some (sumP t (r.getD u.toNat (0, 1))) else none := by
  intro us
  induction us with
  | nil => intro u s; simp [addUp]
  | cons x us ih =>
    intro u s
    simp only [List.cons_append, addUp]
    split
    · exact ih _ _
    · rfl
/-- the users' numbers are flows -/
theorem usersFrom_mem (link : Int) : ∀ (l : List (List Int)) (i : Nat) (u : Int), u ∈ usersFrom link i l → (i : Int) ≤ u ∧ u < i + l.length := by
  intro l
  induction l with
  | nil => intro i u h; simp [usersFrom] at h
  | cons p r ih =>
    intro i u h
    simp only [usersFrom] at h
    split at h
    · rcases List.mem_cons.1 h with rfl | h
      · simp; omega
      · have := ih (i + 1) u h
        simp; omega
    · have := ih (i + 1) u h
      simp; omega
theorem users_mem {paths : List (List Int)} {link u : Int} (h : u ∈ users paths link) : 0 ≤ u ∧ u < paths.length := by
  have := usersFrom_mem link paths 0 u h
  omega
end Go.Proofs.YtdldgefahgojaakDoor.Ld

/- Slices of fractions: what a walk is told of them; and package fairsame's Fracs. -/
namespace Go.Proofs.YtdldgefahgojaakDoor
namespace Ld
open Go.RowKit Fr Ns
set_option linter.unusedSimpArgs false
set_option linter.unusedVariables false

/-- the slice v holds the fractions l in the world w, in a block of which Q holds -/
def FracsAt (Q : Nat → Prop) (w : World) (v : Value) (l : List (Int × Int)) : Prop :=
  ∃ a cap, v = .slice a l.length cap ∧ (l.length ≤ cap ∧ l.length ≤ 9223372036854775807) ∧
    (l = [] ∨ ∃ b off, a = some ⟨b, off, none⟩ ∧ (∀ i, i < l.length → w.cell? ⟨b, off + i * 2, none⟩ = some (.int .i64 (l.getD i (0, 0)).1) ∧ w.cell? ⟨b, off + i * 2 + 1, none⟩ = some (.int .i64 (l.getD i (0, 0)).2)) ∧ Q b)

theorem FracsAt.later {Q : Nat → Prop} {w w' : World} {v : Value} {l : List (Int × Int)} (hb : Below w.heap.size w w') (h : FracsAt Q w v l) : FracsAt Q w' v l := by
  obtain ⟨a, cap, rfl, hm, h⟩ := h
  refine ⟨a, cap, rfl, hm, ?_⟩
  rcases h with h | ⟨b, off, rfl, h, hQ⟩
  · exact .inl h
  · exact .inr ⟨b, off, rfl, fun i hi => ⟨cell_later hb (h i hi).1, cell_later hb (h i hi).2⟩, hQ⟩
theorem FracsAt.keep {Q R : Nat → Prop} {w w' : World} {v : Value} {l : List (Int × Int)} (hk : ∀ b, Q b → b < w.heap.size → w'.heap[b]? = w.heap[b]?) (hQR : ∀ b, Q b → b < w.heap.size → R b) (h : FracsAt Q w v l) : FracsAt R w' v l := by
  obtain ⟨a, cap, rfl, hm, h⟩ := h
  refine ⟨a, cap, rfl, hm, ?_⟩
  rcases h with h | ⟨b, off, rfl, h, hQ⟩
  · exact .inl h
  · by_cases hl : l = []
    · exact .inl hl
    · have hb : b < w.heap.size := World.block_lt_of_cell? _ _ (h 0 (List.length_pos_iff.2 hl)).1
      refine .inr ⟨b, off, rfl, fun i hi => ?_, hQR b hQ hb⟩
      rw [World.cell?_of_block (w := w) (a := ⟨b, off + i * 2, none⟩) (hk b hQ hb), World.cell?_of_block (w := w) (a := ⟨b, off + i * 2 + 1, none⟩) (hk b hQ hb)]
      exact h i hi
theorem FracsAt.shape {Q : Nat → Prop} {w : World} {v : Value} {l : List (Int × Int)} (h : FracsAt Q w v l) : ∃ a n k, v = .slice a n k := by
  obtain ⟨_, _, rfl, _⟩ := h
  exact ⟨_, _, _, rfl⟩
theorem fracs_nil (Q : Nat → Prop) (w : World) : FracsAt Q w (.slice none 0 0) [] := ⟨none, 0, rfl, ⟨Nat.le_refl _, by simp⟩, .inl rfl⟩

theorem cell_set2 {w : World} {g : Nat} {x y z z' : Value} (h0 : w.cell? ⟨g, 0, none⟩ = some z) (h1 : w.cell? ⟨g, 1, none⟩ = some z') :
    ((w.setCell ⟨g, 0, none⟩ x).setCell ⟨g, 1, none⟩ y).cell? ⟨g, 0, none⟩ = some x ∧ ((w.setCell ⟨g, 0, none⟩ x).setCell ⟨g, 1, none⟩ y).cell? ⟨g, 1, none⟩ = some y := by
  constructor <;> go_simp
theorem infoFrac : (Tryd.prog.info? 35).map (fun i => (i.zero, i.size, i.bytes)) = some (some (.agg #[.int .i64 0, .int .i64 0]), 2, 16) := by kernel_rfl

/-- the cells of a row of fractions -/
def flat : List (Int × Int) → List Value
  | [] => []
  | a :: r => .int .i64 a.1 :: .int .i64 a.2 :: flat r
theorem flat_length (l : List (Int × Int)) : (flat l).length = l.length * 2 := by
  induction l with
  | nil => rfl
  | cons a r ih => simp [flat, ih]; omega
theorem flat_append (l m : List (Int × Int)) : flat (l ++ m) = flat l ++ flat m := by
  induction l with
  | nil => rfl
  | cons a r ih => simp [flat, ih]
theorem flat_at : ∀ (l : List (Int × Int)) (i : Nat), i < l.length → (flat l)[i * 2]? = some (.int .i64 (l.getD i (0, 0)).1) ∧ (flat l)[i * 2 + 1]? = some (.int .i64 (l.getD i (0, 0)).2) := by
  intro l
  induction l with
  | nil => intro i h; simp at h
  | cons a r ih =>
    intro i h
    cases i with
    | zero => simp [flat]
    | succ i =>
      have := ih i (by simpa using h)
      rw [show (i + 1) * 2 = i * 2 + 1 + 1 by omega]
      simpa [flat] using this
/-- a row of fractions that the call owns is a list -/
theorem fracs_of_owns {Q : Nat → Prop} {w : World} {base : Nat} {v : Value} {l : List (Int × Int)} (hl : l.length ≤ 9223372036854775807) (h : w.ownsRow base 35 2 v l.length (flat l)) (hQ : ∀ g, base ≤ g → Q g) : FracsAt Q w v l := by
  have h' := h
  obtain ⟨h0, h⟩ := h
  rcases h with ⟨rfl, h⟩ | ⟨g, cap, cur, rfl, hb, hg, hc, hm, hs, ht⟩
  · have : l = [] := List.eq_nil_of_length_eq_zero h
    subst this
    exact fracs_nil _ _
  · refine ⟨_, cap, rfl, ⟨hc, hl⟩, .inr ⟨g, 0, rfl, fun i hi => ?_, hQ g hb⟩⟩
    have e := flat_at l i hi
    have c1 := h'.cells (g := g) rfl (i * 2) _ e.1
    have c2 := h'.cells (g := g) rfl (i * 2 + 1) _ e.2
    rw [add_addr] at c1 c2
    exact ⟨c1, by rw [Nat.add_assoc]; exact c2⟩
/-- the two cells of a fraction that is appended -/
theorem news_two (w : World) (x y : Value) (T : TypeId) : ∀ j u, [x, y][j]? = some u → (w.alloc (.cells #[x, y] T)).cell? ((⟨w.heap.size, 0, none⟩ : Addr).add j) = some u := by
  intro j u hj
  match j, hj with
  | 0, hj => simp at hj; subst hj; simp [Addr.add]
  | 1, hj => simp at hj; subst hj; simp [Addr.add]
theorem ones_two (a b : Int) : ∀ u ∈ [Value.int .i64 a, Value.int .i64 b], u.oneCell' = true := by
  intro u hu
  simp at hu
  rcases hu with rfl | rfl <;> rfl
end Ld
end Go.Proofs.YtdldgefahgojaakDoor

/- What package net's calls tell, in plain numbers. -/
namespace Go.Proofs.YtdldgefahgojaakDoor
namespace Ns
open Go.RowKit Fr
set_option linter.unusedSimpArgs false
set_option linter.unusedVariables false

/-- what comes out beside a fault: nothing -/
def okL {α : Type} (k : Int) (l : List α) : List α := if k = 0 then l else []
theorem okL_0 {α : Type} (l : List α) : okL 0 l = l := rfl
theorem okL_ne {α : Type} {k : Int} (h : k ≠ 0) (l : List α) : okL k l = [] := if_neg h
def usersE (caps : List Int) (paths : List (List Int)) (link : Int) : Int :=
  if netE caps paths = 0 then if link < 0 ∨ (caps.length : Int) ≤ link then 1 else 0 else netE caps paths
def addE (caps : List Int) (paths : List (List Int)) (path : List Int) : Int :=
  if netE caps paths = 0 then if paths.length = 6 then 4 else pathE caps.length path else netE caps paths
def dropE (caps : List Int) (paths : List (List Int)) (flow : Int) : Int :=
  if netE caps paths = 0 then if flow < 0 ∨ (paths.length : Int) ≤ flow then 1 else if paths.length = 1 then 5 else 0 else netE caps paths
def less (paths : List (List Int)) (flow : Int) : List (List Int) := paths.take flow.toNat ++ paths.drop (flow.toNat + 1)

theorem netE_0 {caps : List Int} {paths : List (List Int)} (h : netE caps paths = 0) :
    0 < caps.length ∧ caps.length ≤ 6 ∧ 0 < paths.length ∧ paths.length ≤ 6 ∧ linksE caps = 0 ∧ pathsFrom caps.length paths = 0 := by
  unfold netE at h
  split at h
  · omega
  · split at h
    · omega
    · split at h
      · refine ⟨by omega, by omega, by omega, by omega, by assumption, h⟩
      · contradiction
theorem netE_mk {caps : List Int} {paths : List (List Int)} (h : 0 < caps.length ∧ caps.length ≤ 6 ∧ 0 < paths.length ∧ paths.length ≤ 6 ∧ linksE caps = 0 ∧ pathsFrom caps.length paths = 0) : netE caps paths = 0 := by
  rw [netE, if_neg (by omega), if_neg (by omega), if_pos h.2.2.2.2.1]
  exact h.2.2.2.2.2
theorem pathsFrom_append (L : Int) (l m : List (List Int)) (h : pathsFrom L l = 0) : pathsFrom L (l ++ m) = pathsFrom L m := by
  induction l with
  | nil => rfl
  | cons p r ih =>
    simp only [List.cons_append, pathsFrom] at h ⊢
    split at h
    · rw [if_pos (by assumption)]; exact ih h
    · contradiction
theorem pathsFrom_one (L : Int) (p : List Int) : pathsFrom L [p] = pathE L p := by
  simp only [pathsFrom]
  split <;> simp_all
theorem pathsFrom_iff (L : Int) (l : List (List Int)) : pathsFrom L l = 0 ↔ ∀ p ∈ l, pathE L p = 0 := by
  induction l with
  | nil => simp [pathsFrom]
  | cons q r ih =>
    simp only [pathsFrom, List.mem_cons, forall_eq_or_imp]
    split
    · simp [ih, *]
    · simp [*]
/-- a net with a flow more is a net -/
theorem netE_add {caps : List Int} {paths : List (List Int)} {path : List Int} (h : addE caps paths path = 0) :
    netE caps paths = 0 ∧ paths.length < 6 ∧ pathE caps.length path = 0 ∧ netE caps (paths ++ [path]) = 0 := by
  unfold addE at h
  split at h
  · rename_i h0
    split at h
    · omega
    · have := netE_0 h0
      refine ⟨h0, by omega, h, netE_mk ⟨this.1, this.2.1, by simp, by simp; omega, this.2.2.2.2.1, ?_⟩⟩
      rw [pathsFrom_append _ _ _ this.2.2.2.2.2, pathsFrom_one, h]
  · contradiction
end Ns
end Go.Proofs.YtdldgefahgojaakDoor

/- Fractions as rational numbers: what a sum, a part and an order of two are. No Go in it. -/
namespace Go.Proofs.YtdldgefahgojaakDoor.Fl
open Fr Ns Ld
set_option linter.unusedSimpArgs false

/-- the number that a fraction is -/
def val (a : Int × Int) : Rat := (a.1 : Rat) / (a.2 : Rat)

theorem castPos {b : Int} (h : 1 ≤ b) : (0 : Rat) < (b : Rat) := by
  have : ((0 : Int) : Rat) < (b : Rat) := Rat.intCast_lt_intCast.2 (by omega)
  simpa using this
theorem castNe {b : Int} (h : 1 ≤ b) : (b : Rat) ≠ 0 := by
  have := castPos h
  intro e
  rw [e] at this
  exact absurd this (by decide)
theorem val_mul {a : Int × Int} (h : 1 ≤ a.2) : val a * (a.2 : Rat) = (a.1 : Rat) := by
  have := castNe h
  unfold val
  grind
theorem val_of_mul {a : Int × Int} {q : Rat} (h : 1 ≤ a.2) (e : q * (a.2 : Rat) = (a.1 : Rat)) : val a = q := by
  have := castNe h
  have := val_mul h
  grind
theorem val_low {t b : Int} (h : 1 ≤ b) : val (lowT t b, lowB t b) = val (t, b) := by
  have hb := lowB_pos (t := t) h
  apply val_of_mul (a := (lowT t b, lowB t b)) hb
  have hr := low_ratio t b
  have hr' : (lowT t b : Rat) * (b : Rat) = (t : Rat) * (lowB t b : Rat) := by
    rw [← Rat.intCast_mul, ← Rat.intCast_mul, hr]
  have hv := val_mul (a := (t, b)) h
  have hn := castNe h
  simp only at hv ⊢
  have : (val (t, b) * (lowB t b : Rat)) * (b : Rat) = (lowT t b : Rat) * (b : Rat) := by
    rw [hr', Rat.mul_assoc, Rat.mul_comm (lowB t b : Rat), ← Rat.mul_assoc, hv]
  grind
theorem val_sum {a b : Int × Int} (ha : 1 ≤ a.2) (hb : 1 ≤ b.2) : val (sumP a b) = val a + val b := by
  have hp : 1 ≤ a.2 * b.2 := Int.mul_le_mul ha hb (by decide) (by omega)
  unfold sumP
  rw [val_low hp]
  apply val_of_mul (a := (a.1 * b.2 + b.1 * a.2, a.2 * b.2)) hp
  have h1 := val_mul ha
  have h2 := val_mul hb
  simp only
  rw [Rat.intCast_mul, Rat.intCast_add, Rat.intCast_mul, Rat.intCast_mul, ← h1, ← h2]
  grind
theorem val_neg (a : Int × Int) : val (-a.1, a.2) = - val a := by
  unfold val
  simp only [Rat.intCast_neg]
  grind
theorem val_whole (c : Int) : val (c, 1) = (c : Rat) := by
  have := val_mul (a := (c, 1)) (show (1 : Int) ≤ 1 by decide)
  simp only [Rat.intCast_one, Rat.mul_one] at this
  exact this
theorem val_part {t b k : Int} (hb : 1 ≤ b) (hk : 1 ≤ k) : val (lowT t (b * k), lowB t (b * k)) * (k : Rat) = val (t, b) := by
  have hp : 1 ≤ b * k := Int.mul_le_mul hb hk (by decide) (by omega)
  rw [val_low hp]
  have h1 := val_mul (a := (t, b * k)) hp
  have h2 := val_mul (a := (t, b)) hb
  have hn := castNe hb
  simp only [Rat.intCast_mul] at h1 h2
  have : (val (t, b * k) * (k : Rat)) * (b : Rat) = val (t, b) * (b : Rat) := by
    rw [h2, ← h1]; grind
  grind
theorem cross {a b : Int × Int} (ha : 1 ≤ a.2) (hb : 1 ≤ b.2) : (val a ≤ val b ↔ a.1 * b.2 ≤ b.1 * a.2) := by
  have h1 := val_mul ha
  have h2 := val_mul hb
  have p1 := castPos ha
  have p2 := castPos hb
  have p3 : (0 : Rat) < (a.2 : Rat) * (b.2 : Rat) := Rat.mul_pos p1 p2
  have e1 : ((a.1 * b.2 : Int) : Rat) = val a * ((a.2 : Rat) * (b.2 : Rat)) := by rw [Rat.intCast_mul, ← h1]; grind
  have e2 : ((b.1 * a.2 : Int) : Rat) = val b * ((a.2 : Rat) * (b.2 : Rat)) := by rw [Rat.intCast_mul, ← h2]; grind
  rw [← Rat.intCast_le_intCast, e1, e2]
  exact ⟨fun h => Rat.mul_le_mul_of_nonneg_right h (Rat.le_of_lt p3), fun h => Rat.le_of_mul_le_mul_right h p3⟩
theorem cross_lt {a b : Int × Int} (ha : 1 ≤ a.2) (hb : 1 ≤ b.2) : (val a < val b ↔ a.1 * b.2 < b.1 * a.2) := by
  have := cross hb ha
  rw [← Rat.not_le, this]
  omega
theorem fault_pos {a : Int × Int} (h : faultP a = 0) : 1 ≤ a.2 := (fault_0 h).1
/-- in lowest terms the number tells the fraction -/
theorem val_inj {a b : Int × Int} (ha : 1 ≤ a.2) (hb : 1 ≤ b.2) (ga : gd a.1 a.2 = 1) (gb : gd b.1 b.2 = 1) (h : val a = val b) : a = b := by
  have h1 : a.1 * b.2 ≤ b.1 * a.2 := (cross ha hb).1 (by rw [h]; exact Rat.le_refl)
  have h2 : b.1 * a.2 ≤ a.1 * b.2 := (cross hb ha).1 (by rw [h]; exact Rat.le_refl)
  have := ratio_uniq ga gb ha hb (by omega)
  exact Prod.ext this.1 this.2
theorem val_inj' {a b : Int × Int} (ha : faultP a = 0) (hb : faultP b = 0) (h : val a = val b) : a = b := val_inj (fault_pos ha) (fault_pos hb) (fault_iff.1 ha).2 (fault_iff.1 hb).2 h

/-- a fraction in lowest terms whose bottom divides D -/
def Over (D : Int) (a : Int × Int) : Prop := 1 ≤ a.2 ∧ gd a.1 a.2 = 1 ∧ a.2 ∣ D
theorem over_of {D t b m : Int} (hb : 1 ≤ b) (e : t * D = m * b) : Over D (lowT t b, lowB t b) := by
  refine ⟨lowB_pos hb, low_coprime hb, ?_⟩
  have h : lowT t b * D = m * lowB t b := by
    have h1 := lowT_mul (t := t) (b := b)
    have h2 := lowB_mul (t := t) (b := b)
    have hg := gd_pos (t := t) hb
    rw [← h1] at e
    have e' : m * b = m * (lowB t b * gd t b) := by rw [h2]
    rw [e'] at e
    have : (lowT t b * D) * gd t b = (m * lowB t b) * gd t b := by
      rw [Int.mul_right_comm, e, Int.mul_assoc]
    exact Int.eq_of_mul_eq_mul_right (by omega) this
  exact dvd_of_coprime (low_coprime hb) ⟨m, by rw [h, Int.mul_comm]⟩
theorem over_sum {D : Int} {a b : Int × Int} (ha : Over D a) (hb : Over D b) : Over D (sumP a b) := by
  obtain ⟨a1, _, k, hk⟩ := ha
  obtain ⟨b1, _, m, hm⟩ := hb
  have hp : 1 ≤ a.2 * b.2 := Int.mul_le_mul a1 b1 (by decide) (by omega)
  refine over_of (m := a.1 * k + b.1 * m) hp ?_
  have e1 : a.1 * b.2 * D = a.1 * k * (a.2 * b.2) := by rw [hk]; grind
  have e2 : b.1 * a.2 * D = b.1 * m * (a.2 * b.2) := by rw [hm]; grind
  rw [Int.add_mul, Int.add_mul, e1, e2]
theorem over_neg {D : Int} {a : Int × Int} (ha : Over D a) : Over D (-a.1, a.2) := ⟨ha.1, by rw [gd_neg]; exact ha.2.1, ha.2.2⟩
theorem over_whole (D c : Int) : Over D (c, 1) := ⟨Int.le_refl 1, by unfold gd; simp, ⟨D, by simp⟩⟩
theorem over_part {D k : Int} {a : Int × Int} (ha : Over D a) (hk : 1 ≤ k) : Over (D * k) (lowT a.1 (a.2 * k), lowB a.1 (a.2 * k)) := by
  obtain ⟨a1, _, m, hm⟩ := ha
  have hp : 1 ≤ a.2 * k := Int.mul_le_mul a1 hk (by decide) (by omega)
  exact over_of (m := a.1 * m) hp (by rw [hm]; grind)
theorem Over.mono {D E : Int} {a : Int × Int} (h : Over D a) (hd : D ∣ E) : Over E a := ⟨h.1, h.2.1, Int.dvd_trans h.2.2 hd⟩
theorem over_fault {D : Int} {a : Int × Int} (h : Over D a) (h1 : 1 ≤ D) (h2 : D ≤ 1000000) (l : 0 ≤ val a) (u : val a ≤ 1000) : faultP a = 0 := by
  obtain ⟨a1, ag, hd⟩ := h
  have hb : a.2 ≤ D := Int.le_of_dvd (by omega) hd
  have e0 : val (0, 1) = 0 := by rw [val_whole]; rfl
  have e1 : val (1000, 1) = 1000 := by rw [val_whole]; rfl
  rw [← e0] at l
  rw [← e1] at u
  have l' := (cross (a := (0, 1)) (by decide) a1).1 l
  have u' := (cross (b := (1000, 1)) a1 (by decide)).1 u
  simp only at l' u'
  exact fault_iff.2 ⟨mayB_iff.2 (by omega), ag⟩
end Go.Proofs.YtdldgefahgojaakDoor.Fl

/- Rates that fit, and narrow places, of whatever flows and links: what follows of these. Plain numbers; no Go in it. -/
namespace Go.Proofs.YtdldgefahgojaakDoor.Fl
set_option linter.unusedSimpArgs false

def sumQ (x : Nat → Rat) : List Nat → Rat
  | [] => 0
  | u :: us => x u + sumQ x us
theorem sumQ_le {x y : Nat → Rat} : ∀ {l : List Nat}, (∀ g ∈ l, x g ≤ y g) → sumQ x l ≤ sumQ y l := by
  intro l
  induction l with
  | nil => intro _; exact Rat.le_refl
  | cons u us ih =>
    intro h
    have h1 := h u (by simp)
    have h2 := ih (fun g hg => h g (by simp [hg]))
    simp only [sumQ]
    grind
theorem sumQ_lt {x y : Nat → Rat} {f : Nat} : ∀ {l : List Nat}, (∀ g ∈ l, x g ≤ y g) → f ∈ l → x f < y f → sumQ x l < sumQ y l := by
  intro l
  induction l with
  | nil => intro _ hf; simp at hf
  | cons u us ih =>
    intro h hf hlt
    have h1 := h u (by simp)
    have h2 := sumQ_le (fun g hg => h g (List.mem_cons_of_mem u hg))
    simp only [sumQ]
    rcases List.mem_cons.1 hf with rfl | hf
    · grind
    · have := ih (fun g hg => h g (by simp [hg])) hf hlt
      grind
theorem sumQ_congr {x y : Nat → Rat} : ∀ {l : List Nat}, (∀ g ∈ l, x g = y g) → sumQ x l = sumQ y l := by
  intro l
  induction l with
  | nil => intro _; rfl
  | cons u us ih =>
    intro h
    simp only [sumQ]
    rw [h u (by simp), ih (fun g hg => h g (by simp [hg]))]
/-- together no more, and one has more: another one has less -/
theorem other_less {x y : Nat → Rat} {f : Nat} {l : List Nat} (hs : sumQ y l ≤ sumQ x l) (hf : f ∈ l) (hlt : x f < y f) : ∃ g ∈ l, y g < x g := by
  apply Classical.byContradiction
  intro hn
  have h : ∀ g ∈ l, x g ≤ y g := fun g hg => by
    rcases (Rat.le_total : x g ≤ y g ∨ y g ≤ x g) with h | h
    · exact h
    · apply Classical.byContradiction
      intro hh
      exact hn ⟨g, hg, by grind⟩
  have := sumQ_lt h hf hlt
  grind

def FitsQ (us : Nat → List Nat) (cap : Nat → Rat) (L n : Nat) (x : Nat → Rat) : Prop := (∀ f, f < n → 0 ≤ x f) ∧ ∀ l, l < L → sumQ x (us l) ≤ cap l
def NeckQ (us : Nat → List Nat) (cap : Nat → Rat) (L : Nat) (x : Nat → Rat) (f : Nat) : Prop := ∃ l, l < L ∧ f ∈ us l ∧ sumQ x (us l) = cap l ∧ ∀ g ∈ us l, x g ≤ x f

variable {us : Nat → List Nat} {cap : Nat → Rat} {L n : Nat} {r x : Nat → Rat}

/-- giving one more takes of one who has no more -/
theorem weak {f : Nat} (hr : FitsQ us cap L n r) (hx : NeckQ us cap L x f) (h : x f < r f) : ∃ l g, l < L ∧ g ∈ us l ∧ g ≠ f ∧ x g ≤ x f ∧ r g < x g := by
  obtain ⟨l, hl, hf, he, hm⟩ := hx
  obtain ⟨g, hg, hlt⟩ := other_less (x := x) (y := r) (by rw [he]; exact hr.2 l hl) hf h
  refine ⟨l, g, hl, hg, ?_, hm g hg, hlt⟩
  rintro rfl
  grind

theorem exists_min (p : Nat → Prop) (m : Nat → Rat) : ∀ n : Nat, (∃ f, f < n ∧ p f) → ∃ f, f < n ∧ p f ∧ ∀ g, g < n → p g → m f ≤ m g := by
  intro n
  induction n with
  | zero => rintro ⟨f, hf, _⟩; omega
  | succ n ih =>
    rintro ⟨f, hf, hp⟩
    by_cases hs : ∃ f, f < n ∧ p f
    · obtain ⟨a, ha, hpa, hm⟩ := ih hs
      by_cases hn : p n
      · rcases (Rat.le_total : m a ≤ m n ∨ m n ≤ m a) with h | h
        · refine ⟨a, by omega, hpa, fun g hg hpg => ?_⟩
          by_cases e : g = n
          · rw [e]; exact h
          · exact hm g (by omega) hpg
        · refine ⟨n, by omega, hn, fun g hg hpg => ?_⟩
          by_cases e : g = n
          · rw [e]; exact Rat.le_refl
          · exact Rat.le_trans h (hm g (by omega) hpg)
      · refine ⟨a, by omega, hpa, fun g hg hpg => ?_⟩
        by_cases e : g = n
        · rw [e] at hpg; exact absurd hpg hn
        · exact hm g (by omega) hpg
    · have e : f = n := by
        by_cases e : f = n
        · exact e
        · exact absurd ⟨f, by omega, hp⟩ hs
      subst e
      refine ⟨f, by omega, hp, fun g hg hpg => ?_⟩
      by_cases e : g = f
      · rw [e]; exact Rat.le_refl
      · exact absurd ⟨g, by omega, hpg⟩ hs

/-- the lesser of two -/
def lo (a b : Rat) : Rat := if a ≤ b then a else b
theorem lo_le_left (a b : Rat) : lo a b ≤ a := by
  unfold lo; split
  · exact Rat.le_refl
  · grind
theorem lo_le_right (a b : Rat) : lo a b ≤ b := by
  unfold lo; split
  · assumption
  · exact Rat.le_refl

/-- only one is fair -/
theorem only (hU : ∀ l, l < L → ∀ g ∈ us l, g < n) (hr : FitsQ us cap L n r) (hx : FitsQ us cap L n x) (nr : ∀ f, f < n → NeckQ us cap L r f) (nx : ∀ f, f < n → NeckQ us cap L x f) : ∀ f, f < n → r f = x f := by
  apply Classical.byContradiction
  intro hn
  have hex : ∃ f, f < n ∧ r f ≠ x f := by
    apply Classical.byContradiction
    intro h
    exact hn fun f hf => Classical.byContradiction fun h' => h ⟨f, hf, h'⟩
  obtain ⟨f, hf, hne, hmin⟩ := exists_min (fun f => r f ≠ x f) (fun f => lo (r f) (x f)) n hex
  rcases (Rat.le_total : r f ≤ x f ∨ x f ≤ r f) with h | h
  · have hlt : r f < x f := Rat.lt_of_le_of_ne h hne
    obtain ⟨l, g, hl, hg, _, h1, h2⟩ := weak hx (nr f hf) hlt
    have h3 := hmin g (hU l hl g hg) (fun e => by rw [e] at h2; exact absurd h2 Rat.lt_irrefl)
    have h4 := lo_le_right (r g) (x g)
    have h5 : lo (r f) (x f) = r f := if_pos h
    grind
  · have hlt : x f < r f := Rat.lt_of_le_of_ne h (Ne.symm hne)
    obtain ⟨l, g, hl, hg, _, h1, h2⟩ := weak hr (nx f hf) hlt
    have h3 := hmin g (hU l hl g hg) (fun e => by rw [e] at h2; exact absurd h2 Rat.lt_irrefl)
    have h4 := lo_le_left (r g) (x g)
    have h5 : lo (r f) (x f) = x f := if_neg (by grind)
    grind

/-- how many have no more than t -/
def cnt (n : Nat) (y : Nat → Rat) (t : Rat) : Nat := (List.range n).countP fun f => decide (y f ≤ t)
theorem countP_lt {p q : Nat → Bool} : ∀ {l : List Nat} {f : Nat}, (∀ g ∈ l, p g = true → q g = true) → f ∈ l → p f = false → q f = true → l.countP p < l.countP q := by
  intro l
  induction l with
  | nil => intro f _ hf; simp at hf
  | cons u us ih =>
    intro f h hf hp hq
    have hle : us.countP p ≤ us.countP q := List.countP_mono_left fun g hg hpg => h g (by simp [hg]) hpg
    rcases List.mem_cons.1 hf with rfl | hf
    · rw [List.countP_cons, List.countP_cons, hp, hq]
      simp only [Bool.false_eq_true, if_false, if_true]
      omega
    · have h1 := ih (fun g hg => h g (by simp [hg])) hf hp hq
      have h2 := h u (by simp)
      rw [List.countP_cons, List.countP_cons]
      cases hpu : p u with
      | false => simp only [Bool.false_eq_true, if_false]; split <;> omega
      | true => rw [h2 hpu]; simp only [if_true]; omega

/-- no way that fits helps the weakest more: where below v as many have no more, at v no fewer have -/
theorem best (hU : ∀ l, l < L → ∀ g ∈ us l, g < n) (hr : FitsQ us cap L n r) (nx : ∀ f, f < n → NeckQ us cap L x f) (v : Rat) (hv : ∀ t, t < v → cnt n r t = cnt n x t) :
    cnt n x v ≤ cnt n r v := by
  have hall : ∀ f, f < n → x f ≤ v → r f = x f := by
    apply Classical.byContradiction
    intro hn
    have hex : ∃ f, f < n ∧ (x f ≤ v ∧ r f ≠ x f) := by
      apply Classical.byContradiction
      intro h
      exact hn fun f hf hfv => Classical.byContradiction fun h' => h ⟨f, hf, hfv, h'⟩
    obtain ⟨f, hf, ⟨hfv, hne⟩, hmin⟩ := exists_min (fun f => x f ≤ v ∧ r f ≠ x f) (fun f => lo (r f) (x f)) n hex
    -- none that differs has more than it had, of those at the least place
    have key : ∀ g, g < n → x g ≤ v → x g < r g → x g ≤ lo (r f) (x f) → False := by
      intro g hg hgv hlt hle
      obtain ⟨l, k, hl, hk, _, h1, h2⟩ := weak hr (nx g hg) hlt
      have h3 := hmin k (hU l hl k hk) ⟨Rat.le_trans h1 hgv, fun e => by rw [e] at h2; exact absurd h2 Rat.lt_irrefl⟩
      have h4 := lo_le_left (r k) (x k)
      grind
    rcases (Rat.le_total : r f ≤ x f ∨ x f ≤ r f) with h | h
    · have hlt : r f < x f := Rat.lt_of_le_of_ne h hne
      have hlo : lo (r f) (x f) = r f := if_pos h
      have ht := hv (r f) (by grind)
      have : cnt n x (r f) < cnt n r (r f) := by
        refine countP_lt (f := f) (fun g hg hp => ?_) (List.mem_range.2 hf) (decide_eq_false (by grind)) (decide_eq_true Rat.le_refl)
        have hgn := List.mem_range.1 hg
        have hxg : x g ≤ r f := of_decide_eq_true hp
        apply decide_eq_true
        by_cases e : r g = x g
        · rw [e]; exact hxg
        · have hgv : x g ≤ v := by grind
          rcases (Rat.le_total : r g ≤ x g ∨ x g ≤ r g) with h' | h'
          · exact Rat.le_trans h' hxg
          · exact (key g hgn hgv (Rat.lt_of_le_of_ne h' (Ne.symm e)) (by rw [hlo]; exact hxg)).elim
      omega
    · have hlt : x f < r f := Rat.lt_of_le_of_ne h (Ne.symm hne)
      have hlo : lo (r f) (x f) = x f := if_neg (by grind)
      exact key f hf hfv hlt (by rw [hlo]; exact Rat.le_refl)
  exact List.countP_mono_left fun f hf hp => by
    have hfn := List.mem_range.1 hf
    have hfv : x f ≤ v := of_decide_eq_true hp
    exact decide_eq_true (by rw [hall f hfn hfv]; exact hfv)
end Go.Proofs.YtdldgefahgojaakDoor.Fl

/- All rise together: the document's rounds as plain lists, and what each step of them is. No Go in it. -/
namespace Go.Proofs.YtdldgefahgojaakDoor.Fl
open Fr Ns Ld
set_option linter.unusedSimpArgs false

def dB (done : List Bool) (f : Nat) : Bool := done.getD f false
def rP (rate : List (Int × Int)) (f : Nat) : Int × Int := rate.getD f (0, 0)
def negP (a : Int × Int) : Int × Int := (-a.1, a.2)
/-- what a link takes, less the rates of those that are not free, and how many are free -/
def linkSum (rate : List (Int × Int)) (done : List Bool) : List Int → Int × Int → Nat → (Int × Int) × Nat
  | [], s, k => (s, k)
  | u :: us, s, k => if dB done u.toNat then linkSum rate done us (sumP s (negP (rP rate u.toNat))) k else linkSum rate done us s (k + 1)
/-- a fraction's k-th part -/
def partP (s : Int × Int) (k : Int) : Int × Int := (lowT s.1 (s.2 * k), lowB s.1 (s.2 * k))
def shareOf (caps : List Int) (paths : List (List Int)) (rate : List (Int × Int)) (done : List Bool) (l : Nat) : Option (Int × Int) :=
  if (linkSum rate done (users paths l) (caps.getD l 0, 1) 0).2 = 0 then none
  else some (partP (linkSum rate done (users paths l) (caps.getD l 0, 1) 0).1 ((linkSum rate done (users paths l) (caps.getD l 0, 1) 0).2 : Nat))
/-- the least one of the first so many -/
def bestOf (sh : Nat → Option (Int × Int)) : Nat → Option (Int × Int)
  | 0 => none
  | n + 1 => match sh n, bestOf sh n with
    | none, b => b
    | some s, none => some s
    | some s, some b => if s.1 * b.2 < b.1 * s.2 then some s else some b
/-- the free flows that go over a link with that share -/
def roundOf (paths : List (List Int)) (done : List Bool) (nar : Nat → Bool) : List Int :=
  ((List.range paths.length).filter fun f => !dB done f && (paths.getD f []).any fun x => nar x.toNat).map (fun f : Nat => (f : Int))
def setRate (rate : List (Int × Int)) (rd : List Int) (b : Int × Int) : List (Int × Int) := (List.range rate.length).map fun f : Nat => if rd.contains (f : Int) then b else rP rate f
def setDone (done : List Bool) (rd : List Int) : List Bool := (List.range done.length).map fun f : Nat => rd.contains (f : Int) || dB done f
def narOf (sh : Nat → Option (Int × Int)) (n : Nat) (l : Nat) : Bool := decide (l < n) && (sh l).isSome && decide (sh l = bestOf sh n)
def fillFrom (caps : List Int) (paths : List (List Int)) : Nat → List (Int × Int) → List Bool → List (Int × Int) × List (List Int)
  | 0, rate, _ => (rate, [])
  | k + 1, rate, done => if done.all id then (rate, []) else
    match bestOf (shareOf caps paths rate done) caps.length with
    | none => (rate, [])
    | some b => ((fillFrom caps paths k (setRate rate (roundOf paths done (narOf (shareOf caps paths rate done) caps.length)) b) (setDone done (roundOf paths done (narOf (shareOf caps paths rate done) caps.length)))).1,
        roundOf paths done (narOf (shareOf caps paths rate done) caps.length) :: (fillFrom caps paths k (setRate rate (roundOf paths done (narOf (shareOf caps paths rate done) caps.length)) b) (setDone done (roundOf paths done (narOf (shareOf caps paths rate done) caps.length)))).2)
def fill (caps : List Int) (paths : List (List Int)) : List (Int × Int) × List (List Int) := fillFrom caps paths paths.length (List.replicate paths.length (0, 0)) (List.replicate paths.length false)

def xQ (rate : List (Int × Int)) (f : Nat) : Rat := val (rP rate f)
/-- what each has, if those that are free have t -/
def lev (done : List Bool) (rate : List (Int × Int)) (t : Rat) (u : Nat) : Rat := if dB done u then xQ rate u else t
/-- who goes over a link -/
def usN (paths : List (List Int)) (l : Nat) : List Nat := (users paths l).map Int.toNat
def capQ (caps : List Int) (l : Nat) : Rat := ((caps.getD l 0 : Int) : Rat)

/-- a net whose links and paths are right; there may be more links than a net's -/
def Good (caps : List Int) (paths : List (List Int)) : Prop :=
  (∀ c ∈ caps, 1 ≤ c ∧ c ≤ 1000) ∧ (∀ p ∈ paths, p ≠ [] ∧ ∀ x ∈ p, 0 ≤ x ∧ x < caps.length) ∧ paths.length ≤ 6 ∧ 0 < paths.length

/-! ### who goes over a link -/
theorem usersFrom_iff (link : Int) : ∀ (l : List (List Int)) (i : Nat) (f : Nat), ((i + f : Nat) : Int) ∈ usersFrom link i l ↔ f < l.length ∧ inB (l.getD f []) link = true := by
  intro l
  induction l with
  | nil => intro i f; simp [usersFrom]
  | cons p r ih =>
    intro i f
    cases f with
    | zero =>
      have hno : ((i : Nat) : Int) ∉ usersFrom link (i + 1) r := fun h => by
        have := usersFrom_mem link r (i + 1) _ h
        omega
      simp only [usersFrom, Nat.add_zero]
      split
      · rename_i hp; simp [hp]
      · rename_i hp; simp [hno, hp]
    | succ f =>
      have e : i + (f + 1) = (i + 1) + f := by omega
      rw [e]
      simp only [usersFrom]
      have := ih (i + 1) f
      split
      · rw [List.mem_cons, this]
        have hne : ¬ (((i + 1 + f : Nat) : Int) = (i : Int)) := by omega
        simp only [hne, false_or]
        simp
      · rw [this]; simp
theorem usN_iff {paths : List (List Int)} {l f : Nat} : f ∈ usN paths l ↔ f < paths.length ∧ inB (paths.getD f []) (l : Int) = true := by
  have := usersFrom_iff (l : Int) paths 0 f
  rw [Nat.zero_add] at this
  unfold usN users
  rw [← this, List.mem_map]
  constructor
  · rintro ⟨a, ha, rfl⟩
    have h2 := usersFrom_mem (l : Int) paths 0 a ha
    have : ((a.toNat : Nat) : Int) = a := by omega
    rw [this]; exact ha
  · intro h
    exact ⟨_, h, by simp⟩
theorem usN_lt {paths : List (List Int)} {l f : Nat} (h : f ∈ usN paths l) : f < paths.length := (usN_iff.1 h).1

/-! ### a link's share -/
theorem lev_lin (done : List Bool) (rate : List (Int × Int)) (s t : Rat) : ∀ us : List Nat, sumQ (lev done rate s) us = sumQ (lev done rate t) us + (s - t) * ((us.countP fun u => !dB done u : Nat) : Rat) := by
  intro us
  induction us with
  | nil => simp [sumQ]; grind
  | cons u us ih =>
    simp only [sumQ, List.countP_cons]
    rw [ih]
    unfold lev
    cases dB done u with
    | true => simp; grind
    | false =>
      simp only [Bool.not_false, if_true, Bool.false_eq_true, if_false]
      rw [Rat.natCast_add]
      grind
theorem linkSum_spec (rate : List (Int × Int)) (done : List Bool) (D : Int) : ∀ (us : List Int) (s : Int × Int) (k : Nat), Over D s → (∀ u ∈ us, dB done u.toNat = true → Over D (rP rate u.toNat)) →
    Over D (linkSum rate done us s k).1 ∧ (linkSum rate done us s k).2 = k + (us.map Int.toNat).countP (fun u => !dB done u) ∧ sumQ (lev done rate 0) (us.map Int.toNat) = val s - val (linkSum rate done us s k).1 := by
  intro us
  induction us with
  | nil => intro s k hs _; refine ⟨hs, by simp [linkSum], ?_⟩; simp only [linkSum, sumQ, List.map_nil]; grind
  | cons u us ih =>
    intro s k hs h
    simp only [linkSum, List.map_cons, sumQ, List.countP_cons]
    by_cases hd : dB done u.toNat = true
    · have hr := h u (by simp) hd
      have hn : Over D (negP (rP rate u.toNat)) := over_neg hr
      obtain ⟨h1, h2, h3⟩ := ih (sumP s (negP (rP rate u.toNat))) k (over_sum hs hn) (fun v hv => h v (by simp [hv]))
      rw [if_pos hd]
      refine ⟨h1, ?_, ?_⟩
      · rw [h2, hd]; simp
      · rw [h3, val_sum hs.1 hn.1]
        have : val (negP (rP rate u.toNat)) = - xQ rate u.toNat := val_neg _
        rw [this]
        simp only [lev, hd, if_true]
        grind
    · obtain ⟨h1, h2, h3⟩ := ih s (k + 1) hs (fun v hv => h v (by simp [hv]))
      rw [if_neg hd]
      have hd' : dB done u.toNat = false := by simpa using hd
      refine ⟨h1, ?_, ?_⟩
      · rw [h2, hd']; simp; omega
      · rw [h3]
        simp only [lev, hd', Bool.false_eq_true, if_false]
        grind
theorem share_some {caps : List Int} {paths : List (List Int)} {rate : List (Int × Int)} {done : List Bool} {D : Int} {l : Nat} {s : Int × Int} (hr : ∀ f, f < paths.length → dB done f = true → Over D (rP rate f)) (h : shareOf caps paths rate done l = some s) :
    sumQ (lev done rate (val s)) (usN paths l) = capQ caps l ∧ (∃ u ∈ usN paths l, dB done u = false) ∧ ∃ k : Nat, 1 ≤ k ∧ k ≤ paths.length ∧ Over (D * k) s := by
  have hsp := linkSum_spec rate done D (users paths l) (caps.getD l 0, 1) 0 (over_whole D _) (fun u hu hd => hr _ (by have := users_mem hu; omega) hd)
  unfold shareOf at h
  have e0 : (users paths l).map Int.toNat = usN paths l := rfl
  rw [e0] at hsp
  revert h hsp
  generalize linkSum rate done (users paths l) (caps.getD l 0, 1) 0 = z
  intro h hsp
  obtain ⟨h1, h2, h3⟩ := hsp
  split at h
  · cases h
  · rename_i hk
    obtain rfl := Option.some.inj h
    have hk1 : 1 ≤ z.2 := by omega
    have hle : z.2 ≤ paths.length := by
      rw [h2, Nat.zero_add]
      refine Nat.le_trans List.countP_le_length ?_
      have := users_length (l : Int) 0 paths
      unfold usN users
      rw [List.length_map]
      exact this
    refine ⟨?_, ?_, z.2, hk1, hle, over_part h1 (by omega)⟩
    · have hp := val_part (t := z.1.1) (b := z.1.2) (k := (z.2 : Int)) h1.1 (by omega)
      have hz : val (z.1.1, z.1.2) = val z.1 := rfl
      rw [hz] at hp
      rw [lev_lin done rate _ 0, h3, val_whole]
      have hc : ((usN paths l).countP fun u => !dB done u) = z.2 := by rw [h2, Nat.zero_add]
      rw [hc]
      have : ((z.2 : Nat) : Rat) = (((z.2 : Nat) : Int) : Rat) := by rw [Rat.intCast_natCast]
      rw [this]
      unfold partP capQ
      grind
    · apply Classical.byContradiction
      intro hn
      have : (usN paths l).countP (fun u => !dB done u) = 0 := by
        rw [List.countP_eq_zero]
        intro u hu hd
        exact hn ⟨u, hu, by simpa using hd⟩
      omega
theorem share_none {caps : List Int} {paths : List (List Int)} {rate : List (Int × Int)} {done : List Bool} {D : Int} {l : Nat} (hr : ∀ f, f < paths.length → dB done f = true → Over D (rP rate f)) (h : shareOf caps paths rate done l = none) :
    ∀ u ∈ usN paths l, dB done u = true := by
  have hsp := linkSum_spec rate done D (users paths l) (caps.getD l 0, 1) 0 (over_whole D _) (fun u hu hd => hr _ (by have := users_mem hu; omega) hd)
  unfold shareOf at h
  split at h
  · rename_i hk
    intro u hu
    have : (usN paths l).countP (fun u => !dB done u) = 0 := by
      have := hsp.2.1
      rw [hk] at this
      unfold usN
      omega
    rw [List.countP_eq_zero] at this
    simpa using this u hu
  · cases h
theorem best_some {sh : Nat → Option (Int × Int)} (hp : ∀ l s, sh l = some s → 1 ≤ s.2) : ∀ (n : Nat) (b : Int × Int), bestOf sh n = some b → (∃ l, l < n ∧ sh l = some b) ∧ ∀ l s, l < n → sh l = some s → val b ≤ val s := by
  intro n
  induction n with
  | zero => intro b h; simp [bestOf] at h
  | succ n ih =>
    intro b h
    unfold bestOf at h
    cases hs : sh n with
    | none =>
      rw [hs] at h
      obtain ⟨⟨l, hl, hb⟩, hm⟩ := ih b h
      refine ⟨⟨l, by omega, hb⟩, fun l s hl hs' => ?_⟩
      by_cases e : l = n
      · rw [e, hs] at hs'; cases hs'
      · exact hm l s (by omega) hs'
    | some s =>
      rw [hs] at h
      cases hb : bestOf sh n with
      | none =>
        rw [hb] at h
        obtain rfl := Option.some.inj h
        refine ⟨⟨n, by omega, hs⟩, fun l t hl ht => ?_⟩
        by_cases e : l = n
        · rw [e, hs] at ht; cases ht; exact Rat.le_refl
        · exfalso
          have hno : ∀ m, bestOf sh m = none → ∀ l, l < m → sh l = none := by
            intro m
            induction m with
            | zero => intro _ l hl; omega
            | succ m ihm =>
              intro hm l hl
              unfold bestOf at hm
              cases hsm : sh m with
              | none =>
                rw [hsm] at hm
                by_cases e : l = m
                · rw [e]; exact hsm
                · exact ihm hm l (by omega)
              | some x =>
                rw [hsm] at hm
                cases hbm : bestOf sh m with
                | none => rw [hbm] at hm; cases hm
                | some y => rw [hbm] at hm; simp only at hm; split at hm <;> cases hm
          have := hno n hb l (by omega)
          rw [this] at ht; cases ht
      | some b0 =>
        rw [hb] at h
        obtain ⟨⟨l0, hl0, hb0⟩, hm⟩ := ih b0 hb
        have p1 := hp n s hs
        have p2 := hp l0 b0 hb0
        simp only at h
        split at h
        · rename_i hlt
          obtain rfl := Option.some.inj h
          have hv : val s < val b0 := (cross_lt p1 p2).2 hlt
          refine ⟨⟨n, by omega, hs⟩, fun l t hl ht => ?_⟩
          by_cases e : l = n
          · rw [e, hs] at ht; cases ht; exact Rat.le_refl
          · have := hm l t (by omega) ht
            grind
        · rename_i hlt
          obtain rfl := Option.some.inj h
          have hv : ¬ val s < val b0 := fun h => hlt ((cross_lt p1 p2).1 h)
          refine ⟨⟨l0, by omega, hb0⟩, fun l t hl ht => ?_⟩
          by_cases e : l = n
          · rw [e, hs] at ht; cases ht; grind
          · exact hm l t (by omega) ht
theorem best_none {sh : Nat → Option (Int × Int)} : ∀ m, bestOf sh m = none → ∀ l, l < m → sh l = none := by
  intro m
  induction m with
  | zero => intro _ l hl; omega
  | succ m ihm =>
    intro hm l hl
    unfold bestOf at hm
    cases hsm : sh m with
    | none =>
      rw [hsm] at hm
      by_cases e : l = m
      · rw [e]; exact hsm
      · exact ihm hm l (by omega)
    | some x =>
      rw [hsm] at hm
      cases hbm : bestOf sh m with
      | none => rw [hbm] at hm; cases hm
      | some y => rw [hbm] at hm; simp only at hm; split at hm <;> cases hm
end Go.Proofs.YtdldgefahgojaakDoor.Fl

/- All rise together: what holds behind each round, and in the end: it fits, and each has its narrow place. No Go in it. -/
namespace Go.Proofs.YtdldgefahgojaakDoor.Fl
open Fr Ns Ld
set_option linter.unusedSimpArgs false

theorem rP_setRate {rate : List (Int × Int)} {rd : List Int} {b : Int × Int} {f : Nat} (h : f < rate.length) : rP (setRate rate rd b) f = if (f : Int) ∈ rd then b else rP rate f := by
  unfold setRate
  have e : rP ((List.range rate.length).map fun f : Nat => if rd.contains (f : Int) then b else rP rate f) f = if rd.contains (f : Int) then b else rP rate f := by
    conv => lhs; unfold rP
    simp only [List.getD, List.getElem?_map, List.getElem?_range h]
    rfl
  rw [e]
  by_cases hm : (f : Int) ∈ rd
  · rw [if_pos hm, if_pos (by simpa using hm)]
  · rw [if_neg hm, if_neg (by simpa using hm)]
theorem dB_setDone {done : List Bool} {rd : List Int} {f : Nat} (h : f < done.length) : dB (setDone done rd) f = (decide ((f : Int) ∈ rd) || dB done f) := by
  unfold setDone
  have e : dB ((List.range done.length).map fun f : Nat => rd.contains (f : Int) || dB done f) f = (rd.contains (f : Int) || dB done f) := by
    conv => lhs; unfold dB
    simp only [List.getD, List.getElem?_map, List.getElem?_range h]
    rfl
  rw [e]
  congr 1
  by_cases hm : (f : Int) ∈ rd
  · simp [hm]
  · simp [hm]
theorem mem_round {paths : List (List Int)} {done : List Bool} {nar : Nat → Bool} {f : Nat} : (f : Int) ∈ roundOf paths done nar ↔ f < paths.length ∧ dB done f = false ∧ ∃ x ∈ paths.getD f [], nar x.toNat = true := by
  unfold roundOf
  rw [List.mem_map]
  constructor
  · rintro ⟨a, ha, e⟩
    have e' : a = f := by omega
    subst e'
    rw [List.mem_filter, List.mem_range] at ha
    simp only [Bool.and_eq_true, Bool.not_eq_true', List.any_eq_true] at ha
    exact ⟨ha.1, ha.2.1, ha.2.2⟩
  · rintro ⟨h1, h2, h3⟩
    refine ⟨f, ?_, rfl⟩
    rw [List.mem_filter, List.mem_range]
    simp only [Bool.and_eq_true, Bool.not_eq_true', List.any_eq_true]
    exact ⟨h1, h2, h3⟩
theorem round_nat {paths : List (List Int)} {done : List Bool} {nar : Nat → Bool} {u : Int} (h : u ∈ roundOf paths done nar) : ∃ f : Nat, u = f ∧ f < paths.length := by
  unfold roundOf at h
  rw [List.mem_map] at h
  obtain ⟨a, ha, rfl⟩ := h
  exact ⟨a, rfl, by rw [List.mem_filter, List.mem_range] at ha; exact ha.1⟩
theorem le_sumQ {x : Nat → Rat} {f : Nat} : ∀ {l : List Nat}, (∀ g ∈ l, 0 ≤ x g) → f ∈ l → x f ≤ sumQ x l := by
  intro l
  induction l with
  | nil => intro _ h; simp at h
  | cons u us ih =>
    intro h hf
    have h1 := h u (by simp)
    have h0 : (0 : Rat) ≤ sumQ x us := by
      have := sumQ_le (x := fun _ => 0) (y := x) (l := us) (fun g hg => h g (by simp [hg]))
      have e : ∀ l : List Nat, sumQ (fun _ => 0) l = 0 := by
        intro l
        induction l with
        | nil => rfl
        | cons a r ih => simp only [sumQ, ih]; grind
      rw [e] at this
      exact this
    simp only [sumQ]
    rcases List.mem_cons.1 hf with rfl | hf
    · grind
    · have := ih (fun g hg => h g (by simp [hg])) hf
      grind

/-- what holds behind each round: b is the last rate, D what the bottoms divide -/
structure Inv (caps : List Int) (paths : List (List Int)) (rate : List (Int × Int)) (done : List Bool) (b : Rat) (D : Int) : Prop where
  lr : rate.length = paths.length
  ld : done.length = paths.length
  hD : 1 ≤ D
  hb : 0 ≤ b
  over : ∀ f, f < paths.length → dB done f = true → Over D (rP rate f) ∧ 0 < xQ rate f ∧ xQ rate f ≤ b
  room : ∀ l, l < caps.length → sumQ (lev done rate b) (usN paths l) ≤ capQ caps l
  strict : ∀ l, l < caps.length → (∃ u ∈ usN paths l, dB done u = false) → sumQ (lev done rate b) (usN paths l) < capQ caps l
  neck : ∀ f, f < paths.length → dB done f = true → ∃ l, l < caps.length ∧ f ∈ usN paths l ∧ (∀ g ∈ usN paths l, dB done g = true) ∧ sumQ (xQ rate) (usN paths l) = capQ caps l ∧ ∀ g ∈ usN paths l, xQ rate g ≤ xQ rate f

theorem capQ_bd {caps : List Int} {l : Nat} (hc : ∀ c ∈ caps, 1 ≤ c ∧ c ≤ 1000) (hl : l < caps.length) : 1 ≤ capQ caps l ∧ capQ caps l ≤ 1000 := by
  have := hc _ (getD_mem caps l hl 0)
  unfold capQ
  constructor
  · have h : ((1 : Int) : Rat) ≤ ((caps.getD l 0 : Int) : Rat) := Rat.intCast_le_intCast.2 this.1
    simpa using h
  · have h : ((caps.getD l 0 : Int) : Rat) ≤ ((1000 : Int) : Rat) := Rat.intCast_le_intCast.2 this.2
    exact h
theorem getD_replicate {α : Type} (n : Nat) (a d : α) (f : Nat) (h : f < n) : (List.replicate n a).getD f d = a := by
  simp [List.getD, List.getElem?_replicate, h]
theorem inv_start {caps : List Int} {paths : List (List Int)} (hg : Good caps paths) : Inv caps paths (List.replicate paths.length (0, 0)) (List.replicate paths.length false) 0 1 := by
  have hd : ∀ f, dB (List.replicate paths.length false) f = false := fun f => by
    unfold dB
    simp only [List.getD, List.getElem?_replicate]
    split <;> rfl
  have h0 : ∀ l, sumQ (lev (List.replicate paths.length false) (List.replicate paths.length (0, 0)) 0) l = 0 := by
    intro l
    induction l with
    | nil => rfl
    | cons u us ih => simp only [sumQ, ih, lev, hd, Bool.false_eq_true, if_false]; grind
  refine ⟨by simp, by simp, by decide, Rat.le_refl, fun f _ h => ?_, fun l hl => ?_, fun l hl _ => ?_, fun f _ h => ?_⟩
  · rw [hd] at h; cases h
  · rw [h0]; have := capQ_bd hg.1 hl; grind
  · rw [h0]; have := capQ_bd hg.1 hl; grind
  · rw [hd] at h; cases h

theorem toNat_lt {caps : List Int} {paths : List (List Int)} (hg : Good caps paths) {f : Nat} (hf : f < paths.length) {x : Int} (hx : x ∈ paths.getD f []) : x.toNat < caps.length ∧ f ∈ usN paths x.toNat := by
  have hp := hg.2.1 _ (getD_mem paths f hf [])
  have hb := hp.2 x hx
  refine ⟨by omega, usN_iff.2 ⟨hf, ?_⟩⟩
  have e : ((x.toNat : Nat) : Int) = x := by omega
  rw [e]
  exact inB_of_mem hx

/-- one round -/
theorem inv_step {caps : List Int} {paths : List (List Int)} {rate : List (Int × Int)} {done : List Bool} {b : Rat} {D : Int} (hg : Good caps paths) (hi : Inv caps paths rate done b D) (hf : ∃ f, f < paths.length ∧ dB done f = false) :
    ∃ bst, bestOf (shareOf caps paths rate done) caps.length = some bst ∧ b < val bst ∧ roundOf paths done (narOf (shareOf caps paths rate done) caps.length) ≠ [] ∧
      ∃ k : Nat, 1 ≤ k ∧ k ≤ 6 ∧ Inv caps paths (setRate rate (roundOf paths done (narOf (shareOf caps paths rate done) caps.length)) bst) (setDone done (roundOf paths done (narOf (shareOf caps paths rate done) caps.length))) (val bst) (D * k) := by
  obtain ⟨f0, hf0, hd0⟩ := hf
  have hr : ∀ f, f < paths.length → dB done f = true → Over D (rP rate f) := fun f h1 h2 => (hi.over f h1 h2).1
  have hp2 : ∀ l s, shareOf caps paths rate done l = some s → 1 ≤ s.2 := fun l s h => by
    obtain ⟨_, _, k, _, _, ho⟩ := share_some hr h
    exact ho.1
  generalize hsh : shareOf caps paths rate done = sh at *
  have hS : ∀ l s, sh l = some s → sumQ (lev done rate (val s)) (usN paths l) = capQ caps l ∧ (∃ u ∈ usN paths l, dB done u = false) ∧ ∃ k : Nat, 1 ≤ k ∧ k ≤ paths.length ∧ Over (D * k) s := fun l s h => share_some hr (by rw [hsh]; exact h)
  have hN : ∀ l, sh l = none → ∀ u ∈ usN paths l, dB done u = true := fun l h => share_none hr (by rw [hsh]; exact h)
  cases hbest : bestOf sh caps.length with
  | none =>
    exfalso
    have hp := hg.2.1 _ (getD_mem paths f0 hf0 [])
    obtain ⟨x, hx⟩ := List.exists_mem_of_ne_nil _ hp.1
    obtain ⟨h1, h2⟩ := toNat_lt hg hf0 hx
    have := hN _ (best_none _ hbest _ h1) _ h2
    rw [hd0] at this; cases this
  | some bst =>
    obtain ⟨⟨lb, hlb, hsb⟩, hmin⟩ := best_some hp2 _ _ hbest
    obtain ⟨s1, ⟨ub, hub, hdb⟩, k, hk1, hk2, hov⟩ := hS lb bst hsb
    have hnar : ∀ l, narOf sh caps.length l = true ↔ l < caps.length ∧ sh l = some bst := by
      intro l
      unfold narOf
      rw [hbest]
      simp only [Bool.and_eq_true, decide_eq_true_eq]
      constructor
      · rintro ⟨⟨h1, _⟩, h3⟩; exact ⟨h1, h3⟩
      · rintro ⟨h1, h3⟩; exact ⟨⟨h1, by rw [h3]; rfl⟩, h3⟩
    have hbv : b < val bst := by
      have hst := hi.strict lb hlb ⟨ub, hub, hdb⟩
      rw [← s1] at hst
      apply Classical.byContradiction
      intro hn
      have hle : val bst ≤ b := by grind
      have := sumQ_le (x := lev done rate (val bst)) (y := lev done rate b) (l := usN paths lb) (fun g _ => by
        unfold lev
        split
        · exact Rat.le_refl
        · exact hle)
      grind
    generalize hrd : roundOf paths done (narOf sh caps.length) = rd
    have hmem : ∀ f : Nat, (f : Int) ∈ rd ↔ f < paths.length ∧ dB done f = false ∧ ∃ x ∈ paths.getD f [], x.toNat < caps.length ∧ sh x.toNat = some bst := by
      intro f
      rw [← hrd, mem_round]
      simp only [hnar]
    have hmem' : ∀ (f l : Nat), l < caps.length → f ∈ usN paths l → dB done f = false → sh l = some bst → (f : Int) ∈ rd := by
      intro f l hl hf hd hs
      obtain ⟨h1, h2⟩ := usN_iff.1 hf
      refine (hmem f).2 ⟨h1, hd, (l : Int), ?_, by simpa using hl, by simpa using hs⟩
      simpa [inB] using h2
    have hrP : ∀ f, f < paths.length → rP (setRate rate rd bst) f = if (f : Int) ∈ rd then bst else rP rate f := fun f h => rP_setRate (by rw [hi.lr]; exact h)
    have hdB : ∀ f, f < paths.length → dB (setDone done rd) f = (decide ((f : Int) ∈ rd) || dB done f) := fun f h => dB_setDone (by rw [hi.ld]; exact h)
    have hx1 : ∀ f, f < paths.length → (f : Int) ∈ rd → xQ (setRate rate rd bst) f = val bst := fun f h h' => by unfold xQ; rw [hrP f h, if_pos h']
    have hx2 : ∀ f, f < paths.length → (f : Int) ∉ rd → xQ (setRate rate rd bst) f = xQ rate f := fun f h h' => by unfold xQ; rw [hrP f h, if_neg h']
    have hno : ∀ f : Nat, dB done f = true → (f : Int) ∉ rd := fun f h h' => by have := ((hmem f).1 h').2.1; rw [h] at this; cases this
    have hlev : ∀ f, f < paths.length → lev (setDone done rd) (setRate rate rd bst) (val bst) f = lev done rate (val bst) f := by
      intro f h
      unfold lev
      rw [hdB f h]
      by_cases h1 : (f : Int) ∈ rd
      · have h2 := ((hmem f).1 h1).2.1
        rw [h2]
        simp only [h1, decide_true, Bool.true_or, if_true, Bool.false_eq_true, if_false]
        exact hx1 f h h1
      · simp only [h1, decide_false, Bool.false_or]
        cases hd : dB done f with
        | true => simp only [if_true]; exact hx2 f h h1
        | false => simp only [Bool.false_eq_true, if_false]
    have hlevS : ∀ l, sumQ (lev (setDone done rd) (setRate rate rd bst) (val bst)) (usN paths l) = sumQ (lev done rate (val bst)) (usN paths l) := fun l => sumQ_congr fun g hg => hlev g (usN_lt hg)
    refine ⟨bst, rfl, hbv, ?_, k, hk1, Nat.le_trans hk2 hg.2.2.1, ?_⟩
    · intro he
      have := hmem' ub lb hlb hub hdb hsb
      rw [he] at this
      cases this
    · refine ⟨by simp [setRate, hi.lr], by simp [setDone, hi.ld], ?_, ?_, ?_, ?_, ?_, ?_⟩
      · have := Int.mul_le_mul hi.hD (show (1 : Int) ≤ (k : Int) by omega) (by decide) (by have := hi.hD; omega)
        omega
      · have := hi.hb; grind
      · intro f hf hd
        rw [hdB f hf] at hd
        by_cases h1 : (f : Int) ∈ rd
        · rw [hrP f hf, if_pos h1, hx1 f hf h1]
          refine ⟨hov, ?_, Rat.le_refl⟩
          have := hi.hb; grind
        · simp only [h1, decide_false, Bool.false_or] at hd
          obtain ⟨o1, o2, o3⟩ := hi.over f hf hd
          rw [hrP f hf, if_neg h1, hx2 f hf h1]
          exact ⟨o1.mono ⟨k, rfl⟩, o2, by grind⟩
      · intro l hl
        rw [hlevS]
        cases hs : sh l with
        | none =>
          have hall := hN l hs
          have e : sumQ (lev done rate (val bst)) (usN paths l) = sumQ (lev done rate b) (usN paths l) := sumQ_congr fun g hg => by unfold lev; rw [hall g hg]; rfl
          rw [e]; exact hi.room l hl
        | some s =>
          have h1 := hmin l s hl hs
          have h2 := (hS l s hs).1
          rw [← h2]
          exact sumQ_le fun g _ => by
            unfold lev
            split
            · exact Rat.le_refl
            · exact h1
      · rintro l hl ⟨u, hu, hd⟩
        have hun := usN_lt hu
        rw [hdB u hun] at hd
        simp only [Bool.or_eq_false_iff, decide_eq_false_iff_not] at hd
        obtain ⟨hd1, hd2⟩ := hd
        rw [hlevS]
        cases hs : sh l with
        | none => have := hN l hs u hu; rw [hd2] at this; cases this
        | some s =>
          obtain ⟨h2, _, k', hk', _, hov'⟩ := hS l s hs
          have h1 := hmin l s hl hs
          have hne : val bst ≠ val s := by
            intro e
            have : bst = s := val_inj hov.1 hov'.1 hov.2.1 hov'.2.1 e
            subst this
            exact hd1 (hmem' u l hl hu hd2 hs)
          have hlt : val bst < val s := Rat.lt_of_le_of_ne h1 hne
          rw [← h2]
          refine sumQ_lt (f := u) (fun g _ => ?_) hu ?_
          · unfold lev
            split
            · exact Rat.le_refl
            · exact h1
          · unfold lev
            rw [hd2]
            simp only [Bool.false_eq_true, if_false]
            exact hlt
      · intro f hf hd
        rw [hdB f hf] at hd
        by_cases h1 : (f : Int) ∈ rd
        · obtain ⟨_, hdf, x, hx, hxl, hxs⟩ := (hmem f).1 h1
          obtain ⟨_, hfu⟩ := toNat_lt hg hf hx
          have hall : ∀ g ∈ usN paths x.toNat, dB done g = true ∨ (g : Int) ∈ rd := fun g hgu => by
            cases hd : dB done g with
            | true => exact .inl rfl
            | false => exact .inr (hmem' g _ hxl hgu hd hxs)
          refine ⟨x.toNat, hxl, hfu, fun g hgu => ?_, ?_, fun g hgu => ?_⟩
          · rw [hdB g (usN_lt hgu)]
            rcases hall g hgu with h | h
            · rw [h]; simp
            · simp [h]
          · rw [← (hS _ _ hxs).1]
            refine sumQ_congr fun g hgu => ?_
            rcases hall g hgu with h | h
            · rw [hx2 g (usN_lt hgu) (hno g h)]; unfold lev; rw [h]; rfl
            · rw [hx1 g (usN_lt hgu) h]
              unfold lev
              rw [((hmem g).1 h).2.1]; rfl
          · rw [hx1 f hf h1]
            rcases hall g hgu with h | h
            · rw [hx2 g (usN_lt hgu) (hno g h)]
              have := (hi.over g (usN_lt hgu) h).2.2
              grind
            · rw [hx1 g (usN_lt hgu) h]; exact Rat.le_refl
        · simp only [h1, decide_false, Bool.false_or] at hd
          obtain ⟨l, hl, hfl, hall, hsum, hm⟩ := hi.neck f hf hd
          refine ⟨l, hl, hfl, fun g hgu => ?_, ?_, fun g hgu => ?_⟩
          · rw [hdB g (usN_lt hgu), hall g hgu]; simp
          · rw [← hsum]
            exact sumQ_congr fun g hgu => hx2 g (usN_lt hgu) (hno g (hall g hgu))
          · rw [hx2 f hf h1, hx2 g (usN_lt hgu) (hno g (hall g hgu))]
            exact hm g hgu
end Go.Proofs.YtdldgefahgojaakDoor.Fl

/- All rise together: in the end it fits, each has its narrow place, each is in one round, later ones have more. No Go in it. -/
namespace Go.Proofs.YtdldgefahgojaakDoor.Fl
open Fr Ns Ld
set_option linter.unusedSimpArgs false

/-- rates that fit, of which each flow has a narrow place; they are right, and above 0 -/
structure Fair (caps : List Int) (paths : List (List Int)) (x : List (Int × Int)) : Prop where
  len : x.length = paths.length
  right : ∀ f, f < paths.length → faultP (rP x f) = 0 ∧ 0 < xQ x f ∧ xQ x f ≤ 1000
  bottom : ∃ D : Int, 1 ≤ D ∧ D ≤ 46656 ∧ ∀ f, f < paths.length → Over D (rP x f)
  fits : FitsQ (usN paths) (capQ caps) caps.length paths.length (xQ x)
  neck : ∀ f, f < paths.length → NeckQ (usN paths) (capQ caps) caps.length (xQ x) f
/-- rounds at rates that rise -/
def Rises (x : Nat → Rat) : Rat → List (List Int) → Prop
  | _, [] => True
  | b, rd :: rest => rd ≠ [] ∧ ∃ v, b < v ∧ (∀ u ∈ rd, x u.toNat = v) ∧ Rises x v rest
def freeN (paths : List (List Int)) (done : List Bool) : Nat := (List.range paths.length).countP fun f => !dB done f

theorem six {a b : Nat} (h : a ≤ b) : (6 : Int) ^ a ≤ 6 ^ b := by
  have h1 : (6 : Nat) ^ a ≤ 6 ^ b := Nat.pow_le_pow_right (by decide) h
  have h2 : (((6 : Nat) ^ a : Nat) : Int) ≤ (((6 : Nat) ^ b : Nat) : Int) := Int.ofNat_le.2 h1
  simpa using h2
theorem inv_end {caps : List Int} {paths : List (List Int)} {rate : List (Int × Int)} {done : List Bool} {b : Rat} {D : Int} (hg : Good caps paths) (hi : Inv caps paths rate done b D) (hD : D ≤ 46656) (ha : ∀ f, f < paths.length → dB done f = true) : Fair caps paths rate := by
  have hle : ∀ f, f < paths.length → 0 < xQ rate f ∧ xQ rate f ≤ 1000 := by
    intro f hf
    have h1 := (hi.over f hf (ha f hf)).2.1
    obtain ⟨l, hl, hfl, _, hs, _⟩ := hi.neck f hf (ha f hf)
    have h2 := le_sumQ (x := xQ rate) (fun g hgl => by have := (hi.over g (usN_lt hgl) (ha g (usN_lt hgl))).2.1; grind) hfl
    have h3 := (capQ_bd hg.1 hl).2
    exact ⟨h1, by grind⟩
  refine ⟨hi.lr, fun f hf => ⟨?_, hle f hf⟩, ⟨D, hi.hD, hD, fun f hf => (hi.over f hf (ha f hf)).1⟩, ⟨fun f hf => Rat.le_of_lt (hle f hf).1, fun l hl => ?_⟩, fun f hf => ?_⟩
  · exact over_fault (hi.over f hf (ha f hf)).1 hi.hD (by omega) (Rat.le_of_lt (hle f hf).1) (hle f hf).2
  · rw [← sumQ_congr (x := lev done rate b) (y := xQ rate) (fun g hgl => by unfold lev; rw [ha g (usN_lt hgl)]; rfl)]
    exact hi.room l hl
  · obtain ⟨l, hl, hfl, _, hs, hm⟩ := hi.neck f hf (ha f hf)
    exact ⟨l, hl, hfl, hs, hm⟩

theorem all_done {done : List Bool} {n : Nat} (hl : done.length = n) : (done.all id = true) ↔ ∀ f, f < n → dB done f = true := by
  rw [List.all_eq_true]
  constructor
  · intro h f hf
    exact h _ (getD_mem done f (by omega) false)
  · intro h a ha
    obtain ⟨i, hi, rfl⟩ := List.mem_iff_getElem.1 ha
    have := h i (by omega)
    simpa [dB, List.getD, List.getElem?_eq_getElem hi] using this

theorem nodup_round {paths : List (List Int)} {done : List Bool} {nar : Nat → Bool} : (roundOf paths done nar).Nodup := by
  unfold roundOf
  have h1 : ((List.range paths.length).filter fun f => !dB done f && (paths.getD f []).any fun x => nar x.toNat).Nodup := List.Nodup.sublist List.filter_sublist List.nodup_range
  exact List.Pairwise.map (R := (· ≠ ·)) (S := (· ≠ ·)) _ (fun a b h e => h (by omega)) h1

theorem fill_spec {caps : List Int} {paths : List (List Int)} (hg : Good caps paths) : ∀ (fuel : Nat) (rate : List (Int × Int)) (done : List Bool) (b : Rat) (D : Int), Inv caps paths rate done b D → freeN paths done ≤ fuel → D * 6 ^ freeN paths done ≤ 46656 →
    Fair caps paths (fillFrom caps paths fuel rate done).1 ∧ (∀ f, f < paths.length → dB done f = true → rP (fillFrom caps paths fuel rate done).1 f = rP rate f) ∧
    Rises (xQ (fillFrom caps paths fuel rate done).1) b (fillFrom caps paths fuel rate done).2 ∧ (fillFrom caps paths fuel rate done).2.flatten.Nodup ∧
    (∀ u : Int, u ∈ (fillFrom caps paths fuel rate done).2.flatten ↔ ∃ f : Nat, u = f ∧ f < paths.length ∧ dB done f = false) := by
  intro fuel
  induction fuel with
  | zero =>
    intro rate done b D hi hf hD
    have h0 : freeN paths done = 0 := by omega
    have ha : ∀ f, f < paths.length → dB done f = true := by
      intro f hf
      unfold freeN at h0
      rw [List.countP_eq_zero] at h0
      simpa using h0 f (List.mem_range.2 hf)
    rw [h0] at hD
    simp only [fillFrom]
    refine ⟨inv_end hg hi (by omega) ha, fun _ _ _ => by first | rfl | trivial, trivial, by simp, fun u => ?_⟩
    simp only [List.flatten_nil, List.not_mem_nil, false_iff]
    rintro ⟨f, _, hf, hd⟩
    rw [ha f hf] at hd; cases hd
  | succ k ih =>
    intro rate done b D hi hf hD
    by_cases hall : done.all id = true
    · have ha := (all_done hi.ld).1 hall
      have h0 : freeN paths done = 0 := by
        unfold freeN
        rw [List.countP_eq_zero]
        intro f hf
        rw [ha f (List.mem_range.1 hf)]; decide
      rw [h0] at hD
      simp only [fillFrom]
      rw [if_pos hall]
      refine ⟨inv_end hg hi (by omega) ha, fun _ _ _ => by first | rfl | trivial, trivial, by simp, fun u => ?_⟩
      simp only [List.flatten_nil, List.not_mem_nil, false_iff]
      rintro ⟨f, _, hf, hd⟩
      rw [ha f hf] at hd; cases hd
    · have hex : ∃ f, f < paths.length ∧ dB done f = false := by
        apply Classical.byContradiction
        intro hn
        exact hall ((all_done hi.ld).2 fun f hf => by
          cases hd : dB done f with
          | true => rfl
          | false => exact absurd ⟨f, hf, hd⟩ hn)
      obtain ⟨bst, hbest, hbv, hne, kk, hk1, hk6, hi'⟩ := inv_step hg hi hex
      have hround : ∀ f : Nat, (f : Int) ∈ roundOf paths done (narOf (shareOf caps paths rate done) caps.length) → f < paths.length ∧ dB done f = false := fun f h => ⟨(mem_round.1 h).1, (mem_round.1 h).2.1⟩
      have hnat : ∀ u ∈ roundOf paths done (narOf (shareOf caps paths rate done) caps.length), ∃ f : Nat, u = f ∧ f < paths.length := fun u h => round_nat h
      have hnd : (roundOf paths done (narOf (shareOf caps paths rate done) caps.length)).Nodup := nodup_round
      simp only [fillFrom]
      rw [if_neg hall, hbest]
      simp only
      generalize roundOf paths done (narOf (shareOf caps paths rate done) caps.length) = rd at *
      have hdB : ∀ f, f < paths.length → dB (setDone done rd) f = (decide ((f : Int) ∈ rd) || dB done f) := fun f h => dB_setDone (by rw [hi.ld]; exact h)
      obtain ⟨u0, hu0⟩ := List.exists_mem_of_ne_nil _ hne
      obtain ⟨f1, rfl, hf1⟩ := hnat u0 hu0
      have hlt : freeN paths (setDone done rd) < freeN paths done := by
        refine countP_lt (f := f1) (fun g hg' hp => ?_) (List.mem_range.2 hf1) ?_ ?_
        · rw [hdB g (List.mem_range.1 hg')] at hp
          simp only [Bool.not_or, Bool.and_eq_true] at hp
          exact hp.2
        · rw [hdB f1 hf1]; simp [hu0]
        · rw [(hround f1 hu0).2]; rfl
      have hpow : D * (kk : Int) * 6 ^ freeN paths (setDone done rd) ≤ 46656 := by
        have e1 : (6 : Int) ^ (freeN paths (setDone done rd) + 1) ≤ 6 ^ freeN paths done := by
          exact six (by omega)
        have p0 : (0 : Int) ≤ 6 ^ freeN paths (setDone done rd) := Int.le_of_lt (Int.pow_pos (by decide))
        have e2 : (kk : Int) * 6 ^ freeN paths (setDone done rd) ≤ 6 ^ freeN paths done := by
          have h6 : (kk : Int) * 6 ^ freeN paths (setDone done rd) ≤ 6 * 6 ^ freeN paths (setDone done rd) := Int.mul_le_mul_of_nonneg_right (by omega) p0
          rw [Int.pow_succ] at e1
          omega
        have e3 : D * ((kk : Int) * 6 ^ freeN paths (setDone done rd)) ≤ D * 6 ^ freeN paths done := Int.mul_le_mul_of_nonneg_left e2 (by have := hi.hD; omega)
        rw [Int.mul_assoc]
        omega
      obtain ⟨i1, i2, i3, i4, i5⟩ := ih _ _ _ _ hi' (by omega) hpow
      generalize fillFrom caps paths k (setRate rate rd bst) (setDone done rd) = z at *
      refine ⟨i1, fun f hf hd => ?_, ⟨hne, val bst, hbv, fun u hu => ?_, i3⟩, ?_, fun u => ?_⟩
      · rw [i2 f hf (by rw [hdB f hf, hd]; simp), rP_setRate (by rw [hi.lr]; exact hf), if_neg]
        intro h
        have := (hround f h).2
        rw [hd] at this; cases this
      · obtain ⟨f, rfl, hf⟩ := hnat u hu
        have e : ((f : Int)).toNat = f := by omega
        rw [e]
        unfold xQ
        rw [i2 f hf (by rw [hdB f hf]; simp [hu]), rP_setRate (by rw [hi.lr]; exact hf), if_pos hu]
      · rw [List.flatten_cons, List.nodup_append]
        refine ⟨hnd, i4, fun a ha c hc e => ?_⟩
        subst e
        obtain ⟨f, rfl, hf, hd⟩ := (i5 a).1 hc
        rw [hdB f hf] at hd
        simp [ha] at hd
      · rw [List.flatten_cons, List.mem_append, i5 u]
        constructor
        · rintro (h | ⟨f, rfl, hf, hd⟩)
          · obtain ⟨f, rfl, hf⟩ := hnat u h
            exact ⟨f, rfl, hf, (hround f h).2⟩
          · rw [hdB f hf] at hd
            simp only [Bool.or_eq_false_iff] at hd
            exact ⟨f, rfl, hf, hd.2⟩
        · rintro ⟨f, rfl, hf, hd⟩
          by_cases h : (f : Int) ∈ rd
          · exact .inl h
          · exact .inr ⟨f, rfl, hf, by rw [hdB f hf]; simp [h, hd]⟩

/-- rates that rise together are fair, and their rounds are as the document says -/
theorem fill_fair {caps : List Int} {paths : List (List Int)} (hg : Good caps paths) :
    Fair caps paths (fill caps paths).1 ∧ Rises (xQ (fill caps paths).1) 0 (fill caps paths).2 ∧ (fill caps paths).2.flatten.Nodup ∧ (∀ u : Int, u ∈ (fill caps paths).2.flatten ↔ ∃ f : Nat, u = f ∧ f < paths.length) := by
  have hd : ∀ f, dB (List.replicate paths.length false) f = false := fun f => by
    unfold dB
    simp only [List.getD, List.getElem?_replicate]
    split <;> rfl
  have hfn : freeN paths (List.replicate paths.length false) ≤ paths.length := by
    unfold freeN
    exact Nat.le_trans List.countP_le_length (by simp)
  have hpow : (1 : Int) * 6 ^ freeN paths (List.replicate paths.length false) ≤ 46656 := by
    rw [Int.one_mul]
    have h1 : (6 : Int) ^ freeN paths (List.replicate paths.length false) ≤ 6 ^ 6 := six (Nat.le_trans hfn hg.2.2.1)
    have h2 : (6 : Int) ^ 6 = 46656 := by decide
    omega
  obtain ⟨h1, _, h3, h4, h5⟩ := fill_spec hg paths.length _ _ 0 1 (inv_start hg) hfn hpow
  refine ⟨h1, h3, h4, fun u => ?_⟩
  rw [show (fill caps paths).2 = (fillFrom caps paths paths.length (List.replicate paths.length (0, 0)) (List.replicate paths.length false)).2 from rfl, h5 u]
  constructor
  · rintro ⟨f, e, hf, _⟩; exact ⟨f, e, hf⟩
  · rintro ⟨f, e, hf⟩; exact ⟨f, e, hf, hd f⟩
end Go.Proofs.YtdldgefahgojaakDoor.Fl

/- What is asked of a log's Rates, as the document says it. -/
namespace Go.Proofs.YtdldgefahgojaakDoor
namespace Ev
open Go.RowKit Fr Ns Ld Fl
def ratesLE (f : Flows) : Int := if f.length = 0 then 5 else 0
def LRatesSaid (X : LogFace) : Prop := ∀ (p : Value) (F : Nat → Prop) (s : LogS) (w : World), X.Inv w p F s → FewL s →
  Calls Tryd.prog 8 #[p] w fun e w' => ∃ y, e = .returned (.tuple #[y, errV (ratesLE s.flows)]) ∧
    FracsAt (fun b => w.heap.size ≤ b) w' y (okL (ratesLE s.flows) (fill s.caps s.flows).1) ∧ Below w.heap.size w w'
end Ev
end Go.Proofs.YtdldgefahgojaakDoor

/- The calls on a log beside the law's own lists. -/
namespace Go.Proofs.YtdldgefahgojaakDoor
namespace Ev
open Go.RowKit Fr Ns Fl Ld
set_option linter.unusedSimpArgs false
set_option linter.unusedVariables false

section
variable {X : LogFace} {w : World} {a : Addr} {cv : Value} {m : Nat} {s : LogS} {dv mv : Value} {dn : List Flows} {mk : List Nat} {ex : List (Nat × Value × Flows)} {u : World}

theorem k_sync (hS : LSyncSaid X) (h : KeepsE X w a cv m s dv mv dn mk ex u) (hm : m ≤ 1000) :
    Calls Tryd.prog 11 #[.pointer (some a)] u fun e w' => e = .returned (errV (syncE s)) ∧ KeepsE X w a cv m (syncS s) dv mv dn mk ex w' := by
  obtain ⟨F, h⟩ := h
  refine (hS _ F s u h.inv ⟨h.ok, Nat.le_trans h.few hm⟩).mono ?_
  rintro e w' ⟨he, F', hi, hF, hb⟩
  exact ⟨he, F', h.turn hi (syncS_ok h.ok) (by rw [syncS_marks]; exact h.few) hF hb⟩
theorem k_crash (hC : LCrashSaid X) (keep : Int) (h : KeepsE X w a cv m s dv mv dn mk ex u) (hm : m ≤ 1000) :
    Calls Tryd.prog 12 #[.pointer (some a), .int .i64 keep] u fun e w' => e = .returned (.tuple #[]) ∧ KeepsE X w a cv m (crashS s keep) dv mv dn mk ex w' := by
  obtain ⟨F, h⟩ := h
  refine (hC _ F s keep u h.inv ⟨h.ok, Nat.le_trans h.few hm⟩).mono ?_
  rintro e w' ⟨he, F', hi, hF, hb⟩
  exact ⟨he, F', h.turn hi (crashS_ok h.ok) (Nat.le_trans (crashS_marks s keep) h.few) hF hb⟩
theorem k_fail (hFa : LFailSaid X) (n : Int) (h : KeepsE X w a cv m s dv mv dn mk ex u) (hm : m ≤ 1000) (hs : s.stopped = false) (hn : n ≤ 9223372036854775807) :
    Calls Tryd.prog 16 #[.pointer (some a), .int .i64 n] u fun e w' => e = .returned (.tuple #[]) ∧ KeepsE X w a cv m (failS s n) dv mv dn mk ex w' := by
  obtain ⟨F, h⟩ := h
  refine (hFa _ F s n u h.inv ⟨h.ok, Nat.le_trans h.few hm⟩ hs hn).mono ?_
  rintro e w' ⟨he, F', hi, hF, hb⟩
  exact ⟨he, F', h.turn hi (failS_ok h.ok) h.few hF hb⟩
theorem k_add (hA : LAddSaid X) {path : List Int} {v : Value} (h : KeepsE X w a cv m s dv mv dn mk ex u) (hm : m + 1 ≤ 1000) (hv : IntsAt (fun b => b < w.heap.size) w v path) :
    Calls Tryd.prog 6 #[.pointer (some a), v] u fun e w' => ∃ n, 2 ≤ n ∧ n ≤ 1000 ∧ e = .returned (errV (addLE s path)) ∧ KeepsE X w a cv (m + 1) (addLS s path n) dv mv dn mk ex w' := by
  obtain ⟨F, h⟩ := h
  have hb := h.below
  refine (hA (fun b => b < w.heap.size) _ F s path v u h.inv ⟨h.ok, by have := h.few; omega⟩ (hv.later hb) (fun b h1 h2 => by have := h.above b h2; omega)).mono ?_
  rintro e w' ⟨n, he, n2, n3, F', hi, hF, hb⟩
  exact ⟨n, n2, n3, he, F', h.turn hi (addLS_ok h.ok n2 n3) (by have := addLS_marks s path n; have := h.few; omega) hF hb⟩
theorem k_drop (hD : LDropSaid X) (i : Int) (h : KeepsE X w a cv m s dv mv dn mk ex u) (hm : m + 1 ≤ 1000) :
    Calls Tryd.prog 18 #[.pointer (some a), .int .i64 i] u fun e w' => ∃ n, 2 ≤ n ∧ n ≤ 1000 ∧ e = .returned (errV (dropLE s i)) ∧ KeepsE X w a cv (m + 1) (dropLS s i n) dv mv dn mk ex w' := by
  obtain ⟨F, h⟩ := h
  refine (hD _ F s i u h.inv ⟨h.ok, by have := h.few; omega⟩).mono ?_
  rintro e w' ⟨n, he, n2, n3, F', hi, hF, hb⟩
  exact ⟨n, n2, n3, he, F', h.turn hi (dropLS_ok h.ok n2 n3) (by have := dropLS_marks s i n; have := h.few; omega) hF hb⟩
theorem k_bytes (hB : LBytesSaid X) (h : KeepsE X w a cv m s dv mv dn mk ex u) (hm : m ≤ 1000) :
    Calls Tryd.prog 9 #[.pointer (some a)] u fun e w' => e = .returned (.int .i64 s.bytes) ∧ ∃ n, w' = u.drewN n := by
  obtain ⟨F, h⟩ := h
  exact hB _ F s u h.inv ⟨h.ok, Nat.le_trans h.few hm⟩
theorem k_safe (hB : LSafeSaid X) (h : KeepsE X w a cv m s dv mv dn mk ex u) (hm : m ≤ 1000) :
    Calls Tryd.prog 14 #[.pointer (some a)] u fun e w' => e = .returned (.int .i64 s.safe) ∧ ∃ n, w' = u.drewN n := by
  obtain ⟨F, h⟩ := h
  exact hB _ F s u h.inv ⟨h.ok, Nat.le_trans h.few hm⟩
theorem k_paths (hP : LPathsSaid X) (h : KeepsE X w a cv m s dv mv dn mk ex u) (hm : m ≤ 1000) :
    Calls Tryd.prog 13 #[.pointer (some a)] u fun e w' => ∃ y, e = .returned y ∧ ListsAt (fun b => u.heap.size ≤ b) w' y s.flows ∧ Below u.heap.size u w' := by
  obtain ⟨F, h⟩ := h
  exact hP _ F s u h.inv ⟨h.ok, Nat.le_trans h.few hm⟩
theorem k_rates (hR : LRatesSaid X) (h : KeepsE X w a cv m s dv mv dn mk ex u) (hm : m ≤ 1000) :
    Calls Tryd.prog 8 #[.pointer (some a)] u fun e w' => ∃ y, e = .returned (.tuple #[y, errV (ratesLE s.flows)]) ∧ FracsAt (fun b => u.heap.size ≤ b) w' y (okL (ratesLE s.flows) (fill s.caps s.flows).1) ∧ Below u.heap.size u w' := by
  obtain ⟨F, h⟩ := h
  exact hR _ F s u h.inv ⟨h.ok, Nat.le_trans h.few hm⟩
end
/-- what an Add or a Drop makes of a log: k is told, f is the fault, g the flows that it should make -/
structure Stepped (s s' : LogS) (k f : Int) (g : Flows) : Prop where
  caps : s'.caps = s.caps
  good : k = 0 → f = 0 ∧ s'.done = s.done ++ [g] ∧ s'.marks = s.marks ++ [s'.bytes] ∧ s.bytes + 2 ≤ s'.bytes
  bad : k ≠ 0 → (k = 6 ∨ k = f) ∧ s'.done = s.done ∧ s'.marks = s.marks
theorem put_stepped {s : LogS} {n : Nat} {g : Flows} (h2 : 2 ≤ n) : Stepped s (putS s n g) (if s.left = 0 then 6 else 0) 0 g := by
  unfold putS
  by_cases hz : s.left = 0
  · rw [if_pos hz, if_pos hz]
    exact ⟨rfl, fun h => by omega, fun _ => ⟨.inl rfl, rfl, rfl⟩⟩
  · rw [if_neg hz, if_neg hz]
    exact ⟨rfl, fun _ => ⟨rfl, rfl, rfl, by show s.bytes + 2 ≤ s.bytes + n; omega⟩, fun h => by omega⟩
/-- the fault of a flow more, of one that has not stopped -/
def faultA (caps : List Int) (f : Flows) (p : List Int) : Int := if f.length = 6 then 4 else pathE caps.length p
def faultD (f : Flows) (i : Int) : Int := if (f.length : Int) ≤ i then 1 else 0
theorem add_stepped {s : LogS} {p : List Int} {n : Nat} (h2 : 2 ≤ n) : Stepped s (addLS s p n) (addLE s p) (faultA s.caps s.flows p) (s.flows ++ [p]) := by
  unfold addLS addLE lastE
  by_cases h0 : addF s p = 0
  · rw [if_pos h0, if_pos h0]
    obtain ⟨a1, a2, a3⟩ := addF_0 h0
    have : faultA s.caps s.flows p = 0 := by rw [faultA, if_neg a2]; exact a3
    rw [this]
    exact put_stepped h2
  · rw [if_neg h0, if_neg h0]
    refine ⟨rfl, fun h => absurd h h0, fun _ => ⟨?_, rfl, rfl⟩⟩
    unfold addF faultA
    split
    · exact .inl rfl
    · exact .inr rfl
theorem drop_stepped {s : LogS} {i : Int} {n : Nat} (h2 : 2 ≤ n) (hi : 0 ≤ i) : Stepped s (dropLS s i n) (dropLE s i) (faultD s.flows i) (lessF s.flows i) := by
  unfold dropLS dropLE lastE
  by_cases h0 : dropF s i = 0
  · rw [if_pos h0, if_pos h0]
    obtain ⟨a1, a2, a3⟩ := dropF_0 h0
    have : faultD s.flows i = 0 := by rw [faultD, if_neg (by omega)]
    rw [this]
    exact put_stepped h2
  · rw [if_neg h0, if_neg h0]
    refine ⟨rfl, fun h => absurd h h0, fun _ => ⟨?_, rfl, rfl⟩⟩
    unfold dropF faultD
    split
    · exact .inl rfl
    · by_cases hc : (s.flows.length : Int) ≤ i
      · rw [if_pos (.inr hc), if_pos hc]; exact .inr rfl
      · rw [if_neg (by omega), if_neg hc]; exact .inr rfl
theorem syncS_same (s : LogS) : (syncS s).done = s.done ∧ (syncS s).marks = s.marks ∧ (syncS s).caps = s.caps ∧ (syncE s = 0 → (syncS s).safe = (syncS s).bytes) := by
  unfold syncS syncE
  split
  · exact ⟨rfl, rfl, rfl, fun h => by omega⟩
  · split
    · exact ⟨rfl, rfl, rfl, fun h => by omega⟩
    · exact ⟨rfl, rfl, rfl, fun _ => rfl⟩
end Ev
end Go.Proofs.YtdldgefahgojaakDoor

/- The law LogKeeps' own nets beside the log: the one that stands, and the one that is to come. -/
namespace Go.Proofs.YtdldgefahgojaakDoor
namespace Ev
open Go.RowKit Fr Ns Ld Fl
set_option linter.unusedSimpArgs false
set_option linter.unusedVariables false

section
variable {X : LogFace} {w : World} {aj : Addr} {cv : Value} {m : Nat} {s : LogS} {dv mv : Value} {dn : List Flows} {mk : List Nat} {ex : List (Nat × Value × Flows)} {u u' : World} {pv : Value} {f : Flows}

theorem Keeps.off_new {F : Nat → Prop} (h : Keeps X w aj cv m s dv mv dn mk ex F u) {b : Nat} (hb : u.heap.size ≤ b) : Off F dv mv b := by
  obtain ⟨ps, _, p2, _⟩ := h.nets
  exact ⟨fun hF => by have := X.lt h.inv _ hF; omega, fun e => by have := owns_ltB p2 e; omega, fun e => by have := owns_ltB h.marks e; omega⟩
theorem Keeps.off_old {F : Nat → Prop} (h : Keeps X w aj cv m s dv mv dn mk ex F u) {b : Nat} (hb : b < w.heap.size) : Off F dv mv b := by
  obtain ⟨ps, _, p2, _⟩ := h.nets
  exact ⟨fun hF => by have := h.above _ hF; omega, fun e => by have := (p2.lt b e).1; omega, fun e => by have := (h.marks.lt b e).1; omega⟩
theorem KeepsE.putB (h : KeepsE X w aj cv m s dv mv dn mk ex u) (hl : ∀ F, Keeps X w aj cv m s dv mv dn mk ex F u → ListsAt (Off F dv mv) u pv f) (hb : Below u.heap.size u u') (hr : RowAt u' u.heap.size 45 [cv, pv]) : KeepsE X w aj cv m s dv mv dn mk ((u.heap.size, pv, f) :: ex) u' := by
  obtain ⟨F, h⟩ := h
  have h' := h.later hb
  refine ⟨F, h'.inv, h'.ok, h'.few, h'.above, h'.below, h'.nets, h'.marks, h'.apD, h'.apM, h'.apDM, fun e he => ?_⟩
  rcases List.mem_cons.1 he with rfl | he
  · exact ⟨hr, h.off_new (Nat.le_refl _), (hl F h).later hb⟩
  · exact h'.exs e he
/-- the net in nb stands; the one in nx is to come -/
def Next (X : LogFace) (w : World) (aj : Addr) (cv : Value) (m : Nat) (s : LogS) (dv mv : Value) (dn : List Flows) (mk : List Nat) (nb : Nat) (f : Flows) (nx : Nat) (g : Flows) (u : World) : Prop :=
  ∃ (F : Nat → Prop) (u0 : World) (pv pv' : Value), Keeps X w aj cv m s dv mv dn mk [(nb, pv, f)] F u0 ∧ u0.heap.size ≤ nx ∧ Below u0.heap.size u0 u ∧ RowAt u nx 45 [cv, pv'] ∧ ListsAt (fun b => b < w.heap.size ∨ ((Off F dv mv b ∨ u0.heap.size ≤ b) ∧ b ≠ nx)) u pv' g
theorem Next.made {nb : Nat} (h : KeepsE X w aj cv m s dv mv dn mk [(nb, pv, f)] u) (hb : Below u.heap.size u u') (hr : RowAt u' u.heap.size 45 [cv, pv]) : Next X w aj cv m s dv mv dn mk nb f u.heap.size f u' := by
  obtain ⟨F, h⟩ := h
  obtain ⟨e1, e2, e3⟩ := h.exs (nb, pv, f) (by simp)
  exact ⟨F, u, pv, pv, h, Nat.le_refl _, hb, hr, e3.keep (fun b _ hlt => hb.block b hlt) (fun b h1 h2 => .inr ⟨.inl h1, by omega⟩)⟩
theorem Next.later {nb nx : Nat} {g : Flows} (h : Next X w aj cv m s dv mv dn mk nb f nx g u) (hb : Below u.heap.size u u') : Next X w aj cv m s dv mv dn mk nb f nx g u' := by
  obtain ⟨F, u0, pv, pv', h1, h2, h3, h4, h5⟩ := h
  exact ⟨F, u0, pv, pv', h1, h2, Bel.call h3 (Nat.le_refl _) hb, h4.later hb h4.lt, h5.later hb⟩
theorem Next.keeps {nb nx : Nat} {g : Flows} (h : Next X w aj cv m s dv mv dn mk nb f nx g u) : ∃ pv, KeepsE X w aj cv m s dv mv dn mk [(nx, pv, g)] u := by
  obtain ⟨F, u0, pv, pv', h1, h2, h3, h4, h5⟩ := h
  have h' := h1.later h3
  refine ⟨pv', F, h'.inv, h'.ok, h'.few, h'.above, h'.below, h'.nets, h'.marks, h'.apD, h'.apM, h'.apDM, fun e he => ?_⟩
  obtain rfl : e = (nx, pv', g) := by simpa using he
  refine ⟨h4, h1.off_new h2, h5.keep (fun _ _ _ => rfl) (fun b hb _ => ?_)⟩
  rcases hb with hb | ⟨hb | hb, _⟩
  · exact h1.off_old hb
  · exact hb
  · exact h1.off_new hb
theorem Next.below {nb nx : Nat} {g : Flows} (h : Next X w aj cv m s dv mv dn mk nb f nx g u) : Below w.heap.size w u := by
  obtain ⟨pv, h⟩ := h.keeps
  exact h.below
/-- what the law reads of both, and how another one comes to stand in nx -/
theorem Next.use {nb nx : Nat} {g : Flows} (h : Next X w aj cv m s dv mv dn mk nb f nx g u) : ∃ (pv : Value) (Q : Nat → Prop), RowAt u nb 45 [cv, pv] ∧ (∃ pv', RowAt u nx 45 [cv, pv']) ∧ ListsAt Q u pv f ∧ (∀ b, b < w.heap.size → Q b) ∧
    ∀ (u1 : World) (y : Value) (g' : Flows), Below u.heap.size u u1 → ListsAt (fun b => Q b ∨ u.heap.size ≤ b) u1 y g' → Next X w aj cv m s dv mv dn mk nb f nx g' ((u1.setCell ⟨nx, 0, none⟩ cv).setCell ⟨nx, 1, none⟩ y) := by
  obtain ⟨F, u0, pv, pv', h1, h2, h3, h4, h5⟩ := h
  obtain ⟨e1, e2, e3⟩ := h1.exs (nb, pv, f) (by simp)
  refine ⟨pv, fun b => b < w.heap.size ∨ ((Off F dv mv b ∨ u0.heap.size ≤ b) ∧ b ≠ nx), e1.later h3 e1.lt, ⟨pv', h4⟩, ?_, fun b hb => .inl hb, fun u1 y g' hb hl => ?_⟩
  · exact e3.keep (fun b _ hlt => h3.block b hlt) (fun b h1' h2' => .inr ⟨.inl h1', by omega⟩)
  · have hs := h3.size
    have hx := h4.lt
    have hw := h1.below.size
    have hr : RowAt ((u1.setCell ⟨nx, 0, none⟩ cv).setCell ⟨nx, 1, none⟩ y) nx 45 [cv, y] := ((h4.later hb h4.lt).set 0 cv).set 1 y
    refine ⟨F, u0, pv, y, h1, h2, ((Bel.call h3 (Nat.le_refl _) hb).setCell h2 _).setCell h2 _, hr, ?_⟩
    refine hl.keep (fun b hQ hlt => ?_) (fun b hQ hlt => ?_)
    · have hne : b ≠ nx := by
        rcases hQ with (hQ | hQ) | hQ
        · omega
        · exact hQ.2
        · omega
      rw [Below.heap_setCell _ _ _ _ hne, Below.heap_setCell _ _ _ _ hne]
    · rcases hQ with hQ | hQ
      · exact hQ
      · exact .inr ⟨.inr (by omega), by omega⟩
end
end Ev
end Go.Proofs.YtdldgefahgojaakDoor

/- Shares: all of them together, their squares, the gap, and what some that go from one to another one make of these. No Go in it. -/
namespace Go.Proofs.YtdldgefahgojaakDoor.Ev
open Fr Ns Ld Fl
set_option linter.unusedSimpArgs false
set_option linter.unusedVariables false

def tot : List Int → Int
  | [] => 0
  | x :: r => x + tot r
def sqs : List Int → Int
  | [] => 0
  | x :: r => x * x + sqs r
theorem tot_append (l m : List Int) : tot (l ++ m) = tot l + tot m := by
  induction l with
  | nil => simp [tot]
  | cons x r ih => simp only [List.cons_append, tot, ih]; omega
theorem sqs_append (l m : List Int) : sqs (l ++ m) = sqs l + sqs m := by
  induction l with
  | nil => simp [sqs]
  | cons x r ih => simp only [List.cons_append, sqs, ih]; omega
theorem tot_step (l : List Int) (k : Nat) (h : k < l.length) : tot (l.take (k + 1)) = tot (l.take k) + l.getD k 0 := by
  rw [take_snoc l k h 0, tot_append]; simp [tot]
theorem sqs_step (l : List Int) (k : Nat) (h : k < l.length) : sqs (l.take (k + 1)) = sqs (l.take k) + l.getD k 0 * l.getD k 0 := by
  rw [take_snoc l k h 0, sqs_append]; simp [sqs]

def inTo (most x : Int) : Bool := decide (0 ≤ x) && decide (x ≤ most)
/-- what is wrong with shares: 5 there is none, 4 too many, 1 one is out of bounds, 0 nothing -/
def few (l : List Int) (most : Int) : Int := if l.length = 0 then 5 else if 6 < l.length then 4 else if l.all (inTo most) then 0 else 1
theorem few_0 {l : List Int} {most : Int} : few l most = 0 ↔ 0 < l.length ∧ l.length ≤ 6 ∧ ∀ x ∈ l, 0 ≤ x ∧ x ≤ most := by
  unfold few
  split
  · constructor
    · intro h; omega
    · intro h; omega
  · split
    · constructor
      · intro h; omega
      · intro h; omega
    · split
      · rename_i h
        rw [List.all_eq_true] at h
        constructor
        · intro _
          exact ⟨by omega, by omega, fun x hx => by simpa [inTo] using h x hx⟩
        · intro _; rfl
      · rename_i h
        constructor
        · intro e; omega
        · rintro ⟨_, _, hb⟩
          exfalso; apply h
          rw [List.all_eq_true]
          intro x hx
          simpa [inTo] using hb x hx

theorem tot_bd {M : Int} : ∀ {l : List Int}, (∀ x ∈ l, 0 ≤ x ∧ x ≤ M) → 0 ≤ tot l ∧ tot l ≤ l.length * M := by
  intro l
  induction l with
  | nil => intro _; simp [tot]
  | cons x r ih =>
    intro h
    have h1 := h x (by simp)
    have h2 := ih fun y hy => h y (by simp [hy])
    simp only [tot, List.length_cons]
    have e : ((r.length + 1 : Nat) : Int) * M = r.length * M + M := by rw [Int.natCast_add, Int.add_mul]; simp
    rw [e]
    omega
theorem sqs_bd {M : Int} : ∀ {l : List Int}, (∀ x ∈ l, 0 ≤ x ∧ x ≤ M) → 0 ≤ sqs l ∧ sqs l ≤ l.length * (M * M) := by
  intro l
  induction l with
  | nil => intro _; simp [sqs]
  | cons x r ih =>
    intro h
    have h1 := h x (by simp)
    have h2 := ih fun y hy => h y (by simp [hy])
    simp only [sqs, List.length_cons]
    have e : ((r.length + 1 : Nat) : Int) * (M * M) = r.length * (M * M) + M * M := by rw [Int.natCast_add, Int.add_mul]; simp
    rw [e]
    have h3 : x * x ≤ M * M := Int.mul_le_mul h1.2 h1.2 h1.1 (by omega)
    have h4 : 0 ≤ x * x := Int.mul_nonneg h1.1 h1.1
    omega

def dev (x : Int) : List Int → Int
  | [] => 0
  | y :: r => (x - y) * (x - y) + dev x r
theorem sq_nonneg (x : Int) : 0 ≤ x * x := by
  rcases Int.le_total 0 x with h | h
  · exact Int.mul_nonneg h h
  · exact Int.mul_nonneg_of_nonpos_of_nonpos h h
theorem sq_zero {x : Int} (h : x * x = 0) : x = 0 := by
  rcases Int.mul_eq_zero.1 h with h | h <;> exact h
theorem dev_nonneg (x : Int) : ∀ l, 0 ≤ dev x l := by
  intro l
  induction l with
  | nil => simp [dev]
  | cons y r ih => have := sq_nonneg (x - y); simp only [dev]; omega
theorem dev_zero {x : Int} : ∀ {l}, dev x l = 0 → ∀ y ∈ l, y = x := by
  intro l
  induction l with
  | nil => intro _ y hy; simp at hy
  | cons z r ih =>
    intro h y hy
    have h1 := sq_nonneg (x - z)
    have h2 := dev_nonneg x r
    simp only [dev] at h
    have h3 : (x - z) * (x - z) = 0 := by omega
    have h4 := sq_zero h3
    rcases List.mem_cons.1 hy with rfl | hy
    · omega
    · exact ih (by omega) y hy
theorem dev_eq (x : Int) : ∀ l : List Int, dev x l = l.length * (x * x) - 2 * (x * tot l) + sqs l := by
  intro l
  induction l with
  | nil => simp [dev, tot, sqs]
  | cons y r ih =>
    simp only [dev, tot, sqs, List.length_cons, ih]
    have e : ((r.length + 1 : Nat) : Int) = r.length + 1 := by simp
    rw [e]
    grind
theorem part_eq (x : Int) (r : List Int) : ((x :: r).length : Int) * sqs (x :: r) - tot (x :: r) * tot (x :: r) = (r.length * sqs r - tot r * tot r) + dev x r := by
  rw [dev_eq]
  simp only [tot, sqs, List.length_cons]
  have e : ((r.length + 1 : Nat) : Int) = r.length + 1 := by simp
  rw [e]
  grind
/-- the square of all together is no more than so many times their squares together, and as much just if all are alike -/
theorem cauchy : ∀ l : List Int, tot l * tot l ≤ l.length * sqs l := by
  intro l
  induction l with
  | nil => simp [tot, sqs]
  | cons x r ih =>
    have := part_eq x r
    have := dev_nonneg x r
    omega
theorem cauchy_eq : ∀ {l : List Int}, tot l * tot l = l.length * sqs l → ∀ x ∈ l, ∀ y ∈ l, x = y := by
  intro l
  induction l with
  | nil => intro _ x hx; simp at hx
  | cons z r ih =>
    intro h
    have h1 := part_eq z r
    have h2 := dev_nonneg z r
    have h3 := cauchy r
    have hz := dev_zero (x := z) (l := r) (by omega)
    intro x hx y hy
    have e : ∀ x ∈ z :: r, x = z := fun x hx => by
      rcases List.mem_cons.1 hx with rfl | hx
      · rfl
      · exact hz x hx
    rw [e x hx, e y hy]
theorem alike_eq {c : Int} : ∀ {l : List Int}, (∀ x ∈ l, x = c) → tot l = l.length * c ∧ sqs l = l.length * (c * c) := by
  intro l
  induction l with
  | nil => intro _; simp [tot, sqs]
  | cons x r ih =>
    intro h
    have h1 := h x (by simp)
    have h2 := ih fun y hy => h y (by simp [hy])
    simp only [tot, sqs, List.length_cons, h1, h2.1, h2.2]
    have e : ((r.length + 1 : Nat) : Int) = r.length + 1 := by simp
    rw [e]
    constructor <;> grind
theorem square_all : ∀ {l : List Int}, (∀ x ∈ l, 0 ≤ x) → sqs l ≤ tot l * tot l ∧ 0 ≤ tot l := by
  intro l
  induction l with
  | nil => intro _; simp [tot, sqs]
  | cons x r ih =>
    intro h
    have h1 := h x (by simp)
    obtain ⟨h2, h3⟩ := ih fun y hy => h y (by simp [hy])
    have h4 : 0 ≤ x * tot r := Int.mul_nonneg h1 h3
    simp only [tot, sqs]
    have e : (x + tot r) * (x + tot r) = x * x + 2 * (x * tot r) + tot r * tot r := by grind
    rw [e]
    constructor <;> omega

/-! ### the gap -/
theorem mx_ge (a : Int) : ∀ l : List Int, a ≤ l.foldl max a ∧ ∀ x ∈ l, x ≤ l.foldl max a := by
  intro l
  induction l generalizing a with
  | nil => simp
  | cons y r ih =>
    obtain ⟨h1, h2⟩ := ih (max a y)
    simp only [List.foldl_cons]
    refine ⟨by omega, fun x hx => ?_⟩
    rcases List.mem_cons.1 hx with rfl | hx
    · omega
    · exact h2 x hx
theorem mx_in (a : Int) : ∀ l : List Int, l.foldl max a = a ∨ l.foldl max a ∈ l := by
  intro l
  induction l generalizing a with
  | nil => simp
  | cons y r ih =>
    simp only [List.foldl_cons]
    rcases ih (max a y) with h | h
    · rcases Int.le_total a y with h' | h'
      · right; rw [h, Int.max_eq_right h']; simp
      · left; rw [h, Int.max_eq_left h']
    · right; simp [h]
theorem mn_le (a : Int) : ∀ l : List Int, l.foldl min a ≤ a ∧ ∀ x ∈ l, l.foldl min a ≤ x := by
  intro l
  induction l generalizing a with
  | nil => simp
  | cons y r ih =>
    obtain ⟨h1, h2⟩ := ih (min a y)
    simp only [List.foldl_cons]
    refine ⟨by omega, fun x hx => ?_⟩
    rcases List.mem_cons.1 hx with rfl | hx
    · omega
    · exact h2 x hx
theorem mn_in (a : Int) : ∀ l : List Int, l.foldl min a = a ∨ l.foldl min a ∈ l := by
  intro l
  induction l generalizing a with
  | nil => simp
  | cons y r ih =>
    simp only [List.foldl_cons]
    rcases ih (min a y) with h | h
    · rcases Int.le_total a y with h' | h'
      · left; rw [h, Int.min_eq_left h']
      · right; rw [h, Int.min_eq_right h']; simp
    · right; simp [h]
def mxL (l : List Int) : Int := l.foldl max (l.getD 0 0)
def mnL (l : List Int) : Int := l.foldl min (l.getD 0 0)
/-- the greatest less the least -/
def gapL (l : List Int) : Int := mxL l - mnL l
theorem mx_step (l : List Int) (a : Int) (k : Nat) (h : k < l.length) : (l.take (k + 1)).foldl max a = max ((l.take k).foldl max a) (l.getD k 0) := by
  rw [take_snoc l k h 0, List.foldl_append]; rfl
theorem mn_step (l : List Int) (a : Int) (k : Nat) (h : k < l.length) : (l.take (k + 1)).foldl min a = min ((l.take k).foldl min a) (l.getD k 0) := by
  rw [take_snoc l k h 0, List.foldl_append]; rfl
theorem mxL_spec {l : List Int} (h : 0 < l.length) : mxL l ∈ l ∧ ∀ x ∈ l, x ≤ mxL l := by
  refine ⟨?_, (mx_ge _ l).2⟩
  rcases mx_in (l.getD 0 0) l with e | e
  · unfold mxL; rw [e]; exact getD_mem l 0 h 0
  · exact e
theorem mnL_spec {l : List Int} (h : 0 < l.length) : mnL l ∈ l ∧ ∀ x ∈ l, mnL l ≤ x := by
  refine ⟨?_, (mn_le _ l).2⟩
  rcases mn_in (l.getD 0 0) l with e | e
  · unfold mnL; rw [e]; exact getD_mem l 0 h 0
  · exact e
theorem gap_nonneg {l : List Int} (h : 0 < l.length) : 0 ≤ gapL l := by
  have := (mxL_spec h).2 _ (mnL_spec h).1
  unfold gapL; omega
/-- no two are further apart than the gap -/
theorem gap_ge {l : List Int} (h : 0 < l.length) {x y : Int} (hx : x ∈ l) (hy : y ∈ l) : x - y ≤ gapL l := by
  have h1 := (mxL_spec h).2 x hx
  have h2 := (mnL_spec h).2 y hy
  unfold gapL; omega
theorem gap_le {l : List Int} {d : Int} (h : 0 < l.length) (hd : ∀ x ∈ l, ∀ y ∈ l, x - y ≤ d) : gapL l ≤ d := hd _ (mxL_spec h).1 _ (mnL_spec h).1
theorem gap_zero {l : List Int} (h : 0 < l.length) : gapL l = 0 ↔ ∀ x ∈ l, ∀ y ∈ l, x = y := by
  constructor
  · intro e x hx y hy
    have h1 := gap_ge h hx hy
    have h2 := gap_ge h hy hx
    omega
  · intro e
    have h1 := gap_nonneg h
    have h2 := gap_le (d := 0) h (fun x hx y hy => by have := e x hx y hy; omega)
    omega

/-! ### the index -/
def idx (l : List Int) : Int × Int := (lowT (tot l * tot l) (l.length * sqs l), lowB (tot l * tot l) (l.length * sqs l))
def idxE (l : List Int) : Int := if few l 1000 = 0 then if tot l = 0 then 5 else 0 else few l 1000
theorem idxE_0 {l : List Int} : idxE l = 0 ↔ few l 1000 = 0 ∧ tot l ≠ 0 := by
  unfold idxE
  split
  · split
    · constructor
      · intro h; omega
      · rintro ⟨_, h⟩; contradiction
    · constructor
      · intro _; exact ⟨by assumption, by assumption⟩
      · intro _; rfl
  · constructor
    · intro h; contradiction
    · rintro ⟨h, _⟩; contradiction
theorem idx_parts {l : List Int} (h : idxE l = 0) : 1 ≤ tot l ∧ tot l ≤ 6000 ∧ 1 ≤ sqs l ∧ sqs l ≤ 6000000 ∧ 1 ≤ (l.length : Int) * sqs l ∧ (l.length : Int) * sqs l ≤ 36000000 ∧ 0 ≤ tot l * tot l ∧ tot l * tot l ≤ 36000000 := by
  obtain ⟨h1, h2⟩ := idxE_0.1 h
  obtain ⟨n1, n2, hb⟩ := few_0.1 h1
  have t := tot_bd hb
  have s := sqs_bd hb
  have c := cauchy l
  have hn : (1 : Int) ≤ l.length ∧ (l.length : Int) ≤ 6 := by omega
  have t1 : 1 ≤ tot l := by omega
  have t2 : tot l ≤ 6000 := by
    have : (l.length : Int) * 1000 ≤ 6 * 1000 := by omega
    omega
  have tt : 1 ≤ tot l * tot l := Int.mul_le_mul t1 t1 (by decide) (by omega)
  have t3 : tot l * tot l ≤ 6000 * 6000 := Int.mul_le_mul t2 t2 (by omega) (by omega)
  have s2 : sqs l ≤ 6000000 := by
    have : (l.length : Int) * (1000 * 1000) ≤ 6 * 1000000 := by omega
    omega
  have s1 : 1 ≤ sqs l := by
    rcases Int.lt_or_le 0 (sqs l) with hs | hs
    · omega
    · have : sqs l = 0 := by omega
      rw [this] at c
      omega
  have ns : (l.length : Int) * sqs l ≤ 6 * 6000000 := Int.mul_le_mul hn.2 s2 (by omega) (by omega)
  exact ⟨t1, t2, s1, s2, by omega, by omega, by omega, by omega⟩
theorem low_bd {t b : Int} (h0 : 0 ≤ t) (hb : 1 ≤ b) : 0 ≤ lowT t b ∧ lowT t b ≤ t ∧ 1 ≤ lowB t b ∧ lowB t b ≤ b := by
  have g := gd_pos (t := t) hb
  have e1 := lowT_mul (t := t) (b := b)
  have e2 := lowB_mul (t := t) (b := b)
  have p := lowB_pos (t := t) hb
  have q : 0 ≤ lowT t b := by
    rcases Int.lt_or_le (lowT t b) 0 with h | h
    · have : lowT t b * gd t b ≤ -1 * gd t b := Int.mul_le_mul_of_nonneg_right (by omega) (by omega)
      omega
    · exact h
  have a1 : lowT t b * 1 ≤ lowT t b * gd t b := Int.mul_le_mul_of_nonneg_left g q
  have a2 : lowB t b * 1 ≤ lowB t b * gd t b := Int.mul_le_mul_of_nonneg_left g (by omega)
  refine ⟨q, by omega, p, by omega⟩
theorem idx_right {l : List Int} (h : idxE l = 0) : faultP (idx l) = 0 := by
  obtain ⟨_, _, _, _, b1, b2, t1, t2⟩ := idx_parts h
  obtain ⟨c1, c2, c3, c4⟩ := low_bd t1 b1
  exact fault_low b1 (mayB_iff.2 (by omega))
theorem idx_val {l : List Int} (h : idxE l = 0) : val (idx l) = val (tot l * tot l, (l.length : Int) * sqs l) := val_low (idx_parts h).2.2.2.2.1
theorem cmp_le' {a b : Int × Int} (ha : 1 ≤ a.2) (hb : 1 ≤ b.2) : cmpI (a.1 * b.2) (b.1 * a.2) ≤ 0 ↔ val a ≤ val b := by
  rw [cross ha hb]; unfold cmpI
  split
  · constructor <;> intro <;> omega
  · split
    · constructor <;> intro <;> omega
    · constructor <;> intro <;> omega
theorem cmp_eq' {a b : Int × Int} (ha : 1 ≤ a.2) (hb : 1 ≤ b.2) : cmpI (a.1 * b.2) (b.1 * a.2) = 0 ↔ val a = val b := by
  have h1 := cross ha hb
  have h2 := cross hb ha
  have e : val a = val b ↔ val a ≤ val b ∧ val b ≤ val a := by
    constructor
    · intro e; rw [e]; exact ⟨Rat.le_refl, Rat.le_refl⟩
    · rintro ⟨x, y⟩; grind
  rw [e, h1, h2]; unfold cmpI
  split
  · constructor <;> intro <;> omega
  · split
    · constructor <;> intro <;> omega
    · constructor <;> intro <;> omega
/-- from all for one to all alike -/
theorem idx_between {l : List Int} (h : idxE l = 0) : cmpI (1 * (idx l).2) ((idx l).1 * (l.length : Int)) ≤ 0 ∧ cmpI ((idx l).1 * 1) (1 * (idx l).2) ≤ 0 ∧ (cmpI ((idx l).1 * 1) (1 * (idx l).2) = 0 ↔ gapL l = 0) := by
  obtain ⟨h1, h2⟩ := idxE_0.1 h
  obtain ⟨n1, n2, hb⟩ := few_0.1 h1
  have hn : (1 : Int) ≤ l.length := by omega
  obtain ⟨t1, t2, s1, s2, b1, b2, q1, q2⟩ := idx_parts h
  have hv := idx_val h
  have hp := fault_pos (idx_right h)
  refine ⟨?_, ?_, ?_⟩
  · rw [cmp_le' (a := (1, (l.length : Int))) (b := idx l) hn hp, hv, cross (a := (1, (l.length : Int))) (b := (tot l * tot l, (l.length : Int) * sqs l)) hn b1]
    have := (square_all fun x hx => (hb x hx).1).1
    have := Int.mul_le_mul_of_nonneg_left this (show (0 : Int) ≤ l.length by omega)
    simp only
    grind
  · rw [cmp_le' (a := idx l) (b := (1, 1)) hp (by decide), hv, cross (a := (tot l * tot l, (l.length : Int) * sqs l)) (b := (1, 1)) b1 (by decide)]
    have := cauchy l
    simpa using this
  · rw [cmp_eq' (a := idx l) (b := (1, 1)) hp (by decide), hv, gap_zero n1]
    have e : val (tot l * tot l, (l.length : Int) * sqs l) = val (1, 1) ↔ tot l * tot l = (l.length : Int) * sqs l := by
      have := cmp_eq' (a := (tot l * tot l, (l.length : Int) * sqs l)) (b := (1, 1)) b1 (by decide)
      rw [← this]
      simp only [Int.mul_one, Int.one_mul]
      unfold cmpI
      split
      · constructor <;> intro <;> omega
      · split
        · constructor <;> intro <;> omega
        · constructor <;> intro <;> omega
    rw [e]
    constructor
    · exact cauchy_eq
    · intro ha
      obtain ⟨e1, e2⟩ := alike_eq (c := l.getD 0 0) (l := l) fun x hx => ha x hx _ (getD_mem l 0 n1 0)
      rw [e1, e2]
      grind

/-! ### some go from one to another one -/
def giveL (l : List Int) (f t : Nat) (m : Int) : List Int := (l.set f (l.getD f 0 - m)).set t ((l.set f (l.getD f 0 - m)).getD t 0 + m)
theorem tot_set : ∀ (l : List Int) (f : Nat) (x : Int), f < l.length → tot (l.set f x) = tot l - l.getD f 0 + x := by
  intro l
  induction l with
  | nil => intro f x h; simp at h
  | cons y r ih =>
    intro f x h
    cases f with
    | zero => simp [tot]; omega
    | succ f => have := ih f x (by simpa using h); simp [tot] at this ⊢; omega
theorem sqs_set : ∀ (l : List Int) (f : Nat) (x : Int), f < l.length → sqs (l.set f x) = sqs l - l.getD f 0 * l.getD f 0 + x * x := by
  intro l
  induction l with
  | nil => intro f x h; simp at h
  | cons y r ih =>
    intro f x h
    cases f with
    | zero => simp [sqs]; omega
    | succ f => have := ih f x (by simpa using h); simp [sqs] at this ⊢; omega
theorem getD_set_self (l : List Int) (f : Nat) (x : Int) (h : f < l.length) : (l.set f x).getD f 0 = x := by
  simp [List.getD, h]
theorem getD_set_ne (l : List Int) {f g : Nat} (x : Int) (h : f ≠ g) : (l.set f x).getD g 0 = l.getD g 0 := by
  simp [List.getD, List.getElem?_set_ne h]
theorem giveL_length (l : List Int) (f t : Nat) (m : Int) : (giveL l f t m).length = l.length := by simp [giveL]
theorem give_same (l : List Int) (f : Nat) (m : Int) (hf : f < l.length) : giveL l f f m = l := by
  unfold giveL
  rw [getD_set_self _ _ _ hf, List.set_set]
  have e : l.getD f 0 - m + m = l.getD f 0 := by omega
  rw [e]
  apply List.ext_getElem?
  intro i
  by_cases h : f = i
  · subst h
    rw [List.getElem?_set_self hf]
    simp [List.getD, List.getElem?_eq_getElem hf]
  · rw [List.getElem?_set_ne h]
theorem give_tot (l : List Int) (f t : Nat) (m : Int) (hf : f < l.length) (ht : t < l.length) : tot (giveL l f t m) = tot l := by
  by_cases e : f = t
  · subst e; rw [give_same _ _ _ hf]
  · unfold giveL
    rw [tot_set _ _ _ (by simpa using ht), tot_set _ _ _ hf]
    omega
/-- what a richer one gives a poorer one, no more than the half between, makes squares no more -/
theorem give_sqs (l : List Int) (f t : Nat) (m : Int) (hf : f < l.length) (ht : t < l.length) (hm : 0 ≤ m) (h2 : 2 * m ≤ l.getD f 0 - l.getD t 0) : sqs (giveL l f t m) ≤ sqs l := by
  by_cases e : f = t
  · subst e; rw [give_same _ _ _ hf]; exact Int.le_refl _
  · unfold giveL
    rw [sqs_set _ _ _ (by simpa using ht), sqs_set _ _ _ hf, getD_set_ne _ _ e]
    generalize l.getD f 0 = a at *
    generalize l.getD t 0 = b at *
    have e1 : (a - m) * (a - m) = a * a - 2 * (m * a) + m * m := by grind
    have e2 : (b + m) * (b + m) = b * b + 2 * (m * b) + m * m := by grind
    have e3 : m * (2 * m) ≤ m * (a - b) := Int.mul_le_mul_of_nonneg_left h2 hm
    have e4 : m * (2 * m) = 2 * (m * m) := by grind
    have e5 : m * (a - b) = m * a - m * b := by grind
    rw [e1, e2]
    have hmm := sq_nonneg m
    omega
theorem mem_give {l : List Int} {f t : Nat} {m : Int} {x : Int} (hf : f < l.length) (ht : t < l.length) (e : f ≠ t) (h : x ∈ giveL l f t m) : x ∈ l ∨ x = l.getD f 0 - m ∨ x = l.getD t 0 + m := by
  unfold giveL at h
  rw [getD_set_ne _ _ e] at h
  rcases List.mem_or_eq_of_mem_set h with h | h
  · rcases List.mem_or_eq_of_mem_set h with h | h
    · exact .inl h
    · exact .inr (.inl h)
  · exact .inr (.inr h)
theorem give_gap (l : List Int) (f t : Nat) (m : Int) (hf : f < l.length) (ht : t < l.length) (hm : 0 ≤ m) (h2 : 2 * m ≤ l.getD f 0 - l.getD t 0) : gapL (giveL l f t m) ≤ gapL l := by
  by_cases e : f = t
  · subst e; rw [give_same _ _ _ hf]; exact Int.le_refl _
  · have h0 : 0 < l.length := by omega
    have bx : ∀ x ∈ giveL l f t m, mnL l ≤ x ∧ x ≤ mxL l := by
      intro x hx
      have a1 := (mxL_spec h0).2
      have a2 := (mnL_spec h0).2
      have f1 := a1 _ (getD_mem l f hf 0)
      have f2 := a2 _ (getD_mem l f hf 0)
      have t1 := a1 _ (getD_mem l t ht 0)
      have t2 := a2 _ (getD_mem l t ht 0)
      rcases mem_give hf ht e hx with h | h | h
      · exact ⟨a2 x h, a1 x h⟩
      · omega
      · omega
    refine gap_le (by rw [giveL_length]; exact h0) fun x hx y hy => ?_
    have := bx x hx
    have := bx y hy
    unfold gapL
    omega
/-- no less even -/
theorem give_idx {l : List Int} {f t : Nat} {m : Int} (h : idxE l = 0) (hy : few (giveL l f t m) 1000 = 0) (hf : f < l.length) (ht : t < l.length) (hm : 0 ≤ m) (h2 : 2 * m ≤ l.getD f 0 - l.getD t 0) :
    idxE (giveL l f t m) = 0 ∧ cmpI ((idx l).1 * (idx (giveL l f t m)).2) ((idx (giveL l f t m)).1 * (idx l).2) ≤ 0 := by
  have e0 : idxE (giveL l f t m) = 0 := idxE_0.2 ⟨hy, by rw [give_tot l f t m hf ht]; exact (idxE_0.1 h).2⟩
  refine ⟨e0, ?_⟩
  rw [cmp_le' (fault_pos (idx_right h)) (fault_pos (idx_right e0)), idx_val h, idx_val e0, give_tot l f t m hf ht, giveL_length]
  have p1 := (idx_parts h).2.2.2.2.1
  have p2 := (idx_parts e0).2.2.2.2.1
  rw [giveL_length] at p2
  rw [cross (a := (tot l * tot l, (l.length : Int) * sqs l)) (b := (tot l * tot l, (l.length : Int) * sqs (giveL l f t m))) p1 p2]
  have := give_sqs l f t m hf ht hm h2
  have := Int.mul_le_mul_of_nonneg_left this (show (0 : Int) ≤ l.length by omega)
  exact Int.mul_le_mul_of_nonneg_left this (sq_nonneg _)

/-! ### times as much -/
theorem tot_times (c : Int) : ∀ l : List Int, tot (l.map (· * c)) = tot l * c := by
  intro l
  induction l with
  | nil => simp [tot]
  | cons x r ih => simp only [List.map_cons, tot, ih]; grind
theorem sqs_times (c : Int) : ∀ l : List Int, sqs (l.map (· * c)) = sqs l * (c * c) := by
  intro l
  induction l with
  | nil => simp [sqs]
  | cons x r ih => simp only [List.map_cons, sqs, ih]; grind
theorem times_idx {l : List Int} {c : Int} (h : idxE l = 0) (hc : 1 ≤ c) (hm : ∀ x ∈ l, x * c ≤ 1000) : idxE (l.map (· * c)) = 0 ∧ idx (l.map (· * c)) = idx l := by
  obtain ⟨h1, h2⟩ := idxE_0.1 h
  obtain ⟨n1, n2, hb⟩ := few_0.1 h1
  have e0 : idxE (l.map (· * c)) = 0 := by
    refine idxE_0.2 ⟨few_0.2 ⟨by simpa using n1, by simpa using n2, fun x hx => ?_⟩, ?_⟩
    · obtain ⟨y, hy, rfl⟩ := List.mem_map.1 hx
      exact ⟨Int.mul_nonneg (hb y hy).1 (by omega), hm y hy⟩
    · rw [tot_times]
      intro e
      rcases Int.mul_eq_zero.1 e with e | e
      · exact h2 e
      · omega
  refine ⟨e0, ?_⟩
  have p1 := (idx_parts h).2.2.2.2.1
  have p2 := (idx_parts e0).2.2.2.2.1
  unfold idx
  rw [tot_times, sqs_times, List.length_map] at *
  have := low_of_ratio (t := tot l * c * (tot l * c)) (b := l.length * (sqs l * (c * c))) (u := tot l * tot l) (c := l.length * sqs l) p2 p1 (by grind)
  rw [this.1, this.2]
theorem times_gap {l : List Int} {c : Int} (h : 0 < l.length) (hc : 0 ≤ c) : gapL (l.map (· * c)) = gapL l * c := by
  have h' : 0 < (l.map (· * c)).length := by simpa using h
  have a := mxL_spec h
  have b := mnL_spec h
  have a' := mxL_spec h'
  have b' := mnL_spec h'
  have e1 : mxL (l.map (· * c)) = mxL l * c := by
    have u1 : mxL l * c ≤ _ := a'.2 _ (List.mem_map.2 ⟨_, a.1, rfl⟩)
    obtain ⟨y, hy, e⟩ := List.mem_map.1 a'.1
    have u2 := Int.mul_le_mul_of_nonneg_right (a.2 y hy) hc
    have e : y * c = _ := e
    omega
  have e2 : mnL (l.map (· * c)) = mnL l * c := by
    have u1 : _ ≤ mnL l * c := b'.2 _ (List.mem_map.2 ⟨_, b.1, rfl⟩)
    obtain ⟨y, hy, e⟩ := List.mem_map.1 b'.1
    have u2 := Int.mul_le_mul_of_nonneg_right (b.2 y hy) hc
    have e : y * c = _ := e
    omega
  unfold gapL
  rw [e1, e2, Int.sub_mul]
end Go.Proofs.YtdldgefahgojaakDoor.Ev

/- Slices of ints, one by one. -/
namespace Go.Proofs.YtdldgefahgojaakDoor
namespace Ev
open Go.RowKit Fr Ns Ld Fl
set_option linter.unusedSimpArgs false
set_option linter.unusedVariables false

theorem ints_cells {Q : Nat → Prop} {w : World} {a : Option Addr} {n cap : Nat} {l : List Int} (h : IntsAt Q w (.slice a n cap) l) : ∀ i, i < l.length → ∃ b off, a = some ⟨b, off, none⟩ ∧ ∀ u, Below w.heap.size w u → u.cell? ⟨b, off + i, none⟩ = some (.int .i64 (l.getD i 0)) := by
  intro i hi
  obtain ⟨_, _, e, _, hc⟩ := h
  simp only [Value.slice.injEq] at e
  obtain ⟨rfl, _, _⟩ := e
  rcases hc with h | ⟨b, off, rfl, h, _⟩
  · rw [h] at hi; simp at hi
  · exact ⟨b, off, rfl, fun u hu => cell_later hu (h i hi)⟩
theorem all_step {l : List Int} {p : Int → Bool} {k : Nat} (h : k < l.length) : (l.take (k + 1)).all p = ((l.take k).all p && p (l.getD k 0)) := by
  rw [take_snoc l k h 0, List.all_append]
  simp
theorem all_not {l : List Int} {p : Int → Bool} {k : Nat} (h : k < l.length) (hx : p (l.getD k 0) = false) : l.all p = false := by
  rw [List.all_eq_false]
  exact ⟨_, getD_mem l k h 0, by rw [hx]; exact Bool.false_ne_true⟩
end Ev
end Go.Proofs.YtdldgefahgojaakDoor
