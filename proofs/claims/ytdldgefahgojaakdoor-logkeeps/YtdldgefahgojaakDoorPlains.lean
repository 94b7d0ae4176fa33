/- Facts and contracts that the walks lean on, one text behind the other; no walk of Go in them. -/
import Derived.Test.YtdldgefahgojaakDoorPlainsB
import Derived.Deep.Quiet
import Derived.Deep.QuietTactic
import Derived.BigQuiet
import Derived.RangeFuncNested
import Derived.RangeFuncBound
import Derived.RangeFuncCalls
import Derived.RangeFuncLeaves
import Derived.ProofKit
import Derived.OpenShut
import Derived.Lib.SmallJoins
import Derived.Deep.Matrix
/- The landed fill's own lists: the links of a least share, who is free, flow by flow. No Go in it but what FlMem brings. -/
namespace Go.Proofs.YtdldgefahgojaakDoor
namespace Fl
open Go.RowKit Fr Ns Ld
set_option linter.unusedSimpArgs false
set_option linter.unusedVariables false

/-- the links of the least share among the first n, rising -/
def linksTo (sh : Nat → Option (Int × Int)) (n : Nat) : List Int := ((List.range n).filter (narAt sh n)).map (fun l : Nat => (l : Int))
theorem linksTo_length (sh : Nat → Option (Int × Int)) (n : Nat) : (linksTo sh n).length ≤ n := by
  unfold linksTo
  rw [List.length_map]
  exact Nat.le_trans (List.length_filter_le _ _) (by simp)
theorem links_keep {sh : Nat → Option (Int × Int)} {n : Nat} (h : ∀ l, narAt sh (n + 1) l = narAt sh n l) : linksTo sh (n + 1) = linksTo sh n := by
  unfold linksTo
  have z : narAt sh n n = false := by simp [narAt]
  rw [show narAt sh (n + 1) = narAt sh n from funext h, List.range_succ, List.filter_append, List.map_append]
  simp [List.filter_cons, z]
theorem links_new {sh : Nat → Option (Int × Int)} {n : Nat} (h : ∀ l, narAt sh (n + 1) l = decide (l = n)) : linksTo sh (n + 1) = [(n : Int)] := by
  unfold linksTo
  have e : (List.range n).filter (fun l => decide (l = n)) = [] := List.filter_eq_nil_iff.2 (fun a ha => by have := List.mem_range.1 ha; simp; omega)
  rw [show narAt sh (n + 1) = (fun l => decide (l = n)) from funext h, List.range_succ, List.filter_append, e]
  simp [List.filter_cons]
theorem links_same {sh : Nat → Option (Int × Int)} {n : Nat} (h : ∀ l, narAt sh (n + 1) l = (narAt sh n l || decide (l = n))) : linksTo sh (n + 1) = linksTo sh n ++ [(n : Int)] := by
  unfold linksTo
  have e : (List.range n).filter (fun l => narAt sh n l || decide (l = n)) = (List.range n).filter (narAt sh n) := List.filter_congr (fun a ha => by
    have := List.mem_range.1 ha
    have hne : decide (a = n) = false := decide_eq_false (by omega)
    rw [hne, Bool.or_false])
  rw [show narAt sh (n + 1) = (fun l => narAt sh n l || decide (l = n)) from funext h, List.range_succ, List.filter_append, e]
  simp [List.filter_cons]
theorem mem_links {sh : Nat → Option (Int × Int)} {n : Nat} {x : Int} : x ∈ linksTo sh n ↔ ∃ l : Nat, x = l ∧ l < n ∧ narAt sh n l = true := by
  unfold linksTo
  rw [List.mem_map]
  constructor
  · rintro ⟨l, hl, rfl⟩
    rw [List.mem_filter, List.mem_range] at hl
    exact ⟨l, rfl, hl.1, hl.2⟩
  · rintro ⟨l, rfl, h1, h2⟩
    exact ⟨l, List.mem_filter.2 ⟨List.mem_range.2 h1, h2⟩, rfl⟩
theorem links_some {sh : Nat → Option (Int × Int)} {n : Nat} {b : Int × Int} (h : bestOf sh n = some b) : 0 < (linksTo sh n).length := by
  obtain ⟨l, hl, hs⟩ := best_mem n b h
  have : (l : Int) ∈ linksTo sh n := mem_links.2 ⟨l, rfl, hl, by simp [narAt, hl, hs, h]⟩
  exact List.length_pos_of_mem this
theorem links_none {sh : Nat → Option (Int × Int)} {n : Nat} (h : bestOf sh n = none) : linksTo sh n = [] := by
  rw [List.eq_nil_iff_forall_not_mem]
  intro x hx
  obtain ⟨l, _, hl, hn⟩ := mem_links.1 hx
  have := best_none n h l hl
  simp [narAt, this] at hn
theorem in_links {sh : Nat → Option (Int × Int)} {n : Nat} {x : Int} (hx : 0 ≤ x) : inB (linksTo sh n) x = narAt sh n x.toNat := by
  rw [Bool.eq_iff_iff]
  have : inB (linksTo sh n) x = true ↔ x ∈ linksTo sh n := by simp [inB]
  rw [this, mem_links]
  constructor
  · rintro ⟨l, rfl, _, h⟩; simpa using h
  · intro h
    have hl : x.toNat < n := by
      apply Classical.byContradiction
      intro hn
      simp [narAt, hn] at h
    exact ⟨x.toNat, by omega, hl, h⟩
theorem any_links {sh : Nat → Option (Int × Int)} {n : Nat} {p : List Int} (hp : ∀ x ∈ p, 0 ≤ x) : p.any (fun x => inB (linksTo sh n) x) = p.any (fun x => narAt sh n x.toNat) := by
  rw [Bool.eq_iff_iff, List.any_eq_true, List.any_eq_true]
  constructor
  · rintro ⟨x, hx, h⟩; exact ⟨x, hx, by rw [← in_links (hp x hx)]; exact h⟩
  · rintro ⟨x, hx, h⟩; exact ⟨x, hx, by rw [in_links (hp x hx)]; exact h⟩

/-! ### flow by flow -/
theorem usersFrom_app (link : Int) : ∀ (a b : List (List Int)) (i : Nat), usersFrom link i (a ++ b) = usersFrom link i a ++ usersFrom link (i + a.length) b := by
  intro a
  induction a with
  | nil => intro b i; simp [usersFrom]
  | cons p r ih =>
    intro b i
    simp only [List.cons_append, usersFrom, ih]
    have e : i + 1 + r.length = i + (p :: r).length := by simp; omega
    rw [e]
    split <;> simp
theorem users_take (paths : List (List Int)) (l : Int) (k : Nat) : users (paths.take k) l = (users paths l).take (users (paths.take k) l).length := by
  have e : users paths l = users (paths.take k) l ++ usersFrom l (0 + (paths.take k).length) (paths.drop k) := by
    unfold users
    rw [← usersFrom_app, List.take_append_drop]
  rw [e, List.take_left]
/-- what a link takes, less the rates of the first k flows that are not free, and how many of these are -/
def linkTo (caps : List Int) (paths : List (List Int)) (rate : List (Int × Int)) (done : List Bool) (l k : Nat) : (Int × Int) × Nat := linkSum rate done (users (paths.take k) l) (caps.getD l 0, 1) 0
theorem linkTo_zero (caps : List Int) (paths : List (List Int)) (rate : List (Int × Int)) (done : List Bool) (l : Nat) : linkTo caps paths rate done l 0 = ((caps.getD l 0, 1), 0) := rfl
theorem linkTo_step {caps : List Int} {paths : List (List Int)} {rate : List (Int × Int)} {done : List Bool} {l k : Nat} (hk : k < paths.length) :
    linkTo caps paths rate done l (k + 1) = if inB (paths.getD k []) l = true then (if dB done k = true then (sumP (linkTo caps paths rate done l k).1 (negP (rP rate k)), (linkTo caps paths rate done l k).2) else ((linkTo caps paths rate done l k).1, (linkTo caps paths rate done l k).2 + 1)) else linkTo caps paths rate done l k := by
  unfold linkTo
  rw [users_step paths l k hk, linkSum_append]
  by_cases h : inB (paths.getD k []) l = true
  · rw [if_pos h, if_pos h]
    simp only [linkSum, Int.toNat_natCast]
  · rw [if_neg h, if_neg h]
    simp only [linkSum]
theorem linkTo_all (caps : List Int) (paths : List (List Int)) (rate : List (Int × Int)) (done : List Bool) (l : Nat) : linkTo caps paths rate done l paths.length = linkSum rate done (users paths l) (caps.getD l 0, 1) 0 := by
  unfold linkTo
  rw [List.take_of_length_le (Nat.le_refl _)]
theorem linkTo_part (caps : List Int) (paths : List (List Int)) (rate : List (Int × Int)) (done : List Bool) (l k : Nat) : ∃ j, j ≤ paths.length ∧ linkTo caps paths rate done l k = linkSum rate done ((users paths l).take j) (caps.getD l 0, 1) 0 := by
  refine ⟨(users (paths.take k) l).length, ?_, ?_⟩
  · have := users_length (l : Int) 0 (paths.take k)
    have h2 : (paths.take k).length ≤ paths.length := by rw [List.length_take]; omega
    unfold users
    omega
  · unfold linkTo
    rw [← users_take]
theorem linkTo_free {caps : List Int} {paths : List (List Int)} {rate : List (Int × Int)} {done : List Bool} {l : Nat} : ∀ k, k ≤ paths.length → (linkTo caps paths rate done l k).2 ≤ k := by
  intro k
  induction k with
  | zero => intro _; rw [linkTo_zero]; exact Nat.le_refl 0
  | succ k ih =>
    intro hk
    have := ih (by omega)
    rw [linkTo_step (by omega)]
    split
    · split <;> simp <;> omega
    · omega

/-! ### who is free -/
def freeL (done : List Bool) : List Bool := done.map (fun b => !b)
theorem freeL_length (done : List Bool) : (freeL done).length = done.length := by simp [freeL]
theorem free_cell {done : List Bool} {m : Nat} (h : m < done.length) : (boolsV (freeL done))[m]? = some (.bool (!dB done m)) := by
  simp [boolsV, freeL, dB, List.getD, List.getElem?_eq_getElem h]
theorem freeL_start (n : Nat) : freeL (List.replicate n false) = List.replicate n true := by simp [freeL]
theorem freeL_set (done : List Bool) (m : Nat) : freeL (done.set m true) = (freeL done).set m false := by simp [freeL, List.map_set]
theorem free_any {paths : List (List Int)} {done : List Bool} (hl : done.length = paths.length) : (freeL done).any id = decide (freeN paths done ≠ 0) := by
  rw [Bool.eq_iff_iff, List.any_eq_true, decide_eq_true_eq]
  unfold freeN
  rw [Ne, List.countP_eq_zero]
  constructor
  · rintro ⟨b, hb, h⟩ hn
    obtain ⟨i, hi, rfl⟩ := List.mem_iff_getElem.1 hb
    rw [freeL_length] at hi
    have := hn i (List.mem_range.2 (by omega))
    simp [freeL] at h
    simp [dB, List.getD, List.getElem?_eq_getElem hi, h] at this
  · intro hn
    apply Classical.byContradiction
    intro hc
    refine hn (fun f hf => ?_)
    have hf' := List.mem_range.1 hf
    intro hd
    refine hc ⟨true, ?_, rfl⟩
    have h1 : done[f]'(by omega) = false := by
      simpa [dB, List.getD, List.getElem?_eq_getElem (show f < done.length by omega)] using hd
    unfold freeL
    rw [List.mem_map]
    exact ⟨false, by rw [← h1]; exact List.getElem_mem _, rfl⟩
theorem setDone_snoc {done : List Bool} {rd : List Int} {m : Nat} (hl : m < done.length) : setDone done (rd ++ [(m : Int)]) = (setDone done rd).set m true := by
  have h := setDone_step (done := done) (rd := rd ++ [(m : Int)]) (i := rd.length) (m := m) (by simp) (by simp [List.getD]) hl
  rw [List.take_left] at h
  rw [← h, List.take_of_length_le (by simp)]
theorem setRate_snoc {rate : List (Int × Int)} {rd : List Int} {b : Int × Int} {m : Nat} (hl : m < rate.length) : setRate rate (rd ++ [(m : Int)]) b = (setRate rate rd b).set m b := by
  have h := setRate_step (rate := rate) (rd := rd ++ [(m : Int)]) (b := b) (i := rd.length) (m := m) (by simp) (by simp [List.getD]) hl
  rw [List.take_left] at h
  rw [← h, List.take_of_length_le (by simp)]
theorem roundTo_lt {paths : List (List Int)} {done : List Bool} {nar : Nat → Bool} {k : Nat} {x : Int} (h : x ∈ roundTo paths done nar k) : x < k := by
  unfold roundTo at h
  rw [List.mem_map] at h
  obtain ⟨a, ha, rfl⟩ := h
  rw [List.mem_filter, List.mem_range] at ha
  omega
theorem free_yet {paths : List (List Int)} {done : List Bool} {nar : Nat → Bool} {k : Nat} (hk : k < done.length) : dB (setDone done (roundTo paths done nar k)) k = dB done k := by
  rw [dB_setDone hk]
  have : ¬ ((k : Int) ∈ roundTo paths done nar k) := fun h => by have := roundTo_lt h; omega
  simp [this]
theorem setDone_length (done : List Bool) (rd : List Int) : (setDone done rd).length = done.length := by simp [setDone]
theorem setRate_length (rate : List (Int × Int)) (rd : List Int) (b : Int × Int) : (setRate rate rd b).length = rate.length := by simp [setRate]
end Fl
end Go.Proofs.YtdldgefahgojaakDoor

/- What is asked of package fill's Rates, as the document says it. -/
namespace Go.Proofs.YtdldgefahgojaakDoor
namespace Fl
open Go.RowKit Fr Ns Ld

def RatesSaid : Prop := ∀ (Q : Nat → Prop) (caps : List Int) (paths : List (List Int)) (v : Value) (w : World), NetAt Q w v caps paths →
  Calls Tryd.prog 29 #[v] w fun e w' => ∃ y, e = .returned (.tuple #[y, errV (netE caps paths)]) ∧
    FracsAt (fun b => w.heap.size ≤ b) w' y (okL (netE caps paths) (fill caps paths).1) ∧ Below w.heap.size w w'
end Fl
end Go.Proofs.YtdldgefahgojaakDoor

/- A region whose order Go leaves open, whose operations only read and whose calls make memory of their own alone: walked once, in the order of the text. -/
namespace Go.Proofs.YtdldgefahgojaakDoor
namespace Ev
open Go.RowKit

/-- a world later than W: all that was there in W is as it was -/
structure Lat (W : World) where
  u : World
  b : Below W.heap.size W u
theorem wp_region_lat {P : Program} {id : Nat} {Q : Exit → Act → World → Prop} {a : Act} {w : World} {l : List Oper} (hm : P.follows .mixedOrders = true) (hB : Region.lexB .any l.toArray = true)
    (h : wpQuiet P l.toArray (fun u => ∃ x : Lat w, u = x.u) (fun a' => ∀ w', (∃ x : Lat w, w' = x.u) → Q .normal a' w') l a) : (Code.region id l.toArray true).wp P Q a w :=
  wp_region_quiet (C := fun u => ∃ x : Lat w, u = x.u) hm hB ⟨⟨w.drew, (Below.refl _ _).drew⟩, rfl⟩ (by simpa using h)
theorem lat_of {P : Program} {f : FuncId} {args : Array Value} {W : World} {x : Lat W} {v : Value} (h : Calls P f args x.u fun e w' => e = .returned v ∧ Below x.u.heap.size x.u w') : Calls P f args x.u fun e w'' => e = .returned v ∧ ∃ y : Lat W, w'' = y.u :=
  h.mono fun _ w' ⟨he, hb⟩ => ⟨he, ⟨w', x.b.trans (hb.mono x.b.size)⟩, rfl⟩
theorem Lat.cell {W : World} (x : Lat W) {a : Addr} {v : Value} (h : W.cell? a = some v) : x.u.cell? a = some v := cell_later x.b h
end Ev
end Go.Proofs.YtdldgefahgojaakDoor

/- A range over a function that hands on one thing after the other: what the iterator promises (the k-th round is of the k-th thing, so a body is asked of the next thing alone), and the statement. -/
namespace Go.Proofs.YtdldgefahgojaakDoor
namespace Ev
open Go Go.RowKit
set_option linter.unusedVariables false
set_option linter.unusedSimpArgs false

/-- blocks that are as they were -/
def Stays (G : Nat → Prop) (U U' : World) : Prop := ∀ b, G b → U'.heap[b]? = U.heap[b]?
theorem Stays.refl (G : Nat → Prop) (U : World) : Stays G U U := fun _ _ => rfl
theorem Stays.trans {G : Nat → Prop} {U V X : World} (h : Stays G U V) (k : Stays G V X) : Stays G U X := fun b hb => (k b hb).trans (h b hb)
/-- what is said of a world whatever becomes of the blocks of G -/
def Firm (G : Nat → Prop) (J : Nat → World → Prop) : Prop := ∀ k U U', J k U → ButIn G U U' → J k U'
/-- the iterator gf with these bindings goes over item 0 .. item (N - 1): it reads the blocks of G, writes none but those of Gw, and stops where a round says so -/
def SeqGo (P : Program) (gf : Nat) (lb : Array Value) (item : Nat → Array Value) (N : Nat) (G Gw : Nat → Prop) (w : World) : Prop :=
  ∀ (l : Nat) (J Jx : Nat → World → Prop) (W : World), Below w.heap.size w W → Firm Gw J → Firm Gw Jx →
    (∀ k U, k < N → J k U → YieldAt Fence.wide 3 P l (item k) U fun e U' => (e = .returned (.bool true) ∧ J (k + 1) U' ∧ Stays G U U') ∨ (e = .returned (.bool false) ∧ Jx (k + 1) U')) →
    J 0 W → CallsIn Fence.wide 4 P gf (#[.func (.yield l) #[] #[]] ++ lb) W fun e W' => (∃ v, e = .returned v) ∧ (J N W' ∨ ∃ k, k ≤ N ∧ Jx k W')
/-- how a round's body is left -/
def roundEnd (H : Nat → Prop) (I : Nat → World → Prop) (Ix : Code → Nat → World → Prop) (k : Nat) (U : World) : Exit → Act → World → Prop
  | .normal, _, U' => Stays H U U' ∧ I k U'
  | .ret, _, U' => Stays H U U' ∧ Ix .ret k U'
  | .exit id, _, U' => Stays H U U' ∧ Ix (.exit id) k U'
  | .goto t, _, U' => Stays H U U' ∧ Ix (.goto t) k U'
  | .panic _, _, _ => False
  | .outgrown, _, _ => False
theorem butIn_put (H : Nat → Prop) (U : World) (l : Nat) (o : Obj) (hl : H l) : ButIn H U (U.putObj l o) :=
  ⟨⟨rfl, rfl, rfl, by simp, fun k hk => absurd hk (Nat.not_lt_zero k)⟩, fun b _ hb => World.putObj_heap_other (fun e => hb (e ▸ hl))⟩
theorem butIn_alloc (H : Nat → Prop) (U : World) (o : Obj) : ButIn H U (U.alloc o) := ButIn.of_below ((Below.refl _ _).alloc (Nat.le_refl _) o)

/-- the loop's own two blocks -/
def loopB (w : World) (b : Nat) : Prop := b = w.heap.size ∨ b = w.heap.size + 1

theorem range_go {P : Program} {g : Operand} {ps : Array Tmp} {assign body : Code} {Q : Exit → Act → World → Prop} {a : Act} {w : World} {gf : Nat} {lb : Array Value} {item : Nat → Array Value} {N : Nat} {G Gw : Nat → Prop}
    (hg : a.eval g = .func (.func gf) #[] lb) (eg : ∀ args u, (callFunc gf args).run P u = .ok (.enter gf args) u) (hseq : SeqGo P gf lb item N G Gw w) (hps : ∀ k, (item k).size = ps.size)
    (hG : ∀ b, G b → b < w.heap.size) (hGw : ∀ b, Gw b → b < w.heap.size)
    (I : Nat → World → Prop) (Ix : Code → Nat → World → Prop) (hI : Firm (fun b => Gw b ∨ loopB w b) I) (hIx : ∀ c, Firm (fun b => Gw b ∨ loopB w b) (Ix c)) (h0 : I 0 w)
    (Ax : Nat → Act → World → Prop) (hAx : ∀ k a' U U', Ax k a' U → ButIn (loopB w) U U' → Ax k a' U')
    (hassign : ∀ (k : Nat) (U : World) (K : Act → World → Prop), k < N → I k U → (∀ a' U', Stays (fun b => G b ∨ loopB w b) U U' → I k U' → Ax k a' U' → K a' U') →
      assign.wpIn (Fence.wide.inRound (w.heap.size + 1)) 3 P (Exit.then K (fun _ _ _ => False)) { tmps := (ps.zip (item k)).foldl (fun t (p, v) => t.setIfInBounds p v) a.tmps, defers := [] } U)
    (hbody : ∀ (k : Nat) (a' : Act) (U : World), k < N → w.heap.size + 1 < U.heap.size → I k U → Ax k a' U → body.wpIn (Fence.wide.inRound (w.heap.size + 1)) 3 P (roundEnd (fun b => G b ∨ loopB w b) I Ix (k + 1) U) a' U)
    (hdone : ∀ U : World, I N U → U.heap[w.heap.size]? = some (.deferred (some [])) → Q .normal { a with defers := { target := .collected w.heap.size, args := #[] } :: a.defers } U)
    (hstop : ∀ (c : Code) (k : Nat) (U : World), k ≤ N → Ix c k U → U.heap[w.heap.size]? = some (.deferred (some [])) → c.wpIn Fence.wide 5 P Q { a with defers := { target := .collected w.heap.size, args := #[] } :: a.defers } U) :
    (Code.rangeFunc g ps assign body).wpIn Fence.wide 5 P Q a w := by
  refine wpIn_rangeFunc fun fn hfn => ?_
  -- the record of the loop, in each of its states
  let R : LoopState → Option Code → Obj := fun s j => .loop { state := s, pending := j, fn, tmps := a.tmps, params := ps, assign, body, defers := w.heap.size }
  let B : World → Prop := fun U => U.heap[w.heap.size]? = some (.deferred (some []))
  let W1 : World := (w.alloc (.deferred (some []))).alloc (R .ready none)
  have e1 : W1.heap[w.heap.size + 1]? = some (R .ready none) := by
    have := World.alloc_heap_new (w.alloc (.deferred (some []))) (R .ready none)
    rwa [World.size_alloc] at this
  have e0 : B W1 := (Below.heap_alloc _ _ _ (by simp)).trans (World.alloc_heap_new w _)
  have hw1 : Below w.heap.size w W1 := ((Below.refl _ w).alloc (Nat.le_refl _) _).alloc (by simp) _
  have hi1 : I 0 W1 := hI _ _ _ (hI _ _ _ h0 (butIn_alloc _ _ _)) (butIn_alloc _ _ _)
  have rl : loopB w (w.heap.size + 1) := .inr rfl
  -- what stays of the two blocks where only the iterator's own have changed
  have hlw : ∀ {U U' : World} {b : Nat} {o : Obj}, loopB w b → ButIn Gw U U' → U.heap[b]? = some o → U'.heap[b]? = some o := fun hb h ho =>
    (h.2 _ (Array.getElem?_eq_some_iff.1 ho).1 (fun hgw => by have := hGw _ hgw; rcases hb with rfl | rfl <;> omega)).trans ho
  have hIg : ∀ {k : Nat} {U U' : World}, I k U → ButIn Gw U U' → I k U' := fun h hb => hI _ _ _ h ⟨hb.1, fun b hb1 hb2 => hb.2 b hb1 (fun q => hb2 (.inl q))⟩
  refine ⟨w.heap.size + 1, [{ target := .collected w.heap.size, args := #[] }], W1, { target := .fn (.func gf) lb, args := #[.func (.yield (w.heap.size + 1)) #[] #[]] }, W1, gf,
    #[.func (.yield (w.heap.size + 1)) #[] #[]] ++ lb, W1, run_enterLoop_outer _ _ _ _ _, by simp only [resolve, hg]; simp [go_sem], fun _ _ => trivial, by simp [invoke, go_sem, eg], fun _ => by decide, ?_⟩
  refine (hseq (w.heap.size + 1) (fun k U => I k U ∧ U.heap[w.heap.size + 1]? = some (R .ready none) ∧ B U) (fun k U => ∃ c, Ix c k U ∧ U.heap[w.heap.size + 1]? = some (R .done (some c)) ∧ B U) W1 hw1
    (fun k U U' h hb => ⟨hIg h.1 hb, hlw rl hb h.2.1, hlw (.inl rfl) hb h.2.2⟩)
    (fun k U U' ⟨c, h1, h2, h3⟩ hb => ⟨c, hIx c _ _ _ h1 ⟨hb.1, fun b hb1 hb2 => hb.2 b hb1 (fun q => hb2 (.inl q))⟩, hlw rl hb h2, hlw (.inl rfl) hb h3⟩) ?_ ⟨hi1, e1, e0⟩).mono ?_
  · -- a round
    rintro k U hk ⟨hi, hr, hd⟩
    refine ⟨fn, _, assign, body, run_yield hr (hps k), roundIn_of_wpIn hfn (hassign k U _ hk hi ?_)⟩
    intro a' V hsv hiv hav
    have hrv : V.heap[w.heap.size + 1]? = some (R .ready none) := (hsv _ (.inr rl)).trans hr
    have hdv : B V := (hsv _ (.inr (.inl rfl))).trans hd
    have hlt : w.heap.size + 1 < V.heap.size := (Array.getElem?_eq_some_iff.1 hrv).1
    refine ⟨_, run_beginRound hrv rfl, ?_⟩
    obtain ⟨X, hX⟩ : ∃ X, X = V.putObj (w.heap.size + 1) (R .busy none) := ⟨_, rfl⟩
    have hrx : X.heap[w.heap.size + 1]? = some (R .busy none) := by rw [hX]; exact World.putObj_heap_same hlt
    have hdx : B X := by rw [hX]; exact (World.putObj_heap_other (by omega)).trans hdv
    have hix : I k X := by rw [hX]; exact hI _ _ _ hiv (butIn_put _ _ _ _ (.inr rl))
    have hax : Ax k a' X := by rw [hX]; exact hAx _ _ _ _ hav (butIn_put _ _ _ _ rl)
    have hgx : Stays G U X := fun b hb => by rw [hX]; exact (World.putObj_heap_other (by have := hG b hb; omega)).trans (hsv b (.inl hb))
    show body.wpIn _ _ _ _ _ (V.putObj (w.heap.size + 1) (R .busy none))
    rw [← hX]
    refine wpIn_mono (hbody k a' X hk (Array.getElem?_eq_some_iff.1 hrx).1 hix hax) ?_
    -- the round's end, whichever way its body is left
    have fin : ∀ (j : Option Code) (Y : World), Stays (fun b => G b ∨ loopB w b) X Y → ∃ Z, Z = Y.putObj (w.heap.size + 1) (R (if j.isNone then .ready else .done) j) ∧ (Instr.endRound (w.heap.size + 1) j).run P Y = .ok (.bool j.isNone) Z ∧
        Z.heap[w.heap.size + 1]? = some (R (if j.isNone then .ready else .done) j) ∧ B Z ∧ Stays G U Z := fun j Y hy => by
      have hry : Y.heap[w.heap.size + 1]? = some (R .busy none) := (hy _ (.inr rl)).trans hrx
      refine ⟨_, rfl, run_endRound j hry, World.putObj_heap_same (Array.getElem?_eq_some_iff.1 hry).1, (World.putObj_heap_other (by omega)).trans ((hy _ (.inr (.inl rfl))).trans hdx), fun b hb => ?_⟩
      exact (World.putObj_heap_other (by have := hG b hb; omega)).trans ((hy b (.inl hb)).trans (hgx b hb))
    intro e a3 Y hp
    match e, hp with
    | .normal, hp =>
      obtain ⟨Z, hZ, h1, h2, h3, h4⟩ := fin none Y hp.1
      exact ⟨_, _, h1, .inl ⟨rfl, ⟨by rw [hZ]; exact hI _ _ _ hp.2 (butIn_put _ _ _ _ (.inr rl)), h2, h3⟩, h4⟩⟩
    | .ret, hp =>
      obtain ⟨Z, hZ, h1, h2, h3, h4⟩ := fin (some .ret) Y hp.1
      exact ⟨_, _, h1, .inr ⟨rfl, _, by rw [hZ]; exact hIx _ _ _ _ hp.2 (butIn_put _ _ _ _ (.inr rl)), h2, h3⟩⟩
    | .exit id, hp =>
      obtain ⟨Z, hZ, h1, h2, h3, h4⟩ := fin (some (.exit id)) Y hp.1
      exact ⟨_, _, h1, .inr ⟨rfl, _, by rw [hZ]; exact hIx _ _ _ _ hp.2 (butIn_put _ _ _ _ (.inr rl)), h2, h3⟩⟩
    | .goto t, hp =>
      obtain ⟨Z, hZ, h1, h2, h3, h4⟩ := fin (some (.goto t)) Y hp.1
      exact ⟨_, _, h1, .inr ⟨rfl, _, by rw [hZ]; exact hIx _ _ _ _ hp.2 (butIn_put _ _ _ _ (.inr rl)), h2, h3⟩⟩
    | .panic _, hp => exact hp.elim
    | .outgrown, hp => exact hp.elim
  · -- behind the iterator
    rintro e U ⟨⟨v, rfl⟩, h⟩
    rcases h with ⟨hi, hr, hd⟩ | ⟨k, hk, c, hi, hr, hd⟩
    · exact ⟨none, _, run_endLoop hr (by simp), hdone _ (hI _ _ _ hi (butIn_put _ _ _ _ (.inr rl))) ((World.putObj_heap_other (by omega)).trans hd)⟩
    · exact ⟨some c, _, run_endLoop hr (by simp), hstop c k _ hk (hIx _ _ _ _ hi (butIn_put _ _ _ _ (.inr rl))) ((World.putObj_heap_other (by omega)).trans hd)⟩
end Ev
end Go.Proofs.YtdldgefahgojaakDoor

/- From the reading of an argument to what a walk is told of it: a list of ints. -/
namespace Go.Proofs.YtdldgefahgojaakDoor
namespace Ns
open Go.ChangeShapes Go.WideShapes Go.ChangeAt Go.RowKit Go.Joins Go.Deep
set_option linter.unusedVariables false
set_option linter.unusedSimpArgs false

theorem cellsInt : Tryd.prog.cellsOf 3 = 1 := by kernel_rfl

theorem addr_none {w : World} {a : Addr} {v : Value} (h : w.cell? (a.add 0) = some v) : ∃ b off, a = ⟨b, off, none⟩ := by
  obtain ⟨b, off, spot⟩ := a
  have hs : spot = none := by simpa [Addr.add] using World.cell?_spot h
  subst hs
  exact ⟨b, off, rfl⟩
theorem add_addr' (b off i : Nat) : (⟨b, off, none⟩ : Addr).add i = ⟨b, off + i, none⟩ := by unfold Addr.add; split <;> simp_all

/-- a slice of ints, by its address, its cells and their numbers -/
theorem intsAt_of {w : World} {a : Option Addr} {len cap : Nat} {zs : List Int} (hl : len ≤ cap) (hm : cap ≤ maxLen) (hz : zs.length = cap) (h0 : a = none → cap = 0)
    (h : ∀ a', a = some a' → ∀ c, c < cap → w.cell? (a'.add c) = some (.int .i64 (zs.getD c 0))) : IntsAt (fun b => b < w.heap.size) w (.slice a len cap) (zs.take len) := by
  have hlen : (zs.take len).length = len := by rw [List.length_take]; omega
  unfold maxLen at hm
  refine ⟨a, cap, by rw [hlen], ⟨by omega, by omega⟩, ?_⟩
  by_cases hz0 : len = 0
  · exact .inl (by rw [hz0]; rfl)
  · right
    cases a with
    | none => have := h0 rfl; omega
    | some a' =>
      obtain ⟨b, off, rfl⟩ := addr_none (h a' rfl 0 (by omega))
      refine ⟨b, off, rfl, fun i hi => ?_, World.block_lt_of_cell? _ _ (h _ rfl 0 (by omega))⟩
      have := h _ rfl i (by omega)
      rw [add_addr'] at this
      rw [this]
      congr 2
      simp [List.getD, List.getElem?_take, show i < len by omega]

variable {H : Type} {enc : TypeId × Value → H}

theorem ints_of_trod {w : World} {n : Nat} {v : Value} {y : DataW H × List MemPlace} (h : DataW.trod enc Tryd.prog w 0 (fun _ => true) true n 27 [v] = some y) : ∃ l, IntsAt (fun b => b < w.heap.size) w v l := by
  rcases open_ints Tryd.underlying27 Tryd.underlying3 cellsInt h with ⟨hcs, _⟩ | ⟨a, len, cap, zs, hcs, _, hl, hm, hz, _, hcell, hwz⟩
  · simp at hcs
    subst hcs
    exact ⟨[], none, 0, rfl, ⟨Nat.le_refl _, by simp⟩, .inl rfl⟩
  · simp at hcs
    subst hcs
    have hz' : zs.length = cap := by simpa using hz
    exact ⟨_, intsAt_of hl hm hz' (by intro h; cases h) (fun a' ha c hc => by cases ha; exact hcell c (by omega))⟩

set_option maxRecDepth 100000 in
theorem intsArg_of_trod {w : World} {base : Nat} {v : Value} {d : DataW H} {p : List MemPlace} (hv : Value.okWide Tryd.prog w .any base 27 v) (h : DataW.Trod enc Tryd.prog w 0 (fun _ => true) true 27 v d p) : ∃ l, IntsAt (fun b => b < w.heap.size) w v l := by
  obtain ⟨a, len, cap, rfl⟩ := okWide_slice Tryd.underlying27 hv
  obtain ⟨fuel, hf⟩ := h
  exact ints_of_trod (by simpa [Value.cells] using hf)
/-- and each of its numbers is one of 64 bits -/
theorem wf_le {n : Int} (h : (Lit.int .i64 n).wf = true) : n ≤ 9223372036854775807 := by
  have h' : (decide (IntKind.i64.min ≤ n) && decide (n ≤ IntKind.i64.max)) = true := h
  rw [Bool.and_eq_true] at h'
  have := of_decide_eq_true h'.2
  have e : IntKind.i64.max = 9223372036854775807 := by decide
  omega
set_option maxRecDepth 100000 in
theorem intsArgIn_of_trod {w : World} {base : Nat} {v : Value} {d : DataW H} {p : List MemPlace} (hv : Value.okWide Tryd.prog w .any base 27 v) (h : DataW.Trod enc Tryd.prog w 0 (fun _ => true) true 27 v d p) : ∃ l, IntsAt (fun b => b < w.heap.size) w v l ∧ ∀ x ∈ l, x ≤ 9223372036854775807 := by
  obtain ⟨a, len, cap, rfl⟩ := okWide_slice Tryd.underlying27 hv
  obtain ⟨fuel, hf⟩ := h
  have hf' : DataW.trod enc Tryd.prog w 0 (fun _ => true) true fuel 27 [.slice a len cap] = some (d, p) := by simpa [Value.cells] using hf
  rcases open_ints Tryd.underlying27 Tryd.underlying3 cellsInt hf' with ⟨hcs, _⟩ | ⟨a', len', cap', zs, hcs, _, hl, hm, hz, _, hcell, hwz⟩
  · simp only [List.cons.injEq, and_true] at hcs
    rw [hcs]
    exact ⟨[], ⟨none, 0, rfl, ⟨Nat.le_refl _, by simp⟩, .inl rfl⟩, fun x hx => by simp at hx⟩
  · simp only [List.cons.injEq, and_true] at hcs
    rw [hcs]
    have hz' : zs.length = cap' := by simpa using hz
    exact ⟨_, intsAt_of hl hm hz' (by intro h; cases h) (fun a'' ha c hc => by cases ha; exact hcell c (by omega)), fun x hx => wf_le (hwz x (List.mem_of_mem_take hx))⟩
end Ns
end Go.Proofs.YtdldgefahgojaakDoor

/- From the reading of an argument to what a walk is told of it: a list of lists, a net. -/
namespace Go.Proofs.YtdldgefahgojaakDoor
namespace Ns
open Go.ChangeShapes Go.WideShapes Go.ChangeAt Go.RowKit Go.Joins Go.Deep
set_option linter.unusedVariables false
set_option linter.unusedSimpArgs false

theorem cellsInts : Tryd.prog.cellsOf 27 = 1 := by kernel_rfl
theorem cellsNet : Tryd.prog.cellsOf 45 = 2 := by kernel_rfl
variable {H : Type} {enc : TypeId × Value → H}

theorem lists_of_trod {w : World} {n : Nat} {v : Value} {y : DataW H × List MemPlace} (h : DataW.trod enc Tryd.prog w 0 (fun _ => true) true n 39 [v] = some y) : ∃ ll, ListsAt (fun b => b < w.heap.size) w v ll := by
  rcases open_int_rows Tryd.underlying39 Tryd.underlying27 Tryd.underlying3 cellsInts cellsInt h with ⟨hcs, _⟩ | ⟨a, len, cap, A, L, C, Z, hcs, _, hl, hm, _, hr⟩
  · simp at hcs
    subst hcs
    exact ⟨[], none, 0, rfl, ⟨Nat.le_refl _, by simp⟩, .inl rfl⟩
  · simp at hcs
    subst hcs
    have hlen : ((List.range len).map (fun r => (Z r).take (L r))).length = len := by simp
    refine ⟨(List.range len).map (fun r => (Z r).take (L r)), some a, cap, by rw [hlen], ⟨by omega, by unfold maxLen at hm; omega⟩, ?_⟩
    by_cases hz0 : len = 0
    · exact .inl (by rw [hz0]; rfl)
    · right
      obtain ⟨b, off, rfl⟩ := addr_none (hr 0 (by omega)).1
      refine ⟨b, off, rfl, fun i hi => ?_, World.block_lt_of_cell? _ _ (hr 0 (by omega)).1⟩
      rw [hlen] at hi
      obtain ⟨h1, h2, h3, h4, _, h6, h7⟩ := hr i (by omega)
      rw [add_addr'] at h1
      refine ⟨_, h1, ?_⟩
      have e : ((List.range len).map (fun r => (Z r).take (L r))).getD i [] = (Z i).take (L i) := by simp [List.getD, List.getElem?_range hi]
      rw [e]
      exact intsAt_of h2 h3 h4 h6 (fun a' ha c hc => (h7 a' ha).2 c hc)

set_option maxRecDepth 100000 in
theorem listsArg_of_trod {w : World} {base : Nat} {v : Value} {d : DataW H} {p : List MemPlace} (hv : Value.okWide Tryd.prog w .any base 39 v) (h : DataW.Trod enc Tryd.prog w 0 (fun _ => true) true 39 v d p) : ∃ ll, ListsAt (fun b => b < w.heap.size) w v ll := by
  obtain ⟨a, len, cap, rfl⟩ := okWide_slice Tryd.underlying39 hv
  obtain ⟨fuel, hf⟩ := h
  exact lists_of_trod (by simpa [Value.cells] using hf)

set_option maxRecDepth 100000 in
theorem net_of_trod {w : World} {base : Nat} {v : Value} {d : DataW H} {p : List MemPlace} (hv : Value.okWide Tryd.prog w .any base 45 v) (h : DataW.Trod enc Tryd.prog w 0 (fun _ => true) true 45 v d p) : ∃ caps paths, NetAt (fun b => b < w.heap.size) w v caps paths := by
  obtain ⟨c0, c1, y0, y1, m, rfl, rfl, rfl, hy0, hy1⟩ := open_agg2 Tryd.underlying45 (by kernel_rfl) cellsNet hv h
  obtain ⟨l, hl⟩ := ints_of_trod hy0
  obtain ⟨ll, hll⟩ := lists_of_trod hy1
  exact ⟨l, ll, c0, c1, rfl, hl, hll⟩

end Ns
end Go.Proofs.YtdldgefahgojaakDoor
