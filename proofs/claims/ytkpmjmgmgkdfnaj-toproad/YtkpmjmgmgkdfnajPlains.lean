/- Facts and contracts that the walks lean on, one text behind the other; no walk of Go in them. -/
import Derived.Test.YtkpmjmgmgkdfnajPlainsA
import Derived.OwnWalk
import Derived.ArgAppend
import Derived.ProofKit
import Derived.OpenShut
import Derived.Lib.SmallJoins
import Derived.Deep.Matrix
import Derived.Deep.SlicePairs
/- Over one link all get alike, in one round. No Go in it. -/
namespace Go.Proofs.Ytkpmjmgmgkdfnaj.Fl
open Fr Ns Ld
set_option linter.unusedSimpArgs false

theorem usersFrom_alike : ∀ (m i : Nat), usersFrom 0 i (List.replicate m [0]) = (List.range m).map fun j : Nat => ((i + j : Nat) : Int) := by
  intro m
  induction m with
  | zero => intro i; rfl
  | succ m ih =>
    intro i
    rw [List.replicate_succ, usersFrom, if_pos (by decide), ih, List.range_succ_eq_map, List.map_cons, List.map_map]
    congr 1
    apply List.map_congr_left
    intro j _
    simp only [Function.comp]
    congr 1
    omega
theorem usN_alike (m : Nat) : usN (List.replicate m [0]) 0 = List.range m := by
  unfold usN users
  rw [show ((0 : Nat) : Int) = 0 from rfl, usersFrom_alike, List.map_map]
  apply List.ext_getElem
  · simp
  · intro i h1 h2
    simp
theorem sumQ_const {x : Nat → Rat} {q : Rat} : ∀ l : List Nat, (∀ g ∈ l, x g = q) → sumQ x l = q * (l.length : Nat) := by
  intro l
  induction l with
  | nil => intro _; simp [sumQ]
  | cons u us ih =>
    intro h
    simp only [sumQ, List.length_cons]
    rw [h u (by simp), ih (fun g hg => h g (by simp [hg])), Rat.natCast_add]
    grind
theorem one_round {x : Nat → Rat} {q b : Rat} {rs : List (List Int)} (hr : Rises x b rs) (hn : rs.flatten ≠ []) (hq : ∀ u ∈ rs.flatten, x u.toNat = q) : rs.length = 1 := by
  cases rs with
  | nil => simp at hn
  | cons a rs =>
    cases rs with
    | nil => rfl
    | cons c rs =>
      exfalso
      obtain ⟨h1, v, _, hv, h2, v', hlt, hv', _⟩ := hr
      obtain ⟨u, hu⟩ := List.exists_mem_of_ne_nil _ h1
      obtain ⟨u', hu'⟩ := List.exists_mem_of_ne_nil _ h2
      have e1 := hq u (by simp [hu])
      have e2 := hq u' (by simp [hu'])
      rw [hv u hu] at e1
      rw [hv' u' hu'] at e2
      grind
theorem good_alike {c : Int} {m : Nat} (h1 : 1 ≤ c) (h2 : c ≤ 1000) (m1 : 1 ≤ m) (m6 : m ≤ 6) : Good [c] (List.replicate m [0]) := by
  refine ⟨fun x hx => ?_, fun p hp => ?_, by simpa using m6, by simp; omega⟩
  · simp at hx; subst hx; exact ⟨h1, h2⟩
  · rw [List.eq_of_mem_replicate hp]
    refine ⟨by decide, fun x hx => ?_⟩
    simp at hx
    subst hx
    simp
theorem fill_alike {c : Int} {m : Nat} (h1 : 1 ≤ c) (h2 : c ≤ 1000) (m1 : 1 ≤ m) (m6 : m ≤ 6) :
    (fill [c] (List.replicate m [0])).1 = List.replicate m (lowT c m, lowB c m) ∧ (fill [c] (List.replicate m [0])).2.length = 1 := by
  have hg := good_alike h1 h2 m1 m6
  obtain ⟨hx, hr, _, hfl⟩ := fill_fair hg
  have hm : (1 : Int) ≤ (m : Int) := by omega
  have hq : val (lowT c m, lowB c m) * ((m : Int) : Rat) = (c : Rat) := by
    rw [val_low hm]
    exact val_mul (a := (c, (m : Int))) hm
  have hmp := castPos hm
  have hc0 : (0 : Rat) < (c : Rat) := castPos h1
  have hq0 : 0 ≤ val (lowT c m, lowB c m) := by
    apply Classical.byContradiction
    intro hn
    have : val (lowT c m, lowB c m) * ((m : Int) : Rat) ≤ 0 * ((m : Int) : Rat) := Rat.mul_le_mul_of_nonneg_right (by grind) (Rat.le_of_lt hmp)
    rw [hq, Rat.zero_mul] at this
    grind
  have hlen : (List.replicate m ([0] : List Int)).length = m := by simp
  have hxr : ∀ f, f < m → xQ (List.replicate m (lowT c m, lowB c m)) f = val (lowT c m, lowB c m) := fun f hf => by
    unfold xQ rP; rw [getD_replicate _ _ _ _ hf]
  have hs : sumQ (xQ (List.replicate m (lowT c m, lowB c m))) (usN (List.replicate m [0]) 0) = capQ [c] 0 := by
    rw [usN_alike, sumQ_const _ (fun g hg => hxr g (List.mem_range.1 hg)), List.length_range]
    have : ((m : Nat) : Rat) = ((m : Int) : Rat) := by rw [Rat.intCast_natCast]
    rw [this, hq]; rfl
  have hfit : FitsQ (usN (List.replicate m [0])) (capQ [c]) ([c] : List Int).length (List.replicate m ([0] : List Int)).length (xQ (List.replicate m (lowT c m, lowB c m))) := by
    refine ⟨fun f hf => ?_, fun l hl => ?_⟩
    · rw [hlen] at hf; rw [hxr f hf]; exact hq0
    · have : l = 0 := by simpa using hl
      subst this
      rw [hs]; exact Rat.le_refl
  have hnk : ∀ f, f < (List.replicate m ([0] : List Int)).length → NeckQ (usN (List.replicate m [0])) (capQ [c]) ([c] : List Int).length (xQ (List.replicate m (lowT c m, lowB c m))) f := by
    intro f hf
    rw [hlen] at hf
    refine ⟨0, by simp, by rw [usN_alike]; exact List.mem_range.2 hf, hs, fun g hg => ?_⟩
    rw [usN_alike] at hg
    rw [hxr f hf, hxr g (List.mem_range.1 hg)]
    exact Rat.le_refl
  have he := only (fun l _ g hg => usN_lt hg) hfit hx.fits hnk hx.neck
  rw [hlen] at he
  have hfq : faultP (lowT c m, lowB c m) = 0 := by
    have h3 : val (lowT c m, lowB c m) ≤ 1000 := by
      have := (hx.right 0 (by rw [hlen]; omega)).2.2
      rw [← he 0 (by omega), hxr 0 (by omega)] at this
      exact this
    exact over_fault (D := (m : Int)) (over_of (m := c) hm rfl) hm (by omega) hq0 h3
  refine ⟨?_, ?_⟩
  · apply List.ext_getElem
    · rw [hx.len]; simp
    · intro i i1 i2
      have hi : i < m := by simpa using i2
      have e := he i hi
      rw [hxr i hi] at e
      have := val_inj' (hx.right i (by rw [hlen]; exact hi)).1 hfq e.symm
      simpa [rP, List.getD, List.getElem?_eq_getElem i1] using this
  · refine one_round hr ?_ (q := val (lowT c m, lowB c m)) (fun u hu => ?_)
    · intro e
      have := (hfl 0).2 ⟨0, rfl, by rw [hlen]; omega⟩
      rw [e] at this
      cases this
    · obtain ⟨f, rfl, hf⟩ := (hfl u).1 hu
      rw [hlen] at hf
      have e : ((f : Int)).toNat = f := by omega
      rw [e, ← he f hf, hxr f hf]
end Go.Proofs.Ytkpmjmgmgkdfnaj.Fl

/- Short lists that a law writes out, in the memory that it made for them. -/
namespace Go.Proofs.Ytkpmjmgmgkdfnaj
namespace Ld
open Go.RowKit Fr Ns
set_option linter.unusedSimpArgs false
set_option linter.unusedVariables false

theorem lit_int1 (w : World) (g : Nat) (x : Int) (h : w.cell? ⟨g, 0, none⟩ = some (.int .i64 x)) : IntsAt (fun _ => True) w (.slice (some ⟨g, 0, none⟩) 1 1) [x] :=
  ⟨_, 1, rfl, ⟨Nat.le_refl _, by simp⟩, .inr ⟨g, 0, rfl, fun i hi => by
    match i, hi with
    | 0, _ => simpa using h, trivial⟩⟩
theorem lit_lists2 (w : World) (g : Nat) (x y : Value) (l m : List Int) (h0 : w.cell? ⟨g, 0, none⟩ = some x) (h1 : w.cell? ⟨g, 1, none⟩ = some y) (hx : IntsAt (fun _ => True) w x l) (hy : IntsAt (fun _ => True) w y m) : ListsAt (fun _ => True) w (.slice (some ⟨g, 0, none⟩) 2 2) [l, m] :=
  ⟨_, 2, rfl, ⟨Nat.le_refl _, by simp⟩, .inr ⟨g, 0, rfl, fun i hi => by
    match i, hi with
    | 0, _ => exact ⟨x, by simpa using h0, hx⟩
    | 1, _ => exact ⟨y, by simpa using h1, hy⟩, trivial⟩⟩
theorem lit_fracs2 (w : World) (g : Nat) (a b c d : Int) (h0 : w.cell? ⟨g, 0, none⟩ = some (.int .i64 a)) (h1 : w.cell? ⟨g, 1, none⟩ = some (.int .i64 b)) (h2 : w.cell? ⟨g, 2, none⟩ = some (.int .i64 c)) (h3 : w.cell? ⟨g, 3, none⟩ = some (.int .i64 d)) : FracsAt (fun _ => True) w (.slice (some ⟨g, 0, none⟩) 2 2) [(a, b), (c, d)] :=
  ⟨_, 2, rfl, ⟨Nat.le_refl _, by simp⟩, .inr ⟨g, 0, rfl, fun i hi => by
    match i, hi with
    | 0, _ => exact ⟨by simpa using h0, by simpa using h1⟩
    | 1, _ => exact ⟨by simpa using h2, by simpa using h3⟩, trivial⟩⟩
theorem cells_flat {w : World} {b off : Nat} {l : List (Int × Int)} (h : ∀ i, i < l.length → w.cell? ⟨b, off + i * 2, none⟩ = some (.int .i64 (l.getD i (0, 0)).1) ∧ w.cell? ⟨b, off + i * 2 + 1, none⟩ = some (.int .i64 (l.getD i (0, 0)).2)) :
    ∀ j y, (flat l)[j]? = some y → w.cell? ((⟨b, off, none⟩ : Addr).add j) = some y := by
  intro j y hj
  have hlt : j < (flat l).length := (List.getElem?_eq_some_iff.1 hj).1
  rw [flat_length] at hlt
  rw [add_addr]
  rcases Nat.mod_two_eq_zero_or_one j with hm | hm
  · have e : j = (j / 2) * 2 := by omega
    have h1 := (flat_at l (j / 2) (by omega)).1
    rw [← e] at h1
    rw [h1] at hj
    have h2 := (h (j / 2) (by omega)).1
    rw [← e] at h2
    rw [h2]
    exact hj
  · have e : j = (j / 2) * 2 + 1 := by omega
    have h1 := (flat_at l (j / 2) (by omega)).2
    rw [← e] at h1
    rw [h1] at hj
    have h2 := (h (j / 2) (by omega)).2
    rw [Nat.add_assoc, ← e] at h2
    rw [h2]
    exact hj
end Ld
end Go.Proofs.Ytkpmjmgmgkdfnaj

/- Rows of cells that a call makes and writes into: what a walk is told of them. -/
namespace Go.Proofs.Ytkpmjmgmgkdfnaj
namespace Fl
open Go.RowKit Ns
set_option linter.unusedSimpArgs false
set_option linter.unusedVariables false

/-- the block g holds these cells, and none of it is frozen -/
def RowAt (w : World) (g : Nat) (T : TypeId) (xs : List Value) : Prop := w.heap[g]? = some (.cells xs.toArray T (0, 0))
theorem RowAt.lt {w : World} {g : Nat} {T : TypeId} {xs : List Value} (h : RowAt w g T xs) : g < w.heap.size := (Array.getElem?_eq_some_iff.1 h).1
theorem RowAt.cell {w : World} {g : Nat} {T : TypeId} {xs : List Value} (h : RowAt w g T xs) {i : Nat} {v : Value} (hi : xs[i]? = some v) : w.cell? ⟨g, i, none⟩ = some v := by
  rw [cell_of_row w g i _ T (0, 0) h]
  simpa using hi
theorem RowAt.frozen {w : World} {g : Nat} {T : TypeId} {xs : List Value} (h : RowAt w g T xs) (i : Nat) : w.frozen? ⟨g, i, none⟩ = false := frozen_of_row w g i _ T h
theorem RowAt.set {w : World} {g : Nat} {T : TypeId} {xs : List Value} (h : RowAt w g T xs) (i : Nat) (v : Value) : RowAt (w.setCell ⟨g, i, none⟩ v) g T (xs.set i v) := by
  unfold RowAt
  rw [heap_setCell_same w g i _ T v h]
  simp
theorem RowAt.later {w w' : World} {g B : Nat} {T : TypeId} {xs : List Value} (hb : Below B w w') (hg : g < B) (h : RowAt w g T xs) : RowAt w' g T xs := by
  unfold RowAt
  rw [hb.block g hg]; exact h
theorem RowAt.other {w : World} {g : Nat} {T : TypeId} {xs : List Value} (h : RowAt w g T xs) {a : Addr} (ha : a.block ≠ g) (v : Value) : RowAt (w.setCell a v) g T xs := by
  unfold RowAt
  rw [Below.heap_setCell w a v g (fun e => ha e.symm)]; exact h
theorem RowAt.alloc {w : World} {g : Nat} {T : TypeId} {xs : List Value} (h : RowAt w g T xs) (o : Obj) : RowAt (w.alloc o) g T xs := h.later (((Below.refl w.heap.size w)).alloc (Nat.le_refl _) o) h.lt
theorem RowAt.new (w : World) (a : Array Value) (T : TypeId) : RowAt (w.alloc (.cells a T (0, 0))) w.heap.size T a.toList := by
  unfold RowAt
  rw [heap_alloc_new]
theorem RowAt.owns {w : World} {base g n size : Nat} {T : TypeId} {xs : List Value} (h : RowAt w g T xs) (hb : base ≤ g) (hl : xs.length = n * size) (hn : n ≤ maxLen) : w.ownsRow base T size (.slice (some ⟨g, 0, none⟩) n n) n xs := by
  refine ⟨hl, .inr ⟨g, n, xs.toArray, rfl, hb, h, Nat.le_refl _, hn, by simp [hl], by simp [← hl]⟩⟩
theorem RowAt.of_owns {w : World} {base g n size : Nat} {T : TypeId} {xs : List Value} (h : w.ownsRow base T size (.slice (some ⟨g, 0, none⟩) n n) n xs) : RowAt w g T xs := by
  obtain ⟨h0, h⟩ := h
  rcases h with ⟨e, _⟩ | ⟨g', cap, cur, e, hb, hg, hc, hm, hs, ht⟩
  · cases e
  · simp only [Value.slice.injEq, Option.some.injEq, Addr.mk.injEq, and_true, true_and] at e
    obtain ⟨rfl, rfl⟩ := e
    unfold RowAt
    rw [hg]
    have : cur.toList = xs := by
      have : cur.toList.take (n * size) = cur.toList := List.take_of_length_le (by simp [hs])
      rw [← this]; exact ht
    rw [← this]
/-- the cells of a row of three -/
theorem RowAt.three {w : World} {g : Nat} {T : TypeId} {a b c : Value} (h : RowAt w g T [a, b, c]) : w.cell? ⟨g, 0, none⟩ = some a ∧ w.cell? ⟨g, 1, none⟩ = some b ∧ w.cell? ⟨g, 2, none⟩ = some c ∧ w.frozen? ⟨g, 0, none⟩ = false ∧ w.frozen? ⟨g, 1, none⟩ = false ∧ w.frozen? ⟨g, 2, none⟩ = false ∧ g < w.heap.size :=
  ⟨h.cell rfl, h.cell rfl, h.cell rfl, h.frozen 0, h.frozen 1, h.frozen 2, h.lt⟩
theorem RowAt.set3 {w : World} {g : Nat} {T : TypeId} {a b c : Value} (h : RowAt w g T [a, b, c]) (x y z : Value) : RowAt (((w.setCell ⟨g, 0, none⟩ x).setCell ⟨g, 1, none⟩ y).setCell ⟨g, 2, none⟩ z) g T [x, y, z] := ((h.set 0 x).set 1 y).set 2 z
theorem RowAt.four {w : World} {g : Nat} {T : TypeId} {a b c d : Value} (h : RowAt w g T [a, b, c, d]) : w.cell? ⟨g, 0, none⟩ = some a ∧ w.cell? ⟨g, 1, none⟩ = some b ∧ w.cell? ⟨g, 2, none⟩ = some c ∧ w.cell? ⟨g, 3, none⟩ = some d ∧ w.frozen? ⟨g, 0, none⟩ = false ∧ w.frozen? ⟨g, 1, none⟩ = false ∧ w.frozen? ⟨g, 2, none⟩ = false ∧ w.frozen? ⟨g, 3, none⟩ = false ∧ g < w.heap.size :=
  ⟨h.cell rfl, h.cell rfl, h.cell rfl, h.cell rfl, h.frozen 0, h.frozen 1, h.frozen 2, h.frozen 3, h.lt⟩
theorem RowAt.put4 {w : World} {g : Nat} {T : TypeId} {a b c d : Value} (h : RowAt w g T [a, b, c, d]) (x y z u : Value) : RowAt ((((w.setCell ⟨g, 0, none⟩ x).setCell ⟨g, 1, none⟩ y).setCell ⟨g, 2, none⟩ z).setCell ⟨g, 3, none⟩ u) g T [x, y, z, u] := (((h.set 0 x).set 1 y).set 2 z).set 3 u
theorem row_made (w : World) (a : Array Value) (T : TypeId) (g : Nat) (xs : List Value) (hg : g = w.heap.size) (hx : a.toList = xs) : RowAt (w.alloc (.cells a T (0, 0))) g T xs := by
  rw [hg, ← hx]; exact RowAt.new w a T
theorem new1 (w : World) (x : Value) (T : TypeId) (g : Nat) (hg : g = w.heap.size) : ∀ j u, [x][j]? = some u → (w.alloc (.cells #[x] T)).cell? ((⟨g, 0, none⟩ : Addr).add j) = some u := by
  intro j u hj
  subst hg
  match j, hj with
  | 0, hj => simp at hj; subst hj; simp [Addr.add]
theorem own_keeps {w w' : World} {base : Nat} {e : TypeId} {size n : Nat} {v : Value} {xs : List Value} (hk : ∀ g, base ≤ g → g < w.heap.size → w'.heap[g]? = w.heap[g]?) (h : w.ownsRow base e size v n xs) : w'.ownsRow base e size v n xs := by
  obtain ⟨h0, h⟩ := h
  refine ⟨h0, ?_⟩
  rcases h with h | ⟨g, cap, cur, e1, hb, hg, hr⟩
  · exact .inl h
  · exact .inr ⟨g, cap, cur, e1, hb, by rw [hk g hb (Array.getElem?_eq_some_iff.1 hg).1]; exact hg, hr⟩
theorem stay_set (w : World) (g i k : Nat) (x : Value) (h : k ≠ g) : (w.setCell ⟨g, i, none⟩ x).heap[k]? = w.heap[k]? := Below.heap_setCell w ⟨g, i, none⟩ x k h
theorem own_slice {w : World} {base n size : Nat} {e : TypeId} {v : Value} {xs : List Value} (h : w.ownsRow base e size v n xs) : ∃ a c, v = .slice a n c := by
  rcases h.2 with ⟨rfl, h0⟩ | ⟨g, cap, cur, rfl, _⟩
  · exact ⟨none, 0, by rw [h0]⟩
  · exact ⟨_, _, rfl⟩
theorem grew1 {B : Nat} {W wg : World} {o1 : Obj} {k : Option Nat} (hs : B ≤ W.heap.size) (hg : (W.alloc o1).grownBy wg k) (hk : ∀ j, k = some j → B ≤ j) : Below B W wg :=
  ((Below.refl B W).alloc hs o1).grown hg (by simp; omega) hk
theorem owns_shape {w : World} {base n size : Nat} {e : TypeId} {v : Value} {xs : List Value} (h : w.ownsRow base e size v n xs) : ∃ a c, v = .slice a n c := by
  rcases h.2 with ⟨rfl, h0⟩ | ⟨g, cap, cur, rfl, _⟩
  · exact ⟨none, 0, by rw [h0]⟩
  · exact ⟨_, _, rfl⟩
def bestZ (o : Option (Int × Int)) : Int × Int := o.getD (0, 0)
end Fl
end Go.Proofs.Ytkpmjmgmgkdfnaj

/- Some over one link: a tick of the document's road, one by one. No Go in it. -/
namespace Go.Proofs.Ytkpmjmgmgkdfnaj.Ev
open Fr Ns Ld Fl
set_option linter.unusedSimpArgs false
set_option linter.unusedVariables false

/-! ### first each source sends -/
/-- the first i have sent -/
def sentI (S : List Src) (i : Nat) : List Src := (S.take i).map sentS ++ S.drop i
/-- whose those are that wait when the first i have sent -/
def rowSI (R : Road) (i : Nat) : List Nat := R.row ++ sendFrom 0 (R.S.take i)
theorem sentI_0 (S : List Src) : sentI S 0 = S := rfl
theorem sentI_all (S : List Src) : sentI S S.length = S.map sentS := by simp [sentI]
theorem sentI_length (S : List Src) (i : Nat) : (sentI S i).length = S.length := by
  simp only [sentI, List.length_append, List.length_map, List.length_take, List.length_drop]; omega
theorem sentI_at {S : List Src} {i : Nat} (h : i < S.length) : sAt (sentI S i) i = sAt S i := by
  unfold sAt sentI
  rw [List.getD, List.getElem?_append_right (by simp; omega)]
  simp only [List.length_map, List.length_take, List.getElem?_drop]
  rw [show i + (i - min i S.length) = i by omega]
  rfl
theorem sentI_set {S : List Src} {i : Nat} (h : i < S.length) : (sentI S i).set i (sentS (sAt S i)) = sentI S (i + 1) := by
  have e : sAt S i = S[i] := by simp [sAt, List.getD, List.getElem?_eq_getElem h]
  unfold sentI
  rw [List.set_append_right _ _ (by simp; omega)]
  have h2 : S.drop i = S[i] :: S.drop (i + 1) := List.drop_eq_getElem_cons h
  rw [h2, e]
  have h3 : i - ((S.take i).map sentS).length = 0 := by simp; omega
  have h4 : S.take (i + 1) = S.take i ++ [S[i]] := by rw [List.take_add_one, List.getElem?_eq_getElem h]; rfl
  rw [h3, List.set_cons_zero, h4, List.map_append, List.append_assoc]
  rfl
theorem sendFrom_snoc : ∀ (l : List Src) (j : Nat) (s : Src), sendFrom j (l ++ [s]) = sendFrom j l ++ List.replicate (goS s).toNat (j + l.length) := by
  intro l
  induction l with
  | nil => intro j s; simp [sendFrom]
  | cons a r ih =>
    intro j s
    simp only [List.cons_append, sendFrom, ih, List.append_assoc, List.length_cons]
    rw [show j + 1 + r.length = j + (r.length + 1) by omega]
theorem rowSI_0 (R : Road) : rowSI R 0 = R.row := by simp [rowSI, sendFrom]
theorem rowSI_all (R : Road) : rowSI R R.S.length = rowR R := by simp [rowSI, rowR]
theorem rowSI_step (R : Road) {i : Nat} (h : i < R.S.length) : rowSI R (i + 1) = rowSI R i ++ List.replicate (goS (sAt R.S i)).toNat i := by
  have e : sAt R.S i = R.S[i] := by simp [sAt, List.getD, List.getElem?_eq_getElem h]
  have : R.S.take (i + 1) = R.S.take i ++ [sAt R.S i] := by rw [List.take_add_one, List.getElem?_eq_getElem h, e]; rfl
  unfold rowSI
  rw [this, sendFrom_snoc, List.length_take, Nat.min_eq_left (by omega), Nat.zero_add, List.append_assoc]
theorem rowSI_le (R : Road) {i : Nat} (h : i ≤ R.S.length) : (rowSI R i).length ≤ (rowR R).length := by
  have key : ∀ m, i + m ≤ R.S.length → (rowSI R i).length ≤ (rowSI R (i + m)).length := by
    intro m
    induction m with
    | zero => intro _; exact Nat.le_refl _
    | succ m ih =>
      intro hm
      have := ih (by omega)
      have h2 := congrArg List.length (rowSI_step R (i := i + m) (by omega))
      simp only [List.length_append, List.length_replicate] at h2
      rw [show i + (m + 1) = i + m + 1 by omega, h2]
      omega
  have := key (R.S.length - i) (by omega)
  rwa [show i + (R.S.length - i) = R.S.length by omega, rowSI_all] at this

/-! ### then each of those is answered, waits, or is lost -/
theorem hand_snoc (went wait : Nat) (f : Bool) : ∀ (l : List Nat) (k i : Nat) (S : List Src), hand went wait f k (l ++ [i]) S = (if k + l.length < went then (hand went wait f k l S).set i (ackS (sAt (hand went wait f k l S) i) f) else if k + l.length < went + wait then hand went wait f k l S else (hand went wait f k l S).set i (losS (sAt (hand went wait f k l S) i))) := by
  intro l
  induction l with
  | nil => intro k i S; simp [hand]
  | cons a r ih =>
    intro k i S
    simp only [List.cons_append, hand, List.length_cons]
    rw [ih, show k + 1 + r.length = k + (r.length + 1) by omega]
theorem hand_length (went wait : Nat) (f : Bool) : ∀ (l : List Nat) (k : Nat) (S : List Src), (hand went wait f k l S).length = S.length := by
  intro l
  induction l with
  | nil => intro k S; rfl
  | cons a r ih =>
    intro k S
    simp only [hand]
    rw [ih]
    split
    · rw [List.length_set]
    · split
      · rfl
      · rw [List.length_set]
/-- the sources when k of those were told -/
def handK (R : Road) (k : Nat) : List Src := hand (wentR R (rowR R).length).toNat (waitR R (rowR R).length).toNat (fastR R) 0 ((rowR R).take k) (R.S.map sentS)
/-- those of the first k that wait -/
def waitK (R : Road) (k : Nat) : List Nat := ((rowR R).take k |>.drop (wentR R (rowR R).length).toNat).take (waitR R (rowR R).length).toNat
theorem handK_0 (R : Road) : handK R 0 = R.S.map sentS := rfl
theorem waitK_0 (R : Road) : waitK R 0 = [] := by simp [waitK]
theorem handK_all (R : Road) : handK R (rowR R).length = (tickR R).S := by simp [handK, tickR]
theorem waitK_all (R : Road) : waitK R (rowR R).length = (tickR R).row := by simp [waitK, tickR]
theorem handK_length (R : Road) (k : Nat) : (handK R k).length = R.S.length := by unfold handK; rw [hand_length, List.length_map]
theorem take_one (l : List Nat) (k : Nat) (h : k < l.length) : l.take (k + 1) = l.take k ++ [l.getD k 0] := by
  rw [List.take_add_one, List.getElem?_eq_getElem h, List.getD, List.getElem?_eq_getElem h]; rfl
theorem handK_step (R : Road) {k : Nat} (h : k < (rowR R).length) : handK R (k + 1) = (if k < (wentR R (rowR R).length).toNat then (handK R k).set ((rowR R).getD k 0) (ackS (sAt (handK R k) ((rowR R).getD k 0)) (fastR R)) else if k < (wentR R (rowR R).length).toNat + (waitR R (rowR R).length).toNat then handK R k else (handK R k).set ((rowR R).getD k 0) (losS (sAt (handK R k) ((rowR R).getD k 0)))) := by
  unfold handK
  rw [take_one _ k h, hand_snoc, List.length_take, Nat.min_eq_left (by omega), Nat.zero_add]
theorem waitK_step (R : Road) {k : Nat} (h : k < (rowR R).length) : waitK R (k + 1) = if (wentR R (rowR R).length).toNat ≤ k ∧ k < (wentR R (rowR R).length).toNat + (waitR R (rowR R).length).toNat then waitK R k ++ [(rowR R).getD k 0] else waitK R k := by
  unfold waitK
  rw [take_one _ k h]
  generalize (wentR R (rowR R).length).toNat = a
  generalize (waitR R (rowR R).length).toNat = b
  have hl : ((rowR R).take k).length = k := by rw [List.length_take]; omega
  split
  · rename_i hc
    rw [List.drop_append_of_le_length (by omega), List.take_append, List.length_drop, hl]
    have e : b - (k - a) = (b - (k - a) - 1) + 1 := by omega
    rw [e]; simp
  · rename_i hc
    by_cases h1 : k < a
    · rw [List.drop_eq_nil_of_le (by simp; omega), List.drop_eq_nil_of_le (by omega)]
    · rw [List.drop_append_of_le_length (by omega), List.take_append, List.length_drop, hl]
      have e : b - (k - a) = 0 := by omega
      rw [e]; simp
theorem handK_ok {n : Nat} {L : Nat → Int} {room cap : Int} {R : Road} (hL : ∀ i, i < n → L i ≤ 10000) (h : RoadInv n L room cap R) (k : Nat) : (∀ i, i < n → okS (sAt (handK R k) i)) ∧ ∀ j, j < (rowR R).length → (rowR R).getD j 0 < n := by
  obtain ⟨hR, hm, _⟩ := row_inv hL h
  have hp : HasR n L ((rowR R).drop k ++ (rowR R).take k) (R.S.map sentS) := by
    refine ⟨hR.1, fun i hi => ?_⟩
    obtain ⟨o1, o2, o3⟩ := hR.2 i hi
    refine ⟨o1, ?_, o3⟩
    rw [o2, List.count_append, Nat.add_comm, ← List.count_append, List.take_append_drop]
  obtain ⟨k1, _⟩ := hand_keeps hL (wentR R (rowR R).length).toNat (waitR R (rowR R).length).toNat (fastR R) ((rowR R).take k) 0 (R.S.map sentS) ((rowR R).drop k) (fun i hi => hm i (List.mem_of_mem_take hi)) hp
  refine ⟨fun i hi => (k1.2 i hi).1, fun j hj => hm _ ?_⟩
  rw [List.getD, List.getElem?_eq_getElem hj]
  exact List.getElem_mem _
/-- how many come, all together -/
theorem rowSI_bd {R : Road} (hok : ∀ i, i < R.S.length → okS (sAt R.S i)) : ∀ i, i ≤ R.S.length → (rowSI R i).length ≤ R.row.length + 1000 * i ∧ R.row.length ≤ (rowSI R i).length := by
  intro i
  induction i with
  | zero => intro _; rw [rowSI_0]; omega
  | succ i ih =>
    intro hi
    have h1 := ih (by omega)
    have h2 := congrArg List.length (rowSI_step R (i := i) (by omega))
    simp only [List.length_append, List.length_replicate] at h2
    have h3 := srcE_0.1 (hok i (by omega))
    have h4 : 0 ≤ goS (sAt R.S i) ∧ goS (sAt R.S i) ≤ 1000 := by
      have := go_bd (hok i (by omega))
      refine ⟨this.1, ?_⟩
      unfold goS goN
      split
      · split <;> omega
      · omega
    omega
end Go.Proofs.Ytkpmjmgmgkdfnaj.Ev

/- Rows of sources in memory, cell by cell. -/
namespace Go.Proofs.Ytkpmjmgmgkdfnaj
namespace Ev
open Go.RowKit Fr Ns Ld Fl
set_option linter.unusedSimpArgs false
set_option linter.unusedVariables false

/-- the cells of some sources -/
def flatS : List Src → List Value
  | [] => []
  | s :: r => .int .i64 s.1 :: .int .i64 s.2.1 :: .int .i64 s.2.2.1 :: .int .i64 s.2.2.2 :: flatS r
theorem flatS_length : ∀ l : List Src, (flatS l).length = l.length * 4 := by
  intro l
  induction l with
  | nil => rfl
  | cons s r ih => simp only [flatS, List.length_cons, ih]; omega
theorem flatS_at : ∀ (l : List Src) (sp : List Value) (i : Nat), i < l.length → (flatS l ++ sp)[i * 4]? = some (.int .i64 (sAt l i).1) ∧ (flatS l ++ sp)[i * 4 + 1]? = some (.int .i64 (sAt l i).2.1) ∧ (flatS l ++ sp)[i * 4 + 2]? = some (.int .i64 (sAt l i).2.2.1) ∧ (flatS l ++ sp)[i * 4 + 3]? = some (.int .i64 (sAt l i).2.2.2) := by
  intro l
  induction l with
  | nil => intro sp i hi; simp at hi
  | cons s r ih =>
    intro sp i hi
    cases i with
    | zero => simp [flatS, sAt]
    | succ i =>
      have := ih sp i (by simpa using hi)
      have e : sAt (s :: r) (i + 1) = sAt r i := rfl
      rw [e]
      simp only [flatS, List.cons_append, show (i + 1) * 4 = i * 4 + 1 + 1 + 1 + 1 by omega, List.getElem?_cons_succ]
      exact this
theorem flatS_set : ∀ (l : List Src) (sp : List Value) (i : Nat) (s : Src), i < l.length → ((((flatS l ++ sp).set (i * 4) (.int .i64 s.1)).set (i * 4 + 1) (.int .i64 s.2.1)).set (i * 4 + 2) (.int .i64 s.2.2.1)).set (i * 4 + 3) (.int .i64 s.2.2.2) = flatS (l.set i s) ++ sp := by
  intro l
  induction l with
  | nil => intro sp i s hi; simp at hi
  | cons a r ih =>
    intro sp i s hi
    cases i with
    | zero => simp [flatS]
    | succ i =>
      have := ih sp i s (by simpa using hi)
      simp only [flatS, List.cons_append, show (i + 1) * 4 = i * 4 + 1 + 1 + 1 + 1 by omega, List.set_cons_succ]
      rw [this]
theorem row_src {w : World} {g : Nat} {T : TypeId} {l : List Src} {sp : List Value} (h : RowAt w g T (flatS l ++ sp)) {i : Nat} (hi : i < l.length) : SrcAt w g (i * 4) (sAt l i) := by
  obtain ⟨a, b, c, d⟩ := flatS_at l sp i hi
  exact ⟨h.cell a, h.cell b, h.cell c, h.cell d⟩
theorem row_setSrc {w : World} {g : Nat} {T : TypeId} {l : List Src} {sp : List Value} (h : RowAt w g T (flatS l ++ sp)) {i : Nat} (hi : i < l.length) (s : Src) : RowAt ((((w.setCell ⟨g, i * 4, none⟩ (.int .i64 s.1)).setCell ⟨g, i * 4 + 1, none⟩ (.int .i64 s.2.1)).setCell ⟨g, i * 4 + 2, none⟩ (.int .i64 s.2.2.1)).setCell ⟨g, i * 4 + 3, none⟩ (.int .i64 s.2.2.2)) g T (flatS (l.set i s) ++ sp) := by
  have := (((h.set (i * 4) (.int .i64 s.1)).set (i * 4 + 1) (.int .i64 s.2.1)).set (i * 4 + 2) (.int .i64 s.2.2.1)).set (i * 4 + 3) (.int .i64 s.2.2.2)
  rwa [flatS_set l sp i s hi] at this
def natsV (l : List Nat) : List Value := l.map fun i : Nat => Value.int .i64 (i : Int)
theorem natsV_snoc (l : List Nat) (i : Nat) : natsV (l ++ [i]) = natsV l ++ [.int .i64 i] := by simp [natsV]
theorem natsV_ints (l : List Nat) : natsV l = (l.map Int.ofNat).map (Value.int .i64) := by simp [natsV]
/-- a row that is its own: it stays where its block stays -/
theorem owns_keep {w w' : World} {e : TypeId} {size n : Nat} {v : Value} {xs : List Value} (hk : ∀ g, v.ownBlock = some g → w'.heap[g]? = w.heap[g]?) (h : w.ownsRow 0 e size v n xs) : w'.ownsRow 0 e size v n xs := by
  obtain ⟨h0, h⟩ := h
  refine ⟨h0, ?_⟩
  rcases h with h | ⟨g, cap, cur, e1, hb, hg, hr⟩
  · exact .inl h
  · exact .inr ⟨g, cap, cur, e1, hb, by rw [hk g (by rw [e1]; rfl)]; exact hg, hr⟩
theorem owns_lt {w : World} {e : TypeId} {size n g : Nat} {v : Value} {xs : List Value} (h : w.ownsRow 0 e size v n xs) (hg : v.ownBlock = some g) : g < w.heap.size := by
  rcases h.2 with ⟨rfl, _⟩ | ⟨g', cap, cur, e1, _, h2, _⟩
  · simp [Value.ownBlock] at hg
  · rw [e1] at hg
    simp [Value.ownBlock] at hg
    subst hg
    exact (Array.getElem?_eq_some_iff.1 h2).1
/-- what of the memory is a road's own -/
def refF (g gs : Nat) (rv : Value) (b : Nat) : Prop := b = g ∨ b = gs ∨ rv.ownBlock = some b
end Ev
end Go.Proofs.Ytkpmjmgmgkdfnaj

/- A slice that lies somewhere within a block of its thing's own, and what an append and a cut make of it. -/
namespace Go.Proofs.Ytkpmjmgmgkdfnaj
namespace Ev
open Go.RowKit Fr Ns Ld Fl
set_option linter.unusedSimpArgs false
set_option linter.unusedVariables false

/-- the slice v holds the cells xs, a cell each; what lies behind it up to its capacity may be written into -/
def TailAt (w : World) (T : TypeId) (v : Value) (n : Nat) (xs : List Value) : Prop :=
  xs.length = n ∧ ((v = .slice none 0 0 ∧ n = 0) ∨ ∃ g cap pre sp, v = .slice (some ⟨g, pre.length, none⟩) n cap ∧ RowAt w g T (pre ++ (xs ++ sp)) ∧ n ≤ cap ∧ cap ≤ maxLen ∧ cap ≤ n + sp.length)
theorem TailAt.keep {w w' : World} {T : TypeId} {v : Value} {n : Nat} {xs : List Value} (hk : ∀ g, v.ownBlock = some g → w'.heap[g]? = w.heap[g]?) (h : TailAt w T v n xs) : TailAt w' T v n xs := by
  obtain ⟨h0, h⟩ := h
  refine ⟨h0, ?_⟩
  rcases h with h | ⟨g, cap, pre, sp, e1, hr, hm⟩
  · exact .inl h
  · refine .inr ⟨g, cap, pre, sp, e1, ?_, hm⟩
    unfold RowAt at hr ⊢
    rw [hk g (by rw [e1]; rfl)]; exact hr
theorem TailAt.lt {w : World} {T : TypeId} {v : Value} {n g : Nat} {xs : List Value} (h : TailAt w T v n xs) (hg : v.ownBlock = some g) : g < w.heap.size := by
  rcases h.2 with ⟨rfl, _⟩ | ⟨g', cap, pre, sp, e1, hr, _⟩
  · simp [Value.ownBlock] at hg
  · rw [e1] at hg
    simp [Value.ownBlock] at hg
    subst hg
    exact hr.lt
theorem TailAt.shape {w : World} {T : TypeId} {v : Value} {n : Nat} {xs : List Value} (h : TailAt w T v n xs) : ∃ a c, v = .slice a n c := by
  rcases h.2 with ⟨rfl, h0⟩ | ⟨g, cap, pre, sp, e1, _⟩
  · exact ⟨none, 0, by rw [h0]⟩
  · exact ⟨_, _, e1⟩
theorem TailAt.bound {w : World} {T : TypeId} {a : Option Addr} {c n : Nat} {xs : List Value} (h : TailAt w T (.slice a n c) n xs) : n ≤ c ∧ c ≤ maxLen := by
  rcases h.2 with ⟨e, h0⟩ | ⟨g, cap, pre, sp, e1, _, h2, h3, _⟩
  · simp only [Value.slice.injEq] at e
    obtain ⟨-, -, rfl⟩ := e
    exact ⟨by omega, Nat.zero_le _⟩
  · simp only [Value.slice.injEq] at e1
    obtain ⟨-, -, rfl⟩ := e1
    exact ⟨h2, h3⟩
theorem TailAt.nil (w : World) (T : TypeId) : TailAt w T (.slice none 0 0) 0 [] := ⟨rfl, .inl ⟨rfl, rfl⟩⟩
theorem TailAt.of_owns {w : World} {base n : Nat} {T : TypeId} {v : Value} {xs : List Value} (h : w.ownsRow base T 1 v n xs) : TailAt w T v n xs ∧ ∀ g, v.ownBlock = some g → base ≤ g := by
  obtain ⟨h0, h⟩ := h
  rcases h with ⟨rfl, h1⟩ | ⟨g, cap, cur, rfl, hb, hg, hc, hm, hs, ht⟩
  · exact ⟨⟨by omega, .inl ⟨rfl, h1⟩⟩, fun g hg => by simp [Value.ownBlock] at hg⟩
  · refine ⟨⟨by omega, .inr ⟨g, cap, [], cur.toList.drop n, rfl, ?_, hc, hm, ?_⟩⟩, fun k hk => by simp [Value.ownBlock] at hk; omega⟩
    · unfold RowAt
      rw [hg, ← ht, Nat.mul_one, List.nil_append, List.take_append_drop]
    · simp [hs]; omega
/-- one more behind it -/
theorem run_append_tail {P : Program} (w : World) (t ty e : TypeId) (i : TypeInfo) (z : Value) (bytes : Nat) (ht : P.underlying t = some (.slice e)) (hi : P.info? e = some i) (hz : i.zero = some z)
    (hsize : i.size = 1) (hby : i.bytes = bytes) (hzs : z.cells.size = 1) (v : Value) (n : Nat) (xs : List Value) (h : TailAt w e v n xs)
    (a : Addr) (c : Nat) (x : Value) (hx : ∀ j u, [x][j]? = some u → w.cell? (a.add j) = some u) (h1 : x.oneCell' = true) (h63 : n + 1 ≤ maxLen) (hbytes : (n + 1) * bytes ≤ 140737488355328) :
    ∃ v' w', (Builtin.append_ #[t, t] ty #[v, .slice (some a) 1 c]).run P w = .ok v' w' ∧ TailAt w' e v' (n + 1) (xs ++ [x]) ∧ w.grownBy w' v.ownBlock ∧ (v'.ownBlock = v.ownBlock ∨ ∀ g, v'.ownBlock = some g → w.heap.size ≤ g) := by
  have h1' : ∀ u ∈ [x], u.oneCell' = true := by intro u hu; simp at hu; subst hu; exact h1
  obtain ⟨h0, h⟩ := h
  rcases h with ⟨rfl, rfl⟩ | ⟨g, cap, pre, sp, rfl, hr, hc, hm, hsp⟩
  · obtain rfl : xs = [] := List.eq_nil_of_length_eq_zero h0
    obtain ⟨v', w', hrun, r1, r2, _⟩ := run_append_own (P := P) w w.heap.size t ty e i z 1 bytes ht hi hz hsize hby hzs (by decide) (.slice none 0 0) 0 [] (World.ownsRow_nil w _ e 1) a 1 c [x] rfl hx h1' h63 hbytes (Nat.le_refl _)
    obtain ⟨q1, q2⟩ := TailAt.of_owns r1
    exact ⟨v', w', hrun, q1, r2, .inr q2⟩
  · by_cases hroom : n + 1 ≤ cap
    · cases sp with
      | nil => simp at hsp; omega
      | cons y r =>
        have hat : (pre ++ (xs ++ y :: r))[pre.length + n]? = some y := by
          rw [List.getElem?_append_right (by omega), List.getElem?_append_right (by omega)]
          simp [h0]
        have hrun := run_append_room_cells (P := P) w t ty e i ht hi g pre.length n cap a 1 c [x] (by rw [hsize]; rfl) hx h1' hroom
          (fun j hj => by
            have : j = 0 := by simpa using hj
            subst this
            rw [hsize, Nat.mul_one, Nat.add_zero, hr.cell hat]; rfl)
          (fun j hj => hr.frozen _)
        rw [hsize, Nat.mul_one] at hrun
        have hset : w.setCells g (pre.length + n) [x] = w.setCell ⟨g, pre.length + n, none⟩ x := rfl
        rw [hset] at hrun
        have hB0 : Below 0 w (w.setCell ⟨g, pre.length + n, none⟩ x) := (Below.refl 0 w).setCell (Nat.zero_le _) _
        refine ⟨_, _, hrun, ⟨by simp [h0], .inr ⟨g, cap, pre, r, rfl, ?_, hroom, hm, by simp at hsp; omega⟩⟩, ⟨hB0.os, hB0.tape, hB0.output, hB0.size, fun k hk hne => stay_set _ _ _ _ _ (fun e => hne (by rw [e]; rfl))⟩, .inl rfl⟩
        have := hr.set (pre.length + n) x
        rw [List.set_append_right _ _ (by omega), List.set_append_right _ _ (by omega)] at this
        rw [show pre.length + n - pre.length - xs.length = 0 by omega, List.set_cons_zero] at this
        simpa using this
    · obtain ⟨v', w', hrun, r1, r2⟩ := run_append_arg_grows (P := P) w t ty e i z 1 bytes ht hi hz hsize hby hzs (by decide) ⟨g, pre.length, none⟩ n cap xs (by omega)
        (fun j u hj => by
          rw [Addr.add_lit]
          refine hr.cell ?_
          have hl : j < xs.length := (List.getElem?_eq_some_iff.1 hj).1
          rw [List.getElem?_append_right (by omega), Nat.add_sub_cancel_left, List.getElem?_append_left hl]; exact hj) a 1 c [x] rfl hx (by omega) h63 hbytes
      obtain ⟨q1, q2⟩ := TailAt.of_owns r1
      exact ⟨v', w', hrun, q1, ⟨r2.os, r2.tape, r2.output, r2.size, fun k hk _ => r2.block k hk (by simp)⟩, .inr q2⟩
/-- for the walk -/
theorem wpList_append_tail {P : Program} (w : World) {ops : Array Oper} {rest : List Oper} {o : Oper} {a : Act} {Q : Exit → Act → World → Prop} (hgd : o.guard = none) (s x : Operand) (t : TypeId)
    (ho : o.op = .call { callee := .builtin .append, args := #[s, x], argTypes := #[t, t] })
    (e : TypeId) (i : TypeInfo) (z : Value) (bytes : Nat) (ht : P.underlying t = some (.slice e)) (hi : P.info? e = some i) (hz : i.zero = some z) (hsize : i.size = 1) (hby : i.bytes = bytes) (hzs : z.cells.size = 1)
    (v : Value) (n : Nat) (xs : List Value) (hs : a.eval s = v) (h : TailAt w e v n xs)
    (ad : Addr) (c : Nat) (y : Value) (hx : a.eval x = .slice (some ad) 1 c) (hnews : ∀ j u, [y][j]? = some u → w.cell? (ad.add j) = some u) (h1 : y.oneCell' = true)
    (h63 : n + 1 ≤ maxLen) (hbytes : (n + 1) * bytes ≤ 140737488355328)
    (hK : ∀ v' w', TailAt w' e v' (n + 1) (xs ++ [y]) → w.grownBy w' v.ownBlock → (v'.ownBlock = v.ownBlock ∨ ∀ g, v'.ownBlock = some g → w.heap.size ≤ g) → wpList P ops Q rest (a.put o.dst v') w') :
    wpList P ops Q (o :: rest) a w := by
  refine wpList_plain hgd fun K hK' => ?_
  obtain ⟨v', w', hrun, h2, h3, h4⟩ := run_append_tail (P := P) w t o.type e i z bytes ht hi hz hsize hby hzs v n xs h ad c y hnews h1 h63 hbytes
  unfold Oper.wp
  simp [execOp, ho, resolve, invoke, builtin, hs, hx, hrun, Result.andThen]
  exact hK' _ _ (hK v' w' h2 h3 h4)
theorem TailAt.alloc {w : World} {T : TypeId} {v : Value} {n : Nat} {xs : List Value} (h : TailAt w T v n xs) (o : Obj) : TailAt (w.alloc o) T v n xs :=
  h.keep (fun g hg => ((Below.refl w.heap.size w).alloc (Nat.le_refl _) o).block g (h.lt hg))
/-- where its cells lie -/
theorem TailAt.cell {w : World} {T : TypeId} {a : Option Addr} {n c : Nat} {xs : List Value} (h : TailAt w T (.slice a n c) n xs) : (n = 0 ∧ c = 0 ∧ a = none) ∨ ∃ g off, a = some ⟨g, off, none⟩ ∧ ∀ k x, xs[k]? = some x → w.cell? ⟨g, off + k, none⟩ = some x := by
  rcases h.2 with ⟨e, h0⟩ | ⟨g, cap, pre, sp, e1, hr, _⟩
  · simp only [Value.slice.injEq] at e
    obtain ⟨rfl, -, rfl⟩ := e
    exact .inl ⟨h0, rfl, rfl⟩
  · simp only [Value.slice.injEq] at e1
    obtain ⟨rfl, -, rfl⟩ := e1
    refine .inr ⟨g, pre.length, rfl, fun k x hk => hr.cell ?_⟩
    have hl : k < xs.length := (List.getElem?_eq_some_iff.1 hk).1
    rw [List.getElem?_append_right (by omega), Nat.add_sub_cancel_left, List.getElem?_append_left hl]; exact hk
/-- a cut of it -/
theorem TailAt.cut {w : World} {T : TypeId} {g off n c : Nat} {xs : List Value} (h : TailAt w T (.slice (some ⟨g, off, none⟩) n c) n xs) {i j : Nat} (hij : i ≤ j) (hj : j ≤ n) : TailAt w T (.slice (some (if c = i then ⟨g, off, none⟩ else ⟨g, off + i, none⟩)) (j - i) (c - i)) (j - i) ((xs.drop i).take (j - i)) := by
  obtain ⟨h0, h⟩ := h
  refine ⟨by simp [h0]; omega, ?_⟩
  rcases h with ⟨e, _⟩ | ⟨g', cap, pre, sp, e1, hr, hc, hm, hsp⟩
  · simp at e
  · simp only [Value.slice.injEq, Option.some.injEq, Addr.mk.injEq, and_true, true_and] at e1
    obtain ⟨⟨rfl, rfl⟩, rfl⟩ := e1
    refine .inr ?_
    by_cases hci : c = i
    · subst hci
      have hj' : j = c := by omega
      subst hj'
      refine ⟨g, 0, pre, xs ++ sp, by simp, ?_, by omega, Nat.zero_le _, Nat.zero_le _⟩
      simpa using hr
    · refine ⟨g, c - i, pre ++ xs.take i, xs.drop j ++ sp, ?_, ?_, by omega, by omega, ?_⟩
      · rw [if_neg hci]
        have hpl : (pre ++ xs.take i).length = pre.length + i := by rw [List.length_append, List.length_take]; omega
        rw [hpl]
      · have e : pre ++ xs.take i ++ ((xs.drop i).take (j - i) ++ (xs.drop j ++ sp)) = pre ++ (xs ++ sp) := by
          have e1 : (xs.drop i).take (j - i) ++ xs.drop j = xs.drop i := by
            have : xs.drop j = (xs.drop i).drop (j - i) := by rw [List.drop_drop, show i + (j - i) = j by omega]
            rw [this, List.take_append_drop]
          rw [List.append_assoc, ← List.append_assoc ((xs.drop i).take (j - i)), e1, ← List.append_assoc (xs.take i), List.take_append_drop]
        rw [e]; exact hr
      · simp [h0]; omega
end Ev
end Go.Proofs.Ytkpmjmgmgkdfnaj

/- The landed road in memory (package road): a struct, a row of sources, a slice of those that wait; and a tick of it, one by one. -/
namespace Go.Proofs.Ytkpmjmgmgkdfnaj
namespace Ev
open Go.RowKit Fr Ns Ld Fl
set_option linter.unusedSimpArgs false
set_option linter.unusedVariables false

theorem butIn_trans {F : Nat → Prop} {w w1 w2 : World} (h : ButIn F w w1) (h2 : Below 0 w1 w2) (hk : ∀ b, b < w.heap.size → ¬ F b → w2.heap[b]? = w1.heap[b]?) : ButIn F w w2 :=
  ⟨h.1.trans h2, fun b hb hF => (hk b hb hF).trans (h.2 b hb hF)⟩
/-- the landed road at the block g: its sources in the block gs, those that wait in rv -/
structure LandAt (w : World) (g gs cs : Nat) (sp : List Value) (rv : Value) (S : List Src) (room cap wait : Int) (row : List Nat) : Prop where
  cells : RowAt w g 54 [.slice (some ⟨gs, 0, none⟩) S.length cs, .int .i64 room, .int .i64 cap, .int .i64 wait, rv]
  srcs : RowAt w gs 32 (flatS S ++ sp)
  rows : TailAt w 3 rv row.length (natsV row)
  apart : g ≠ gs ∧ rv.ownBlock ≠ some g ∧ rv.ownBlock ≠ some gs
  room : S.length ≤ cs
def LandInv (w : World) (p : Value) (F : Nat → Prop) (R : Road) : Prop := ∃ g gs cs sp rv, p = .pointer (some ⟨g, 0, none⟩) ∧ LandAt w g gs cs sp rv R.S R.room R.cap R.wait R.row ∧ ∀ b, F b ↔ refF g gs rv b
section
variable {w w' wr w1 : World} {g gs cs : Nat} {sp : List Value} {rv qv v' : Value} {S S' : List Src} {room cap wait : Int} {row q : List Nat}
theorem LandAt.keep (h : LandAt w g gs cs sp rv S room cap wait row) (hk : ∀ b, refF g gs rv b → w'.heap[b]? = w.heap[b]?) : LandAt w' g gs cs sp rv S room cap wait row := by
  refine ⟨?_, ?_, h.rows.keep (fun b hb => hk b (.inr (.inr hb))), h.apart, h.room⟩
  · have := h.cells; unfold RowAt at this ⊢; rw [hk g (.inl rfl)]; exact this
  · have := h.srcs; unfold RowAt at this ⊢; rw [hk gs (.inr (.inl rfl))]; exact this
theorem LandAt.lt (h : LandAt w g gs cs sp rv S room cap wait row) : ∀ b, refF g gs rv b → b < w.heap.size := by
  rintro b (rfl | rfl | hb)
  · exact h.cells.lt
  · exact h.srcs.lt
  · exact h.rows.lt hb
/-- within a tick that began in w: the sources and those that wait so far (qv); but for the road's own memory all is as it was -/
structure InL (w wr : World) (g gs cs : Nat) (sp : List Value) (rv qv : Value) (S : List Src) (room cap wait : Int) (q : List Nat) : Prop where
  cells : RowAt wr g 54 [.slice (some ⟨gs, 0, none⟩) S.length cs, .int .i64 room, .int .i64 cap, .int .i64 wait, rv]
  srcs : RowAt wr gs 32 (flatS S ++ sp)
  rows : TailAt wr 3 qv q.length (natsV q)
  apart : g ≠ gs ∧ qv.ownBlock ≠ some g ∧ qv.ownBlock ≠ some gs
  room : S.length ≤ cs
  but : ButIn (refF g gs rv) w wr
  own : ∀ b, qv.ownBlock = some b → rv.ownBlock = some b ∨ w.heap.size ≤ b
  old : g < w.heap.size ∧ gs < w.heap.size ∧ ∀ b, rv.ownBlock = some b → b < w.heap.size
theorem InL.start (h : LandAt w g gs cs sp rv S room cap wait row) : InL w w g gs cs sp rv rv S room cap wait row :=
  ⟨h.cells, h.srcs, h.rows, h.apart, h.room, ButIn.refl _ _, fun b hb => .inl hb, h.cells.lt, h.srcs.lt, fun b hb => h.rows.lt hb⟩
theorem InL.size (h : InL w wr g gs cs sp rv qv S room cap wait q) : w.heap.size ≤ wr.heap.size := h.but.1.size
theorem InL.later (h : InL w wr g gs cs sp rv qv S room cap wait q) (hb : Below wr.heap.size wr w1) : InL w w1 g gs cs sp rv qv S room cap wait q :=
  ⟨h.cells.later hb h.cells.lt, h.srcs.later hb h.srcs.lt, h.rows.keep (fun b hb' => hb.block b (h.rows.lt hb')), h.apart, h.room,
    butIn_trans h.but (hb.mono (Nat.zero_le _)) (fun b hb' _ => hb.block b (by have := h.size; omega)), h.own, h.old⟩
/-- a source is put into its place -/
theorem InL.setS (h : InL w wr g gs cs sp rv qv S room cap wait q) {i : Nat} (hi : i < S.length) (s : Src) (hS : S' = S.set i s) :
    InL w ((((wr.setCell ⟨gs, i * 4, none⟩ (.int .i64 s.1)).setCell ⟨gs, i * 4 + 1, none⟩ (.int .i64 s.2.1)).setCell ⟨gs, i * 4 + 2, none⟩ (.int .i64 s.2.2.1)).setCell ⟨gs, i * 4 + 3, none⟩ (.int .i64 s.2.2.2)) g gs cs sp rv qv S' room cap wait q := by
  subst hS
  have hst : ∀ b, b ≠ gs → ((((wr.setCell ⟨gs, i * 4, none⟩ (.int .i64 s.1)).setCell ⟨gs, i * 4 + 1, none⟩ (.int .i64 s.2.1)).setCell ⟨gs, i * 4 + 2, none⟩ (.int .i64 s.2.2.1)).setCell ⟨gs, i * 4 + 3, none⟩ (.int .i64 s.2.2.2)).heap[b]? = wr.heap[b]? := fun b hb => by
    rw [stay_set _ _ _ _ _ hb, stay_set _ _ _ _ _ hb, stay_set _ _ _ _ _ hb, stay_set _ _ _ _ _ hb]
  refine ⟨?_, row_setSrc h.srcs hi s, h.rows.keep (fun b hb => hst b (fun e => h.apart.2.2 (by rw [← e]; exact hb))), h.apart, by rw [List.length_set]; exact h.room,
    butIn_trans h.but ((((Below.refl 0 wr).setCell (Nat.zero_le _) _).setCell (Nat.zero_le _) _).setCell (Nat.zero_le _) _ |>.setCell (Nat.zero_le _) _) (fun b _ hF => hst b (fun e => hF (.inr (.inl e)))), h.own, h.old⟩
  have := h.cells
  unfold RowAt at this ⊢
  rw [List.length_set, hst g h.apart.1]; exact this
/-- one more waits: behind the append -/
theorem InL.snoc {i : Nat} {o : Obj} (h : InL w wr g gs cs sp rv qv S room cap wait q) (ho : TailAt w1 3 v' (q.length + 1) (natsV q ++ [.int .i64 i])) (hg : (wr.alloc o).grownBy w1 qv.ownBlock)
    (hat : v'.ownBlock = qv.ownBlock ∨ ∀ b, v'.ownBlock = some b → (wr.alloc o).heap.size ≤ b) : InL w w1 g gs cs sp rv v' S room cap wait (q ++ [i]) := by
  have hz := h.size
  have hsz : (wr.alloc o).heap.size = wr.heap.size + 1 := by simp
  have hb1 : ∀ b, b < wr.heap.size → some b ≠ qv.ownBlock → w1.heap[b]? = wr.heap[b]? := fun b hb hne => by
    rw [hg.block b (by omega) hne]
    exact ((Below.refl wr.heap.size wr).alloc (Nat.le_refl _) o).block b hb
  have hgl := h.cells.lt
  have hsl := h.srcs.lt
  have hnew : ∀ b, v'.ownBlock = some b → qv.ownBlock = some b ∨ wr.heap.size < b := fun b hb => by
    rcases hat with e | e
    · exact .inl (by rw [← e]; exact hb)
    · have := e b hb; exact .inr (by omega)
  have hB : Below 0 wr w1 := ((Below.refl 0 wr).alloc (Nat.zero_le _) o).grown hg (Nat.zero_le _) (fun _ _ => Nat.zero_le _)
  refine ⟨?_, ?_, ?_, ⟨h.apart.1, fun e => ?_, fun e => ?_⟩, h.room, ?_, fun b hb => ?_, h.old⟩
  · have := h.cells; unfold RowAt at this ⊢; rw [hb1 g hgl (Ne.symm h.apart.2.1)]; exact this
  · have := h.srcs; unfold RowAt at this ⊢; rw [hb1 gs hsl (Ne.symm h.apart.2.2)]; exact this
  · rw [natsV_snoc]
    have : (q ++ [i]).length = q.length + 1 := by simp
    rw [this]; exact ho
  · rcases hnew g e with h1 | h1
    · exact h.apart.2.1 h1
    · omega
  · rcases hnew gs e with h1 | h1
    · exact h.apart.2.2 h1
    · omega
  · refine butIn_trans h.but hB (fun b hb hF => hb1 b (by omega) (fun e => ?_))
    rcases h.own b e.symm with h1 | h1
    · exact hF (.inr (.inr h1))
    · omega
  · rcases hnew b hb with h1 | h1
    · exact h.own b h1
    · exact .inr (by omega)
/-- at the end: the pool, and those that wait, are put into their places -/
theorem InL.fin {wv : Value} (h : InL w wr g gs cs sp rv qv S room cap wait q) (ho : TailAt wr 3 wv row.length (natsV row)) (hw : ∀ b, wv.ownBlock = some b → qv.ownBlock = some b) (x y z : Int) :
    ButIn (refF g gs rv) w ((((wr.setCell ⟨g, 1, none⟩ (.int .i64 x)).setCell ⟨g, 2, none⟩ (.int .i64 y)).setCell ⟨g, 3, none⟩ (.int .i64 z)).setCell ⟨g, 4, none⟩ wv) ∧
    LandAt ((((wr.setCell ⟨g, 1, none⟩ (.int .i64 x)).setCell ⟨g, 2, none⟩ (.int .i64 y)).setCell ⟨g, 3, none⟩ (.int .i64 z)).setCell ⟨g, 4, none⟩ wv) g gs cs sp wv S x y z row ∧ (∀ b, wv.ownBlock = some b → rv.ownBlock = some b ∨ w.heap.size ≤ b) := by
  have hst : ∀ b, b ≠ g → ((((wr.setCell ⟨g, 1, none⟩ (.int .i64 x)).setCell ⟨g, 2, none⟩ (.int .i64 y)).setCell ⟨g, 3, none⟩ (.int .i64 z)).setCell ⟨g, 4, none⟩ wv).heap[b]? = wr.heap[b]? := fun b hb => by
    rw [stay_set _ _ _ _ _ hb, stay_set _ _ _ _ _ hb, stay_set _ _ _ _ _ hb, stay_set _ _ _ _ _ hb]
  refine ⟨butIn_trans h.but (((((Below.refl 0 wr).setCell (Nat.zero_le _) _).setCell (Nat.zero_le _) _).setCell (Nat.zero_le _) _).setCell (Nat.zero_le _) _) (fun b hb hF => hst b (fun e => hF (.inl e))), ⟨?_, ?_, ho.keep (fun b hb => hst b (fun e => h.apart.2.1 (by rw [← e]; exact hw b hb))), ⟨h.apart.1, fun e => h.apart.2.1 (hw _ e), fun e => h.apart.2.2 (hw _ e)⟩, h.room⟩, fun b hb => h.own b (hw b hb)⟩
  · exact (((h.cells.set 1 (.int .i64 x)).set 2 (.int .i64 y)).set 3 (.int .i64 z)).set 4 wv
  · have := h.srcs
    unfold RowAt at this ⊢
    rw [hst _ (Ne.symm h.apart.1)]; exact this
/-- the cells -/
theorem InL.five (h : InL w wr g gs cs sp rv qv S room cap wait q) :
    wr.cell? ⟨g, 0, none⟩ = some (.slice (some ⟨gs, 0, none⟩) S.length cs) ∧ wr.cell? ⟨g, 1, none⟩ = some (.int .i64 room) ∧ wr.cell? ⟨g, 2, none⟩ = some (.int .i64 cap) ∧ wr.cell? ⟨g, 3, none⟩ = some (.int .i64 wait) ∧ wr.cell? ⟨g, 4, none⟩ = some rv ∧ (∀ i, wr.frozen? ⟨g, i, none⟩ = false) ∧ (∀ i, wr.frozen? ⟨gs, i, none⟩ = false) ∧ g < wr.heap.size ∧ gs < wr.heap.size ∧ ∃ a c, qv = .slice a q.length c :=
  ⟨h.cells.cell rfl, h.cells.cell rfl, h.cells.cell rfl, h.cells.cell rfl, h.cells.cell rfl, fun i => h.cells.frozen i, fun i => h.srcs.frozen i, h.cells.lt, h.srcs.lt, h.rows.shape⟩
end
def roadX : RoadFace where
  Inv := LandInv
  lt := fun ⟨g, gs, cs, sp, rv, _, h, hF⟩ b hb => h.lt b ((hF b).1 hb)
  keep := fun ⟨g, gs, cs, sp, rv, hp, h, hF⟩ hk => ⟨g, gs, cs, sp, rv, hp, h.keep (fun b hb => hk b ((hF b).2 hb)), hF⟩
  ptr := fun ⟨g, gs, cs, sp, rv, hp, _, _⟩ => ⟨_, hp⟩
end Ev
end Go.Proofs.Ytkpmjmgmgkdfnaj

/- A number from one to another one; what is wrong with what comes tick by tick. No Go in it. -/
namespace Go.Proofs.Ytkpmjmgmgkdfnaj
namespace Ev
open Go.RowKit Fr Ns Ld Fl
set_option linter.unusedSimpArgs false
set_option linter.unusedVariables false

theorem ret_bk {k : Int} {v : Value} (h : v = errV k) : Ending.returned v = .returned (errV k) := by rw [h]
def inR (n a b : Int) : Bool := decide (a ≤ n) && decide (n ≤ b)
theorem inR_1 {n a b : Int} : inR n a b = true ↔ a ≤ n ∧ n ≤ b := by simp [inR]
theorem inR_0 {n a b : Int} : inR n a b = false ↔ n < a ∨ b < n := by simp [inR]; omega
theorem ticks_any {l : List Int} (h6 : ¬ 60 < l.length) : ticksE l = if l.any (fun x => !inTo 10000 x) then 1 else 0 := by
  have e : l.any (fun x => !inTo 10000 x) = !l.all (inTo 10000) := by simp [List.any_eq_not_all_not]
  rw [ticksE, if_neg h6, e]
  cases l.all (inTo 10000) <;> rfl

end Ev
end Go.Proofs.Ytkpmjmgmgkdfnaj

/- What is asked of package source's Check, as the document says it. -/
namespace Go.Proofs.Ytkpmjmgmgkdfnaj
namespace Ev
open Go.RowKit Fr Ns Ld Fl

def SCheckSaid : Prop := ∀ (a b c d : Int) (w : World),
  Calls Try.prog 27 #[.agg #[.int .i64 a, .int .i64 b, .int .i64 c, .int .i64 d]] w fun e w' => e = .returned (errV (srcE a b c d)) ∧ Below w.heap.size w w'
end Ev
end Go.Proofs.Ytkpmjmgmgkdfnaj

/- What is asked of package pool's Check, as the document says it. -/
namespace Go.Proofs.Ytkpmjmgmgkdfnaj
namespace Ev
open Go.RowKit Fr Ns Ld Fl

def PCheckSaid : Prop := ∀ (s r h : Int) (w : World),
  Calls Try.prog 20 #[.agg #[.int .i64 s, .int .i64 r, .int .i64 h]] w fun e w' => e = .returned (errV (poolE s r h)) ∧ Below w.heap.size w w'
end Ev
end Go.Proofs.Ytkpmjmgmgkdfnaj

/- A tick of the landed road: what its walk is told. -/
namespace Go.Proofs.Ytkpmjmgmgkdfnaj
namespace Ev
open Go.RowKit Fr Ns Ld Fl
set_option linter.unusedSimpArgs false
set_option linter.unusedVariables false

theorem halfL {x : Int} (h : 0 ≤ x) : x.tdiv 2 = x / 2 := Int.tdiv_eq_ediv_of_nonneg h
theorem wentL {R : Road} {n : Int} (h : 0 ≤ R.cap) (hn : 0 ≤ n) : 0 ≤ wentR R n ∧ wentR R n ≤ n ∧ wentR R n ≤ R.cap := by unfold wentR; split <;> omega
theorem waitL {R : Road} {n : Int} (h : 0 ≤ R.cap) (h0 : 0 ≤ R.room) (hn : 0 ≤ n) : 0 ≤ waitR R n ∧ wentR R n + waitR R n ≤ n ∧ waitR R n ≤ R.room := by unfold waitR wentR; split <;> split at * <;> omega
theorem lostL (R : Road) (n : Int) : lostP R.room R.cap n = lostR R n := by
  have e : wentP R.cap n = wentR R n := rfl
  unfold lostP lostR waitR
  rw [e]
  split <;> omega
/-- who is told now has one under way at least -/
theorem handK_has {n : Nat} {L : Nat → Int} {room cap : Int} {R : Road} (hL : ∀ i, i < n → L i ≤ 10000) (h : RoadInv n L room cap R) {k : Nat} (hk : k < (rowR R).length) :
    (rowR R).getD k 0 < n ∧ okS (sAt (handK R k) ((rowR R).getD k 0)) ∧ 1 ≤ (sAt (handK R k) ((rowR R).getD k 0)).2.1 ∧ (sAt (handK R k) ((rowR R).getD k 0)).2.2.1 ≤ 9999 ∧ (sAt (handK R k) ((rowR R).getD k 0)).2.2.2 ≤ 9999 := by
  obtain ⟨hR, hm, _⟩ := row_inv hL h
  have hp : HasR n L ((rowR R).drop k ++ (rowR R).take k) (R.S.map sentS) := by
    refine ⟨hR.1, fun i hi => ?_⟩
    obtain ⟨o1, o2, o3⟩ := hR.2 i hi
    refine ⟨o1, ?_, o3⟩
    rw [o2, List.count_append, Nat.add_comm, ← List.count_append, List.take_append_drop]
  obtain ⟨k1, _⟩ := hand_keeps hL (wentR R (rowR R).length).toNat (waitR R (rowR R).length).toNat (fastR R) ((rowR R).take k) 0 (R.S.map sentS) ((rowR R).drop k) (fun i hi => hm i (List.mem_of_mem_take hi)) hp
  have hin : (rowR R).getD k 0 < n := hm _ (by rw [List.getD, List.getElem?_eq_getElem hk]; exact List.getElem_mem _)
  obtain ⟨o1, o2, o3⟩ := k1.2 _ hin
  have o1' : okS (sAt (handK R k) ((rowR R).getD k 0)) := o1
  have o2' : (sAt (handK R k) ((rowR R).getD k 0)).2.1 = _ := o2
  have o3' : sumS (sAt (handK R k) ((rowR R).getD k 0)) = _ := o3
  have hc : 1 ≤ ((rowR R).drop k).count ((rowR R).getD k 0) := by
    rw [List.drop_eq_getElem_cons hk, List.getD, List.getElem?_eq_getElem hk, Option.getD_some, List.count_cons_self]
    omega
  rw [List.count_append] at o2'
  have hl := hL _ hin
  have hs := srcE_0.1 o1'
  unfold sumS at o3'
  refine ⟨hin, o1', by omega, by omega, by omega⟩
theorem handK_wait (R : Road) : ∀ m, (wentR R (rowR R).length).toNat + m ≤ (rowR R).length → m ≤ (waitR R (rowR R).length).toNat → handK R ((wentR R (rowR R).length).toNat + m) = handK R (wentR R (rowR R).length).toNat := by
  intro m
  induction m with
  | zero => intro _ _; rfl
  | succ m ih =>
    intro h1 h2
    rw [← Nat.add_assoc, handK_step R (by omega), if_neg (by omega), if_pos (by omega)]
    exact ih (by omega) (by omega)
/-- three numbers lie in the block g -/
def BoxAt (w : World) (g : Nat) (x y z : Int) : Prop := w.cell? ⟨g, 0, none⟩ = some (.int .i64 x) ∧ w.cell? ⟨g, 1, none⟩ = some (.int .i64 y) ∧ w.cell? ⟨g, 2, none⟩ = some (.int .i64 z)
theorem BoxAt.keep {w w' : World} {g : Nat} {x y z : Int} (h : BoxAt w g x y z) (hk : w'.heap[g]? = w.heap[g]?) : BoxAt w' g x y z := by
  refine ⟨?_, ?_, ?_⟩
  · rw [World.cell?_of_block (w := w) (a := ⟨g, 0, none⟩) hk]; exact h.1
  · rw [World.cell?_of_block (w := w) (a := ⟨g, 1, none⟩) hk]; exact h.2.1
  · rw [World.cell?_of_block (w := w) (a := ⟨g, 2, none⟩) hk]; exact h.2.2
theorem BoxAt.lt {w : World} {g : Nat} {x y z : Int} (h : BoxAt w g x y z) : g < w.heap.size := World.block_lt_of_cell? _ _ h.1
theorem BoxAt.later {w w' : World} {g : Nat} {x y z : Int} (h : BoxAt w g x y z) (hb : Below w.heap.size w w') : BoxAt w' g x y z := h.keep (hb.block g h.lt)
theorem BoxAt.setS {w : World} {g gs o0 o1 o2 o3 : Nat} {x y z : Int} {a b c d : Value} (h : BoxAt w g x y z) (hne : g ≠ gs) : BoxAt ((((w.setCell ⟨gs, o0, none⟩ a).setCell ⟨gs, o1, none⟩ b).setCell ⟨gs, o2, none⟩ c).setCell ⟨gs, o3, none⟩ d) g x y z :=
  h.keep (by rw [stay_set _ _ _ _ _ hne, stay_set _ _ _ _ _ hne, stay_set _ _ _ _ _ hne, stay_set _ _ _ _ _ hne])
/-- what a tick has to do with the world it began in: w, then the place of its answer (block of number w's size), then w1 -/
theorem InL.oldRow {w wr : World} {g gs cs b : Nat} {sp : List Value} {rv qv : Value} {S : List Src} {room cap wait : Int} {q : List Nat} {T : TypeId} {xs : List Value} (h : InL w wr g gs cs sp rv qv S room cap wait q) (hr : RowAt w b T xs) (hb : ¬ refF g gs rv b) : RowAt wr b T xs := by
  unfold RowAt at hr ⊢
  rw [h.but.2 b (RowAt.lt hr) hb]; exact hr
/-- the end of a tick: the pool, and those that wait, are in their places; what is written then into the answer's own place changes nothing -/
theorem InL.endT {w w1 wr W6 : World} {g gs cs g6 : Nat} {sp : List Value} {rv qv wv : Value} {S : List Src} {room cap wait : Int} {q row : List Nat} {T : TypeId} {zs : List Value} {a b c x y z : Int} (h : InL w1 wr g gs cs sp rv qv S room cap wait q) (hR : RowAt w1 w.heap.size T zs) (hB : Below w.heap.size w w1)
    (hO : ∀ b, refF g gs rv b → b < w.heap.size) (hX : BoxAt wr g6 a b c) (hn : ¬ g6 = g) (ho : TailAt wr 3 wv row.length (natsV row)) (hw : ∀ b, wv.ownBlock = some b → qv.ownBlock = some b)
    (hW : W6 = ((((wr.setCell ⟨g, 1, none⟩ (.int .i64 x)).setCell ⟨g, 2, none⟩ (.int .i64 y)).setCell ⟨g, 3, none⟩ (.int .i64 z)).setCell ⟨g, 4, none⟩ wv).drew) :
    BoxAt W6 g6 a b c ∧ RowAt W6 w.heap.size T zs ∧ ∀ W', Below 0 W6 W' → (∀ k, k ≠ w.heap.size → W'.heap[k]? = W6.heap[k]?) → ButIn (refF g gs rv) w W' ∧ LandAt W' g gs cs sp wv S x y z row ∧ ∀ b, wv.ownBlock = some b → rv.ownBlock = some b ∨ w.heap.size ≤ b := by
  obtain ⟨F1, F2, F3⟩ := h.fin ho hw x y z
  have hst : ∀ k, k ≠ g → W6.heap[k]? = wr.heap[k]? := fun k hk => by
    rw [hW]
    show ((((wr.setCell ⟨g, 1, none⟩ (.int .i64 x)).setCell ⟨g, 2, none⟩ (.int .i64 y)).setCell ⟨g, 3, none⟩ (.int .i64 z)).setCell ⟨g, 4, none⟩ wv).heap[k]? = _
    rw [stay_set _ _ _ _ _ hk, stay_set _ _ _ _ _ hk, stay_set _ _ _ _ _ hk, stay_set _ _ _ _ _ hk]
  have hg : g < w.heap.size := hO g (.inl rfl)
  have hs1 := hR.lt
  refine ⟨hX.keep (hst _ hn), ?_, fun W' hb hk => ⟨⟨?_, fun k h1 h2 => ?_⟩, F2.keep (fun k hF => ?_), fun k hk' => ?_⟩⟩
  · have := h.oldRow hR (fun hF => by have := hO _ hF; omega)
    unfold RowAt at this ⊢
    rw [hst _ (by omega)]; exact this
  · have e : Below 0 w1 W6 := by rw [hW]; exact F1.1.drew
    exact (hB.mono (Nat.zero_le _)).trans (e.trans hb)
  · rw [hk k (by omega), hW]
    exact (F1.2 k (by omega) h2).trans (hB.block k h1)
  · have hne : k ≠ w.heap.size := by
      rcases hF with rfl | rfl | hF
      · omega
      · have := hO k (.inr (.inl rfl)); omega
      · rcases F3 k hF with h1 | h1
        · have := hO k (.inr (.inr h1)); omega
        · omega
    rw [hk k hne, hW]; rfl
  · rcases F3 k hk' with h1 | h1
    · exact .inl h1
    · exact .inr (by omega)
end Ev
end Go.Proofs.Ytkpmjmgmgkdfnaj

/- What is asked of package source's Send, as the document says it. -/
namespace Go.Proofs.Ytkpmjmgmgkdfnaj
namespace Ev
open Go.RowKit Fr Ns Ld Fl

def SSendSaid : Prop := ∀ (a b c d : Int) (w : World),
  Calls Try.prog 21 #[.agg #[.int .i64 a, .int .i64 b, .int .i64 c, .int .i64 d]] w fun e w' => e = .returned (.tuple #[.agg #[.int .i64 (okN (srcE a b c d) a), .int .i64 (okN (srcE a b c d) (b + goN a b c)), .int .i64 (okN (srcE a b c d) (c - goN a b c)), .int .i64 (okN (srcE a b c d) d)],
    .int .i64 (okN (srcE a b c d) (goN a b c)), errV (srcE a b c d)]) ∧ Below w.heap.size w w'
end Ev
end Go.Proofs.Ytkpmjmgmgkdfnaj

/- What is asked of package source's Ack, as the document says it. -/
namespace Go.Proofs.Ytkpmjmgmgkdfnaj
namespace Ev
open Go.RowKit Fr Ns Ld Fl

def SAckSaid : Prop := ∀ (a b c d : Int) (f : Bool) (w : World),
  Calls Try.prog 16 #[.agg #[.int .i64 a, .int .i64 b, .int .i64 c, .int .i64 d], .bool f] w fun e w' => e = .returned (.tuple #[.agg #[.int .i64 (okN (ackE a b c d) (ackW a f)), .int .i64 (okN (ackE a b c d) (b - 1)), .int .i64 (okN (ackE a b c d) c), .int .i64 (okN (ackE a b c d) (d + 1))],
    errV (ackE a b c d)]) ∧ Below w.heap.size w w'
end Ev
end Go.Proofs.Ytkpmjmgmgkdfnaj

/- What is asked of package source's Lost, as the document says it. -/
namespace Go.Proofs.Ytkpmjmgmgkdfnaj
namespace Ev
open Go.RowKit Fr Ns Ld Fl

def SLostSaid : Prop := ∀ (a b c d : Int) (w : World),
  Calls Try.prog 17 #[.agg #[.int .i64 a, .int .i64 b, .int .i64 c, .int .i64 d]] w fun e w' => e = .returned (.tuple #[.agg #[.int .i64 (okN (losE a b c d) (lostW a)), .int .i64 (okN (losE a b c d) (b - 1)), .int .i64 (okN (losE a b c d) (c + 1)), .int .i64 (okN (losE a b c d) d)],
    errV (losE a b c d)]) ∧ Below w.heap.size w w'
end Ev
end Go.Proofs.Ytkpmjmgmgkdfnaj

/- What is asked of package pool's Tick, as the document says it. -/
namespace Go.Proofs.Ytkpmjmgmgkdfnaj
namespace Ev
open Go.RowKit Fr Ns Ld Fl

def PTickSaid : Prop := ∀ (s r h m : Int) (w : World),
  Calls Try.prog 15 #[.agg #[.int .i64 s, .int .i64 r, .int .i64 h], .int .i64 m] w fun e w' => e = .returned (.tuple #[.agg #[.int .i64 (okN (ptickE s r h m) s), .int .i64 (okN (ptickE s r h m) r), .int .i64 (okN (ptickE s r h m) (waitP s r (h + m)))],
    .agg #[.int .i64 (okN (ptickE s r h m) (wentP r (h + m))), .int .i64 (okN (ptickE s r h m) (lostP s r (h + m))), .int .i64 (okN (ptickE s r h m) (waitP s r (h + m)))], errV (ptickE s r h m)]) ∧ Below w.heap.size w w'
end Ev
end Go.Proofs.Ytkpmjmgmgkdfnaj

/- All rise together, step by step: what a walk through the rounds meets. No Go in it. -/
namespace Go.Proofs.Ytkpmjmgmgkdfnaj.Fl
open Fr Ns Ld
set_option linter.unusedSimpArgs false

theorem linkSum_append (rate : List (Int × Int)) (done : List Bool) : ∀ (a b : List Int) (s : Int × Int) (k : Nat), linkSum rate done (a ++ b) s k = linkSum rate done b (linkSum rate done a s k).1 (linkSum rate done a s k).2 := by
  intro a
  induction a with
  | nil => intro b s k; rfl
  | cons u us ih =>
    intro b s k
    simp only [List.cons_append, linkSum]
    split
    · exact ih _ _ _
    · exact ih _ _ _
theorem linkSum_step {rate : List (Int × Int)} {done : List Bool} {us : List Int} {s : Int × Int} {k j : Nat} (hj : j < us.length) :
    linkSum rate done (us.take (j + 1)) s k = if dB done (us.getD j 0).toNat then (sumP (linkSum rate done (us.take j) s k).1 (negP (rP rate (us.getD j 0).toNat)), (linkSum rate done (us.take j) s k).2) else ((linkSum rate done (us.take j) s k).1, (linkSum rate done (us.take j) s k).2 + 1) := by
  rw [take_snoc us j hj 0, linkSum_append]
  simp only [linkSum]
theorem sumQ_nonneg {x : Nat → Rat} : ∀ {l : List Nat}, (∀ g ∈ l, 0 ≤ x g) → 0 ≤ sumQ x l := by
  intro l
  induction l with
  | nil => intro _; exact Rat.le_refl
  | cons u us ih =>
    intro h
    have h1 := h u (by simp)
    have h2 := ih (fun g hg => h g (by simp [hg]))
    simp only [sumQ]
    grind
theorem sumQ_append (x : Nat → Rat) : ∀ (a b : List Nat), sumQ x (a ++ b) = sumQ x a + sumQ x b := by
  intro a
  induction a with
  | nil => intro b; simp only [List.nil_append, sumQ]; grind
  | cons u us ih => intro b; simp only [List.cons_append, sumQ, ih]; grind

section
variable {caps : List Int} {paths : List (List Int)} {rate : List (Int × Int)} {done : List Bool} {b : Rat} {D : Int}

theorem users_toNat {l : Nat} {u : Int} (h : u ∈ users paths l) : u.toNat ∈ usN paths l := List.mem_map.2 ⟨u, h, rfl⟩
theorem lev0_nonneg (hi : Inv caps paths rate done b D) {u : Nat} (hu : u < paths.length) : 0 ≤ lev done rate 0 u := by
  unfold lev
  split
  · rename_i h; exact Rat.le_of_lt (hi.over u hu h).2.1
  · exact Rat.le_refl
/-- what is left on a link is right, and no less than 0 -/
theorem linkSum_right (hg : Good caps paths) (hi : Inv caps paths rate done b D) (hD : D ≤ 46656) {l : Nat} (hl : l < caps.length) (j : Nat) :
    faultP (linkSum rate done ((users paths l).take j) (caps.getD l 0, 1) 0).1 = 0 ∧ Over D (linkSum rate done ((users paths l).take j) (caps.getD l 0, 1) 0).1 ∧ 0 ≤ val (linkSum rate done ((users paths l).take j) (caps.getD l 0, 1) 0).1 ∧ val (linkSum rate done ((users paths l).take j) (caps.getD l 0, 1) 0).1 ≤ 1000 ∧
    (linkSum rate done ((users paths l).take j) (caps.getD l 0, 1) 0).2 ≤ j := by
  obtain ⟨h1, h2, h3⟩ := linkSum_spec rate done D ((users paths l).take j) (caps.getD l 0, 1) 0 (over_whole D _) (fun u hu hd => (hi.over _ (usN_lt (users_toNat (List.mem_of_mem_take hu))) hd).1)
  have hall : ((users paths l).take j).map Int.toNat ++ ((users paths l).drop j).map Int.toNat = usN paths l := by
    rw [← List.map_append, List.take_append_drop]; rfl
  have hc := capQ_bd hg.1 hl
  have hroom := hi.room l hl
  have hlin := lev_lin done rate b 0 (usN paths l)
  have hb := hi.hb
  have hcnt : (0 : Rat) ≤ (b - 0) * ((List.countP (fun u => !dB done u) (usN paths l) : Nat) : Rat) := Rat.mul_nonneg (by grind) Rat.natCast_nonneg
  have hsplit := sumQ_append (lev done rate 0) (((users paths l).take j).map Int.toNat) (((users paths l).drop j).map Int.toNat)
  rw [hall] at hsplit
  have n1 : 0 ≤ sumQ (lev done rate 0) (((users paths l).take j).map Int.toNat) := sumQ_nonneg fun g hg => by
    obtain ⟨u, hu, rfl⟩ := List.mem_map.1 hg
    exact lev0_nonneg hi (usN_lt (users_toNat (List.mem_of_mem_take hu)))
  have n2 : 0 ≤ sumQ (lev done rate 0) (((users paths l).drop j).map Int.toNat) := sumQ_nonneg fun g hg => by
    obtain ⟨u, hu, rfl⟩ := List.mem_map.1 hg
    exact lev0_nonneg hi (usN_lt (users_toNat (List.mem_of_mem_drop hu)))
  have hw : val (caps.getD l 0, 1) = capQ caps l := by rw [val_whole]; rfl
  rw [hw] at h3
  have v1 : 0 ≤ val (linkSum rate done ((users paths l).take j) (caps.getD l 0, 1) 0).1 := by grind
  have v2 : val (linkSum rate done ((users paths l).take j) (caps.getD l 0, 1) 0).1 ≤ 1000 := by grind
  refine ⟨over_fault h1 hi.hD (by omega) v1 v2, h1, v1, v2, ?_⟩
  rw [h2, Nat.zero_add]
  refine Nat.le_trans List.countP_le_length ?_
  rw [List.length_map, List.length_take]
  omega
theorem lev_nonneg (hi : Inv caps paths rate done b D) {t : Rat} (ht : 0 ≤ t) {u : Nat} (hu : u < paths.length) : 0 ≤ lev done rate t u := by
  unfold lev
  split
  · rename_i h; exact Rat.le_of_lt (hi.over u hu h).2.1
  · exact ht
/-- a link's share is right, above what all have, and no more than the link takes -/
theorem share_right (hg : Good caps paths) (hi : Inv caps paths rate done b D) (hD : D ≤ 46656) {l : Nat} (hl : l < caps.length) {s : Int × Int} (h : shareOf caps paths rate done l = some s) : faultP s = 0 ∧ 0 ≤ val s ∧ val s ≤ 1000 := by
  obtain ⟨h1, ⟨u, hu, hd⟩, k, hk1, hk2, ho⟩ := share_some (fun f a b => (hi.over f a b).1) h
  have hc := capQ_bd hg.1 hl
  have hst := hi.strict l hl ⟨u, hu, hd⟩
  have hbv : b < val s := by
    apply Classical.byContradiction
    intro hn
    have hle : val s ≤ b := by grind
    have := sumQ_le (x := lev done rate (val s)) (y := lev done rate b) (l := usN paths l) (fun g _ => by
      unfold lev
      split
      · exact Rat.le_refl
      · exact hle)
    grind
  have hb := hi.hb
  have v0 : 0 ≤ val s := by grind
  have hle := le_sumQ (x := lev done rate (val s)) (f := u) (fun g hg => lev_nonneg hi v0 (usN_lt hg)) hu
  have hlu : lev done rate (val s) u = val s := by unfold lev; rw [hd]; rfl
  have v1 : val s ≤ 1000 := by grind
  have hkD : 1 ≤ D * (k : Int) := by
    have := Int.mul_le_mul hi.hD (show (1 : Int) ≤ (k : Int) by omega) (by decide) (by have := hi.hD; omega)
    omega
  have hkD2 : D * (k : Int) ≤ 1000000 := by
    have hn := hg.2.2.1
    have h0 := hi.hD
    have : D * (k : Int) ≤ D * 6 := Int.mul_le_mul_of_nonneg_left (by omega) (by omega)
    omega
  exact ⟨over_fault ho hkD hkD2 v0 v1, v0, v1⟩
end

/-- which of the first n links have the least share of them -/
def narAt (sh : Nat → Option (Int × Int)) (n l : Nat) : Bool := decide (l < n) && (sh l).isSome && decide (sh l = bestOf sh n)
theorem narAt_eq (sh : Nat → Option (Int × Int)) (n : Nat) : narOf sh n = narAt sh n := rfl
def bestD (o : Option (Int × Int)) : Int × Int := o.getD (-1, 1)
theorem best_skip {sh : Nat → Option (Int × Int)} {n : Nat} (h : sh n = none) : bestOf sh (n + 1) = bestOf sh n ∧ ∀ l, narAt sh (n + 1) l = narAt sh n l := by
  have e : bestOf sh (n + 1) = bestOf sh n := by
    conv => lhs; unfold bestOf
    rw [h]
  refine ⟨e, fun l => ?_⟩
  unfold narAt
  rw [e]
  by_cases hl : l = n
  · subst hl; rw [h]; simp
  · have : (l < n + 1) ↔ (l < n) := by omega
    simp only [this]
/-- a share that is less than all before, or the first one -/
theorem best_new {sh : Nat → Option (Int × Int)} {n : Nat} {s : Int × Int} (hp : ∀ l t, l ≤ n → sh l = some t → faultP t = 0) (h : sh n = some s) (hb : bestOf sh n = none ∨ ∃ b, bestOf sh n = some b ∧ s.1 * b.2 < b.1 * s.2) :
    bestOf sh (n + 1) = some s ∧ ∀ l, narAt sh (n + 1) l = decide (l = n) := by
  have e : bestOf sh (n + 1) = some s := by
    conv => lhs; unfold bestOf
    rw [h]
    rcases hb with hb | ⟨b, hb, hlt⟩
    · rw [hb]
    · rw [hb]; simp only; rw [if_pos hlt]
  refine ⟨e, fun l => ?_⟩
  unfold narAt
  rw [e]
  by_cases hl : l = n
  · subst hl; rw [h]; simp
  · have hx : ∀ x, sh l = some x → l < n → x ≠ s := by
      intro x hx hln hxs
      subst hxs
      rcases hb with hb | ⟨b, hb, hlt⟩
      · have := best_none _ hb l hln; rw [this] at hx; cases hx
      · -- of the first n none is less than b
        let sh' : Nat → Option (Int × Int) := fun l => if l < n then sh l else none
        have hsame : ∀ m, m ≤ n → bestOf sh' m = bestOf sh m := by
          intro m
          induction m with
          | zero => intro _; rfl
          | succ m ih =>
            intro hm
            unfold bestOf
            rw [ih (by omega)]
            have : sh' m = sh m := if_pos (by omega)
            rw [this]
        have hp' : ∀ l t, sh' l = some t → 1 ≤ t.2 := by
          intro l t ht
          by_cases hl : l < n
          · have : sh' l = sh l := if_pos hl
            rw [this] at ht
            exact fault_pos (hp l t (by omega) ht)
          · have : sh' l = none := if_neg hl
            rw [this] at ht; cases ht
        have hmin := (best_some hp' n b (by rw [hsame n (Nat.le_refl _)]; exact hb)).2 l x hln (by rw [show sh' l = sh l from if_pos hln]; exact hx)
        obtain ⟨⟨l0, hl0, hb0⟩, _⟩ := best_some hp' n b (by rw [hsame n (Nat.le_refl _)]; exact hb)
        have pb := hp' l0 b hb0
        have px := fault_pos (hp n x (Nat.le_refl _) h)
        have := (cross_lt px pb).2 hlt
        grind
    have hne : decide (l = n) = false := decide_eq_false hl
    rw [hne]
    by_cases hln : l < n
    · cases hs : sh l with
      | none => simp
      | some x =>
        have := hx x hs hln
        simp [this]
    · have : ¬ l < n + 1 := by omega
      simp [this]
/-- a share as great as the least before -/
theorem best_same {sh : Nat → Option (Int × Int)} {n : Nat} {s : Int × Int} (h : sh n = some s) (hb : bestOf sh n = some s) : bestOf sh (n + 1) = some s ∧ ∀ l, narAt sh (n + 1) l = (narAt sh n l || decide (l = n)) := by
  have e : bestOf sh (n + 1) = some s := by
    conv => lhs; unfold bestOf
    rw [h, hb]
    simp only
    split <;> rfl
  refine ⟨e, fun l => ?_⟩
  unfold narAt
  rw [e, hb]
  by_cases hl : l = n
  · subst hl; rw [h]; simp
  · have : (l < n + 1) ↔ (l < n) := by omega
    simp only [this, hl, decide_false, Bool.or_false]
/-- a greater one -/
theorem best_more {sh : Nat → Option (Int × Int)} {n : Nat} {s b : Int × Int} (h : sh n = some s) (hb : bestOf sh n = some b) (hlt : b.1 * s.2 < s.1 * b.2) : bestOf sh (n + 1) = some b ∧ ∀ l, narAt sh (n + 1) l = narAt sh n l := by
  have e : bestOf sh (n + 1) = some b := by
    conv => lhs; unfold bestOf
    rw [h, hb]
    simp only
    rw [if_neg (by omega)]
  refine ⟨e, fun l => ?_⟩
  unfold narAt
  rw [e, hb]
  by_cases hl : l = n
  · subst hl
    rw [h]
    have : ¬ s = b := by rintro rfl; omega
    simp [this]
  · have : (l < n + 1) ↔ (l < n) := by omega
    simp only [this]

/-- the round, flow by flow -/
theorem round_step (paths : List (List Int)) (done : List Bool) (nar : Nat → Bool) (k : Nat) : ((List.range (k + 1)).filter fun f => !dB done f && (paths.getD f []).any fun x => nar x.toNat).map (fun f : Nat => (f : Int)) =
    ((List.range k).filter fun f => !dB done f && (paths.getD f []).any fun x => nar x.toNat).map (fun f : Nat => (f : Int)) ++ (if (!dB done k && (paths.getD k []).any fun x => nar x.toNat) = true then [(k : Int)] else []) := by
  rw [List.range_succ, List.filter_append, List.map_append]
  congr 1
  simp only [List.filter_cons, List.filter_nil]
  split <;> rfl
def roundTo (paths : List (List Int)) (done : List Bool) (nar : Nat → Bool) (k : Nat) : List Int := ((List.range k).filter fun f => !dB done f && (paths.getD f []).any fun x => nar x.toNat).map (fun f : Nat => (f : Int))
theorem roundTo_all (paths : List (List Int)) (done : List Bool) (nar : Nat → Bool) : roundTo paths done nar paths.length = roundOf paths done nar := rfl
theorem roundTo_length (paths : List (List Int)) (done : List Bool) (nar : Nat → Bool) (k : Nat) : (roundTo paths done nar k).length ≤ k := by
  unfold roundTo
  rw [List.length_map]
  exact Nat.le_trans (List.length_filter_le _ _) (by simp)

/-- so many fewer are free -/
theorem freeN_step {paths : List (List Int)} {done : List Bool} {nar : Nat → Bool} (hl : done.length = paths.length) : freeN paths (setDone done (roundOf paths done nar)) + (roundOf paths done nar).length = freeN paths done := by
  have hm : ∀ f, f < paths.length → dB (setDone done (roundOf paths done nar)) f = (decide ((f : Int) ∈ roundOf paths done nar) || dB done f) := fun f hf => dB_setDone (by omega)
  have hlen : (roundOf paths done nar).length = (List.range paths.length).countP fun f => !dB done f && (paths.getD f []).any fun x => nar x.toNat := by
    unfold roundOf
    rw [List.length_map, List.countP_eq_length_filter]
  rw [hlen]
  unfold freeN
  have key : ∀ l : List Nat, (∀ f ∈ l, f < paths.length) → l.countP (fun f => !dB (setDone done (roundOf paths done nar)) f) + l.countP (fun f => !dB done f && (paths.getD f []).any fun x => nar x.toNat) = l.countP (fun f => !dB done f) := by
    intro l
    induction l with
    | nil => intro _; rfl
    | cons f l ih =>
      intro h
      have h1 := ih (fun g hg => h g (by simp [hg]))
      have hf := h f (by simp)
      rw [List.countP_cons, List.countP_cons, List.countP_cons, hm f hf]
      have hd : decide ((f : Int) ∈ roundOf paths done nar) = (!dB done f && (paths.getD f []).any fun x => nar x.toNat) := by
        rw [Bool.eq_iff_iff, decide_eq_true_eq, mem_round, Bool.and_eq_true, Bool.not_eq_true', List.any_eq_true]
        constructor
        · rintro ⟨_, h2, h3⟩; exact ⟨h2, h3⟩
        · rintro ⟨h2, h3⟩; exact ⟨hf, h2, h3⟩
      rw [hd]
      generalize ((paths.getD f []).any fun x => nar x.toNat) = z
      cases dB done f <;> cases z <;> simp only [Bool.not_true, Bool.not_false, Bool.true_and, Bool.false_and, Bool.or_true, Bool.or_false, Bool.true_or, Bool.false_or, if_true, if_false, Bool.false_eq_true] <;> omega
  exact key _ (fun f hf => List.mem_range.1 hf)
end Go.Proofs.Ytkpmjmgmgkdfnaj.Fl

/- Rows of bools and of fractions that a call makes and writes into: what a walk is told of them. -/
namespace Go.Proofs.Ytkpmjmgmgkdfnaj
namespace Fl
open Go.RowKit Fr Ns Ld
set_option linter.unusedSimpArgs false
set_option linter.unusedVariables false

theorem infoBool : (Try.prog.info? 4).map (fun i => (i.zero, i.size, i.bytes)) = some (some (.bool false), 1, 1) := by kernel_rfl
def boolsV (l : List Bool) : List Value := l.map Value.bool
theorem boolsV_length (l : List Bool) : (boolsV l).length = l.length := by simp [boolsV]
end Fl
end Go.Proofs.Ytkpmjmgmgkdfnaj

/- The rounds' memory and how far they are: what the walk through the document's Fill is told. -/
namespace Go.Proofs.Ytkpmjmgmgkdfnaj
namespace Fl
open Go.RowKit Fr Ns Ld
set_option linter.unusedSimpArgs false
set_option linter.unusedVariables false

theorem made_fracs (n : Nat) : (madeCells #[Value.int .i64 0, Value.int .i64 0] (n * 2)).toList = flat (List.replicate n (0, 0)) := by
  apply List.ext_getElem?
  intro i
  by_cases hi : i < n * 2
  · have h1 : (madeCells #[Value.int .i64 0, Value.int .i64 0] (n * 2)).toList[i]? = some (.int .i64 0) := by
      unfold madeCells
      simp only [Array.toList_map, List.getElem?_map, Array.toList_range, List.getElem?_range hi, Option.map_some]
      rcases Nat.mod_two_eq_zero_or_one i with h | h <;> simp [h]
    rw [h1]
    rcases Nat.mod_two_eq_zero_or_one i with h | h
    · have e : i = i / 2 * 2 := by omega
      have := (flat_at (List.replicate n ((0 : Int), (0 : Int))) (i / 2) (by simp; omega)).1
      rw [← e] at this
      rw [this, getD_replicate _ _ _ _ (by omega)]
    · have e : i = i / 2 * 2 + 1 := by omega
      have := (flat_at (List.replicate n ((0 : Int), (0 : Int))) (i / 2) (by simp; omega)).2
      rw [← e] at this
      rw [this, getD_replicate _ _ _ _ (by omega)]
  · rw [List.getElem?_eq_none (by simp [size_madeCells]; omega), List.getElem?_eq_none (by rw [flat_length]; simp; omega)]
theorem made_bools (n : Nat) : (madeCells #[Value.bool false] n).toList = boolsV (List.replicate n false) := by
  rw [toList_madeCells_one]; simp [boolsV]

theorem owns_later {w w' : World} {base : Nat} {e : TypeId} {size n : Nat} {v : Value} {xs : List Value} (hb : Below w.heap.size w w') (h : w.ownsRow base e size v n xs) : w'.ownsRow base e size v n xs := by
  refine ⟨h.1, ?_⟩
  rcases h.2 with h' | ⟨g', cap', cur, h', hg, hc, r⟩
  · exact .inl h'
  · have hlt : g' < w.heap.size := (Array.getElem?_eq_some_iff.1 hc).1
    exact .inr ⟨g', cap', cur, h', hg, by rw [hb.block g' hlt]; exact hc, r⟩
/-- what the rounds' memory holds -/
def FillMem (gr gd : Nat) (w : World) (v6 : Value) (rate : List (Int × Int)) (done : List Bool) (acc : List (List Int)) : Prop :=
  RowAt w gr 49 (flat rate) ∧ RowAt w gd 4 (boolsV done) ∧ ∃ vs, w.ownsRow (gd + 1) 36 1 v6 acc.length vs ∧ ∀ i, i < acc.length → IntsAt (fun b => gd < b ∧ v6.ownBlock ≠ some b) w (vs.getD i undef) (acc.getD i [])
theorem mem_later {gr gd : Nat} {w w' : World} {v6 : Value} {rate : List (Int × Int)} {done : List Bool} {acc : List (List Int)} (h : FillMem gr gd w v6 rate done acc) (hb : Below w.heap.size w w') : FillMem gr gd w' v6 rate done acc := by
  obtain ⟨h1, h2, vs, h3, h4⟩ := h
  exact ⟨h1.later hb h1.lt, h2.later hb h2.lt, vs, owns_later hb h3, fun i hi => (h4 i hi).later hb⟩
theorem nar_start (sh : Nat → Option (Int × Int)) (n : Nat) : (List.range n).map (narAt sh 0) = List.replicate n false := by
  apply List.ext_getElem
  · simp
  · intro i h1 h2
    simp [narAt]
/-- how far the rounds are -/
def FillAt (caps : List Int) (paths : List (List Int)) (rate : List (Int × Int)) (done : List Bool) (acc : List (List Int)) : Prop :=
  ∃ (k : Nat) (b : Rat) (D : Int), Inv caps paths rate done b D ∧ D * 6 ^ freeN paths done ≤ 46656 ∧ freeN paths done ≤ k ∧ fill caps paths = ((fillFrom caps paths k rate done).1, acc ++ (fillFrom caps paths k rate done).2)

theorem freeN_le (paths : List (List Int)) (done : List Bool) : freeN paths done ≤ paths.length := by
  unfold freeN
  exact Nat.le_trans List.countP_le_length (by simp)
theorem freeN_start (paths : List (List Int)) : freeN paths (List.replicate paths.length false) = paths.length := by
  unfold freeN
  have : (List.range paths.length).countP (fun f => !dB (List.replicate paths.length false) f) = (List.range paths.length).length := by
    rw [List.countP_eq_length]
    intro f hf
    have : dB (List.replicate paths.length false) f = false := by
      unfold dB
      simp only [List.getD, List.getElem?_replicate]
      split <;> rfl
    rw [this]; rfl
  rw [this]; simp
theorem fillAt_start {caps : List Int} {paths : List (List Int)} (hg : Good caps paths) : FillAt caps paths (List.replicate paths.length (0, 0)) (List.replicate paths.length false) [] := by
  refine ⟨paths.length, 0, 1, inv_start hg, ?_, freeN_le _ _, by simp [fill]⟩
  rw [Int.one_mul]
  have h1 : (6 : Int) ^ freeN paths (List.replicate paths.length false) ≤ 6 ^ 6 := six (Nat.le_trans (freeN_le _ _) hg.2.2.1)
  have h2 : (6 : Int) ^ 6 = 46656 := by decide
  omega
theorem all_of_free {paths : List (List Int)} {done : List Bool} (h : freeN paths done = 0) : ∀ f, f < paths.length → dB done f = true := by
  intro f hf
  unfold freeN at h
  rw [List.countP_eq_zero] at h
  simpa using h f (List.mem_range.2 hf)
theorem fillAt_end {caps : List Int} {paths : List (List Int)} {rate : List (Int × Int)} {done : List Bool} {acc : List (List Int)} (h : FillAt caps paths rate done acc) (hz : freeN paths done = 0) : fill caps paths = (rate, acc) := by
  obtain ⟨k, b, D, hi, _, _, he⟩ := h
  have hall : done.all id = true := (all_done hi.ld).2 (all_of_free hz)
  have : fillFrom caps paths k rate done = (rate, []) := by
    cases k with
    | zero => rfl
    | succ k => simp only [fillFrom]; rw [if_pos hall]
  rw [he, this]; simp
theorem len_le_flatten : ∀ (l : List (List Int)), (∀ a ∈ l, a ≠ []) → l.length ≤ l.flatten.length := by
  intro l
  induction l with
  | nil => intro _; simp
  | cons a l ih =>
    intro h
    have := ih (fun x hx => h x (by simp [hx]))
    have ha := h a (by simp)
    have : 0 < a.length := List.length_pos_iff.2 ha
    simp only [List.length_cons, List.flatten_cons, List.length_append]
    omega
theorem rises_ne {x : Nat → Rat} : ∀ {l : List (List Int)} {b : Rat}, Rises x b l → ∀ a ∈ l, a ≠ [] := by
  intro l
  induction l with
  | nil => intro b _ a ha; simp at ha
  | cons c l ih =>
    intro b h a ha
    obtain ⟨h1, v, _, _, h2⟩ := h
    rcases List.mem_cons.1 ha with rfl | ha
    · exact h1
    · exact ih h2 a ha
theorem flatten_bound {n : Nat} {l : List Int} (hn : l.Nodup) (h : ∀ u ∈ l, ∃ f : Nat, u = f ∧ f < n) : l.length ≤ n := by
  induction n generalizing l with
  | zero =>
    cases l with
    | nil => simp
    | cons a r => obtain ⟨f, _, hf⟩ := h a (by simp); omega
  | succ n ih =>
    have h1 := ih (l := l.erase (n : Int)) (hn.erase _) (by
      intro x hx
      have hx' := (hn.mem_erase_iff).1 hx
      obtain ⟨f, rfl, hf⟩ := h x hx'.2
      refine ⟨f, rfl, ?_⟩
      have : f ≠ n := fun e => hx'.1 (by rw [e])
      omega)
    have h2 : l.length ≤ (l.erase (n : Int)).length + 1 := by rw [List.length_erase]; split <;> omega
    omega
theorem fill_rounds_le {caps : List Int} {paths : List (List Int)} (hg : Good caps paths) : (fill caps paths).2.length ≤ paths.length := by
  obtain ⟨_, h1, h2, h3⟩ := fill_fair hg
  exact Nat.le_trans (len_le_flatten _ (rises_ne h1)) (flatten_bound h2 (fun u hu => (h3 u).1 hu))
theorem acc_length {caps : List Int} {paths : List (List Int)} {rate : List (Int × Int)} {acc : List (List Int)} (h : fill caps paths = (rate, acc)) (hg : Good caps paths) : acc.length ≤ paths.length := by
  have := fill_rounds_le hg
  rw [h] at this
  exact this

/-- all that one round asks -/
theorem fillAt_facts {caps : List Int} {paths : List (List Int)} {rate : List (Int × Int)} {done : List Bool} {acc : List (List Int)} (hg : Good caps paths) (h : FillAt caps paths rate done acc) (hz : 0 < freeN paths done) :
    rate.length = paths.length ∧ done.length = paths.length ∧
    (∀ l, l < caps.length → ∀ j, faultP (linkSum rate done ((users paths l).take j) (caps.getD l 0, 1) 0).1 = 0 ∧ (linkSum rate done ((users paths l).take j) (caps.getD l 0, 1) 0).1.2 ≤ 46656 ∧ (linkSum rate done ((users paths l).take j) (caps.getD l 0, 1) 0).2 ≤ j) ∧
    (∀ f, f < paths.length → dB done f = true → faultP (rP rate f) = 0) ∧
    (∀ l s, l < caps.length → shareOf caps paths rate done l = some s → faultP s = 0 ∧ 0 ≤ s.1) ∧
    ∃ bst, bestOf (shareOf caps paths rate done) caps.length = some bst ∧ faultP bst = 0 ∧ roundOf paths done (narAt (shareOf caps paths rate done) caps.length) ≠ [] ∧
      FillAt caps paths (setRate rate (roundOf paths done (narAt (shareOf caps paths rate done) caps.length)) bst) (setDone done (roundOf paths done (narAt (shareOf caps paths rate done) caps.length))) (acc ++ [roundOf paths done (narAt (shareOf caps paths rate done) caps.length)]) := by
  obtain ⟨k, b, D, hi, hD, hk, he⟩ := h
  have hD' : D ≤ 46656 := by
    have h1 : (1 : Int) ≤ 6 ^ freeN paths done := by
      have := six (a := 0) (b := freeN paths done) (by omega)
      simpa using this
    have := Int.mul_le_mul_of_nonneg_left h1 (show 0 ≤ D by have := hi.hD; omega)
    omega
  have hex : ∃ f, f < paths.length ∧ dB done f = false := by
    apply Classical.byContradiction
    intro hn
    have : freeN paths done = 0 := by
      unfold freeN
      rw [List.countP_eq_zero]
      intro f hf hd
      exact hn ⟨f, List.mem_range.1 hf, by simpa using hd⟩
    omega
  have hnall : ¬ done.all id = true := fun ha => by
    obtain ⟨f, hf, hd⟩ := hex
    rw [(all_done hi.ld).1 ha f hf] at hd
    cases hd
  obtain ⟨bst, hb, hbv, hne, kk, hk1, hk6, hi'⟩ := inv_step hg hi hex
  have hsr : ∀ l s, l < caps.length → shareOf caps paths rate done l = some s → faultP s = 0 ∧ 0 ≤ s.1 := by
    intro l s hl hs
    obtain ⟨h1, h2, _⟩ := share_right hg hi hD' hl hs
    refine ⟨h1, ?_⟩
    have hp := fault_pos h1
    have e : (0 : Rat) = val (0, 1) := by rw [val_whole]; rfl
    rw [e] at h2
    have := (cross (a := (0, 1)) (by decide) hp).1 h2
    simpa using this
  refine ⟨hi.lr, hi.ld, fun l hl j => ?_, fun f hf hd => ?_, hsr, bst, hb, ?_, hne, ?_⟩
  · obtain ⟨h1, h2, _, _, h5⟩ := linkSum_right hg hi hD' hl j
    exact ⟨h1, Int.le_trans (Int.le_of_dvd (by have := hi.hD; omega) h2.2.2) hD', h5⟩
  · have ho := hi.over f hf hd
    obtain ⟨l, hl, hfl, hall, hs, _⟩ := hi.neck f hf hd
    have h2 := le_sumQ (x := xQ rate) (fun g hgl => Rat.le_of_lt (hi.over g (usN_lt hgl) (hall g hgl)).2.1) hfl
    have h3 := (capQ_bd hg.1 hl).2
    have h4 : xQ rate f = val (rP rate f) := rfl
    exact over_fault ho.1 hi.hD (by omega) (by rw [← h4]; exact Rat.le_of_lt ho.2.1) (by rw [← h4]; grind)
  · obtain ⟨⟨l, hl, hs⟩, _⟩ := best_some (fun l s h => by
      obtain ⟨_, _, _, _, _, ho⟩ := share_some (fun f a b => (hi.over f a b).1) h
      exact ho.1) _ _ hb
    exact (hsr l bst hl hs).1
  · have hfs := freeN_step (nar := narOf (shareOf caps paths rate done) caps.length) hi.ld
    have hlen : 0 < (roundOf paths done (narOf (shareOf caps paths rate done) caps.length)).length := List.length_pos_iff.2 hne
    cases k with
    | zero => omega
    | succ k =>
      refine ⟨k, _, _, hi', ?_, ?_, ?_⟩
      · have e1 : (6 : Int) ^ (freeN paths (setDone done (roundOf paths done (narOf (shareOf caps paths rate done) caps.length))) + 1) ≤ 6 ^ freeN paths done := six (by omega)
        have p0 : (0 : Int) ≤ 6 ^ freeN paths (setDone done (roundOf paths done (narOf (shareOf caps paths rate done) caps.length))) := Int.le_of_lt (Int.pow_pos (by decide))
        have h6 : (kk : Int) * 6 ^ freeN paths (setDone done (roundOf paths done (narOf (shareOf caps paths rate done) caps.length))) ≤ 6 * 6 ^ freeN paths (setDone done (roundOf paths done (narOf (shareOf caps paths rate done) caps.length))) := Int.mul_le_mul_of_nonneg_right (by omega) p0
        rw [Int.pow_succ] at e1
        have e3 : D * ((kk : Int) * 6 ^ freeN paths (setDone done (roundOf paths done (narOf (shareOf caps paths rate done) caps.length)))) ≤ D * 6 ^ freeN paths done := Int.mul_le_mul_of_nonneg_left (by omega) (by have := hi.hD; omega)
        rw [← narAt_eq, Int.mul_assoc]
        omega
      · rw [← narAt_eq]; omega
      · rw [he, fillFrom, if_neg hnall, hb]
        simp only [narAt_eq, List.append_assoc, List.singleton_append]
theorem owns_keep {w w' : World} {base : Nat} {e : TypeId} {size n : Nat} {v : Value} {xs : List Value} (hk : ∀ g, base ≤ g → g < w.heap.size → w'.heap[g]? = w.heap[g]?) (h : w.ownsRow base e size v n xs) : w'.ownsRow base e size v n xs := by
  refine ⟨h.1, ?_⟩
  rcases h.2 with h' | ⟨g', cap', cur, h', hg, hc, r⟩
  · exact .inl h'
  · have hlt : g' < w.heap.size := (Array.getElem?_eq_some_iff.1 hc).1
    exact .inr ⟨g', cap', cur, h', hg, by rw [hk g' hg hlt]; exact hc, r⟩
theorem range_dB (l : List Bool) : (List.range l.length).map (dB l) = l := by
  apply List.ext_getElem
  · simp
  · intro i h1 h2
    simp [dB, List.getD, List.getElem?_eq_getElem h2]
theorem range_rP (l : List (Int × Int)) : (List.range l.length).map (rP l) = l := by
  apply List.ext_getElem
  · simp
  · intro i h1 h2
    simp [rP, List.getD, List.getElem?_eq_getElem h2]
theorem setDone_nil (done : List Bool) : setDone done [] = done := by
  unfold setDone
  simp only [List.contains_nil, Bool.false_or]
  exact range_dB done
theorem setRate_nil (rate : List (Int × Int)) (b : Int × Int) : setRate rate [] b = rate := by
  unfold setRate
  simp only [List.contains_nil, Bool.false_eq_true, if_false]
  exact range_rP rate
theorem mem_take_succ {rd : List Int} {i : Nat} (hi : i < rd.length) (f : Int) : f ∈ rd.take (i + 1) ↔ f ∈ rd.take i ∨ f = rd.getD i 0 := by
  rw [take_snoc rd i hi 0, List.mem_append]
  simp
theorem setDone_step {done : List Bool} {rd : List Int} {i m : Nat} (hi : i < rd.length) (hm : rd.getD i 0 = m) (hl : m < done.length) : setDone done (rd.take (i + 1)) = (setDone done (rd.take i)).set m true := by
  apply List.ext_getElem
  · simp [setDone]
  · intro k h1 h2
    have hk : k < done.length := by simpa [setDone] using h1
    simp only [setDone, List.getElem_map, List.getElem_range, List.getElem_set, List.contains_iff_mem]
    by_cases e : m = k
    · subst e
      rw [if_pos rfl]
      have : ((m : Nat) : Int) ∈ rd.take (i + 1) := (mem_take_succ hi _).2 (.inr hm.symm)
      simp [this]
    · rw [if_neg e]
      congr 1
      rw [Bool.eq_iff_iff, List.contains_iff_mem, List.contains_iff_mem, mem_take_succ hi, hm]
      constructor
      · rintro (h | h)
        · exact h
        · omega
      · exact .inl
theorem setRate_step {rate : List (Int × Int)} {rd : List Int} {b : Int × Int} {i m : Nat} (hi : i < rd.length) (hm : rd.getD i 0 = m) (hl : m < rate.length) : setRate rate (rd.take (i + 1)) b = (setRate rate (rd.take i) b).set m b := by
  apply List.ext_getElem
  · simp [setRate]
  · intro k h1 h2
    have hk : k < rate.length := by simpa [setRate] using h1
    simp only [setRate, List.getElem_map, List.getElem_range, List.getElem_set]
    by_cases e : m = k
    · subst e
      rw [if_pos rfl, if_pos]
      rw [List.contains_iff_mem]
      exact (mem_take_succ hi _).2 (.inr hm.symm)
    · rw [if_neg e]
      have : (rd.take (i + 1)).contains ((k : Nat) : Int) = (rd.take i).contains ((k : Nat) : Int) := by
        rw [Bool.eq_iff_iff, List.contains_iff_mem, List.contains_iff_mem, mem_take_succ hi, hm]
        constructor
        · rintro (h | h)
          · exact h
          · omega
        · exact .inl
      rw [this]
theorem flat_set : ∀ (l : List (Int × Int)) (m : Nat) (a : Int × Int), flat (l.set m a) = ((flat l).set (m * 2) (.int .i64 a.1)).set (m * 2 + 1) (.int .i64 a.2) := by
  intro l
  induction l with
  | nil => intro m a; simp [flat]
  | cons b l ih =>
    intro m a
    cases m with
    | zero => simp [flat]
    | succ m =>
      rw [List.set_cons_succ, flat, ih, show (m + 1) * 2 = m * 2 + 1 + 1 by omega]
      simp [flat]
theorem dB_map (g : Nat → Bool) {n x : Nat} (h : x < n) : dB ((List.range n).map g) x = g x := by
  simp [dB, List.getD, List.getElem?_map, List.getElem?_range h]
theorem any_take (p : List Int) (g : Int → Bool) (i : Nat) (h : i < p.length) : (p.take (i + 1)).any g = ((p.take i).any g || g (p.getD i 0)) := by
  rw [take_snoc p i h 0, List.any_append]
  simp
theorem RowAt.keep {w w' : World} {g : Nat} {T : TypeId} {xs : List Value} (hk : w'.heap[g]? = w.heap[g]?) (h : RowAt w g T xs) : RowAt w' g T xs := by
  unfold RowAt
  rw [hk]; exact h
theorem best_mem {sh : Nat → Option (Int × Int)} : ∀ (n : Nat) (b : Int × Int), bestOf sh n = some b → ∃ l, l < n ∧ sh l = some b := by
  intro n
  induction n with
  | zero => intro b h; simp [bestOf] at h
  | succ n ih =>
    intro b h
    unfold bestOf at h
    cases hs : sh n with
    | none => rw [hs] at h; obtain ⟨l, hl, hb⟩ := ih b h; exact ⟨l, by omega, hb⟩
    | some s =>
      rw [hs] at h
      cases hb : bestOf sh n with
      | none => rw [hb] at h; obtain rfl := Option.some.inj h; exact ⟨n, by omega, hs⟩
      | some b0 =>
        rw [hb] at h
        simp only at h
        split at h
        · obtain rfl := Option.some.inj h; exact ⟨n, by omega, hs⟩
        · obtain rfl := Option.some.inj h; obtain ⟨l, hl, hb'⟩ := ih b0 hb; exact ⟨l, by omega, hb'⟩
theorem nar_new {sh : Nat → Option (Int × Int)} {n l : Nat} (h : ∀ i, narAt sh (l + 1) i = decide (i = l)) : (List.range n).map (narAt sh (l + 1)) = (List.replicate n false).set l true := by
  apply List.ext_getElem
  · simp
  · intro i h1 h2
    simp only [List.getElem_map, List.getElem_range, List.getElem_set, List.getElem_replicate, h]
    by_cases e : i = l
    · subst e; simp
    · have : ¬ l = i := fun x => e x.symm
      simp [e, this]
theorem nar_same {sh : Nat → Option (Int × Int)} {n l : Nat} (h : ∀ i, narAt sh (l + 1) i = (narAt sh l i || decide (i = l))) : (List.range n).map (narAt sh (l + 1)) = ((List.range n).map (narAt sh l)).set l true := by
  apply List.ext_getElem
  · simp
  · intro i h1 h2
    simp only [List.getElem_map, List.getElem_range, List.getElem_set, h]
    by_cases e : i = l
    · subst e; simp
    · have : ¬ l = i := fun x => e x.symm
      simp [e, this]
theorem boolsV_set (l : List Bool) (i : Nat) (b : Bool) : boolsV (l.set i b) = (boolsV l).set i (.bool b) := by simp [boolsV, List.map_set]
theorem RowAt.set2 {w : World} {g : Nat} {T : TypeId} {a b : Value} (h : RowAt w g T [a, b]) (x y : Value) : RowAt ((w.setCell ⟨g, 0, none⟩ x).setCell ⟨g, 1, none⟩ y) g T [x, y] := by
  have := (h.set 0 x).set 1 y
  simpa using this
theorem fillAt_acc {caps : List Int} {paths : List (List Int)} {rate : List (Int × Int)} {done : List Bool} {acc : List (List Int)} (hg : Good caps paths) (h : FillAt caps paths rate done acc) : acc.length ≤ paths.length := by
  obtain ⟨k, b, D, _, _, _, he⟩ := h
  have := fill_rounds_le hg
  rw [he] at this
  simp only [List.length_append] at this
  omega
/-- one round more -/
theorem mem_append {gr gd : Nat} {wr w13 : World} {v6 v' v16 : Value} {o : Obj} {rate' : List (Int × Int)} {done' : List Bool} {acc : List (List Int)} {rd : List Int} {vs : List Value} (hrt : RowAt wr gr 49 (flat rate')) (hdn : RowAt wr gd 4 (boolsV done')) (hgr : gr < gd)
    (hv : ∀ i, i < acc.length → IntsAt (fun b => gd < b ∧ v6.ownBlock ≠ some b) wr (vs.getD i undef) (acc.getD i [])) (hnew : IntsAt (fun b => gd < b ∧ v6.ownBlock ≠ some b) wr v16 rd) (hvs : vs.length = acc.length)
    (hown' : w13.ownsRow (gd + 1) 36 1 v' (acc.length + 1) (vs ++ [v16])) (hgrow : (wr.alloc o).grownBy w13 v6.ownBlock) (hat : v'.ownBlock = v6.ownBlock ∨ v'.ownBlock = some (wr.alloc o).heap.size) (hb : Below (gd + 1) wr w13) :
    FillMem gr gd w13 v' rate' done' (acc ++ [rd]) := by
  refine ⟨hrt.later hb (by omega), hdn.later hb (by omega), vs ++ [v16], by simpa using hown', ?_⟩
  have hkeep : ∀ b, (gd < b ∧ v6.ownBlock ≠ some b) → b < wr.heap.size → w13.heap[b]? = wr.heap[b]? := by
    intro b hb' hlt
    have h1 := hgrow.block b (by simp; omega) (fun e => hb'.2 e.symm)
    rw [h1]
    exact ((Below.refl wr.heap.size wr).alloc (Nat.le_refl _) o).block b hlt
  have hQ : ∀ b, (gd < b ∧ v6.ownBlock ≠ some b) → b < wr.heap.size → (gd < b ∧ v'.ownBlock ≠ some b) := by
    intro b hb' hlt
    refine ⟨hb'.1, ?_⟩
    rcases hat with h | h
    · rw [h]; exact hb'.2
    · rw [h]
      simp
      omega
  exact ints_snoc hvs (fun i hi => (hv i hi).keep hkeep hQ) (hnew.keep hkeep hQ)
theorem flat_cells {rate : List (Int × Int)} {m : Nat} (h : m < rate.length) : (flat rate)[m * 2]? = some (.int .i64 (rP rate m).1) ∧ (flat rate)[m * 2 + 1]? = some (.int .i64 (rP rate m).2) := flat_at rate m h
theorem bools_cell {done : List Bool} {m : Nat} (h : m < done.length) : (boolsV done)[m]? = some (.bool (dB done m)) := by
  simp [boolsV, dB, List.getD, List.getElem?_eq_getElem h]

end Fl
end Go.Proofs.Ytkpmjmgmgkdfnaj

/- The landed fill's own lists: the links of a least share, who is free, flow by flow. No Go in it but what FlMem brings. -/
namespace Go.Proofs.Ytkpmjmgmgkdfnaj
namespace Fl
open Go.RowKit Fr Ns Ld
set_option linter.unusedSimpArgs false
set_option linter.unusedVariables false

/-- the links of the least share among the first n, rising -/
def linksTo (sh : Nat → Option (Int × Int)) (n : Nat) : List Int := ((List.range n).filter (narAt sh n)).map (fun l : Nat => (l : Int))
theorem linksTo_length (sh : Nat → Option (Int × Int)) (n : Nat) : (linksTo sh n).length ≤ n := by
  unfold linksTo
  rw [List.length_map]
  exact Nat.le_trans (List.length_filter_le _ _) (by simp)
theorem links_keep {sh : Nat → Option (Int × Int)} {n : Nat} (h : ∀ l, narAt sh (n + 1) l = narAt sh n l) : linksTo sh (n + 1) = linksTo sh n := by
  unfold linksTo
  have z : narAt sh n n = false := by simp [narAt]
  rw [show narAt sh (n + 1) = narAt sh n from funext h, List.range_succ, List.filter_append, List.map_append]
  simp [List.filter_cons, z]
theorem links_new {sh : Nat → Option (Int × Int)} {n : Nat} (h : ∀ l, narAt sh (n + 1) l = decide (l = n)) : linksTo sh (n + 1) = [(n : Int)] := by
  unfold linksTo
  have e : (List.range n).filter (fun l => decide (l = n)) = [] := List.filter_eq_nil_iff.2 (fun a ha => by have := List.mem_range.1 ha; simp; omega)
  rw [show narAt sh (n + 1) = (fun l => decide (l = n)) from funext h, List.range_succ, List.filter_append, e]
  simp [List.filter_cons]
theorem links_same {sh : Nat → Option (Int × Int)} {n : Nat} (h : ∀ l, narAt sh (n + 1) l = (narAt sh n l || decide (l = n))) : linksTo sh (n + 1) = linksTo sh n ++ [(n : Int)] := by
  unfold linksTo
  have e : (List.range n).filter (fun l => narAt sh n l || decide (l = n)) = (List.range n).filter (narAt sh n) := List.filter_congr (fun a ha => by
    have := List.mem_range.1 ha
    have hne : decide (a = n) = false := decide_eq_false (by omega)
    rw [hne, Bool.or_false])
  rw [show narAt sh (n + 1) = (fun l => narAt sh n l || decide (l = n)) from funext h, List.range_succ, List.filter_append, e]
  simp [List.filter_cons]
theorem mem_links {sh : Nat → Option (Int × Int)} {n : Nat} {x : Int} : x ∈ linksTo sh n ↔ ∃ l : Nat, x = l ∧ l < n ∧ narAt sh n l = true := by
  unfold linksTo
  rw [List.mem_map]
  constructor
  · rintro ⟨l, hl, rfl⟩
    rw [List.mem_filter, List.mem_range] at hl
    exact ⟨l, rfl, hl.1, hl.2⟩
  · rintro ⟨l, rfl, h1, h2⟩
    exact ⟨l, List.mem_filter.2 ⟨List.mem_range.2 h1, h2⟩, rfl⟩
theorem links_some {sh : Nat → Option (Int × Int)} {n : Nat} {b : Int × Int} (h : bestOf sh n = some b) : 0 < (linksTo sh n).length := by
  obtain ⟨l, hl, hs⟩ := best_mem n b h
  have : (l : Int) ∈ linksTo sh n := mem_links.2 ⟨l, rfl, hl, by simp [narAt, hl, hs, h]⟩
  exact List.length_pos_of_mem this
theorem links_none {sh : Nat → Option (Int × Int)} {n : Nat} (h : bestOf sh n = none) : linksTo sh n = [] := by
  rw [List.eq_nil_iff_forall_not_mem]
  intro x hx
  obtain ⟨l, _, hl, hn⟩ := mem_links.1 hx
  have := best_none n h l hl
  simp [narAt, this] at hn
theorem in_links {sh : Nat → Option (Int × Int)} {n : Nat} {x : Int} (hx : 0 ≤ x) : inB (linksTo sh n) x = narAt sh n x.toNat := by
  rw [Bool.eq_iff_iff]
  have : inB (linksTo sh n) x = true ↔ x ∈ linksTo sh n := by simp [inB]
  rw [this, mem_links]
  constructor
  · rintro ⟨l, rfl, _, h⟩; simpa using h
  · intro h
    have hl : x.toNat < n := by
      apply Classical.byContradiction
      intro hn
      simp [narAt, hn] at h
    exact ⟨x.toNat, by omega, hl, h⟩
theorem any_links {sh : Nat → Option (Int × Int)} {n : Nat} {p : List Int} (hp : ∀ x ∈ p, 0 ≤ x) : p.any (fun x => inB (linksTo sh n) x) = p.any (fun x => narAt sh n x.toNat) := by
  rw [Bool.eq_iff_iff, List.any_eq_true, List.any_eq_true]
  constructor
  · rintro ⟨x, hx, h⟩; exact ⟨x, hx, by rw [← in_links (hp x hx)]; exact h⟩
  · rintro ⟨x, hx, h⟩; exact ⟨x, hx, by rw [in_links (hp x hx)]; exact h⟩

/-! ### flow by flow -/
theorem usersFrom_app (link : Int) : ∀ (a b : List (List Int)) (i : Nat), usersFrom link i (a ++ b) = usersFrom link i a ++ usersFrom link (i + a.length) b := by
  intro a
  induction a with
  | nil => intro b i; simp [usersFrom]
  | cons p r ih =>
    intro b i
    simp only [List.cons_append, usersFrom, ih]
    have e : i + 1 + r.length = i + (p :: r).length := by simp; omega
    rw [e]
    split <;> simp
theorem users_take (paths : List (List Int)) (l : Int) (k : Nat) : users (paths.take k) l = (users paths l).take (users (paths.take k) l).length := by
  have e : users paths l = users (paths.take k) l ++ usersFrom l (0 + (paths.take k).length) (paths.drop k) := by
    unfold users
    rw [← usersFrom_app, List.take_append_drop]
  rw [e, List.take_left]
/-- what a link takes, less the rates of the first k flows that are not free, and how many of these are -/
def linkTo (caps : List Int) (paths : List (List Int)) (rate : List (Int × Int)) (done : List Bool) (l k : Nat) : (Int × Int) × Nat := linkSum rate done (users (paths.take k) l) (caps.getD l 0, 1) 0
theorem linkTo_zero (caps : List Int) (paths : List (List Int)) (rate : List (Int × Int)) (done : List Bool) (l : Nat) : linkTo caps paths rate done l 0 = ((caps.getD l 0, 1), 0) := rfl
theorem linkTo_step {caps : List Int} {paths : List (List Int)} {rate : List (Int × Int)} {done : List Bool} {l k : Nat} (hk : k < paths.length) :
    linkTo caps paths rate done l (k + 1) = if inB (paths.getD k []) l = true then (if dB done k = true then (sumP (linkTo caps paths rate done l k).1 (negP (rP rate k)), (linkTo caps paths rate done l k).2) else ((linkTo caps paths rate done l k).1, (linkTo caps paths rate done l k).2 + 1)) else linkTo caps paths rate done l k := by
  unfold linkTo
  rw [users_step paths l k hk, linkSum_append]
  by_cases h : inB (paths.getD k []) l = true
  · rw [if_pos h, if_pos h]
    simp only [linkSum, Int.toNat_natCast]
  · rw [if_neg h, if_neg h]
    simp only [linkSum]
theorem linkTo_all (caps : List Int) (paths : List (List Int)) (rate : List (Int × Int)) (done : List Bool) (l : Nat) : linkTo caps paths rate done l paths.length = linkSum rate done (users paths l) (caps.getD l 0, 1) 0 := by
  unfold linkTo
  rw [List.take_of_length_le (Nat.le_refl _)]
theorem linkTo_part (caps : List Int) (paths : List (List Int)) (rate : List (Int × Int)) (done : List Bool) (l k : Nat) : ∃ j, j ≤ paths.length ∧ linkTo caps paths rate done l k = linkSum rate done ((users paths l).take j) (caps.getD l 0, 1) 0 := by
  refine ⟨(users (paths.take k) l).length, ?_, ?_⟩
  · have := users_length (l : Int) 0 (paths.take k)
    have h2 : (paths.take k).length ≤ paths.length := by rw [List.length_take]; omega
    unfold users
    omega
  · unfold linkTo
    rw [← users_take]
theorem linkTo_free {caps : List Int} {paths : List (List Int)} {rate : List (Int × Int)} {done : List Bool} {l : Nat} : ∀ k, k ≤ paths.length → (linkTo caps paths rate done l k).2 ≤ k := by
  intro k
  induction k with
  | zero => intro _; rw [linkTo_zero]; exact Nat.le_refl 0
  | succ k ih =>
    intro hk
    have := ih (by omega)
    rw [linkTo_step (by omega)]
    split
    · split <;> simp <;> omega
    · omega

/-! ### who is free -/
def freeL (done : List Bool) : List Bool := done.map (fun b => !b)
theorem freeL_length (done : List Bool) : (freeL done).length = done.length := by simp [freeL]
theorem free_cell {done : List Bool} {m : Nat} (h : m < done.length) : (boolsV (freeL done))[m]? = some (.bool (!dB done m)) := by
  simp [boolsV, freeL, dB, List.getD, List.getElem?_eq_getElem h]
theorem freeL_start (n : Nat) : freeL (List.replicate n false) = List.replicate n true := by simp [freeL]
theorem freeL_set (done : List Bool) (m : Nat) : freeL (done.set m true) = (freeL done).set m false := by simp [freeL, List.map_set]
theorem free_any {paths : List (List Int)} {done : List Bool} (hl : done.length = paths.length) : (freeL done).any id = decide (freeN paths done ≠ 0) := by
  rw [Bool.eq_iff_iff, List.any_eq_true, decide_eq_true_eq]
  unfold freeN
  rw [Ne, List.countP_eq_zero]
  constructor
  · rintro ⟨b, hb, h⟩ hn
    obtain ⟨i, hi, rfl⟩ := List.mem_iff_getElem.1 hb
    rw [freeL_length] at hi
    have := hn i (List.mem_range.2 (by omega))
    simp [freeL] at h
    simp [dB, List.getD, List.getElem?_eq_getElem hi, h] at this
  · intro hn
    apply Classical.byContradiction
    intro hc
    refine hn (fun f hf => ?_)
    have hf' := List.mem_range.1 hf
    intro hd
    refine hc ⟨true, ?_, rfl⟩
    have h1 : done[f]'(by omega) = false := by
      simpa [dB, List.getD, List.getElem?_eq_getElem (show f < done.length by omega)] using hd
    unfold freeL
    rw [List.mem_map]
    exact ⟨false, by rw [← h1]; exact List.getElem_mem _, rfl⟩
theorem setDone_snoc {done : List Bool} {rd : List Int} {m : Nat} (hl : m < done.length) : setDone done (rd ++ [(m : Int)]) = (setDone done rd).set m true := by
  have h := setDone_step (done := done) (rd := rd ++ [(m : Int)]) (i := rd.length) (m := m) (by simp) (by simp [List.getD]) hl
  rw [List.take_left] at h
  rw [← h, List.take_of_length_le (by simp)]
theorem setRate_snoc {rate : List (Int × Int)} {rd : List Int} {b : Int × Int} {m : Nat} (hl : m < rate.length) : setRate rate (rd ++ [(m : Int)]) b = (setRate rate rd b).set m b := by
  have h := setRate_step (rate := rate) (rd := rd ++ [(m : Int)]) (b := b) (i := rd.length) (m := m) (by simp) (by simp [List.getD]) hl
  rw [List.take_left] at h
  rw [← h, List.take_of_length_le (by simp)]
theorem roundTo_lt {paths : List (List Int)} {done : List Bool} {nar : Nat → Bool} {k : Nat} {x : Int} (h : x ∈ roundTo paths done nar k) : x < k := by
  unfold roundTo at h
  rw [List.mem_map] at h
  obtain ⟨a, ha, rfl⟩ := h
  rw [List.mem_filter, List.mem_range] at ha
  omega
theorem free_yet {paths : List (List Int)} {done : List Bool} {nar : Nat → Bool} {k : Nat} (hk : k < done.length) : dB (setDone done (roundTo paths done nar k)) k = dB done k := by
  rw [dB_setDone hk]
  have : ¬ ((k : Int) ∈ roundTo paths done nar k) := fun h => by have := roundTo_lt h; omega
  simp [this]
theorem setDone_length (done : List Bool) (rd : List Int) : (setDone done rd).length = done.length := by simp [setDone]
theorem setRate_length (rate : List (Int × Int)) (rd : List Int) (b : Int × Int) : (setRate rate rd b).length = rate.length := by simp [setRate]
end Fl
end Go.Proofs.Ytkpmjmgmgkdfnaj

/- Slices of slices of int: rows of them that a call owns. -/
namespace Go.Proofs.Ytkpmjmgmgkdfnaj
namespace Ns
open Go.RowKit
set_option linter.unusedSimpArgs false
set_option linter.unusedVariables false

theorem infoInts : (Try.prog.info? 36).map (fun i => (i.zero, i.size, i.bytes)) = some (some (.slice none 0 0), 1, 24) := by kernel_rfl

/-- a row of slices that the call owns is a list of lists -/
theorem lists_of_owns {Q : Nat → Prop} {w : World} {base : Nat} {v : Value} {ll : List (List Int)} {vs : List Value} (hl : ll.length ≤ 9223372036854775807) (hvs : vs.length = ll.length) (h : w.ownsRow base 36 1 v ll.length vs)
    (hi : ∀ i, i < ll.length → IntsAt Q w (vs.getD i undef) (ll.getD i [])) (hQ : ∀ g, base ≤ g → Q g) : ListsAt Q w v ll := by
  have h' := h
  obtain ⟨h0, h⟩ := h
  rcases h with ⟨rfl, h⟩ | ⟨g, cap, cur, rfl, hb, hg, hc, hm, hs, ht⟩
  · have : ll = [] := List.eq_nil_of_length_eq_zero h
    subst this
    exact ⟨none, 0, rfl, ⟨Nat.le_refl _, by simp⟩, .inl rfl⟩
  · refine ⟨_, cap, rfl, ⟨hc, hl⟩, .inr ⟨g, 0, rfl, fun i hi' => ⟨vs.getD i undef, ?_, hi i hi'⟩, hQ g hb⟩⟩
    have := h'.cells (g := g) rfl i (vs.getD i undef) (by simp [List.getD, List.getElem?_eq_getElem (show i < vs.length by omega)])
    rw [add_addr] at this
    exact this

end Ns
end Go.Proofs.Ytkpmjmgmgkdfnaj

/- From the reading of an argument to what a walk is told of it: a list of ints. -/
namespace Go.Proofs.Ytkpmjmgmgkdfnaj
namespace Ns
open Go.ChangeShapes Go.WideShapes Go.ChangeAt Go.RowKit Go.Joins Go.Deep
set_option linter.unusedVariables false
set_option linter.unusedSimpArgs false

theorem cellsInt : Try.prog.cellsOf 3 = 1 := by kernel_rfl

theorem addr_none {w : World} {a : Addr} {v : Value} (h : w.cell? (a.add 0) = some v) : ∃ b off, a = ⟨b, off, none⟩ := by
  obtain ⟨b, off, spot⟩ := a
  have hs : spot = none := by simpa [Addr.add] using World.cell?_spot h
  subst hs
  exact ⟨b, off, rfl⟩
theorem add_addr' (b off i : Nat) : (⟨b, off, none⟩ : Addr).add i = ⟨b, off + i, none⟩ := by unfold Addr.add; split <;> simp_all

/-- a slice of ints, by its address, its cells and their numbers -/
theorem intsAt_of {w : World} {a : Option Addr} {len cap : Nat} {zs : List Int} (hl : len ≤ cap) (hm : cap ≤ maxLen) (hz : zs.length = cap) (h0 : a = none → cap = 0)
    (h : ∀ a', a = some a' → ∀ c, c < cap → w.cell? (a'.add c) = some (.int .i64 (zs.getD c 0))) : IntsAt (fun b => b < w.heap.size) w (.slice a len cap) (zs.take len) := by
  have hlen : (zs.take len).length = len := by rw [List.length_take]; omega
  unfold maxLen at hm
  refine ⟨a, cap, by rw [hlen], ⟨by omega, by omega⟩, ?_⟩
  by_cases hz0 : len = 0
  · exact .inl (by rw [hz0]; rfl)
  · right
    cases a with
    | none => have := h0 rfl; omega
    | some a' =>
      obtain ⟨b, off, rfl⟩ := addr_none (h a' rfl 0 (by omega))
      refine ⟨b, off, rfl, fun i hi => ?_, World.block_lt_of_cell? _ _ (h _ rfl 0 (by omega))⟩
      have := h _ rfl i (by omega)
      rw [add_addr'] at this
      rw [this]
      congr 2
      simp [List.getD, List.getElem?_take, show i < len by omega]

variable {H : Type} {enc : TypeId × Value → H}

theorem ints_of_trod {w : World} {n : Nat} {v : Value} {y : DataW H × List MemPlace} (h : DataW.trod enc Try.prog w 0 (fun _ => true) true n 36 [v] = some y) : ∃ l, IntsAt (fun b => b < w.heap.size) w v l := by
  rcases open_ints Try.underlying36 Try.underlying3 cellsInt h with ⟨hcs, _⟩ | ⟨a, len, cap, zs, hcs, _, hl, hm, hz, _, hcell, hwz⟩
  · simp at hcs
    subst hcs
    exact ⟨[], none, 0, rfl, ⟨Nat.le_refl _, by simp⟩, .inl rfl⟩
  · simp at hcs
    subst hcs
    have hz' : zs.length = cap := by simpa using hz
    exact ⟨_, intsAt_of hl hm hz' (by intro h; cases h) (fun a' ha c hc => by cases ha; exact hcell c (by omega))⟩

set_option maxRecDepth 100000 in
theorem intsArg_of_trod {w : World} {base : Nat} {v : Value} {d : DataW H} {p : List MemPlace} (hv : Value.okWide Try.prog w .any base 36 v) (h : DataW.Trod enc Try.prog w 0 (fun _ => true) true 36 v d p) : ∃ l, IntsAt (fun b => b < w.heap.size) w v l := by
  obtain ⟨a, len, cap, rfl⟩ := okWide_slice Try.underlying36 hv
  obtain ⟨fuel, hf⟩ := h
  exact ints_of_trod (by simpa [Value.cells] using hf)
end Ns
end Go.Proofs.Ytkpmjmgmgkdfnaj

/- From the reading of an argument to what a walk is told of it: a struct of three or four ints by value. -/
namespace Go.Proofs.Ytkpmjmgmgkdfnaj
namespace Ns
open Go.ChangeShapes Go.WideShapes Go.ChangeAt Go.RowKit Go.Joins
set_option linter.unusedVariables false
set_option linter.unusedSimpArgs false

variable {H : Type} {enc : TypeId × Value → H}

theorem cellsPool : Try.prog.cellsOf 24 = 3 := by kernel_rfl
theorem cellsSource : Try.prog.cellsOf 32 = 4 := by kernel_rfl

set_option maxRecDepth 100000 in
theorem pool_of_trod {w : World} {base : Nat} {v : Value} {d : DataW H} {p : List MemPlace} (hv : Value.okWide Try.prog w .any base 24 v) (h : DataW.Trod enc Try.prog w 0 (fun _ => true) true 24 v d p) : ∃ a b c : Int, v = .agg #[.int .i64 a, .int .i64 b, .int .i64 c] := by
  obtain ⟨c0, c1, c2, y0, y1, y2, m, rfl, rfl, rfl, hy0, hy1, hy2⟩ := open_agg3 Try.underlying24 (by kernel_rfl) cellsPool hv h
  obtain ⟨a, e0, rfl, wa⟩ := DataW.trod_int Try.underlying3 hy0
  obtain ⟨b, e1, rfl, wb⟩ := DataW.trod_int Try.underlying3 hy1
  obtain ⟨c, e2, rfl, wc⟩ := DataW.trod_int Try.underlying3 hy2
  simp at e0 e1 e2
  subst e0 e1 e2
  exact ⟨a, b, c, rfl⟩
set_option maxRecDepth 100000 in
theorem source_of_trod {w : World} {base : Nat} {v : Value} {d : DataW H} {p : List MemPlace} (hv : Value.okWide Try.prog w .any base 32 v) (h : DataW.Trod enc Try.prog w 0 (fun _ => true) true 32 v d p) : ∃ a b c e : Int, v = .agg #[.int .i64 a, .int .i64 b, .int .i64 c, .int .i64 e] := by
  obtain ⟨c0, c1, c2, c3, y0, y1, y2, y3, m, rfl, rfl, rfl, hy0, hy1, hy2, hy3⟩ := open_agg4 Try.underlying32 (by kernel_rfl) cellsSource hv h
  obtain ⟨a, e0, rfl, wa⟩ := DataW.trod_int Try.underlying3 hy0
  obtain ⟨b, e1, rfl, wb⟩ := DataW.trod_int Try.underlying3 hy1
  obtain ⟨c, e2, rfl, wc⟩ := DataW.trod_int Try.underlying3 hy2
  obtain ⟨e, e3, rfl, we⟩ := DataW.trod_int Try.underlying3 hy3
  simp at e0 e1 e2 e3
  subst e0 e1 e2 e3
  exact ⟨a, b, c, e, rfl⟩
end Ns
end Go.Proofs.Ytkpmjmgmgkdfnaj

/- From the reading of an argument to what a walk is told of it: a list of sources. -/
namespace Go.Proofs.Ytkpmjmgmgkdfnaj
namespace Ns
open Go.ChangeShapes Go.WideShapes Go.ChangeAt Go.RowKit Go.Joins Go.Deep Ev
set_option linter.unusedVariables false
set_option linter.unusedSimpArgs false

variable {H : Type} {enc : TypeId × Value → H}

set_option maxRecDepth 100000 in
theorem srcs_of_trod {w : World} {n : Nat} {v : Value} {y : DataW H × List MemPlace} (h : DataW.trod enc Try.prog w 0 (fun _ => true) true n 22 [v] = some y) : ∃ l, SrcsAt (fun b => b < w.heap.size) w v l := by
  rcases open_slice Try.underlying22 h with ⟨hcs, _⟩ | ⟨a, len, cap, m, k, D, Pl, hcs, _, hl, hm, hmm, _, hr⟩
  · simp at hcs
    subst hcs
    exact ⟨[], none, 0, rfl, ⟨Nat.le_refl _, by simp⟩, .inl rfl⟩
  · simp at hcs
    subst hcs
    simp only [if_true] at hmm
    subst hmm
    have each : ∀ i, i < m → ∃ z : Src, w.cell? (a.add (i * 4)) = some (.int .i64 z.1) ∧ w.cell? (a.add (i * 4 + 1)) = some (.int .i64 z.2.1) ∧ w.cell? (a.add (i * 4 + 2)) = some (.int .i64 z.2.2.1) ∧ w.cell? (a.add (i * 4 + 3)) = some (.int .i64 z.2.2.2) := by
      intro i hi
      obtain ⟨cs', h1, h2⟩ := hr i hi
      rw [cellsSource] at h1
      obtain ⟨_, hlen, hcell⟩ := World.cells?_some h1
      obtain ⟨xs, k', hk, hxy, _, hxl, hf⟩ := DataW.trod_struct Try.underlying32 h2
      match xs, hxl, cs', hlen with
      | [y0, y1, y2, y3], _, [v0, v1, v2, v3], _ =>
        have g0 := hf 0 _ rfl
        have g1 := hf 1 _ rfl
        have g2 := hf 2 _ rfl
        have g3 := hf 3 _ rfl
        have ci : Try.prog.cellsOf 3 = 1 := by kernel_rfl
        simp [ci] at g0 g1 g2 g3
        have e0 := hcell 0 (by omega)
        have e1 := hcell 1 (by omega)
        have e2 := hcell 2 (by omega)
        have e3 := hcell 3 (by omega)
        rw [add_add] at e0 e1 e2 e3
        obtain ⟨z0, q0, _, _⟩ := DataW.trod_int Try.underlying3 g0
        obtain ⟨z1, q1, _, _⟩ := DataW.trod_int Try.underlying3 g1
        obtain ⟨z2, q2, _, _⟩ := DataW.trod_int Try.underlying3 g2
        obtain ⟨z3, q3, _, _⟩ := DataW.trod_int Try.underlying3 g3
        simp only [List.cons.injEq, and_true] at q0 q1 q2 q3
        subst q0 q1 q2 q3
        exact ⟨(z0, z1, z2, z3), by simpa using e0, by simpa using e1, by simpa using e2, by simpa using e3⟩
    obtain ⟨q, hq⟩ := choose_lt each
    have hlen : ((List.range len).map q).length = len := by simp
    refine ⟨(List.range len).map q, some a, m, by rw [hlen], ⟨by omega, by unfold maxLen at hm; omega⟩, ?_⟩
    by_cases hz0 : len = 0
    · exact .inl (by rw [hz0]; rfl)
    · right
      obtain ⟨b, off, rfl⟩ := addr_none (show w.cell? (a.add 0) = some _ from (hq 0 (by omega)).1)
      refine ⟨b, off, rfl, fun i hi => ?_, World.block_lt_of_cell? _ _ (hq 0 (by omega)).1⟩
      rw [hlen] at hi
      have e : sAt ((List.range len).map q) i = q i := by simp [sAt, List.getD, List.getElem?_range hi]
      obtain ⟨h1, h2, h3, h4⟩ := hq i (by omega)
      rw [add_addr'] at h1 h2 h3 h4
      rw [e]
      exact ⟨h1, by rw [Nat.add_assoc]; exact h2, by rw [Nat.add_assoc]; exact h3, by rw [Nat.add_assoc]; exact h4⟩

set_option maxRecDepth 100000 in
theorem srcsArg_of_trod {w : World} {base : Nat} {v : Value} {d : DataW H} {p : List MemPlace} (hv : Value.okWide Try.prog w .any base 22 v) (h : DataW.Trod enc Try.prog w 0 (fun _ => true) true 22 v d p) : ∃ l, SrcsAt (fun b => b < w.heap.size) w v l := by
  obtain ⟨a, len, cap, rfl⟩ := okWide_slice Try.underlying22 hv
  obtain ⟨fuel, hf⟩ := h
  exact srcs_of_trod (by simpa [Value.cells] using hf)
end Ns
end Go.Proofs.Ytkpmjmgmgkdfnaj
