/- Facts and contracts that the walks lean on, one text behind the other; no walk of Go in them. -/
import Derived.Test.YtpnmmmlckdkcdakGreatDoorPlainsA
import Derived.OwnWalk
import Derived.Lib.SplitLaws
import Derived.Lib.Join
import Derived.Lib.ItoaNum
import Derived.Deep.Quiet
import Derived.Deep.QuietTactic
import Derived.BigQuiet
import Derived.Deep.RegionLaw
/- What is asked of package run's Run, as the document says it. -/
namespace Go.Proofs.YtpnmmmlckdkcdakGreatDoor
namespace Ev
open Go.RowKit Fr Ns Ld Fl

def RunSaid : Prop := ∀ (t : Txt) (w : World), t.length ≤ 9223372036854775807 →
  Calls Tryz.prog 21 #[.string ⟨t.toArray⟩] w fun e w' => e = .returned (.string ⟨(runT t).toArray⟩) ∧ Below w.heap.size w w'
/-- the same of all worlds later than w0: what it leans on in memory (a listed variable) may be told of w0 alone -/
def RunAt (w0 : World) : Prop := ∀ (t : Txt) (w : World), Below w0.heap.size w0 w → t.length ≤ 9223372036854775807 →
  Calls Tryz.prog 21 #[.string ⟨t.toArray⟩] w fun e w' => e = .returned (.string ⟨(runT t).toArray⟩) ∧ Below w.heap.size w w'
end Ev
end Go.Proofs.YtpnmmmlckdkcdakGreatDoor

/- The sessions that the laws on sessions write out: what is answered. No Go in it. -/
namespace Go.Proofs.YtpnmmmlckdkcdakGreatDoor.Ev
open Fr Ns Ld Fl
set_option linter.unusedSimpArgs false
set_option linter.unusedVariables false
set_option maxRecDepth 100000

def beginQ : Txt := [114, 97, 116, 101, 115, 10, 97, 100, 100, 32, 48, 32, 49, 10, 97, 100, 100, 32, 49, 32, 50, 10, 97, 100, 100, 32, 48, 10, 102, 108, 121, 10, 114, 97, 116, 101, 115, 10, 108, 101, 97, 115, 116, 10, 100, 114, 111, 112, 32, 49, 10, 114, 97, 116, 101, 115, 10, 105, 110, 100, 101, 120, 32, 51, 32, 49, 10, 115, 112, 108, 105, 116, 32, 55, 32, 49, 32, 49, 10]
def beginA : Txt := [45, 10, 111, 107, 10, 111, 107, 10, 111, 107, 10, 98, 97, 100, 10, 51, 32, 51, 32, 57, 10, 51, 10, 111, 107, 10, 54, 32, 54, 10, 52, 47, 53, 10, 52, 32, 51, 10]
theorem begin_fact : runT beginQ = beginA := by decide +kernel

def alikeOne : Txt := [97, 100, 100, 32, 48, 10]
def leastOne : Txt := [108, 101, 97, 115, 116, 10]

theorem alike_4 : runT [97, 100, 100, 32, 52, 10] = [69, 114, 114, 82, 97, 110, 103, 101, 10] := by decide +kernel

def alikeQ : Nat → Txt
  | 0 => []
  | k + 1 => alikeQ k ++ alikeOne
/-- so many flows over one link: as many lines and one, the last the part of one -/
theorem alike_fact (m : Nat) (h1 : 1 ≤ m) (h6 : m ≤ 6) : (cutB 10 (runT (alikeQ m ++ leastOne))).length = m + 2 ∧ (cutB 10 (runT (alikeQ m ++ leastOne))).getD m [] = toldT (lowT 12 (m : Int), lowB 12 (m : Int)) := by
  have h : m = 1 ∨ m = 2 ∨ m = 3 ∨ m = 4 ∨ m = 5 ∨ m = 6 := by omega
  rcases h with rfl | rfl | rfl | rfl | rfl | rfl <;> decide +kernel
end Go.Proofs.YtpnmmmlckdkcdakGreatDoor.Ev

/- Small laws on worlds behind calls: what lies below stays. -/
namespace Go.Proofs.YtpnmmmlckdkcdakGreatDoor
namespace Bel
open Go.RowKit
theorem more {B : Nat} {W u : World} (h : Below B W u) (hB : B ≤ W.heap.size) (o : Obj) : Below B W (u.alloc o) := h.alloc (Nat.le_trans hB h.size) o
theorem call {B : Nat} {W u u' : World} (h : Below B W u) (hB : B ≤ W.heap.size) (hc : Below u.heap.size u u') : Below B W u' := h.trans (hc.mono (Nat.le_trans hB h.size))
end Bel
end Go.Proofs.YtpnmmmlckdkcdakGreatDoor

/- Rows of cells that a call makes and writes into: what a walk is told of them. -/
namespace Go.Proofs.YtpnmmmlckdkcdakGreatDoor
namespace Fl
open Go.RowKit Ns
set_option linter.unusedSimpArgs false
set_option linter.unusedVariables false

/-- the block g holds these cells, and none of it is frozen -/
def RowAt (w : World) (g : Nat) (T : TypeId) (xs : List Value) : Prop := w.heap[g]? = some (.cells xs.toArray T (0, 0))
theorem RowAt.lt {w : World} {g : Nat} {T : TypeId} {xs : List Value} (h : RowAt w g T xs) : g < w.heap.size := (Array.getElem?_eq_some_iff.1 h).1
theorem RowAt.cell {w : World} {g : Nat} {T : TypeId} {xs : List Value} (h : RowAt w g T xs) {i : Nat} {v : Value} (hi : xs[i]? = some v) : w.cell? ⟨g, i, none⟩ = some v := by
  rw [cell_of_row w g i _ T (0, 0) h]
  simpa using hi
theorem RowAt.frozen {w : World} {g : Nat} {T : TypeId} {xs : List Value} (h : RowAt w g T xs) (i : Nat) : w.frozen? ⟨g, i, none⟩ = false := frozen_of_row w g i _ T h
theorem RowAt.set {w : World} {g : Nat} {T : TypeId} {xs : List Value} (h : RowAt w g T xs) (i : Nat) (v : Value) : RowAt (w.setCell ⟨g, i, none⟩ v) g T (xs.set i v) := by
  unfold RowAt
  rw [heap_setCell_same w g i _ T v h]
  simp
theorem RowAt.later {w w' : World} {g B : Nat} {T : TypeId} {xs : List Value} (hb : Below B w w') (hg : g < B) (h : RowAt w g T xs) : RowAt w' g T xs := by
  unfold RowAt
  rw [hb.block g hg]; exact h
theorem RowAt.other {w : World} {g : Nat} {T : TypeId} {xs : List Value} (h : RowAt w g T xs) {a : Addr} (ha : a.block ≠ g) (v : Value) : RowAt (w.setCell a v) g T xs := by
  unfold RowAt
  rw [Below.heap_setCell w a v g (fun e => ha e.symm)]; exact h
theorem RowAt.alloc {w : World} {g : Nat} {T : TypeId} {xs : List Value} (h : RowAt w g T xs) (o : Obj) : RowAt (w.alloc o) g T xs := h.later (((Below.refl w.heap.size w)).alloc (Nat.le_refl _) o) h.lt
theorem RowAt.new (w : World) (a : Array Value) (T : TypeId) : RowAt (w.alloc (.cells a T (0, 0))) w.heap.size T a.toList := by
  unfold RowAt
  rw [heap_alloc_new]
theorem RowAt.owns {w : World} {base g n size : Nat} {T : TypeId} {xs : List Value} (h : RowAt w g T xs) (hb : base ≤ g) (hl : xs.length = n * size) (hn : n ≤ maxLen) : w.ownsRow base T size (.slice (some ⟨g, 0, none⟩) n n) n xs := by
  refine ⟨hl, .inr ⟨g, n, xs.toArray, rfl, hb, h, Nat.le_refl _, hn, by simp [hl], by simp [← hl]⟩⟩
theorem RowAt.of_owns {w : World} {base g n size : Nat} {T : TypeId} {xs : List Value} (h : w.ownsRow base T size (.slice (some ⟨g, 0, none⟩) n n) n xs) : RowAt w g T xs := by
  obtain ⟨h0, h⟩ := h
  rcases h with ⟨e, _⟩ | ⟨g', cap, cur, e, hb, hg, hc, hm, hs, ht⟩
  · cases e
  · simp only [Value.slice.injEq, Option.some.injEq, Addr.mk.injEq, and_true, true_and] at e
    obtain ⟨rfl, rfl⟩ := e
    unfold RowAt
    rw [hg]
    have : cur.toList = xs := by
      have : cur.toList.take (n * size) = cur.toList := List.take_of_length_le (by simp [hs])
      rw [← this]; exact ht
    rw [← this]
/-- the cells of a row of three -/
theorem RowAt.three {w : World} {g : Nat} {T : TypeId} {a b c : Value} (h : RowAt w g T [a, b, c]) : w.cell? ⟨g, 0, none⟩ = some a ∧ w.cell? ⟨g, 1, none⟩ = some b ∧ w.cell? ⟨g, 2, none⟩ = some c ∧ w.frozen? ⟨g, 0, none⟩ = false ∧ w.frozen? ⟨g, 1, none⟩ = false ∧ w.frozen? ⟨g, 2, none⟩ = false ∧ g < w.heap.size :=
  ⟨h.cell rfl, h.cell rfl, h.cell rfl, h.frozen 0, h.frozen 1, h.frozen 2, h.lt⟩
theorem RowAt.set3 {w : World} {g : Nat} {T : TypeId} {a b c : Value} (h : RowAt w g T [a, b, c]) (x y z : Value) : RowAt (((w.setCell ⟨g, 0, none⟩ x).setCell ⟨g, 1, none⟩ y).setCell ⟨g, 2, none⟩ z) g T [x, y, z] := ((h.set 0 x).set 1 y).set 2 z
theorem RowAt.four {w : World} {g : Nat} {T : TypeId} {a b c d : Value} (h : RowAt w g T [a, b, c, d]) : w.cell? ⟨g, 0, none⟩ = some a ∧ w.cell? ⟨g, 1, none⟩ = some b ∧ w.cell? ⟨g, 2, none⟩ = some c ∧ w.cell? ⟨g, 3, none⟩ = some d ∧ w.frozen? ⟨g, 0, none⟩ = false ∧ w.frozen? ⟨g, 1, none⟩ = false ∧ w.frozen? ⟨g, 2, none⟩ = false ∧ w.frozen? ⟨g, 3, none⟩ = false ∧ g < w.heap.size :=
  ⟨h.cell rfl, h.cell rfl, h.cell rfl, h.cell rfl, h.frozen 0, h.frozen 1, h.frozen 2, h.frozen 3, h.lt⟩
theorem RowAt.put4 {w : World} {g : Nat} {T : TypeId} {a b c d : Value} (h : RowAt w g T [a, b, c, d]) (x y z u : Value) : RowAt ((((w.setCell ⟨g, 0, none⟩ x).setCell ⟨g, 1, none⟩ y).setCell ⟨g, 2, none⟩ z).setCell ⟨g, 3, none⟩ u) g T [x, y, z, u] := (((h.set 0 x).set 1 y).set 2 z).set 3 u
theorem row_made (w : World) (a : Array Value) (T : TypeId) (g : Nat) (xs : List Value) (hg : g = w.heap.size) (hx : a.toList = xs) : RowAt (w.alloc (.cells a T (0, 0))) g T xs := by
  rw [hg, ← hx]; exact RowAt.new w a T
theorem new1 (w : World) (x : Value) (T : TypeId) (g : Nat) (hg : g = w.heap.size) : ∀ j u, [x][j]? = some u → (w.alloc (.cells #[x] T)).cell? ((⟨g, 0, none⟩ : Addr).add j) = some u := by
  intro j u hj
  subst hg
  match j, hj with
  | 0, hj => simp at hj; subst hj; simp [Addr.add]
theorem own_keeps {w w' : World} {base : Nat} {e : TypeId} {size n : Nat} {v : Value} {xs : List Value} (hk : ∀ g, base ≤ g → g < w.heap.size → w'.heap[g]? = w.heap[g]?) (h : w.ownsRow base e size v n xs) : w'.ownsRow base e size v n xs := by
  obtain ⟨h0, h⟩ := h
  refine ⟨h0, ?_⟩
  rcases h with h | ⟨g, cap, cur, e1, hb, hg, hr⟩
  · exact .inl h
  · exact .inr ⟨g, cap, cur, e1, hb, by rw [hk g hb (Array.getElem?_eq_some_iff.1 hg).1]; exact hg, hr⟩
theorem stay_set (w : World) (g i k : Nat) (x : Value) (h : k ≠ g) : (w.setCell ⟨g, i, none⟩ x).heap[k]? = w.heap[k]? := Below.heap_setCell w ⟨g, i, none⟩ x k h
theorem own_slice {w : World} {base n size : Nat} {e : TypeId} {v : Value} {xs : List Value} (h : w.ownsRow base e size v n xs) : ∃ a c, v = .slice a n c := by
  rcases h.2 with ⟨rfl, h0⟩ | ⟨g, cap, cur, rfl, _⟩
  · exact ⟨none, 0, by rw [h0]⟩
  · exact ⟨_, _, rfl⟩
theorem grew1 {B : Nat} {W wg : World} {o1 : Obj} {k : Option Nat} (hs : B ≤ W.heap.size) (hg : (W.alloc o1).grownBy wg k) (hk : ∀ j, k = some j → B ≤ j) : Below B W wg :=
  ((Below.refl B W).alloc hs o1).grown hg (by simp; omega) hk
theorem owns_shape {w : World} {base n size : Nat} {e : TypeId} {v : Value} {xs : List Value} (h : w.ownsRow base e size v n xs) : ∃ a c, v = .slice a n c := by
  rcases h.2 with ⟨rfl, h0⟩ | ⟨g, cap, cur, rfl, _⟩
  · exact ⟨none, 0, by rw [h0]⟩
  · exact ⟨_, _, rfl⟩
def bestZ (o : Option (Int × Int)) : Int × Int := o.getD (0, 0)
end Fl
end Go.Proofs.YtpnmmmlckdkcdakGreatDoor

/- Slices of texts. -/
namespace Go.Proofs.YtpnmmmlckdkcdakGreatDoor
namespace Ev
open Go.RowKit Fr Ns Ld Fl
set_option linter.unusedSimpArgs false
set_option linter.unusedVariables false

/-- a text as a value -/
def txtV (t : Txt) : Value := .string ⟨t.toArray⟩
/-- the slice v holds the texts l in the world w, in a block of which Q holds -/
def StrsAt (Q : Nat → Prop) (w : World) (v : Value) (l : List Txt) : Prop :=
  ∃ a cap, v = .slice a l.length cap ∧ (l.length ≤ cap ∧ l.length ≤ 9223372036854775807) ∧
    (l = [] ∨ ∃ b off, a = some ⟨b, off, none⟩ ∧ (∀ i, i < l.length → w.cell? ⟨b, off + i, none⟩ = some (txtV (l.getD i []))) ∧ Q b)
theorem StrsAt.later {Q : Nat → Prop} {w w' : World} {v : Value} {l : List Txt} (hb : Below w.heap.size w w') (h : StrsAt Q w v l) : StrsAt Q w' v l := by
  obtain ⟨a, cap, rfl, hm, h⟩ := h
  refine ⟨a, cap, rfl, hm, ?_⟩
  rcases h with h | ⟨b, off, rfl, h, hQ⟩
  · exact .inl h
  · exact .inr ⟨b, off, rfl, fun i hi => cell_later hb (h i hi), hQ⟩
/-- a row of texts that the call owns is a list -/
theorem strs_of_owns {Q : Nat → Prop} {w : World} {base : Nat} {v : Value} {l : List Txt} (hl : l.length ≤ 9223372036854775807) (h : w.ownsRow base 9 1 v l.length (l.map txtV)) (hQ : ∀ g, base ≤ g → Q g) : StrsAt Q w v l := by
  have h' := h
  obtain ⟨h0, h⟩ := h
  rcases h with ⟨rfl, h⟩ | ⟨g, cap, cur, rfl, hb, hg, hc, hm, hs, ht⟩
  · have : l = [] := List.eq_nil_of_length_eq_zero h
    subst this
    exact ⟨none, 0, rfl, ⟨Nat.le_refl _, by simp⟩, .inl rfl⟩
  · refine ⟨_, cap, rfl, ⟨hc, hl⟩, .inr ⟨g, 0, rfl, fun i hi => ?_, hQ g hb⟩⟩
    have := h'.cells (g := g) rfl i (txtV (l.getD i [])) (by simp [List.getD, List.getElem?_eq_getElem hi])
    rw [add_addr] at this
    exact this
/-- the cells of a slice of texts, in every later world -/
theorem strs_cells {Q : Nat → Prop} {w : World} {a : Option Addr} {n cap : Nat} {l : List Txt} (h : StrsAt Q w (.slice a n cap) l) : ∀ i, i < l.length → ∃ b off, a = some ⟨b, off, none⟩ ∧ ∀ u, Below w.heap.size w u → u.cell? ⟨b, off + i, none⟩ = some (.string ⟨(l.getD i []).toArray⟩) := by
  intro i hi
  obtain ⟨_, _, e, _, hc⟩ := h
  simp only [Value.slice.injEq] at e
  obtain ⟨rfl, _, _⟩ := e
  rcases hc with h | ⟨b, off, rfl, h, _⟩
  · rw [h] at hi; simp at hi
  · exact ⟨b, off, rfl, fun u hu => cell_later hu (h i hi)⟩
theorem txt_len (t : Txt) : (⟨t.toArray⟩ : ByteArray).size = t.length := by show t.toArray.size = _; simp
theorem txt_byte {t : Txt} {k : Nat} (h : k < (⟨t.toArray⟩ : ByteArray).size) : (⟨t.toArray⟩ : ByteArray)[k]'h = t.getD k 0 := by
  rw [txt_len] at h
  rw [List.getD, List.getElem?_eq_getElem h]; rfl
theorem txt_part (t : Txt) (a b : Nat) : (⟨t.toArray⟩ : ByteArray).extract a b = ⟨((t.take b).drop a).toArray⟩ := by
  rw [ByteArray.extract_mk]
  simp [List.drop_take]
theorem byte_eq {a b : UInt8} : ((a.toNat : Int) == (b.toNat : Int)) = decide (a = b) := by
  by_cases h : a = b
  · subst h; simp
  · rw [decide_eq_false h, beq_eq_false_iff_ne]
    intro e
    exact h (UInt8.toNat_inj.1 (by omega))
theorem ret_str {a b : ByteArray} (h : a = b) : Ending.returned (.string a) = .returned (.string b) := by rw [h]
theorem infoStr : (Tryz.prog.info? 9).map (fun i => (i.zero, i.size, i.bytes)) = some (some (.string ByteArray.empty), 1, 16) := by kernel_rfl
end Ev
end Go.Proofs.YtpnmmmlckdkcdakGreatDoor

/- Loads, narrow places and fairness as the document says them, and as rational numbers: they are the same. No Go in it. -/
namespace Go.Proofs.YtpnmmmlckdkcdakGreatDoor.Fl
open Fr Ns Ld
set_option linter.unusedSimpArgs false

theorem pathFrom_bd' (L : Int) : ∀ (l seen : List Int), pathFrom L seen l = 0 → ∀ x ∈ l, 0 ≤ x ∧ x < L := by
  intro l
  induction l with
  | nil => intro _ _ x h; simp at h
  | cons y r ih =>
    intro seen h x hx
    unfold pathFrom at h
    split at h
    · omega
    · split at h
      · omega
      · rcases List.mem_cons.1 hx with rfl | hx
        · omega
        · exact ih _ h x hx
theorem good_of_net {caps : List Int} {paths : List (List Int)} (h : netE caps paths = 0) : Good caps paths := by
  have h0 := netE_0 h
  have hl := h0.2.2.2.2.1
  rw [linksE, if_neg (by omega), if_neg (by omega)] at hl
  refine ⟨fun c hc => capsFrom_bounds hl hc, fun p hp => ?_, h0.2.2.2.1, h0.2.2.1⟩
  have hpe := (pathsFrom_iff _ _).1 h0.2.2.2.2.2 p hp
  unfold pathE at hpe
  split at hpe
  · omega
  · rename_i hn
    exact ⟨fun e => hn (by rw [e]; rfl), fun x hx => pathFrom_bd' _ _ _ hpe x hx⟩

theorem rP_eq {r : List (Int × Int)} {u : Nat} (h : u < r.length) (d : Int × Int) : r.getD u d = rP r u := by
  simp [rP, List.getD, List.getElem?_eq_getElem h]
theorem addUp_val {r : List (Int × Int)} (hr : ∀ a ∈ r, 1 ≤ a.2) : ∀ (us : List Int) (s t : Int × Int), 1 ≤ s.2 → (∀ u ∈ us, u.toNat < r.length) → addUp r us s = some t → val t = val s + sumQ (xQ r) (us.map Int.toNat) := by
  intro us
  induction us with
  | nil => intro s t _ _ h; simp only [addUp, Option.some.injEq] at h; rw [h]; simp only [List.map_nil, sumQ]; grind
  | cons u us ih =>
    intro s t hs hu h
    simp only [addUp] at h
    have hul := hu u (by simp)
    have hra : 1 ≤ (rP r u.toNat).2 := by rw [← rP_eq hul (0, 0)]; exact hr _ (getD_mem r _ hul _)
    rw [rP_eq hul] at h
    split at h
    · have hp : 1 ≤ s.2 * (rP r u.toNat).2 := Int.mul_le_mul hs hra (by decide) (by omega)
      have := ih _ t (lowB_pos hp) (fun v hv => hu v (by simp [hv])) h
      rw [this, val_sum hs hra]
      simp only [List.map_cons, sumQ, xQ]
      grind
    · cases h
theorem users_lt {paths : List (List Int)} {l : Int} {u : Int} (h : u ∈ users paths l) : u.toNat < paths.length := by have := users_mem h; omega
theorem loadOf_val {paths : List (List Int)} {r : List (Int × Int)} {l : Nat} {s : Int × Int} (hl : r.length = paths.length) (hr : ratesE r = 0) (h : loadOf paths r l = some s) : val s = sumQ (xQ r) (usN paths l) := by
  have := addUp_val (fun a ha => fault_pos ((ratesE_iff r).1 hr a ha)) _ (0, 1) s (by decide) (fun u hu => by rw [hl]; exact users_lt hu) h
  rw [this, val_whole]
  have : (((0 : Int) : Int) : Rat) = 0 := rfl
  rw [this]
  unfold usN
  grind
/-- the load of a link, and its number -/
theorem load_at {caps : List Int} {paths : List (List Int)} {r : List (Int × Int)} (h : loadE caps paths r = 0) {l : Nat} (hl : l < caps.length) (d : Int × Int) : faultP ((loadL paths r caps.length).getD l d) = 0 ∧ val ((loadL paths r caps.length).getD l d) = sumQ (xQ r) (usN paths l) := by
  obtain ⟨h1, h2, h3, h4⟩ := loadE_0 h
  obtain ⟨s, hs⟩ := allOk_at h4 hl
  rw [loadL_getD _ _ _ _ hl, hs]
  exact ⟨loadOf_fault h3 hs, loadOf_val h2 h3 hs⟩
theorem val_nonneg {a : Int × Int} (ha : 1 ≤ a.2) : 0 ≤ val a ↔ 0 ≤ a.1 := by
  have e : (0 : Rat) = val (0, 1) := by rw [val_whole]; rfl
  rw [e, cross (a := (0, 1)) (by decide) ha]
  simp
theorem fits_iff {caps : List Int} {paths : List (List Int)} {r : List (Int × Int)} (h : loadE caps paths r = 0) : fitsB caps paths r = true ↔ FitsQ (usN paths) (capQ caps) caps.length paths.length (xQ r) := by
  obtain ⟨h1, h2, h3, h4⟩ := loadE_0 h
  have hp : ∀ f, f < paths.length → 1 ≤ (rP r f).2 := fun f hf => fault_pos ((ratesE_iff r).1 h3 _ (getD_mem r f (by omega) (0, 0)))
  unfold fitsB
  simp only [Bool.and_eq_true, List.all_eq_true, List.mem_range, decide_eq_true_eq]
  have key : ∀ l, l < caps.length → (((loadL paths r caps.length).getD l (0, 1)).1 ≤ caps.getD l 0 * ((loadL paths r caps.length).getD l (0, 1)).2 ↔ sumQ (xQ r) (usN paths l) ≤ capQ caps l) := by
    intro l hl
    obtain ⟨f1, f2⟩ := load_at h hl (0, 1)
    rw [← f2]
    have e : capQ caps l = val (caps.getD l 0, 1) := by rw [val_whole]; rfl
    rw [e, cross (b := (caps.getD l 0, 1)) (fault_pos f1) (Int.le_refl 1)]
    simp
  constructor
  · rintro ⟨ha, hb⟩
    refine ⟨fun f hf => (val_nonneg (hp f hf)).2 (ha _ (getD_mem r f (by omega) (0, 0))), fun l hl => (key l hl).1 (hb l hl)⟩
  · rintro ⟨ha, hb⟩
    refine ⟨fun a hm => ?_, fun l hl => (key l hl).2 (hb l hl)⟩
    obtain ⟨i, hi, rfl⟩ := List.mem_iff_getElem.1 hm
    have := (val_nonneg (hp i (by omega))).1 (ha i (by omega))
    simpa [rP, List.getD, List.getElem?_eq_getElem hi] using this

/-! ### narrow places -/
def fullB (caps : List Int) (paths : List (List Int)) (r : List (Int × Int)) (l : Nat) : Bool := decide (l < caps.length) && decide ((loadL paths r caps.length).getD l (0, 1) = (caps.getD l 0, 1))
def mostB (paths : List (List Int)) (r : List (Int × Int)) (f : Nat) (x : Int) : Bool := (users paths x).all fun u => decide (cmpI ((rP r u.toNat).1 * (rP r f).2) ((rP r f).1 * (rP r u.toNat).2) ≤ 0)
def neckOf (caps : List Int) (paths : List (List Int)) (r : List (Int × Int)) (f : Nat) : Int := ((paths.getD f []).find? fun x => fullB caps paths r x.toNat && mostB paths r f x).getD (-1)
def fairB (caps : List Int) (paths : List (List Int)) (r : List (Int × Int)) : Bool := fitsB caps paths r && (List.range paths.length).all fun f => decide (neckOf caps paths r f ≠ -1)

theorem cmp_le {a b : Int × Int} (ha : 1 ≤ a.2) (hb : 1 ≤ b.2) : cmpI (a.1 * b.2) (b.1 * a.2) ≤ 0 ↔ val a ≤ val b := by
  rw [cross ha hb]; unfold cmpI
  split
  · constructor <;> intro <;> omega
  · split
    · constructor <;> intro <;> omega
    · constructor <;> intro <;> omega
theorem full_iff {caps : List Int} {paths : List (List Int)} {r : List (Int × Int)} (h : loadE caps paths r = 0) {l : Nat} (hl : l < caps.length) : fullB caps paths r l = true ↔ sumQ (xQ r) (usN paths l) = capQ caps l := by
  obtain ⟨f1, f2⟩ := load_at h hl (0, 1)
  have hg := (good_of_net (loadE_0 h).1).1 _ (getD_mem caps l hl 0)
  have e : capQ caps l = val (caps.getD l 0, 1) := by rw [val_whole]; rfl
  have fw : faultP (caps.getD l 0, 1) = 0 := fault_of (mayB_iff.2 (by omega)) (low_self (show gd (caps.getD l 0) 1 = 1 by unfold gd; simp)).1 (low_self (show gd (caps.getD l 0) 1 = 1 by unfold gd; simp)).2
  unfold fullB
  simp only [Bool.and_eq_true, decide_eq_true_eq, hl, true_and]
  constructor
  · intro he
    rw [← f2, he, e]
  · intro he
    exact val_inj' f1 fw (by rw [f2, he, e])
theorem most_iff {caps : List Int} {paths : List (List Int)} {r : List (Int × Int)} (h : loadE caps paths r = 0) {f : Nat} (hf : f < paths.length) {x : Int} (hx : 0 ≤ x) : mostB paths r f x = true ↔ ∀ g ∈ usN paths x.toNat, xQ r g ≤ xQ r f := by
  obtain ⟨h1, h2, h3, h4⟩ := loadE_0 h
  have hp : ∀ f, f < paths.length → 1 ≤ (rP r f).2 := fun f hf => fault_pos ((ratesE_iff r).1 h3 _ (getD_mem r f (by omega) (0, 0)))
  have e : ((x.toNat : Nat) : Int) = x := by omega
  unfold mostB usN
  rw [e, List.all_eq_true]
  simp only [decide_eq_true_eq, List.mem_map]
  constructor
  · rintro hm g ⟨u, hu, rfl⟩
    exact (cmp_le (hp _ (users_lt hu)) (hp f hf)).1 (hm u hu)
  · intro hm u hu
    exact (cmp_le (hp _ (users_lt hu)) (hp f hf)).2 (hm _ ⟨u, hu, rfl⟩)
theorem neck_iff {caps : List Int} {paths : List (List Int)} {r : List (Int × Int)} (h : loadE caps paths r = 0) {f : Nat} (hf : f < paths.length) : neckOf caps paths r f ≠ -1 ↔ NeckQ (usN paths) (capQ caps) caps.length (xQ r) f := by
  have hg := good_of_net (loadE_0 h).1
  have hpath := hg.2.1 _ (getD_mem paths f hf [])
  unfold neckOf
  cases hfi : (paths.getD f []).find? fun x => fullB caps paths r x.toNat && mostB paths r f x with
  | none =>
    simp only [Option.getD_none, ne_eq, not_true_eq_false, false_iff]
    rintro ⟨l, hl, hfl, hs, hm⟩
    obtain ⟨_, hin⟩ := usN_iff.1 hfl
    rw [List.find?_eq_none] at hfi
    have hmem : (l : Int) ∈ paths.getD f [] := by simpa [inB] using hin
    refine hfi (l : Int) hmem ?_
    have e : ((l : Int)).toNat = l := by omega
    rw [Bool.and_eq_true, e]
    exact ⟨(full_iff h hl).2 hs, (most_iff h hf (by omega)).2 (by rw [e]; exact hm)⟩
  | some x =>
    have hx := List.mem_of_find?_eq_some hfi
    have hpx := List.find?_some hfi
    have hb := hpath.2 x hx
    simp only [Option.getD_some]
    rw [Bool.and_eq_true] at hpx
    constructor
    · intro _
      obtain ⟨t1, t2⟩ := toNat_lt hg hf hx
      exact ⟨x.toNat, t1, t2, (full_iff h t1).1 hpx.1, (most_iff h hf hb.1).1 hpx.2⟩
    · intro _; omega
theorem fair_iff {caps : List Int} {paths : List (List Int)} {r : List (Int × Int)} (h : loadE caps paths r = 0) : fairB caps paths r = true ↔ FitsQ (usN paths) (capQ caps) caps.length paths.length (xQ r) ∧ ∀ f, f < paths.length → NeckQ (usN paths) (capQ caps) caps.length (xQ r) f := by
  unfold fairB
  rw [Bool.and_eq_true, fits_iff h, List.all_eq_true]
  simp only [List.mem_range, decide_eq_true_eq]
  constructor
  · rintro ⟨h1, h2⟩; exact ⟨h1, fun f hf => (neck_iff h hf).1 (h2 f hf)⟩
  · rintro ⟨h1, h2⟩; exact ⟨h1, fun f hf => (neck_iff h hf).2 (h2 f hf)⟩

/-! ### rates that are fair can be loaded -/
theorem addUp_some {r : List (Int × Int)} {D : Int} (hD1 : 1 ≤ D) (hD2 : D ≤ 46656) : ∀ (us : List Int) (s : Int × Int), Over D s → 0 ≤ val s → (∀ u ∈ us, u.toNat < r.length ∧ Over D (rP r u.toNat) ∧ 0 ≤ xQ r u.toNat) → val s + sumQ (xQ r) (us.map Int.toNat) ≤ 1000 → ∃ t, addUp r us s = some t := by
  intro us
  induction us with
  | nil => intro s _ _ _ _; exact ⟨s, rfl⟩
  | cons u us ih =>
    intro s hs h0 hu hle
    obtain ⟨u1, u2, u3⟩ := hu u (by simp)
    have hsum := over_sum hs u2
    have hv := val_sum hs.1 u2.1
    have hnn : (0 : Rat) ≤ sumQ (xQ r) (us.map Int.toNat) := by
      have := sumQ_le (x := fun _ => 0) (y := xQ r) (l := us.map Int.toNat) (fun g hg => by
        obtain ⟨v, hv, rfl⟩ := List.mem_map.1 hg
        exact (hu v (by simp [hv])).2.2)
      have e : ∀ l : List Nat, sumQ (fun _ => 0) l = 0 := by
        intro l
        induction l with
        | nil => rfl
        | cons a r ih => simp only [sumQ, ih]; grind
      rw [e] at this
      exact this
    simp only [List.map_cons, sumQ] at hle
    have hx : xQ r u.toNat = val (rP r u.toNat) := rfl
    have hf : faultP (sumP s (rP r u.toNat)) = 0 := over_fault hsum hD1 (by omega) (by grind) (by grind)
    simp only [addUp]
    rw [rP_eq u1, if_pos (show mayP (sumP s (rP r u.toNat)) = true from mayB_of_fault hf)]
    exact ih _ hsum (by grind) (fun v hv => hu v (by simp [hv])) (by grind)
theorem fair_load {caps : List Int} {paths : List (List Int)} {x : List (Int × Int)} (hn : netE caps paths = 0) (hx : Fair caps paths x) : loadE caps paths x = 0 := by
  have hg := good_of_net hn
  obtain ⟨D, hD1, hD2, hov⟩ := hx.bottom
  refine loadE_mk hn hx.len ((ratesE_iff x).2 fun a ha => ?_) ?_
  · obtain ⟨i, hi, rfl⟩ := List.mem_iff_getElem.1 ha
    have := (hx.right i (by have := hx.len; omega)).1
    simpa [rP, List.getD, List.getElem?_eq_getElem hi] using this
  · unfold allOk
    rw [List.all_eq_true]
    intro l hl
    have hl' := List.mem_range.1 hl
    have h0 : val (0, 1) = 0 := by rw [val_whole]; rfl
    obtain ⟨t, ht⟩ := addUp_some hD1 hD2 (users paths l) (0, 1) (over_whole D 0) (by rw [h0]; exact Rat.le_refl) (fun u hu => by
      have := users_lt hu
      exact ⟨by have := hx.len; omega, hov _ this, Rat.le_of_lt (hx.right _ this).2.1⟩) (by
      have h1 := hx.fits.2 l hl'
      have h2 := (capQ_bd hg.1 hl').2
      have e : (users paths (l : Int)).map Int.toNat = usN paths l := rfl
      rw [h0, e]
      grind)
    rw [loadOf, ht]; rfl
/-- only one is fair -/
theorem only_one {caps : List Int} {paths : List (List Int)} {r : List (Int × Int)} (h : loadE caps paths r = 0) : fairB caps paths r = true ↔ (fill caps paths).1 = r := by
  obtain ⟨h1, h2, h3, h4⟩ := loadE_0 h
  have hg := good_of_net h1
  have hx := (fill_fair hg).1
  generalize (fill caps paths).1 = x at hx
  constructor
  · intro hf
    obtain ⟨f1, f2⟩ := (fair_iff h).1 hf
    have := only (fun l _ g hg => usN_lt hg) f1 hx.fits f2 hx.neck
    apply List.ext_getElem
    · rw [hx.len, h2]
    · intro i i1 i2
      have hi : i < paths.length := by have := hx.len; omega
      have e := this i hi
      have fr : faultP (rP r i) = 0 := (ratesE_iff r).1 h3 _ (getD_mem r i (by omega) (0, 0))
      have := val_inj' (hx.right i hi).1 fr e.symm
      simpa [rP, List.getD, List.getElem?_eq_getElem i1, List.getElem?_eq_getElem i2] using this
  · rintro rfl
    exact (fair_iff h).2 ⟨hx.fits, hx.neck⟩
end Go.Proofs.YtpnmmmlckdkcdakGreatDoor.Fl

/- What RankBest asks of rates, in plain numbers. No Go in it. -/
namespace Go.Proofs.YtpnmmmlckdkcdakGreatDoor.Fl
open Fr Ns Ld
set_option linter.unusedSimpArgs false

/-- all that RankBest asks -/
theorem best_right {caps : List Int} {paths : List (List Int)} {r : List (Int × Int)} (h : loadE caps paths r = 0) :
    rankE r (fill caps paths).1 = 0 ∧ rankE (fill caps paths).1 r = 0 ∧ rankV (fill caps paths).1 r = - rankV r (fill caps paths).1 ∧ (rankV r (fill caps paths).1 = -1 ∨ rankV r (fill caps paths).1 = 0 ∨ rankV r (fill caps paths).1 = 1) ∧ (fitsB caps paths r = true → rankV r (fill caps paths).1 ≤ 0) ∧
      leastE r = 0 ∧ leastE (fill caps paths).1 = 0 ∧ faultP (leastV r) = 0 ∧ faultP (leastV (fill caps paths).1) = 0 ∧ (fitsB caps paths r = true → ordP (leastV r) (leastV (fill caps paths).1) ≤ 0) := by
  obtain ⟨h1, h2, h3, h4⟩ := loadE_0 h
  have h0 := netE_0 h1
  have hx := (fill_fair (good_of_net h1)).1
  have hxl := hx.len
  have hs : sortE r = 0 := sortE_mk (by omega) ((ratesE_iff r).1 h3)
  have hz : sortE (fill caps paths).1 = 0 := sortE_mk (by omega) (fun a ha => by
    obtain ⟨i, hi, rfl⟩ := List.mem_iff_getElem.1 ha
    have := (hx.right i (by omega)).1
    simpa [rP, List.getD, List.getElem?_eq_getElem hi] using this)
  obtain ⟨a1, a2⟩ := rank_mk hs hz (by omega)
  obtain ⟨b1, b2⟩ := rank_mk hz hs (by omega)
  obtain ⟨c1, c2, c3⟩ := least_mk hs (by omega)
  obtain ⟨d1, d2, d3⟩ := least_mk hz (by omega)
  have hbest : fitsB caps paths r = true → cmpL (sortP r) (sortP (fill caps paths).1) ≤ 0 := fun hf => rank_best h2 (rates_pos (sortE_0 hs).2) ((fits_iff h).1 hf) hx
  refine ⟨a1, b1, by rw [a2, b2]; exact cmpL_neg _ _, by rw [a2]; exact cmpL_range _ _, fun hf => by rw [a2]; exact hbest hf, c1, d1, c3, d3, fun hf => ?_⟩
  rw [c2, d2]
  exact cmpL_head (by rw [sortP_length]; omega) (by rw [sortP_length]; omega) (hbest hf)
end Go.Proofs.YtpnmmmlckdkcdakGreatDoor.Fl

/- One more, one fewer, or a wider link: what becomes of the least rate, and of all. No Go in it. -/
namespace Go.Proofs.YtpnmmmlckdkcdakGreatDoor.Fl
open Fr Ns Ld
set_option linter.unusedSimpArgs false
set_option linter.unusedVariables false

def widerE (caps : List Int) (paths : List (List Int)) (link by_ : Int) : Int :=
  if netE caps paths = 0 then if link < 0 ∨ (caps.length : Int) ≤ link ∨ by_ < 0 ∨ 1000 < by_ then 1 else if 1000 < caps.getD link.toNat 0 + by_ then 4 else 0 else netE caps paths
def widerC (caps : List Int) (link by_ : Int) : List Int := caps.set link.toNat (caps.getD link.toNat 0 + by_)
theorem widerC_length (caps : List Int) (link by_ : Int) : (widerC caps link by_).length = caps.length := by simp [widerC]
theorem widerE_0 {caps : List Int} {paths : List (List Int)} {link by_ : Int} (h : widerE caps paths link by_ = 0) : netE caps paths = 0 ∧ 0 ≤ link ∧ link < caps.length ∧ 0 ≤ by_ ∧ by_ ≤ 1000 ∧ caps.getD link.toNat 0 + by_ ≤ 1000 := by
  unfold widerE at h
  split at h
  · split at h
    · omega
    · split at h
      · omega
      · exact ⟨by assumption, by omega, by omega, by omega, by omega, by omega⟩
  · contradiction
theorem widerC_at {caps : List Int} {link by_ : Int} {l : Nat} (hl : l < caps.length) : (widerC caps link by_).getD l 0 = if l = link.toNat then caps.getD l 0 + by_ else caps.getD l 0 := by
  unfold widerC
  by_cases e : l = link.toNat
  · subst e
    rw [if_pos rfl]
    simp [List.getD, List.getElem?_set, hl]
  · rw [if_neg e]
    simp [List.getD, List.getElem?_set, Ne.symm e]
theorem wider_0 (caps : List Int) (link : Int) : widerC caps link 0 = caps := by
  apply List.ext_getElem
  · simp [widerC]
  · intro i h1 h2
    simp only [widerC]
    rw [List.getElem_set]
    split
    · rename_i e
      subst e
      simp [List.getD, List.getElem?_eq_getElem h2]
    · rfl
/-- a net with a wider link is a net -/
theorem wider_net {caps : List Int} {paths : List (List Int)} {link by_ : Int} (h : widerE caps paths link by_ = 0) : netE (widerC caps link by_) paths = 0 := by
  obtain ⟨h1, h2, h3, h4, h5, h6⟩ := widerE_0 h
  have h0 := netE_0 h1
  have hg := good_of_net h1
  refine netE_mk ⟨by rw [widerC_length]; exact h0.1, by rw [widerC_length]; exact h0.2.1, h0.2.2.1, h0.2.2.2.1, ?_, by rw [widerC_length]; exact h0.2.2.2.2.2⟩
  rw [linksE, if_neg (by rw [widerC_length]; omega), if_neg (by rw [widerC_length]; omega)]
  have key : ∀ l : List Int, (∀ x ∈ l, 1 ≤ x ∧ x ≤ 1000) → capsFrom l = 0 := by
    intro l
    induction l with
    | nil => intro _; rfl
    | cons x r ih =>
      intro hb
      have := hb x (by simp)
      unfold capsFrom
      rw [if_neg (by omega)]
      exact ih fun y hy => hb y (by simp [hy])
  refine key _ fun x hx => ?_
  obtain ⟨i, hi, rfl⟩ := List.mem_iff_getElem.1 hx
  rw [widerC_length] at hi
  have e : (widerC caps link by_)[i]'(by rw [widerC_length]; exact hi) = (widerC caps link by_).getD i 0 := by simp [List.getD, List.getElem?_eq_getElem (show i < (widerC caps link by_).length by rw [widerC_length]; exact hi)]
  rw [e, widerC_at hi]
  have := hg.1 _ (getD_mem caps i hi 0)
  split
  · rename_i e; subst e; omega
  · exact this

/-! ### who goes over a link, added up -/
def overQ (link : Int) (x : Nat → Rat) : Nat → List (List Int) → Rat
  | _, [] => 0
  | i, p :: r => (if inB p link then x i else 0) + overQ link x (i + 1) r
theorem sum_over (link : Int) (x : Nat → Rat) : ∀ (ps : List (List Int)) (i : Nat), sumQ x ((usersFrom link i ps).map Int.toNat) = overQ link x i ps := by
  intro ps
  induction ps with
  | nil => intro i; rfl
  | cons p r ih =>
    intro i
    simp only [usersFrom, overQ]
    split
    · rename_i h
      simp only [List.map_cons, sumQ, ih, Int.toNat_natCast]
    · rename_i h
      rw [ih]; grind
theorem sum_usN (paths : List (List Int)) (l : Nat) (x : Nat → Rat) : sumQ x (usN paths l) = overQ (l : Int) x 0 paths := sum_over _ _ _ _
theorem over_append (link : Int) (x : Nat → Rat) : ∀ (A B : List (List Int)) (i : Nat), overQ link x i (A ++ B) = overQ link x i A + overQ link x (i + A.length) B := by
  intro A
  induction A with
  | nil => intro B i; simp only [List.nil_append, overQ, List.length_nil, Nat.add_zero]; grind
  | cons p r ih =>
    intro B i
    simp only [List.cons_append, overQ, ih, List.length_cons]
    rw [show i + 1 + r.length = i + (r.length + 1) by omega]
    grind
theorem over_nonneg (link : Int) (x : Nat → Rat) : ∀ (ps : List (List Int)) (i : Nat), (∀ f, f < ps.length → 0 ≤ x (i + f)) → 0 ≤ overQ link x i ps := by
  intro ps
  induction ps with
  | nil => intro i _; simp only [overQ]; exact Rat.le_refl
  | cons p r ih =>
    intro i h
    simp only [overQ]
    have h0 := h 0 (by simp)
    have h1 := ih (i + 1) (fun f hf => by have := h (f + 1) (by simpa using hf); rwa [show i + (f + 1) = i + 1 + f by omega] at this)
    split
    · simp only [Nat.add_zero] at h0; grind
    · grind
theorem over_congr (link : Int) {x y : Nat → Rat} : ∀ (ps : List (List Int)) (i j : Nat), (∀ f, f < ps.length → x (i + f) = y (j + f)) → overQ link x i ps = overQ link y j ps := by
  intro ps
  induction ps with
  | nil => intro i j _; rfl
  | cons p r ih =>
    intro i j h
    simp only [overQ]
    have h0 := h 0 (by simp)
    simp only [Nat.add_zero] at h0
    rw [h0, ih (i + 1) (j + 1) (fun f hf => by have := h (f + 1) (by simpa using hf); rwa [show i + (f + 1) = i + 1 + f by omega, show j + (f + 1) = j + 1 + f by omega] at this)]

/-- the others' rates of a net fit the net without one -/
theorem fits_less {caps : List Int} {paths : List (List Int)} {x : List (Int × Int)} {j : Nat} (hj : j < paths.length) (hx : x.length = paths.length) (hf : FitsQ (usN paths) (capQ caps) caps.length paths.length (xQ x)) :
    FitsQ (usN (paths.take j ++ paths.drop (j + 1))) (capQ caps) caps.length (paths.take j ++ paths.drop (j + 1)).length (xQ (x.take j ++ x.drop (j + 1))) := by
  have hl : (paths.take j).length = j := by rw [List.length_take]; omega
  have at1 : ∀ f, f < j → xQ (x.take j ++ x.drop (j + 1)) f = xQ x f := fun f h => by
    unfold xQ rP
    rw [List.getD, List.getElem?_append_left (by rw [List.length_take]; omega), List.getElem?_take, if_pos h]
    rfl
  have at2 : ∀ f, j ≤ f → xQ (x.take j ++ x.drop (j + 1)) f = xQ x (f + 1) := fun f h => by
    unfold xQ rP
    have hlx : (x.take j).length = j := by rw [List.length_take]; omega
    rw [List.getD, List.getElem?_append_right (by omega), hlx, List.getElem?_drop]
    rw [show j + 1 + (f - j) = f + 1 by omega]
    rfl
  refine ⟨fun f hfl => ?_, fun l hl' => ?_⟩
  · simp only [List.length_append, List.length_take, List.length_drop] at hfl
    by_cases h : f < j
    · rw [at1 f h]; exact hf.1 f (by omega)
    · rw [at2 f (by omega)]; exact hf.1 (f + 1) (by omega)
  · have h1 := hf.2 l hl'
    have hsplit : paths = paths.take j ++ (paths.getD j [] :: paths.drop (j + 1)) := by
      have : paths.drop j = paths.getD j [] :: paths.drop (j + 1) := by
        rw [List.drop_eq_getElem_cons hj]
        simp [List.getD, List.getElem?_eq_getElem hj]
      rw [← this, List.take_append_drop]
    rw [sum_usN] at h1 ⊢
    rw [hsplit, over_append, hl, overQ] at h1
    rw [over_append, hl]
    have e1 : overQ (l : Int) (xQ (x.take j ++ x.drop (j + 1))) 0 (paths.take j) = overQ (l : Int) (xQ x) 0 (paths.take j) := over_congr _ _ 0 0 (fun f h => by rw [hl] at h; simp only [Nat.zero_add]; exact at1 f h)
    have e2 : overQ (l : Int) (xQ (x.take j ++ x.drop (j + 1))) (0 + j) (paths.drop (j + 1)) = overQ (l : Int) (xQ x) (0 + j + 1) (paths.drop (j + 1)) := over_congr _ _ (0 + j) (0 + j + 1) (fun f h => by
      rw [at2 _ (by omega)]
      congr 1
      omega)
    rw [e1, e2]
    have h0 := hf.1 j hj
    simp only [Nat.zero_add] at h1 ⊢
    split at h1
    · grind
    · grind
/-- rates all of which another list holds: its least is no greater -/
theorem least_sub {r x : List (Int × Int)} (hr : sortE r = 0) (hx : sortE x = 0) (hl : r.length ≠ 0) (h : ∀ a ∈ r, a ∈ x) : val (leastV x) ≤ val (leastV r) := by
  have hlx : x.length ≠ 0 := fun e => by
    obtain ⟨a, ha⟩ := List.exists_mem_of_ne_nil r (fun e => hl (by rw [e]; rfl))
    have := h a ha
    rw [List.eq_nil_of_length_eq_zero e] at this
    simp at this
  obtain ⟨_, e1, _⟩ := least_mk hr hl
  obtain ⟨_, e2, _⟩ := least_mk hx hlx
  have hm : leastV r ∈ x := by
    rw [e1]
    exact h _ (sortP_mem.1 (getD_mem (sortP r) 0 (by rw [sortP_length]; omega) (0, 0)))
  have hm' := (sortP_mem (r := x)).2 hm
  obtain ⟨i, hi, he⟩ := List.mem_iff_getElem.1 hm'
  have hasc := sortP_asc (rates_pos (sortE_0 hx).2)
  have := asc_getD hasc (Nat.zero_le i) hi
  rw [e2]
  have e3 : rP (sortP x) i = leastV r := by rw [← he]; simp [rP, List.getD, List.getElem?_eq_getElem hi]
  rw [e3] at this
  exact this
theorem fill_sortE {caps : List Int} {paths : List (List Int)} (h : netE caps paths = 0) : sortE (fill caps paths).1 = 0 ∧ (fill caps paths).1.length = paths.length ∧ Fair caps paths (fill caps paths).1 := by
  have hx := (fill_fair (good_of_net h)).1
  have h0 := netE_0 h
  have hxl := hx.len
  refine ⟨sortE_mk (by omega) (fun a ha => ?_), hxl, hx⟩
  obtain ⟨i, hi, rfl⟩ := List.mem_iff_getElem.1 ha
  have := (hx.right i (by omega)).1
  simpa [rP, List.getD, List.getElem?_eq_getElem hi] using this
theorem less_sort {x : List (Int × Int)} {j : Nat} (hx : sortE x = 0) : sortE (x.take j ++ x.drop (j + 1)) = 0 ∧ ∀ a ∈ x.take j ++ x.drop (j + 1), a ∈ x := by
  obtain ⟨h1, h2⟩ := sortE_0 hx
  have hm : ∀ a ∈ x.take j ++ x.drop (j + 1), a ∈ x := fun a ha => by
    rcases List.mem_append.1 ha with h | h
    · exact List.mem_of_mem_take h
    · exact List.mem_of_mem_drop h
  exact ⟨sortE_mk (by simp only [List.length_append, List.length_take, List.length_drop]; omega) (fun a ha => h2 a (hm a ha)), hm⟩
/-- with one fewer the least rate is no less -/
theorem least_fewer {caps : List Int} {paths : List (List Int)} {j : Nat} (h : netE caps paths = 0) (hj : j < paths.length) (h' : netE caps (paths.take j ++ paths.drop (j + 1)) = 0) :
    ordP (leastV (fill caps paths).1) (leastV (fill caps (paths.take j ++ paths.drop (j + 1))).1) ≤ 0 := by
  obtain ⟨s1, l1, f1⟩ := fill_sortE h
  obtain ⟨s2, l2, f2⟩ := fill_sortE h'
  have n2 := (netE_0 h').2.2.1
  obtain ⟨s3, hm⟩ := less_sort (j := j) s1
  have hlen : ((fill caps paths).1.take j ++ (fill caps paths).1.drop (j + 1)).length = (paths.take j ++ paths.drop (j + 1)).length := by
    simp only [List.length_append, List.length_take, List.length_drop]; omega
  have hb := rank_best hlen (rates_pos (sortE_0 s3).2) (fits_less hj l1 f1.fits) f2
  have hne3 : ((fill caps paths).1.take j ++ (fill caps paths).1.drop (j + 1)).length ≠ 0 := by omega
  have hne1 : (fill caps paths).1.length ≠ 0 := by omega
  have hne2 : (fill caps (paths.take j ++ paths.drop (j + 1))).1.length ≠ 0 := by omega
  obtain ⟨_, e3, p3⟩ := least_mk s3 hne3
  obtain ⟨_, e1, p1⟩ := least_mk s1 hne1
  obtain ⟨_, e2, p2⟩ := least_mk s2 hne2
  have h1 := cmpL_head (by rw [sortP_length]; exact hne3) (by rw [sortP_length]; exact hne2) hb
  rw [← e3, ← e2, ordP_le (fault_pos p3) (fault_pos p2)] at h1
  rw [ordP_le (fault_pos p1) (fault_pos p2)]
  exact Rat.le_trans (least_sub s3 s1 hne3 hm) h1
/-- with a flow more the least rate is no greater -/
theorem least_more {caps : List Int} {paths : List (List Int)} {path : List Int} (h : netE caps paths = 0) (h' : netE caps (paths ++ [path]) = 0) :
    ordP (leastV (fill caps (paths ++ [path])).1) (leastV (fill caps paths).1) ≤ 0 := by
  have e : (paths ++ [path]).take paths.length ++ (paths ++ [path]).drop (paths.length + 1) = paths := by simp
  have := least_fewer (j := paths.length) h' (by simp) (by rw [e]; exact h)
  rwa [e] at this
/-- with a wider link none is worse off, as a whole -/
theorem wider_best {caps : List Int} {paths : List (List Int)} {link by_ : Int} (h : widerE caps paths link by_ = 0) : 0 ≤ rankV (fill (widerC caps link by_) paths).1 (fill caps paths).1 ∧ rankE (fill (widerC caps link by_) paths).1 (fill caps paths).1 = 0 := by
  obtain ⟨h1, h2, h3, h4, h5, h6⟩ := widerE_0 h
  obtain ⟨s1, l1, f1⟩ := fill_sortE h1
  obtain ⟨s2, l2, f2⟩ := fill_sortE (wider_net h)
  have hfit : FitsQ (usN paths) (capQ (widerC caps link by_)) (widerC caps link by_).length paths.length (xQ (fill caps paths).1) := by
    refine ⟨f1.fits.1, fun l hl => ?_⟩
    rw [widerC_length] at hl
    have := f1.fits.2 l hl
    have hc : capQ caps l ≤ capQ (widerC caps link by_) l := by
      unfold capQ
      rw [widerC_at hl]
      exact Rat.intCast_le_intCast.2 (by split <;> omega)
    exact Rat.le_trans this hc
  have hb := rank_best l1 (rates_pos (sortE_0 s1).2) hfit f2
  obtain ⟨a1, a2⟩ := rank_mk s2 s1 (by omega)
  refine ⟨?_, a1⟩
  rw [a2, cmpL_neg]
  omega
theorem rank_range (a b : List (Int × Int)) : rankV a b = -1 ∨ rankV a b = 0 ∨ rankV a b = 1 := by
  unfold rankV
  split
  · exact cmpL_range _ _
  · exact .inr (.inl rfl)
/-- a net without one of two flows is a net -/
theorem drop_net {caps : List Int} {paths : List (List Int)} {flow : Int} (h : dropE caps paths flow = 0) : netE caps paths = 0 ∧ 0 ≤ flow ∧ flow.toNat < paths.length ∧ netE caps (less paths flow) = 0 := by
  unfold dropE at h
  split at h
  · rename_i h0
    split at h
    · omega
    · split at h
      · omega
      · have hn := netE_0 h0
        refine ⟨h0, by omega, by omega, netE_mk ⟨hn.1, hn.2.1, ?_, ?_, hn.2.2.2.2.1, ?_⟩⟩
        · simp only [less, List.length_append, List.length_take, List.length_drop]; omega
        · simp only [less, List.length_append, List.length_take, List.length_drop]; omega
        · rw [pathsFrom_iff]
          intro p hp
          have hh := (pathsFrom_iff _ _).1 hn.2.2.2.2.2
          rcases List.mem_append.1 hp with h | h
          · exact hh p (List.mem_of_mem_take h)
          · exact hh p (List.mem_of_mem_drop h)
  · contradiction
end Go.Proofs.YtpnmmmlckdkcdakGreatDoor.Fl

/- A line of a session: what the document's Line leans on. No Go in it. -/
namespace Go.Proofs.YtpnmmmlckdkcdakGreatDoor.Ev
open Fr Ns Ld Fl
set_option linter.unusedSimpArgs false
set_option linter.unusedVariables false

/-- flows as a session can have them -/
def RightF (f : Flows) : Prop := f.length ≤ 6 ∧ ∀ p ∈ f, pathE 4 p = 0
theorem right_nil : RightF [] := ⟨by simp, by simp⟩
theorem right_net {f : Flows} (h : RightF f) (hne : f ≠ []) : netE capsR f = 0 := by
  have hl : f.length ≠ 0 := fun e => hne (List.eq_nil_of_length_eq_zero e)
  have h6 := h.1
  rw [netE, if_neg (by simp [capsR]; exact hne), if_neg (by simp [capsR]; omega), if_pos (by decide)]
  exact (pathsFrom_iff _ _).2 h.2
theorem right_good {f : Flows} (h : RightF f) (hne : f ≠ []) : Fl.Good capsR f := good_of_net (right_net h hne)
theorem right_add {f : Flows} {l : List Int} (h : RightF f) (ha : addR f l = 0) : RightF (f ++ [l]) := by
  have h6 := h.1
  unfold addR at ha
  split at ha
  · omega
  · refine ⟨by simp; omega, fun p hp => ?_⟩
    rcases List.mem_append.1 hp with hp | hp
    · exact h.2 p hp
    · simp at hp; subst hp; exact ha
theorem right_less {f : Flows} {i : Int} (h : RightF f) : RightF (lessF f i) := by
  have h6 := h.1
  refine ⟨by simp [lessF]; omega, fun p hp => h.2 p ?_⟩
  rcases List.mem_append.1 hp with hp | hp
  · exact List.mem_of_mem_take hp
  · exact List.mem_of_mem_drop hp
theorem right_line {f : Flows} (s : Txt) (h : RightF f) : RightF (lineF f s) := by
  unfold lineF
  split
  · split
    · split
      · exact right_add h (by assumption)
      · exact h
    · split
      · split
        · exact right_less h
        · exact h
      · exact h
  · exact h
/-! ### rates, and the least of them -/
theorem rates_R {f : Flows} (h : RightF f) (hne : f ≠ []) : (ratesR f).length = f.length ∧ sortE (ratesR f) = 0 ∧ ∀ a ∈ ratesR f, faultP a = 0 ∧ 0 ≤ a.1 := by
  have hn := right_net h hne
  obtain ⟨h1, h2, h3⟩ := fill_sortE hn
  refine ⟨h2, h1, fun a ha => ⟨(sortE_0 h1).2 a ha, ?_⟩⟩
  obtain ⟨i, hi, rfl⟩ := List.mem_iff_getElem.1 ha
  have hi' : i < (fill capsR f).1.length := hi
  have hr := h3.right i (by omega)
  have e : rP (fill capsR f).1 i = (ratesR f)[i] := by simp [rP, ratesR, List.getD, List.getElem?_eq_getElem hi']
  have hq : xQ (fill capsR f).1 i = val ((ratesR f)[i]) := by rw [← e]; rfl
  have hp := hr.2.1
  rw [hq] at hp
  have hb : 1 ≤ ((ratesR f)[i]).2 := by
    have := hr.1
    rw [e] at this
    exact (fault_0 this).1
  rcases Int.lt_or_le ((ratesR f)[i]).1 0 with hlt | hge
  · exfalso
    unfold val at hp
    have hb' : (0 : Rat) < ((((ratesR f)[i]).2 : Int) : Rat) := by exact_mod_cast (by omega : (0 : Int) < ((ratesR f)[i]).2)
    have ht' : ((((ratesR f)[i]).1 : Int) : Rat) < 0 := by exact_mod_cast hlt
    have hm : (0 : Rat) * ((((ratesR f)[i]).2 : Int) : Rat) < ((((ratesR f)[i]).1 : Int) : Rat) := (Rat.lt_div_iff hb').1 hp
    rw [Rat.zero_mul] at hm
    grind
  · exact hge
def minS (r : List (Int × Int)) : Nat → Int × Int
  | 0 => r.getD 0 (0, 0)
  | k + 1 => if ordP (r.getD k (0, 0)) (minS r k) < 0 then r.getD k (0, 0) else minS r k
theorem minS_mem {r : List (Int × Int)} (hne : 0 < r.length) : ∀ k, k ≤ r.length → minS r k ∈ r := by
  intro k
  induction k with
  | zero => intro _; exact getD_mem r 0 hne (0, 0)
  | succ k ih =>
    intro hk
    unfold minS
    split
    · exact getD_mem r k hk (0, 0)
    · exact ih (by omega)
theorem minS_le {r : List (Int × Int)} (hf : ∀ a ∈ r, faultP a = 0) (hne : 0 < r.length) : ∀ k, k ≤ r.length → ∀ j, j < k → val (minS r k) ≤ val (r.getD j (0, 0)) := by
  intro k
  induction k with
  | zero => intro _ j hj; omega
  | succ k ih =>
    intro hk j hj
    have hm := minS_mem hne k (by omega)
    have p1 : 1 ≤ (minS r k).2 := fault_pos (hf _ hm)
    have p2 : 1 ≤ (r.getD k (0, 0)).2 := fault_pos (hf _ (getD_mem r k hk (0, 0)))
    have hneg := ordP_neg (r.getD k (0, 0)) (minS r k)
    unfold minS
    split
    · rename_i hlt
      have h1 : val (r.getD k (0, 0)) ≤ val (minS r k) := (ordP_le p2 p1).1 (by omega)
      rcases Nat.lt_succ_iff_lt_or_eq.1 hj with hj | rfl
      · exact Rat.le_trans h1 (ih (by omega) j hj)
      · exact Rat.le_refl
    · rename_i hge
      rcases Nat.lt_succ_iff_lt_or_eq.1 hj with hj | rfl
      · exact ih (by omega) j hj
      · exact (ordP_le p1 p2).1 (by omega)
theorem minS_least {r : List (Int × Int)} (hs : sortE r = 0) (hne : 0 < r.length) : minS r r.length = leastV r := by
  obtain ⟨_, hf⟩ := sortE_0 hs
  obtain ⟨_, e, hfl⟩ := least_mk hs (by omega)
  have hm := minS_mem hne r.length (Nat.le_refl _)
  have hsm : minS r r.length ∈ sortP r := sortP_mem.2 hm
  have hasc := sortP_asc (rates_pos hf)
  have hlm : leastV r ∈ r := by rw [e]; exact sortP_mem.1 (getD_mem (sortP r) 0 (by rw [sortP_length]; omega) (0, 0))
  refine val_inj' (hf _ hm) hfl ?_
  have h1 : val (minS r r.length) ≤ val (leastV r) := by
    obtain ⟨j, hj, he⟩ := List.mem_iff_getElem.1 hlm
    have := minS_le hf hne r.length (Nat.le_refl _) j hj
    rwa [List.getD, List.getElem?_eq_getElem hj, Option.getD_some, he] at this
  have h2 : val (leastV r) ≤ val (minS r r.length) := by
    obtain ⟨j, hj, he⟩ := List.mem_iff_getElem.1 hsm
    have := asc_getD hasc (Nat.zero_le j) hj
    rw [e]
    have e2 : rP (sortP r) j = minS r r.length := by rw [← he]; simp [rP, List.getD, List.getElem?_eq_getElem hj]
    rw [e2] at this
    exact this
  exact Rat.le_antisymm h1 h2
/-! ### texts -/
theorem cutB_small {c : UInt8} {s x : Txt} (h : x ∈ cutB c s) : x.length ≤ s.length := by
  induction s generalizing x with
  | nil => simp [cutB] at h; subst h; simp
  | cons y r ih =>
    simp only [cutB] at h
    split at h
    · rcases List.mem_cons.1 h with h | h
      · subst h; simp
      · have := ih h; simp; omega
    · rcases List.mem_cons.1 h with h | h
      · subst h
        have := ih (x := (cutB c r).headD []) (by rw [cutB_cons c r]; simp)
        simpa using this
      · have := ih (List.mem_of_mem_tail h); simp; omega
theorem digF_ne (f n : Nat) : digF (f + 1) n ≠ [] := by
  unfold digF
  split <;> simp
theorem toldT_ne (a : Int × Int) : toldT a ≠ [] := by
  have h : digT a.1 ≠ [] := digF_ne 19 _
  unfold toldT
  split
  · exact h
  · simp
theorem joinT_ne {l : List Txt} (h : l ≠ []) (hx : ∀ x ∈ l, x ≠ []) : joinT l ≠ [] := by
  cases l with
  | nil => exact absurd rfl h
  | cons a r =>
    cases r with
    | nil => exact hx a (by simp)
    | cons b r => simp [joinT]
theorem joinT_len {l : List Txt} {M : Nat} (hx : ∀ x ∈ l, x.length ≤ M) : (joinT l).length ≤ l.length * (M + 1) := by
  induction l with
  | nil => simp [joinT]
  | cons a r ih =>
    cases r with
    | nil => have := hx a (by simp); simp [joinT]; omega
    | cons b r =>
      have h1 := hx a (by simp)
      have h2 := ih (fun x hx' => hx x (by simp [hx']))
      simp only [joinT, List.length_append, List.length_cons] at h2 ⊢
      have e : (r.length + 1 + 1) * (M + 1) = (r.length + 1) * (M + 1) + (M + 1) := by rw [Nat.add_mul (r.length + 1) 1 (M + 1), Nat.one_mul]
      omega
theorem join_first {x : Txt} : joinT [x] = x := rfl
theorem take_map_snoc {α β : Type} (g : α → β) (l : List α) (k : Nat) (h : k < l.length) (d : α) : (l.take (k + 1)).map g = (l.take k).map g ++ [g (l.getD k d)] := by
  have e : l.take (k + 1) = l.take k ++ [l.getD k d] := by rw [List.take_add_one, List.getD, List.getElem?_eq_getElem h]; rfl
  rw [e, List.map_append]; rfl
/-- several, one more -/
theorem join_step {α : Type} (g : α → Txt) (l : List α) (k : Nat) (h : k < l.length) (d : α) : joinT ((l.take (k + 1)).map g) = if k = 0 then g (l.getD k d) else joinT ((l.take k).map g) ++ 32 :: g (l.getD k d) := by
  rw [take_map_snoc g l k h d, joinT_snoc]
  by_cases h0 : k = 0
  · subst h0; simp
  · rw [if_neg (by simp; exact ⟨h0, fun e => by rw [e] at h; simp at h⟩), if_neg h0]
end Go.Proofs.YtpnmmmlckdkcdakGreatDoor.Ev

/- What package run's answers lean on: bounds of what is written, what a line's word asks. No Go in it. -/
namespace Go.Proofs.YtpnmmmlckdkcdakGreatDoor
namespace Ev
open Go.RowKit Fr Ns Ld Fl
set_option linter.unusedSimpArgs false
set_option linter.unusedVariables false

theorem rl_idxE (L : List Int) : 0 ≤ idxE L ∧ idxE L ≤ 8 := by
  unfold idxE few
  repeat' split
  all_goals omega
theorem rl_splitE {m : Int} (L : List Int) (m0 : 0 ≤ m) (m1 : m ≤ 9999) : splitE m L = idxE L := by
  unfold splitE
  split
  · rw [if_neg (by omega)]; omega
  · rfl
theorem rl_splitS {m : Int} (L : List Int) (m0 : 0 ≤ m) : splitS m L = splitL m L := by
  unfold splitS
  rw [if_neg (by omega)]
theorem rl_idx {L : List Int} (h : idxE L = 0) : 0 ≤ (idx L).1 ∧ (idx L).1 ≤ 1000000000 ∧ 0 ≤ (idx L).2 ∧ (idx L).2 ≤ 1000000000 := by
  have hf := fault_0 (idx_right h)
  have hp := idx_parts h
  have hr := low_ratio (tot L * tot L) (L.length * sqs L)
  have h0 : 0 ≤ (idx L).1 := by
    rcases Int.lt_or_le (idx L).1 0 with hn | hn
    · exfalso
      have e1 : (idx L).1 * ((L.length : Int) * sqs L) = tot L * tot L * (idx L).2 := hr
      have e2 : 0 ≤ tot L * tot L * (idx L).2 := Int.mul_nonneg hp.2.2.2.2.2.2.1 (by omega)
      have e3 : (idx L).1 * ((L.length : Int) * sqs L) < 0 := Int.mul_neg_of_neg_of_pos hn (by omega)
      omega
    · exact hn
  exact ⟨h0, by omega, by omega, by omega⟩
theorem rl_okF (L : List Int) : 0 ≤ (okF (idxE L) (idx L)).1 ∧ (okF (idxE L) (idx L)).1 ≤ 9223372036854775807 ∧ 0 ≤ (okF (idxE L) (idx L)).2 ∧ (okF (idxE L) (idx L)).2 ≤ 9223372036854775807 := by
  by_cases h : idxE L = 0
  · rw [h, okF_0]
    have := rl_idx h
    omega
  · rw [okF_ne h]; decide
theorem rl_split {m : Int} {l : List Int} (h : idxE l = 0) (m0 : 0 ≤ m) (m1 : m ≤ 9999) : ∀ x ∈ splitL m l, 0 ≤ x ∧ x ≤ 9223372036854775807 := by
  intro x hx
  obtain ⟨i, hi, rfl⟩ := List.mem_iff_getElem.1 hx
  have e : (splitL m l)[i] = (splitL m l).getD i 0 := by rw [List.getD, List.getElem?_eq_getElem hi]; rfl
  rw [e]
  rw [splitL_length] at hi
  obtain ⟨t1, _, _, hb⟩ := idx_tot h
  obtain ⟨h1, h2, _⟩ := split_part (many := m) (w := l) m0 t1 hi
  have hx := hb _ (getD_mem l i hi 0)
  have q0 : 0 ≤ m * l.getD i 0 := Int.mul_nonneg m0 hx.1
  have q1 : m * l.getD i 0 ≤ 9999 * 1000 := Int.mul_le_mul m1 hx.2 hx.1 (by decide)
  have b0 : 0 ≤ baseG m (tot l) (l.getD i 0) := Int.ediv_nonneg q0 (by omega)
  have b1 : baseG m (tot l) (l.getD i 0) ≤ 9999 * 1000 := Int.le_trans (Int.ediv_le_self _ q0) q1
  omega
theorem rl_okL {m : Int} {l : List Int} (m0 : 0 ≤ m) (m1 : m ≤ 9999) : (okL (idxE l) (splitL m l)).length ≤ 6 ∧ ∀ x ∈ okL (idxE l) (splitL m l), 0 ≤ x ∧ x ≤ 9223372036854775807 := by
  by_cases h : idxE l = 0
  · rw [h, okL_0]
    exact ⟨by rw [splitL_length]; exact (idx_tot h).2.2.1, rl_split h m0 m1⟩
  · rw [okL_ne h]
    exact ⟨by simp, by simp⟩
theorem rl_num {x : Txt} (h : numOk x = true) : 0 ≤ numV x ∧ numV x ≤ 9999 := by
  have h4 : x.length ≤ 4 := by
    unfold numOk at h
    simp at h
    omega
  have ha : ∀ b ∈ x, 48 ≤ b.toNat ∧ b.toNat ≤ 57 := by
    unfold numOk at h
    simp only [Bool.and_eq_true, List.all_eq_true] at h
    intro b hb
    have := h.2 b hb
    unfold isDig at this
    simp [UInt8.le_iff_toNat_le] at this
    exact this
  have hb : ∀ (l : Txt) (n : Int), (∀ b ∈ l, 48 ≤ b.toNat ∧ b.toNat ≤ 57) → 0 ≤ n → 0 ≤ l.foldl (fun n b => n * 10 + (b.toNat : Int) - 48) n ∧ l.foldl (fun n b => n * 10 + (b.toNat : Int) - 48) n + 1 ≤ (n + 1) * 10 ^ l.length := by
    intro l
    induction l with
    | nil => intro n _ hn; simp; omega
    | cons b r ih =>
      intro n hl hn
      have hb := hl b (by simp)
      obtain ⟨i1, i2⟩ := ih (n * 10 + (b.toNat : Int) - 48) (fun y hy => hl y (by simp [hy])) (by omega)
      refine ⟨i1, ?_⟩
      rw [List.foldl_cons]
      refine Int.le_trans i2 ?_
      have q : n * 10 + (b.toNat : Int) - 48 + 1 ≤ (n + 1) * 10 := by omega
      have hp : (0 : Int) ≤ 10 ^ r.length := Int.le_of_lt (Int.pow_pos (show (0 : Int) < 10 by decide))
      have := Int.mul_le_mul_of_nonneg_right q hp
      rw [List.length_cons, Int.pow_succ]
      generalize (10 : Int) ^ r.length = P at *
      have e : (n + 1) * (P * 10) = (n + 1) * 10 * P := by rw [Int.mul_comm P 10, Int.mul_assoc]
      rw [e]
      exact this
  obtain ⟨h1, h2⟩ := hb x 0 ha (by decide)
  refine ⟨h1, ?_⟩
  have h3 : (10 : Int) ^ x.length ≤ 10 ^ 4 := by
    have : x.length = 0 ∨ x.length = 1 ∨ x.length = 2 ∨ x.length = 3 ∨ x.length = 4 := by omega
    rcases this with e | e | e | e | e <;> rw [e] <;> decide
  have h5 : numV x + 1 ≤ (0 + 1) * 10 ^ x.length := h2
  omega
theorem rl_nums {s : Txt} (h : readT s = true) : ∀ n ∈ numsT s, 0 ≤ n ∧ n ≤ 9999 := by
  intro n hn
  obtain ⟨x, hx, rfl⟩ := List.mem_map.1 hn
  exact rl_num (List.all_eq_true.1 h x hx)
theorem rl_right {f : Flows} (h : RightF f) : (if f = [] then ([] : List (Int × Int)) else ratesR f).length ≤ 6 ∧ ∀ x ∈ (if f = [] then ([] : List (Int × Int)) else ratesR f), (0 ≤ x.1 ∧ x.1 ≤ 9223372036854775807) ∧ 0 ≤ x.2 ∧ x.2 ≤ 9223372036854775807 := by
  by_cases hf : f = []
  · rw [if_pos hf]; exact ⟨by simp, by simp⟩
  · rw [if_neg hf]
    obtain ⟨h1, h2, h3⟩ := rates_R h hf
    refine ⟨by rw [h1]; exact h.1, fun x hx => ?_⟩
    obtain ⟨q1, q2⟩ := h3 x hx
    have := fault_0 (t := x.1) (b := x.2) q1
    omega
theorem rl_least {f : Flows} (h : RightF f) : (leastE (if f = [] then ([] : List (Int × Int)) else ratesR f) = if f = [] then 5 else 0) ∧ (0 ≤ (leastV (if f = [] then ([] : List (Int × Int)) else ratesR f)).1 ∧ (leastV (if f = [] then ([] : List (Int × Int)) else ratesR f)).1 ≤ 9223372036854775807) ∧
    0 ≤ (leastV (if f = [] then ([] : List (Int × Int)) else ratesR f)).2 ∧ (leastV (if f = [] then ([] : List (Int × Int)) else ratesR f)).2 ≤ 9223372036854775807 := by
  by_cases hf : f = []
  · rw [if_pos hf, if_pos hf]
    decide
  · rw [if_neg hf, if_neg hf]
    obtain ⟨h1, h2, h3⟩ := rates_R h hf
    have hne : (ratesR f).length ≠ 0 := by rw [h1]; intro e; exact hf (List.eq_nil_of_length_eq_zero e)
    obtain ⟨l1, l2, l3⟩ := least_mk h2 hne
    have hm : leastV (ratesR f) ∈ ratesR f := by rw [← minS_least h2 (by omega)]; exact minS_mem (by omega) _ (Nat.le_refl _)
    have := fault_0 (t := (leastV (ratesR f)).1) (b := (leastV (ratesR f)).2) l3
    have := (h3 _ hm).2
    exact ⟨l1, by omega, by omega, by omega⟩
theorem rl_nameT_len (k : Int) : (nameT k).length ≤ 9 := by
  unfold nameT
  repeat' split
  all_goals decide
theorem rl_digF_len (f n : Nat) : (digF f n).length ≤ f := by
  induction f generalizing n with
  | zero => simp [digF]
  | succ f ih =>
    unfold digF
    split
    · simp
    · have := ih (n / 10); simp; omega
theorem rl_toldT_len (a : Int × Int) : (toldT a).length ≤ 41 := by
  have h1 := rl_digF_len 20 a.1.toNat
  have h2 := rl_digF_len 20 a.2.toNat
  unfold toldT digT
  split
  · omega
  · simp; omega
theorem rl_join_six {l : List Txt} (h6 : l.length ≤ 6) (hx : ∀ x ∈ l, x.length ≤ 41) : (joinT l).length ≤ 252 := by
  have h1 := joinT_len (l := l) (M := 41) hx
  have h3 := Nat.mul_le_mul_right (41 + 1) h6
  omega
theorem rl_lineT_len {f : Flows} (s : Txt) (hf : RightF f) : (lineT f s).length ≤ 252 := by
  unfold lineT
  have n1 := rl_nameT_len
  split
  · split
    · split
      · decide
      · exact Nat.le_trans (n1 _) (by decide)
    · split
      · split
        · decide
        · exact Nat.le_trans (n1 _) (by decide)
      · split
        · split
          · decide
          · rename_i hne
            refine rl_join_six (by rw [List.length_map, (rates_R hf hne).1]; exact hf.1) (fun x hx => ?_)
            obtain ⟨a, _, rfl⟩ := List.mem_map.1 hx
            exact rl_toldT_len a
        · split
          · split
            · exact Nat.le_trans (n1 _) (by decide)
            · exact Nat.le_trans (rl_toldT_len _) (by decide)
          · split
            · split
              · exact Nat.le_trans (rl_toldT_len _) (by decide)
              · exact Nat.le_trans (n1 _) (by decide)
            · split
              · rename_i hi
                refine rl_join_six (by rw [List.length_map, splitL_length]; exact (idx_tot hi).2.2.1) (fun x hx => ?_)
                obtain ⟨a, _, rfl⟩ := List.mem_map.1 hx
                exact Nat.le_trans (rl_digF_len 20 _) (by decide)
              · exact Nat.le_trans (n1 _) (by decide)
  · decide
theorem rl_play_right (l : List Txt) : RightF (playR l).2 := by
  suffices H : ∀ (l : List Txt) (p : Txt × Flows), RightF p.2 → RightF (l.foldl stepR p).2 from H l ([], []) right_nil
  intro l
  induction l with
  | nil => intro p hp; exact hp
  | cons a r ih => intro p hp; exact ih _ (right_line a hp)
theorem rl_play_len (l : List Txt) : ∀ k, k ≤ l.length → (playR (l.take k)).1.length ≤ 253 * k := by
  intro k
  induction k with
  | zero => intro _; simp [playR]
  | succ k ih =>
    intro hk
    have h := ih (by omega)
    have e : l.take (k + 1) = l.take k ++ [l.getD k []] := by rw [List.take_add_one, List.getD, List.getElem?_eq_getElem hk]; rfl
    have h2 := rl_lineT_len (l.getD k []) (rl_play_right (l.take k))
    rw [e, play_snoc]
    simp only [stepR, List.length_append, List.length_cons, List.length_nil]
    omega
theorem rl_play_step (l : List Txt) (k : Nat) (hk : k < l.length) : playR (l.take (k + 1)) = stepR (playR (l.take k)) (l.getD k []) := by
  have e : l.take (k + 1) = l.take k ++ [l.getD k []] := by rw [List.take_add_one, List.getD, List.getElem?_eq_getElem hk]; rfl
  rw [e, play_snoc]
/-- how many bytes some lines have, each with its end -/
def bytesL (l : List Txt) : Nat := (l.map (fun x => x.length + 1)).sum
theorem bytesL_step (l : List Txt) (k : Nat) (hk : k < l.length) : bytesL (l.take (k + 1)) = bytesL (l.take k) + ((l.getD k []).length + 1) := by
  have e : l.take (k + 1) = l.take k ++ [l.getD k []] := by rw [List.take_add_one, List.getD, List.getElem?_eq_getElem hk]; rfl
  unfold bytesL
  rw [e]
  simp
theorem bytesL_take (l : List Txt) : ∀ k, k ≤ l.length → bytesL (l.take k) + k ≤ bytesL l + k ∧ k ≤ bytesL (l.take k) := by
  intro k hk
  have e : bytesL l = bytesL (l.take k) + bytesL (l.drop k) := by
    unfold bytesL
    rw [← List.sum_append, ← List.map_append, List.take_append_drop]
  refine ⟨by omega, ?_⟩
  induction k with
  | zero => omega
  | succ k ih =>
    rw [bytesL_step l k (by omega)]
    have e : bytesL l = bytesL (l.take k) + bytesL (l.drop k) := by
      unfold bytesL
      rw [← List.sum_append, ← List.map_append, List.take_append_drop]
    have := ih (by omega) e
    omega
theorem cutB_sum (c : UInt8) (s : Txt) : bytesL (cutB c s) = s.length + 1 := by
  induction s with
  | nil => rfl
  | cons x r ih =>
    have e := cutB_cons c r
    simp only [cutB]
    split
    · show 0 + 1 + bytesL (cutB c r) = _
      rw [ih]; simp; omega
    · rw [e] at ih
      have h1 : bytesL ((cutB c r).headD [] :: (cutB c r).tail) = ((cutB c r).headD []).length + 1 + bytesL (cutB c r).tail := rfl
      rw [h1] at ih
      show (x :: (cutB c r).headD []).length + 1 + bytesL (cutB c r).tail = _
      simp at ih ⊢
      omega
/-- a line that makes a record has six bytes at least, with its end -/
theorem rl_recs {s : Txt} (h : fitsT s = true) (hw : wordT s = tAdd ∨ wordT s = tDrop) : 6 ≤ s.length + 1 := by
  have hs := cutB_sum 32 s
  have e := cutB_cons 32 s
  have h1 : bytesL (cutB 32 s) = (wordT s).length + 1 + bytesL (cutB 32 s).tail := by rw [e]; rfl
  have hn : 1 ≤ (cutB 32 s).tail.length := by
    have hl : (numsT s).length = (cutB 32 s).tail.length := by simp [numsT]
    rw [← hl]
    unfold fitsT at h
    simp only [Bool.and_eq_true] at h
    rcases hw with hw | hw
    · simpa [hw] using h.2
    · have := h.2
      rw [hw] at this
      have : (numsT s).length = 1 := by simpa [tAdd, tDrop, tIndex] using this
      omega
  have h3 : 3 ≤ (wordT s).length := by rcases hw with hw | hw <;> rw [hw] <;> decide
  cases ht : (cutB 32 s).tail with
  | nil => rw [ht] at hn; simp at hn
  | cons d r =>
    have hd : numOk d = true := by
      have hr : readT s = true := by
        unfold fitsT at h
        simp only [Bool.and_eq_true] at h
        exact h.1
      unfold readT at hr
      rw [ht] at hr
      exact List.all_eq_true.1 hr d (by simp)
    have hdl : 1 ≤ d.length := by
      cases d with
      | nil => simp [numOk] at hd
      | cons _ _ => simp
    have h4 : bytesL (d :: r) = d.length + 1 + bytesL r := rfl
    rw [ht, h4] at h1
    omega
end Ev
end Go.Proofs.YtpnmmmlckdkcdakGreatDoor

/- What the library's functions on texts make, in this development's own words: a text cut at a byte, in lines, in words, joined, a number's digits. No Go in it. -/
namespace Go.Proofs.YtpnmmmlckdkcdakGreatDoor.Ev
open Fr Ns Ld Fl
set_option linter.unusedSimpArgs false
set_option linter.unusedVariables false

theorem index_at {c : UInt8} {a r : Txt} (h : ∀ x ∈ a, x ≠ c) : Lib.index (a ++ c :: r) [c] = (a.length : Nat) := by
  induction a with
  | nil => simp [Lib.index, List.isPrefixOf]
  | cons x a ih =>
    have h1 : ¬ c = x := fun e => h x (by simp) e.symm
    rw [List.cons_append, Lib.index, if_neg (by simp [List.isPrefixOf, h1]), ih (fun y hy => h y (by simp [hy])), if_neg (by simp)]
    simp
theorem index_no {c : UInt8} {a : Txt} (h : ∀ x ∈ a, x ≠ c) : Lib.index a [c] = -1 := by
  induction a with
  | nil => simp [Lib.index]
  | cons x a ih =>
    have h1 : ¬ c = x := fun e => h x (by simp) e.symm
    rw [Lib.index, if_neg (by simp [List.isPrefixOf, h1]), ih (fun y hy => h y (by simp [hy])), if_pos (by simp)]
/-- a text has no such byte, or a first one -/
theorem byte_part (c : UInt8) (t : Txt) : (∀ x ∈ t, x ≠ c) ∨ ∃ a r, t = a ++ c :: r ∧ ∀ x ∈ a, x ≠ c := by
  induction t with
  | nil => exact .inl (by simp)
  | cons x t ih =>
    by_cases hx : x = c
    · exact .inr ⟨[], t, by simp [hx], by simp⟩
    · rcases ih with ih | ⟨a, r, rfl, ha⟩
      · refine .inl fun y hy => ?_
        rcases List.mem_cons.1 hy with rfl | hy
        · exact hx
        · exact ih y hy
      · refine .inr ⟨x :: a, r, rfl, fun y hy => ?_⟩
        rcases List.mem_cons.1 hy with rfl | hy
        · exact hx
        · exact ha y hy
theorem cut_at {c : UInt8} {a r : Txt} (h : ∀ x ∈ a, x ≠ c) : Lib.cut (a ++ c :: r) [c] = (a, r, true) := by
  unfold Lib.cut
  rw [index_at h, if_pos (by omega)]
  simp [List.drop_append]
theorem cut_no {c : UInt8} {a : Txt} (h : ∀ x ∈ a, x ≠ c) : Lib.cut a [c] = (a, [], false) := by
  unfold Lib.cut
  rw [index_no h, if_neg (by omega)]
/-- what is left behind k lines -/
def restT (t : Txt) : Nat → Txt
  | 0 => t
  | k + 1 => restT (Lib.cut t [10]).2.1 k
theorem restT_succ (t : Txt) (k : Nat) : restT t (k + 1) = (Lib.cut (restT t k) [10]).2.1 := by
  induction k generalizing t with
  | zero => rfl
  | succ k ih => exact ih (Lib.cut t [10]).2.1
theorem linesT_nil : linesT [] = [] := rfl
theorem linesT_at {a r : Txt} (h : ∀ x ∈ a, x ≠ 10) : linesT (a ++ 10 :: r) = a :: linesT r := by
  have e := cutB_at (r := r) h
  have hn := cutB_ne 10 r
  simp only [linesT, e]
  rw [List.getLast_cons hn]
  split
  · exact List.dropLast_cons_of_ne_nil hn
  · rfl
theorem linesT_no {a : Txt} (h : ∀ x ∈ a, x ≠ 10) (ha : a ≠ []) : linesT a = [a] := by
  have e := cutB_none h
  simp only [linesT, e]
  rw [if_neg (by simpa using ha)]
theorem lines_go (n : Nat) : ∀ t : Txt, t.length ≤ n → (∀ k, k < (linesT t).length → restT t k ≠ [] ∧ (Lib.cut (restT t k) [10]).1 = (linesT t).getD k []) ∧ restT t (linesT t).length = [] := by
  induction n with
  | zero =>
    intro t ht
    have : t = [] := List.eq_nil_of_length_eq_zero (by omega)
    subst this
    exact ⟨fun k hk => absurd hk (by simp [linesT_nil]), rfl⟩
  | succ n ih =>
    intro t ht
    by_cases h0 : t = []
    · subst h0
      exact ⟨fun k hk => absurd hk (by simp [linesT_nil]), rfl⟩
    · rcases byte_part 10 t with h | ⟨a, r, rfl, h⟩
      · rw [linesT_no h h0]
        refine ⟨fun k hk => ?_, ?_⟩
        · obtain rfl : k = 0 := by simpa using hk
          exact ⟨h0, by show (Lib.cut t [10]).1 = _; rw [cut_no h]; rfl⟩
        · show (Lib.cut t [10]).2.1 = []
          rw [cut_no h]
      · have e := cut_at (c := 10) (r := r) h
        obtain ⟨i1, i2⟩ := ih r (by simp at ht; omega)
        have ec : (Lib.cut (a ++ 10 :: r) [10]).2.1 = r := by rw [e]
        rw [linesT_at h]
        refine ⟨fun k hk => ?_, ?_⟩
        · cases k with
          | zero => exact ⟨h0, by show (Lib.cut (a ++ 10 :: r) [10]).1 = _; rw [e]; rfl⟩
          | succ k =>
            have := i1 k (by simpa using hk)
            show restT (Lib.cut (a ++ 10 :: r) [10]).2.1 k ≠ [] ∧ (Lib.cut (restT (Lib.cut (a ++ 10 :: r) [10]).2.1 k) [10]).1 = _
            rw [ec]
            exact this
        · show restT (Lib.cut (a ++ 10 :: r) [10]).2.1 (linesT r).length = []
          rw [ec]
          exact i2
theorem restT_len (t : Txt) (k : Nat) : (restT t k).length ≤ t.length := by
  induction k with
  | zero => exact Nat.le_refl _
  | succ k ih =>
    rw [restT_succ]
    refine Nat.le_trans ?_ ih
    rcases byte_part 10 (restT t k) with h | ⟨a, r, e, h⟩
    · rw [cut_no h]; simp
    · rw [e, cut_at h]; simp; omega
/-- how many bytes the lines ahead have, together with what is left -/
theorem lines_len (n : Nat) : ∀ t : Txt, t.length ≤ n → ((linesT t).map (fun l => l.length + 1)).sum ≤ t.length + 1 := by
  induction n with
  | zero =>
    intro t ht
    have : t = [] := List.eq_nil_of_length_eq_zero (by omega)
    subst this
    simp [linesT_nil]
  | succ n ih =>
    intro t ht
    by_cases h0 : t = []
    · subst h0; simp [linesT_nil]
    · rcases byte_part 10 t with h | ⟨a, r, rfl, h⟩
      · rw [linesT_no h h0]; simp
      · have := ih r (by simp at ht; omega)
        rw [linesT_at h]
        simp at this ⊢
        omega
/-- a text cut at each such byte, as the library does it -/
theorem split_cut (c : UInt8) (n : Nat) : ∀ s : Txt, s.length ≤ n → Lib.split s [c] = cutB c s := by
  induction n with
  | zero =>
    intro s hs
    have : s = [] := List.eq_nil_of_length_eq_zero (by omega)
    subst this
    have h := index_no (c := c) (a := []) (by simp)
    unfold Lib.split
    rw [Lib.count_miss h]; rfl
  | succ n ih =>
    intro s hs
    rcases byte_part c s with h | ⟨a, r, rfl, h⟩
    · have e := index_no h
      unfold Lib.split
      rw [Lib.count_miss e, cutB_none h]; rfl
    · have e := index_at (r := r) h
      have e2 : (a ++ c :: r).drop (a.length + [c].length) = r := by simp [List.drop_append]
      have hi := ih r (by simp at hs; omega)
      unfold Lib.split at hi ⊢
      rw [Lib.count_hit (by simp) e, e2, Nat.add_comm, Lib.splitK, if_neg (by rw [e]; simp), e, cutB_at h, ← hi]
      simp [List.drop_append, List.drop_of_length_le]
theorem split_words (s : Txt) : Lib.split s [32] = cutB 32 s := split_cut 32 _ s (Nat.le_refl _)
theorem join_words (l : List Txt) : Lib.join l [32] = joinT l := by
  induction l with
  | nil => rfl
  | cons a r ih =>
    cases r with
    | nil => exact Lib.join_one _ _
    | cons b r =>
      rw [Lib.join_cons] at ih ⊢
      show _ = a ++ 32 :: joinT (b :: r)
      rw [← ih]
      simp [Lib.joinTail]
theorem decDigits_digF (f : Nat) : ∀ u, u < 10 ^ (f + 1) → Lib.decDigits u = digF (f + 1) u := by
  induction f with
  | zero =>
    intro u h
    rw [Lib.decDigits, dif_pos (by simpa using h), digF, if_pos (by simpa using h)]
  | succ f ih =>
    intro u h
    by_cases h10 : u < 10
    · rw [Lib.decDigits, dif_pos h10, digF, if_pos h10]
    · have h2 : u / 10 < 10 ^ (f + 1) := by
        rw [Nat.pow_succ] at h
        exact Nat.div_lt_of_lt_mul (by omega)
      rw [Lib.decDigits, dif_neg h10, digF, if_neg h10, ih _ h2]
theorem itoa_dig {n : Int} (h0 : 0 ≤ n) (h : n ≤ 9223372036854775807) : Lib.itoa n = digT n := by
  unfold Lib.itoa digT
  rw [if_neg (by omega)]
  exact decDigits_digF 19 _ (Nat.lt_of_le_of_lt (show n.toNat ≤ 9223372036854775807 by omega) (by decide))
end Go.Proofs.YtpnmmmlckdkcdakGreatDoor.Ev

/- A region whose order Go leaves open, whose operations only read and whose calls make memory of their own alone: walked once, in the order of the text. -/
namespace Go.Proofs.YtpnmmmlckdkcdakGreatDoor
namespace Ev
open Go.RowKit

/-- a world later than W: all that was there in W is as it was -/
structure Lat (W : World) where
  u : World
  b : Below W.heap.size W u
theorem wp_region_lat {P : Program} {id : Nat} {Q : Exit → Act → World → Prop} {a : Act} {w : World} {l : List Oper} (hm : P.follows .mixedOrders = true) (hB : Region.lexB .any l.toArray = true)
    (h : wpQuiet P l.toArray (fun u => ∃ x : Lat w, u = x.u) (fun a' => ∀ w', (∃ x : Lat w, w' = x.u) → Q .normal a' w') l a) : (Code.region id l.toArray true).wp P Q a w :=
  wp_region_quiet (C := fun u => ∃ x : Lat w, u = x.u) hm hB ⟨⟨w.drew, (Below.refl _ _).drew⟩, rfl⟩ (by simpa using h)
theorem lat_of {P : Program} {f : FuncId} {args : Array Value} {W : World} {x : Lat W} {v : Value} (h : Calls P f args x.u fun e w' => e = .returned v ∧ Below x.u.heap.size x.u w') : Calls P f args x.u fun e w'' => e = .returned v ∧ ∃ y : Lat W, w'' = y.u :=
  h.mono fun _ w' ⟨he, hb⟩ => ⟨he, ⟨w', x.b.trans (hb.mono x.b.size)⟩, rfl⟩
theorem Lat.cell {W : World} (x : Lat W) {a : Addr} {v : Value} (h : W.cell? a = some v) : x.u.cell? a = some v := cell_later x.b h
end Ev
end Go.Proofs.YtpnmmmlckdkcdakGreatDoor

/- Slices of fractions: what a walk is told of them; and package fairsame's Fracs. -/
namespace Go.Proofs.YtpnmmmlckdkcdakGreatDoor
namespace Ld
open Go.RowKit Fr Ns
set_option linter.unusedSimpArgs false
set_option linter.unusedVariables false

/-- the slice v holds the fractions l in the world w, in a block of which Q holds -/
def FracsAt (Q : Nat → Prop) (w : World) (v : Value) (l : List (Int × Int)) : Prop :=
  ∃ a cap, v = .slice a l.length cap ∧ (l.length ≤ cap ∧ l.length ≤ 9223372036854775807) ∧
    (l = [] ∨ ∃ b off, a = some ⟨b, off, none⟩ ∧ (∀ i, i < l.length → w.cell? ⟨b, off + i * 2, none⟩ = some (.int .i64 (l.getD i (0, 0)).1) ∧ w.cell? ⟨b, off + i * 2 + 1, none⟩ = some (.int .i64 (l.getD i (0, 0)).2)) ∧ Q b)

theorem FracsAt.later {Q : Nat → Prop} {w w' : World} {v : Value} {l : List (Int × Int)} (hb : Below w.heap.size w w') (h : FracsAt Q w v l) : FracsAt Q w' v l := by
  obtain ⟨a, cap, rfl, hm, h⟩ := h
  refine ⟨a, cap, rfl, hm, ?_⟩
  rcases h with h | ⟨b, off, rfl, h, hQ⟩
  · exact .inl h
  · exact .inr ⟨b, off, rfl, fun i hi => ⟨cell_later hb (h i hi).1, cell_later hb (h i hi).2⟩, hQ⟩
theorem FracsAt.keep {Q R : Nat → Prop} {w w' : World} {v : Value} {l : List (Int × Int)} (hk : ∀ b, Q b → b < w.heap.size → w'.heap[b]? = w.heap[b]?) (hQR : ∀ b, Q b → b < w.heap.size → R b) (h : FracsAt Q w v l) : FracsAt R w' v l := by
  obtain ⟨a, cap, rfl, hm, h⟩ := h
  refine ⟨a, cap, rfl, hm, ?_⟩
  rcases h with h | ⟨b, off, rfl, h, hQ⟩
  · exact .inl h
  · by_cases hl : l = []
    · exact .inl hl
    · have hb : b < w.heap.size := World.block_lt_of_cell? _ _ (h 0 (List.length_pos_iff.2 hl)).1
      refine .inr ⟨b, off, rfl, fun i hi => ?_, hQR b hQ hb⟩
      rw [World.cell?_of_block (w := w) (a := ⟨b, off + i * 2, none⟩) (hk b hQ hb), World.cell?_of_block (w := w) (a := ⟨b, off + i * 2 + 1, none⟩) (hk b hQ hb)]
      exact h i hi
theorem FracsAt.shape {Q : Nat → Prop} {w : World} {v : Value} {l : List (Int × Int)} (h : FracsAt Q w v l) : ∃ a n k, v = .slice a n k := by
  obtain ⟨_, _, rfl, _⟩ := h
  exact ⟨_, _, _, rfl⟩
theorem fracs_nil (Q : Nat → Prop) (w : World) : FracsAt Q w (.slice none 0 0) [] := ⟨none, 0, rfl, ⟨Nat.le_refl _, by simp⟩, .inl rfl⟩

theorem cell_set2 {w : World} {g : Nat} {x y z z' : Value} (h0 : w.cell? ⟨g, 0, none⟩ = some z) (h1 : w.cell? ⟨g, 1, none⟩ = some z') :
    ((w.setCell ⟨g, 0, none⟩ x).setCell ⟨g, 1, none⟩ y).cell? ⟨g, 0, none⟩ = some x ∧ ((w.setCell ⟨g, 0, none⟩ x).setCell ⟨g, 1, none⟩ y).cell? ⟨g, 1, none⟩ = some y := by
  constructor <;> go_simp
theorem infoFrac : (Tryz.prog.info? 58).map (fun i => (i.zero, i.size, i.bytes)) = some (some (.agg #[.int .i64 0, .int .i64 0]), 2, 16) := by kernel_rfl

/-- the cells of a row of fractions -/
def flat : List (Int × Int) → List Value
  | [] => []
  | a :: r => .int .i64 a.1 :: .int .i64 a.2 :: flat r
theorem flat_length (l : List (Int × Int)) : (flat l).length = l.length * 2 := by
  induction l with
  | nil => rfl
  | cons a r ih => simp [flat, ih]; omega
theorem flat_append (l m : List (Int × Int)) : flat (l ++ m) = flat l ++ flat m := by
  induction l with
  | nil => rfl
  | cons a r ih => simp [flat, ih]
theorem flat_at : ∀ (l : List (Int × Int)) (i : Nat), i < l.length → (flat l)[i * 2]? = some (.int .i64 (l.getD i (0, 0)).1) ∧ (flat l)[i * 2 + 1]? = some (.int .i64 (l.getD i (0, 0)).2) := by
  intro l
  induction l with
  | nil => intro i h; simp at h
  | cons a r ih =>
    intro i h
    cases i with
    | zero => simp [flat]
    | succ i =>
      have := ih i (by simpa using h)
      rw [show (i + 1) * 2 = i * 2 + 1 + 1 by omega]
      simpa [flat] using this
/-- a row of fractions that the call owns is a list -/
theorem fracs_of_owns {Q : Nat → Prop} {w : World} {base : Nat} {v : Value} {l : List (Int × Int)} (hl : l.length ≤ 9223372036854775807) (h : w.ownsRow base 58 2 v l.length (flat l)) (hQ : ∀ g, base ≤ g → Q g) : FracsAt Q w v l := by
  have h' := h
  obtain ⟨h0, h⟩ := h
  rcases h with ⟨rfl, h⟩ | ⟨g, cap, cur, rfl, hb, hg, hc, hm, hs, ht⟩
  · have : l = [] := List.eq_nil_of_length_eq_zero h
    subst this
    exact fracs_nil _ _
  · refine ⟨_, cap, rfl, ⟨hc, hl⟩, .inr ⟨g, 0, rfl, fun i hi => ?_, hQ g hb⟩⟩
    have e := flat_at l i hi
    have c1 := h'.cells (g := g) rfl (i * 2) _ e.1
    have c2 := h'.cells (g := g) rfl (i * 2 + 1) _ e.2
    rw [add_addr] at c1 c2
    exact ⟨c1, by rw [Nat.add_assoc]; exact c2⟩
/-- the two cells of a fraction that is appended -/
theorem news_two (w : World) (x y : Value) (T : TypeId) : ∀ j u, [x, y][j]? = some u → (w.alloc (.cells #[x, y] T)).cell? ((⟨w.heap.size, 0, none⟩ : Addr).add j) = some u := by
  intro j u hj
  match j, hj with
  | 0, hj => simp at hj; subst hj; simp [Addr.add]
  | 1, hj => simp at hj; subst hj; simp [Addr.add]
theorem ones_two (a b : Int) : ∀ u ∈ [Value.int .i64 a, Value.int .i64 b], u.oneCell' = true := by
  intro u hu
  simp at hu
  rcases hu with rfl | rfl <;> rfl
end Ld
end Go.Proofs.YtpnmmmlckdkcdakGreatDoor

/- A call that changes memory of its thing's own alone. -/
namespace Go.Proofs.YtpnmmmlckdkcdakGreatDoor
namespace Ev
open Go.RowKit
set_option linter.unusedVariables false

/-- but in some blocks the memory is as it was -/
def ButIn (F : Nat → Prop) (w w' : World) : Prop := Below 0 w w' ∧ ∀ b, b < w.heap.size → ¬ F b → w'.heap[b]? = w.heap[b]?
theorem ButIn.below {F : Nat → Prop} {w w' : World} {B : Nat} (h : ButIn F w w') (hF : ∀ b, F b → B ≤ b) (hB : B ≤ w.heap.size) : Below B w w' :=
  ⟨h.1.os, h.1.tape, h.1.output, h.1.size, fun k hk => h.2 k (by omega) (fun hf => by have := hF k hf; omega)⟩
theorem ButIn.of_below {F : Nat → Prop} {w w' : World} (h : Below w.heap.size w w') : ButIn F w w' := ⟨h.mono (Nat.zero_le _), fun b hb _ => h.block b hb⟩
theorem ButIn.refl (F : Nat → Prop) (w : World) : ButIn F w w := ⟨Below.refl _ _, fun _ _ _ => rfl⟩
end Ev
end Go.Proofs.YtpnmmmlckdkcdakGreatDoor

/- A log as package log has it: what the laws are told of it. -/
namespace Go.Proofs.YtpnmmmlckdkcdakGreatDoor
namespace Ev
open Go.RowKit Ns
set_option linter.unusedSimpArgs false
set_option linter.unusedVariables false

/-- a log as package log has it: what of the memory is its own only the package knows -/
structure LogFace where
  Inv : World → Value → (Nat → Prop) → LogS → Prop
  lt : ∀ {w p F s}, Inv w p F s → ∀ b, F b → b < w.heap.size
  keep : ∀ {w w' p F s}, Inv w p F s → (∀ b, F b → w'.heap[b]? = w.heap[b]?) → Inv w' p F s
  ptr : ∀ {w p F s}, Inv w p F s → ∃ a, p = .pointer (some a)
theorem LogFace.later (X : LogFace) {w w' : World} {p : Value} {F : Nat → Prop} {s : LogS} (hb : Below w.heap.size w w') (h : X.Inv w p F s) : X.Inv w' p F s := X.keep h (fun b hb' => hb.block b (X.lt h b hb'))
/-- what a call on a log leaves: the log then, no memory changed but the log's own -/
def MovedL (X : LogFace) (p : Value) (F : Nat → Prop) (s' : LogS) (w w' : World) : Prop := ∃ F', X.Inv w' p F' s' ∧ (∀ b, F' b → F b ∨ w.heap.size ≤ b) ∧ ButIn F w w'
/-- not too many records for any machine -/
def FewL (s : LogS) : Prop := LogOk s ∧ s.marks.length ≤ 1000
end Ev
end Go.Proofs.YtpnmmmlckdkcdakGreatDoor

/- What is asked of package log's New, as the document says it. -/
namespace Go.Proofs.YtpnmmmlckdkcdakGreatDoor
namespace Ev
open Go.RowKit Fr Ns
/-- what New hands out -/
def MadeL (X : LogFace) (caps : List Int) (w w' : World) (e : Ending) : Prop :=
  ∃ p, e = .returned (.tuple #[p, errV (linksE caps)]) ∧ (∃ a, p = .pointer a) ∧ (linksE caps = 0 → ∃ F, X.Inv w' p F (log0 caps) ∧ ∀ b, F b → w.heap.size ≤ b) ∧ Below w.heap.size w w'
def LNewSaid (X : LogFace) : Prop := ∀ (Q : Nat → Prop) (caps : List Int) (v : Value) (w : World), IntsAt Q w v caps →
  Calls Tryz.prog 8 #[v] w fun e w' => MadeL X caps w w' e
end Ev
end Go.Proofs.YtpnmmmlckdkcdakGreatDoor

/- What is asked of the calls that change a log, as the document says it. -/
namespace Go.Proofs.YtpnmmmlckdkcdakGreatDoor
namespace Ev
open Go.RowKit Fr Ns
def LAddSaid (X : LogFace) : Prop := ∀ (Q : Nat → Prop) (p : Value) (F : Nat → Prop) (s : LogS) (path : List Int) (v : Value) (w : World), X.Inv w p F s → FewL s → IntsAt Q w v path → (∀ b, Q b → ¬ F b) →
  Calls Tryz.prog 10 #[p, v] w fun e w' => ∃ n, e = .returned (errV (addLE s path)) ∧ 2 ≤ n ∧ n ≤ 1000 ∧ MovedL X p F (addLS s path n) w w'
def LDropSaid (X : LogFace) : Prop := ∀ (p : Value) (F : Nat → Prop) (s : LogS) (i : Int) (w : World), X.Inv w p F s → FewL s →
  Calls Tryz.prog 9 #[p, .int .i64 i] w fun e w' => ∃ n, e = .returned (errV (dropLE s i)) ∧ 2 ≤ n ∧ n ≤ 1000 ∧ MovedL X p F (dropLS s i n) w w'
def LSyncSaid (X : LogFace) : Prop := ∀ (p : Value) (F : Nat → Prop) (s : LogS) (w : World), X.Inv w p F s → FewL s →
  Calls Tryz.prog 11 #[p] w fun e w' => e = .returned (errV (syncE s)) ∧ MovedL X p F (syncS s) w w'
def LCrashSaid (X : LogFace) : Prop := ∀ (p : Value) (F : Nat → Prop) (s : LogS) (keep : Int) (w : World), X.Inv w p F s → FewL s →
  Calls Tryz.prog 12 #[p, .int .i64 keep] w fun e w' => e = .returned (.tuple #[]) ∧ MovedL X p F (crashS s keep) w w'
end Ev
end Go.Proofs.YtpnmmmlckdkcdakGreatDoor

/- What is asked of the calls that read a log, as the document says it. -/
namespace Go.Proofs.YtpnmmmlckdkcdakGreatDoor
namespace Ev
open Go.RowKit Fr Ns
def LPathsSaid (X : LogFace) : Prop := ∀ (p : Value) (F : Nat → Prop) (s : LogS) (w : World), X.Inv w p F s → FewL s →
  Calls Tryz.prog 13 #[p] w fun e w' => ∃ y, e = .returned y ∧ ListsAt (fun b => w.heap.size ≤ b) w' y s.flows ∧ Below w.heap.size w w'
def LBytesSaid (X : LogFace) : Prop := ∀ (p : Value) (F : Nat → Prop) (s : LogS) (w : World), X.Inv w p F s → FewL s →
  Calls Tryz.prog 219 #[p] w fun e w' => e = .returned (.int .i64 s.bytes) ∧ ∃ n, w' = w.drewN n
end Ev
end Go.Proofs.YtpnmmmlckdkcdakGreatDoor

/- A log that package log has made, call by call: what the laws are told of it. -/
namespace Go.Proofs.YtpnmmmlckdkcdakGreatDoor
namespace Ev
open Go.RowKit Fr Ns
set_option linter.unusedSimpArgs false
set_option linter.unusedVariables false

theorem putS_marks (s : LogS) (n : Nat) (f : Flows) : (putS s n f).marks.length ≤ s.marks.length + 1 := by
  unfold putS
  split
  · exact Nat.le_succ _
  · simp
theorem addLS_marks (s : LogS) (p : List Int) (n : Nat) : (addLS s p n).marks.length ≤ s.marks.length + 1 := by
  unfold addLS
  split
  · exact putS_marks _ _ _
  · exact Nat.le_succ _
theorem dropLS_marks (s : LogS) (i : Int) (n : Nat) : (dropLS s i n).marks.length ≤ s.marks.length + 1 := by
  unfold dropLS
  split
  · exact putS_marks _ _ _
  · exact Nat.le_succ _
theorem syncS_marks (s : LogS) : (syncS s).marks = s.marks := by
  unfold syncS
  split
  · rfl
  · split <;> rfl
theorem crashS_marks (s : LogS) (k : Int) : (crashS s k).marks.length ≤ s.marks.length := by
  show (s.marks.take _).length ≤ _
  rw [List.length_take]; omega
/-- the log s at a, in memory from w's end on; but for that w is as it was; at most m records, and the beginning -/
def LogAt (X : LogFace) (w : World) (a : Addr) (m : Nat) (s : LogS) (u : World) : Prop :=
  ∃ F, X.Inv u (.pointer (some a)) F s ∧ LogOk s ∧ s.marks.length ≤ m ∧ (∀ b, F b → w.heap.size ≤ b) ∧ Below w.heap.size w u
theorem LogAt.later {X : LogFace} {w u u' : World} {a : Addr} {m : Nat} {s : LogS} (h : LogAt X w a m s u) (hb : Below u.heap.size u u') : LogAt X w a m s u' := by
  obtain ⟨F, h1, h2, h3, h4, h5⟩ := h
  exact ⟨F, X.later hb h1, h2, h3, h4, Bel.call h5 (Nat.le_refl _) hb⟩
theorem LogAt.below {X : LogFace} {w u : World} {a : Addr} {m : Nat} {s : LogS} (h : LogAt X w a m s u) : Below w.heap.size w u := h.choose_spec.2.2.2.2
theorem LogAt.ok {X : LogFace} {w u : World} {a : Addr} {m : Nat} {s : LogS} (h : LogAt X w a m s u) : LogOk s := h.choose_spec.2.1
theorem LogAt.up {X : LogFace} {w u : World} {a : Addr} {m m' : Nat} {s : LogS} (h : LogAt X w a m s u) (hm : m ≤ m') : LogAt X w a m' s u := by
  obtain ⟨F, h1, h2, h3, h4, h5⟩ := h
  exact ⟨F, h1, h2, by omega, h4, h5⟩
theorem moved_at {X : LogFace} {w u w' : World} {a : Addr} {m : Nat} {s' : LogS} {F : Nat → Prop} (hF : ∀ b, F b → w.heap.size ≤ b) (hb : Below w.heap.size w u) (hm : MovedL X (.pointer (some a)) F s' u w') (hok : LogOk s') (hl : s'.marks.length ≤ m) : LogAt X w a m s' w' := by
  obtain ⟨F', hi, hF', hbut⟩ := hm
  have hs := hb.size
  refine ⟨F', hi, hok, hl, fun b hb' => ?_, hb.trans (hbut.below hF hs)⟩
  rcases hF' b hb' with h | h
  · exact hF b h
  · omega
theorem made_logAt {X : LogFace} {caps : List Int} (hc : linksE caps = 0) {w u : World} (hb : Below w.heap.size w u) : ∀ e w', MadeL X caps u w' e → ∃ a, e = .returned (.tuple #[.pointer (some a), .nilIface]) ∧ LogAt X w a 1 (log0 caps) w' := fun e w' ⟨p, h1, _, h2, h3⟩ => by
  obtain ⟨F, hi, hF⟩ := h2 hc
  obtain ⟨a, rfl⟩ := X.ptr hi
  rw [hc, errV_0] at h1
  have hs := hb.size
  exact ⟨a, h1, F, hi, log0_ok hc, by simp [log0], fun b hb' => by have := hF b hb'; omega, Bel.call hb (Nat.le_refl _) h3⟩
theorem made_logBad {X : LogFace} {caps : List Int} (hc : linksE caps ≠ 0) {u : World} : ∀ e w', MadeL X caps u w' e → ∃ a, e = .returned (.tuple #[.pointer a, .iface 65 (.int .i64 (linksE caps))]) ∧ Below u.heap.size u w' := fun e w' ⟨p, h1, ⟨a, h2⟩, _, h3⟩ => by
  rw [errV_ne hc, h2] at h1
  exact ⟨a, h1, h3⟩
/-- Add of a list in memory that is none of the log's -/
theorem add_at {X : LogFace} (hA : LAddSaid X) {w u u1 : World} {a : Addr} {m : Nat} {s : LogS} {path : List Int} {v : Value} {Q : Nat → Prop} (h : LogAt X w a m s u) (hu : Below u.heap.size u u1) (hv : IntsAt Q u1 v path) (hQ : ∀ b, Q b → u.heap.size ≤ b ∨ b < w.heap.size) (hm : m ≤ 1000) :
    Calls Tryz.prog 10 #[.pointer (some a), v] u1 fun e w' => ∃ n, e = .returned (errV (addLE s path)) ∧ LogAt X w a (m + 1) (addLS s path n) w' := by
  obtain ⟨F, h1, h2, h3, h4, h5⟩ := h
  have hb1 : Below w.heap.size w u1 := Bel.call h5 (Nat.le_refl _) hu
  refine (hA Q _ F s path v u1 (X.later hu h1) ⟨h2, by omega⟩ hv (fun b hb hF => ?_)).mono ?_
  · rcases hQ b hb with h | h
    · have := X.lt h1 b hF; omega
    · have := h4 b hF; omega
  · rintro e w' ⟨n, he, n2, n3, hmv⟩
    exact ⟨n, he, moved_at h4 hb1 hmv (addLS_ok h2 n2 n3) (by have := addLS_marks s path n; omega)⟩
theorem drop_at {X : LogFace} (hD : LDropSaid X) {w u : World} {a : Addr} {m : Nat} {s : LogS} (i : Int) (h : LogAt X w a m s u) (hm : m ≤ 1000) :
    Calls Tryz.prog 9 #[.pointer (some a), .int .i64 i] u fun e w' => ∃ n, e = .returned (errV (dropLE s i)) ∧ LogAt X w a (m + 1) (dropLS s i n) w' := by
  obtain ⟨F, h1, h2, h3, h4, h5⟩ := h
  refine (hD _ F s i u h1 ⟨h2, by omega⟩).mono ?_
  rintro e w' ⟨n, he, n2, n3, hmv⟩
  exact ⟨n, he, moved_at h4 h5 hmv (dropLS_ok h2 n2 n3) (by have := dropLS_marks s i n; omega)⟩
theorem sync_at {X : LogFace} (hS : LSyncSaid X) {w u : World} {a : Addr} {m : Nat} {s : LogS} (h : LogAt X w a m s u) (hm : m ≤ 1000) :
    Calls Tryz.prog 11 #[.pointer (some a)] u fun e w' => e = .returned (errV (syncE s)) ∧ LogAt X w a m (syncS s) w' := by
  obtain ⟨F, h1, h2, h3, h4, h5⟩ := h
  refine (hS _ F s u h1 ⟨h2, by omega⟩).mono ?_
  rintro e w' ⟨he, hmv⟩
  exact ⟨he, moved_at h4 h5 hmv (syncS_ok h2) (by rw [syncS_marks]; exact h3)⟩
theorem crash_at {X : LogFace} (hC : LCrashSaid X) {w u : World} {a : Addr} {m : Nat} {s : LogS} (keep : Int) (h : LogAt X w a m s u) (hm : m ≤ 1000) :
    Calls Tryz.prog 12 #[.pointer (some a), .int .i64 keep] u fun e w' => e = .returned (.tuple #[]) ∧ LogAt X w a m (crashS s keep) w' := by
  obtain ⟨F, h1, h2, h3, h4, h5⟩ := h
  refine (hC _ F s keep u h1 ⟨h2, by omega⟩).mono ?_
  rintro e w' ⟨he, hmv⟩
  exact ⟨he, moved_at h4 h5 hmv (crashS_ok h2) (by have := crashS_marks s keep; omega)⟩
theorem paths_at {X : LogFace} (hP : LPathsSaid X) {w u : World} {a : Addr} {m : Nat} {s : LogS} (h : LogAt X w a m s u) (hm : m ≤ 1000) :
    Calls Tryz.prog 13 #[.pointer (some a)] u fun e w' => ∃ y, e = .returned y ∧ ListsAt (fun b => u.heap.size ≤ b) w' y s.flows ∧ LogAt X w a m s w' ∧ Below u.heap.size u w' := by
  obtain ⟨F, h1, h2, h3, h4, h5⟩ := id h
  refine (hP _ F s u h1 ⟨h2, by omega⟩).mono ?_
  rintro e w' ⟨y, he, hy, hb⟩
  exact ⟨y, he, hy, h.later hb, hb⟩
theorem bytes_at {X : LogFace} (hB : LBytesSaid X) {w u : World} {a : Addr} {m : Nat} {s : LogS} (h : LogAt X w a m s u) (hm : m ≤ 1000) :
    Calls Tryz.prog 219 #[.pointer (some a)] u fun e w' => e = .returned (.int .i64 s.bytes) ∧ ∃ n, w' = u.drewN n := by
  obtain ⟨F, h1, h2, h3, h4, h5⟩ := h
  exact hB _ F s u h1 ⟨h2, by omega⟩
end Ev
end Go.Proofs.YtpnmmmlckdkcdakGreatDoor

/- What is asked of a log's Rates, as the document says it. -/
namespace Go.Proofs.YtpnmmmlckdkcdakGreatDoor
namespace Ev
open Go.RowKit Fr Ns Ld Fl
def ratesLE (f : Flows) : Int := if f.length = 0 then 5 else 0
def LRatesSaid (X : LogFace) : Prop := ∀ (p : Value) (F : Nat → Prop) (s : LogS) (w : World), X.Inv w p F s → FewL s →
  Calls Tryz.prog 14 #[p] w fun e w' => ∃ y, e = .returned (.tuple #[y, errV (ratesLE s.flows)]) ∧
    FracsAt (fun b => w.heap.size ≤ b) w' y (okL (ratesLE s.flows) (fill s.caps s.flows).1) ∧ Below w.heap.size w w'
end Ev
end Go.Proofs.YtpnmmmlckdkcdakGreatDoor

/- A log as a session has it: never told to stop, over the session's links, with few records. From the contracts of package log alone. -/
namespace Go.Proofs.YtpnmmmlckdkcdakGreatDoor
namespace Ev
open Go.RowKit Fr Ns Ld Fl
set_option linter.unusedSimpArgs false
set_option linter.unusedVariables false

/-- the log at p has these flows, and no more than k records -/
def DeskAt (X : LogFace) (u : World) (p : Value) (F : Nat → Prop) (f : Flows) (k : Nat) : Prop :=
  ∃ s, X.Inv u p F s ∧ LogOk s ∧ s.marks.length ≤ k + 1 ∧ s.flows = f ∧ s.caps = capsR ∧ s.stopped = false ∧ s.left = -1
/-- what a call leaves of it -/
def DeskTo (X : LogFace) (p : Value) (F : Nat → Prop) (f : Flows) (k : Nat) (u w' : World) : Prop := ∃ F', DeskAt X w' p F' f k ∧ (∀ b, F' b → F b ∨ u.heap.size ≤ b) ∧ ButIn F u w'
section
variable {X : LogFace} {u u' : World} {p v : Value} {F Q : Nat → Prop} {f : Flows} {k : Nat} {l : List Int}
theorem DeskAt.lt (h : DeskAt X u p F f k) : ∀ b, F b → b < u.heap.size := by obtain ⟨s, h, _⟩ := h; exact X.lt h
theorem DeskAt.keep (h : DeskAt X u p F f k) (hk : ∀ b, F b → u'.heap[b]? = u.heap[b]?) : DeskAt X u' p F f k := by
  obtain ⟨s, h, r⟩ := h
  exact ⟨s, X.keep h hk, r⟩
theorem DeskAt.later (h : DeskAt X u p F f k) (hb : Below u.heap.size u u') : DeskAt X u' p F f k := h.keep (fun b hb' => hb.block b (h.lt b hb'))
theorem DeskAt.more (h : DeskAt X u p F f k) {j : Nat} (hj : k ≤ j) : DeskAt X u p F f j := by
  obtain ⟨s, h1, h2, h3, r⟩ := h
  exact ⟨s, h1, h2, by omega, r⟩
theorem DeskAt.ptr (h : DeskAt X u p F f k) : ∃ a, p = .pointer (some a) := by obtain ⟨s, h, _⟩ := h; exact X.ptr h
theorem DeskAt.right (h : DeskAt X u p F f k) : f.length ≤ 6 ∧ ∀ x ∈ f, pathE 4 x = 0 := by
  obtain ⟨s, _, h2, _, rfl, h5, _⟩ := h
  have := h2.flows_right
  rw [h5] at this
  exact this
theorem capsR_right : linksE capsR = 0 := by decide
theorem log0_desk {w' : World} (h : X.Inv w' p F (log0 capsR)) : DeskAt X w' p F [] 0 := ⟨_, h, log0_ok capsR_right, by simp [log0], rfl, rfl, rfl, rfl⟩
theorem desk_new (hN : LNewSaid X) {w : World} (hv : IntsAt Q w v capsR) :
    Calls Tryz.prog 8 #[v] w fun e w' => ∃ a F, e = .returned (.tuple #[.pointer (some a), .nilIface]) ∧ DeskAt X w' (.pointer (some a)) F [] 0 ∧ (∀ b, F b → w.heap.size ≤ b) ∧ Below w.heap.size w w' := by
  refine (hN Q capsR v w hv).mono ?_
  rintro e w' ⟨p, rfl, _, h, hb⟩
  obtain ⟨F, hi, hF⟩ := h capsR_right
  obtain ⟨a, rfl⟩ := X.ptr hi
  exact ⟨a, F, by rw [capsR_right, errV_0], log0_desk hi, hF, hb⟩
theorem desk_put {s : LogS} (n : Nat) (g : Flows) (hs : s.left = -1) (hst : s.stopped = false) (hc : s.caps = capsR) : (putS s n g).flows = g ∧ (putS s n g).caps = capsR ∧ (putS s n g).stopped = false ∧ (putS s n g).left = -1 := by
  unfold putS
  rw [if_neg (by omega)]
  exact ⟨flowsL_snoc _ _, hc, hst, by show (if 0 < s.left then s.left - 1 else s.left) = -1; rw [if_neg (by omega)]; exact hs⟩
theorem desk_add (hA : LAddSaid X) (h : DeskAt X u p F f k) (hk : k < 999) (hv : IntsAt Q u v l) (hQ : ∀ b, Q b → ¬ F b) :
    Calls Tryz.prog 10 #[p, v] u fun e w' => e = .returned (errV (addR f l)) ∧ DeskTo X p F (if addR f l = 0 then f ++ [l] else f) (k + 1) u w' := by
  obtain ⟨s, h1, h2, h3, rfl, h5, h6, h7⟩ := h
  refine (hA Q p F s l v u h1 ⟨h2, by omega⟩ hv hQ).mono ?_
  rintro e w' ⟨n, rfl, n2, n3, F', m1, m2, m3⟩
  have e0 : addF s l = addR s.flows l := by unfold addF addR; rw [h6, h5]; rfl
  have e1 : addLE s l = addR s.flows l := by
    unfold addLE lastE
    rw [e0]
    split
    · rename_i hz; rw [if_neg (by omega), hz]
    · rfl
  refine ⟨by rw [e1], F', ⟨_, m1, addLS_ok h2 n2 n3, by have := addLS_marks s l n; omega, ?_⟩, m2, m3⟩
  by_cases hz : addR s.flows l = 0
  · have e2 : addLS s l n = putS s n (s.flows ++ [l]) := by unfold addLS; rw [e0, if_pos hz]
    obtain ⟨p1, p2, p3, p4⟩ := desk_put n (s.flows ++ [l]) h7 h6 h5
    rw [e2, if_pos hz]
    exact ⟨p1, p2, p3, p4⟩
  · have e2 : addLS s l n = s := by unfold addLS; rw [e0, if_neg hz]
    rw [e2, if_neg hz]
    exact ⟨rfl, h5, h6, h7⟩
theorem desk_drop (hD : LDropSaid X) {i : Int} (h : DeskAt X u p F f k) (hk : k < 999) (hi : 0 ≤ i) :
    Calls Tryz.prog 9 #[p, .int .i64 i] u fun e w' => e = .returned (errV (dropR f [i])) ∧ DeskTo X p F (if dropR f [i] = 0 then lessF f i else f) (k + 1) u w' := by
  obtain ⟨s, h1, h2, h3, rfl, h5, h6, h7⟩ := h
  refine (hD p F s i u h1 ⟨h2, by omega⟩).mono ?_
  rintro e w' ⟨n, rfl, n2, n3, F', m1, m2, m3⟩
  have e0 : dropF s i = dropR s.flows [i] := by
    unfold dropF dropR
    rw [h6, if_neg (by simp)]
    show (if i < 0 ∨ (s.flows.length : Int) ≤ i then (1 : Int) else 0) = if (s.flows.length : Int) ≤ i then 1 else 0
    by_cases hq : (s.flows.length : Int) ≤ i
    · rw [if_pos (.inr hq), if_pos hq]
    · rw [if_neg (by omega), if_neg hq]
  have e1 : dropLE s i = dropR s.flows [i] := by
    unfold dropLE lastE
    rw [e0]
    split
    · rename_i hz; rw [if_neg (by omega), hz]
    · rfl
  refine ⟨by rw [e1], F', ⟨_, m1, dropLS_ok h2 n2 n3, by have := dropLS_marks s i n; omega, ?_⟩, m2, m3⟩
  by_cases hz : dropR s.flows [i] = 0
  · have e2 : dropLS s i n = putS s n (lessF s.flows i) := by unfold dropLS; rw [e0, if_pos hz]
    obtain ⟨p1, p2, p3, p4⟩ := desk_put n (lessF s.flows i) h7 h6 h5
    rw [e2, if_pos hz]
    exact ⟨p1, p2, p3, p4⟩
  · have e2 : dropLS s i n = s := by unfold dropLS; rw [e0, if_neg hz]
    rw [e2, if_neg hz]
    exact ⟨rfl, h5, h6, h7⟩
theorem desk_rates (hR : LRatesSaid X) (h : DeskAt X u p F f k) (hk : k < 999) :
    Calls Tryz.prog 14 #[p] u fun e w' => ∃ y, e = .returned (.tuple #[y, errV (ratesLE f)]) ∧ FracsAt (fun b => u.heap.size ≤ b) w' y (okL (ratesLE f) (ratesR f)) ∧ Below u.heap.size u w' := by
  obtain ⟨s, h1, h2, h3, rfl, h5, h6, h7⟩ := h
  have := hR p F s u h1 ⟨h2, by omega⟩
  rw [h5] at this
  exact this
end
end Ev
end Go.Proofs.YtpnmmmlckdkcdakGreatDoor

/- The records of the landed log: what bytes an Add and a Drop write down, and what is found among them again. No Go in it. -/
namespace Go.Proofs.YtpnmmmlckdkcdakGreatDoor.Ev
open Ns
set_option linter.unusedSimpArgs false
set_option linter.unusedVariables false

/-- a record: its first byte tells how many are behind it (0: one) -/
def RecR (r : List Nat) : Prop := 2 ≤ r.length ∧ r.length = 1 + max (r.getD 0 0) 1 ∧ r.length ≤ 7 ∧ ∀ x ∈ r, x ≤ 255
/-- what a record makes of the flows -/
def recStep (f : Flows) (r : List Nat) : Flows := if r.getD 0 0 = 0 then lessF f (r.getD 1 0 : Nat) else f ++ [(r.drop 1).map fun (x : Nat) => (x : Int)]
def doneR (f : Flows) : List (List Nat) → List Flows
  | [] => [f]
  | r :: rs => f :: doneR (recStep f r) rs
def marksR (p : Nat) : List (List Nat) → List Nat
  | [] => [p]
  | r :: rs => p :: marksR (p + r.length) rs
/-- a record may stand behind these flows -/
def MayR (f : Flows) (r : List Nat) : Prop := RecR r ∧ (r.getD 0 0 = 0 → r.getD 1 0 < f.length) ∧ (r.getD 0 0 ≠ 0 → f.length < 6)
def AllR (f : Flows) : List (List Nat) → Prop
  | [] => True
  | r :: rs => MayR f r ∧ AllR (recStep f r) rs

theorem doneR_len (rs : List (List Nat)) : ∀ f, (doneR f rs).length = rs.length + 1 := by
  induction rs with
  | nil => intro f; rfl
  | cons r rs ih => intro f; simp [doneR, ih]
theorem marksR_len (rs : List (List Nat)) : ∀ p, (marksR p rs).length = rs.length + 1 := by
  induction rs with
  | nil => intro f; rfl
  | cons r rs ih => intro f; simp [marksR, ih]
theorem getD_cons_succ' {α : Type} (x d : α) (l : List α) (k : Nat) : (x :: l).getD (k + 1) d = l.getD k d := by simp [List.getD]
theorem flowsL_cons (f : Flows) (d : List Flows) (h : 0 < d.length) : flowsL (f :: d) = flowsL d := by
  unfold flowsL
  rw [List.length_cons, show d.length + 1 - 1 = (d.length - 1) + 1 by omega, getD_cons_succ']
theorem topM_cons (p : Nat) (m : List Nat) (h : 0 < m.length) : topM (p :: m) = topM m := by
  unfold topM
  rw [List.length_cons, show m.length + 1 - 1 = (m.length - 1) + 1 by omega, getD_cons_succ']
theorem doneR_snoc (rs : List (List Nat)) (r : List Nat) : ∀ f, doneR f (rs ++ [r]) = doneR f rs ++ [recStep (flowsL (doneR f rs)) r] := by
  induction rs with
  | nil => intro f; rfl
  | cons x rs ih =>
    intro f
    simp only [List.cons_append, doneR, ih]
    rw [flowsL_cons _ _ (by rw [doneR_len]; omega)]
theorem marksR_snoc (rs : List (List Nat)) (r : List Nat) : ∀ p, marksR p (rs ++ [r]) = marksR p rs ++ [topM (marksR p rs) + r.length] := by
  induction rs with
  | nil => intro f; rfl
  | cons x rs ih =>
    intro p
    simp only [List.cons_append, marksR, ih]
    rw [topM_cons _ _ (by rw [marksR_len]; omega)]
theorem allR_snoc (rs : List (List Nat)) (r : List Nat) : ∀ f, AllR f rs → MayR (flowsL (doneR f rs)) r → AllR f (rs ++ [r]) := by
  induction rs with
  | nil => intro f _ h; exact ⟨h, trivial⟩
  | cons x rs ih =>
    intro f h hm
    refine ⟨h.1, ih _ h.2 ?_⟩
    rw [doneR, flowsL_cons _ _ (by rw [doneR_len]; omega)] at hm
    exact hm
theorem doneR_take (rs : List (List Nat)) : ∀ f k, (doneR f rs).take (k + 1) = doneR f (rs.take k) := by
  induction rs with
  | nil => intro f k; cases k <;> simp [doneR]
  | cons r rs ih =>
    intro f k
    cases k with
    | zero => simp [doneR]
    | succ k => simp only [doneR, List.take_succ_cons, ih]
theorem marksR_take (rs : List (List Nat)) : ∀ p k, (marksR p rs).take (k + 1) = marksR p (rs.take k) := by
  induction rs with
  | nil => intro f k; cases k <;> simp [marksR]
  | cons r rs ih =>
    intro f k
    cases k with
    | zero => simp [marksR]
    | succ k => simp only [marksR, List.take_succ_cons, ih]
theorem allR_take (rs : List (List Nat)) : ∀ f k, AllR f rs → AllR f (rs.take k) := by
  induction rs with
  | nil => intro f k _; cases k <;> exact trivial
  | cons r rs ih =>
    intro f k h
    cases k with
    | zero => exact trivial
    | succ k => exact ⟨h.1, ih _ _ h.2⟩
theorem marksR_at (rs : List (List Nat)) : ∀ p k, k ≤ rs.length → (marksR p rs).getD k 0 = p + (rs.take k).flatten.length := by
  induction rs with
  | nil => intro p k h; simp at h; subst h; simp [marksR]
  | cons r rs ih =>
    intro p k h
    cases k with
    | zero => simp [marksR]
    | succ k =>
      rw [marksR, getD_cons_succ', ih _ _ (by simpa using h)]
      simp only [List.take_succ_cons, List.flatten_cons, List.length_append]
      omega
theorem doneR_at (rs : List (List Nat)) : ∀ f k, k < rs.length → (doneR f rs).getD (k + 1) [] = recStep ((doneR f rs).getD k []) (rs.getD k []) := by
  induction rs with
  | nil => intro f k h; simp at h
  | cons r rs ih =>
    intro f k h
    cases k with
    | zero => cases rs <;> simp [doneR]
    | succ k =>
      rw [doneR, getD_cons_succ', getD_cons_succ', getD_cons_succ', ih _ _ (by simpa using h)]
theorem allR_at (rs : List (List Nat)) : ∀ f k, k < rs.length → AllR f rs → MayR ((doneR f rs).getD k []) (rs.getD k []) := by
  induction rs with
  | nil => intro f k h; simp at h
  | cons r rs ih =>
    intro f k h ha
    cases k with
    | zero => simpa [doneR] using ha.1
    | succ k =>
      rw [doneR, getD_cons_succ', getD_cons_succ']
      exact ih _ _ (by simpa using h) ha.2
theorem topM_marks (rs : List (List Nat)) : topM (marksR 0 rs) = rs.flatten.length := by
  unfold topM
  rw [marksR_len, Nat.add_sub_cancel, marksR_at _ _ _ (Nat.le_refl _), List.take_length, Nat.zero_add]

/-- how the bytes B are those of a log: its records, and behind them what is there of one at which it stopped -/
structure BytesR (s : LogS) (B : List Nat) (rs : List (List Nat)) (half : List Nat) : Prop where
  all : AllR [] rs
  done : s.done = doneR [] rs
  marks : s.marks = marksR 0 rs
  bytes : B = rs.flatten ++ half
  torn : half = [] ∨ ∃ r, RecR r ∧ half = r.take (r.length / 2)
  small : ∀ x ∈ B, x ≤ 255

/-- where record k begins -/
def posR (rs : List (List Nat)) (k : Nat) : Nat := (rs.take k).flatten.length
theorem posR_0 (rs : List (List Nat)) : posR rs 0 = 0 := by simp [posR]
theorem posR_step (rs : List (List Nat)) (k : Nat) (h : k < rs.length) : posR rs (k + 1) = posR rs k + (rs.getD k []).length := by
  unfold posR
  have e : rs.take (k + 1) = rs.take k ++ [rs.getD k []] := by rw [List.take_add_one, List.getElem?_eq_getElem h]; simp [List.getD, List.getElem?_eq_getElem h]
  rw [e, List.flatten_append, List.length_append, List.flatten_singleton]
theorem posR_all (rs : List (List Nat)) (k : Nat) (h : rs.length ≤ k) : posR rs k = rs.flatten.length := by unfold posR; rw [List.take_of_length_le h]
theorem posR_mono (rs : List (List Nat)) : ∀ k j, k ≤ j → posR rs k ≤ posR rs j := by
  intro k j h
  induction j with
  | zero => obtain rfl : k = 0 := by omega
            exact Nat.le_refl _
  | succ j ih =>
    by_cases e : k = j + 1
    · subst e; exact Nat.le_refl _
    · have h1 := ih (by omega)
      by_cases hj : j < rs.length
      · rw [posR_step rs j hj]; omega
      · rw [posR_all rs (j + 1) (by omega)]
        rw [posR_all rs j (by omega)] at h1
        exact h1
/-- a byte of record k -/
theorem at_rec {rs : List (List Nat)} {half : List Nat} {k i : Nat} (hk : k < rs.length) (hi : i < (rs.getD k []).length) : (rs.flatten ++ half).getD (posR rs k + i) 0 = (rs.getD k []).getD i 0 := by
  have e : rs.flatten = (rs.take k).flatten ++ ((rs.getD k []) ++ (rs.drop (k + 1)).flatten) := by
    conv => lhs; rw [← List.take_append_drop k rs]
    rw [List.flatten_append]
    congr 1
    rw [List.drop_eq_getElem_cons hk, List.flatten_cons]
    simp [List.getD, List.getElem?_eq_getElem hk]
  rw [e, List.append_assoc, List.getD, List.getElem?_append_right (by unfold posR; omega)]
  rw [show posR rs k + i - (rs.take k).flatten.length = i by unfold posR; omega, List.append_assoc, List.getElem?_append_left hi]
  rfl
theorem at_half {rs : List (List Nat)} {half : List Nat} {i : Nat} : (rs.flatten ++ half).getD (posR rs rs.length + i) 0 = half.getD i 0 := by
  rw [posR_all rs _ (Nat.le_refl _), List.getD, List.getElem?_append_right (by omega), show rs.flatten.length + i - rs.flatten.length = i by omega]
  rfl
theorem leftK_top (m : List Nat) (H : Nat) : ∀ k j, j < k → leftK m H k < j → ¬ m.getD j 0 ≤ H := by
  intro k
  induction k with
  | zero => intro j h; omega
  | succ k ih =>
    intro j h h2
    unfold leftK at h2
    split at h2
    · omega
    · by_cases e : j = k
      · subst e; assumption
      · exact ih j (by omega) h2
/-- what the bytes up to H hold: N whole records, and then none -/
theorem bytes_upto {s : LogS} {B : List Nat} {rs : List (List Nat)} {half : List Nat} (h : BytesR s B rs half) {H : Nat} (hH : H ≤ B.length) :
    ∃ N, N = leftN' s.marks H ∧ N ≤ rs.length ∧ (∀ k, k < N → posR rs (k + 1) = posR rs k + (1 + max (B.getD (posR rs k) 0) 1) ∧ posR rs (k + 1) ≤ H) ∧ posR rs N ≤ H ∧
      (posR rs N < H → H < posR rs N + (1 + max (B.getD (posR rs N) 0) 1)) := by
  refine ⟨leftN' s.marks H, rfl, ?_⟩
  have hm := h.marks
  have hat : ∀ k, k ≤ rs.length → s.marks.getD k 0 = posR rs k := fun k hk => by rw [hm, marksR_at rs 0 k hk, Nat.zero_add]; rfl
  have hlen : s.marks.length = rs.length + 1 := by rw [hm, marksR_len]
  have h0 : s.marks.getD 0 0 ≤ H := by rw [hat 0 (by omega), posR_0]; exact Nat.zero_le _
  have hbd := leftK_bd s.marks H h0 s.marks.length
  have htop := leftK_top s.marks H s.marks.length
  unfold leftN'
  generalize leftK s.marks H s.marks.length = N at hbd htop ⊢
  have hN : N ≤ rs.length := by omega
  have hNH : posR rs N ≤ H := by have := hbd.2; rwa [hat N hN] at this
  have hsz : ∀ k, k < rs.length → posR rs (k + 1) = posR rs k + (1 + max (B.getD (posR rs k) 0) 1) := by
    intro k hk
    have hr := (allR_at rs [] k hk h.all).1
    have e := at_rec (half := half) (i := 0) hk (by have := hr.1; omega)
    rw [← h.bytes, Nat.add_zero] at e
    rw [posR_step rs k hk, e, hr.2.1]
  refine ⟨hN, fun k hk => ⟨hsz k (by omega), Nat.le_trans (posR_mono rs _ _ hk) hNH⟩, hNH, fun hlt => ?_⟩
  by_cases e : N < rs.length
  · have := htop (N + 1) (by omega) (by omega)
    rw [hat (N + 1) (by omega)] at this
    rw [← hsz N e]; omega
  · obtain rfl : N = rs.length := by omega
    have e0 := at_half (rs := rs) (half := half) (i := 0)
    rw [← h.bytes, Nat.add_zero] at e0
    have hB : B.length = posR rs rs.length + half.length := by rw [h.bytes, List.length_append, posR_all rs _ (Nat.le_refl _)]
    rcases h.torn with rfl | ⟨r, hr, rfl⟩
    · simp at hB; omega
    · rw [e0]
      have hl : (r.take (r.length / 2)).length = r.length / 2 := by rw [List.length_take]; omega
      have h2 := hr.1
      have e1 : (r.take (r.length / 2)).getD 0 0 = r.getD 0 0 := getD_take _ _ _ _ (by omega)
      have := hr.2.1
      rw [e1]; omega
/-- a path as a record -/
def recAdd (p : List Int) : List Nat := p.length :: p.map Int.toNat
def recDrop (i : Int) : List Nat := [0, i.toNat]
theorem recR_add {L : Nat} {p : List Int} (hL : L ≤ 6) (hp : pathE L p = 0) (h1 : 1 ≤ p.length) (h6 : p.length ≤ 6) (hb : ∀ x ∈ p, 0 ≤ x ∧ x < L) : RecR (recAdd p) := by
  refine ⟨by simp [recAdd]; omega, by simp [recAdd]; omega, by simp [recAdd]; omega, fun x hx => ?_⟩
  simp only [recAdd, List.mem_cons, List.mem_map] at hx
  rcases hx with rfl | ⟨y, hy, rfl⟩
  · omega
  · have := hb y hy; omega
theorem recStep_add {f : Flows} {p : List Int} (h1 : 1 ≤ p.length) (hb : ∀ x ∈ p, 0 ≤ x) : recStep f (recAdd p) = f ++ [p] := by
  have e0 : (recAdd p).getD 0 0 = p.length := by simp [recAdd]
  unfold recStep
  rw [e0, if_neg (by omega)]
  congr 2
  simp only [recAdd, List.drop_succ_cons, List.drop_zero, List.map_map]
  conv => rhs; rw [← List.map_id p]
  refine List.map_congr_left fun x hx => ?_
  have := hb x hx
  simp only [Function.comp, id]
  omega
theorem recR_drop {i : Int} (h : i < 256) : RecR (recDrop i) := by
  refine ⟨by simp [recDrop], by simp [recDrop], by simp [recDrop], fun x hx => ?_⟩
  simp [recDrop] at hx
  rcases hx with rfl | rfl <;> omega
theorem recStep_drop {f : Flows} {i : Int} (h : 0 ≤ i) : recStep f (recDrop i) = lessF f i := by
  have e0 : (recDrop i).getD 0 0 = 0 := rfl
  have e1 : (recDrop i).getD 1 0 = i.toNat := rfl
  unfold recStep
  rw [e0, if_pos rfl, e1]
  congr 1
  omega
/-- a record more -/
theorem BytesR.put {s : LogS} {B : List Nat} {rs : List (List Nat)} (h : BytesR s B rs []) {r : List Nat} (hr : MayR s.flows r) (hB : s.bytes = B.length) (hl : s.left ≠ 0) : BytesR (putS s r.length (recStep s.flows r)) (B ++ r) (rs ++ [r]) [] := by
  have hput : putS s r.length (recStep s.flows r) = { s with done := s.done ++ [recStep s.flows r], marks := s.marks ++ [s.bytes + r.length], bytes := s.bytes + r.length, left := if 0 < s.left then s.left - 1 else s.left } := by unfold putS; rw [if_neg hl]
  have hf : s.flows = flowsL (doneR [] rs) := by unfold LogS.flows; rw [h.done]
  have hBl : B.length = rs.flatten.length := by rw [h.bytes]; simp
  rw [hput]
  refine ⟨allR_snoc _ _ _ h.all (hf ▸ hr), ?_, ?_, ?_, .inl rfl, fun x hx => ?_⟩
  · show s.done ++ [recStep s.flows r] = _
    rw [doneR_snoc, h.done, hf]
  · show s.marks ++ [s.bytes + r.length] = _
    rw [marksR_snoc, h.marks, topM_marks, hB, hBl]
  · rw [h.bytes]; simp
  · rcases List.mem_append.1 hx with hx | hx
    · exact h.small x hx
    · exact hr.1.2.2.2 x hx
/-- half of one more -/
theorem BytesR.half {s : LogS} {B : List Nat} {rs : List (List Nat)} (h : BytesR s B rs []) {r : List Nat} (hr : RecR r) (f : Flows) (hl : s.left = 0) : BytesR (putS s r.length f) (B ++ r.take (r.length / 2)) rs (r.take (r.length / 2)) := by
  have hput : putS s r.length f = { s with bytes := s.bytes + r.length / 2, stopped := true } := by unfold putS; rw [if_pos hl]
  rw [hput]
  refine ⟨h.all, h.done, h.marks, ?_, .inr ⟨r, hr, rfl⟩, fun x hx => ?_⟩
  · rw [h.bytes]; simp
  · rcases List.mem_append.1 hx with hx | hx
    · exact h.small x hx
    · exact hr.2.2.2 x (List.mem_of_mem_take hx)
/-- behind a crash -/
theorem BytesR.crash {s : LogS} {B : List Nat} {rs : List (List Nat)} {half : List Nat} (h : BytesR s B rs half) {keep : Int} {N : Nat} (hN : N = leftN' s.marks (highN s keep)) (hl : N ≤ rs.length) : BytesR (crashS s keep) (B.take (posR rs N)) (rs.take N) [] := by
  refine ⟨allR_take _ _ _ h.all, ?_, ?_, ?_, .inl rfl, fun x hx => h.small x (List.mem_of_mem_take hx)⟩
  · show s.done.take (leftN' s.marks (highN s keep) + 1) = _
    rw [← hN, h.done, doneR_take]
  · show s.marks.take (leftN' s.marks (highN s keep) + 1) = _
    rw [← hN, h.marks, marksR_take]
  · have e : rs.flatten = (rs.take N).flatten ++ (rs.drop N).flatten := by rw [← List.flatten_append, List.take_append_drop]
    rw [h.bytes, List.append_nil, e, List.append_assoc]
    exact List.take_left' rfl
end Go.Proofs.YtpnmmmlckdkcdakGreatDoor.Ev

/- Slices of slices of int: rows of them that a call owns. -/
namespace Go.Proofs.YtpnmmmlckdkcdakGreatDoor
namespace Ns
open Go.RowKit
set_option linter.unusedSimpArgs false
set_option linter.unusedVariables false

theorem infoInts : (Tryz.prog.info? 22).map (fun i => (i.zero, i.size, i.bytes)) = some (some (.slice none 0 0), 1, 24) := by kernel_rfl

/-- a row of slices that the call owns is a list of lists -/
theorem lists_of_owns {Q : Nat → Prop} {w : World} {base : Nat} {v : Value} {ll : List (List Int)} {vs : List Value} (hl : ll.length ≤ 9223372036854775807) (hvs : vs.length = ll.length) (h : w.ownsRow base 22 1 v ll.length vs)
    (hi : ∀ i, i < ll.length → IntsAt Q w (vs.getD i undef) (ll.getD i [])) (hQ : ∀ g, base ≤ g → Q g) : ListsAt Q w v ll := by
  have h' := h
  obtain ⟨h0, h⟩ := h
  rcases h with ⟨rfl, h⟩ | ⟨g, cap, cur, rfl, hb, hg, hc, hm, hs, ht⟩
  · have : ll = [] := List.eq_nil_of_length_eq_zero h
    subst this
    exact ⟨none, 0, rfl, ⟨Nat.le_refl _, by simp⟩, .inl rfl⟩
  · refine ⟨_, cap, rfl, ⟨hc, hl⟩, .inr ⟨g, 0, rfl, fun i hi' => ⟨vs.getD i undef, ?_, hi i hi'⟩, hQ g hb⟩⟩
    have := h'.cells (g := g) rfl i (vs.getD i undef) (by simp [List.getD, List.getElem?_eq_getElem (show i < vs.length by omega)])
    rw [add_addr] at this
    exact this

end Ns
end Go.Proofs.YtpnmmmlckdkcdakGreatDoor

/- An append as a step of a region that draws its order, and a list without one of its places. -/
namespace Go.Proofs.YtpnmmmlckdkcdakGreatDoor
namespace Ns
open Go.RowKit
set_option linter.unusedSimpArgs false
set_option linter.unusedVariables false

/-- an append to a row of the call's own, as a step of a region that draws its order -/
theorem step_append_own {P : Program} {ops : Array Oper} {o : Oper} {a : Act} {w : World} {K : Act → World → Prop} {Q : Exit → Act → World → Prop} {E : Prop} (hgd : o.guard = none) (s x : Operand) (t : TypeId)
    (ho : o.op = .call { callee := .builtin .append, args := #[s, x], argTypes := #[t, t] })
    (base : Nat) (e : TypeId) (i : TypeInfo) (z : Value) (size bytes : Nat) (ht : P.underlying t = some (.slice e)) (hi : P.info? e = some i) (hz : i.zero = some z)
    (hsize : i.size = size) (hby : i.bytes = bytes) (hzs : z.cells.size = size) (hsz : 0 < size)
    (v : Value) (n : Nat) (xs : List Value) (hs : a.eval s = v) (hown : w.ownsRow base e size v n xs)
    (ad : Addr) (m c : Nat) (news : List Value) (hx : a.eval x = .slice (some ad) m c) (hl : news.length = m * size) (hnews : ∀ j u, news[j]? = some u → w.cell? (ad.add j) = some u) (h1 : ∀ u ∈ news, u.oneCell' = true)
    (h63 : n + m ≤ maxLen) (hbytes : (n + m) * bytes ≤ 140737488355328) (hbase : base ≤ w.heap.size)
    (h : ∀ a' n' c' w', w'.ownsRow base e size (.slice a' n' c') (n + m) (xs ++ news) → w.grownBy w' v.ownBlock → K (a.put o.dst (.slice a' n' c')) w') :
    if Region.wanted o (yielded ops a.tmps) = true then Oper.wp P o a w K Q else E := by
  have hw : Region.wanted o (yielded ops a.tmps) = true := by simp [Region.wanted, hgd]
  rw [if_pos hw]
  refine wp_append_own w s x t ho base e i z size bytes ht hi hz hsize hby hzs hsz v n xs hs hown ad m c news hx hl hnews h1 h63 hbytes hbase ?_
  intro v' w' h2 h3 _
  obtain ⟨a', n', c', rfl⟩ : ∃ a n c, v' = .slice a n c := by
    rcases h2.2 with ⟨rfl, _⟩ | ⟨g, cap, cur, rfl, _⟩
    · exact ⟨_, _, _, rfl⟩
    · exact ⟨_, _, _, rfl⟩
  exact h a' n' c' w' h2 h3

theorem getD_without {α : Type} (l : List α) (k i : Nat) (hk : k < l.length) (d : α) : (l.take k ++ l.drop (k + 1)).getD i d = l.getD (if i < k then i else i + 1) d := by
  have hl : (l.take k).length = k := by rw [List.length_take]; omega
  by_cases h : i < k
  · rw [if_pos h]
    simp [List.getD, List.getElem?_append_left (show i < (l.take k).length by omega), List.getElem?_take, h]
  · rw [if_neg h]
    simp only [List.getD]
    rw [List.getElem?_append_right (by omega), hl, List.getElem?_drop]
    congr 2
    omega
end Ns
end Go.Proofs.YtpnmmmlckdkcdakGreatDoor

/- The landed log in memory (package log): a struct, the links, a row of bytes, a row of flows; and what a call leaves of it. -/
namespace Go.Proofs.YtpnmmmlckdkcdakGreatDoor
namespace Ev
open Go.RowKit Fr Ns Fl
set_option linter.unusedSimpArgs false
set_option linter.unusedVariables false

theorem infoByte : (Tryz.prog.info? 5).map (fun i => (i.zero, i.size, i.bytes)) = some (some (.int .u8 0), 1, 1) := by kernel_rfl
/-- bytes as cells -/
def u8s (B : List Nat) : List Value := B.map fun (x : Nat) => Value.int .u8 (x : Int)
theorem u8s_length (B : List Nat) : (u8s B).length = B.length := by simp [u8s]
theorem u8s_append (B C : List Nat) : u8s (B ++ C) = u8s B ++ u8s C := by simp [u8s]
theorem u8s_take (B : List Nat) (n : Nat) : u8s (B.take n) = (u8s B).take n := by simp [u8s, List.map_take]
theorem u8s_at {B : List Nat} {k : Nat} (h : k < B.length) : (u8s B)[k]? = some (.int .u8 ((B.getD k 0 : Nat) : Int)) := by simp [u8s, List.getD, List.getElem?_eq_getElem h]
theorem ones_u8 (B : List Nat) : ∀ u ∈ u8s B, u.oneCell' = true := by
  intro u hu
  obtain ⟨x, _, rfl⟩ := List.mem_map.1 hu
  rfl
/-- a row of the thing's own, wherever its block is kept -/
theorem own_keep {w w' : World} {base : Nat} {e : TypeId} {size n : Nat} {v : Value} {xs : List Value} (hk : ∀ g, v.ownBlock = some g → w'.heap[g]? = w.heap[g]?) (h : w.ownsRow base e size v n xs) : w'.ownsRow base e size v n xs := by
  obtain ⟨h0, h⟩ := h
  refine ⟨h0, ?_⟩
  rcases h with h | ⟨g, cap, cur, e1, hb, hg, hr⟩
  · exact .inl h
  · exact .inr ⟨g, cap, cur, e1, hb, by rw [hk g (by rw [e1]; rfl)]; exact hg, hr⟩
theorem own_base {w : World} {base base' : Nat} {e : TypeId} {size n : Nat} {v : Value} {xs : List Value} (hb : ∀ g, v.ownBlock = some g → base' ≤ g) (h : w.ownsRow base e size v n xs) : w.ownsRow base' e size v n xs := by
  obtain ⟨h0, h⟩ := h
  refine ⟨h0, ?_⟩
  rcases h with h | ⟨g, cap, cur, e1, _, hg, hr⟩
  · exact .inl h
  · exact .inr ⟨g, cap, cur, e1, hb g (by rw [e1]; rfl), hg, hr⟩
theorem own_lt {w : World} {base : Nat} {e : TypeId} {size n g : Nat} {v : Value} {xs : List Value} (h : w.ownsRow base e size v n xs) (hg : v.ownBlock = some g) : base ≤ g ∧ g < w.heap.size ∧ ∃ cur, w.heap[g]? = some (.cells cur e (0, 0)) := by
  rcases h.2 with ⟨rfl, _⟩ | ⟨g', cap, cur, e1, hb, hg', _⟩
  · simp [Value.ownBlock] at hg
  · rw [e1] at hg
    simp [Value.ownBlock] at hg
    subst hg
    exact ⟨hb, (Array.getElem?_eq_some_iff.1 hg').1, _, hg'⟩
theorem own_ne {w : World} {base base' : Nat} {e e' : TypeId} {size n size' n' g : Nat} {v v' : Value} {xs xs' : List Value} (h : w.ownsRow base e size v n xs) (h' : w.ownsRow base' e' size' v' n' xs') (hne : e ≠ e') (hg : v.ownBlock = some g) : v'.ownBlock ≠ some g := by
  intro hg'
  obtain ⟨_, _, c1, h1⟩ := own_lt h hg
  obtain ⟨_, _, c2, h2⟩ := own_lt h' hg'
  rw [h1] at h2
  simp at h2
  exact hne h2.2
theorem own_row {w : World} {base : Nat} {e T : TypeId} {size n g : Nat} {v : Value} {xs ys : List Value} (h : w.ownsRow base e size v n xs) (hr : RowAt w g T ys) (hne : e ≠ T) : v.ownBlock ≠ some g := by
  intro hg
  obtain ⟨_, _, c1, h1⟩ := own_lt h hg
  unfold RowAt at hr
  rw [h1] at hr
  simp at hr
  exact hne hr.2
/-- the first of a row's cells -/
theorem own_take {w : World} {base : Nat} {e : TypeId} {n m cap : Nat} {a : Option Addr} {xs : List Value} (h : w.ownsRow base e 1 (.slice a n cap) n xs) (hm : m ≤ n) : w.ownsRow base e 1 (.slice a m cap) m (xs.take m) := by
  obtain ⟨h0, h⟩ := h
  refine ⟨by rw [List.length_take]; omega, ?_⟩
  rcases h with ⟨e1, h1⟩ | ⟨g, cap', cur, e1, hb, hg, hc, hx, hs, ht⟩
  · simp only [Value.slice.injEq] at e1
    obtain ⟨rfl, rfl, rfl⟩ := e1
    exact .inl ⟨by rw [show m = 0 by omega], by omega⟩
  · simp only [Value.slice.injEq] at e1
    obtain ⟨rfl, -, rfl⟩ := e1
    refine .inr ⟨g, cap, cur, rfl, hb, hg, by omega, hx, hs, ?_⟩
    rw [← ht, List.take_take, Nat.min_eq_left (by omega), Nat.mul_one]
theorem own_cellL {w : World} {base : Nat} {e : TypeId} {n cap : Nat} {a : Option Addr} {xs : List Value} (h : w.ownsRow base e 1 (.slice a n cap) n xs) : (n = 0 ∧ cap = 0 ∧ a = none) ∨ ∃ g, a = some ⟨g, 0, none⟩ ∧ n ≤ cap ∧ cap ≤ maxLen ∧ (∀ i, w.frozen? ⟨g, i, none⟩ = false) ∧ ∀ k x, xs[k]? = some x → w.cell? ⟨g, k, none⟩ = some x := by
  have h' := h
  rcases h.2 with ⟨e1, h1⟩ | ⟨g, cap', cur, e1, hb, hg, hc, hx, hs, ht⟩
  · simp only [Value.slice.injEq] at e1
    obtain ⟨rfl, -, rfl⟩ := e1
    exact .inl ⟨h1, rfl, rfl⟩
  · simp only [Value.slice.injEq] at e1
    obtain ⟨rfl, -, rfl⟩ := e1
    refine .inr ⟨g, rfl, hc, hx, fun i => frozen_of_row w g i _ e hg, fun k x hk => ?_⟩
    have := h'.cells (g := g) rfl k x hk
    rw [add_addr, Nat.zero_add] at this
    exact this

/-- flows in a row of the thing's own; their lists lie in other blocks of Q -/
structure OwnLs (w : World) (Q : Nat → Prop) (v : Value) (f : Flows) (ws : List Value) : Prop where
  row : w.ownsRow 0 22 1 v f.length ws
  each : ∀ i, i < f.length → IntsAt (fun b => Q b ∧ v.ownBlock ≠ some b) w (ws.getD i undef) (f.getD i [])
  own : ∀ b, v.ownBlock = some b → Q b
def newQ (Q : Nat → Prop) (w w' : World) (b : Nat) : Prop := Q b ∨ (w.heap.size ≤ b ∧ b < w'.heap.size)
theorem OwnLs.keep {w w' : World} {Q R : Nat → Prop} {v : Value} {f : Flows} {ws : List Value} (h : OwnLs w Q v f ws) (hk : ∀ b, Q b → b < w.heap.size → w'.heap[b]? = w.heap[b]?) (hR : ∀ b, Q b → b < w.heap.size → R b) : OwnLs w' R v f ws :=
  ⟨own_keep (fun b hb => hk b (h.own b hb) (own_lt h.row hb).2.1) h.row, fun i hi => (h.each i hi).keep (fun b hb hl => hk b hb.1 hl) (fun b hb hl => ⟨hR b hb.1 hl, hb.2⟩), fun b hb => hR b (h.own b hb) (own_lt h.row hb).2.1⟩
theorem OwnLs.nil (w : World) (Q : Nat → Prop) : OwnLs w Q (.slice none 0 0) [] [] :=
  ⟨World.ownsRow_nil _ _ _ _, fun i hi => by simp at hi, fun b hb => by simp [Value.ownBlock] at hb⟩
/-- as a list of lists -/
theorem OwnLs.lists {w : World} {Q : Nat → Prop} {v : Value} {f : Flows} {ws : List Value} (h : OwnLs w Q v f ws) (hl : f.length ≤ 1000) : ListsAt (fun _ => True) w v f := by
  have hwl : ws.length = f.length := by have := h.row.1; omega
  exact lists_of_owns (by omega) hwl h.row (fun i hi => (h.each i hi).keep (fun _ _ _ => rfl) (fun _ _ _ => trivial)) (fun _ _ => trivial)
/-- only one block has changed -/
def Only (g : Nat) (w w' : World) : Prop := Below 0 w w' ∧ ∀ b, b ≠ g → w'.heap[b]? = w.heap[b]?
/-- the blocks of a log behind a call -/
def Fn (F : Nat → Prop) (w w' : World) (b : Nat) : Prop := F b ∨ (w.heap.size ≤ b ∧ b < w'.heap.size)
/-- the log's blocks without its struct and its bytes -/
def Qo (F : Nat → Prop) (g : Nat) (bv : Value) (b : Nat) : Prop := F b ∧ b ≠ g ∧ bv.ownBlock ≠ some b
/-- the landed log's memory: the struct at the block g, the links, a row of bytes, a row of flows -/
structure LgMem (w : World) (g : Nat) (F : Nat → Prop) (cv bv fv : Value) (caps : List Int) (sf : Nat) (lf : Int) (st : Bool) (B : List Nat) (f : Flows) (ws : List Value) : Prop where
  cells : RowAt w g 64 [cv, bv, .int .i64 sf, fv, .int .i64 lf, .bool st]
  own : F g
  lt : ∀ b, F b → b < w.heap.size
  caps : IntsAt (fun b => Qo F g bv b ∧ fv.ownBlock ≠ some b) w cv caps
  bytes : w.ownsRow 0 5 1 bv B.length (u8s B)
  flows : OwnLs w (Qo F g bv) fv f ws
  fb : ∀ b, bv.ownBlock = some b → F b
section
variable {w w' : World} {g : Nat} {F : Nat → Prop} {cv bv fv bv' fv' : Value} {caps : List Int} {sf sf' : Nat} {lf lf' : Int} {st st' : Bool} {B C : List Nat} {f f' : Flows} {ws ws' : List Value}
theorem kept_lt {b : Nat} (h1 : w'.heap[b]? = w.heap[b]?) (h2 : b < w.heap.size) : b < w'.heap.size := by
  rw [Array.getElem?_eq_getElem h2] at h1
  exact (Array.getElem?_eq_some_iff.1 h1).1
theorem LgMem.keep (h : LgMem w g F cv bv fv caps sf lf st B f ws) (hk : ∀ b, F b → w'.heap[b]? = w.heap[b]?) : LgMem w' g F cv bv fv caps sf lf st B f ws := by
  refine ⟨?_, h.own, fun b hb => kept_lt (hk b hb) (h.lt b hb), h.caps.keep (fun b hb _ => hk b hb.1.1) (fun _ h _ => h), own_keep (fun b hb => hk b (h.fb b hb)) h.bytes, h.flows.keep (fun b hb _ => hk b hb.1) (fun _ h _ => h), h.fb⟩
  have := h.cells
  unfold RowAt at this ⊢
  rw [hk g h.own]; exact this
theorem LgMem.apart (h : LgMem w g F cv bv fv caps sf lf st B f ws) : bv.ownBlock ≠ some g ∧ fv.ownBlock ≠ some g ∧ ∀ b, bv.ownBlock = some b → fv.ownBlock ≠ some b :=
  ⟨own_row h.bytes h.cells (by decide), own_row h.flows.row h.cells (by decide), fun b hb => own_ne h.bytes h.flows.row (by decide) hb⟩
theorem LgMem.shape (h : LgMem w g F cv bv fv caps sf lf st B f ws) : (∃ a c, cv = .slice a caps.length c ∧ caps.length ≤ c) ∧ (∃ a c, bv = .slice a B.length c) ∧ ∃ a c, fv = .slice a f.length c := by
  obtain ⟨a, c, e, hm, _⟩ := h.caps
  exact ⟨⟨a, c, e, hm.1⟩, owns_shape h.bytes, owns_shape h.flows.row⟩
theorem LgMem.six (h : LgMem w g F cv bv fv caps sf lf st B f ws) : w.cell? ⟨g, 0, none⟩ = some cv ∧ w.cell? ⟨g, 1, none⟩ = some bv ∧ w.cell? ⟨g, 2, none⟩ = some (.int .i64 sf) ∧ w.cell? ⟨g, 3, none⟩ = some fv ∧ w.cell? ⟨g, 4, none⟩ = some (.int .i64 lf) ∧ w.cell? ⟨g, 5, none⟩ = some (.bool st) ∧ (∀ i, w.frozen? ⟨g, i, none⟩ = false) ∧ g < w.heap.size :=
  ⟨h.cells.cell rfl, h.cells.cell rfl, h.cells.cell rfl, h.cells.cell rfl, h.cells.cell rfl, h.cells.cell rfl, h.cells.frozen, h.cells.lt⟩
/-- the struct's own numbers are others -/
theorem LgMem.put (h : LgMem w g F cv bv fv caps sf lf st B f ws) (hc : RowAt w' g 64 [cv, bv, .int .i64 (sf' : Int), fv, .int .i64 lf', .bool st']) (hk : ∀ b, b ≠ g → w'.heap[b]? = w.heap[b]?) : LgMem w' g F cv bv fv caps sf' lf' st' B f ws := by
  obtain ⟨n1, n2, _⟩ := h.apart
  have hlt : ∀ b, F b → b < w'.heap.size := fun b hb => by
    by_cases e : b = g
    · subst e; exact hc.lt
    · exact kept_lt (hk b e) (h.lt b hb)
  exact ⟨hc, h.own, hlt, h.caps.keep (fun b hb _ => hk b hb.1.2.1) (fun _ h _ => h), own_keep (fun b hb => hk b (fun e => n1 (e ▸ hb))) h.bytes, h.flows.keep (fun b hb _ => hk b hb.2.1) (fun _ h _ => h), h.fb⟩
/-- other bytes -/
theorem LgMem.newB (h : LgMem w g F cv bv fv caps sf lf st B f ws) (hr : RowAt w' g 64 [cv, bv', .int .i64 sf, fv, .int .i64 lf, .bool st]) (hk : ∀ b, b < w.heap.size → b ≠ g → bv.ownBlock ≠ some b → w'.heap[b]? = w.heap[b]?) (hz : w.heap.size ≤ w'.heap.size)
    (ho : w'.ownsRow 0 5 1 bv' C.length (u8s C)) (hat : ∀ b, bv'.ownBlock = some b → bv.ownBlock = some b ∨ w.heap.size ≤ b) : LgMem w' g (Fn F w w') cv bv' fv caps sf lf st C f ws := by
  have q : ∀ b, Qo F g bv b → b < w.heap.size → Qo (Fn F w w') g bv' b := fun b hb hl => ⟨.inl hb.1, hb.2.1, fun e => by rcases hat b e with e | e; exact hb.2.2 e; omega⟩
  refine ⟨hr, .inl h.own, fun b hb => ?_, h.caps.keep (fun b hb hl => hk b hl hb.1.2.1 hb.1.2.2) (fun b hb hl => ⟨q b hb.1 hl, hb.2⟩), ho, h.flows.keep (fun b hb hl => hk b hl hb.2.1 hb.2.2) q, fun b hb => ?_⟩
  · rcases hb with hb | hb
    · have := h.lt b hb; omega
    · exact hb.2
  · rcases hat b hb with e | e
    · exact .inl (h.fb b e)
    · exact .inr ⟨e, (own_lt ho hb).2.1⟩
/-- other flows, and fewer bytes -/
theorem LgMem.newF (h : LgMem w g F cv bv fv caps sf lf st B f ws) (hr : RowAt w' g 64 [cv, bv', .int .i64 (sf' : Int), fv', .int .i64 lf', .bool st']) (hk : ∀ b, b < w.heap.size → b ≠ g → fv.ownBlock ≠ some b → w'.heap[b]? = w.heap[b]?) (hz : w.heap.size ≤ w'.heap.size)
    (ho : w'.ownsRow 0 5 1 bv' C.length (u8s C)) (hab : ∀ b, bv'.ownBlock = some b → bv.ownBlock = some b) (hof : OwnLs w' (newQ (Qo F g bv) w w') fv' f' ws') (hat : ∀ b, fv'.ownBlock = some b → fv.ownBlock = some b ∨ w.heap.size ≤ b) : LgMem w' g (Fn F w w') cv bv' fv' caps sf' lf' st' C f' ws' := by
  have hbl : ∀ b, bv'.ownBlock = some b → b < w.heap.size := fun b hb => (own_lt h.bytes (hab b hb)).2.1
  have hgl := h.cells.lt
  have q : ∀ b, newQ (Qo F g bv) w w' b → Qo (Fn F w w') g bv' b := fun b hb => by
    rcases hb with hb | hb
    · exact ⟨.inl hb.1, hb.2.1, fun e => hb.2.2 (hab b e)⟩
    · exact ⟨.inr hb, by omega, fun e => by have := hbl b e; omega⟩
  refine ⟨hr, .inl h.own, fun b hb => ?_, h.caps.keep (fun b hb hl => hk b hl hb.1.2.1 hb.2) (fun b hb hl => ⟨q b (.inl hb.1), fun e => ?_⟩), ho, hof.keep (fun _ _ _ => rfl) (fun b hb _ => q b hb), fun b hb => .inl (h.fb b (hab b hb))⟩
  · rcases hb with hb | hb
    · have := h.lt b hb; omega
    · exact hb.2
  · rcases hat b e with e | e
    · exact hb.2 e
    · omega
end
/-- the landed log -/
structure LgAt (w : World) (g : Nat) (F : Nat → Prop) (cv bv fv : Value) (s : LogS) (B : List Nat) (ws : List Value) : Prop where
  mem : LgMem w g F cv bv fv s.caps s.safe s.left s.stopped B s.flows ws
  len : s.bytes = B.length
  recs : ∃ rs half, BytesR s B rs half ∧ (s.stopped = false → half = [])
  far : s.left ≤ 9223372036854775807
def LgInv (w : World) (p : Value) (F : Nat → Prop) (s : LogS) : Prop := ∃ g cv bv fv B ws, p = .pointer (some ⟨g, 0, none⟩) ∧ LgAt w g F cv bv fv s B ws
section
variable {w w' : World} {g : Nat} {F : Nat → Prop} {cv bv fv : Value} {s : LogS} {B : List Nat} {ws : List Value}
theorem LgAt.keep (h : LgAt w g F cv bv fv s B ws) (hk : ∀ b, F b → w'.heap[b]? = w.heap[b]?) : LgAt w' g F cv bv fv s B ws := ⟨h.mem.keep hk, h.len, h.recs, h.far⟩
theorem LgAt.put {sf : Nat} {lf : Int} {st : Bool} (h : LgAt w g F cv bv fv s B ws) (hc : RowAt w' g 64 [cv, bv, .int .i64 (sf : Int), fv, .int .i64 lf, .bool st]) (hk : ∀ b, b ≠ g → w'.heap[b]? = w.heap[b]?) (hst : st = false → s.stopped = false) (hlf : lf ≤ 9223372036854775807) :
    LgAt w' g F cv bv fv { s with safe := sf, left := lf, stopped := st } B ws := by
  obtain ⟨rs, half, hr, hz⟩ := h.recs
  exact ⟨h.mem.put hc hk, h.len, ⟨rs, half, ⟨hr.all, hr.done, hr.marks, hr.bytes, hr.torn, hr.small⟩, fun e => hz (hst e)⟩, hlf⟩
end
def logX : LogFace where
  Inv := LgInv
  lt := fun ⟨_, _, _, _, _, _, _, h⟩ => h.mem.lt
  keep := fun ⟨g, cv, bv, fv, B, ws, e, h⟩ hk => ⟨g, cv, bv, fv, B, ws, e, h.keep hk⟩
  ptr := fun ⟨_, _, _, _, _, _, e, _⟩ => ⟨_, e⟩
theorem moved_of {w w' : World} {g : Nat} {F : Nat → Prop} {cv bv fv : Value} {s : LogS} {B : List Nat} {ws : List Value} (h : LgAt w' g (Fn F w w') cv bv fv s B ws) (hb : ButIn F w w') : MovedL logX (.pointer (some ⟨g, 0, none⟩)) F s w w' :=
  ⟨Fn F w w', ⟨g, cv, bv, fv, B, ws, rfl, h⟩, fun b hb => hb.elim .inl (fun h => .inr h.1), hb⟩
/-- the struct alone has changed -/
theorem moved_put {w w' : World} {g : Nat} {F : Nat → Prop} {cv bv fv : Value} {s : LogS} {B : List Nat} {ws : List Value} (h : LgAt w' g F cv bv fv s B ws) (hg : F g) (ho : Only g w w') : MovedL logX (.pointer (some ⟨g, 0, none⟩)) F s w w' :=
  ⟨F, ⟨g, cv, bv, fv, B, ws, rfl, h⟩, fun b hb => .inl hb, ho.1, fun b _ hF => ho.2 b (fun e => hF (e ▸ hg))⟩
/-- nothing of a log has changed -/
theorem moved_none {w w' : World} {g : Nat} {F : Nat → Prop} {cv bv fv : Value} {s : LogS} {B : List Nat} {ws : List Value} (h : LgAt w g F cv bv fv s B ws) (hb : Below w.heap.size w w') : MovedL logX (.pointer (some ⟨g, 0, none⟩)) F s w w' :=
  ⟨F, ⟨g, cv, bv, fv, B, ws, rfl, h.keep (fun b hb' => hb.block b (h.mem.lt b hb'))⟩, fun b hb => .inl hb, ButIn.of_below hb⟩
end Ev
end Go.Proofs.YtpnmmmlckdkcdakGreatDoor

/- What is asked of package net's Check, as the document says it: a contract to be proved of the landed code. -/
namespace Go.Proofs.YtpnmmmlckdkcdakGreatDoor
namespace Ns
open Go.RowKit Fr

def CheckSaid : Prop := ∀ (Q : Nat → Prop) (caps : List Int) (paths : List (List Int)) (v : Value) (w : World), NetAt Q w v caps paths →
  Calls Tryz.prog 18 #[v] w fun e w' => e = .returned (errV (netE caps paths)) ∧ Below w.heap.size w w'
end Ns
end Go.Proofs.YtpnmmmlckdkcdakGreatDoor

/- Rows of bools, and of ints with room behind them, as a walk meets them. -/
namespace Go.Proofs.YtpnmmmlckdkcdakGreatDoor
namespace Ev
open Go.RowKit Ns Fl
set_option linter.unusedSimpArgs false
set_option linter.unusedVariables false

theorem infoB : (Tryz.prog.info? 4).map (fun i => (i.zero, i.size, i.bytes)) = some (some (.bool false), 1, 1) := by kernel_rfl
theorem madeB (n : Nat) : (madeCells #[Value.bool false] n).toList = (List.replicate n false).map Value.bool := by
  apply List.ext_getElem
  · simp [madeCells]
  · intro i h1 h2
    simp [madeCells, Nat.mod_one]
/-- a row that the call owns, and what lies behind its length -/
theorem owns_row {w : World} {base n c : Nat} {T : TypeId} {a : Option Addr} {xs : List Value} (hn : 0 < n) (h : w.ownsRow base T 1 (.slice a n c) n xs) : ∃ g sp, a = some ⟨g, 0, none⟩ ∧ base ≤ g ∧ n ≤ c ∧ RowAt w g T (xs ++ sp) := by
  rcases h.2 with ⟨_, h0⟩ | ⟨g, cap, cur, hv, hb, hg, hc, hm, hs, ht⟩
  · omega
  · simp only [Value.slice.injEq] at hv
    refine ⟨g, cur.toList.drop (n * 1), hv.1, hb, by rw [hv.2.2]; exact hc, ?_⟩
    unfold RowAt
    rw [hg, ← ht, List.take_append_drop]
theorem boolsCell {l : List Bool} {i : Nat} (h : i < l.length) : (l.map Value.bool)[i]? = some (.bool (l.getD i false)) := by
  simp [List.getD, List.getElem?_eq_getElem h]
theorem intsCell {l : List Int} {sp : List Value} {i : Nat} (h : i < l.length) : (l.map (Value.int .i64) ++ sp)[i]? = some (.int .i64 (l.getD i 0)) := by
  rw [List.getElem?_append_left (by simpa using h)]
  simp [List.getD, List.getElem?_eq_getElem h]
theorem boolsSet {l : List Bool} {i : Nat} {b : Bool} : (l.map Value.bool).set i (.bool b) = (l.set i b).map Value.bool := by rw [List.map_set]
theorem intsSet {l : List Int} {sp : List Value} {i : Nat} {x : Int} (h : i < l.length) : (l.map (Value.int .i64) ++ sp).set i (.int .i64 x) = (l.set i x).map (Value.int .i64) ++ sp := by
  rw [List.set_append_left _ _ (by simpa using h), List.map_set]
/-- a row of ints with room behind it is a list -/
theorem intsRow {Q : Nat → Prop} {w : World} {g c : Nat} {l : List Int} {sp : List Value} (h : RowAt w g 3 (l.map (Value.int .i64) ++ sp)) (hc : l.length ≤ c) (hl : l.length ≤ 9223372036854775807) (hQ : Q g) : IntsAt Q w (.slice (some ⟨g, 0, none⟩) l.length c) l :=
  ⟨_, c, rfl, ⟨hc, hl⟩, .inr ⟨g, 0, rfl, fun i hi => by rw [Nat.zero_add]; exact h.cell (intsCell hi), hQ⟩⟩
/-- a list in a row of its own, that may be written into -/
def OwnInts (B : Nat) (w : World) (y : Value) (l : List Int) : Prop := ∃ g c sp, y = .slice (some ⟨g, 0, none⟩) l.length c ∧ l.length ≤ c ∧ B ≤ g ∧ RowAt w g 3 (l.map (Value.int .i64) ++ sp)
theorem OwnInts.ints {B : Nat} {w : World} {y : Value} {l : List Int} (h : OwnInts B w y l) (hl : l.length ≤ 9223372036854775807) : IntsAt (fun b => B ≤ b) w y l := by
  obtain ⟨g, c, sp, rfl, hc, hg, hr⟩ := h
  exact intsRow hr hc hl hg
end Ev
end Go.Proofs.YtpnmmmlckdkcdakGreatDoor

/- Slices of ints, one by one. -/
namespace Go.Proofs.YtpnmmmlckdkcdakGreatDoor
namespace Ev
open Go.RowKit Fr Ns Ld Fl
set_option linter.unusedSimpArgs false
set_option linter.unusedVariables false

theorem ints_cells {Q : Nat → Prop} {w : World} {a : Option Addr} {n cap : Nat} {l : List Int} (h : IntsAt Q w (.slice a n cap) l) : ∀ i, i < l.length → ∃ b off, a = some ⟨b, off, none⟩ ∧ ∀ u, Below w.heap.size w u → u.cell? ⟨b, off + i, none⟩ = some (.int .i64 (l.getD i 0)) := by
  intro i hi
  obtain ⟨_, _, e, _, hc⟩ := h
  simp only [Value.slice.injEq] at e
  obtain ⟨rfl, _, _⟩ := e
  rcases hc with h | ⟨b, off, rfl, h, _⟩
  · rw [h] at hi; simp at hi
  · exact ⟨b, off, rfl, fun u hu => cell_later hu (h i hi)⟩
theorem all_step {l : List Int} {p : Int → Bool} {k : Nat} (h : k < l.length) : (l.take (k + 1)).all p = ((l.take k).all p && p (l.getD k 0)) := by
  rw [take_snoc l k h 0, List.all_append]
  simp
theorem all_not {l : List Int} {p : Int → Bool} {k : Nat} (h : k < l.length) (hx : p (l.getD k 0) = false) : l.all p = false := by
  rw [List.all_eq_false]
  exact ⟨_, getD_mem l k h 0, by rw [hx]; exact Bool.false_ne_true⟩
end Ev
end Go.Proofs.YtpnmmmlckdkcdakGreatDoor

/- A made row of ints whose first places are written. No Go in it. -/
namespace Go.Proofs.YtpnmmmlckdkcdakGreatDoor
namespace Ev
open Go.RowKit Fr Ns Ld Fl
set_option linter.unusedSimpArgs false
set_option linter.unusedVariables false

theorem nil_intsB {Q : Nat → Prop} (w : World) : IntsAt Q w (.slice none 0 0) [] := ⟨none, 0, rfl, ⟨Nat.le_refl _, by simp⟩, .inl rfl⟩
theorem madeI (n : Nat) : (madeCells #[Value.int .i64 0] n).toList = (List.replicate n (0 : Int)).map (Value.int .i64) := by
  apply List.ext_getElem
  · simp [madeCells]
  · intro i h1 h2
    simp [madeCells, Nat.mod_one]
/-- what went so far, and room for the rest -/
theorem went_set {a : List Int} {n k : Nat} {x : Int} (ha : a.length = k) (hk : k < n) : (a ++ List.replicate (n - k) 0).set k x = (a ++ [x]) ++ List.replicate (n - (k + 1)) 0 := by
  obtain ⟨m, hm⟩ : ∃ m, n - k = m + 1 := ⟨n - k - 1, by omega⟩
  have e : n - (k + 1) = m := by omega
  rw [hm, e, List.replicate_succ, ← ha]
  simp
theorem row_set {w : World} {g n k : Nat} {T : TypeId} {a b : List Int} {x : Int} (h : RowAt w g T ((a ++ List.replicate (n - k) 0).map (Value.int .i64))) (ha : a.length = k) (hk : k < n) (hb : b = a ++ [x]) : RowAt (w.setCell ⟨g, k, none⟩ (.int .i64 x)) g T ((b ++ List.replicate (n - (k + 1)) 0).map (Value.int .i64)) := by
  have := h.set k (.int .i64 x)
  rw [← List.map_set, went_set ha hk, ← hb] at this
  exact this
end Ev
end Go.Proofs.YtpnmmmlckdkcdakGreatDoor

/- All rise together, step by step: what a walk through the rounds meets. No Go in it. -/
namespace Go.Proofs.YtpnmmmlckdkcdakGreatDoor.Fl
open Fr Ns Ld
set_option linter.unusedSimpArgs false

theorem linkSum_append (rate : List (Int × Int)) (done : List Bool) : ∀ (a b : List Int) (s : Int × Int) (k : Nat), linkSum rate done (a ++ b) s k = linkSum rate done b (linkSum rate done a s k).1 (linkSum rate done a s k).2 := by
  intro a
  induction a with
  | nil => intro b s k; rfl
  | cons u us ih =>
    intro b s k
    simp only [List.cons_append, linkSum]
    split
    · exact ih _ _ _
    · exact ih _ _ _
theorem linkSum_step {rate : List (Int × Int)} {done : List Bool} {us : List Int} {s : Int × Int} {k j : Nat} (hj : j < us.length) :
    linkSum rate done (us.take (j + 1)) s k = if dB done (us.getD j 0).toNat then (sumP (linkSum rate done (us.take j) s k).1 (negP (rP rate (us.getD j 0).toNat)), (linkSum rate done (us.take j) s k).2) else ((linkSum rate done (us.take j) s k).1, (linkSum rate done (us.take j) s k).2 + 1) := by
  rw [take_snoc us j hj 0, linkSum_append]
  simp only [linkSum]
theorem sumQ_nonneg {x : Nat → Rat} : ∀ {l : List Nat}, (∀ g ∈ l, 0 ≤ x g) → 0 ≤ sumQ x l := by
  intro l
  induction l with
  | nil => intro _; exact Rat.le_refl
  | cons u us ih =>
    intro h
    have h1 := h u (by simp)
    have h2 := ih (fun g hg => h g (by simp [hg]))
    simp only [sumQ]
    grind
theorem sumQ_append (x : Nat → Rat) : ∀ (a b : List Nat), sumQ x (a ++ b) = sumQ x a + sumQ x b := by
  intro a
  induction a with
  | nil => intro b; simp only [List.nil_append, sumQ]; grind
  | cons u us ih => intro b; simp only [List.cons_append, sumQ, ih]; grind

section
variable {caps : List Int} {paths : List (List Int)} {rate : List (Int × Int)} {done : List Bool} {b : Rat} {D : Int}

theorem users_toNat {l : Nat} {u : Int} (h : u ∈ users paths l) : u.toNat ∈ usN paths l := List.mem_map.2 ⟨u, h, rfl⟩
theorem lev0_nonneg (hi : Inv caps paths rate done b D) {u : Nat} (hu : u < paths.length) : 0 ≤ lev done rate 0 u := by
  unfold lev
  split
  · rename_i h; exact Rat.le_of_lt (hi.over u hu h).2.1
  · exact Rat.le_refl
/-- what is left on a link is right, and no less than 0 -/
theorem linkSum_right (hg : Good caps paths) (hi : Inv caps paths rate done b D) (hD : D ≤ 46656) {l : Nat} (hl : l < caps.length) (j : Nat) :
    faultP (linkSum rate done ((users paths l).take j) (caps.getD l 0, 1) 0).1 = 0 ∧ Over D (linkSum rate done ((users paths l).take j) (caps.getD l 0, 1) 0).1 ∧ 0 ≤ val (linkSum rate done ((users paths l).take j) (caps.getD l 0, 1) 0).1 ∧ val (linkSum rate done ((users paths l).take j) (caps.getD l 0, 1) 0).1 ≤ 1000 ∧
    (linkSum rate done ((users paths l).take j) (caps.getD l 0, 1) 0).2 ≤ j := by
  obtain ⟨h1, h2, h3⟩ := linkSum_spec rate done D ((users paths l).take j) (caps.getD l 0, 1) 0 (over_whole D _) (fun u hu hd => (hi.over _ (usN_lt (users_toNat (List.mem_of_mem_take hu))) hd).1)
  have hall : ((users paths l).take j).map Int.toNat ++ ((users paths l).drop j).map Int.toNat = usN paths l := by
    rw [← List.map_append, List.take_append_drop]; rfl
  have hc := capQ_bd hg.1 hl
  have hroom := hi.room l hl
  have hlin := lev_lin done rate b 0 (usN paths l)
  have hb := hi.hb
  have hcnt : (0 : Rat) ≤ (b - 0) * ((List.countP (fun u => !dB done u) (usN paths l) : Nat) : Rat) := Rat.mul_nonneg (by grind) Rat.natCast_nonneg
  have hsplit := sumQ_append (lev done rate 0) (((users paths l).take j).map Int.toNat) (((users paths l).drop j).map Int.toNat)
  rw [hall] at hsplit
  have n1 : 0 ≤ sumQ (lev done rate 0) (((users paths l).take j).map Int.toNat) := sumQ_nonneg fun g hg => by
    obtain ⟨u, hu, rfl⟩ := List.mem_map.1 hg
    exact lev0_nonneg hi (usN_lt (users_toNat (List.mem_of_mem_take hu)))
  have n2 : 0 ≤ sumQ (lev done rate 0) (((users paths l).drop j).map Int.toNat) := sumQ_nonneg fun g hg => by
    obtain ⟨u, hu, rfl⟩ := List.mem_map.1 hg
    exact lev0_nonneg hi (usN_lt (users_toNat (List.mem_of_mem_drop hu)))
  have hw : val (caps.getD l 0, 1) = capQ caps l := by rw [val_whole]; rfl
  rw [hw] at h3
  have v1 : 0 ≤ val (linkSum rate done ((users paths l).take j) (caps.getD l 0, 1) 0).1 := by grind
  have v2 : val (linkSum rate done ((users paths l).take j) (caps.getD l 0, 1) 0).1 ≤ 1000 := by grind
  refine ⟨over_fault h1 hi.hD (by omega) v1 v2, h1, v1, v2, ?_⟩
  rw [h2, Nat.zero_add]
  refine Nat.le_trans List.countP_le_length ?_
  rw [List.length_map, List.length_take]
  omega
theorem lev_nonneg (hi : Inv caps paths rate done b D) {t : Rat} (ht : 0 ≤ t) {u : Nat} (hu : u < paths.length) : 0 ≤ lev done rate t u := by
  unfold lev
  split
  · rename_i h; exact Rat.le_of_lt (hi.over u hu h).2.1
  · exact ht
/-- a link's share is right, above what all have, and no more than the link takes -/
theorem share_right (hg : Good caps paths) (hi : Inv caps paths rate done b D) (hD : D ≤ 46656) {l : Nat} (hl : l < caps.length) {s : Int × Int} (h : shareOf caps paths rate done l = some s) : faultP s = 0 ∧ 0 ≤ val s ∧ val s ≤ 1000 := by
  obtain ⟨h1, ⟨u, hu, hd⟩, k, hk1, hk2, ho⟩ := share_some (fun f a b => (hi.over f a b).1) h
  have hc := capQ_bd hg.1 hl
  have hst := hi.strict l hl ⟨u, hu, hd⟩
  have hbv : b < val s := by
    apply Classical.byContradiction
    intro hn
    have hle : val s ≤ b := by grind
    have := sumQ_le (x := lev done rate (val s)) (y := lev done rate b) (l := usN paths l) (fun g _ => by
      unfold lev
      split
      · exact Rat.le_refl
      · exact hle)
    grind
  have hb := hi.hb
  have v0 : 0 ≤ val s := by grind
  have hle := le_sumQ (x := lev done rate (val s)) (f := u) (fun g hg => lev_nonneg hi v0 (usN_lt hg)) hu
  have hlu : lev done rate (val s) u = val s := by unfold lev; rw [hd]; rfl
  have v1 : val s ≤ 1000 := by grind
  have hkD : 1 ≤ D * (k : Int) := by
    have := Int.mul_le_mul hi.hD (show (1 : Int) ≤ (k : Int) by omega) (by decide) (by have := hi.hD; omega)
    omega
  have hkD2 : D * (k : Int) ≤ 1000000 := by
    have hn := hg.2.2.1
    have h0 := hi.hD
    have : D * (k : Int) ≤ D * 6 := Int.mul_le_mul_of_nonneg_left (by omega) (by omega)
    omega
  exact ⟨over_fault ho hkD hkD2 v0 v1, v0, v1⟩
end

/-- which of the first n links have the least share of them -/
def narAt (sh : Nat → Option (Int × Int)) (n l : Nat) : Bool := decide (l < n) && (sh l).isSome && decide (sh l = bestOf sh n)
theorem narAt_eq (sh : Nat → Option (Int × Int)) (n : Nat) : narOf sh n = narAt sh n := rfl
def bestD (o : Option (Int × Int)) : Int × Int := o.getD (-1, 1)
theorem best_skip {sh : Nat → Option (Int × Int)} {n : Nat} (h : sh n = none) : bestOf sh (n + 1) = bestOf sh n ∧ ∀ l, narAt sh (n + 1) l = narAt sh n l := by
  have e : bestOf sh (n + 1) = bestOf sh n := by
    conv => lhs; unfold bestOf
    rw [h]
  refine ⟨e, fun l => ?_⟩
  unfold narAt
  rw [e]
  by_cases hl : l = n
  · subst hl; rw [h]; simp
  · have : (l < n + 1) ↔ (l < n) := by omega
    simp only [this]
/-- a share that is less than all before, or the first one -/
theorem best_new {sh : Nat → Option (Int × Int)} {n : Nat} {s : Int × Int} (hp : ∀ l t, l ≤ n → sh l = some t → faultP t = 0) (h : sh n = some s) (hb : bestOf sh n = none ∨ ∃ b, bestOf sh n = some b ∧ s.1 * b.2 < b.1 * s.2) :
    bestOf sh (n + 1) = some s ∧ ∀ l, narAt sh (n + 1) l = decide (l = n) := by
  have e : bestOf sh (n + 1) = some s := by
    conv => lhs; unfold bestOf
    rw [h]
    rcases hb with hb | ⟨b, hb, hlt⟩
    · rw [hb]
    · rw [hb]; simp only; rw [if_pos hlt]
  refine ⟨e, fun l => ?_⟩
  unfold narAt
  rw [e]
  by_cases hl : l = n
  · subst hl; rw [h]; simp
  · have hx : ∀ x, sh l = some x → l < n → x ≠ s := by
      intro x hx hln hxs
      subst hxs
      rcases hb with hb | ⟨b, hb, hlt⟩
      · have := best_none _ hb l hln; rw [this] at hx; cases hx
      · -- of the first n none is less than b
        let sh' : Nat → Option (Int × Int) := fun l => if l < n then sh l else none
        have hsame : ∀ m, m ≤ n → bestOf sh' m = bestOf sh m := by
          intro m
          induction m with
          | zero => intro _; rfl
          | succ m ih =>
            intro hm
            unfold bestOf
            rw [ih (by omega)]
            have : sh' m = sh m := if_pos (by omega)
            rw [this]
        have hp' : ∀ l t, sh' l = some t → 1 ≤ t.2 := by
          intro l t ht
          by_cases hl : l < n
          · have : sh' l = sh l := if_pos hl
            rw [this] at ht
            exact fault_pos (hp l t (by omega) ht)
          · have : sh' l = none := if_neg hl
            rw [this] at ht; cases ht
        have hmin := (best_some hp' n b (by rw [hsame n (Nat.le_refl _)]; exact hb)).2 l x hln (by rw [show sh' l = sh l from if_pos hln]; exact hx)
        obtain ⟨⟨l0, hl0, hb0⟩, _⟩ := best_some hp' n b (by rw [hsame n (Nat.le_refl _)]; exact hb)
        have pb := hp' l0 b hb0
        have px := fault_pos (hp n x (Nat.le_refl _) h)
        have := (cross_lt px pb).2 hlt
        grind
    have hne : decide (l = n) = false := decide_eq_false hl
    rw [hne]
    by_cases hln : l < n
    · cases hs : sh l with
      | none => simp
      | some x =>
        have := hx x hs hln
        simp [this]
    · have : ¬ l < n + 1 := by omega
      simp [this]
/-- a share as great as the least before -/
theorem best_same {sh : Nat → Option (Int × Int)} {n : Nat} {s : Int × Int} (h : sh n = some s) (hb : bestOf sh n = some s) : bestOf sh (n + 1) = some s ∧ ∀ l, narAt sh (n + 1) l = (narAt sh n l || decide (l = n)) := by
  have e : bestOf sh (n + 1) = some s := by
    conv => lhs; unfold bestOf
    rw [h, hb]
    simp only
    split <;> rfl
  refine ⟨e, fun l => ?_⟩
  unfold narAt
  rw [e, hb]
  by_cases hl : l = n
  · subst hl; rw [h]; simp
  · have : (l < n + 1) ↔ (l < n) := by omega
    simp only [this, hl, decide_false, Bool.or_false]
/-- a greater one -/
theorem best_more {sh : Nat → Option (Int × Int)} {n : Nat} {s b : Int × Int} (h : sh n = some s) (hb : bestOf sh n = some b) (hlt : b.1 * s.2 < s.1 * b.2) : bestOf sh (n + 1) = some b ∧ ∀ l, narAt sh (n + 1) l = narAt sh n l := by
  have e : bestOf sh (n + 1) = some b := by
    conv => lhs; unfold bestOf
    rw [h, hb]
    simp only
    rw [if_neg (by omega)]
  refine ⟨e, fun l => ?_⟩
  unfold narAt
  rw [e, hb]
  by_cases hl : l = n
  · subst hl
    rw [h]
    have : ¬ s = b := by rintro rfl; omega
    simp [this]
  · have : (l < n + 1) ↔ (l < n) := by omega
    simp only [this]

/-- the round, flow by flow -/
theorem round_step (paths : List (List Int)) (done : List Bool) (nar : Nat → Bool) (k : Nat) : ((List.range (k + 1)).filter fun f => !dB done f && (paths.getD f []).any fun x => nar x.toNat).map (fun f : Nat => (f : Int)) =
    ((List.range k).filter fun f => !dB done f && (paths.getD f []).any fun x => nar x.toNat).map (fun f : Nat => (f : Int)) ++ (if (!dB done k && (paths.getD k []).any fun x => nar x.toNat) = true then [(k : Int)] else []) := by
  rw [List.range_succ, List.filter_append, List.map_append]
  congr 1
  simp only [List.filter_cons, List.filter_nil]
  split <;> rfl
def roundTo (paths : List (List Int)) (done : List Bool) (nar : Nat → Bool) (k : Nat) : List Int := ((List.range k).filter fun f => !dB done f && (paths.getD f []).any fun x => nar x.toNat).map (fun f : Nat => (f : Int))
theorem roundTo_all (paths : List (List Int)) (done : List Bool) (nar : Nat → Bool) : roundTo paths done nar paths.length = roundOf paths done nar := rfl
theorem roundTo_length (paths : List (List Int)) (done : List Bool) (nar : Nat → Bool) (k : Nat) : (roundTo paths done nar k).length ≤ k := by
  unfold roundTo
  rw [List.length_map]
  exact Nat.le_trans (List.length_filter_le _ _) (by simp)

/-- so many fewer are free -/
theorem freeN_step {paths : List (List Int)} {done : List Bool} {nar : Nat → Bool} (hl : done.length = paths.length) : freeN paths (setDone done (roundOf paths done nar)) + (roundOf paths done nar).length = freeN paths done := by
  have hm : ∀ f, f < paths.length → dB (setDone done (roundOf paths done nar)) f = (decide ((f : Int) ∈ roundOf paths done nar) || dB done f) := fun f hf => dB_setDone (by omega)
  have hlen : (roundOf paths done nar).length = (List.range paths.length).countP fun f => !dB done f && (paths.getD f []).any fun x => nar x.toNat := by
    unfold roundOf
    rw [List.length_map, List.countP_eq_length_filter]
  rw [hlen]
  unfold freeN
  have key : ∀ l : List Nat, (∀ f ∈ l, f < paths.length) → l.countP (fun f => !dB (setDone done (roundOf paths done nar)) f) + l.countP (fun f => !dB done f && (paths.getD f []).any fun x => nar x.toNat) = l.countP (fun f => !dB done f) := by
    intro l
    induction l with
    | nil => intro _; rfl
    | cons f l ih =>
      intro h
      have h1 := ih (fun g hg => h g (by simp [hg]))
      have hf := h f (by simp)
      rw [List.countP_cons, List.countP_cons, List.countP_cons, hm f hf]
      have hd : decide ((f : Int) ∈ roundOf paths done nar) = (!dB done f && (paths.getD f []).any fun x => nar x.toNat) := by
        rw [Bool.eq_iff_iff, decide_eq_true_eq, mem_round, Bool.and_eq_true, Bool.not_eq_true', List.any_eq_true]
        constructor
        · rintro ⟨_, h2, h3⟩; exact ⟨h2, h3⟩
        · rintro ⟨h2, h3⟩; exact ⟨hf, h2, h3⟩
      rw [hd]
      generalize ((paths.getD f []).any fun x => nar x.toNat) = z
      cases dB done f <;> cases z <;> simp only [Bool.not_true, Bool.not_false, Bool.true_and, Bool.false_and, Bool.or_true, Bool.or_false, Bool.true_or, Bool.false_or, if_true, if_false, Bool.false_eq_true] <;> omega
  exact key _ (fun f hf => List.mem_range.1 hf)
end Go.Proofs.YtpnmmmlckdkcdakGreatDoor.Fl

/- Rows of bools and of fractions that a call makes and writes into: what a walk is told of them. -/
namespace Go.Proofs.YtpnmmmlckdkcdakGreatDoor
namespace Fl
open Go.RowKit Fr Ns Ld
set_option linter.unusedSimpArgs false
set_option linter.unusedVariables false

theorem infoBool : (Tryz.prog.info? 4).map (fun i => (i.zero, i.size, i.bytes)) = some (some (.bool false), 1, 1) := by kernel_rfl
def boolsV (l : List Bool) : List Value := l.map Value.bool
theorem boolsV_length (l : List Bool) : (boolsV l).length = l.length := by simp [boolsV]
end Fl
end Go.Proofs.YtpnmmmlckdkcdakGreatDoor

/- The rounds' memory and how far they are: what the walk through the document's Fill is told. -/
namespace Go.Proofs.YtpnmmmlckdkcdakGreatDoor
namespace Fl
open Go.RowKit Fr Ns Ld
set_option linter.unusedSimpArgs false
set_option linter.unusedVariables false

theorem made_fracs (n : Nat) : (madeCells #[Value.int .i64 0, Value.int .i64 0] (n * 2)).toList = flat (List.replicate n (0, 0)) := by
  apply List.ext_getElem?
  intro i
  by_cases hi : i < n * 2
  · have h1 : (madeCells #[Value.int .i64 0, Value.int .i64 0] (n * 2)).toList[i]? = some (.int .i64 0) := by
      unfold madeCells
      simp only [Array.toList_map, List.getElem?_map, Array.toList_range, List.getElem?_range hi, Option.map_some]
      rcases Nat.mod_two_eq_zero_or_one i with h | h <;> simp [h]
    rw [h1]
    rcases Nat.mod_two_eq_zero_or_one i with h | h
    · have e : i = i / 2 * 2 := by omega
      have := (flat_at (List.replicate n ((0 : Int), (0 : Int))) (i / 2) (by simp; omega)).1
      rw [← e] at this
      rw [this, getD_replicate _ _ _ _ (by omega)]
    · have e : i = i / 2 * 2 + 1 := by omega
      have := (flat_at (List.replicate n ((0 : Int), (0 : Int))) (i / 2) (by simp; omega)).2
      rw [← e] at this
      rw [this, getD_replicate _ _ _ _ (by omega)]
  · rw [List.getElem?_eq_none (by simp [size_madeCells]; omega), List.getElem?_eq_none (by rw [flat_length]; simp; omega)]
theorem made_bools (n : Nat) : (madeCells #[Value.bool false] n).toList = boolsV (List.replicate n false) := by
  rw [toList_madeCells_one]; simp [boolsV]

theorem owns_later {w w' : World} {base : Nat} {e : TypeId} {size n : Nat} {v : Value} {xs : List Value} (hb : Below w.heap.size w w') (h : w.ownsRow base e size v n xs) : w'.ownsRow base e size v n xs := by
  refine ⟨h.1, ?_⟩
  rcases h.2 with h' | ⟨g', cap', cur, h', hg, hc, r⟩
  · exact .inl h'
  · have hlt : g' < w.heap.size := (Array.getElem?_eq_some_iff.1 hc).1
    exact .inr ⟨g', cap', cur, h', hg, by rw [hb.block g' hlt]; exact hc, r⟩
/-- what the rounds' memory holds -/
def FillMem (gr gd : Nat) (w : World) (v6 : Value) (rate : List (Int × Int)) (done : List Bool) (acc : List (List Int)) : Prop :=
  RowAt w gr 58 (flat rate) ∧ RowAt w gd 4 (boolsV done) ∧ ∃ vs, w.ownsRow (gd + 1) 22 1 v6 acc.length vs ∧ ∀ i, i < acc.length → IntsAt (fun b => gd < b ∧ v6.ownBlock ≠ some b) w (vs.getD i undef) (acc.getD i [])
theorem mem_later {gr gd : Nat} {w w' : World} {v6 : Value} {rate : List (Int × Int)} {done : List Bool} {acc : List (List Int)} (h : FillMem gr gd w v6 rate done acc) (hb : Below w.heap.size w w') : FillMem gr gd w' v6 rate done acc := by
  obtain ⟨h1, h2, vs, h3, h4⟩ := h
  exact ⟨h1.later hb h1.lt, h2.later hb h2.lt, vs, owns_later hb h3, fun i hi => (h4 i hi).later hb⟩
theorem nar_start (sh : Nat → Option (Int × Int)) (n : Nat) : (List.range n).map (narAt sh 0) = List.replicate n false := by
  apply List.ext_getElem
  · simp
  · intro i h1 h2
    simp [narAt]
/-- how far the rounds are -/
def FillAt (caps : List Int) (paths : List (List Int)) (rate : List (Int × Int)) (done : List Bool) (acc : List (List Int)) : Prop :=
  ∃ (k : Nat) (b : Rat) (D : Int), Inv caps paths rate done b D ∧ D * 6 ^ freeN paths done ≤ 46656 ∧ freeN paths done ≤ k ∧ fill caps paths = ((fillFrom caps paths k rate done).1, acc ++ (fillFrom caps paths k rate done).2)

theorem freeN_le (paths : List (List Int)) (done : List Bool) : freeN paths done ≤ paths.length := by
  unfold freeN
  exact Nat.le_trans List.countP_le_length (by simp)
theorem freeN_start (paths : List (List Int)) : freeN paths (List.replicate paths.length false) = paths.length := by
  unfold freeN
  have : (List.range paths.length).countP (fun f => !dB (List.replicate paths.length false) f) = (List.range paths.length).length := by
    rw [List.countP_eq_length]
    intro f hf
    have : dB (List.replicate paths.length false) f = false := by
      unfold dB
      simp only [List.getD, List.getElem?_replicate]
      split <;> rfl
    rw [this]; rfl
  rw [this]; simp
theorem fillAt_start {caps : List Int} {paths : List (List Int)} (hg : Good caps paths) : FillAt caps paths (List.replicate paths.length (0, 0)) (List.replicate paths.length false) [] := by
  refine ⟨paths.length, 0, 1, inv_start hg, ?_, freeN_le _ _, by simp [fill]⟩
  rw [Int.one_mul]
  have h1 : (6 : Int) ^ freeN paths (List.replicate paths.length false) ≤ 6 ^ 6 := six (Nat.le_trans (freeN_le _ _) hg.2.2.1)
  have h2 : (6 : Int) ^ 6 = 46656 := by decide
  omega
theorem all_of_free {paths : List (List Int)} {done : List Bool} (h : freeN paths done = 0) : ∀ f, f < paths.length → dB done f = true := by
  intro f hf
  unfold freeN at h
  rw [List.countP_eq_zero] at h
  simpa using h f (List.mem_range.2 hf)
theorem fillAt_end {caps : List Int} {paths : List (List Int)} {rate : List (Int × Int)} {done : List Bool} {acc : List (List Int)} (h : FillAt caps paths rate done acc) (hz : freeN paths done = 0) : fill caps paths = (rate, acc) := by
  obtain ⟨k, b, D, hi, _, _, he⟩ := h
  have hall : done.all id = true := (all_done hi.ld).2 (all_of_free hz)
  have : fillFrom caps paths k rate done = (rate, []) := by
    cases k with
    | zero => rfl
    | succ k => simp only [fillFrom]; rw [if_pos hall]
  rw [he, this]; simp
theorem len_le_flatten : ∀ (l : List (List Int)), (∀ a ∈ l, a ≠ []) → l.length ≤ l.flatten.length := by
  intro l
  induction l with
  | nil => intro _; simp
  | cons a l ih =>
    intro h
    have := ih (fun x hx => h x (by simp [hx]))
    have ha := h a (by simp)
    have : 0 < a.length := List.length_pos_iff.2 ha
    simp only [List.length_cons, List.flatten_cons, List.length_append]
    omega
theorem rises_ne {x : Nat → Rat} : ∀ {l : List (List Int)} {b : Rat}, Rises x b l → ∀ a ∈ l, a ≠ [] := by
  intro l
  induction l with
  | nil => intro b _ a ha; simp at ha
  | cons c l ih =>
    intro b h a ha
    obtain ⟨h1, v, _, _, h2⟩ := h
    rcases List.mem_cons.1 ha with rfl | ha
    · exact h1
    · exact ih h2 a ha
theorem flatten_bound {n : Nat} {l : List Int} (hn : l.Nodup) (h : ∀ u ∈ l, ∃ f : Nat, u = f ∧ f < n) : l.length ≤ n := by
  induction n generalizing l with
  | zero =>
    cases l with
    | nil => simp
    | cons a r => obtain ⟨f, _, hf⟩ := h a (by simp); omega
  | succ n ih =>
    have h1 := ih (l := l.erase (n : Int)) (hn.erase _) (by
      intro x hx
      have hx' := (hn.mem_erase_iff).1 hx
      obtain ⟨f, rfl, hf⟩ := h x hx'.2
      refine ⟨f, rfl, ?_⟩
      have : f ≠ n := fun e => hx'.1 (by rw [e])
      omega)
    have h2 : l.length ≤ (l.erase (n : Int)).length + 1 := by rw [List.length_erase]; split <;> omega
    omega
theorem fill_rounds_le {caps : List Int} {paths : List (List Int)} (hg : Good caps paths) : (fill caps paths).2.length ≤ paths.length := by
  obtain ⟨_, h1, h2, h3⟩ := fill_fair hg
  exact Nat.le_trans (len_le_flatten _ (rises_ne h1)) (flatten_bound h2 (fun u hu => (h3 u).1 hu))
theorem acc_length {caps : List Int} {paths : List (List Int)} {rate : List (Int × Int)} {acc : List (List Int)} (h : fill caps paths = (rate, acc)) (hg : Good caps paths) : acc.length ≤ paths.length := by
  have := fill_rounds_le hg
  rw [h] at this
  exact this

/-- all that one round asks -/
theorem fillAt_facts {caps : List Int} {paths : List (List Int)} {rate : List (Int × Int)} {done : List Bool} {acc : List (List Int)} (hg : Good caps paths) (h : FillAt caps paths rate done acc) (hz : 0 < freeN paths done) :
    rate.length = paths.length ∧ done.length = paths.length ∧
    (∀ l, l < caps.length → ∀ j, faultP (linkSum rate done ((users paths l).take j) (caps.getD l 0, 1) 0).1 = 0 ∧ (linkSum rate done ((users paths l).take j) (caps.getD l 0, 1) 0).1.2 ≤ 46656 ∧ (linkSum rate done ((users paths l).take j) (caps.getD l 0, 1) 0).2 ≤ j) ∧
    (∀ f, f < paths.length → dB done f = true → faultP (rP rate f) = 0) ∧
    (∀ l s, l < caps.length → shareOf caps paths rate done l = some s → faultP s = 0 ∧ 0 ≤ s.1) ∧
    ∃ bst, bestOf (shareOf caps paths rate done) caps.length = some bst ∧ faultP bst = 0 ∧ roundOf paths done (narAt (shareOf caps paths rate done) caps.length) ≠ [] ∧
      FillAt caps paths (setRate rate (roundOf paths done (narAt (shareOf caps paths rate done) caps.length)) bst) (setDone done (roundOf paths done (narAt (shareOf caps paths rate done) caps.length))) (acc ++ [roundOf paths done (narAt (shareOf caps paths rate done) caps.length)]) := by
  obtain ⟨k, b, D, hi, hD, hk, he⟩ := h
  have hD' : D ≤ 46656 := by
    have h1 : (1 : Int) ≤ 6 ^ freeN paths done := by
      have := six (a := 0) (b := freeN paths done) (by omega)
      simpa using this
    have := Int.mul_le_mul_of_nonneg_left h1 (show 0 ≤ D by have := hi.hD; omega)
    omega
  have hex : ∃ f, f < paths.length ∧ dB done f = false := by
    apply Classical.byContradiction
    intro hn
    have : freeN paths done = 0 := by
      unfold freeN
      rw [List.countP_eq_zero]
      intro f hf hd
      exact hn ⟨f, List.mem_range.1 hf, by simpa using hd⟩
    omega
  have hnall : ¬ done.all id = true := fun ha => by
    obtain ⟨f, hf, hd⟩ := hex
    rw [(all_done hi.ld).1 ha f hf] at hd
    cases hd
  obtain ⟨bst, hb, hbv, hne, kk, hk1, hk6, hi'⟩ := inv_step hg hi hex
  have hsr : ∀ l s, l < caps.length → shareOf caps paths rate done l = some s → faultP s = 0 ∧ 0 ≤ s.1 := by
    intro l s hl hs
    obtain ⟨h1, h2, _⟩ := share_right hg hi hD' hl hs
    refine ⟨h1, ?_⟩
    have hp := fault_pos h1
    have e : (0 : Rat) = val (0, 1) := by rw [val_whole]; rfl
    rw [e] at h2
    have := (cross (a := (0, 1)) (by decide) hp).1 h2
    simpa using this
  refine ⟨hi.lr, hi.ld, fun l hl j => ?_, fun f hf hd => ?_, hsr, bst, hb, ?_, hne, ?_⟩
  · obtain ⟨h1, h2, _, _, h5⟩ := linkSum_right hg hi hD' hl j
    exact ⟨h1, Int.le_trans (Int.le_of_dvd (by have := hi.hD; omega) h2.2.2) hD', h5⟩
  · have ho := hi.over f hf hd
    obtain ⟨l, hl, hfl, hall, hs, _⟩ := hi.neck f hf hd
    have h2 := le_sumQ (x := xQ rate) (fun g hgl => Rat.le_of_lt (hi.over g (usN_lt hgl) (hall g hgl)).2.1) hfl
    have h3 := (capQ_bd hg.1 hl).2
    have h4 : xQ rate f = val (rP rate f) := rfl
    exact over_fault ho.1 hi.hD (by omega) (by rw [← h4]; exact Rat.le_of_lt ho.2.1) (by rw [← h4]; grind)
  · obtain ⟨⟨l, hl, hs⟩, _⟩ := best_some (fun l s h => by
      obtain ⟨_, _, _, _, _, ho⟩ := share_some (fun f a b => (hi.over f a b).1) h
      exact ho.1) _ _ hb
    exact (hsr l bst hl hs).1
  · have hfs := freeN_step (nar := narOf (shareOf caps paths rate done) caps.length) hi.ld
    have hlen : 0 < (roundOf paths done (narOf (shareOf caps paths rate done) caps.length)).length := List.length_pos_iff.2 hne
    cases k with
    | zero => omega
    | succ k =>
      refine ⟨k, _, _, hi', ?_, ?_, ?_⟩
      · have e1 : (6 : Int) ^ (freeN paths (setDone done (roundOf paths done (narOf (shareOf caps paths rate done) caps.length))) + 1) ≤ 6 ^ freeN paths done := six (by omega)
        have p0 : (0 : Int) ≤ 6 ^ freeN paths (setDone done (roundOf paths done (narOf (shareOf caps paths rate done) caps.length))) := Int.le_of_lt (Int.pow_pos (by decide))
        have h6 : (kk : Int) * 6 ^ freeN paths (setDone done (roundOf paths done (narOf (shareOf caps paths rate done) caps.length))) ≤ 6 * 6 ^ freeN paths (setDone done (roundOf paths done (narOf (shareOf caps paths rate done) caps.length))) := Int.mul_le_mul_of_nonneg_right (by omega) p0
        rw [Int.pow_succ] at e1
        have e3 : D * ((kk : Int) * 6 ^ freeN paths (setDone done (roundOf paths done (narOf (shareOf caps paths rate done) caps.length)))) ≤ D * 6 ^ freeN paths done := Int.mul_le_mul_of_nonneg_left (by omega) (by have := hi.hD; omega)
        rw [← narAt_eq, Int.mul_assoc]
        omega
      · rw [← narAt_eq]; omega
      · rw [he, fillFrom, if_neg hnall, hb]
        simp only [narAt_eq, List.append_assoc, List.singleton_append]
theorem owns_keep {w w' : World} {base : Nat} {e : TypeId} {size n : Nat} {v : Value} {xs : List Value} (hk : ∀ g, base ≤ g → g < w.heap.size → w'.heap[g]? = w.heap[g]?) (h : w.ownsRow base e size v n xs) : w'.ownsRow base e size v n xs := by
  refine ⟨h.1, ?_⟩
  rcases h.2 with h' | ⟨g', cap', cur, h', hg, hc, r⟩
  · exact .inl h'
  · have hlt : g' < w.heap.size := (Array.getElem?_eq_some_iff.1 hc).1
    exact .inr ⟨g', cap', cur, h', hg, by rw [hk g' hg hlt]; exact hc, r⟩
theorem range_dB (l : List Bool) : (List.range l.length).map (dB l) = l := by
  apply List.ext_getElem
  · simp
  · intro i h1 h2
    simp [dB, List.getD, List.getElem?_eq_getElem h2]
theorem range_rP (l : List (Int × Int)) : (List.range l.length).map (rP l) = l := by
  apply List.ext_getElem
  · simp
  · intro i h1 h2
    simp [rP, List.getD, List.getElem?_eq_getElem h2]
theorem setDone_nil (done : List Bool) : setDone done [] = done := by
  unfold setDone
  simp only [List.contains_nil, Bool.false_or]
  exact range_dB done
theorem setRate_nil (rate : List (Int × Int)) (b : Int × Int) : setRate rate [] b = rate := by
  unfold setRate
  simp only [List.contains_nil, Bool.false_eq_true, if_false]
  exact range_rP rate
theorem mem_take_succ {rd : List Int} {i : Nat} (hi : i < rd.length) (f : Int) : f ∈ rd.take (i + 1) ↔ f ∈ rd.take i ∨ f = rd.getD i 0 := by
  rw [take_snoc rd i hi 0, List.mem_append]
  simp
theorem setDone_step {done : List Bool} {rd : List Int} {i m : Nat} (hi : i < rd.length) (hm : rd.getD i 0 = m) (hl : m < done.length) : setDone done (rd.take (i + 1)) = (setDone done (rd.take i)).set m true := by
  apply List.ext_getElem
  · simp [setDone]
  · intro k h1 h2
    have hk : k < done.length := by simpa [setDone] using h1
    simp only [setDone, List.getElem_map, List.getElem_range, List.getElem_set, List.contains_iff_mem]
    by_cases e : m = k
    · subst e
      rw [if_pos rfl]
      have : ((m : Nat) : Int) ∈ rd.take (i + 1) := (mem_take_succ hi _).2 (.inr hm.symm)
      simp [this]
    · rw [if_neg e]
      congr 1
      rw [Bool.eq_iff_iff, List.contains_iff_mem, List.contains_iff_mem, mem_take_succ hi, hm]
      constructor
      · rintro (h | h)
        · exact h
        · omega
      · exact .inl
theorem setRate_step {rate : List (Int × Int)} {rd : List Int} {b : Int × Int} {i m : Nat} (hi : i < rd.length) (hm : rd.getD i 0 = m) (hl : m < rate.length) : setRate rate (rd.take (i + 1)) b = (setRate rate (rd.take i) b).set m b := by
  apply List.ext_getElem
  · simp [setRate]
  · intro k h1 h2
    have hk : k < rate.length := by simpa [setRate] using h1
    simp only [setRate, List.getElem_map, List.getElem_range, List.getElem_set]
    by_cases e : m = k
    · subst e
      rw [if_pos rfl, if_pos]
      rw [List.contains_iff_mem]
      exact (mem_take_succ hi _).2 (.inr hm.symm)
    · rw [if_neg e]
      have : (rd.take (i + 1)).contains ((k : Nat) : Int) = (rd.take i).contains ((k : Nat) : Int) := by
        rw [Bool.eq_iff_iff, List.contains_iff_mem, List.contains_iff_mem, mem_take_succ hi, hm]
        constructor
        · rintro (h | h)
          · exact h
          · omega
        · exact .inl
      rw [this]
theorem flat_set : ∀ (l : List (Int × Int)) (m : Nat) (a : Int × Int), flat (l.set m a) = ((flat l).set (m * 2) (.int .i64 a.1)).set (m * 2 + 1) (.int .i64 a.2) := by
  intro l
  induction l with
  | nil => intro m a; simp [flat]
  | cons b l ih =>
    intro m a
    cases m with
    | zero => simp [flat]
    | succ m =>
      rw [List.set_cons_succ, flat, ih, show (m + 1) * 2 = m * 2 + 1 + 1 by omega]
      simp [flat]
theorem dB_map (g : Nat → Bool) {n x : Nat} (h : x < n) : dB ((List.range n).map g) x = g x := by
  simp [dB, List.getD, List.getElem?_map, List.getElem?_range h]
theorem any_take (p : List Int) (g : Int → Bool) (i : Nat) (h : i < p.length) : (p.take (i + 1)).any g = ((p.take i).any g || g (p.getD i 0)) := by
  rw [take_snoc p i h 0, List.any_append]
  simp
theorem RowAt.keep {w w' : World} {g : Nat} {T : TypeId} {xs : List Value} (hk : w'.heap[g]? = w.heap[g]?) (h : RowAt w g T xs) : RowAt w' g T xs := by
  unfold RowAt
  rw [hk]; exact h
theorem best_mem {sh : Nat → Option (Int × Int)} : ∀ (n : Nat) (b : Int × Int), bestOf sh n = some b → ∃ l, l < n ∧ sh l = some b := by
  intro n
  induction n with
  | zero => intro b h; simp [bestOf] at h
  | succ n ih =>
    intro b h
    unfold bestOf at h
    cases hs : sh n with
    | none => rw [hs] at h; obtain ⟨l, hl, hb⟩ := ih b h; exact ⟨l, by omega, hb⟩
    | some s =>
      rw [hs] at h
      cases hb : bestOf sh n with
      | none => rw [hb] at h; obtain rfl := Option.some.inj h; exact ⟨n, by omega, hs⟩
      | some b0 =>
        rw [hb] at h
        simp only at h
        split at h
        · obtain rfl := Option.some.inj h; exact ⟨n, by omega, hs⟩
        · obtain rfl := Option.some.inj h; obtain ⟨l, hl, hb'⟩ := ih b0 hb; exact ⟨l, by omega, hb'⟩
theorem nar_new {sh : Nat → Option (Int × Int)} {n l : Nat} (h : ∀ i, narAt sh (l + 1) i = decide (i = l)) : (List.range n).map (narAt sh (l + 1)) = (List.replicate n false).set l true := by
  apply List.ext_getElem
  · simp
  · intro i h1 h2
    simp only [List.getElem_map, List.getElem_range, List.getElem_set, List.getElem_replicate, h]
    by_cases e : i = l
    · subst e; simp
    · have : ¬ l = i := fun x => e x.symm
      simp [e, this]
theorem nar_same {sh : Nat → Option (Int × Int)} {n l : Nat} (h : ∀ i, narAt sh (l + 1) i = (narAt sh l i || decide (i = l))) : (List.range n).map (narAt sh (l + 1)) = ((List.range n).map (narAt sh l)).set l true := by
  apply List.ext_getElem
  · simp
  · intro i h1 h2
    simp only [List.getElem_map, List.getElem_range, List.getElem_set, h]
    by_cases e : i = l
    · subst e; simp
    · have : ¬ l = i := fun x => e x.symm
      simp [e, this]
theorem boolsV_set (l : List Bool) (i : Nat) (b : Bool) : boolsV (l.set i b) = (boolsV l).set i (.bool b) := by simp [boolsV, List.map_set]
theorem RowAt.set2 {w : World} {g : Nat} {T : TypeId} {a b : Value} (h : RowAt w g T [a, b]) (x y : Value) : RowAt ((w.setCell ⟨g, 0, none⟩ x).setCell ⟨g, 1, none⟩ y) g T [x, y] := by
  have := (h.set 0 x).set 1 y
  simpa using this
theorem fillAt_acc {caps : List Int} {paths : List (List Int)} {rate : List (Int × Int)} {done : List Bool} {acc : List (List Int)} (hg : Good caps paths) (h : FillAt caps paths rate done acc) : acc.length ≤ paths.length := by
  obtain ⟨k, b, D, _, _, _, he⟩ := h
  have := fill_rounds_le hg
  rw [he] at this
  simp only [List.length_append] at this
  omega
/-- one round more -/
theorem mem_append {gr gd : Nat} {wr w13 : World} {v6 v' v16 : Value} {o : Obj} {rate' : List (Int × Int)} {done' : List Bool} {acc : List (List Int)} {rd : List Int} {vs : List Value} (hrt : RowAt wr gr 58 (flat rate')) (hdn : RowAt wr gd 4 (boolsV done')) (hgr : gr < gd)
    (hv : ∀ i, i < acc.length → IntsAt (fun b => gd < b ∧ v6.ownBlock ≠ some b) wr (vs.getD i undef) (acc.getD i [])) (hnew : IntsAt (fun b => gd < b ∧ v6.ownBlock ≠ some b) wr v16 rd) (hvs : vs.length = acc.length)
    (hown' : w13.ownsRow (gd + 1) 22 1 v' (acc.length + 1) (vs ++ [v16])) (hgrow : (wr.alloc o).grownBy w13 v6.ownBlock) (hat : v'.ownBlock = v6.ownBlock ∨ v'.ownBlock = some (wr.alloc o).heap.size) (hb : Below (gd + 1) wr w13) :
    FillMem gr gd w13 v' rate' done' (acc ++ [rd]) := by
  refine ⟨hrt.later hb (by omega), hdn.later hb (by omega), vs ++ [v16], by simpa using hown', ?_⟩
  have hkeep : ∀ b, (gd < b ∧ v6.ownBlock ≠ some b) → b < wr.heap.size → w13.heap[b]? = wr.heap[b]? := by
    intro b hb' hlt
    have h1 := hgrow.block b (by simp; omega) (fun e => hb'.2 e.symm)
    rw [h1]
    exact ((Below.refl wr.heap.size wr).alloc (Nat.le_refl _) o).block b hlt
  have hQ : ∀ b, (gd < b ∧ v6.ownBlock ≠ some b) → b < wr.heap.size → (gd < b ∧ v'.ownBlock ≠ some b) := by
    intro b hb' hlt
    refine ⟨hb'.1, ?_⟩
    rcases hat with h | h
    · rw [h]; exact hb'.2
    · rw [h]
      simp
      omega
  exact ints_snoc hvs (fun i hi => (hv i hi).keep hkeep hQ) (hnew.keep hkeep hQ)
theorem flat_cells {rate : List (Int × Int)} {m : Nat} (h : m < rate.length) : (flat rate)[m * 2]? = some (.int .i64 (rP rate m).1) ∧ (flat rate)[m * 2 + 1]? = some (.int .i64 (rP rate m).2) := flat_at rate m h
theorem bools_cell {done : List Bool} {m : Nat} (h : m < done.length) : (boolsV done)[m]? = some (.bool (dB done m)) := by
  simp [boolsV, dB, List.getD, List.getElem?_eq_getElem h]

end Fl
end Go.Proofs.YtpnmmmlckdkcdakGreatDoor

/- The landed fill's own lists: the links of a least share, who is free, flow by flow. No Go in it but what FlMem brings. -/
namespace Go.Proofs.YtpnmmmlckdkcdakGreatDoor
namespace Fl
open Go.RowKit Fr Ns Ld
set_option linter.unusedSimpArgs false
set_option linter.unusedVariables false

/-- the links of the least share among the first n, rising -/
def linksTo (sh : Nat → Option (Int × Int)) (n : Nat) : List Int := ((List.range n).filter (narAt sh n)).map (fun l : Nat => (l : Int))
theorem linksTo_length (sh : Nat → Option (Int × Int)) (n : Nat) : (linksTo sh n).length ≤ n := by
  unfold linksTo
  rw [List.length_map]
  exact Nat.le_trans (List.length_filter_le _ _) (by simp)
theorem links_keep {sh : Nat → Option (Int × Int)} {n : Nat} (h : ∀ l, narAt sh (n + 1) l = narAt sh n l) : linksTo sh (n + 1) = linksTo sh n := by
  unfold linksTo
  have z : narAt sh n n = false := by simp [narAt]
  rw [show narAt sh (n + 1) = narAt sh n from funext h, List.range_succ, List.filter_append, List.map_append]
  simp [List.filter_cons, z]
theorem links_new {sh : Nat → Option (Int × Int)} {n : Nat} (h : ∀ l, narAt sh (n + 1) l = decide (l = n)) : linksTo sh (n + 1) = [(n : Int)] := by
  unfold linksTo
  have e : (List.range n).filter (fun l => decide (l = n)) = [] := List.filter_eq_nil_iff.2 (fun a ha => by have := List.mem_range.1 ha; simp; omega)
  rw [show narAt sh (n + 1) = (fun l => decide (l = n)) from funext h, List.range_succ, List.filter_append, e]
  simp [List.filter_cons]
theorem links_same {sh : Nat → Option (Int × Int)} {n : Nat} (h : ∀ l, narAt sh (n + 1) l = (narAt sh n l || decide (l = n))) : linksTo sh (n + 1) = linksTo sh n ++ [(n : Int)] := by
  unfold linksTo
  have e : (List.range n).filter (fun l => narAt sh n l || decide (l = n)) = (List.range n).filter (narAt sh n) := List.filter_congr (fun a ha => by
    have := List.mem_range.1 ha
    have hne : decide (a = n) = false := decide_eq_false (by omega)
    rw [hne, Bool.or_false])
  rw [show narAt sh (n + 1) = (fun l => narAt sh n l || decide (l = n)) from funext h, List.range_succ, List.filter_append, e]
  simp [List.filter_cons]
theorem mem_links {sh : Nat → Option (Int × Int)} {n : Nat} {x : Int} : x ∈ linksTo sh n ↔ ∃ l : Nat, x = l ∧ l < n ∧ narAt sh n l = true := by
  unfold linksTo
  rw [List.mem_map]
  constructor
  · rintro ⟨l, hl, rfl⟩
    rw [List.mem_filter, List.mem_range] at hl
    exact ⟨l, rfl, hl.1, hl.2⟩
  · rintro ⟨l, rfl, h1, h2⟩
    exact ⟨l, List.mem_filter.2 ⟨List.mem_range.2 h1, h2⟩, rfl⟩
theorem links_some {sh : Nat → Option (Int × Int)} {n : Nat} {b : Int × Int} (h : bestOf sh n = some b) : 0 < (linksTo sh n).length := by
  obtain ⟨l, hl, hs⟩ := best_mem n b h
  have : (l : Int) ∈ linksTo sh n := mem_links.2 ⟨l, rfl, hl, by simp [narAt, hl, hs, h]⟩
  exact List.length_pos_of_mem this
theorem links_none {sh : Nat → Option (Int × Int)} {n : Nat} (h : bestOf sh n = none) : linksTo sh n = [] := by
  rw [List.eq_nil_iff_forall_not_mem]
  intro x hx
  obtain ⟨l, _, hl, hn⟩ := mem_links.1 hx
  have := best_none n h l hl
  simp [narAt, this] at hn
theorem in_links {sh : Nat → Option (Int × Int)} {n : Nat} {x : Int} (hx : 0 ≤ x) : inB (linksTo sh n) x = narAt sh n x.toNat := by
  rw [Bool.eq_iff_iff]
  have : inB (linksTo sh n) x = true ↔ x ∈ linksTo sh n := by simp [inB]
  rw [this, mem_links]
  constructor
  · rintro ⟨l, rfl, _, h⟩; simpa using h
  · intro h
    have hl : x.toNat < n := by
      apply Classical.byContradiction
      intro hn
      simp [narAt, hn] at h
    exact ⟨x.toNat, by omega, hl, h⟩
theorem any_links {sh : Nat → Option (Int × Int)} {n : Nat} {p : List Int} (hp : ∀ x ∈ p, 0 ≤ x) : p.any (fun x => inB (linksTo sh n) x) = p.any (fun x => narAt sh n x.toNat) := by
  rw [Bool.eq_iff_iff, List.any_eq_true, List.any_eq_true]
  constructor
  · rintro ⟨x, hx, h⟩; exact ⟨x, hx, by rw [← in_links (hp x hx)]; exact h⟩
  · rintro ⟨x, hx, h⟩; exact ⟨x, hx, by rw [in_links (hp x hx)]; exact h⟩

/-! ### flow by flow -/
theorem usersFrom_app (link : Int) : ∀ (a b : List (List Int)) (i : Nat), usersFrom link i (a ++ b) = usersFrom link i a ++ usersFrom link (i + a.length) b := by
  intro a
  induction a with
  | nil => intro b i; simp [usersFrom]
  | cons p r ih =>
    intro b i
    simp only [List.cons_append, usersFrom, ih]
    have e : i + 1 + r.length = i + (p :: r).length := by simp; omega
    rw [e]
    split <;> simp
theorem users_take (paths : List (List Int)) (l : Int) (k : Nat) : users (paths.take k) l = (users paths l).take (users (paths.take k) l).length := by
  have e : users paths l = users (paths.take k) l ++ usersFrom l (0 + (paths.take k).length) (paths.drop k) := by
    unfold users
    rw [← usersFrom_app, List.take_append_drop]
  rw [e, List.take_left]
/-- what a link takes, less the rates of the first k flows that are not free, and how many of these are -/
def linkTo (caps : List Int) (paths : List (List Int)) (rate : List (Int × Int)) (done : List Bool) (l k : Nat) : (Int × Int) × Nat := linkSum rate done (users (paths.take k) l) (caps.getD l 0, 1) 0
theorem linkTo_zero (caps : List Int) (paths : List (List Int)) (rate : List (Int × Int)) (done : List Bool) (l : Nat) : linkTo caps paths rate done l 0 = ((caps.getD l 0, 1), 0) := rfl
theorem linkTo_step {caps : List Int} {paths : List (List Int)} {rate : List (Int × Int)} {done : List Bool} {l k : Nat} (hk : k < paths.length) :
    linkTo caps paths rate done l (k + 1) = if inB (paths.getD k []) l = true then (if dB done k = true then (sumP (linkTo caps paths rate done l k).1 (negP (rP rate k)), (linkTo caps paths rate done l k).2) else ((linkTo caps paths rate done l k).1, (linkTo caps paths rate done l k).2 + 1)) else linkTo caps paths rate done l k := by
  unfold linkTo
  rw [users_step paths l k hk, linkSum_append]
  by_cases h : inB (paths.getD k []) l = true
  · rw [if_pos h, if_pos h]
    simp only [linkSum, Int.toNat_natCast]
  · rw [if_neg h, if_neg h]
    simp only [linkSum]
theorem linkTo_all (caps : List Int) (paths : List (List Int)) (rate : List (Int × Int)) (done : List Bool) (l : Nat) : linkTo caps paths rate done l paths.length = linkSum rate done (users paths l) (caps.getD l 0, 1) 0 := by
  unfold linkTo
  rw [List.take_of_length_le (Nat.le_refl _)]
theorem linkTo_part (caps : List Int) (paths : List (List Int)) (rate : List (Int × Int)) (done : List Bool) (l k : Nat) : ∃ j, j ≤ paths.length ∧ linkTo caps paths rate done l k = linkSum rate done ((users paths l).take j) (caps.getD l 0, 1) 0 := by
  refine ⟨(users (paths.take k) l).length, ?_, ?_⟩
  · have := users_length (l : Int) 0 (paths.take k)
    have h2 : (paths.take k).length ≤ paths.length := by rw [List.length_take]; omega
    unfold users
    omega
  · unfold linkTo
    rw [← users_take]
theorem linkTo_free {caps : List Int} {paths : List (List Int)} {rate : List (Int × Int)} {done : List Bool} {l : Nat} : ∀ k, k ≤ paths.length → (linkTo caps paths rate done l k).2 ≤ k := by
  intro k
  induction k with
  | zero => intro _; rw [linkTo_zero]; exact Nat.le_refl 0
  | succ k ih =>
    intro hk
    have := ih (by omega)
    rw [linkTo_step (by omega)]
    split
    · split <;> simp <;> omega
    · omega

/-! ### who is free -/
def freeL (done : List Bool) : List Bool := done.map (fun b => !b)
theorem freeL_length (done : List Bool) : (freeL done).length = done.length := by simp [freeL]
theorem free_cell {done : List Bool} {m : Nat} (h : m < done.length) : (boolsV (freeL done))[m]? = some (.bool (!dB done m)) := by
  simp [boolsV, freeL, dB, List.getD, List.getElem?_eq_getElem h]
theorem freeL_start (n : Nat) : freeL (List.replicate n false) = List.replicate n true := by simp [freeL]
theorem freeL_set (done : List Bool) (m : Nat) : freeL (done.set m true) = (freeL done).set m false := by simp [freeL, List.map_set]
theorem free_any {paths : List (List Int)} {done : List Bool} (hl : done.length = paths.length) : (freeL done).any id = decide (freeN paths done ≠ 0) := by
  rw [Bool.eq_iff_iff, List.any_eq_true, decide_eq_true_eq]
  unfold freeN
  rw [Ne, List.countP_eq_zero]
  constructor
  · rintro ⟨b, hb, h⟩ hn
    obtain ⟨i, hi, rfl⟩ := List.mem_iff_getElem.1 hb
    rw [freeL_length] at hi
    have := hn i (List.mem_range.2 (by omega))
    simp [freeL] at h
    simp [dB, List.getD, List.getElem?_eq_getElem hi, h] at this
  · intro hn
    apply Classical.byContradiction
    intro hc
    refine hn (fun f hf => ?_)
    have hf' := List.mem_range.1 hf
    intro hd
    refine hc ⟨true, ?_, rfl⟩
    have h1 : done[f]'(by omega) = false := by
      simpa [dB, List.getD, List.getElem?_eq_getElem (show f < done.length by omega)] using hd
    unfold freeL
    rw [List.mem_map]
    exact ⟨false, by rw [← h1]; exact List.getElem_mem _, rfl⟩
theorem setDone_snoc {done : List Bool} {rd : List Int} {m : Nat} (hl : m < done.length) : setDone done (rd ++ [(m : Int)]) = (setDone done rd).set m true := by
  have h := setDone_step (done := done) (rd := rd ++ [(m : Int)]) (i := rd.length) (m := m) (by simp) (by simp [List.getD]) hl
  rw [List.take_left] at h
  rw [← h, List.take_of_length_le (by simp)]
theorem setRate_snoc {rate : List (Int × Int)} {rd : List Int} {b : Int × Int} {m : Nat} (hl : m < rate.length) : setRate rate (rd ++ [(m : Int)]) b = (setRate rate rd b).set m b := by
  have h := setRate_step (rate := rate) (rd := rd ++ [(m : Int)]) (b := b) (i := rd.length) (m := m) (by simp) (by simp [List.getD]) hl
  rw [List.take_left] at h
  rw [← h, List.take_of_length_le (by simp)]
theorem roundTo_lt {paths : List (List Int)} {done : List Bool} {nar : Nat → Bool} {k : Nat} {x : Int} (h : x ∈ roundTo paths done nar k) : x < k := by
  unfold roundTo at h
  rw [List.mem_map] at h
  obtain ⟨a, ha, rfl⟩ := h
  rw [List.mem_filter, List.mem_range] at ha
  omega
theorem free_yet {paths : List (List Int)} {done : List Bool} {nar : Nat → Bool} {k : Nat} (hk : k < done.length) : dB (setDone done (roundTo paths done nar k)) k = dB done k := by
  rw [dB_setDone hk]
  have : ¬ ((k : Int) ∈ roundTo paths done nar k) := fun h => by have := roundTo_lt h; omega
  simp [this]
theorem setDone_length (done : List Bool) (rd : List Int) : (setDone done rd).length = done.length := by simp [setDone]
theorem setRate_length (rate : List (Int × Int)) (rd : List Int) (b : Int × Int) : (setRate rate rd b).length = rate.length := by simp [setRate]
end Fl
end Go.Proofs.YtpnmmmlckdkcdakGreatDoor

/- What is asked of package fill's Rates, as the document says it. -/
namespace Go.Proofs.YtpnmmmlckdkcdakGreatDoor
namespace Fl
open Go.RowKit Fr Ns Ld

def RatesSaid : Prop := ∀ (Q : Nat → Prop) (caps : List Int) (paths : List (List Int)) (v : Value) (w : World), NetAt Q w v caps paths →
  Calls Tryz.prog 16 #[v] w fun e w' => ∃ y, e = .returned (.tuple #[y, errV (netE caps paths)]) ∧
    FracsAt (fun b => w.heap.size ≤ b) w' y (okL (netE caps paths) (fill caps paths).1) ∧ Below w.heap.size w w'
end Fl
end Go.Proofs.YtpnmmmlckdkcdakGreatDoor

/- The document's Rates, step by step: one more, behind all that are no more than it. No Go in it. -/
namespace Go.Proofs.YtpnmmmlckdkcdakGreatDoor.Fl
open Fr Ns Ld
set_option linter.unusedSimpArgs false

theorem sortFrom_snoc : ∀ (r out : List (Int × Int)) (a : Int × Int), sortFrom out (r ++ [a]) = insP a (sortFrom out r) := by
  intro r
  induction r with
  | nil => intro out a; rfl
  | cons b l ih => intro out a; simp only [List.cons_append, sortFrom]; exact ih _ a
theorem sort_step {r : List (Int × Int)} {i : Nat} (h : i < r.length) : sortP (r.take (i + 1)) = insP (r.getD i (0, 0)) (sortP (r.take i)) := by
  rw [take_snoc r i h (0, 0)]
  exact sortFrom_snoc _ _ _
theorem ins_at (a : Int × Int) : ∀ (l : List (Int × Int)) (k : Nat), k ≤ l.length → (∀ j, j < k → ordP (l.getD j (0, 0)) a ≤ 0) → (k = l.length ∨ ¬ ordP (l.getD k (0, 0)) a ≤ 0) → insP a l = l.take k ++ ([a] ++ l.drop k) := by
  intro l
  induction l with
  | nil => intro k hk _ _; obtain rfl : k = 0 := by simpa using hk
           rfl
  | cons b l ih =>
    intro k hk h1 h2
    cases k with
    | zero =>
      have : ¬ ordP b a ≤ 0 := by
        rcases h2 with h2 | h2
        · simp at h2
        · simpa using h2
      unfold insP
      rw [if_neg this]
      simp
    | succ k =>
      have h0 : ordP b a ≤ 0 := by simpa using h1 0 (by omega)
      unfold insP
      rw [if_pos h0, ih k (by simpa using hk) (fun j hj => by simpa using h1 (j + 1) (by omega)) (by
        rcases h2 with h2 | h2
        · left; simpa using h2
        · right; simpa using h2)]
      simp
theorem ratesE_drop (r : List (Int × Int)) (k : Nat) (h : k < r.length) : ratesE (r.drop k) = if faultP (r.getD k (0, 0)) = 0 then ratesE (r.drop (k + 1)) else faultP (r.getD k (0, 0)) := by
  rw [drop_cons r k h (0, 0)]
  rfl
end Go.Proofs.YtpnmmmlckdkcdakGreatDoor.Fl

/- A list sorted in its place: each one goes down past all that are greater. No Go in it. -/
namespace Go.Proofs.YtpnmmmlckdkcdakGreatDoor.Fl
open Fr Ns Ld
set_option linter.unusedSimpArgs false

/-- the first i in order, the rest as it was -/
def stL (l : List (Int × Int)) (i : Nat) : List (Int × Int) := sortP (l.take i) ++ l.drop i
/-- the one at place i has gone down to place j -/
def curL (l : List (Int × Int)) (i j : Nat) : List (Int × Int) := (sortP (l.take i)).take j ++ (l.getD i (0, 0) :: ((sortP (l.take i)).drop j ++ l.drop (i + 1)))
theorem stL_0 (l : List (Int × Int)) : stL l 0 = l := by simp [stL, sortP, sortFrom]
theorem stL_1 (l : List (Int × Int)) : stL l 1 = l := by
  cases l with
  | nil => simp [stL, sortP, sortFrom]
  | cons a l => simp [stL, sortP, sortFrom, insP]
theorem stL_all (l : List (Int × Int)) (i : Nat) (h : l.length ≤ i) : stL l i = sortP l := by
  rw [stL, List.take_of_length_le h, List.drop_of_length_le h, List.append_nil]
theorem sortTake_length {l : List (Int × Int)} {i : Nat} (h : i ≤ l.length) : (sortP (l.take i)).length = i := by
  rw [sortP_length, List.length_take]; omega
theorem stL_length (l : List (Int × Int)) (i : Nat) : (stL l i).length = l.length := by
  rw [stL, List.length_append, sortP_length, List.length_take, List.length_drop]; omega
theorem curL_start {l : List (Int × Int)} {i : Nat} (h : i < l.length) : curL l i i = stL l i := by
  have e := sortTake_length (l := l) (i := i) (by omega)
  rw [curL, stL, List.take_of_length_le (by omega), List.drop_of_length_le (l := sortP (l.take i)) (by omega), List.nil_append, ← drop_cons l i h (0, 0)]
theorem curL_length {l : List (Int × Int)} {i j : Nat} (h : i < l.length) (hj : j ≤ i) : (curL l i j).length = l.length := by
  have e := sortTake_length (l := l) (i := i) (by omega)
  rw [curL, List.length_append, List.length_cons, List.length_append, List.length_take, List.length_drop, List.length_drop, e]; omega
theorem curL_at {l : List (Int × Int)} {i j : Nat} (h : i < l.length) (hj : j ≤ i) : (curL l i j).getD j (0, 0) = l.getD i (0, 0) := by
  have e := sortTake_length (l := l) (i := i) (by omega)
  rw [curL, List.getD_eq_getElem?_getD, List.getElem?_append_right (by rw [List.length_take]; omega)]
  rw [List.length_take, e, show j - min j i = 0 by omega]
  rfl
theorem curL_ahead {l : List (Int × Int)} {i j : Nat} (h : i < l.length) (hj : j < i) : (curL l i (j + 1)).getD j (0, 0) = (sortP (l.take i)).getD j (0, 0) := by
  have e := sortTake_length (l := l) (i := i) (by omega)
  rw [curL, List.getD_eq_getElem?_getD, List.getElem?_append_left (by rw [List.length_take]; omega), List.getElem?_take, if_pos (by omega), List.getD_eq_getElem?_getD]
theorem curL_swap {l : List (Int × Int)} {i j : Nat} (h : i < l.length) (hj : j < i) : ((curL l i (j + 1)).set (j + 1) ((sortP (l.take i)).getD j (0, 0))).set j (l.getD i (0, 0)) = curL l i j := by
  have e := sortTake_length (l := l) (i := i) (by omega)
  generalize hS : sortP (l.take i) = S at *
  have e1 : S.take (j + 1) = S.take j ++ [S.getD j (0, 0)] := take_snoc S j (by omega) (0, 0)
  have e2 : S.drop j = S.getD j (0, 0) :: S.drop (j + 1) := drop_cons S j (by omega) (0, 0)
  have e3 : (S.take j).length = j := by rw [List.length_take]; omega
  rw [curL, curL, hS, e1, e2]
  generalize S.take j = A at *
  generalize S.drop (j + 1) = B at *
  rw [List.append_assoc, List.singleton_append]
  rw [List.set_append_right _ _ (by omega), show j + 1 - A.length = 1 by omega]
  rw [List.set_append_right _ _ (by omega), show j - A.length = 0 by omega]
  rfl
theorem asc_at {s : List (Int × Int)} (h : Asc s) {a b : Nat} (hab : a ≤ b) (hb : b < s.length) : val (s.getD a (0, 0)) ≤ val (s.getD b (0, 0)) := by
  rcases Nat.lt_or_eq_of_le hab with h1 | rfl
  · have := (List.pairwise_iff_getElem.1 h) a b (by omega) hb h1
    rw [List.getD_eq_getElem?_getD, List.getD_eq_getElem?_getD, List.getElem?_eq_getElem (by omega), List.getElem?_eq_getElem hb]
    exact this
  · exact Rat.le_refl
/-- it stands where it belongs -/
theorem curL_end {l : List (Int × Int)} {i j : Nat} (hp : Pos l) (h : i < l.length) (hj : j ≤ i)
    (h1 : ∀ k, j ≤ k → k < i → ordP (l.getD i (0, 0)) ((sortP (l.take i)).getD k (0, 0)) < 0)
    (h2 : j = 0 ∨ ¬ ordP (l.getD i (0, 0)) ((sortP (l.take i)).getD (j - 1) (0, 0)) < 0) : curL l i j = stL l (i + 1) := by
  have e := sortTake_length (l := l) (i := i) (by omega)
  have hpt : Pos (l.take i) := fun a ha => hp a (List.mem_of_mem_take ha)
  have hA : Asc (sortP (l.take i)) := sortP_asc hpt
  have hpS : Pos (sortP (l.take i)) := fun a ha => hpt a (sortP_mem.1 ha)
  have hx : 1 ≤ (l.getD i (0, 0)).2 := hp _ (getD_mem l i h _)
  rw [stL, sort_step h, curL]
  generalize sortP (l.take i) = S at *
  have g1 : ∀ k, k < j → ordP (S.getD k (0, 0)) (l.getD i (0, 0)) ≤ 0 := fun k hk => by
    rcases h2 with rfl | h2
    · omega
    · have hk1 : 1 ≤ (S.getD k (0, 0)).2 := hpS _ (getD_mem S k (by omega) _)
      have hj1 : 1 ≤ (S.getD (j - 1) (0, 0)).2 := hpS _ (getD_mem S (j - 1) (by omega) _)
      have a1 : ordP (S.getD (j - 1) (0, 0)) (l.getD i (0, 0)) ≤ 0 := by rw [ordP_neg]; omega
      exact (ordP_le hk1 hx).2 (Rat.le_trans (asc_at hA (by omega) (by omega)) ((ordP_le hj1 hx).1 a1))
  have g2 : j = S.length ∨ ¬ ordP (S.getD j (0, 0)) (l.getD i (0, 0)) ≤ 0 := by
    by_cases hji : j = i
    · left; omega
    · right
      have := h1 j (Nat.le_refl _) (by omega)
      rw [ordP_neg]
      omega
  rw [ins_at (l.getD i (0, 0)) S j (by omega) g1 g2]
  simp
end Go.Proofs.YtpnmmmlckdkcdakGreatDoor.Fl

/- Short lists that a law writes out, in the memory that it made for them. -/
namespace Go.Proofs.YtpnmmmlckdkcdakGreatDoor
namespace Ld
open Go.RowKit Fr Ns
set_option linter.unusedSimpArgs false
set_option linter.unusedVariables false

theorem lit_int1 (w : World) (g : Nat) (x : Int) (h : w.cell? ⟨g, 0, none⟩ = some (.int .i64 x)) : IntsAt (fun _ => True) w (.slice (some ⟨g, 0, none⟩) 1 1) [x] :=
  ⟨_, 1, rfl, ⟨Nat.le_refl _, by simp⟩, .inr ⟨g, 0, rfl, fun i hi => by
    match i, hi with
    | 0, _ => simpa using h, trivial⟩⟩
theorem lit_lists2 (w : World) (g : Nat) (x y : Value) (l m : List Int) (h0 : w.cell? ⟨g, 0, none⟩ = some x) (h1 : w.cell? ⟨g, 1, none⟩ = some y) (hx : IntsAt (fun _ => True) w x l) (hy : IntsAt (fun _ => True) w y m) : ListsAt (fun _ => True) w (.slice (some ⟨g, 0, none⟩) 2 2) [l, m] :=
  ⟨_, 2, rfl, ⟨Nat.le_refl _, by simp⟩, .inr ⟨g, 0, rfl, fun i hi => by
    match i, hi with
    | 0, _ => exact ⟨x, by simpa using h0, hx⟩
    | 1, _ => exact ⟨y, by simpa using h1, hy⟩, trivial⟩⟩
theorem lit_fracs2 (w : World) (g : Nat) (a b c d : Int) (h0 : w.cell? ⟨g, 0, none⟩ = some (.int .i64 a)) (h1 : w.cell? ⟨g, 1, none⟩ = some (.int .i64 b)) (h2 : w.cell? ⟨g, 2, none⟩ = some (.int .i64 c)) (h3 : w.cell? ⟨g, 3, none⟩ = some (.int .i64 d)) : FracsAt (fun _ => True) w (.slice (some ⟨g, 0, none⟩) 2 2) [(a, b), (c, d)] :=
  ⟨_, 2, rfl, ⟨Nat.le_refl _, by simp⟩, .inr ⟨g, 0, rfl, fun i hi => by
    match i, hi with
    | 0, _ => exact ⟨by simpa using h0, by simpa using h1⟩
    | 1, _ => exact ⟨by simpa using h2, by simpa using h3⟩, trivial⟩⟩
theorem cells_flat {w : World} {b off : Nat} {l : List (Int × Int)} (h : ∀ i, i < l.length → w.cell? ⟨b, off + i * 2, none⟩ = some (.int .i64 (l.getD i (0, 0)).1) ∧ w.cell? ⟨b, off + i * 2 + 1, none⟩ = some (.int .i64 (l.getD i (0, 0)).2)) :
    ∀ j y, (flat l)[j]? = some y → w.cell? ((⟨b, off, none⟩ : Addr).add j) = some y := by
  intro j y hj
  have hlt : j < (flat l).length := (List.getElem?_eq_some_iff.1 hj).1
  rw [flat_length] at hlt
  rw [add_addr]
  rcases Nat.mod_two_eq_zero_or_one j with hm | hm
  · have e : j = (j / 2) * 2 := by omega
    have h1 := (flat_at l (j / 2) (by omega)).1
    rw [← e] at h1
    rw [h1] at hj
    have h2 := (h (j / 2) (by omega)).1
    rw [← e] at h2
    rw [h2]
    exact hj
  · have e : j = (j / 2) * 2 + 1 := by omega
    have h1 := (flat_at l (j / 2) (by omega)).2
    rw [← e] at h1
    rw [h1] at hj
    have h2 := (h (j / 2) (by omega)).2
    rw [Nat.add_assoc, ← e] at h2
    rw [h2]
    exact hj
end Ld
end Go.Proofs.YtpnmmmlckdkcdakGreatDoor

/- What is asked of package rank's Sorted, as the document says it. -/
namespace Go.Proofs.YtpnmmmlckdkcdakGreatDoor
namespace Fl
open Go.RowKit Fr Ns Ld

def SortedSaid : Prop := ∀ (Q : Nat → Prop) (r : List (Int × Int)) (x : Value) (w : World), FracsAt Q w x r →
  Calls Tryz.prog 42 #[x] w fun e w' => ∃ y, e = .returned (.tuple #[y, errV (sortE r)]) ∧
    FracsAt (fun b => w.heap.size ≤ b) w' y (okL (sortE r) (sortP r)) ∧ Below w.heap.size w w'
end Fl
end Go.Proofs.YtpnmmmlckdkcdakGreatDoor

/- What is asked of package rank's Least, as the document says it. -/
namespace Go.Proofs.YtpnmmmlckdkcdakGreatDoor
namespace Fl
open Go.RowKit Fr Ns Ld

def LeastSaid : Prop := ∀ (Q : Nat → Prop) (r : List (Int × Int)) (x : Value) (w : World), FracsAt Q w x r →
  Calls Tryz.prog 142 #[x] w fun e w' => e = .returned (.tuple #[.agg #[.int .i64 (leastV r).1, .int .i64 (leastV r).2], errV (leastE r)]) ∧ Below w.heap.size w w'
end Fl
end Go.Proofs.YtpnmmmlckdkcdakGreatDoor

/- What is asked of package even's Index, as the document says it. -/
namespace Go.Proofs.YtpnmmmlckdkcdakGreatDoor
namespace Ev
open Go.RowKit Fr Ns Ld Fl

def EIndexSaid : Prop := ∀ (Q : Nat → Prop) (l : List Int) (v : Value) (w : World), IntsAt Q w v l →
  Calls Tryz.prog 115 #[v] w fun e w' => e = .returned (.tuple #[.agg #[.int .i64 (okF (idxE l) (idx l)).1, .int .i64 (okF (idxE l) (idx l)).2], errV (idxE l)]) ∧ Below w.heap.size w w'
end Ev
end Go.Proofs.YtpnmmmlckdkcdakGreatDoor
