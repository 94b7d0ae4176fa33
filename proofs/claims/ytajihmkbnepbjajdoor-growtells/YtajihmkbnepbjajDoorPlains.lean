/- Facts and contracts that the walks lean on, one text behind the other; no walk of Go in them. -/
import Derived.Test.YtajihmkbnepbjajDoorPlainsA
import Derived.Deep.RegionLaw
import Derived.LaidEql
import Derived.Stop.Asserts
import Derived.RowKitTokens
import Derived.ProofKit
import Derived.OpenShut
import Derived.Lib.SmallJoins
import Derived.Deep.Matrix
/- Slices of slices of int: rows of them that a call owns. -/
namespace Go.Proofs.YtajihmkbnepbjajDoor
namespace Ns
open Go.RowKit
set_option linter.unusedSimpArgs false
set_option linter.unusedVariables false

theorem infoInts : (Tryd.prog.info? 33).map (fun i => (i.zero, i.size, i.bytes)) = some (some (.slice none 0 0), 1, 24) := by kernel_rfl

/-- a row of slices that the call owns is a list of lists -/
theorem lists_of_owns {Q : Nat → Prop} {w : World} {base : Nat} {v : Value} {ll : List (List Int)} {vs : List Value} (hl : ll.length ≤ 9223372036854775807) (hvs : vs.length = ll.length) (h : w.ownsRow base 33 1 v ll.length vs)
    (hi : ∀ i, i < ll.length → IntsAt Q w (vs.getD i undef) (ll.getD i [])) (hQ : ∀ g, base ≤ g → Q g) : ListsAt Q w v ll := by
  have h' := h
  obtain ⟨h0, h⟩ := h
  rcases h with ⟨rfl, h⟩ | ⟨g, cap, cur, rfl, hb, hg, hc, hm, hs, ht⟩
  · have : ll = [] := List.eq_nil_of_length_eq_zero h
    subst this
    exact ⟨none, 0, rfl, ⟨Nat.le_refl _, by simp⟩, .inl rfl⟩
  · refine ⟨_, cap, rfl, ⟨hc, hl⟩, .inr ⟨g, 0, rfl, fun i hi' => ⟨vs.getD i undef, ?_, hi i hi'⟩, hQ g hb⟩⟩
    have := h'.cells (g := g) rfl i (vs.getD i undef) (by simp [List.getD, List.getElem?_eq_getElem (show i < vs.length by omega)])
    rw [add_addr] at this
    exact this

end Ns
end Go.Proofs.YtajihmkbnepbjajDoor

/- An append as a step of a region that draws its order, and a list without one of its places. -/
namespace Go.Proofs.YtajihmkbnepbjajDoor
namespace Ns
open Go.RowKit
set_option linter.unusedSimpArgs false
set_option linter.unusedVariables false

/-- an append to a row of the call's own, as a step of a region that draws its order -/
theorem step_append_own {P : Program} {ops : Array Oper} {o : Oper} {a : Act} {w : World} {K : Act → World → Prop} {Q : Exit → Act → World → Prop} {E : Prop} (hgd : o.guard = none) (s x : Operand) (t : TypeId)
    (ho : o.op = .call { callee := .builtin .append, args := #[s, x], argTypes := #[t, t] })
    (base : Nat) (e : TypeId) (i : TypeInfo) (z : Value) (size bytes : Nat) (ht : P.underlying t = some (.slice e)) (hi : P.info? e = some i) (hz : i.zero = some z)
    (hsize : i.size = size) (hby : i.bytes = bytes) (hzs : z.cells.size = size) (hsz : 0 < size)
    (v : Value) (n : Nat) (xs : List Value) (hs : a.eval s = v) (hown : w.ownsRow base e size v n xs)
    (ad : Addr) (m c : Nat) (news : List Value) (hx : a.eval x = .slice (some ad) m c) (hl : news.length = m * size) (hnews : ∀ j u, news[j]? = some u → w.cell? (ad.add j) = some u) (h1 : ∀ u ∈ news, u.oneCell' = true)
    (h63 : n + m ≤ maxLen) (hbytes : (n + m) * bytes ≤ 140737488355328) (hbase : base ≤ w.heap.size)
    (h : ∀ a' n' c' w', w'.ownsRow base e size (.slice a' n' c') (n + m) (xs ++ news) → w.grownBy w' v.ownBlock → K (a.put o.dst (.slice a' n' c')) w') :
    if Region.wanted o (yielded ops a.tmps) = true then Oper.wp P o a w K Q else E := by
  have hw : Region.wanted o (yielded ops a.tmps) = true := by simp [Region.wanted, hgd]
  rw [if_pos hw]
  refine wp_append_own w s x t ho base e i z size bytes ht hi hz hsize hby hzs hsz v n xs hs hown ad m c news hx hl hnews h1 h63 hbytes hbase ?_
  intro v' w' h2 h3 _
  obtain ⟨a', n', c', rfl⟩ : ∃ a n c, v' = .slice a n c := by
    rcases h2.2 with ⟨rfl, _⟩ | ⟨g, cap, cur, rfl, _⟩
    · exact ⟨_, _, _, rfl⟩
    · exact ⟨_, _, _, rfl⟩
  exact h a' n' c' w' h2 h3

theorem getD_without {α : Type} (l : List α) (k i : Nat) (hk : k < l.length) (d : α) : (l.take k ++ l.drop (k + 1)).getD i d = l.getD (if i < k then i else i + 1) d := by
  have hl : (l.take k).length = k := by rw [List.length_take]; omega
  by_cases h : i < k
  · rw [if_pos h]
    simp [List.getD, List.getElem?_append_left (show i < (l.take k).length by omega), List.getElem?_take, h]
  · rw [if_neg h]
    simp only [List.getD]
    rw [List.getElem?_append_right (by omega), hl, List.getElem?_drop]
    congr 2
    omega
end Ns
end Go.Proofs.YtajihmkbnepbjajDoor

/- Contracts of errors.As at an api.Errno, of plain.Told, and of fairsame.Error. After the kit's worked text on errors.As (Toyas), turned to a target of an integer type. -/
namespace Go.Proofs.YtajihmkbnepbjajDoor
namespace Fr
open Go.RowKit Go.Extern.Stop Go.Stop Go.Extern
set_option linter.unusedSimpArgs false
set_option linter.unusedVariables false

/-- what package errors' variable errorType holds -/
def handleV : Value := .iface 130 (.agg #[.pointer (some ⟨1, 28, none⟩)])

theorem valueOfT (t : Addr) (w : World) : (ReflectliteValue.unpack (.iface 101 (.pointer (some t)))).run Tryd.prog w
    = .ok (.agg #[.pointer (some ⟨1, 101, none⟩), .pointer (some ⟨w.heap.size, 0, none⟩), .int .u64 150]) (w.alloc (.cells #[.pointer (some t)] 101)) := by kernel_rfl
theorem typeT (a : Addr) (w : World) : (ReflectliteValue.methodAny (ReflectliteValue.valueError "reflectlite.Value.Type" 0) (fun t _ _ _ => ReflectliteType.toType t) #[.agg #[.pointer (some ⟨1, 101, none⟩), .pointer (some a), .int .u64 150]]).run Tryd.prog w
    = .ok (.iface 130 (.agg #[.pointer (some ⟨1, 101, none⟩)])) w := by kernel_rfl
theorem methodKind (h : Value) (w : World) : (Go.method 301 130 (.agg #[h]) "Kind").run Tryd.prog w = .ok (116, h) w := by kernel_rfl
theorem kindT (w : World) : ((ReflectliteType.abiMethod fun t => Functor.map (fun a : Nat => Value.int IntKind.u8 (a : Int)) (Rtype.kind t)) #[.pointer (some ⟨1, 101, none⟩)]).run Tryd.prog w = .ok (.int .u8 22) w := by kernel_rfl
theorem kindE (w : World) : ((ReflectliteType.abiMethod fun t => Functor.map (fun a : Nat => Value.int IntKind.u8 (a : Int)) (Rtype.kind t)) #[.pointer (some ⟨1, 70, none⟩)]).run Tryd.prog w = .ok (.int .u8 2) w := by kernel_rfl

/-- a method of a Value first takes the Value apart -/
theorem method_shape (z : Sem Value) (f : TypeId → Addr → Nat → Nat → Sem Value) : ∃ g : Option (TypeId × Addr × Nat) → Sem Value,
    (∀ v, ReflectliteValue.method z f #[v] = (ReflectliteValue.parts v >>= g)) ∧ ∀ t a fl, g (some (t, a, fl)) = f t a fl (fl % 32) :=
  ⟨_, fun _ => rfl, fun _ _ _ => rfl⟩
theorem partsT (a : Addr) (w : World) : (ReflectliteValue.parts (.agg #[.pointer (some ⟨1, 101, none⟩), .pointer (some a), .int .u64 150])).run Tryd.prog w = .ok (some (101, a, 150)) w := by kernel_rfl
theorem isNilT (a p : Addr) (W : World) (ha : W.cell? a = some (.pointer (some p))) :
    (ReflectliteValue.method (ReflectliteValue.valueError "reflectlite.Value.IsNil" 0) ReflectliteValue.isNil #[.agg #[.pointer (some ⟨1, 101, none⟩), .pointer (some a), .int .u64 150]]).run Tryd.prog W = .ok (.bool false) W := by
  obtain ⟨g, h1, h2⟩ := method_shape _ _
  rw [h1]
  simp only [Sem.run_bind, partsT, Result.andThen, h2]
  simp [ReflectliteValue.isNil, loadVar, isAgg, underlying, Tryd.underlying101, ha, Result.andThen]

theorem methodElem (h : Value) (w : World) : (Go.method 301 130 (.agg #[h]) "Elem").run Tryd.prog w = .ok (126, .agg #[h]) w := by kernel_rfl
theorem methodImplements (h : Value) (w : World) : (Go.method 301 130 (.agg #[h]) "Implements").run Tryd.prog w = .ok (127, .agg #[h]) w := by kernel_rfl
theorem methodAssignableTo (h : Value) (w : World) : (Go.method 301 130 (.agg #[h]) "AssignableTo").run Tryd.prog w = .ok (124, .agg #[h]) w := by kernel_rfl
theorem elemT (w : World) : (ReflectliteType.method ReflectliteType.elem #[.agg #[.pointer (some ⟨1, 101, none⟩)]]).run Tryd.prog w = .ok (.iface 130 (.agg #[.pointer (some ⟨1, 70, none⟩)])) w := by kernel_rfl
theorem implementsE (w : World) : (ReflectliteType.relation "Implements" ReflectliteType.implements_ #[.agg #[.pointer (some ⟨1, 70, none⟩)], .iface 130 (.agg #[.pointer (some ⟨1, 28, none⟩)])]).run Tryd.prog w = .ok (.bool true) w := by kernel_rfl
theorem typeOfE (v : Value) (w : World) : (ReflectliteType.typeOf #[.iface 70 v]).run Tryd.prog w = .ok (.iface 130 (.agg #[.pointer (some ⟨1, 70, none⟩)])) w := by kernel_rfl
theorem assignableE (w : World) : (ReflectliteType.relation "AssignableTo" ReflectliteType.assignableTo #[.agg #[.pointer (some ⟨1, 70, none⟩)], .iface 130 (.agg #[.pointer (some ⟨1, 70, none⟩)])]).run Tryd.prog w = .ok (.bool true) w := by kernel_rfl
theorem valueOfE (k : Int) (w : World) : (ReflectliteValue.unpack (.iface 70 (.int .i64 k))).run Tryd.prog w
    = .ok (.agg #[.pointer (some ⟨1, 70, none⟩), .pointer (some ⟨w.heap.size, 0, none⟩), .int .u64 130]) (w.alloc (.cells #[.int .i64 k] 70)) := by kernel_rfl

theorem elemOfT (w : World) : (Rtype.elem? 101).run Tryd.prog w = .ok (some 70) w := by kernel_rfl
theorem mkE (p : Addr) (w : World) : (ReflectliteValue.mk 70 p ReflectliteValue.flagAddr).run Tryd.prog w = .ok (.agg #[.pointer (some ⟨1, 70, none⟩), .pointer (some p), .int .u64 386]) w := by kernel_rfl
theorem elemVT (a p : Addr) (W : World) (ha : W.cell? a = some (.pointer (some p))) :
    (ReflectliteValue.method (ReflectliteValue.valueError "reflectlite.Value.Elem" 0) ReflectliteValue.elem #[.agg #[.pointer (some ⟨1, 101, none⟩), .pointer (some a), .int .u64 150]]).run Tryd.prog W
      = .ok (.agg #[.pointer (some ⟨1, 70, none⟩), .pointer (some p), .int .u64 386]) W := by
  obtain ⟨g, h1, h2⟩ := method_shape _ _
  rw [h1]
  simp only [Sem.run_bind, partsT, Result.andThen, h2]
  simp [ReflectliteValue.elem, loadVar, isAgg, underlying, Tryd.underlying101, ha, Result.andThen, elemOfT, mkE]
theorem partsEa (a : Addr) (w : World) : (ReflectliteValue.parts (.agg #[.pointer (some ⟨1, 70, none⟩), .pointer (some a), .int .u64 386])).run Tryd.prog w = .ok (some (70, a, 386)) w := by kernel_rfl
theorem partsE (a : Addr) (w : World) : (ReflectliteValue.parts (.agg #[.pointer (some ⟨1, 70, none⟩), .pointer (some a), .int .u64 130])).run Tryd.prog w = .ok (some (70, a, 130)) w := by kernel_rfl
theorem directE (w : World) : (Rtype.directlyAssignable 70 70).run Tryd.prog w = .ok true w := by kernel_rfl
/-- of two Values of api.Errno, the first one addressable: what the second one holds is read, whether it may be assigned is asked, then it is stored -/
theorem set_shape : ∃ (g : Option (TypeId × Addr × Nat) → Option (TypeId × Addr × Nat) → Sem Value) (h : Addr → Value → Bool → Sem Value),
    (∀ v x, ReflectliteValue.set #[v, x] = (ReflectliteValue.parts v >>= fun p => ReflectliteValue.parts x >>= fun q => g p q)) ∧
    (∀ a b, g (some (70, a, 386)) (some (70, b, 130)) = (loadVar 70 b >>= fun val => Rtype.directlyAssignable 70 70 >>= fun d => h a val d)) ∧
    ∀ a val, h a val true = (storeVar 70 a val >>= fun _ => pure (.tuple #[])) :=
  ⟨_, _, fun _ _ => rfl, fun _ _ => rfl, fun _ _ => rfl⟩
theorem setE (ta b : Addr) (k : Int) (old : Value) (W : World) (hb : W.cell? b = some (.int .i64 k)) (ht : W.cell? ta = some old) (hf : W.frozen? ta = false) :
    (ReflectliteValue.set #[.agg #[.pointer (some ⟨1, 70, none⟩), .pointer (some ta), .int .u64 386], .agg #[.pointer (some ⟨1, 70, none⟩), .pointer (some b), .int .u64 130]]).run Tryd.prog W
      = .ok (.tuple #[]) (W.setCell ta (.int .i64 k)) := by
  obtain ⟨g, h, h1, h2, h3⟩ := set_shape
  rw [h1]
  simp only [Sem.run_bind, partsEa, partsE, Result.andThen, h2]
  simp [loadVar, isAgg, underlying, Tryd.underlying70, hb, Result.andThen, directE, h3, storeVar, Value.cells, storeCells, Addr.add]
  rw [run_store Tryd.prog W ta _ _ (by rfl)]
  simp [ht, hf]
end Fr
end Go.Proofs.YtajihmkbnepbjajDoor

/- Rows of bools, and of ints with room behind them, as a walk meets them. -/
namespace Go.Proofs.YtajihmkbnepbjajDoor
namespace Ev
open Go.RowKit Ns Fl
set_option linter.unusedSimpArgs false
set_option linter.unusedVariables false

theorem infoB : (Tryd.prog.info? 4).map (fun i => (i.zero, i.size, i.bytes)) = some (some (.bool false), 1, 1) := by kernel_rfl
theorem madeB (n : Nat) : (madeCells #[Value.bool false] n).toList = (List.replicate n false).map Value.bool := by
  apply List.ext_getElem
  · simp [madeCells]
  · intro i h1 h2
    simp [madeCells, Nat.mod_one]
/-- a row that the call owns, and what lies behind its length -/
theorem owns_row {w : World} {base n c : Nat} {T : TypeId} {a : Option Addr} {xs : List Value} (hn : 0 < n) (h : w.ownsRow base T 1 (.slice a n c) n xs) : ∃ g sp, a = some ⟨g, 0, none⟩ ∧ base ≤ g ∧ n ≤ c ∧ RowAt w g T (xs ++ sp) := by
  rcases h.2 with ⟨_, h0⟩ | ⟨g, cap, cur, hv, hb, hg, hc, hm, hs, ht⟩
  · omega
  · simp only [Value.slice.injEq] at hv
    refine ⟨g, cur.toList.drop (n * 1), hv.1, hb, by rw [hv.2.2]; exact hc, ?_⟩
    unfold RowAt
    rw [hg, ← ht, List.take_append_drop]
theorem boolsCell {l : List Bool} {i : Nat} (h : i < l.length) : (l.map Value.bool)[i]? = some (.bool (l.getD i false)) := by
  simp [List.getD, List.getElem?_eq_getElem h]
theorem intsCell {l : List Int} {sp : List Value} {i : Nat} (h : i < l.length) : (l.map (Value.int .i64) ++ sp)[i]? = some (.int .i64 (l.getD i 0)) := by
  rw [List.getElem?_append_left (by simpa using h)]
  simp [List.getD, List.getElem?_eq_getElem h]
theorem boolsSet {l : List Bool} {i : Nat} {b : Bool} : (l.map Value.bool).set i (.bool b) = (l.set i b).map Value.bool := by rw [List.map_set]
theorem intsSet {l : List Int} {sp : List Value} {i : Nat} {x : Int} (h : i < l.length) : (l.map (Value.int .i64) ++ sp).set i (.int .i64 x) = (l.set i x).map (Value.int .i64) ++ sp := by
  rw [List.set_append_left _ _ (by simpa using h), List.map_set]
/-- a row of ints with room behind it is a list -/
theorem intsRow {Q : Nat → Prop} {w : World} {g c : Nat} {l : List Int} {sp : List Value} (h : RowAt w g 3 (l.map (Value.int .i64) ++ sp)) (hc : l.length ≤ c) (hl : l.length ≤ 9223372036854775807) (hQ : Q g) : IntsAt Q w (.slice (some ⟨g, 0, none⟩) l.length c) l :=
  ⟨_, c, rfl, ⟨hc, hl⟩, .inr ⟨g, 0, rfl, fun i hi => by rw [Nat.zero_add]; exact h.cell (intsCell hi), hQ⟩⟩
/-- a list in a row of its own, that may be written into -/
def OwnInts (B : Nat) (w : World) (y : Value) (l : List Int) : Prop := ∃ g c sp, y = .slice (some ⟨g, 0, none⟩) l.length c ∧ l.length ≤ c ∧ B ≤ g ∧ RowAt w g 3 (l.map (Value.int .i64) ++ sp)
theorem OwnInts.ints {B : Nat} {w : World} {y : Value} {l : List Int} (h : OwnInts B w y l) (hl : l.length ≤ 9223372036854775807) : IntsAt (fun b => B ≤ b) w y l := by
  obtain ⟨g, c, sp, rfl, hc, hg, hr⟩ := h
  exact intsRow hr hc hl hg
end Ev
end Go.Proofs.YtajihmkbnepbjajDoor

/- What is asked of package net's Add, as the document says it. -/
namespace Go.Proofs.YtajihmkbnepbjajDoor
namespace Ns
open Go.RowKit Fr

def AddSaid : Prop := ∀ (Q : Nat → Prop) (caps : List Int) (paths : List (List Int)) (path : List Int) (v p : Value) (w : World), NetAt Q w v caps paths → IntsAt Q w p path →
  Calls Tryd.prog 45 #[v, p] w fun e w' => ∃ x, e = .returned (.tuple #[x, errV (addE caps paths path)]) ∧
    NetAt (fun b => w.heap.size ≤ b) w' x (okL (addE caps paths path) caps) (okL (addE caps paths path) (paths ++ [path])) ∧ Below w.heap.size w w'
end Ns
end Go.Proofs.YtajihmkbnepbjajDoor

/- The landed fill's own lists: the links of a least share, who is free, flow by flow. No Go in it but what FlMem brings. -/
namespace Go.Proofs.YtajihmkbnepbjajDoor
namespace Fl
open Go.RowKit Fr Ns Ld
set_option linter.unusedSimpArgs false
set_option linter.unusedVariables false

/-- the links of the least share among the first n, rising -/
def linksTo (sh : Nat → Option (Int × Int)) (n : Nat) : List Int := ((List.range n).filter (narAt sh n)).map (fun l : Nat => (l : Int))
theorem linksTo_length (sh : Nat → Option (Int × Int)) (n : Nat) : (linksTo sh n).length ≤ n := by
  unfold linksTo
  rw [List.length_map]
  exact Nat.le_trans (List.length_filter_le _ _) (by simp)
theorem links_keep {sh : Nat → Option (Int × Int)} {n : Nat} (h : ∀ l, narAt sh (n + 1) l = narAt sh n l) : linksTo sh (n + 1) = linksTo sh n := by
  unfold linksTo
  have z : narAt sh n n = false := by simp [narAt]
  rw [show narAt sh (n + 1) = narAt sh n from funext h, List.range_succ, List.filter_append, List.map_append]
  simp [List.filter_cons, z]
theorem links_new {sh : Nat → Option (Int × Int)} {n : Nat} (h : ∀ l, narAt sh (n + 1) l = decide (l = n)) : linksTo sh (n + 1) = [(n : Int)] := by
  unfold linksTo
  have e : (List.range n).filter (fun l => decide (l = n)) = [] := List.filter_eq_nil_iff.2 (fun a ha => by have := List.mem_range.1 ha; simp; omega)
  rw [show narAt sh (n + 1) = (fun l => decide (l = n)) from funext h, List.range_succ, List.filter_append, e]
  simp [List.filter_cons]
theorem links_same {sh : Nat → Option (Int × Int)} {n : Nat} (h : ∀ l, narAt sh (n + 1) l = (narAt sh n l || decide (l = n))) : linksTo sh (n + 1) = linksTo sh n ++ [(n : Int)] := by
  unfold linksTo
  have e : (List.range n).filter (fun l => narAt sh n l || decide (l = n)) = (List.range n).filter (narAt sh n) := List.filter_congr (fun a ha => by
    have := List.mem_range.1 ha
    have hne : decide (a = n) = false := decide_eq_false (by omega)
    rw [hne, Bool.or_false])
  rw [show narAt sh (n + 1) = (fun l => narAt sh n l || decide (l = n)) from funext h, List.range_succ, List.filter_append, e]
  simp [List.filter_cons]
theorem mem_links {sh : Nat → Option (Int × Int)} {n : Nat} {x : Int} : x ∈ linksTo sh n ↔ ∃ l : Nat, x = l ∧ l < n ∧ narAt sh n l = true := by
  unfold linksTo
  rw [List.mem_map]
  constructor
  · rintro ⟨l, hl, rfl⟩
    rw [List.mem_filter, List.mem_range] at hl
    exact ⟨l, rfl, hl.1, hl.2⟩
  · rintro ⟨l, rfl, h1, h2⟩
    exact ⟨l, List.mem_filter.2 ⟨List.mem_range.2 h1, h2⟩, rfl⟩
theorem links_some {sh : Nat → Option (Int × Int)} {n : Nat} {b : Int × Int} (h : bestOf sh n = some b) : 0 < (linksTo sh n).length := by
  obtain ⟨l, hl, hs⟩ := best_mem n b h
  have : (l : Int) ∈ linksTo sh n := mem_links.2 ⟨l, rfl, hl, by simp [narAt, hl, hs, h]⟩
  exact List.length_pos_of_mem this
theorem links_none {sh : Nat → Option (Int × Int)} {n : Nat} (h : bestOf sh n = none) : linksTo sh n = [] := by
  rw [List.eq_nil_iff_forall_not_mem]
  intro x hx
  obtain ⟨l, _, hl, hn⟩ := mem_links.1 hx
  have := best_none n h l hl
  simp [narAt, this] at hn
theorem in_links {sh : Nat → Option (Int × Int)} {n : Nat} {x : Int} (hx : 0 ≤ x) : inB (linksTo sh n) x = narAt sh n x.toNat := by
  rw [Bool.eq_iff_iff]
  have : inB (linksTo sh n) x = true ↔ x ∈ linksTo sh n := by simp [inB]
  rw [this, mem_links]
  constructor
  · rintro ⟨l, rfl, _, h⟩; simpa using h
  · intro h
    have hl : x.toNat < n := by
      apply Classical.byContradiction
      intro hn
      simp [narAt, hn] at h
    exact ⟨x.toNat, by omega, hl, h⟩
theorem any_links {sh : Nat → Option (Int × Int)} {n : Nat} {p : List Int} (hp : ∀ x ∈ p, 0 ≤ x) : p.any (fun x => inB (linksTo sh n) x) = p.any (fun x => narAt sh n x.toNat) := by
  rw [Bool.eq_iff_iff, List.any_eq_true, List.any_eq_true]
  constructor
  · rintro ⟨x, hx, h⟩; exact ⟨x, hx, by rw [← in_links (hp x hx)]; exact h⟩
  · rintro ⟨x, hx, h⟩; exact ⟨x, hx, by rw [in_links (hp x hx)]; exact h⟩

/-! ### flow by flow -/
theorem usersFrom_app (link : Int) : ∀ (a b : List (List Int)) (i : Nat), usersFrom link i (a ++ b) = usersFrom link i a ++ usersFrom link (i + a.length) b := by
  intro a
  induction a with
  | nil => intro b i; simp [usersFrom]
  | cons p r ih =>
    intro b i
    simp only [List.cons_append, usersFrom, ih]
    have e : i + 1 + r.length = i + (p :: r).length := by simp; omega
    rw [e]
    split <;> simp
theorem users_take (paths : List (List Int)) (l : Int) (k : Nat) : users (paths.take k) l = (users paths l).take (users (paths.take k) l).length := by
  have e : users paths l = users (paths.take k) l ++ usersFrom l (0 + (paths.take k).length) (paths.drop k) := by
    unfold users
    rw [← usersFrom_app, List.take_append_drop]
  rw [e, List.take_left]
/-- what a link takes, less the rates of the first k flows that are not free, and how many of these are -/
def linkTo (caps : List Int) (paths : List (List Int)) (rate : List (Int × Int)) (done : List Bool) (l k : Nat) : (Int × Int) × Nat := linkSum rate done (users (paths.take k) l) (caps.getD l 0, 1) 0
theorem linkTo_zero (caps : List Int) (paths : List (List Int)) (rate : List (Int × Int)) (done : List Bool) (l : Nat) : linkTo caps paths rate done l 0 = ((caps.getD l 0, 1), 0) := rfl
theorem linkTo_step {caps : List Int} {paths : List (List Int)} {rate : List (Int × Int)} {done : List Bool} {l k : Nat} (hk : k < paths.length) :
    linkTo caps paths rate done l (k + 1) = if inB (paths.getD k []) l = true then (if dB done k = true then (sumP (linkTo caps paths rate done l k).1 (negP (rP rate k)), (linkTo caps paths rate done l k).2) else ((linkTo caps paths rate done l k).1, (linkTo caps paths rate done l k).2 + 1)) else linkTo caps paths rate done l k := by
  unfold linkTo
  rw [users_step paths l k hk, linkSum_append]
  by_cases h : inB (paths.getD k []) l = true
  · rw [if_pos h, if_pos h]
    simp only [linkSum, Int.toNat_natCast]
  · rw [if_neg h, if_neg h]
    simp only [linkSum]
theorem linkTo_all (caps : List Int) (paths : List (List Int)) (rate : List (Int × Int)) (done : List Bool) (l : Nat) : linkTo caps paths rate done l paths.length = linkSum rate done (users paths l) (caps.getD l 0, 1) 0 := by
  unfold linkTo
  rw [List.take_of_length_le (Nat.le_refl _)]
theorem linkTo_part (caps : List Int) (paths : List (List Int)) (rate : List (Int × Int)) (done : List Bool) (l k : Nat) : ∃ j, j ≤ paths.length ∧ linkTo caps paths rate done l k = linkSum rate done ((users paths l).take j) (caps.getD l 0, 1) 0 := by
  refine ⟨(users (paths.take k) l).length, ?_, ?_⟩
  · have := users_length (l : Int) 0 (paths.take k)
    have h2 : (paths.take k).length ≤ paths.length := by rw [List.length_take]; omega
    unfold users
    omega
  · unfold linkTo
    rw [← users_take]
theorem linkTo_free {caps : List Int} {paths : List (List Int)} {rate : List (Int × Int)} {done : List Bool} {l : Nat} : ∀ k, k ≤ paths.length → (linkTo caps paths rate done l k).2 ≤ k := by
  intro k
  induction k with
  | zero => intro _; rw [linkTo_zero]; exact Nat.le_refl 0
  | succ k ih =>
    intro hk
    have := ih (by omega)
    rw [linkTo_step (by omega)]
    split
    · split <;> simp <;> omega
    · omega

/-! ### who is free -/
def freeL (done : List Bool) : List Bool := done.map (fun b => !b)
theorem freeL_length (done : List Bool) : (freeL done).length = done.length := by simp [freeL]
theorem free_cell {done : List Bool} {m : Nat} (h : m < done.length) : (boolsV (freeL done))[m]? = some (.bool (!dB done m)) := by
  simp [boolsV, freeL, dB, List.getD, List.getElem?_eq_getElem h]
theorem freeL_start (n : Nat) : freeL (List.replicate n false) = List.replicate n true := by simp [freeL]
theorem freeL_set (done : List Bool) (m : Nat) : freeL (done.set m true) = (freeL done).set m false := by simp [freeL, List.map_set]
theorem free_any {paths : List (List Int)} {done : List Bool} (hl : done.length = paths.length) : (freeL done).any id = decide (freeN paths done ≠ 0) := by
  rw [Bool.eq_iff_iff, List.any_eq_true, decide_eq_true_eq]
  unfold freeN
  rw [Ne, List.countP_eq_zero]
  constructor
  · rintro ⟨b, hb, h⟩ hn
    obtain ⟨i, hi, rfl⟩ := List.mem_iff_getElem.1 hb
    rw [freeL_length] at hi
    have := hn i (List.mem_range.2 (by omega))
    simp [freeL] at h
    simp [dB, List.getD, List.getElem?_eq_getElem hi, h] at this
  · intro hn
    apply Classical.byContradiction
    intro hc
    refine hn (fun f hf => ?_)
    have hf' := List.mem_range.1 hf
    intro hd
    refine hc ⟨true, ?_, rfl⟩
    have h1 : done[f]'(by omega) = false := by
      simpa [dB, List.getD, List.getElem?_eq_getElem (show f < done.length by omega)] using hd
    unfold freeL
    rw [List.mem_map]
    exact ⟨false, by rw [← h1]; exact List.getElem_mem _, rfl⟩
theorem setDone_snoc {done : List Bool} {rd : List Int} {m : Nat} (hl : m < done.length) : setDone done (rd ++ [(m : Int)]) = (setDone done rd).set m true := by
  have h := setDone_step (done := done) (rd := rd ++ [(m : Int)]) (i := rd.length) (m := m) (by simp) (by simp [List.getD]) hl
  rw [List.take_left] at h
  rw [← h, List.take_of_length_le (by simp)]
theorem setRate_snoc {rate : List (Int × Int)} {rd : List Int} {b : Int × Int} {m : Nat} (hl : m < rate.length) : setRate rate (rd ++ [(m : Int)]) b = (setRate rate rd b).set m b := by
  have h := setRate_step (rate := rate) (rd := rd ++ [(m : Int)]) (b := b) (i := rd.length) (m := m) (by simp) (by simp [List.getD]) hl
  rw [List.take_left] at h
  rw [← h, List.take_of_length_le (by simp)]
theorem roundTo_lt {paths : List (List Int)} {done : List Bool} {nar : Nat → Bool} {k : Nat} {x : Int} (h : x ∈ roundTo paths done nar k) : x < k := by
  unfold roundTo at h
  rw [List.mem_map] at h
  obtain ⟨a, ha, rfl⟩ := h
  rw [List.mem_filter, List.mem_range] at ha
  omega
theorem free_yet {paths : List (List Int)} {done : List Bool} {nar : Nat → Bool} {k : Nat} (hk : k < done.length) : dB (setDone done (roundTo paths done nar k)) k = dB done k := by
  rw [dB_setDone hk]
  have : ¬ ((k : Int) ∈ roundTo paths done nar k) := fun h => by have := roundTo_lt h; omega
  simp [this]
theorem setDone_length (done : List Bool) (rd : List Int) : (setDone done rd).length = done.length := by simp [setDone]
theorem setRate_length (rate : List (Int × Int)) (rd : List Int) (b : Int × Int) : (setRate rate rd b).length = rate.length := by simp [setRate]
end Fl
end Go.Proofs.YtajihmkbnepbjajDoor

/- What is asked of package fill's Rates, as the document says it. -/
namespace Go.Proofs.YtajihmkbnepbjajDoor
namespace Fl
open Go.RowKit Fr Ns Ld

def RatesSaid : Prop := ∀ (Q : Nat → Prop) (caps : List Int) (paths : List (List Int)) (v : Value) (w : World), NetAt Q w v caps paths →
  Calls Tryd.prog 46 #[v] w fun e w' => ∃ y, e = .returned (.tuple #[y, errV (netE caps paths)]) ∧
    FracsAt (fun b => w.heap.size ≤ b) w' y (okL (netE caps paths) (fill caps paths).1) ∧ Below w.heap.size w w'
end Fl
end Go.Proofs.YtajihmkbnepbjajDoor

/- What is asked of package net's Drop, as the document says it. -/
namespace Go.Proofs.YtajihmkbnepbjajDoor
namespace Ns
open Go.RowKit Fr

def DropSaid : Prop := ∀ (Q : Nat → Prop) (caps : List Int) (paths : List (List Int)) (flow : Int) (v : Value) (w : World), NetAt Q w v caps paths →
  Calls Tryd.prog 47 #[v, .int .i64 flow] w fun e w' => ∃ x, e = .returned (.tuple #[x, errV (dropE caps paths flow)]) ∧
    NetAt (fun b => w.heap.size ≤ b) w' x (okL (dropE caps paths flow) caps) (okL (dropE caps paths flow) (less paths flow)) ∧ Below w.heap.size w w'
end Ns
end Go.Proofs.YtajihmkbnepbjajDoor

/- From the reading of an argument to what a walk is told of it: a list of ints. -/
namespace Go.Proofs.YtajihmkbnepbjajDoor
namespace Ns
open Go.ChangeShapes Go.WideShapes Go.ChangeAt Go.RowKit Go.Joins Go.Deep
set_option linter.unusedVariables false
set_option linter.unusedSimpArgs false

theorem cellsInt : Tryd.prog.cellsOf 3 = 1 := by kernel_rfl

theorem addr_none {w : World} {a : Addr} {v : Value} (h : w.cell? (a.add 0) = some v) : ∃ b off, a = ⟨b, off, none⟩ := by
  obtain ⟨b, off, spot⟩ := a
  have hs : spot = none := by simpa [Addr.add] using World.cell?_spot h
  subst hs
  exact ⟨b, off, rfl⟩
theorem add_addr' (b off i : Nat) : (⟨b, off, none⟩ : Addr).add i = ⟨b, off + i, none⟩ := by unfold Addr.add; split <;> simp_all

/-- a slice of ints, by its address, its cells and their numbers -/
theorem intsAt_of {w : World} {a : Option Addr} {len cap : Nat} {zs : List Int} (hl : len ≤ cap) (hm : cap ≤ maxLen) (hz : zs.length = cap) (h0 : a = none → cap = 0)
    (h : ∀ a', a = some a' → ∀ c, c < cap → w.cell? (a'.add c) = some (.int .i64 (zs.getD c 0))) : IntsAt (fun b => b < w.heap.size) w (.slice a len cap) (zs.take len) := by
  have hlen : (zs.take len).length = len := by rw [List.length_take]; omega
  unfold maxLen at hm
  refine ⟨a, cap, by rw [hlen], ⟨by omega, by omega⟩, ?_⟩
  by_cases hz0 : len = 0
  · exact .inl (by rw [hz0]; rfl)
  · right
    cases a with
    | none => have := h0 rfl; omega
    | some a' =>
      obtain ⟨b, off, rfl⟩ := addr_none (h a' rfl 0 (by omega))
      refine ⟨b, off, rfl, fun i hi => ?_, World.block_lt_of_cell? _ _ (h _ rfl 0 (by omega))⟩
      have := h _ rfl i (by omega)
      rw [add_addr'] at this
      rw [this]
      congr 2
      simp [List.getD, List.getElem?_take, show i < len by omega]

variable {H : Type} {enc : TypeId × Value → H}

theorem ints_of_trod {w : World} {n : Nat} {v : Value} {y : DataW H × List MemPlace} (h : DataW.trod enc Tryd.prog w 0 (fun _ => true) true n 33 [v] = some y) : ∃ l, IntsAt (fun b => b < w.heap.size) w v l := by
  rcases open_ints Tryd.underlying33 Tryd.underlying3 cellsInt h with ⟨hcs, _⟩ | ⟨a, len, cap, zs, hcs, _, hl, hm, hz, _, hcell, hwz⟩
  · simp at hcs
    subst hcs
    exact ⟨[], none, 0, rfl, ⟨Nat.le_refl _, by simp⟩, .inl rfl⟩
  · simp at hcs
    subst hcs
    have hz' : zs.length = cap := by simpa using hz
    exact ⟨_, intsAt_of hl hm hz' (by intro h; cases h) (fun a' ha c hc => by cases ha; exact hcell c (by omega))⟩

set_option maxRecDepth 100000 in
theorem intsArg_of_trod {w : World} {base : Nat} {v : Value} {d : DataW H} {p : List MemPlace} (hv : Value.okWide Tryd.prog w .any base 33 v) (h : DataW.Trod enc Tryd.prog w 0 (fun _ => true) true 33 v d p) : ∃ l, IntsAt (fun b => b < w.heap.size) w v l := by
  obtain ⟨a, len, cap, rfl⟩ := okWide_slice Tryd.underlying33 hv
  obtain ⟨fuel, hf⟩ := h
  exact ints_of_trod (by simpa [Value.cells] using hf)
end Ns
end Go.Proofs.YtajihmkbnepbjajDoor

/- From the reading of an argument to what a walk is told of it: a list of lists, a net. -/
namespace Go.Proofs.YtajihmkbnepbjajDoor
namespace Ns
open Go.ChangeShapes Go.WideShapes Go.ChangeAt Go.RowKit Go.Joins Go.Deep
set_option linter.unusedVariables false
set_option linter.unusedSimpArgs false

theorem cellsInts : Tryd.prog.cellsOf 33 = 1 := by kernel_rfl
theorem cellsNet : Tryd.prog.cellsOf 49 = 2 := by kernel_rfl
variable {H : Type} {enc : TypeId × Value → H}

theorem lists_of_trod {w : World} {n : Nat} {v : Value} {y : DataW H × List MemPlace} (h : DataW.trod enc Tryd.prog w 0 (fun _ => true) true n 47 [v] = some y) : ∃ ll, ListsAt (fun b => b < w.heap.size) w v ll := by
  rcases open_int_rows Tryd.underlying47 Tryd.underlying33 Tryd.underlying3 cellsInts cellsInt h with ⟨hcs, _⟩ | ⟨a, len, cap, A, L, C, Z, hcs, _, hl, hm, _, hr⟩
  · simp at hcs
    subst hcs
    exact ⟨[], none, 0, rfl, ⟨Nat.le_refl _, by simp⟩, .inl rfl⟩
  · simp at hcs
    subst hcs
    have hlen : ((List.range len).map (fun r => (Z r).take (L r))).length = len := by simp
    refine ⟨(List.range len).map (fun r => (Z r).take (L r)), some a, cap, by rw [hlen], ⟨by omega, by unfold maxLen at hm; omega⟩, ?_⟩
    by_cases hz0 : len = 0
    · exact .inl (by rw [hz0]; rfl)
    · right
      obtain ⟨b, off, rfl⟩ := addr_none (hr 0 (by omega)).1
      refine ⟨b, off, rfl, fun i hi => ?_, World.block_lt_of_cell? _ _ (hr 0 (by omega)).1⟩
      rw [hlen] at hi
      obtain ⟨h1, h2, h3, h4, _, h6, h7⟩ := hr i (by omega)
      rw [add_addr'] at h1
      refine ⟨_, h1, ?_⟩
      have e : ((List.range len).map (fun r => (Z r).take (L r))).getD i [] = (Z i).take (L i) := by simp [List.getD, List.getElem?_range hi]
      rw [e]
      exact intsAt_of h2 h3 h4 h6 (fun a' ha c hc => (h7 a' ha).2 c hc)

set_option maxRecDepth 100000 in
theorem listsArg_of_trod {w : World} {base : Nat} {v : Value} {d : DataW H} {p : List MemPlace} (hv : Value.okWide Tryd.prog w .any base 47 v) (h : DataW.Trod enc Tryd.prog w 0 (fun _ => true) true 47 v d p) : ∃ ll, ListsAt (fun b => b < w.heap.size) w v ll := by
  obtain ⟨a, len, cap, rfl⟩ := okWide_slice Tryd.underlying47 hv
  obtain ⟨fuel, hf⟩ := h
  exact lists_of_trod (by simpa [Value.cells] using hf)

set_option maxRecDepth 100000 in
theorem net_of_trod {w : World} {base : Nat} {v : Value} {d : DataW H} {p : List MemPlace} (hv : Value.okWide Tryd.prog w .any base 49 v) (h : DataW.Trod enc Tryd.prog w 0 (fun _ => true) true 49 v d p) : ∃ caps paths, NetAt (fun b => b < w.heap.size) w v caps paths := by
  obtain ⟨c0, c1, y0, y1, m, rfl, rfl, rfl, hy0, hy1⟩ := open_agg2 Tryd.underlying49 (by kernel_rfl) cellsNet hv h
  obtain ⟨l, hl⟩ := ints_of_trod hy0
  obtain ⟨ll, hll⟩ := lists_of_trod hy1
  exact ⟨l, ll, c0, c1, rfl, hl, hll⟩

end Ns
end Go.Proofs.YtajihmkbnepbjajDoor
