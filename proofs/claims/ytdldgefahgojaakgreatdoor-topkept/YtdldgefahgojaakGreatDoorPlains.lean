/- Facts and contracts that the walks lean on, one text behind the other; no walk of Go in them. -/
import Derived.Test.YtdldgefahgojaakGreatDoorPlainsA
import Derived.Deep.RegionLaw
import Derived.OwnWalk
import Derived.Deep.Quiet
import Derived.Deep.QuietTactic
import Derived.BigQuiet
import Derived.RangeFuncNested
import Derived.RangeFuncBound
import Derived.RangeFuncCalls
import Derived.RangeFuncLeaves
import Derived.Deep.Cut
import Derived.ProofKit
import Derived.OpenShut
import Derived.Lib.SmallJoins
import Derived.Deep.Matrix
import Derived.Deep.SlicePairs
/- The records of the landed log: what bytes an Add and a Drop write down, and what is found among them again. No Go in it. -/
namespace Go.Proofs.YtdldgefahgojaakGreatDoor.Ev
open Ns
set_option linter.unusedSimpArgs false
set_option linter.unusedVariables false

/-- a record: its first byte tells how many are behind it (0: one) -/
def RecR (r : List Nat) : Prop := 2 ≤ r.length ∧ r.length = 1 + max (r.getD 0 0) 1 ∧ r.length ≤ 7 ∧ ∀ x ∈ r, x ≤ 255
/-- what a record makes of the flows -/
def stepR (f : Flows) (r : List Nat) : Flows := if r.getD 0 0 = 0 then lessF f (r.getD 1 0 : Nat) else f ++ [(r.drop 1).map fun (x : Nat) => (x : Int)]
def doneR (f : Flows) : List (List Nat) → List Flows
  | [] => [f]
  | r :: rs => f :: doneR (stepR f r) rs
def marksR (p : Nat) : List (List Nat) → List Nat
  | [] => [p]
  | r :: rs => p :: marksR (p + r.length) rs
/-- a record may stand behind these flows -/
def MayR (f : Flows) (r : List Nat) : Prop := RecR r ∧ (r.getD 0 0 = 0 → r.getD 1 0 < f.length) ∧ (r.getD 0 0 ≠ 0 → f.length < 6)
def AllR (f : Flows) : List (List Nat) → Prop
  | [] => True
  | r :: rs => MayR f r ∧ AllR (stepR f r) rs

theorem doneR_len (rs : List (List Nat)) : ∀ f, (doneR f rs).length = rs.length + 1 := by
  induction rs with
  | nil => intro f; rfl
  | cons r rs ih => intro f; simp [doneR, ih]
theorem marksR_len (rs : List (List Nat)) : ∀ p, (marksR p rs).length = rs.length + 1 := by
  induction rs with
  | nil => intro f; rfl
  | cons r rs ih => intro f; simp [marksR, ih]
theorem getD_cons_succ' {α : Type} (x d : α) (l : List α) (k : Nat) : (x :: l).getD (k + 1) d = l.getD k d := by simp [List.getD]
theorem flowsL_cons (f : Flows) (d : List Flows) (h : 0 < d.length) : flowsL (f :: d) = flowsL d := by
  unfold flowsL
  rw [List.length_cons, show d.length + 1 - 1 = (d.length - 1) + 1 by omega, getD_cons_succ']
theorem topM_cons (p : Nat) (m : List Nat) (h : 0 < m.length) : topM (p :: m) = topM m := by
  unfold topM
  rw [List.length_cons, show m.length + 1 - 1 = (m.length - 1) + 1 by omega, getD_cons_succ']
theorem doneR_snoc (rs : List (List Nat)) (r : List Nat) : ∀ f, doneR f (rs ++ [r]) = doneR f rs ++ [stepR (flowsL (doneR f rs)) r] := by
  induction rs with
  | nil => intro f; rfl
  | cons x rs ih =>
    intro f
    simp only [List.cons_append, doneR, ih]
    rw [flowsL_cons _ _ (by rw [doneR_len]; omega)]
theorem marksR_snoc (rs : List (List Nat)) (r : List Nat) : ∀ p, marksR p (rs ++ [r]) = marksR p rs ++ [topM (marksR p rs) + r.length] := by
  induction rs with
  | nil => intro f; rfl
  | cons x rs ih =>
    intro p
    simp only [List.cons_append, marksR, ih]
    rw [topM_cons _ _ (by rw [marksR_len]; omega)]
theorem allR_snoc (rs : List (List Nat)) (r : List Nat) : ∀ f, AllR f rs → MayR (flowsL (doneR f rs)) r → AllR f (rs ++ [r]) := by
  induction rs with
  | nil => intro f _ h; exact ⟨h, trivial⟩
  | cons x rs ih =>
    intro f h hm
    refine ⟨h.1, ih _ h.2 ?_⟩
    rw [doneR, flowsL_cons _ _ (by rw [doneR_len]; omega)] at hm
    exact hm
theorem doneR_take (rs : List (List Nat)) : ∀ f k, (doneR f rs).take (k + 1) = doneR f (rs.take k) := by
  induction rs with
  | nil => intro f k; cases k <;> simp [doneR]
  | cons r rs ih =>
    intro f k
    cases k with
    | zero => simp [doneR]
    | succ k => simp only [doneR, List.take_succ_cons, ih]
theorem marksR_take (rs : List (List Nat)) : ∀ p k, (marksR p rs).take (k + 1) = marksR p (rs.take k) := by
  induction rs with
  | nil => intro f k; cases k <;> simp [marksR]
  | cons r rs ih =>
    intro f k
    cases k with
    | zero => simp [marksR]
    | succ k => simp only [marksR, List.take_succ_cons, ih]
theorem allR_take (rs : List (List Nat)) : ∀ f k, AllR f rs → AllR f (rs.take k) := by
  induction rs with
  | nil => intro f k _; cases k <;> exact trivial
  | cons r rs ih =>
    intro f k h
    cases k with
    | zero => exact trivial
    | succ k => exact ⟨h.1, ih _ _ h.2⟩
theorem marksR_at (rs : List (List Nat)) : ∀ p k, k ≤ rs.length → (marksR p rs).getD k 0 = p + (rs.take k).flatten.length := by
  induction rs with
  | nil => intro p k h; simp at h; subst h; simp [marksR]
  | cons r rs ih =>
    intro p k h
    cases k with
    | zero => simp [marksR]
    | succ k =>
      rw [marksR, getD_cons_succ', ih _ _ (by simpa using h)]
      simp only [List.take_succ_cons, List.flatten_cons, List.length_append]
      omega
theorem doneR_at (rs : List (List Nat)) : ∀ f k, k < rs.length → (doneR f rs).getD (k + 1) [] = stepR ((doneR f rs).getD k []) (rs.getD k []) := by
  induction rs with
  | nil => intro f k h; simp at h
  | cons r rs ih =>
    intro f k h
    cases k with
    | zero => cases rs <;> simp [doneR]
    | succ k =>
      rw [doneR, getD_cons_succ', getD_cons_succ', getD_cons_succ', ih _ _ (by simpa using h)]
theorem allR_at (rs : List (List Nat)) : ∀ f k, k < rs.length → AllR f rs → MayR ((doneR f rs).getD k []) (rs.getD k []) := by
  induction rs with
  | nil => intro f k h; simp at h
  | cons r rs ih =>
    intro f k h ha
    cases k with
    | zero => simpa [doneR] using ha.1
    | succ k =>
      rw [doneR, getD_cons_succ', getD_cons_succ']
      exact ih _ _ (by simpa using h) ha.2
theorem topM_marks (rs : List (List Nat)) : topM (marksR 0 rs) = rs.flatten.length := by
  unfold topM
  rw [marksR_len, Nat.add_sub_cancel, marksR_at _ _ _ (Nat.le_refl _), List.take_length, Nat.zero_add]

/-- how the bytes B are those of a log: its records, and behind them what is there of one at which it stopped -/
structure BytesR (s : LogS) (B : List Nat) (rs : List (List Nat)) (half : List Nat) : Prop where
  all : AllR [] rs
  done : s.done = doneR [] rs
  marks : s.marks = marksR 0 rs
  bytes : B = rs.flatten ++ half
  torn : half = [] ∨ ∃ r, RecR r ∧ half = r.take (r.length / 2)
  small : ∀ x ∈ B, x ≤ 255

/-- where record k begins -/
def posR (rs : List (List Nat)) (k : Nat) : Nat := (rs.take k).flatten.length
theorem posR_0 (rs : List (List Nat)) : posR rs 0 = 0 := by simp [posR]
theorem posR_step (rs : List (List Nat)) (k : Nat) (h : k < rs.length) : posR rs (k + 1) = posR rs k + (rs.getD k []).length := by
  unfold posR
  have e : rs.take (k + 1) = rs.take k ++ [rs.getD k []] := by rw [List.take_add_one, List.getElem?_eq_getElem h]; simp [List.getD, List.getElem?_eq_getElem h]
  rw [e, List.flatten_append, List.length_append, List.flatten_singleton]
theorem posR_all (rs : List (List Nat)) (k : Nat) (h : rs.length ≤ k) : posR rs k = rs.flatten.length := by unfold posR; rw [List.take_of_length_le h]
theorem posR_mono (rs : List (List Nat)) : ∀ k j, k ≤ j → posR rs k ≤ posR rs j := by
  intro k j h
  induction j with
  | zero => obtain rfl : k = 0 := by omega
            exact Nat.le_refl _
  | succ j ih =>
    by_cases e : k = j + 1
    · subst e; exact Nat.le_refl _
    · have h1 := ih (by omega)
      by_cases hj : j < rs.length
      · rw [posR_step rs j hj]; omega
      · rw [posR_all rs (j + 1) (by omega)]
        rw [posR_all rs j (by omega)] at h1
        exact h1
/-- a byte of record k -/
theorem at_rec {rs : List (List Nat)} {half : List Nat} {k i : Nat} (hk : k < rs.length) (hi : i < (rs.getD k []).length) : (rs.flatten ++ half).getD (posR rs k + i) 0 = (rs.getD k []).getD i 0 := by
  have e : rs.flatten = (rs.take k).flatten ++ ((rs.getD k []) ++ (rs.drop (k + 1)).flatten) := by
    conv => lhs; rw [← List.take_append_drop k rs]
    rw [List.flatten_append]
    congr 1
    rw [List.drop_eq_getElem_cons hk, List.flatten_cons]
    simp [List.getD, List.getElem?_eq_getElem hk]
  rw [e, List.append_assoc, List.getD, List.getElem?_append_right (by unfold posR; omega)]
  rw [show posR rs k + i - (rs.take k).flatten.length = i by unfold posR; omega, List.append_assoc, List.getElem?_append_left hi]
  rfl
theorem at_half {rs : List (List Nat)} {half : List Nat} {i : Nat} : (rs.flatten ++ half).getD (posR rs rs.length + i) 0 = half.getD i 0 := by
  rw [posR_all rs _ (Nat.le_refl _), List.getD, List.getElem?_append_right (by omega), show rs.flatten.length + i - rs.flatten.length = i by omega]
  rfl
theorem leftK_top (m : List Nat) (H : Nat) : ∀ k j, j < k → leftK m H k < j → ¬ m.getD j 0 ≤ H := by
  intro k
  induction k with
  | zero => intro j h; omega
  | succ k ih =>
    intro j h h2
    unfold leftK at h2
    split at h2
    · omega
    · by_cases e : j = k
      · subst e; assumption
      · exact ih j (by omega) h2
/-- what the bytes up to H hold: N whole records, and then none -/
theorem bytes_upto {s : LogS} {B : List Nat} {rs : List (List Nat)} {half : List Nat} (h : BytesR s B rs half) {H : Nat} (hH : H ≤ B.length) :
    ∃ N, N = leftN' s.marks H ∧ N ≤ rs.length ∧ (∀ k, k < N → posR rs (k + 1) = posR rs k + (1 + max (B.getD (posR rs k) 0) 1) ∧ posR rs (k + 1) ≤ H) ∧ posR rs N ≤ H ∧
      (posR rs N < H → H < posR rs N + (1 + max (B.getD (posR rs N) 0) 1)) := by
  refine ⟨leftN' s.marks H, rfl, ?_⟩
  have hm := h.marks
  have hat : ∀ k, k ≤ rs.length → s.marks.getD k 0 = posR rs k := fun k hk => by rw [hm, marksR_at rs 0 k hk, Nat.zero_add]; rfl
  have hlen : s.marks.length = rs.length + 1 := by rw [hm, marksR_len]
  have h0 : s.marks.getD 0 0 ≤ H := by rw [hat 0 (by omega), posR_0]; exact Nat.zero_le _
  have hbd := leftK_bd s.marks H h0 s.marks.length
  have htop := leftK_top s.marks H s.marks.length
  unfold leftN'
  generalize leftK s.marks H s.marks.length = N at hbd htop ⊢
  have hN : N ≤ rs.length := by omega
  have hNH : posR rs N ≤ H := by have := hbd.2; rwa [hat N hN] at this
  have hsz : ∀ k, k < rs.length → posR rs (k + 1) = posR rs k + (1 + max (B.getD (posR rs k) 0) 1) := by
    intro k hk
    have hr := (allR_at rs [] k hk h.all).1
    have e := at_rec (half := half) (i := 0) hk (by have := hr.1; omega)
    rw [← h.bytes, Nat.add_zero] at e
    rw [posR_step rs k hk, e, hr.2.1]
  refine ⟨hN, fun k hk => ⟨hsz k (by omega), Nat.le_trans (posR_mono rs _ _ hk) hNH⟩, hNH, fun hlt => ?_⟩
  by_cases e : N < rs.length
  · have := htop (N + 1) (by omega) (by omega)
    rw [hat (N + 1) (by omega)] at this
    rw [← hsz N e]; omega
  · obtain rfl : N = rs.length := by omega
    have e0 := at_half (rs := rs) (half := half) (i := 0)
    rw [← h.bytes, Nat.add_zero] at e0
    have hB : B.length = posR rs rs.length + half.length := by rw [h.bytes, List.length_append, posR_all rs _ (Nat.le_refl _)]
    rcases h.torn with rfl | ⟨r, hr, rfl⟩
    · simp at hB; omega
    · rw [e0]
      have hl : (r.take (r.length / 2)).length = r.length / 2 := by rw [List.length_take]; omega
      have h2 := hr.1
      have e1 : (r.take (r.length / 2)).getD 0 0 = r.getD 0 0 := getD_take _ _ _ _ (by omega)
      have := hr.2.1
      rw [e1]; omega
/-- a path as a record -/
def addR (p : List Int) : List Nat := p.length :: p.map Int.toNat
def dropR (i : Int) : List Nat := [0, i.toNat]
theorem recR_add {L : Nat} {p : List Int} (hL : L ≤ 6) (hp : pathE L p = 0) (h1 : 1 ≤ p.length) (h6 : p.length ≤ 6) (hb : ∀ x ∈ p, 0 ≤ x ∧ x < L) : RecR (addR p) := by
  refine ⟨by simp [addR]; omega, by simp [addR]; omega, by simp [addR]; omega, fun x hx => ?_⟩
  simp only [addR, List.mem_cons, List.mem_map] at hx
  rcases hx with rfl | ⟨y, hy, rfl⟩
  · omega
  · have := hb y hy; omega
theorem stepR_add {f : Flows} {p : List Int} (h1 : 1 ≤ p.length) (hb : ∀ x ∈ p, 0 ≤ x) : stepR f (addR p) = f ++ [p] := by
  have e0 : (addR p).getD 0 0 = p.length := by simp [addR]
  unfold stepR
  rw [e0, if_neg (by omega)]
  congr 2
  simp only [addR, List.drop_succ_cons, List.drop_zero, List.map_map]
  conv => rhs; rw [← List.map_id p]
  refine List.map_congr_left fun x hx => ?_
  have := hb x hx
  simp only [Function.comp, id]
  omega
theorem recR_drop {i : Int} (h : i < 256) : RecR (dropR i) := by
  refine ⟨by simp [dropR], by simp [dropR], by simp [dropR], fun x hx => ?_⟩
  simp [dropR] at hx
  rcases hx with rfl | rfl <;> omega
theorem stepR_drop {f : Flows} {i : Int} (h : 0 ≤ i) : stepR f (dropR i) = lessF f i := by
  have e0 : (dropR i).getD 0 0 = 0 := rfl
  have e1 : (dropR i).getD 1 0 = i.toNat := rfl
  unfold stepR
  rw [e0, if_pos rfl, e1]
  congr 1
  omega
/-- a record more -/
theorem BytesR.put {s : LogS} {B : List Nat} {rs : List (List Nat)} (h : BytesR s B rs []) {r : List Nat} (hr : MayR s.flows r) (hB : s.bytes = B.length) (hl : s.left ≠ 0) : BytesR (putS s r.length (stepR s.flows r)) (B ++ r) (rs ++ [r]) [] := by
  have hput : putS s r.length (stepR s.flows r) = { s with done := s.done ++ [stepR s.flows r], marks := s.marks ++ [s.bytes + r.length], bytes := s.bytes + r.length, left := if 0 < s.left then s.left - 1 else s.left } := by unfold putS; rw [if_neg hl]
  have hf : s.flows = flowsL (doneR [] rs) := by unfold LogS.flows; rw [h.done]
  have hBl : B.length = rs.flatten.length := by rw [h.bytes]; simp
  rw [hput]
  refine ⟨allR_snoc _ _ _ h.all (hf ▸ hr), ?_, ?_, ?_, .inl rfl, fun x hx => ?_⟩
  · show s.done ++ [stepR s.flows r] = _
    rw [doneR_snoc, h.done, hf]
  · show s.marks ++ [s.bytes + r.length] = _
    rw [marksR_snoc, h.marks, topM_marks, hB, hBl]
  · rw [h.bytes]; simp
  · rcases List.mem_append.1 hx with hx | hx
    · exact h.small x hx
    · exact hr.1.2.2.2 x hx
/-- half of one more -/
theorem BytesR.half {s : LogS} {B : List Nat} {rs : List (List Nat)} (h : BytesR s B rs []) {r : List Nat} (hr : RecR r) (f : Flows) (hl : s.left = 0) : BytesR (putS s r.length f) (B ++ r.take (r.length / 2)) rs (r.take (r.length / 2)) := by
  have hput : putS s r.length f = { s with bytes := s.bytes + r.length / 2, stopped := true } := by unfold putS; rw [if_pos hl]
  rw [hput]
  refine ⟨h.all, h.done, h.marks, ?_, .inr ⟨r, hr, rfl⟩, fun x hx => ?_⟩
  · rw [h.bytes]; simp
  · rcases List.mem_append.1 hx with hx | hx
    · exact h.small x hx
    · exact hr.2.2.2 x (List.mem_of_mem_take hx)
/-- behind a crash -/
theorem BytesR.crash {s : LogS} {B : List Nat} {rs : List (List Nat)} {half : List Nat} (h : BytesR s B rs half) {keep : Int} {N : Nat} (hN : N = leftN' s.marks (highN s keep)) (hl : N ≤ rs.length) : BytesR (crashS s keep) (B.take (posR rs N)) (rs.take N) [] := by
  refine ⟨allR_take _ _ _ h.all, ?_, ?_, ?_, .inl rfl, fun x hx => h.small x (List.mem_of_mem_take hx)⟩
  · show s.done.take (leftN' s.marks (highN s keep) + 1) = _
    rw [← hN, h.done, doneR_take]
  · show s.marks.take (leftN' s.marks (highN s keep) + 1) = _
    rw [← hN, h.marks, marksR_take]
  · have e : rs.flatten = (rs.take N).flatten ++ (rs.drop N).flatten := by rw [← List.flatten_append, List.take_append_drop]
    rw [h.bytes, List.append_nil, e, List.append_assoc]
    exact List.take_left' rfl
end Go.Proofs.YtdldgefahgojaakGreatDoor.Ev

/- Slices of slices of int: rows of them that a call owns. -/
namespace Go.Proofs.YtdldgefahgojaakGreatDoor
namespace Ns
open Go.RowKit
set_option linter.unusedSimpArgs false
set_option linter.unusedVariables false

theorem infoInts : (Tryz.prog.info? 22).map (fun i => (i.zero, i.size, i.bytes)) = some (some (.slice none 0 0), 1, 24) := by kernel_rfl

/-- a row of slices that the call owns is a list of lists -/
theorem lists_of_owns {Q : Nat → Prop} {w : World} {base : Nat} {v : Value} {ll : List (List Int)} {vs : List Value} (hl : ll.length ≤ 9223372036854775807) (hvs : vs.length = ll.length) (h : w.ownsRow base 22 1 v ll.length vs)
    (hi : ∀ i, i < ll.length → IntsAt Q w (vs.getD i undef) (ll.getD i [])) (hQ : ∀ g, base ≤ g → Q g) : ListsAt Q w v ll := by
  have h' := h
  obtain ⟨h0, h⟩ := h
  rcases h with ⟨rfl, h⟩ | ⟨g, cap, cur, rfl, hb, hg, hc, hm, hs, ht⟩
  · have : ll = [] := List.eq_nil_of_length_eq_zero h
    subst this
    exact ⟨none, 0, rfl, ⟨Nat.le_refl _, by simp⟩, .inl rfl⟩
  · refine ⟨_, cap, rfl, ⟨hc, hl⟩, .inr ⟨g, 0, rfl, fun i hi' => ⟨vs.getD i undef, ?_, hi i hi'⟩, hQ g hb⟩⟩
    have := h'.cells (g := g) rfl i (vs.getD i undef) (by simp [List.getD, List.getElem?_eq_getElem (show i < vs.length by omega)])
    rw [add_addr] at this
    exact this

end Ns
end Go.Proofs.YtdldgefahgojaakGreatDoor

/- An append as a step of a region that draws its order, and a list without one of its places. -/
namespace Go.Proofs.YtdldgefahgojaakGreatDoor
namespace Ns
open Go.RowKit
set_option linter.unusedSimpArgs false
set_option linter.unusedVariables false

/-- an append to a row of the call's own, as a step of a region that draws its order -/
theorem step_append_own {P : Program} {ops : Array Oper} {o : Oper} {a : Act} {w : World} {K : Act → World → Prop} {Q : Exit → Act → World → Prop} {E : Prop} (hgd : o.guard = none) (s x : Operand) (t : TypeId)
    (ho : o.op = .call { callee := .builtin .append, args := #[s, x], argTypes := #[t, t] })
    (base : Nat) (e : TypeId) (i : TypeInfo) (z : Value) (size bytes : Nat) (ht : P.underlying t = some (.slice e)) (hi : P.info? e = some i) (hz : i.zero = some z)
    (hsize : i.size = size) (hby : i.bytes = bytes) (hzs : z.cells.size = size) (hsz : 0 < size)
    (v : Value) (n : Nat) (xs : List Value) (hs : a.eval s = v) (hown : w.ownsRow base e size v n xs)
    (ad : Addr) (m c : Nat) (news : List Value) (hx : a.eval x = .slice (some ad) m c) (hl : news.length = m * size) (hnews : ∀ j u, news[j]? = some u → w.cell? (ad.add j) = some u) (h1 : ∀ u ∈ news, u.oneCell' = true)
    (h63 : n + m ≤ maxLen) (hbytes : (n + m) * bytes ≤ 140737488355328) (hbase : base ≤ w.heap.size)
    (h : ∀ a' n' c' w', w'.ownsRow base e size (.slice a' n' c') (n + m) (xs ++ news) → w.grownBy w' v.ownBlock → K (a.put o.dst (.slice a' n' c')) w') :
    if Region.wanted o (yielded ops a.tmps) = true then Oper.wp P o a w K Q else E := by
  have hw : Region.wanted o (yielded ops a.tmps) = true := by simp [Region.wanted, hgd]
  rw [if_pos hw]
  refine wp_append_own w s x t ho base e i z size bytes ht hi hz hsize hby hzs hsz v n xs hs hown ad m c news hx hl hnews h1 h63 hbytes hbase ?_
  intro v' w' h2 h3 _
  obtain ⟨a', n', c', rfl⟩ : ∃ a n c, v' = .slice a n c := by
    rcases h2.2 with ⟨rfl, _⟩ | ⟨g, cap, cur, rfl, _⟩
    · exact ⟨_, _, _, rfl⟩
    · exact ⟨_, _, _, rfl⟩
  exact h a' n' c' w' h2 h3

theorem getD_without {α : Type} (l : List α) (k i : Nat) (hk : k < l.length) (d : α) : (l.take k ++ l.drop (k + 1)).getD i d = l.getD (if i < k then i else i + 1) d := by
  have hl : (l.take k).length = k := by rw [List.length_take]; omega
  by_cases h : i < k
  · rw [if_pos h]
    simp [List.getD, List.getElem?_append_left (show i < (l.take k).length by omega), List.getElem?_take, h]
  · rw [if_neg h]
    simp only [List.getD]
    rw [List.getElem?_append_right (by omega), hl, List.getElem?_drop]
    congr 2
    omega
end Ns
end Go.Proofs.YtdldgefahgojaakGreatDoor

/- The landed log in memory (package log): a struct, the links, a row of bytes, a row of flows; and what a call leaves of it. -/
namespace Go.Proofs.YtdldgefahgojaakGreatDoor
namespace Ev
open Go.RowKit Fr Ns Fl
set_option linter.unusedSimpArgs false
set_option linter.unusedVariables false

theorem infoByte : (Tryz.prog.info? 5).map (fun i => (i.zero, i.size, i.bytes)) = some (some (.int .u8 0), 1, 1) := by kernel_rfl
/-- bytes as cells -/
def u8s (B : List Nat) : List Value := B.map fun (x : Nat) => Value.int .u8 (x : Int)
theorem u8s_length (B : List Nat) : (u8s B).length = B.length := by simp [u8s]
theorem u8s_append (B C : List Nat) : u8s (B ++ C) = u8s B ++ u8s C := by simp [u8s]
theorem u8s_take (B : List Nat) (n : Nat) : u8s (B.take n) = (u8s B).take n := by simp [u8s, List.map_take]
theorem u8s_at {B : List Nat} {k : Nat} (h : k < B.length) : (u8s B)[k]? = some (.int .u8 ((B.getD k 0 : Nat) : Int)) := by simp [u8s, List.getD, List.getElem?_eq_getElem h]
theorem ones_u8 (B : List Nat) : ∀ u ∈ u8s B, u.oneCell' = true := by
  intro u hu
  obtain ⟨x, _, rfl⟩ := List.mem_map.1 hu
  rfl
/-- a row of the thing's own, wherever its block is kept -/
theorem own_keep {w w' : World} {base : Nat} {e : TypeId} {size n : Nat} {v : Value} {xs : List Value} (hk : ∀ g, v.ownBlock = some g → w'.heap[g]? = w.heap[g]?) (h : w.ownsRow base e size v n xs) : w'.ownsRow base e size v n xs := by
  obtain ⟨h0, h⟩ := h
  refine ⟨h0, ?_⟩
  rcases h with h | ⟨g, cap, cur, e1, hb, hg, hr⟩
  · exact .inl h
  · exact .inr ⟨g, cap, cur, e1, hb, by rw [hk g (by rw [e1]; rfl)]; exact hg, hr⟩
theorem own_base {w : World} {base base' : Nat} {e : TypeId} {size n : Nat} {v : Value} {xs : List Value} (hb : ∀ g, v.ownBlock = some g → base' ≤ g) (h : w.ownsRow base e size v n xs) : w.ownsRow base' e size v n xs := by
  obtain ⟨h0, h⟩ := h
  refine ⟨h0, ?_⟩
  rcases h with h | ⟨g, cap, cur, e1, _, hg, hr⟩
  · exact .inl h
  · exact .inr ⟨g, cap, cur, e1, hb g (by rw [e1]; rfl), hg, hr⟩
theorem own_lt {w : World} {base : Nat} {e : TypeId} {size n g : Nat} {v : Value} {xs : List Value} (h : w.ownsRow base e size v n xs) (hg : v.ownBlock = some g) : base ≤ g ∧ g < w.heap.size ∧ ∃ cur, w.heap[g]? = some (.cells cur e (0, 0)) := by
  rcases h.2 with ⟨rfl, _⟩ | ⟨g', cap, cur, e1, hb, hg', _⟩
  · simp [Value.ownBlock] at hg
  · rw [e1] at hg
    simp [Value.ownBlock] at hg
    subst hg
    exact ⟨hb, (Array.getElem?_eq_some_iff.1 hg').1, _, hg'⟩
theorem own_ne {w : World} {base base' : Nat} {e e' : TypeId} {size n size' n' g : Nat} {v v' : Value} {xs xs' : List Value} (h : w.ownsRow base e size v n xs) (h' : w.ownsRow base' e' size' v' n' xs') (hne : e ≠ e') (hg : v.ownBlock = some g) : v'.ownBlock ≠ some g := by
  intro hg'
  obtain ⟨_, _, c1, h1⟩ := own_lt h hg
  obtain ⟨_, _, c2, h2⟩ := own_lt h' hg'
  rw [h1] at h2
  simp at h2
  exact hne h2.2
theorem own_row {w : World} {base : Nat} {e T : TypeId} {size n g : Nat} {v : Value} {xs ys : List Value} (h : w.ownsRow base e size v n xs) (hr : RowAt w g T ys) (hne : e ≠ T) : v.ownBlock ≠ some g := by
  intro hg
  obtain ⟨_, _, c1, h1⟩ := own_lt h hg
  unfold RowAt at hr
  rw [h1] at hr
  simp at hr
  exact hne hr.2
/-- the first of a row's cells -/
theorem own_take {w : World} {base : Nat} {e : TypeId} {n m cap : Nat} {a : Option Addr} {xs : List Value} (h : w.ownsRow base e 1 (.slice a n cap) n xs) (hm : m ≤ n) : w.ownsRow base e 1 (.slice a m cap) m (xs.take m) := by
  obtain ⟨h0, h⟩ := h
  refine ⟨by rw [List.length_take]; omega, ?_⟩
  rcases h with ⟨e1, h1⟩ | ⟨g, cap', cur, e1, hb, hg, hc, hx, hs, ht⟩
  · simp only [Value.slice.injEq] at e1
    obtain ⟨rfl, rfl, rfl⟩ := e1
    exact .inl ⟨by rw [show m = 0 by omega], by omega⟩
  · simp only [Value.slice.injEq] at e1
    obtain ⟨rfl, -, rfl⟩ := e1
    refine .inr ⟨g, cap, cur, rfl, hb, hg, by omega, hx, hs, ?_⟩
    rw [← ht, List.take_take, Nat.min_eq_left (by omega), Nat.mul_one]
theorem own_cell {w : World} {base : Nat} {e : TypeId} {n cap : Nat} {a : Option Addr} {xs : List Value} (h : w.ownsRow base e 1 (.slice a n cap) n xs) : (n = 0 ∧ cap = 0 ∧ a = none) ∨ ∃ g, a = some ⟨g, 0, none⟩ ∧ n ≤ cap ∧ cap ≤ maxLen ∧ (∀ i, w.frozen? ⟨g, i, none⟩ = false) ∧ ∀ k x, xs[k]? = some x → w.cell? ⟨g, k, none⟩ = some x := by
  have h' := h
  rcases h.2 with ⟨e1, h1⟩ | ⟨g, cap', cur, e1, hb, hg, hc, hx, hs, ht⟩
  · simp only [Value.slice.injEq] at e1
    obtain ⟨rfl, -, rfl⟩ := e1
    exact .inl ⟨h1, rfl, rfl⟩
  · simp only [Value.slice.injEq] at e1
    obtain ⟨rfl, -, rfl⟩ := e1
    refine .inr ⟨g, rfl, hc, hx, fun i => frozen_of_row w g i _ e hg, fun k x hk => ?_⟩
    have := h'.cells (g := g) rfl k x hk
    rw [add_addr, Nat.zero_add] at this
    exact this

/-- flows in a row of the thing's own; their lists lie in other blocks of Q -/
structure OwnLs (w : World) (Q : Nat → Prop) (v : Value) (f : Flows) (ws : List Value) : Prop where
  row : w.ownsRow 0 22 1 v f.length ws
  each : ∀ i, i < f.length → IntsAt (fun b => Q b ∧ v.ownBlock ≠ some b) w (ws.getD i undef) (f.getD i [])
  own : ∀ b, v.ownBlock = some b → Q b
def newQ (Q : Nat → Prop) (w w' : World) (b : Nat) : Prop := Q b ∨ (w.heap.size ≤ b ∧ b < w'.heap.size)
theorem OwnLs.keep {w w' : World} {Q R : Nat → Prop} {v : Value} {f : Flows} {ws : List Value} (h : OwnLs w Q v f ws) (hk : ∀ b, Q b → b < w.heap.size → w'.heap[b]? = w.heap[b]?) (hR : ∀ b, Q b → b < w.heap.size → R b) : OwnLs w' R v f ws :=
  ⟨own_keep (fun b hb => hk b (h.own b hb) (own_lt h.row hb).2.1) h.row, fun i hi => (h.each i hi).keep (fun b hb hl => hk b hb.1 hl) (fun b hb hl => ⟨hR b hb.1 hl, hb.2⟩), fun b hb => hR b (h.own b hb) (own_lt h.row hb).2.1⟩
theorem OwnLs.nil (w : World) (Q : Nat → Prop) : OwnLs w Q (.slice none 0 0) [] [] :=
  ⟨World.ownsRow_nil _ _ _ _, fun i hi => by simp at hi, fun b hb => by simp [Value.ownBlock] at hb⟩
/-- as a list of lists -/
theorem OwnLs.lists {w : World} {Q : Nat → Prop} {v : Value} {f : Flows} {ws : List Value} (h : OwnLs w Q v f ws) (hl : f.length ≤ 1000) : ListsAt (fun _ => True) w v f := by
  have hwl : ws.length = f.length := by have := h.row.1; omega
  exact lists_of_owns (by omega) hwl h.row (fun i hi => (h.each i hi).keep (fun _ _ _ => rfl) (fun _ _ _ => trivial)) (fun _ _ => trivial)
/-- only one block has changed -/
def Only (g : Nat) (w w' : World) : Prop := Below 0 w w' ∧ ∀ b, b ≠ g → w'.heap[b]? = w.heap[b]?
/-- the blocks of a log behind a call -/
def Fn (F : Nat → Prop) (w w' : World) (b : Nat) : Prop := F b ∨ (w.heap.size ≤ b ∧ b < w'.heap.size)
/-- the log's blocks without its struct and its bytes -/
def Qo (F : Nat → Prop) (g : Nat) (bv : Value) (b : Nat) : Prop := F b ∧ b ≠ g ∧ bv.ownBlock ≠ some b
/-- the landed log's memory: the struct at the block g, the links, a row of bytes, a row of flows -/
structure LgMem (w : World) (g : Nat) (F : Nat → Prop) (cv bv fv : Value) (caps : List Int) (sf : Nat) (lf : Int) (st : Bool) (B : List Nat) (f : Flows) (ws : List Value) : Prop where
  cells : RowAt w g 54 [cv, bv, .int .i64 sf, fv, .int .i64 lf, .bool st]
  own : F g
  lt : ∀ b, F b → b < w.heap.size
  caps : IntsAt (fun b => Qo F g bv b ∧ fv.ownBlock ≠ some b) w cv caps
  bytes : w.ownsRow 0 5 1 bv B.length (u8s B)
  flows : OwnLs w (Qo F g bv) fv f ws
  fb : ∀ b, bv.ownBlock = some b → F b
section
variable {w w' : World} {g : Nat} {F : Nat → Prop} {cv bv fv bv' fv' : Value} {caps : List Int} {sf sf' : Nat} {lf lf' : Int} {st st' : Bool} {B C : List Nat} {f f' : Flows} {ws ws' : List Value}
theorem kept_lt {b : Nat} (h1 : w'.heap[b]? = w.heap[b]?) (h2 : b < w.heap.size) : b < w'.heap.size := by
  rw [Array.getElem?_eq_getElem h2] at h1
  exact (Array.getElem?_eq_some_iff.1 h1).1
theorem LgMem.keep (h : LgMem w g F cv bv fv caps sf lf st B f ws) (hk : ∀ b, F b → w'.heap[b]? = w.heap[b]?) : LgMem w' g F cv bv fv caps sf lf st B f ws := by
  refine ⟨?_, h.own, fun b hb => kept_lt (hk b hb) (h.lt b hb), h.caps.keep (fun b hb _ => hk b hb.1.1) (fun _ h _ => h), own_keep (fun b hb => hk b (h.fb b hb)) h.bytes, h.flows.keep (fun b hb _ => hk b hb.1) (fun _ h _ => h), h.fb⟩
  have := h.cells
  unfold RowAt at this ⊢
  rw [hk g h.own]; exact this
theorem LgMem.apart (h : LgMem w g F cv bv fv caps sf lf st B f ws) : bv.ownBlock ≠ some g ∧ fv.ownBlock ≠ some g ∧ ∀ b, bv.ownBlock = some b → fv.ownBlock ≠ some b :=
  ⟨own_row h.bytes h.cells (by decide), own_row h.flows.row h.cells (by decide), fun b hb => own_ne h.bytes h.flows.row (by decide) hb⟩
theorem LgMem.shape (h : LgMem w g F cv bv fv caps sf lf st B f ws) : (∃ a c, cv = .slice a caps.length c ∧ caps.length ≤ c) ∧ (∃ a c, bv = .slice a B.length c) ∧ ∃ a c, fv = .slice a f.length c := by
  obtain ⟨a, c, e, hm, _⟩ := h.caps
  exact ⟨⟨a, c, e, hm.1⟩, owns_shape h.bytes, owns_shape h.flows.row⟩
theorem LgMem.six (h : LgMem w g F cv bv fv caps sf lf st B f ws) : w.cell? ⟨g, 0, none⟩ = some cv ∧ w.cell? ⟨g, 1, none⟩ = some bv ∧ w.cell? ⟨g, 2, none⟩ = some (.int .i64 sf) ∧ w.cell? ⟨g, 3, none⟩ = some fv ∧ w.cell? ⟨g, 4, none⟩ = some (.int .i64 lf) ∧ w.cell? ⟨g, 5, none⟩ = some (.bool st) ∧ (∀ i, w.frozen? ⟨g, i, none⟩ = false) ∧ g < w.heap.size :=
  ⟨h.cells.cell rfl, h.cells.cell rfl, h.cells.cell rfl, h.cells.cell rfl, h.cells.cell rfl, h.cells.cell rfl, h.cells.frozen, h.cells.lt⟩
/-- the struct's own numbers are others -/
theorem LgMem.put (h : LgMem w g F cv bv fv caps sf lf st B f ws) (hc : RowAt w' g 54 [cv, bv, .int .i64 (sf' : Int), fv, .int .i64 lf', .bool st']) (hk : ∀ b, b ≠ g → w'.heap[b]? = w.heap[b]?) : LgMem w' g F cv bv fv caps sf' lf' st' B f ws := by
  obtain ⟨n1, n2, _⟩ := h.apart
  have hlt : ∀ b, F b → b < w'.heap.size := fun b hb => by
    by_cases e : b = g
    · subst e; exact hc.lt
    · exact kept_lt (hk b e) (h.lt b hb)
  exact ⟨hc, h.own, hlt, h.caps.keep (fun b hb _ => hk b hb.1.2.1) (fun _ h _ => h), own_keep (fun b hb => hk b (fun e => n1 (e ▸ hb))) h.bytes, h.flows.keep (fun b hb _ => hk b hb.2.1) (fun _ h _ => h), h.fb⟩
/-- other bytes -/
theorem LgMem.newB (h : LgMem w g F cv bv fv caps sf lf st B f ws) (hr : RowAt w' g 54 [cv, bv', .int .i64 sf, fv, .int .i64 lf, .bool st]) (hk : ∀ b, b < w.heap.size → b ≠ g → bv.ownBlock ≠ some b → w'.heap[b]? = w.heap[b]?) (hz : w.heap.size ≤ w'.heap.size)
    (ho : w'.ownsRow 0 5 1 bv' C.length (u8s C)) (hat : ∀ b, bv'.ownBlock = some b → bv.ownBlock = some b ∨ w.heap.size ≤ b) : LgMem w' g (Fn F w w') cv bv' fv caps sf lf st C f ws := by
  have q : ∀ b, Qo F g bv b → b < w.heap.size → Qo (Fn F w w') g bv' b := fun b hb hl => ⟨.inl hb.1, hb.2.1, fun e => by rcases hat b e with e | e; exact hb.2.2 e; omega⟩
  refine ⟨hr, .inl h.own, fun b hb => ?_, h.caps.keep (fun b hb hl => hk b hl hb.1.2.1 hb.1.2.2) (fun b hb hl => ⟨q b hb.1 hl, hb.2⟩), ho, h.flows.keep (fun b hb hl => hk b hl hb.2.1 hb.2.2) q, fun b hb => ?_⟩
  · rcases hb with hb | hb
    · have := h.lt b hb; omega
    · exact hb.2
  · rcases hat b hb with e | e
    · exact .inl (h.fb b e)
    · exact .inr ⟨e, (own_lt ho hb).2.1⟩
/-- other flows, and fewer bytes -/
theorem LgMem.newF (h : LgMem w g F cv bv fv caps sf lf st B f ws) (hr : RowAt w' g 54 [cv, bv', .int .i64 (sf' : Int), fv', .int .i64 lf', .bool st']) (hk : ∀ b, b < w.heap.size → b ≠ g → fv.ownBlock ≠ some b → w'.heap[b]? = w.heap[b]?) (hz : w.heap.size ≤ w'.heap.size)
    (ho : w'.ownsRow 0 5 1 bv' C.length (u8s C)) (hab : ∀ b, bv'.ownBlock = some b → bv.ownBlock = some b) (hof : OwnLs w' (newQ (Qo F g bv) w w') fv' f' ws') (hat : ∀ b, fv'.ownBlock = some b → fv.ownBlock = some b ∨ w.heap.size ≤ b) : LgMem w' g (Fn F w w') cv bv' fv' caps sf' lf' st' C f' ws' := by
  have hbl : ∀ b, bv'.ownBlock = some b → b < w.heap.size := fun b hb => (own_lt h.bytes (hab b hb)).2.1
  have hgl := h.cells.lt
  have q : ∀ b, newQ (Qo F g bv) w w' b → Qo (Fn F w w') g bv' b := fun b hb => by
    rcases hb with hb | hb
    · exact ⟨.inl hb.1, hb.2.1, fun e => hb.2.2 (hab b e)⟩
    · exact ⟨.inr hb, by omega, fun e => by have := hbl b e; omega⟩
  refine ⟨hr, .inl h.own, fun b hb => ?_, h.caps.keep (fun b hb hl => hk b hl hb.1.2.1 hb.2) (fun b hb hl => ⟨q b (.inl hb.1), fun e => ?_⟩), ho, hof.keep (fun _ _ _ => rfl) (fun b hb _ => q b hb), fun b hb => .inl (h.fb b (hab b hb))⟩
  · rcases hb with hb | hb
    · have := h.lt b hb; omega
    · exact hb.2
  · rcases hat b e with e | e
    · exact hb.2 e
    · omega
end
/-- the landed log -/
structure LgAt (w : World) (g : Nat) (F : Nat → Prop) (cv bv fv : Value) (s : LogS) (B : List Nat) (ws : List Value) : Prop where
  mem : LgMem w g F cv bv fv s.caps s.safe s.left s.stopped B s.flows ws
  len : s.bytes = B.length
  recs : ∃ rs half, BytesR s B rs half ∧ (s.stopped = false → half = [])
  far : s.left ≤ 9223372036854775807
def LgInv (w : World) (p : Value) (F : Nat → Prop) (s : LogS) : Prop := ∃ g cv bv fv B ws, p = .pointer (some ⟨g, 0, none⟩) ∧ LgAt w g F cv bv fv s B ws
section
variable {w w' : World} {g : Nat} {F : Nat → Prop} {cv bv fv : Value} {s : LogS} {B : List Nat} {ws : List Value}
theorem LgAt.keep (h : LgAt w g F cv bv fv s B ws) (hk : ∀ b, F b → w'.heap[b]? = w.heap[b]?) : LgAt w' g F cv bv fv s B ws := ⟨h.mem.keep hk, h.len, h.recs, h.far⟩
theorem LgAt.put {sf : Nat} {lf : Int} {st : Bool} (h : LgAt w g F cv bv fv s B ws) (hc : RowAt w' g 54 [cv, bv, .int .i64 (sf : Int), fv, .int .i64 lf, .bool st]) (hk : ∀ b, b ≠ g → w'.heap[b]? = w.heap[b]?) (hst : st = false → s.stopped = false) (hlf : lf ≤ 9223372036854775807) :
    LgAt w' g F cv bv fv { s with safe := sf, left := lf, stopped := st } B ws := by
  obtain ⟨rs, half, hr, hz⟩ := h.recs
  exact ⟨h.mem.put hc hk, h.len, ⟨rs, half, ⟨hr.all, hr.done, hr.marks, hr.bytes, hr.torn, hr.small⟩, fun e => hz (hst e)⟩, hlf⟩
end
def logX : LogFace where
  Inv := LgInv
  lt := fun ⟨_, _, _, _, _, _, _, h⟩ => h.mem.lt
  keep := fun ⟨g, cv, bv, fv, B, ws, e, h⟩ hk => ⟨g, cv, bv, fv, B, ws, e, h.keep hk⟩
  ptr := fun ⟨_, _, _, _, _, _, e, _⟩ => ⟨_, e⟩
theorem moved_of {w w' : World} {g : Nat} {F : Nat → Prop} {cv bv fv : Value} {s : LogS} {B : List Nat} {ws : List Value} (h : LgAt w' g (Fn F w w') cv bv fv s B ws) (hb : ButIn F w w') : MovedL logX (.pointer (some ⟨g, 0, none⟩)) F s w w' :=
  ⟨Fn F w w', ⟨g, cv, bv, fv, B, ws, rfl, h⟩, fun b hb => hb.elim .inl (fun h => .inr h.1), hb⟩
/-- the struct alone has changed -/
theorem moved_put {w w' : World} {g : Nat} {F : Nat → Prop} {cv bv fv : Value} {s : LogS} {B : List Nat} {ws : List Value} (h : LgAt w' g F cv bv fv s B ws) (hg : F g) (ho : Only g w w') : MovedL logX (.pointer (some ⟨g, 0, none⟩)) F s w w' :=
  ⟨F, ⟨g, cv, bv, fv, B, ws, rfl, h⟩, fun b hb => .inl hb, ho.1, fun b _ hF => ho.2 b (fun e => hF (e ▸ hg))⟩
/-- nothing of a log has changed -/
theorem moved_none {w w' : World} {g : Nat} {F : Nat → Prop} {cv bv fv : Value} {s : LogS} {B : List Nat} {ws : List Value} (h : LgAt w g F cv bv fv s B ws) (hb : Below w.heap.size w w') : MovedL logX (.pointer (some ⟨g, 0, none⟩)) F s w w' :=
  ⟨F, ⟨g, cv, bv, fv, B, ws, rfl, h.keep (fun b hb' => hb.block b (h.mem.lt b hb'))⟩, fun b hb => .inl hb, ButIn.of_below hb⟩
end Ev
end Go.Proofs.YtdldgefahgojaakGreatDoor

/- Rows of bools, and of ints with room behind them, as a walk meets them. -/
namespace Go.Proofs.YtdldgefahgojaakGreatDoor
namespace Ev
open Go.RowKit Ns Fl
set_option linter.unusedSimpArgs false
set_option linter.unusedVariables false

theorem infoB : (Tryz.prog.info? 4).map (fun i => (i.zero, i.size, i.bytes)) = some (some (.bool false), 1, 1) := by kernel_rfl
theorem madeB (n : Nat) : (madeCells #[Value.bool false] n).toList = (List.replicate n false).map Value.bool := by
  apply List.ext_getElem
  · simp [madeCells]
  · intro i h1 h2
    simp [madeCells, Nat.mod_one]
/-- a row that the call owns, and what lies behind its length -/
theorem owns_row {w : World} {base n c : Nat} {T : TypeId} {a : Option Addr} {xs : List Value} (hn : 0 < n) (h : w.ownsRow base T 1 (.slice a n c) n xs) : ∃ g sp, a = some ⟨g, 0, none⟩ ∧ base ≤ g ∧ n ≤ c ∧ RowAt w g T (xs ++ sp) := by
  rcases h.2 with ⟨_, h0⟩ | ⟨g, cap, cur, hv, hb, hg, hc, hm, hs, ht⟩
  · omega
  · simp only [Value.slice.injEq] at hv
    refine ⟨g, cur.toList.drop (n * 1), hv.1, hb, by rw [hv.2.2]; exact hc, ?_⟩
    unfold RowAt
    rw [hg, ← ht, List.take_append_drop]
theorem boolsCell {l : List Bool} {i : Nat} (h : i < l.length) : (l.map Value.bool)[i]? = some (.bool (l.getD i false)) := by
  simp [List.getD, List.getElem?_eq_getElem h]
theorem intsCell {l : List Int} {sp : List Value} {i : Nat} (h : i < l.length) : (l.map (Value.int .i64) ++ sp)[i]? = some (.int .i64 (l.getD i 0)) := by
  rw [List.getElem?_append_left (by simpa using h)]
  simp [List.getD, List.getElem?_eq_getElem h]
theorem boolsSet {l : List Bool} {i : Nat} {b : Bool} : (l.map Value.bool).set i (.bool b) = (l.set i b).map Value.bool := by rw [List.map_set]
theorem intsSet {l : List Int} {sp : List Value} {i : Nat} {x : Int} (h : i < l.length) : (l.map (Value.int .i64) ++ sp).set i (.int .i64 x) = (l.set i x).map (Value.int .i64) ++ sp := by
  rw [List.set_append_left _ _ (by simpa using h), List.map_set]
/-- a row of ints with room behind it is a list -/
theorem intsRow {Q : Nat → Prop} {w : World} {g c : Nat} {l : List Int} {sp : List Value} (h : RowAt w g 3 (l.map (Value.int .i64) ++ sp)) (hc : l.length ≤ c) (hl : l.length ≤ 9223372036854775807) (hQ : Q g) : IntsAt Q w (.slice (some ⟨g, 0, none⟩) l.length c) l :=
  ⟨_, c, rfl, ⟨hc, hl⟩, .inr ⟨g, 0, rfl, fun i hi => by rw [Nat.zero_add]; exact h.cell (intsCell hi), hQ⟩⟩
/-- a list in a row of its own, that may be written into -/
def OwnInts (B : Nat) (w : World) (y : Value) (l : List Int) : Prop := ∃ g c sp, y = .slice (some ⟨g, 0, none⟩) l.length c ∧ l.length ≤ c ∧ B ≤ g ∧ RowAt w g 3 (l.map (Value.int .i64) ++ sp)
theorem OwnInts.ints {B : Nat} {w : World} {y : Value} {l : List Int} (h : OwnInts B w y l) (hl : l.length ≤ 9223372036854775807) : IntsAt (fun b => B ≤ b) w y l := by
  obtain ⟨g, c, sp, rfl, hc, hg, hr⟩ := h
  exact intsRow hr hc hl hg
end Ev
end Go.Proofs.YtdldgefahgojaakGreatDoor

/- Shares: all of them together, their squares, the gap, and what some that go from one to another one make of these. No Go in it. -/
namespace Go.Proofs.YtdldgefahgojaakGreatDoor.Ev
open Fr Ns Ld Fl
set_option linter.unusedSimpArgs false
set_option linter.unusedVariables false

def tot : List Int → Int
  | [] => 0
  | x :: r => x + tot r
def sqs : List Int → Int
  | [] => 0
  | x :: r => x * x + sqs r
theorem tot_append (l m : List Int) : tot (l ++ m) = tot l + tot m := by
  induction l with
  | nil => simp [tot]
  | cons x r ih => simp only [List.cons_append, tot, ih]; omega
theorem sqs_append (l m : List Int) : sqs (l ++ m) = sqs l + sqs m := by
  induction l with
  | nil => simp [sqs]
  | cons x r ih => simp only [List.cons_append, sqs, ih]; omega
theorem tot_step (l : List Int) (k : Nat) (h : k < l.length) : tot (l.take (k + 1)) = tot (l.take k) + l.getD k 0 := by
  rw [take_snoc l k h 0, tot_append]; simp [tot]
theorem sqs_step (l : List Int) (k : Nat) (h : k < l.length) : sqs (l.take (k + 1)) = sqs (l.take k) + l.getD k 0 * l.getD k 0 := by
  rw [take_snoc l k h 0, sqs_append]; simp [sqs]

def inTo (most x : Int) : Bool := decide (0 ≤ x) && decide (x ≤ most)
/-- what is wrong with shares: 5 there is none, 4 too many, 1 one is out of bounds, 0 nothing -/
def few (l : List Int) (most : Int) : Int := if l.length = 0 then 5 else if 6 < l.length then 4 else if l.all (inTo most) then 0 else 1
theorem few_0 {l : List Int} {most : Int} : few l most = 0 ↔ 0 < l.length ∧ l.length ≤ 6 ∧ ∀ x ∈ l, 0 ≤ x ∧ x ≤ most := by
  unfold few
  split
  · constructor
    · intro h; omega
    · intro h; omega
  · split
    · constructor
      · intro h; omega
      · intro h; omega
    · split
      · rename_i h
        rw [List.all_eq_true] at h
        constructor
        · intro _
          exact ⟨by omega, by omega, fun x hx => by simpa [inTo] using h x hx⟩
        · intro _; rfl
      · rename_i h
        constructor
        · intro e; omega
        · rintro ⟨_, _, hb⟩
          exfalso; apply h
          rw [List.all_eq_true]
          intro x hx
          simpa [inTo] using hb x hx

theorem tot_bd {M : Int} : ∀ {l : List Int}, (∀ x ∈ l, 0 ≤ x ∧ x ≤ M) → 0 ≤ tot l ∧ tot l ≤ l.length * M := by
  intro l
  induction l with
  | nil => intro _; simp [tot]
  | cons x r ih =>
    intro h
    have h1 := h x (by simp)
    have h2 := ih fun y hy => h y (by simp [hy])
    simp only [tot, List.length_cons]
    have e : ((r.length + 1 : Nat) : Int) * M = r.length * M + M := by rw [Int.natCast_add, Int.add_mul]; simp
    rw [e]
    omega
theorem sqs_bd {M : Int} : ∀ {l : List Int}, (∀ x ∈ l, 0 ≤ x ∧ x ≤ M) → 0 ≤ sqs l ∧ sqs l ≤ l.length * (M * M) := by
  intro l
  induction l with
  | nil => intro _; simp [sqs]
  | cons x r ih =>
    intro h
    have h1 := h x (by simp)
    have h2 := ih fun y hy => h y (by simp [hy])
    simp only [sqs, List.length_cons]
    have e : ((r.length + 1 : Nat) : Int) * (M * M) = r.length * (M * M) + M * M := by rw [Int.natCast_add, Int.add_mul]; simp
    rw [e]
    have h3 : x * x ≤ M * M := Int.mul_le_mul h1.2 h1.2 h1.1 (by omega)
    have h4 : 0 ≤ x * x := Int.mul_nonneg h1.1 h1.1
    omega

def dev (x : Int) : List Int → Int
  | [] => 0
  | y :: r => (x - y) * (x - y) + dev x r
theorem sq_nonneg (x : Int) : 0 ≤ x * x := by
  rcases Int.le_total 0 x with h | h
  · exact Int.mul_nonneg h h
  · exact Int.mul_nonneg_of_nonpos_of_nonpos h h
theorem sq_zero {x : Int} (h : x * x = 0) : x = 0 := by
  rcases Int.mul_eq_zero.1 h with h | h <;> exact h
theorem dev_nonneg (x : Int) : ∀ l, 0 ≤ dev x l := by
  intro l
  induction l with
  | nil => simp [dev]
  | cons y r ih => have := sq_nonneg (x - y); simp only [dev]; omega
theorem dev_zero {x : Int} : ∀ {l}, dev x l = 0 → ∀ y ∈ l, y = x := by
  intro l
  induction l with
  | nil => intro _ y hy; simp at hy
  | cons z r ih =>
    intro h y hy
    have h1 := sq_nonneg (x - z)
    have h2 := dev_nonneg x r
    simp only [dev] at h
    have h3 : (x - z) * (x - z) = 0 := by omega
    have h4 := sq_zero h3
    rcases List.mem_cons.1 hy with rfl | hy
    · omega
    · exact ih (by omega) y hy
theorem dev_eq (x : Int) : ∀ l : List Int, dev x l = l.length * (x * x) - 2 * (x * tot l) + sqs l := by
  intro l
  induction l with
  | nil => simp [dev, tot, sqs]
  | cons y r ih =>
    simp only [dev, tot, sqs, List.length_cons, ih]
    have e : ((r.length + 1 : Nat) : Int) = r.length + 1 := by simp
    rw [e]
    grind
theorem part_eq (x : Int) (r : List Int) : ((x :: r).length : Int) * sqs (x :: r) - tot (x :: r) * tot (x :: r) = (r.length * sqs r - tot r * tot r) + dev x r := by
  rw [dev_eq]
  simp only [tot, sqs, List.length_cons]
  have e : ((r.length + 1 : Nat) : Int) = r.length + 1 := by simp
  rw [e]
  grind
/-- the square of all together is no more than so many times their squares together, and as much just if all are alike -/
theorem cauchy : ∀ l : List Int, tot l * tot l ≤ l.length * sqs l := by
  intro l
  induction l with
  | nil => simp [tot, sqs]
  | cons x r ih =>
    have := part_eq x r
    have := dev_nonneg x r
    omega
theorem cauchy_eq : ∀ {l : List Int}, tot l * tot l = l.length * sqs l → ∀ x ∈ l, ∀ y ∈ l, x = y := by
  intro l
  induction l with
  | nil => intro _ x hx; simp at hx
  | cons z r ih =>
    intro h
    have h1 := part_eq z r
    have h2 := dev_nonneg z r
    have h3 := cauchy r
    have hz := dev_zero (x := z) (l := r) (by omega)
    intro x hx y hy
    have e : ∀ x ∈ z :: r, x = z := fun x hx => by
      rcases List.mem_cons.1 hx with rfl | hx
      · rfl
      · exact hz x hx
    rw [e x hx, e y hy]
theorem alike_eq {c : Int} : ∀ {l : List Int}, (∀ x ∈ l, x = c) → tot l = l.length * c ∧ sqs l = l.length * (c * c) := by
  intro l
  induction l with
  | nil => intro _; simp [tot, sqs]
  | cons x r ih =>
    intro h
    have h1 := h x (by simp)
    have h2 := ih fun y hy => h y (by simp [hy])
    simp only [tot, sqs, List.length_cons, h1, h2.1, h2.2]
    have e : ((r.length + 1 : Nat) : Int) = r.length + 1 := by simp
    rw [e]
    constructor <;> grind
theorem square_all : ∀ {l : List Int}, (∀ x ∈ l, 0 ≤ x) → sqs l ≤ tot l * tot l ∧ 0 ≤ tot l := by
  intro l
  induction l with
  | nil => intro _; simp [tot, sqs]
  | cons x r ih =>
    intro h
    have h1 := h x (by simp)
    obtain ⟨h2, h3⟩ := ih fun y hy => h y (by simp [hy])
    have h4 : 0 ≤ x * tot r := Int.mul_nonneg h1 h3
    simp only [tot, sqs]
    have e : (x + tot r) * (x + tot r) = x * x + 2 * (x * tot r) + tot r * tot r := by grind
    rw [e]
    constructor <;> omega

/-! ### the gap -/
theorem mx_ge (a : Int) : ∀ l : List Int, a ≤ l.foldl max a ∧ ∀ x ∈ l, x ≤ l.foldl max a := by
  intro l
  induction l generalizing a with
  | nil => simp
  | cons y r ih =>
    obtain ⟨h1, h2⟩ := ih (max a y)
    simp only [List.foldl_cons]
    refine ⟨by omega, fun x hx => ?_⟩
    rcases List.mem_cons.1 hx with rfl | hx
    · omega
    · exact h2 x hx
theorem mx_in (a : Int) : ∀ l : List Int, l.foldl max a = a ∨ l.foldl max a ∈ l := by
  intro l
  induction l generalizing a with
  | nil => simp
  | cons y r ih =>
    simp only [List.foldl_cons]
    rcases ih (max a y) with h | h
    · rcases Int.le_total a y with h' | h'
      · right; rw [h, Int.max_eq_right h']; simp
      · left; rw [h, Int.max_eq_left h']
    · right; simp [h]
theorem mn_le (a : Int) : ∀ l : List Int, l.foldl min a ≤ a ∧ ∀ x ∈ l, l.foldl min a ≤ x := by
  intro l
  induction l generalizing a with
  | nil => simp
  | cons y r ih =>
    obtain ⟨h1, h2⟩ := ih (min a y)
    simp only [List.foldl_cons]
    refine ⟨by omega, fun x hx => ?_⟩
    rcases List.mem_cons.1 hx with rfl | hx
    · omega
    · exact h2 x hx
theorem mn_in (a : Int) : ∀ l : List Int, l.foldl min a = a ∨ l.foldl min a ∈ l := by
  intro l
  induction l generalizing a with
  | nil => simp
  | cons y r ih =>
    simp only [List.foldl_cons]
    rcases ih (min a y) with h | h
    · rcases Int.le_total a y with h' | h'
      · left; rw [h, Int.min_eq_left h']
      · right; rw [h, Int.min_eq_right h']; simp
    · right; simp [h]
def mxL (l : List Int) : Int := l.foldl max (l.getD 0 0)
def mnL (l : List Int) : Int := l.foldl min (l.getD 0 0)
/-- the greatest less the least -/
def gapL (l : List Int) : Int := mxL l - mnL l
theorem mx_step (l : List Int) (a : Int) (k : Nat) (h : k < l.length) : (l.take (k + 1)).foldl max a = max ((l.take k).foldl max a) (l.getD k 0) := by
  rw [take_snoc l k h 0, List.foldl_append]; rfl
theorem mn_step (l : List Int) (a : Int) (k : Nat) (h : k < l.length) : (l.take (k + 1)).foldl min a = min ((l.take k).foldl min a) (l.getD k 0) := by
  rw [take_snoc l k h 0, List.foldl_append]; rfl
theorem mxL_spec {l : List Int} (h : 0 < l.length) : mxL l ∈ l ∧ ∀ x ∈ l, x ≤ mxL l := by
  refine ⟨?_, (mx_ge _ l).2⟩
  rcases mx_in (l.getD 0 0) l with e | e
  · unfold mxL; rw [e]; exact getD_mem l 0 h 0
  · exact e
theorem mnL_spec {l : List Int} (h : 0 < l.length) : mnL l ∈ l ∧ ∀ x ∈ l, mnL l ≤ x := by
  refine ⟨?_, (mn_le _ l).2⟩
  rcases mn_in (l.getD 0 0) l with e | e
  · unfold mnL; rw [e]; exact getD_mem l 0 h 0
  · exact e
theorem gap_nonneg {l : List Int} (h : 0 < l.length) : 0 ≤ gapL l := by
  have := (mxL_spec h).2 _ (mnL_spec h).1
  unfold gapL; omega
/-- no two are further apart than the gap -/
theorem gap_ge {l : List Int} (h : 0 < l.length) {x y : Int} (hx : x ∈ l) (hy : y ∈ l) : x - y ≤ gapL l := by
  have h1 := (mxL_spec h).2 x hx
  have h2 := (mnL_spec h).2 y hy
  unfold gapL; omega
theorem gap_le {l : List Int} {d : Int} (h : 0 < l.length) (hd : ∀ x ∈ l, ∀ y ∈ l, x - y ≤ d) : gapL l ≤ d := hd _ (mxL_spec h).1 _ (mnL_spec h).1
theorem gap_zero {l : List Int} (h : 0 < l.length) : gapL l = 0 ↔ ∀ x ∈ l, ∀ y ∈ l, x = y := by
  constructor
  · intro e x hx y hy
    have h1 := gap_ge h hx hy
    have h2 := gap_ge h hy hx
    omega
  · intro e
    have h1 := gap_nonneg h
    have h2 := gap_le (d := 0) h (fun x hx y hy => by have := e x hx y hy; omega)
    omega

/-! ### the index -/
def idx (l : List Int) : Int × Int := (lowT (tot l * tot l) (l.length * sqs l), lowB (tot l * tot l) (l.length * sqs l))
def idxE (l : List Int) : Int := if few l 1000 = 0 then if tot l = 0 then 5 else 0 else few l 1000
theorem idxE_0 {l : List Int} : idxE l = 0 ↔ few l 1000 = 0 ∧ tot l ≠ 0 := by
  unfold idxE
  split
  · split
    · constructor
      · intro h; omega
      · rintro ⟨_, h⟩; contradiction
    · constructor
      · intro _; exact ⟨by assumption, by assumption⟩
      · intro _; rfl
  · constructor
    · intro h; contradiction
    · rintro ⟨h, _⟩; contradiction
theorem idx_parts {l : List Int} (h : idxE l = 0) : 1 ≤ tot l ∧ tot l ≤ 6000 ∧ 1 ≤ sqs l ∧ sqs l ≤ 6000000 ∧ 1 ≤ (l.length : Int) * sqs l ∧ (l.length : Int) * sqs l ≤ 36000000 ∧ 0 ≤ tot l * tot l ∧ tot l * tot l ≤ 36000000 := by
  obtain ⟨h1, h2⟩ := idxE_0.1 h
  obtain ⟨n1, n2, hb⟩ := few_0.1 h1
  have t := tot_bd hb
  have s := sqs_bd hb
  have c := cauchy l
  have hn : (1 : Int) ≤ l.length ∧ (l.length : Int) ≤ 6 := by omega
  have t1 : 1 ≤ tot l := by omega
  have t2 : tot l ≤ 6000 := by
    have : (l.length : Int) * 1000 ≤ 6 * 1000 := by omega
    omega
  have tt : 1 ≤ tot l * tot l := Int.mul_le_mul t1 t1 (by decide) (by omega)
  have t3 : tot l * tot l ≤ 6000 * 6000 := Int.mul_le_mul t2 t2 (by omega) (by omega)
  have s2 : sqs l ≤ 6000000 := by
    have : (l.length : Int) * (1000 * 1000) ≤ 6 * 1000000 := by omega
    omega
  have s1 : 1 ≤ sqs l := by
    rcases Int.lt_or_le 0 (sqs l) with hs | hs
    · omega
    · have : sqs l = 0 := by omega
      rw [this] at c
      omega
  have ns : (l.length : Int) * sqs l ≤ 6 * 6000000 := Int.mul_le_mul hn.2 s2 (by omega) (by omega)
  exact ⟨t1, t2, s1, s2, by omega, by omega, by omega, by omega⟩
theorem low_bd {t b : Int} (h0 : 0 ≤ t) (hb : 1 ≤ b) : 0 ≤ lowT t b ∧ lowT t b ≤ t ∧ 1 ≤ lowB t b ∧ lowB t b ≤ b := by
  have g := gd_pos (t := t) hb
  have e1 := lowT_mul (t := t) (b := b)
  have e2 := lowB_mul (t := t) (b := b)
  have p := lowB_pos (t := t) hb
  have q : 0 ≤ lowT t b := by
    rcases Int.lt_or_le (lowT t b) 0 with h | h
    · have : lowT t b * gd t b ≤ -1 * gd t b := Int.mul_le_mul_of_nonneg_right (by omega) (by omega)
      omega
    · exact h
  have a1 : lowT t b * 1 ≤ lowT t b * gd t b := Int.mul_le_mul_of_nonneg_left g q
  have a2 : lowB t b * 1 ≤ lowB t b * gd t b := Int.mul_le_mul_of_nonneg_left g (by omega)
  refine ⟨q, by omega, p, by omega⟩
theorem idx_right {l : List Int} (h : idxE l = 0) : faultP (idx l) = 0 := by
  obtain ⟨_, _, _, _, b1, b2, t1, t2⟩ := idx_parts h
  obtain ⟨c1, c2, c3, c4⟩ := low_bd t1 b1
  exact fault_low b1 (mayB_iff.2 (by omega))
theorem idx_val {l : List Int} (h : idxE l = 0) : val (idx l) = val (tot l * tot l, (l.length : Int) * sqs l) := val_low (idx_parts h).2.2.2.2.1
theorem cmp_le' {a b : Int × Int} (ha : 1 ≤ a.2) (hb : 1 ≤ b.2) : cmpI (a.1 * b.2) (b.1 * a.2) ≤ 0 ↔ val a ≤ val b := by
  rw [cross ha hb]; unfold cmpI
  split
  · constructor <;> intro <;> omega
  · split
    · constructor <;> intro <;> omega
    · constructor <;> intro <;> omega
theorem cmp_eq' {a b : Int × Int} (ha : 1 ≤ a.2) (hb : 1 ≤ b.2) : cmpI (a.1 * b.2) (b.1 * a.2) = 0 ↔ val a = val b := by
  have h1 := cross ha hb
  have h2 := cross hb ha
  have e : val a = val b ↔ val a ≤ val b ∧ val b ≤ val a := by
    constructor
    · intro e; rw [e]; exact ⟨Rat.le_refl, Rat.le_refl⟩
    · rintro ⟨x, y⟩; grind
  rw [e, h1, h2]; unfold cmpI
  split
  · constructor <;> intro <;> omega
  · split
    · constructor <;> intro <;> omega
    · constructor <;> intro <;> omega
/-- from all for one to all alike -/
theorem idx_between {l : List Int} (h : idxE l = 0) : cmpI (1 * (idx l).2) ((idx l).1 * (l.length : Int)) ≤ 0 ∧ cmpI ((idx l).1 * 1) (1 * (idx l).2) ≤ 0 ∧ (cmpI ((idx l).1 * 1) (1 * (idx l).2) = 0 ↔ gapL l = 0) := by
  obtain ⟨h1, h2⟩ := idxE_0.1 h
  obtain ⟨n1, n2, hb⟩ := few_0.1 h1
  have hn : (1 : Int) ≤ l.length := by omega
  obtain ⟨t1, t2, s1, s2, b1, b2, q1, q2⟩ := idx_parts h
  have hv := idx_val h
  have hp := fault_pos (idx_right h)
  refine ⟨?_, ?_, ?_⟩
  · rw [cmp_le' (a := (1, (l.length : Int))) (b := idx l) hn hp, hv, cross (a := (1, (l.length : Int))) (b := (tot l * tot l, (l.length : Int) * sqs l)) hn b1]
    have := (square_all fun x hx => (hb x hx).1).1
    have := Int.mul_le_mul_of_nonneg_left this (show (0 : Int) ≤ l.length by omega)
    simp only
    grind
  · rw [cmp_le' (a := idx l) (b := (1, 1)) hp (by decide), hv, cross (a := (tot l * tot l, (l.length : Int) * sqs l)) (b := (1, 1)) b1 (by decide)]
    have := cauchy l
    simpa using this
  · rw [cmp_eq' (a := idx l) (b := (1, 1)) hp (by decide), hv, gap_zero n1]
    have e : val (tot l * tot l, (l.length : Int) * sqs l) = val (1, 1) ↔ tot l * tot l = (l.length : Int) * sqs l := by
      have := cmp_eq' (a := (tot l * tot l, (l.length : Int) * sqs l)) (b := (1, 1)) b1 (by decide)
      rw [← this]
      simp only [Int.mul_one, Int.one_mul]
      unfold cmpI
      split
      · constructor <;> intro <;> omega
      · split
        · constructor <;> intro <;> omega
        · constructor <;> intro <;> omega
    rw [e]
    constructor
    · exact cauchy_eq
    · intro ha
      obtain ⟨e1, e2⟩ := alike_eq (c := l.getD 0 0) (l := l) fun x hx => ha x hx _ (getD_mem l 0 n1 0)
      rw [e1, e2]
      grind

/-! ### some go from one to another one -/
def giveL (l : List Int) (f t : Nat) (m : Int) : List Int := (l.set f (l.getD f 0 - m)).set t ((l.set f (l.getD f 0 - m)).getD t 0 + m)
theorem tot_set : ∀ (l : List Int) (f : Nat) (x : Int), f < l.length → tot (l.set f x) = tot l - l.getD f 0 + x := by
  intro l
  induction l with
  | nil => intro f x h; simp at h
  | cons y r ih =>
    intro f x h
    cases f with
    | zero => simp [tot]; omega
    | succ f => have := ih f x (by simpa using h); simp [tot] at this ⊢; omega
theorem sqs_set : ∀ (l : List Int) (f : Nat) (x : Int), f < l.length → sqs (l.set f x) = sqs l - l.getD f 0 * l.getD f 0 + x * x := by
  intro l
  induction l with
  | nil => intro f x h; simp at h
  | cons y r ih =>
    intro f x h
    cases f with
    | zero => simp [sqs]; omega
    | succ f => have := ih f x (by simpa using h); simp [sqs] at this ⊢; omega
theorem getD_set_self (l : List Int) (f : Nat) (x : Int) (h : f < l.length) : (l.set f x).getD f 0 = x := by
  simp [List.getD, h]
theorem getD_set_ne (l : List Int) {f g : Nat} (x : Int) (h : f ≠ g) : (l.set f x).getD g 0 = l.getD g 0 := by
  simp [List.getD, List.getElem?_set_ne h]
theorem giveL_length (l : List Int) (f t : Nat) (m : Int) : (giveL l f t m).length = l.length := by simp [giveL]
theorem give_same (l : List Int) (f : Nat) (m : Int) (hf : f < l.length) : giveL l f f m = l := by
  unfold giveL
  rw [getD_set_self _ _ _ hf, List.set_set]
  have e : l.getD f 0 - m + m = l.getD f 0 := by omega
  rw [e]
  apply List.ext_getElem?
  intro i
  by_cases h : f = i
  · subst h
    rw [List.getElem?_set_self hf]
    simp [List.getD, List.getElem?_eq_getElem hf]
  · rw [List.getElem?_set_ne h]
theorem give_tot (l : List Int) (f t : Nat) (m : Int) (hf : f < l.length) (ht : t < l.length) : tot (giveL l f t m) = tot l := by
  by_cases e : f = t
  · subst e; rw [give_same _ _ _ hf]
  · unfold giveL
    rw [tot_set _ _ _ (by simpa using ht), tot_set _ _ _ hf]
    omega
/-- what a richer one gives a poorer one, no more than the half between, makes squares no more -/
theorem give_sqs (l : List Int) (f t : Nat) (m : Int) (hf : f < l.length) (ht : t < l.length) (hm : 0 ≤ m) (h2 : 2 * m ≤ l.getD f 0 - l.getD t 0) : sqs (giveL l f t m) ≤ sqs l := by
  by_cases e : f = t
  · subst e; rw [give_same _ _ _ hf]; exact Int.le_refl _
  · unfold giveL
    rw [sqs_set _ _ _ (by simpa using ht), sqs_set _ _ _ hf, getD_set_ne _ _ e]
    generalize l.getD f 0 = a at *
    generalize l.getD t 0 = b at *
    have e1 : (a - m) * (a - m) = a * a - 2 * (m * a) + m * m := by grind
    have e2 : (b + m) * (b + m) = b * b + 2 * (m * b) + m * m := by grind
    have e3 : m * (2 * m) ≤ m * (a - b) := Int.mul_le_mul_of_nonneg_left h2 hm
    have e4 : m * (2 * m) = 2 * (m * m) := by grind
    have e5 : m * (a - b) = m * a - m * b := by grind
    rw [e1, e2]
    have hmm := sq_nonneg m
    omega
theorem mem_give {l : List Int} {f t : Nat} {m : Int} {x : Int} (hf : f < l.length) (ht : t < l.length) (e : f ≠ t) (h : x ∈ giveL l f t m) : x ∈ l ∨ x = l.getD f 0 - m ∨ x = l.getD t 0 + m := by
  unfold giveL at h
  rw [getD_set_ne _ _ e] at h
  rcases List.mem_or_eq_of_mem_set h with h | h
  · rcases List.mem_or_eq_of_mem_set h with h | h
    · exact .inl h
    · exact .inr (.inl h)
  · exact .inr (.inr h)
theorem give_gap (l : List Int) (f t : Nat) (m : Int) (hf : f < l.length) (ht : t < l.length) (hm : 0 ≤ m) (h2 : 2 * m ≤ l.getD f 0 - l.getD t 0) : gapL (giveL l f t m) ≤ gapL l := by
  by_cases e : f = t
  · subst e; rw [give_same _ _ _ hf]; exact Int.le_refl _
  · have h0 : 0 < l.length := by omega
    have bx : ∀ x ∈ giveL l f t m, mnL l ≤ x ∧ x ≤ mxL l := by
      intro x hx
      have a1 := (mxL_spec h0).2
      have a2 := (mnL_spec h0).2
      have f1 := a1 _ (getD_mem l f hf 0)
      have f2 := a2 _ (getD_mem l f hf 0)
      have t1 := a1 _ (getD_mem l t ht 0)
      have t2 := a2 _ (getD_mem l t ht 0)
      rcases mem_give hf ht e hx with h | h | h
      · exact ⟨a2 x h, a1 x h⟩
      · omega
      · omega
    refine gap_le (by rw [giveL_length]; exact h0) fun x hx y hy => ?_
    have := bx x hx
    have := bx y hy
    unfold gapL
    omega
/-- no less even -/
theorem give_idx {l : List Int} {f t : Nat} {m : Int} (h : idxE l = 0) (hy : few (giveL l f t m) 1000 = 0) (hf : f < l.length) (ht : t < l.length) (hm : 0 ≤ m) (h2 : 2 * m ≤ l.getD f 0 - l.getD t 0) :
    idxE (giveL l f t m) = 0 ∧ cmpI ((idx l).1 * (idx (giveL l f t m)).2) ((idx (giveL l f t m)).1 * (idx l).2) ≤ 0 := by
  have e0 : idxE (giveL l f t m) = 0 := idxE_0.2 ⟨hy, by rw [give_tot l f t m hf ht]; exact (idxE_0.1 h).2⟩
  refine ⟨e0, ?_⟩
  rw [cmp_le' (fault_pos (idx_right h)) (fault_pos (idx_right e0)), idx_val h, idx_val e0, give_tot l f t m hf ht, giveL_length]
  have p1 := (idx_parts h).2.2.2.2.1
  have p2 := (idx_parts e0).2.2.2.2.1
  rw [giveL_length] at p2
  rw [cross (a := (tot l * tot l, (l.length : Int) * sqs l)) (b := (tot l * tot l, (l.length : Int) * sqs (giveL l f t m))) p1 p2]
  have := give_sqs l f t m hf ht hm h2
  have := Int.mul_le_mul_of_nonneg_left this (show (0 : Int) ≤ l.length by omega)
  exact Int.mul_le_mul_of_nonneg_left this (sq_nonneg _)

/-! ### times as much -/
theorem tot_times (c : Int) : ∀ l : List Int, tot (l.map (· * c)) = tot l * c := by
  intro l
  induction l with
  | nil => simp [tot]
  | cons x r ih => simp only [List.map_cons, tot, ih]; grind
theorem sqs_times (c : Int) : ∀ l : List Int, sqs (l.map (· * c)) = sqs l * (c * c) := by
  intro l
  induction l with
  | nil => simp [sqs]
  | cons x r ih => simp only [List.map_cons, sqs, ih]; grind
theorem times_idx {l : List Int} {c : Int} (h : idxE l = 0) (hc : 1 ≤ c) (hm : ∀ x ∈ l, x * c ≤ 1000) : idxE (l.map (· * c)) = 0 ∧ idx (l.map (· * c)) = idx l := by
  obtain ⟨h1, h2⟩ := idxE_0.1 h
  obtain ⟨n1, n2, hb⟩ := few_0.1 h1
  have e0 : idxE (l.map (· * c)) = 0 := by
    refine idxE_0.2 ⟨few_0.2 ⟨by simpa using n1, by simpa using n2, fun x hx => ?_⟩, ?_⟩
    · obtain ⟨y, hy, rfl⟩ := List.mem_map.1 hx
      exact ⟨Int.mul_nonneg (hb y hy).1 (by omega), hm y hy⟩
    · rw [tot_times]
      intro e
      rcases Int.mul_eq_zero.1 e with e | e
      · exact h2 e
      · omega
  refine ⟨e0, ?_⟩
  have p1 := (idx_parts h).2.2.2.2.1
  have p2 := (idx_parts e0).2.2.2.2.1
  unfold idx
  rw [tot_times, sqs_times, List.length_map] at *
  have := low_of_ratio (t := tot l * c * (tot l * c)) (b := l.length * (sqs l * (c * c))) (u := tot l * tot l) (c := l.length * sqs l) p2 p1 (by grind)
  rw [this.1, this.2]
theorem times_gap {l : List Int} {c : Int} (h : 0 < l.length) (hc : 0 ≤ c) : gapL (l.map (· * c)) = gapL l * c := by
  have h' : 0 < (l.map (· * c)).length := by simpa using h
  have a := mxL_spec h
  have b := mnL_spec h
  have a' := mxL_spec h'
  have b' := mnL_spec h'
  have e1 : mxL (l.map (· * c)) = mxL l * c := by
    have u1 : mxL l * c ≤ _ := a'.2 _ (List.mem_map.2 ⟨_, a.1, rfl⟩)
    obtain ⟨y, hy, e⟩ := List.mem_map.1 a'.1
    have u2 := Int.mul_le_mul_of_nonneg_right (a.2 y hy) hc
    have e : y * c = _ := e
    omega
  have e2 : mnL (l.map (· * c)) = mnL l * c := by
    have u1 : _ ≤ mnL l * c := b'.2 _ (List.mem_map.2 ⟨_, b.1, rfl⟩)
    obtain ⟨y, hy, e⟩ := List.mem_map.1 b'.1
    have u2 := Int.mul_le_mul_of_nonneg_right (b.2 y hy) hc
    have e : y * c = _ := e
    omega
  unfold gapL
  rw [e1, e2, Int.sub_mul]
end Go.Proofs.YtdldgefahgojaakGreatDoor.Ev

/- Slices of ints, one by one. -/
namespace Go.Proofs.YtdldgefahgojaakGreatDoor
namespace Ev
open Go.RowKit Fr Ns Ld Fl
set_option linter.unusedSimpArgs false
set_option linter.unusedVariables false

theorem ints_cells {Q : Nat → Prop} {w : World} {a : Option Addr} {n cap : Nat} {l : List Int} (h : IntsAt Q w (.slice a n cap) l) : ∀ i, i < l.length → ∃ b off, a = some ⟨b, off, none⟩ ∧ ∀ u, Below w.heap.size w u → u.cell? ⟨b, off + i, none⟩ = some (.int .i64 (l.getD i 0)) := by
  intro i hi
  obtain ⟨_, _, e, _, hc⟩ := h
  simp only [Value.slice.injEq] at e
  obtain ⟨rfl, _, _⟩ := e
  rcases hc with h | ⟨b, off, rfl, h, _⟩
  · rw [h] at hi; simp at hi
  · exact ⟨b, off, rfl, fun u hu => cell_later hu (h i hi)⟩
theorem all_step {l : List Int} {p : Int → Bool} {k : Nat} (h : k < l.length) : (l.take (k + 1)).all p = ((l.take k).all p && p (l.getD k 0)) := by
  rw [take_snoc l k h 0, List.all_append]
  simp
theorem all_not {l : List Int} {p : Int → Bool} {k : Nat} (h : k < l.length) (hx : p (l.getD k 0) = false) : l.all p = false := by
  rw [List.all_eq_false]
  exact ⟨_, getD_mem l k h 0, by rw [hx]; exact Bool.false_ne_true⟩
end Ev
end Go.Proofs.YtdldgefahgojaakGreatDoor

/- A made row of ints whose first places are written. No Go in it. -/
namespace Go.Proofs.YtdldgefahgojaakGreatDoor
namespace Ev
open Go.RowKit Fr Ns Ld Fl
set_option linter.unusedSimpArgs false
set_option linter.unusedVariables false

theorem nil_intsB {Q : Nat → Prop} (w : World) : IntsAt Q w (.slice none 0 0) [] := ⟨none, 0, rfl, ⟨Nat.le_refl _, by simp⟩, .inl rfl⟩
theorem madeI (n : Nat) : (madeCells #[Value.int .i64 0] n).toList = (List.replicate n (0 : Int)).map (Value.int .i64) := by
  apply List.ext_getElem
  · simp [madeCells]
  · intro i h1 h2
    simp [madeCells, Nat.mod_one]
/-- what went so far, and room for the rest -/
theorem went_set {a : List Int} {n k : Nat} {x : Int} (ha : a.length = k) (hk : k < n) : (a ++ List.replicate (n - k) 0).set k x = (a ++ [x]) ++ List.replicate (n - (k + 1)) 0 := by
  obtain ⟨m, hm⟩ : ∃ m, n - k = m + 1 := ⟨n - k - 1, by omega⟩
  have e : n - (k + 1) = m := by omega
  rw [hm, e, List.replicate_succ, ← ha]
  simp
theorem row_set {w : World} {g n k : Nat} {T : TypeId} {a b : List Int} {x : Int} (h : RowAt w g T ((a ++ List.replicate (n - k) 0).map (Value.int .i64))) (ha : a.length = k) (hk : k < n) (hb : b = a ++ [x]) : RowAt (w.setCell ⟨g, k, none⟩ (.int .i64 x)) g T ((b ++ List.replicate (n - (k + 1)) 0).map (Value.int .i64)) := by
  have := h.set k (.int .i64 x)
  rw [← List.map_set, went_set ha hk, ← hb] at this
  exact this
end Ev
end Go.Proofs.YtdldgefahgojaakGreatDoor

/- All rise together, step by step: what a walk through the rounds meets. No Go in it. -/
namespace Go.Proofs.YtdldgefahgojaakGreatDoor.Fl
open Fr Ns Ld
set_option linter.unusedSimpArgs false

theorem linkSum_append (rate : List (Int × Int)) (done : List Bool) : ∀ (a b : List Int) (s : Int × Int) (k : Nat), linkSum rate done (a ++ b) s k = linkSum rate done b (linkSum rate done a s k).1 (linkSum rate done a s k).2 := by
  intro a
  induction a with
  | nil => intro b s k; rfl
  | cons u us ih =>
    intro b s k
    simp only [List.cons_append, linkSum]
    split
    · exact ih _ _ _
    · exact ih _ _ _
theorem linkSum_step {rate : List (Int × Int)} {done : List Bool} {us : List Int} {s : Int × Int} {k j : Nat} (hj : j < us.length) :
    linkSum rate done (us.take (j + 1)) s k = if dB done (us.getD j 0).toNat then (sumP (linkSum rate done (us.take j) s k).1 (negP (rP rate (us.getD j 0).toNat)), (linkSum rate done (us.take j) s k).2) else ((linkSum rate done (us.take j) s k).1, (linkSum rate done (us.take j) s k).2 + 1) := by
  rw [take_snoc us j hj 0, linkSum_append]
  simp only [linkSum]
theorem sumQ_nonneg {x : Nat → Rat} : ∀ {l : List Nat}, (∀ g ∈ l, 0 ≤ x g) → 0 ≤ sumQ x l := by
  intro l
  induction l with
  | nil => intro _; exact Rat.le_refl
  | cons u us ih =>
    intro h
    have h1 := h u (by simp)
    have h2 := ih (fun g hg => h g (by simp [hg]))
    simp only [sumQ]
    grind
theorem sumQ_append (x : Nat → Rat) : ∀ (a b : List Nat), sumQ x (a ++ b) = sumQ x a + sumQ x b := by
  intro a
  induction a with
  | nil => intro b; simp only [List.nil_append, sumQ]; grind
  | cons u us ih => intro b; simp only [List.cons_append, sumQ, ih]; grind

section
variable {caps : List Int} {paths : List (List Int)} {rate : List (Int × Int)} {done : List Bool} {b : Rat} {D : Int}

theorem users_toNat {l : Nat} {u : Int} (h : u ∈ users paths l) : u.toNat ∈ usN paths l := List.mem_map.2 ⟨u, h, rfl⟩
theorem lev0_nonneg (hi : Inv caps paths rate done b D) {u : Nat} (hu : u < paths.length) : 0 ≤ lev done rate 0 u := by
  unfold lev
  split
  · rename_i h; exact Rat.le_of_lt (hi.over u hu h).2.1
  · exact Rat.le_refl
/-- what is left on a link is right, and no less than 0 -/
theorem linkSum_right (hg : Good caps paths) (hi : Inv caps paths rate done b D) (hD : D ≤ 46656) {l : Nat} (hl : l < caps.length) (j : Nat) :
    faultP (linkSum rate done ((users paths l).take j) (caps.getD l 0, 1) 0).1 = 0 ∧ Over D (linkSum rate done ((users paths l).take j) (caps.getD l 0, 1) 0).1 ∧ 0 ≤ val (linkSum rate done ((users paths l).take j) (caps.getD l 0, 1) 0).1 ∧ val (linkSum rate done ((users paths l).take j) (caps.getD l 0, 1) 0).1 ≤ 1000 ∧
    (linkSum rate done ((users paths l).take j) (caps.getD l 0, 1) 0).2 ≤ j := by
  obtain ⟨h1, h2, h3⟩ := linkSum_spec rate done D ((users paths l).take j) (caps.getD l 0, 1) 0 (over_whole D _) (fun u hu hd => (hi.over _ (usN_lt (users_toNat (List.mem_of_mem_take hu))) hd).1)
  have hall : ((users paths l).take j).map Int.toNat ++ ((users paths l).drop j).map Int.toNat = usN paths l := by
    rw [← List.map_append, List.take_append_drop]; rfl
  have hc := capQ_bd hg.1 hl
  have hroom := hi.room l hl
  have hlin := lev_lin done rate b 0 (usN paths l)
  have hb := hi.hb
  have hcnt : (0 : Rat) ≤ (b - 0) * ((List.countP (fun u => !dB done u) (usN paths l) : Nat) : Rat) := Rat.mul_nonneg (by grind) Rat.natCast_nonneg
  have hsplit := sumQ_append (lev done rate 0) (((users paths l).take j).map Int.toNat) (((users paths l).drop j).map Int.toNat)
  rw [hall] at hsplit
  have n1 : 0 ≤ sumQ (lev done rate 0) (((users paths l).take j).map Int.toNat) := sumQ_nonneg fun g hg => by
    obtain ⟨u, hu, rfl⟩ := List.mem_map.1 hg
    exact lev0_nonneg hi (usN_lt (users_toNat (List.mem_of_mem_take hu)))
  have n2 : 0 ≤ sumQ (lev done rate 0) (((users paths l).drop j).map Int.toNat) := sumQ_nonneg fun g hg => by
    obtain ⟨u, hu, rfl⟩ := List.mem_map.1 hg
    exact lev0_nonneg hi (usN_lt (users_toNat (List.mem_of_mem_drop hu)))
  have hw : val (caps.getD l 0, 1) = capQ caps l := by rw [val_whole]; rfl
  rw [hw] at h3
  have v1 : 0 ≤ val (linkSum rate done ((users paths l).take j) (caps.getD l 0, 1) 0).1 := by grind
  have v2 : val (linkSum rate done ((users paths l).take j) (caps.getD l 0, 1) 0).1 ≤ 1000 := by grind
  refine ⟨over_fault h1 hi.hD (by omega) v1 v2, h1, v1, v2, ?_⟩
  rw [h2, Nat.zero_add]
  refine Nat.le_trans List.countP_le_length ?_
  rw [List.length_map, List.length_take]
  omega
theorem lev_nonneg (hi : Inv caps paths rate done b D) {t : Rat} (ht : 0 ≤ t) {u : Nat} (hu : u < paths.length) : 0 ≤ lev done rate t u := by
  unfold lev
  split
  · rename_i h; exact Rat.le_of_lt (hi.over u hu h).2.1
  · exact ht
/-- a link's share is right, above what all have, and no more than the link takes -/
theorem share_right (hg : Good caps paths) (hi : Inv caps paths rate done b D) (hD : D ≤ 46656) {l : Nat} (hl : l < caps.length) {s : Int × Int} (h : shareOf caps paths rate done l = some s) : faultP s = 0 ∧ 0 ≤ val s ∧ val s ≤ 1000 := by
  obtain ⟨h1, ⟨u, hu, hd⟩, k, hk1, hk2, ho⟩ := share_some (fun f a b => (hi.over f a b).1) h
  have hc := capQ_bd hg.1 hl
  have hst := hi.strict l hl ⟨u, hu, hd⟩
  have hbv : b < val s := by
    apply Classical.byContradiction
    intro hn
    have hle : val s ≤ b := by grind
    have := sumQ_le (x := lev done rate (val s)) (y := lev done rate b) (l := usN paths l) (fun g _ => by
      unfold lev
      split
      · exact Rat.le_refl
      · exact hle)
    grind
  have hb := hi.hb
  have v0 : 0 ≤ val s := by grind
  have hle := le_sumQ (x := lev done rate (val s)) (f := u) (fun g hg => lev_nonneg hi v0 (usN_lt hg)) hu
  have hlu : lev done rate (val s) u = val s := by unfold lev; rw [hd]; rfl
  have v1 : val s ≤ 1000 := by grind
  have hkD : 1 ≤ D * (k : Int) := by
    have := Int.mul_le_mul hi.hD (show (1 : Int) ≤ (k : Int) by omega) (by decide) (by have := hi.hD; omega)
    omega
  have hkD2 : D * (k : Int) ≤ 1000000 := by
    have hn := hg.2.2.1
    have h0 := hi.hD
    have : D * (k : Int) ≤ D * 6 := Int.mul_le_mul_of_nonneg_left (by omega) (by omega)
    omega
  exact ⟨over_fault ho hkD hkD2 v0 v1, v0, v1⟩
end

/-- which of the first n links have the least share of them -/
def narAt (sh : Nat → Option (Int × Int)) (n l : Nat) : Bool := decide (l < n) && (sh l).isSome && decide (sh l = bestOf sh n)
theorem narAt_eq (sh : Nat → Option (Int × Int)) (n : Nat) : narOf sh n = narAt sh n := rfl
def bestD (o : Option (Int × Int)) : Int × Int := o.getD (-1, 1)
theorem best_skip {sh : Nat → Option (Int × Int)} {n : Nat} (h : sh n = none) : bestOf sh (n + 1) = bestOf sh n ∧ ∀ l, narAt sh (n + 1) l = narAt sh n l := by
  have e : bestOf sh (n + 1) = bestOf sh n := by
    conv => lhs; unfold bestOf
    rw [h]
  refine ⟨e, fun l => ?_⟩
  unfold narAt
  rw [e]
  by_cases hl : l = n
  · subst hl; rw [h]; simp
  · have : (l < n + 1) ↔ (l < n) := by omega
    simp only [this]
/-- a share that is less than all before, or the first one -/
theorem best_new {sh : Nat → Option (Int × Int)} {n : Nat} {s : Int × Int} (hp : ∀ l t, l ≤ n → sh l = some t → faultP t = 0) (h : sh n = some s) (hb : bestOf sh n = none ∨ ∃ b, bestOf sh n = some b ∧ s.1 * b.2 < b.1 * s.2) :
    bestOf sh (n + 1) = some s ∧ ∀ l, narAt sh (n + 1) l = decide (l = n) := by
  have e : bestOf sh (n + 1) = some s := by
    conv => lhs; unfold bestOf
    rw [h]
    rcases hb with hb | ⟨b, hb, hlt⟩
    · rw [hb]
    · rw [hb]; simp only; rw [if_pos hlt]
  refine ⟨e, fun l => ?_⟩
  unfold narAt
  rw [e]
  by_cases hl : l = n
  · subst hl; rw [h]; simp
  · have hx : ∀ x, sh l = some x → l < n → x ≠ s := by
      intro x hx hln hxs
      subst hxs
      rcases hb with hb | ⟨b, hb, hlt⟩
      · have := best_none _ hb l hln; rw [this] at hx; cases hx
      · -- of the first n none is less than b
        let sh' : Nat → Option (Int × Int) := fun l => if l < n then sh l else none
        have hsame : ∀ m, m ≤ n → bestOf sh' m = bestOf sh m := by
          intro m
          induction m with
          | zero => intro _; rfl
          | succ m ih =>
            intro hm
            unfold bestOf
            rw [ih (by omega)]
            have : sh' m = sh m := if_pos (by omega)
            rw [this]
        have hp' : ∀ l t, sh' l = some t → 1 ≤ t.2 := by
          intro l t ht
          by_cases hl : l < n
          · have : sh' l = sh l := if_pos hl
            rw [this] at ht
            exact fault_pos (hp l t (by omega) ht)
          · have : sh' l = none := if_neg hl
            rw [this] at ht; cases ht
        have hmin := (best_some hp' n b (by rw [hsame n (Nat.le_refl _)]; exact hb)).2 l x hln (by rw [show sh' l = sh l from if_pos hln]; exact hx)
        obtain ⟨⟨l0, hl0, hb0⟩, _⟩ := best_some hp' n b (by rw [hsame n (Nat.le_refl _)]; exact hb)
        have pb := hp' l0 b hb0
        have px := fault_pos (hp n x (Nat.le_refl _) h)
        have := (cross_lt px pb).2 hlt
        grind
    have hne : decide (l = n) = false := decide_eq_false hl
    rw [hne]
    by_cases hln : l < n
    · cases hs : sh l with
      | none => simp
      | some x =>
        have := hx x hs hln
        simp [this]
    · have : ¬ l < n + 1 := by omega
      simp [this]
/-- a share as great as the least before -/
theorem best_same {sh : Nat → Option (Int × Int)} {n : Nat} {s : Int × Int} (h : sh n = some s) (hb : bestOf sh n = some s) : bestOf sh (n + 1) = some s ∧ ∀ l, narAt sh (n + 1) l = (narAt sh n l || decide (l = n)) := by
  have e : bestOf sh (n + 1) = some s := by
    conv => lhs; unfold bestOf
    rw [h, hb]
    simp only
    split <;> rfl
  refine ⟨e, fun l => ?_⟩
  unfold narAt
  rw [e, hb]
  by_cases hl : l = n
  · subst hl; rw [h]; simp
  · have : (l < n + 1) ↔ (l < n) := by omega
    simp only [this, hl, decide_false, Bool.or_false]
/-- a greater one -/
theorem best_more {sh : Nat → Option (Int × Int)} {n : Nat} {s b : Int × Int} (h : sh n = some s) (hb : bestOf sh n = some b) (hlt : b.1 * s.2 < s.1 * b.2) : bestOf sh (n + 1) = some b ∧ ∀ l, narAt sh (n + 1) l = narAt sh n l := by
  have e : bestOf sh (n + 1) = some b := by
    conv => lhs; unfold bestOf
    rw [h, hb]
    simp only
    rw [if_neg (by omega)]
  refine ⟨e, fun l => ?_⟩
  unfold narAt
  rw [e, hb]
  by_cases hl : l = n
  · subst hl
    rw [h]
    have : ¬ s = b := by rintro rfl; omega
    simp [this]
  · have : (l < n + 1) ↔ (l < n) := by omega
    simp only [this]

/-- the round, flow by flow -/
theorem round_step (paths : List (List Int)) (done : List Bool) (nar : Nat → Bool) (k : Nat) : ((List.range (k + 1)).filter fun f => !dB done f && (paths.getD f []).any fun x => nar x.toNat).map (fun f : Nat => (f : Int)) =
    ((List.range k).filter fun f => !dB done f && (paths.getD f []).any fun x => nar x.toNat).map (fun f : Nat => (f : Int)) ++ (if (!dB done k && (paths.getD k []).any fun x => nar x.toNat) = true then [(k : Int)] else []) := by
  rw [List.range_succ, List.filter_append, List.map_append]
  congr 1
  simp only [List.filter_cons, List.filter_nil]
  split <;> rfl
def roundTo (paths : List (List Int)) (done : List Bool) (nar : Nat → Bool) (k : Nat) : List Int := ((List.range k).filter fun f => !dB done f && (paths.getD f []).any fun x => nar x.toNat).map (fun f : Nat => (f : Int))
theorem roundTo_all (paths : List (List Int)) (done : List Bool) (nar : Nat → Bool) : roundTo paths done nar paths.length = roundOf paths done nar := rfl
theorem roundTo_length (paths : List (List Int)) (done : List Bool) (nar : Nat → Bool) (k : Nat) : (roundTo paths done nar k).length ≤ k := by
  unfold roundTo
  rw [List.length_map]
  exact Nat.le_trans (List.length_filter_le _ _) (by simp)

/-- so many fewer are free -/
theorem freeN_step {paths : List (List Int)} {done : List Bool} {nar : Nat → Bool} (hl : done.length = paths.length) : freeN paths (setDone done (roundOf paths done nar)) + (roundOf paths done nar).length = freeN paths done := by
  have hm : ∀ f, f < paths.length → dB (setDone done (roundOf paths done nar)) f = (decide ((f : Int) ∈ roundOf paths done nar) || dB done f) := fun f hf => dB_setDone (by omega)
  have hlen : (roundOf paths done nar).length = (List.range paths.length).countP fun f => !dB done f && (paths.getD f []).any fun x => nar x.toNat := by
    unfold roundOf
    rw [List.length_map, List.countP_eq_length_filter]
  rw [hlen]
  unfold freeN
  have key : ∀ l : List Nat, (∀ f ∈ l, f < paths.length) → l.countP (fun f => !dB (setDone done (roundOf paths done nar)) f) + l.countP (fun f => !dB done f && (paths.getD f []).any fun x => nar x.toNat) = l.countP (fun f => !dB done f) := by
    intro l
    induction l with
    | nil => intro _; rfl
    | cons f l ih =>
      intro h
      have h1 := ih (fun g hg => h g (by simp [hg]))
      have hf := h f (by simp)
      rw [List.countP_cons, List.countP_cons, List.countP_cons, hm f hf]
      have hd : decide ((f : Int) ∈ roundOf paths done nar) = (!dB done f && (paths.getD f []).any fun x => nar x.toNat) := by
        rw [Bool.eq_iff_iff, decide_eq_true_eq, mem_round, Bool.and_eq_true, Bool.not_eq_true', List.any_eq_true]
        constructor
        · rintro ⟨_, h2, h3⟩; exact ⟨h2, h3⟩
        · rintro ⟨h2, h3⟩; exact ⟨hf, h2, h3⟩
      rw [hd]
      generalize ((paths.getD f []).any fun x => nar x.toNat) = z
      cases dB done f <;> cases z <;> simp only [Bool.not_true, Bool.not_false, Bool.true_and, Bool.false_and, Bool.or_true, Bool.or_false, Bool.true_or, Bool.false_or, if_true, if_false, Bool.false_eq_true] <;> omega
  exact key _ (fun f hf => List.mem_range.1 hf)
end Go.Proofs.YtdldgefahgojaakGreatDoor.Fl

/- Rows of bools and of fractions that a call makes and writes into: what a walk is told of them. -/
namespace Go.Proofs.YtdldgefahgojaakGreatDoor
namespace Fl
open Go.RowKit Fr Ns Ld
set_option linter.unusedSimpArgs false
set_option linter.unusedVariables false

theorem infoBool : (Tryz.prog.info? 4).map (fun i => (i.zero, i.size, i.bytes)) = some (some (.bool false), 1, 1) := by kernel_rfl
def boolsV (l : List Bool) : List Value := l.map Value.bool
theorem boolsV_length (l : List Bool) : (boolsV l).length = l.length := by simp [boolsV]
end Fl
end Go.Proofs.YtdldgefahgojaakGreatDoor

/- The rounds' memory and how far they are: what the walk through the document's Fill is told. -/
namespace Go.Proofs.YtdldgefahgojaakGreatDoor
namespace Fl
open Go.RowKit Fr Ns Ld
set_option linter.unusedSimpArgs false
set_option linter.unusedVariables false

theorem made_fracs (n : Nat) : (madeCells #[Value.int .i64 0, Value.int .i64 0] (n * 2)).toList = flat (List.replicate n (0, 0)) := by
  apply List.ext_getElem?
  intro i
  by_cases hi : i < n * 2
  · have h1 : (madeCells #[Value.int .i64 0, Value.int .i64 0] (n * 2)).toList[i]? = some (.int .i64 0) := by
      unfold madeCells
      simp only [Array.toList_map, List.getElem?_map, Array.toList_range, List.getElem?_range hi, Option.map_some]
      rcases Nat.mod_two_eq_zero_or_one i with h | h <;> simp [h]
    rw [h1]
    rcases Nat.mod_two_eq_zero_or_one i with h | h
    · have e : i = i / 2 * 2 := by omega
      have := (flat_at (List.replicate n ((0 : Int), (0 : Int))) (i / 2) (by simp; omega)).1
      rw [← e] at this
      rw [this, getD_replicate _ _ _ _ (by omega)]
    · have e : i = i / 2 * 2 + 1 := by omega
      have := (flat_at (List.replicate n ((0 : Int), (0 : Int))) (i / 2) (by simp; omega)).2
      rw [← e] at this
      rw [this, getD_replicate _ _ _ _ (by omega)]
  · rw [List.getElem?_eq_none (by simp [size_madeCells]; omega), List.getElem?_eq_none (by rw [flat_length]; simp; omega)]
theorem made_bools (n : Nat) : (madeCells #[Value.bool false] n).toList = boolsV (List.replicate n false) := by
  rw [toList_madeCells_one]; simp [boolsV]

theorem owns_later {w w' : World} {base : Nat} {e : TypeId} {size n : Nat} {v : Value} {xs : List Value} (hb : Below w.heap.size w w') (h : w.ownsRow base e size v n xs) : w'.ownsRow base e size v n xs := by
  refine ⟨h.1, ?_⟩
  rcases h.2 with h' | ⟨g', cap', cur, h', hg, hc, r⟩
  · exact .inl h'
  · have hlt : g' < w.heap.size := (Array.getElem?_eq_some_iff.1 hc).1
    exact .inr ⟨g', cap', cur, h', hg, by rw [hb.block g' hlt]; exact hc, r⟩
/-- what the rounds' memory holds -/
def FillMem (gr gd : Nat) (w : World) (v6 : Value) (rate : List (Int × Int)) (done : List Bool) (acc : List (List Int)) : Prop :=
  RowAt w gr 50 (flat rate) ∧ RowAt w gd 4 (boolsV done) ∧ ∃ vs, w.ownsRow (gd + 1) 22 1 v6 acc.length vs ∧ ∀ i, i < acc.length → IntsAt (fun b => gd < b ∧ v6.ownBlock ≠ some b) w (vs.getD i undef) (acc.getD i [])
theorem mem_later {gr gd : Nat} {w w' : World} {v6 : Value} {rate : List (Int × Int)} {done : List Bool} {acc : List (List Int)} (h : FillMem gr gd w v6 rate done acc) (hb : Below w.heap.size w w') : FillMem gr gd w' v6 rate done acc := by
  obtain ⟨h1, h2, vs, h3, h4⟩ := h
  exact ⟨h1.later hb h1.lt, h2.later hb h2.lt, vs, owns_later hb h3, fun i hi => (h4 i hi).later hb⟩
theorem nar_start (sh : Nat → Option (Int × Int)) (n : Nat) : (List.range n).map (narAt sh 0) = List.replicate n false := by
  apply List.ext_getElem
  · simp
  · intro i h1 h2
    simp [narAt]
/-- how far the rounds are -/
def FillAt (caps : List Int) (paths : List (List Int)) (rate : List (Int × Int)) (done : List Bool) (acc : List (List Int)) : Prop :=
  ∃ (k : Nat) (b : Rat) (D : Int), Inv caps paths rate done b D ∧ D * 6 ^ freeN paths done ≤ 46656 ∧ freeN paths done ≤ k ∧ fill caps paths = ((fillFrom caps paths k rate done).1, acc ++ (fillFrom caps paths k rate done).2)

theorem freeN_le (paths : List (List Int)) (done : List Bool) : freeN paths done ≤ paths.length := by
  unfold freeN
  exact Nat.le_trans List.countP_le_length (by simp)
theorem freeN_start (paths : List (List Int)) : freeN paths (List.replicate paths.length false) = paths.length := by
  unfold freeN
  have : (List.range paths.length).countP (fun f => !dB (List.replicate paths.length false) f) = (List.range paths.length).length := by
    rw [List.countP_eq_length]
    intro f hf
    have : dB (List.replicate paths.length false) f = false := by
      unfold dB
      simp only [List.getD, List.getElem?_replicate]
      split <;> rfl
    rw [this]; rfl
  rw [this]; simp
theorem fillAt_start {caps : List Int} {paths : List (List Int)} (hg : Good caps paths) : FillAt caps paths (List.replicate paths.length (0, 0)) (List.replicate paths.length false) [] := by
  refine ⟨paths.length, 0, 1, inv_start hg, ?_, freeN_le _ _, by simp [fill]⟩
  rw [Int.one_mul]
  have h1 : (6 : Int) ^ freeN paths (List.replicate paths.length false) ≤ 6 ^ 6 := six (Nat.le_trans (freeN_le _ _) hg.2.2.1)
  have h2 : (6 : Int) ^ 6 = 46656 := by decide
  omega
theorem all_of_free {paths : List (List Int)} {done : List Bool} (h : freeN paths done = 0) : ∀ f, f < paths.length → dB done f = true := by
  intro f hf
  unfold freeN at h
  rw [List.countP_eq_zero] at h
  simpa using h f (List.mem_range.2 hf)
theorem fillAt_end {caps : List Int} {paths : List (List Int)} {rate : List (Int × Int)} {done : List Bool} {acc : List (List Int)} (h : FillAt caps paths rate done acc) (hz : freeN paths done = 0) : fill caps paths = (rate, acc) := by
  obtain ⟨k, b, D, hi, _, _, he⟩ := h
  have hall : done.all id = true := (all_done hi.ld).2 (all_of_free hz)
  have : fillFrom caps paths k rate done = (rate, []) := by
    cases k with
    | zero => rfl
    | succ k => simp only [fillFrom]; rw [if_pos hall]
  rw [he, this]; simp
theorem len_le_flatten : ∀ (l : List (List Int)), (∀ a ∈ l, a ≠ []) → l.length ≤ l.flatten.length := by
  intro l
  induction l with
  | nil => intro _; simp
  | cons a l ih =>
    intro h
    have := ih (fun x hx => h x (by simp [hx]))
    have ha := h a (by simp)
    have : 0 < a.length := List.length_pos_iff.2 ha
    simp only [List.length_cons, List.flatten_cons, List.length_append]
    omega
theorem rises_ne {x : Nat → Rat} : ∀ {l : List (List Int)} {b : Rat}, Rises x b l → ∀ a ∈ l, a ≠ [] := by
  intro l
  induction l with
  | nil => intro b _ a ha; simp at ha
  | cons c l ih =>
    intro b h a ha
    obtain ⟨h1, v, _, _, h2⟩ := h
    rcases List.mem_cons.1 ha with rfl | ha
    · exact h1
    · exact ih h2 a ha
theorem flatten_bound {n : Nat} {l : List Int} (hn : l.Nodup) (h : ∀ u ∈ l, ∃ f : Nat, u = f ∧ f < n) : l.length ≤ n := by
  induction n generalizing l with
  | zero =>
    cases l with
    | nil => simp
    | cons a r => obtain ⟨f, _, hf⟩ := h a (by simp); omega
  | succ n ih =>
    have h1 := ih (l := l.erase (n : Int)) (hn.erase _) (by
      intro x hx
      have hx' := (hn.mem_erase_iff).1 hx
      obtain ⟨f, rfl, hf⟩ := h x hx'.2
      refine ⟨f, rfl, ?_⟩
      have : f ≠ n := fun e => hx'.1 (by rw [e])
      omega)
    have h2 : l.length ≤ (l.erase (n : Int)).length + 1 := by rw [List.length_erase]; split <;> omega
    omega
theorem fill_rounds_le {caps : List Int} {paths : List (List Int)} (hg : Good caps paths) : (fill caps paths).2.length ≤ paths.length := by
  obtain ⟨_, h1, h2, h3⟩ := fill_fair hg
  exact Nat.le_trans (len_le_flatten _ (rises_ne h1)) (flatten_bound h2 (fun u hu => (h3 u).1 hu))
theorem acc_length {caps : List Int} {paths : List (List Int)} {rate : List (Int × Int)} {acc : List (List Int)} (h : fill caps paths = (rate, acc)) (hg : Good caps paths) : acc.length ≤ paths.length := by
  have := fill_rounds_le hg
  rw [h] at this
  exact this

/-- all that one round asks -/
theorem fillAt_facts {caps : List Int} {paths : List (List Int)} {rate : List (Int × Int)} {done : List Bool} {acc : List (List Int)} (hg : Good caps paths) (h : FillAt caps paths rate done acc) (hz : 0 < freeN paths done) :
    rate.length = paths.length ∧ done.length = paths.length ∧
    (∀ l, l < caps.length → ∀ j, faultP (linkSum rate done ((users paths l).take j) (caps.getD l 0, 1) 0).1 = 0 ∧ (linkSum rate done ((users paths l).take j) (caps.getD l 0, 1) 0).1.2 ≤ 46656 ∧ (linkSum rate done ((users paths l).take j) (caps.getD l 0, 1) 0).2 ≤ j) ∧
    (∀ f, f < paths.length → dB done f = true → faultP (rP rate f) = 0) ∧
    (∀ l s, l < caps.length → shareOf caps paths rate done l = some s → faultP s = 0 ∧ 0 ≤ s.1) ∧
    ∃ bst, bestOf (shareOf caps paths rate done) caps.length = some bst ∧ faultP bst = 0 ∧ roundOf paths done (narAt (shareOf caps paths rate done) caps.length) ≠ [] ∧
      FillAt caps paths (setRate rate (roundOf paths done (narAt (shareOf caps paths rate done) caps.length)) bst) (setDone done (roundOf paths done (narAt (shareOf caps paths rate done) caps.length))) (acc ++ [roundOf paths done (narAt (shareOf caps paths rate done) caps.length)]) := by
  obtain ⟨k, b, D, hi, hD, hk, he⟩ := h
  have hD' : D ≤ 46656 := by
    have h1 : (1 : Int) ≤ 6 ^ freeN paths done := by
      have := six (a := 0) (b := freeN paths done) (by omega)
      simpa using this
    have := Int.mul_le_mul_of_nonneg_left h1 (show 0 ≤ D by have := hi.hD; omega)
    omega
  have hex : ∃ f, f < paths.length ∧ dB done f = false := by
    apply Classical.byContradiction
    intro hn
    have : freeN paths done = 0 := by
      unfold freeN
      rw [List.countP_eq_zero]
      intro f hf hd
      exact hn ⟨f, List.mem_range.1 hf, by simpa using hd⟩
    omega
  have hnall : ¬ done.all id = true := fun ha => by
    obtain ⟨f, hf, hd⟩ := hex
    rw [(all_done hi.ld).1 ha f hf] at hd
    cases hd
  obtain ⟨bst, hb, hbv, hne, kk, hk1, hk6, hi'⟩ := inv_step hg hi hex
  have hsr : ∀ l s, l < caps.length → shareOf caps paths rate done l = some s → faultP s = 0 ∧ 0 ≤ s.1 := by
    intro l s hl hs
    obtain ⟨h1, h2, _⟩ := share_right hg hi hD' hl hs
    refine ⟨h1, ?_⟩
    have hp := fault_pos h1
    have e : (0 : Rat) = val (0, 1) := by rw [val_whole]; rfl
    rw [e] at h2
    have := (cross (a := (0, 1)) (by decide) hp).1 h2
    simpa using this
  refine ⟨hi.lr, hi.ld, fun l hl j => ?_, fun f hf hd => ?_, hsr, bst, hb, ?_, hne, ?_⟩
  · obtain ⟨h1, h2, _, _, h5⟩ := linkSum_right hg hi hD' hl j
    exact ⟨h1, Int.le_trans (Int.le_of_dvd (by have := hi.hD; omega) h2.2.2) hD', h5⟩
  · have ho := hi.over f hf hd
    obtain ⟨l, hl, hfl, hall, hs, _⟩ := hi.neck f hf hd
    have h2 := le_sumQ (x := xQ rate) (fun g hgl => Rat.le_of_lt (hi.over g (usN_lt hgl) (hall g hgl)).2.1) hfl
    have h3 := (capQ_bd hg.1 hl).2
    have h4 : xQ rate f = val (rP rate f) := rfl
    exact over_fault ho.1 hi.hD (by omega) (by rw [← h4]; exact Rat.le_of_lt ho.2.1) (by rw [← h4]; grind)
  · obtain ⟨⟨l, hl, hs⟩, _⟩ := best_some (fun l s h => by
      obtain ⟨_, _, _, _, _, ho⟩ := share_some (fun f a b => (hi.over f a b).1) h
      exact ho.1) _ _ hb
    exact (hsr l bst hl hs).1
  · have hfs := freeN_step (nar := narOf (shareOf caps paths rate done) caps.length) hi.ld
    have hlen : 0 < (roundOf paths done (narOf (shareOf caps paths rate done) caps.length)).length := List.length_pos_iff.2 hne
    cases k with
    | zero => omega
    | succ k =>
      refine ⟨k, _, _, hi', ?_, ?_, ?_⟩
      · have e1 : (6 : Int) ^ (freeN paths (setDone done (roundOf paths done (narOf (shareOf caps paths rate done) caps.length))) + 1) ≤ 6 ^ freeN paths done := six (by omega)
        have p0 : (0 : Int) ≤ 6 ^ freeN paths (setDone done (roundOf paths done (narOf (shareOf caps paths rate done) caps.length))) := Int.le_of_lt (Int.pow_pos (by decide))
        have h6 : (kk : Int) * 6 ^ freeN paths (setDone done (roundOf paths done (narOf (shareOf caps paths rate done) caps.length))) ≤ 6 * 6 ^ freeN paths (setDone done (roundOf paths done (narOf (shareOf caps paths rate done) caps.length))) := Int.mul_le_mul_of_nonneg_right (by omega) p0
        rw [Int.pow_succ] at e1
        have e3 : D * ((kk : Int) * 6 ^ freeN paths (setDone done (roundOf paths done (narOf (shareOf caps paths rate done) caps.length)))) ≤ D * 6 ^ freeN paths done := Int.mul_le_mul_of_nonneg_left (by omega) (by have := hi.hD; omega)
        rw [← narAt_eq, Int.mul_assoc]
        omega
      · rw [← narAt_eq]; omega
      · rw [he, fillFrom, if_neg hnall, hb]
        simp only [narAt_eq, List.append_assoc, List.singleton_append]
theorem owns_keep {w w' : World} {base : Nat} {e : TypeId} {size n : Nat} {v : Value} {xs : List Value} (hk : ∀ g, base ≤ g → g < w.heap.size → w'.heap[g]? = w.heap[g]?) (h : w.ownsRow base e size v n xs) : w'.ownsRow base e size v n xs := by
  refine ⟨h.1, ?_⟩
  rcases h.2 with h' | ⟨g', cap', cur, h', hg, hc, r⟩
  · exact .inl h'
  · have hlt : g' < w.heap.size := (Array.getElem?_eq_some_iff.1 hc).1
    exact .inr ⟨g', cap', cur, h', hg, by rw [hk g' hg hlt]; exact hc, r⟩
theorem range_dB (l : List Bool) : (List.range l.length).map (dB l) = l := by
  apply List.ext_getElem
  · simp
  · intro i h1 h2
    simp [dB, List.getD, List.getElem?_eq_getElem h2]
theorem range_rP (l : List (Int × Int)) : (List.range l.length).map (rP l) = l := by
  apply List.ext_getElem
  · simp
  · intro i h1 h2
    simp [rP, List.getD, List.getElem?_eq_getElem h2]
theorem setDone_nil (done : List Bool) : setDone done [] = done := by
  unfold setDone
  simp only [List.contains_nil, Bool.false_or]
  exact range_dB done
theorem setRate_nil (rate : List (Int × Int)) (b : Int × Int) : setRate rate [] b = rate := by
  unfold setRate
  simp only [List.contains_nil, Bool.false_eq_true, if_false]
  exact range_rP rate
theorem mem_take_succ {rd : List Int} {i : Nat} (hi : i < rd.length) (f : Int) : f ∈ rd.take (i + 1) ↔ f ∈ rd.take i ∨ f = rd.getD i 0 := by
  rw [take_snoc rd i hi 0, List.mem_append]
  simp
theorem setDone_step {done : List Bool} {rd : List Int} {i m : Nat} (hi : i < rd.length) (hm : rd.getD i 0 = m) (hl : m < done.length) : setDone done (rd.take (i + 1)) = (setDone done (rd.take i)).set m true := by
  apply List.ext_getElem
  · simp [setDone]
  · intro k h1 h2
    have hk : k < done.length := by simpa [setDone] using h1
    simp only [setDone, List.getElem_map, List.getElem_range, List.getElem_set, List.contains_iff_mem]
    by_cases e : m = k
    · subst e
      rw [if_pos rfl]
      have : ((m : Nat) : Int) ∈ rd.take (i + 1) := (mem_take_succ hi _).2 (.inr hm.symm)
      simp [this]
    · rw [if_neg e]
      congr 1
      rw [Bool.eq_iff_iff, List.contains_iff_mem, List.contains_iff_mem, mem_take_succ hi, hm]
      constructor
      · rintro (h | h)
        · exact h
        · omega
      · exact .inl
theorem setRate_step {rate : List (Int × Int)} {rd : List Int} {b : Int × Int} {i m : Nat} (hi : i < rd.length) (hm : rd.getD i 0 = m) (hl : m < rate.length) : setRate rate (rd.take (i + 1)) b = (setRate rate (rd.take i) b).set m b := by
  apply List.ext_getElem
  · simp [setRate]
  · intro k h1 h2
    have hk : k < rate.length := by simpa [setRate] using h1
    simp only [setRate, List.getElem_map, List.getElem_range, List.getElem_set]
    by_cases e : m = k
    · subst e
      rw [if_pos rfl, if_pos]
      rw [List.contains_iff_mem]
      exact (mem_take_succ hi _).2 (.inr hm.symm)
    · rw [if_neg e]
      have : (rd.take (i + 1)).contains ((k : Nat) : Int) = (rd.take i).contains ((k : Nat) : Int) := by
        rw [Bool.eq_iff_iff, List.contains_iff_mem, List.contains_iff_mem, mem_take_succ hi, hm]
        constructor
        · rintro (h | h)
          · exact h
          · omega
        · exact .inl
      rw [this]
theorem flat_set : ∀ (l : List (Int × Int)) (m : Nat) (a : Int × Int), flat (l.set m a) = ((flat l).set (m * 2) (.int .i64 a.1)).set (m * 2 + 1) (.int .i64 a.2) := by
  intro l
  induction l with
  | nil => intro m a; simp [flat]
  | cons b l ih =>
    intro m a
    cases m with
    | zero => simp [flat]
    | succ m =>
      rw [List.set_cons_succ, flat, ih, show (m + 1) * 2 = m * 2 + 1 + 1 by omega]
      simp [flat]
theorem dB_map (g : Nat → Bool) {n x : Nat} (h : x < n) : dB ((List.range n).map g) x = g x := by
  simp [dB, List.getD, List.getElem?_map, List.getElem?_range h]
theorem any_take (p : List Int) (g : Int → Bool) (i : Nat) (h : i < p.length) : (p.take (i + 1)).any g = ((p.take i).any g || g (p.getD i 0)) := by
  rw [take_snoc p i h 0, List.any_append]
  simp
theorem RowAt.keep {w w' : World} {g : Nat} {T : TypeId} {xs : List Value} (hk : w'.heap[g]? = w.heap[g]?) (h : RowAt w g T xs) : RowAt w' g T xs := by
  unfold RowAt
  rw [hk]; exact h
theorem best_mem {sh : Nat → Option (Int × Int)} : ∀ (n : Nat) (b : Int × Int), bestOf sh n = some b → ∃ l, l < n ∧ sh l = some b := by
  intro n
  induction n with
  | zero => intro b h; simp [bestOf] at h
  | succ n ih =>
    intro b h
    unfold bestOf at h
    cases hs : sh n with
    | none => rw [hs] at h; obtain ⟨l, hl, hb⟩ := ih b h; exact ⟨l, by omega, hb⟩
    | some s =>
      rw [hs] at h
      cases hb : bestOf sh n with
      | none => rw [hb] at h; obtain rfl := Option.some.inj h; exact ⟨n, by omega, hs⟩
      | some b0 =>
        rw [hb] at h
        simp only at h
        split at h
        · obtain rfl := Option.some.inj h; exact ⟨n, by omega, hs⟩
        · obtain rfl := Option.some.inj h; obtain ⟨l, hl, hb'⟩ := ih b0 hb; exact ⟨l, by omega, hb'⟩
theorem nar_new {sh : Nat → Option (Int × Int)} {n l : Nat} (h : ∀ i, narAt sh (l + 1) i = decide (i = l)) : (List.range n).map (narAt sh (l + 1)) = (List.replicate n false).set l true := by
  apply List.ext_getElem
  · simp
  · intro i h1 h2
    simp only [List.getElem_map, List.getElem_range, List.getElem_set, List.getElem_replicate, h]
    by_cases e : i = l
    · subst e; simp
    · have : ¬ l = i := fun x => e x.symm
      simp [e, this]
theorem nar_same {sh : Nat → Option (Int × Int)} {n l : Nat} (h : ∀ i, narAt sh (l + 1) i = (narAt sh l i || decide (i = l))) : (List.range n).map (narAt sh (l + 1)) = ((List.range n).map (narAt sh l)).set l true := by
  apply List.ext_getElem
  · simp
  · intro i h1 h2
    simp only [List.getElem_map, List.getElem_range, List.getElem_set, h]
    by_cases e : i = l
    · subst e; simp
    · have : ¬ l = i := fun x => e x.symm
      simp [e, this]
theorem boolsV_set (l : List Bool) (i : Nat) (b : Bool) : boolsV (l.set i b) = (boolsV l).set i (.bool b) := by simp [boolsV, List.map_set]
theorem RowAt.set2 {w : World} {g : Nat} {T : TypeId} {a b : Value} (h : RowAt w g T [a, b]) (x y : Value) : RowAt ((w.setCell ⟨g, 0, none⟩ x).setCell ⟨g, 1, none⟩ y) g T [x, y] := by
  have := (h.set 0 x).set 1 y
  simpa using this
theorem fillAt_acc {caps : List Int} {paths : List (List Int)} {rate : List (Int × Int)} {done : List Bool} {acc : List (List Int)} (hg : Good caps paths) (h : FillAt caps paths rate done acc) : acc.length ≤ paths.length := by
  obtain ⟨k, b, D, _, _, _, he⟩ := h
  have := fill_rounds_le hg
  rw [he] at this
  simp only [List.length_append] at this
  omega
/-- one round more -/
theorem mem_append {gr gd : Nat} {wr w13 : World} {v6 v' v16 : Value} {o : Obj} {rate' : List (Int × Int)} {done' : List Bool} {acc : List (List Int)} {rd : List Int} {vs : List Value} (hrt : RowAt wr gr 50 (flat rate')) (hdn : RowAt wr gd 4 (boolsV done')) (hgr : gr < gd)
    (hv : ∀ i, i < acc.length → IntsAt (fun b => gd < b ∧ v6.ownBlock ≠ some b) wr (vs.getD i undef) (acc.getD i [])) (hnew : IntsAt (fun b => gd < b ∧ v6.ownBlock ≠ some b) wr v16 rd) (hvs : vs.length = acc.length)
    (hown' : w13.ownsRow (gd + 1) 22 1 v' (acc.length + 1) (vs ++ [v16])) (hgrow : (wr.alloc o).grownBy w13 v6.ownBlock) (hat : v'.ownBlock = v6.ownBlock ∨ v'.ownBlock = some (wr.alloc o).heap.size) (hb : Below (gd + 1) wr w13) :
    FillMem gr gd w13 v' rate' done' (acc ++ [rd]) := by
  refine ⟨hrt.later hb (by omega), hdn.later hb (by omega), vs ++ [v16], by simpa using hown', ?_⟩
  have hkeep : ∀ b, (gd < b ∧ v6.ownBlock ≠ some b) → b < wr.heap.size → w13.heap[b]? = wr.heap[b]? := by
    intro b hb' hlt
    have h1 := hgrow.block b (by simp; omega) (fun e => hb'.2 e.symm)
    rw [h1]
    exact ((Below.refl wr.heap.size wr).alloc (Nat.le_refl _) o).block b hlt
  have hQ : ∀ b, (gd < b ∧ v6.ownBlock ≠ some b) → b < wr.heap.size → (gd < b ∧ v'.ownBlock ≠ some b) := by
    intro b hb' hlt
    refine ⟨hb'.1, ?_⟩
    rcases hat with h | h
    · rw [h]; exact hb'.2
    · rw [h]
      simp
      omega
  exact ints_snoc hvs (fun i hi => (hv i hi).keep hkeep hQ) (hnew.keep hkeep hQ)
theorem flat_cells {rate : List (Int × Int)} {m : Nat} (h : m < rate.length) : (flat rate)[m * 2]? = some (.int .i64 (rP rate m).1) ∧ (flat rate)[m * 2 + 1]? = some (.int .i64 (rP rate m).2) := flat_at rate m h
theorem bools_cell {done : List Bool} {m : Nat} (h : m < done.length) : (boolsV done)[m]? = some (.bool (dB done m)) := by
  simp [boolsV, dB, List.getD, List.getElem?_eq_getElem h]

end Fl
end Go.Proofs.YtdldgefahgojaakGreatDoor

/- The landed fill's own lists: the links of a least share, who is free, flow by flow. No Go in it but what FlMem brings. -/
namespace Go.Proofs.YtdldgefahgojaakGreatDoor
namespace Fl
open Go.RowKit Fr Ns Ld
set_option linter.unusedSimpArgs false
set_option linter.unusedVariables false

/-- the links of the least share among the first n, rising -/
def linksTo (sh : Nat → Option (Int × Int)) (n : Nat) : List Int := ((List.range n).filter (narAt sh n)).map (fun l : Nat => (l : Int))
theorem linksTo_length (sh : Nat → Option (Int × Int)) (n : Nat) : (linksTo sh n).length ≤ n := by
  unfold linksTo
  rw [List.length_map]
  exact Nat.le_trans (List.length_filter_le _ _) (by simp)
theorem links_keep {sh : Nat → Option (Int × Int)} {n : Nat} (h : ∀ l, narAt sh (n + 1) l = narAt sh n l) : linksTo sh (n + 1) = linksTo sh n := by
  unfold linksTo
  have z : narAt sh n n = false := by simp [narAt]
  rw [show narAt sh (n + 1) = narAt sh n from funext h, List.range_succ, List.filter_append, List.map_append]
  simp [List.filter_cons, z]
theorem links_new {sh : Nat → Option (Int × Int)} {n : Nat} (h : ∀ l, narAt sh (n + 1) l = decide (l = n)) : linksTo sh (n + 1) = [(n : Int)] := by
  unfold linksTo
  have e : (List.range n).filter (fun l => decide (l = n)) = [] := List.filter_eq_nil_iff.2 (fun a ha => by have := List.mem_range.1 ha; simp; omega)
  rw [show narAt sh (n + 1) = (fun l => decide (l = n)) from funext h, List.range_succ, List.filter_append, e]
  simp [List.filter_cons]
theorem links_same {sh : Nat → Option (Int × Int)} {n : Nat} (h : ∀ l, narAt sh (n + 1) l = (narAt sh n l || decide (l = n))) : linksTo sh (n + 1) = linksTo sh n ++ [(n : Int)] := by
  unfold linksTo
  have e : (List.range n).filter (fun l => narAt sh n l || decide (l = n)) = (List.range n).filter (narAt sh n) := List.filter_congr (fun a ha => by
    have := List.mem_range.1 ha
    have hne : decide (a = n) = false := decide_eq_false (by omega)
    rw [hne, Bool.or_false])
  rw [show narAt sh (n + 1) = (fun l => narAt sh n l || decide (l = n)) from funext h, List.range_succ, List.filter_append, e]
  simp [List.filter_cons]
theorem mem_links {sh : Nat → Option (Int × Int)} {n : Nat} {x : Int} : x ∈ linksTo sh n ↔ ∃ l : Nat, x = l ∧ l < n ∧ narAt sh n l = true := by
  unfold linksTo
  rw [List.mem_map]
  constructor
  · rintro ⟨l, hl, rfl⟩
    rw [List.mem_filter, List.mem_range] at hl
    exact ⟨l, rfl, hl.1, hl.2⟩
  · rintro ⟨l, rfl, h1, h2⟩
    exact ⟨l, List.mem_filter.2 ⟨List.mem_range.2 h1, h2⟩, rfl⟩
theorem links_some {sh : Nat → Option (Int × Int)} {n : Nat} {b : Int × Int} (h : bestOf sh n = some b) : 0 < (linksTo sh n).length := by
  obtain ⟨l, hl, hs⟩ := best_mem n b h
  have : (l : Int) ∈ linksTo sh n := mem_links.2 ⟨l, rfl, hl, by simp [narAt, hl, hs, h]⟩
  exact List.length_pos_of_mem this
theorem links_none {sh : Nat → Option (Int × Int)} {n : Nat} (h : bestOf sh n = none) : linksTo sh n = [] := by
  rw [List.eq_nil_iff_forall_not_mem]
  intro x hx
  obtain ⟨l, _, hl, hn⟩ := mem_links.1 hx
  have := best_none n h l hl
  simp [narAt, this] at hn
theorem in_links {sh : Nat → Option (Int × Int)} {n : Nat} {x : Int} (hx : 0 ≤ x) : inB (linksTo sh n) x = narAt sh n x.toNat := by
  rw [Bool.eq_iff_iff]
  have : inB (linksTo sh n) x = true ↔ x ∈ linksTo sh n := by simp [inB]
  rw [this, mem_links]
  constructor
  · rintro ⟨l, rfl, _, h⟩; simpa using h
  · intro h
    have hl : x.toNat < n := by
      apply Classical.byContradiction
      intro hn
      simp [narAt, hn] at h
    exact ⟨x.toNat, by omega, hl, h⟩
theorem any_links {sh : Nat → Option (Int × Int)} {n : Nat} {p : List Int} (hp : ∀ x ∈ p, 0 ≤ x) : p.any (fun x => inB (linksTo sh n) x) = p.any (fun x => narAt sh n x.toNat) := by
  rw [Bool.eq_iff_iff, List.any_eq_true, List.any_eq_true]
  constructor
  · rintro ⟨x, hx, h⟩; exact ⟨x, hx, by rw [← in_links (hp x hx)]; exact h⟩
  · rintro ⟨x, hx, h⟩; exact ⟨x, hx, by rw [in_links (hp x hx)]; exact h⟩

/-! ### flow by flow -/
theorem usersFrom_app (link : Int) : ∀ (a b : List (List Int)) (i : Nat), usersFrom link i (a ++ b) = usersFrom link i a ++ usersFrom link (i + a.length) b := by
  intro a
  induction a with
  | nil => intro b i; simp [usersFrom]
  | cons p r ih =>
    intro b i
    simp only [List.cons_append, usersFrom, ih]
    have e : i + 1 + r.length = i + (p :: r).length := by simp; omega
    rw [e]
    split <;> simp
theorem users_take (paths : List (List Int)) (l : Int) (k : Nat) : users (paths.take k) l = (users paths l).take (users (paths.take k) l).length := by
  have e : users paths l = users (paths.take k) l ++ usersFrom l (0 + (paths.take k).length) (paths.drop k) := by
    unfold users
    rw [← usersFrom_app, List.take_append_drop]
  rw [e, List.take_left]
/-- what a link takes, less the rates of the first k flows that are not free, and how many of these are -/
def linkTo (caps : List Int) (paths : List (List Int)) (rate : List (Int × Int)) (done : List Bool) (l k : Nat) : (Int × Int) × Nat := linkSum rate done (users (paths.take k) l) (caps.getD l 0, 1) 0
theorem linkTo_zero (caps : List Int) (paths : List (List Int)) (rate : List (Int × Int)) (done : List Bool) (l : Nat) : linkTo caps paths rate done l 0 = ((caps.getD l 0, 1), 0) := rfl
theorem linkTo_step {caps : List Int} {paths : List (List Int)} {rate : List (Int × Int)} {done : List Bool} {l k : Nat} (hk : k < paths.length) :
    linkTo caps paths rate done l (k + 1) = if inB (paths.getD k []) l = true then (if dB done k = true then (sumP (linkTo caps paths rate done l k).1 (negP (rP rate k)), (linkTo caps paths rate done l k).2) else ((linkTo caps paths rate done l k).1, (linkTo caps paths rate done l k).2 + 1)) else linkTo caps paths rate done l k := by
  unfold linkTo
  rw [users_step paths l k hk, linkSum_append]
  by_cases h : inB (paths.getD k []) l = true
  · rw [if_pos h, if_pos h]
    simp only [linkSum, Int.toNat_natCast]
  · rw [if_neg h, if_neg h]
    simp only [linkSum]
theorem linkTo_all (caps : List Int) (paths : List (List Int)) (rate : List (Int × Int)) (done : List Bool) (l : Nat) : linkTo caps paths rate done l paths.length = linkSum rate done (users paths l) (caps.getD l 0, 1) 0 := by
  unfold linkTo
  rw [List.take_of_length_le (Nat.le_refl _)]
theorem linkTo_part (caps : List Int) (paths : List (List Int)) (rate : List (Int × Int)) (done : List Bool) (l k : Nat) : ∃ j, j ≤ paths.length ∧ linkTo caps paths rate done l k = linkSum rate done ((users paths l).take j) (caps.getD l 0, 1) 0 := by
  refine ⟨(users (paths.take k) l).length, ?_, ?_⟩
  · have := users_length (l : Int) 0 (paths.take k)
    have h2 : (paths.take k).length ≤ paths.length := by rw [List.length_take]; omega
    unfold users
    omega
  · unfold linkTo
    rw [← users_take]
theorem linkTo_free {caps : List Int} {paths : List (List Int)} {rate : List (Int × Int)} {done : List Bool} {l : Nat} : ∀ k, k ≤ paths.length → (linkTo caps paths rate done l k).2 ≤ k := by
  intro k
  induction k with
  | zero => intro _; rw [linkTo_zero]; exact Nat.le_refl 0
  | succ k ih =>
    intro hk
    have := ih (by omega)
    rw [linkTo_step (by omega)]
    split
    · split <;> simp <;> omega
    · omega

/-! ### who is free -/
def freeL (done : List Bool) : List Bool := done.map (fun b => !b)
theorem freeL_length (done : List Bool) : (freeL done).length = done.length := by simp [freeL]
theorem free_cell {done : List Bool} {m : Nat} (h : m < done.length) : (boolsV (freeL done))[m]? = some (.bool (!dB done m)) := by
  simp [boolsV, freeL, dB, List.getD, List.getElem?_eq_getElem h]
theorem freeL_start (n : Nat) : freeL (List.replicate n false) = List.replicate n true := by simp [freeL]
theorem freeL_set (done : List Bool) (m : Nat) : freeL (done.set m true) = (freeL done).set m false := by simp [freeL, List.map_set]
theorem free_any {paths : List (List Int)} {done : List Bool} (hl : done.length = paths.length) : (freeL done).any id = decide (freeN paths done ≠ 0) := by
  rw [Bool.eq_iff_iff, List.any_eq_true, decide_eq_true_eq]
  unfold freeN
  rw [Ne, List.countP_eq_zero]
  constructor
  · rintro ⟨b, hb, h⟩ hn
    obtain ⟨i, hi, rfl⟩ := List.mem_iff_getElem.1 hb
    rw [freeL_length] at hi
    have := hn i (List.mem_range.2 (by omega))
    simp [freeL] at h
    simp [dB, List.getD, List.getElem?_eq_getElem hi, h] at this
  · intro hn
    apply Classical.byContradiction
    intro hc
    refine hn (fun f hf => ?_)
    have hf' := List.mem_range.1 hf
    intro hd
    refine hc ⟨true, ?_, rfl⟩
    have h1 : done[f]'(by omega) = false := by
      simpa [dB, List.getD, List.getElem?_eq_getElem (show f < done.length by omega)] using hd
    unfold freeL
    rw [List.mem_map]
    exact ⟨false, by rw [← h1]; exact List.getElem_mem _, rfl⟩
theorem setDone_snoc {done : List Bool} {rd : List Int} {m : Nat} (hl : m < done.length) : setDone done (rd ++ [(m : Int)]) = (setDone done rd).set m true := by
  have h := setDone_step (done := done) (rd := rd ++ [(m : Int)]) (i := rd.length) (m := m) (by simp) (by simp [List.getD]) hl
  rw [List.take_left] at h
  rw [← h, List.take_of_length_le (by simp)]
theorem setRate_snoc {rate : List (Int × Int)} {rd : List Int} {b : Int × Int} {m : Nat} (hl : m < rate.length) : setRate rate (rd ++ [(m : Int)]) b = (setRate rate rd b).set m b := by
  have h := setRate_step (rate := rate) (rd := rd ++ [(m : Int)]) (b := b) (i := rd.length) (m := m) (by simp) (by simp [List.getD]) hl
  rw [List.take_left] at h
  rw [← h, List.take_of_length_le (by simp)]
theorem roundTo_lt {paths : List (List Int)} {done : List Bool} {nar : Nat → Bool} {k : Nat} {x : Int} (h : x ∈ roundTo paths done nar k) : x < k := by
  unfold roundTo at h
  rw [List.mem_map] at h
  obtain ⟨a, ha, rfl⟩ := h
  rw [List.mem_filter, List.mem_range] at ha
  omega
theorem free_yet {paths : List (List Int)} {done : List Bool} {nar : Nat → Bool} {k : Nat} (hk : k < done.length) : dB (setDone done (roundTo paths done nar k)) k = dB done k := by
  rw [dB_setDone hk]
  have : ¬ ((k : Int) ∈ roundTo paths done nar k) := fun h => by have := roundTo_lt h; omega
  simp [this]
theorem setDone_length (done : List Bool) (rd : List Int) : (setDone done rd).length = done.length := by simp [setDone]
theorem setRate_length (rate : List (Int × Int)) (rd : List Int) (b : Int × Int) : (setRate rate rd b).length = rate.length := by simp [setRate]
end Fl
end Go.Proofs.YtdldgefahgojaakGreatDoor

/- A region whose order Go leaves open, whose operations only read and whose calls make memory of their own alone: walked once, in the order of the text. -/
namespace Go.Proofs.YtdldgefahgojaakGreatDoor
namespace Ev
open Go.RowKit

/-- a world later than W: all that was there in W is as it was -/
structure Lat (W : World) where
  u : World
  b : Below W.heap.size W u
theorem wp_region_lat {P : Program} {id : Nat} {Q : Exit → Act → World → Prop} {a : Act} {w : World} {l : List Oper} (hm : P.follows .mixedOrders = true) (hB : Region.lexB .any l.toArray = true)
    (h : wpQuiet P l.toArray (fun u => ∃ x : Lat w, u = x.u) (fun a' => ∀ w', (∃ x : Lat w, w' = x.u) → Q .normal a' w') l a) : (Code.region id l.toArray true).wp P Q a w :=
  wp_region_quiet (C := fun u => ∃ x : Lat w, u = x.u) hm hB ⟨⟨w.drew, (Below.refl _ _).drew⟩, rfl⟩ (by simpa using h)
theorem lat_of {P : Program} {f : FuncId} {args : Array Value} {W : World} {x : Lat W} {v : Value} (h : Calls P f args x.u fun e w' => e = .returned v ∧ Below x.u.heap.size x.u w') : Calls P f args x.u fun e w'' => e = .returned v ∧ ∃ y : Lat W, w'' = y.u :=
  h.mono fun _ w' ⟨he, hb⟩ => ⟨he, ⟨w', x.b.trans (hb.mono x.b.size)⟩, rfl⟩
theorem Lat.cell {W : World} (x : Lat W) {a : Addr} {v : Value} (h : W.cell? a = some v) : x.u.cell? a = some v := cell_later x.b h
end Ev
end Go.Proofs.YtdldgefahgojaakGreatDoor

/- A range over a function that hands on one thing after the other: what the iterator promises (the k-th round is of the k-th thing, so a body is asked of the next thing alone), and the statement. -/
namespace Go.Proofs.YtdldgefahgojaakGreatDoor
namespace Ev
open Go Go.RowKit
set_option linter.unusedVariables false
set_option linter.unusedSimpArgs false

/-- blocks that are as they were -/
def Stays (G : Nat → Prop) (U U' : World) : Prop := ∀ b, G b → U'.heap[b]? = U.heap[b]?
theorem Stays.refl (G : Nat → Prop) (U : World) : Stays G U U := fun _ _ => rfl
theorem Stays.trans {G : Nat → Prop} {U V X : World} (h : Stays G U V) (k : Stays G V X) : Stays G U X := fun b hb => (k b hb).trans (h b hb)
/-- what is said of a world whatever becomes of the blocks of G -/
def Firm (G : Nat → Prop) (J : Nat → World → Prop) : Prop := ∀ k U U', J k U → ButIn G U U' → J k U'
/-- the iterator gf with these bindings goes over item 0 .. item (N - 1): it reads the blocks of G, writes none but those of Gw, and stops where a round says so -/
def SeqGo (P : Program) (gf : Nat) (lb : Array Value) (item : Nat → Array Value) (N : Nat) (G Gw : Nat → Prop) (w : World) : Prop :=
  ∀ (l : Nat) (J Jx : Nat → World → Prop) (W : World), Below w.heap.size w W → Firm Gw J → Firm Gw Jx →
    (∀ k U, k < N → J k U → YieldAt Fence.wide 3 P l (item k) U fun e U' => (e = .returned (.bool true) ∧ J (k + 1) U' ∧ Stays G U U') ∨ (e = .returned (.bool false) ∧ Jx (k + 1) U')) →
    J 0 W → CallsIn Fence.wide 4 P gf (#[.func (.yield l) #[] #[]] ++ lb) W fun e W' => (∃ v, e = .returned v) ∧ (J N W' ∨ ∃ k, k ≤ N ∧ Jx k W')
/-- how a round's body is left -/
def roundEnd (H : Nat → Prop) (I : Nat → World → Prop) (Ix : Code → Nat → World → Prop) (k : Nat) (U : World) : Exit → Act → World → Prop
  | .normal, _, U' => Stays H U U' ∧ I k U'
  | .ret, _, U' => Stays H U U' ∧ Ix .ret k U'
  | .exit id, _, U' => Stays H U U' ∧ Ix (.exit id) k U'
  | .goto t, _, U' => Stays H U U' ∧ Ix (.goto t) k U'
  | .panic _, _, _ => False
  | .outgrown, _, _ => False
theorem butIn_put (H : Nat → Prop) (U : World) (l : Nat) (o : Obj) (hl : H l) : ButIn H U (U.putObj l o) :=
  ⟨⟨rfl, rfl, rfl, by simp, fun k hk => absurd hk (Nat.not_lt_zero k)⟩, fun b _ hb => World.putObj_heap_other (fun e => hb (e ▸ hl))⟩
theorem butIn_alloc (H : Nat → Prop) (U : World) (o : Obj) : ButIn H U (U.alloc o) := ButIn.of_below ((Below.refl _ _).alloc (Nat.le_refl _) o)

/-- the loop's own two blocks -/
def loopB (w : World) (b : Nat) : Prop := b = w.heap.size ∨ b = w.heap.size + 1

theorem range_go {P : Program} {g : Operand} {ps : Array Tmp} {assign body : Code} {Q : Exit → Act → World → Prop} {a : Act} {w : World} {gf : Nat} {lb : Array Value} {item : Nat → Array Value} {N : Nat} {G Gw : Nat → Prop}
    (hg : a.eval g = .func (.func gf) #[] lb) (eg : ∀ args u, (callFunc gf args).run P u = .ok (.enter gf args) u) (hseq : SeqGo P gf lb item N G Gw w) (hps : ∀ k, (item k).size = ps.size)
    (hG : ∀ b, G b → b < w.heap.size) (hGw : ∀ b, Gw b → b < w.heap.size)
    (I : Nat → World → Prop) (Ix : Code → Nat → World → Prop) (hI : Firm (fun b => Gw b ∨ loopB w b) I) (hIx : ∀ c, Firm (fun b => Gw b ∨ loopB w b) (Ix c)) (h0 : I 0 w)
    (Ax : Nat → Act → World → Prop) (hAx : ∀ k a' U U', Ax k a' U → ButIn (loopB w) U U' → Ax k a' U')
    (hassign : ∀ (k : Nat) (U : World) (K : Act → World → Prop), k < N → I k U → (∀ a' U', Stays (fun b => G b ∨ loopB w b) U U' → I k U' → Ax k a' U' → K a' U') →
      assign.wpIn (Fence.wide.inRound (w.heap.size + 1)) 3 P (Exit.then K (fun _ _ _ => False)) { tmps := (ps.zip (item k)).foldl (fun t (p, v) => t.setIfInBounds p v) a.tmps, defers := [] } U)
    (hbody : ∀ (k : Nat) (a' : Act) (U : World), k < N → w.heap.size + 1 < U.heap.size → I k U → Ax k a' U → body.wpIn (Fence.wide.inRound (w.heap.size + 1)) 3 P (roundEnd (fun b => G b ∨ loopB w b) I Ix (k + 1) U) a' U)
    (hdone : ∀ U : World, I N U → U.heap[w.heap.size]? = some (.deferred (some [])) → Q .normal { a with defers := { target := .collected w.heap.size, args := #[] } :: a.defers } U)
    (hstop : ∀ (c : Code) (k : Nat) (U : World), k ≤ N → Ix c k U → U.heap[w.heap.size]? = some (.deferred (some [])) → c.wpIn Fence.wide 5 P Q { a with defers := { target := .collected w.heap.size, args := #[] } :: a.defers } U) :
    (Code.rangeFunc g ps assign body).wpIn Fence.wide 5 P Q a w := by
  refine wpIn_rangeFunc fun fn hfn => ?_
  -- the record of the loop, in each of its states
  let R : LoopState → Option Code → Obj := fun s j => .loop { state := s, pending := j, fn, tmps := a.tmps, params := ps, assign, body, defers := w.heap.size }
  let B : World → Prop := fun U => U.heap[w.heap.size]? = some (.deferred (some []))
  let W1 : World := (w.alloc (.deferred (some []))).alloc (R .ready none)
  have e1 : W1.heap[w.heap.size + 1]? = some (R .ready none) := by
    have := World.alloc_heap_new (w.alloc (.deferred (some []))) (R .ready none)
    rwa [World.size_alloc] at this
  have e0 : B W1 := (Below.heap_alloc _ _ _ (by simp)).trans (World.alloc_heap_new w _)
  have hw1 : Below w.heap.size w W1 := ((Below.refl _ w).alloc (Nat.le_refl _) _).alloc (by simp) _
  have hi1 : I 0 W1 := hI _ _ _ (hI _ _ _ h0 (butIn_alloc _ _ _)) (butIn_alloc _ _ _)
  have rl : loopB w (w.heap.size + 1) := .inr rfl
  -- what stays of the two blocks where only the iterator's own have changed
  have hlw : ∀ {U U' : World} {b : Nat} {o : Obj}, loopB w b → ButIn Gw U U' → U.heap[b]? = some o → U'.heap[b]? = some o := fun hb h ho =>
    (h.2 _ (Array.getElem?_eq_some_iff.1 ho).1 (fun hgw => by have := hGw _ hgw; rcases hb with rfl | rfl <;> omega)).trans ho
  have hIg : ∀ {k : Nat} {U U' : World}, I k U → ButIn Gw U U' → I k U' := fun h hb => hI _ _ _ h ⟨hb.1, fun b hb1 hb2 => hb.2 b hb1 (fun q => hb2 (.inl q))⟩
  refine ⟨w.heap.size + 1, [{ target := .collected w.heap.size, args := #[] }], W1, { target := .fn (.func gf) lb, args := #[.func (.yield (w.heap.size + 1)) #[] #[]] }, W1, gf,
    #[.func (.yield (w.heap.size + 1)) #[] #[]] ++ lb, W1, run_enterLoop_outer _ _ _ _ _, by simp only [resolve, hg]; simp [go_sem], fun _ _ => trivial, by simp [invoke, go_sem, eg], fun _ => by decide, ?_⟩
  refine (hseq (w.heap.size + 1) (fun k U => I k U ∧ U.heap[w.heap.size + 1]? = some (R .ready none) ∧ B U) (fun k U => ∃ c, Ix c k U ∧ U.heap[w.heap.size + 1]? = some (R .done (some c)) ∧ B U) W1 hw1
    (fun k U U' h hb => ⟨hIg h.1 hb, hlw rl hb h.2.1, hlw (.inl rfl) hb h.2.2⟩)
    (fun k U U' ⟨c, h1, h2, h3⟩ hb => ⟨c, hIx c _ _ _ h1 ⟨hb.1, fun b hb1 hb2 => hb.2 b hb1 (fun q => hb2 (.inl q))⟩, hlw rl hb h2, hlw (.inl rfl) hb h3⟩) ?_ ⟨hi1, e1, e0⟩).mono ?_
  · -- a round
    rintro k U hk ⟨hi, hr, hd⟩
    refine ⟨fn, _, assign, body, run_yield hr (hps k), roundIn_of_wpIn hfn (hassign k U _ hk hi ?_)⟩
    intro a' V hsv hiv hav
    have hrv : V.heap[w.heap.size + 1]? = some (R .ready none) := (hsv _ (.inr rl)).trans hr
    have hdv : B V := (hsv _ (.inr (.inl rfl))).trans hd
    have hlt : w.heap.size + 1 < V.heap.size := (Array.getElem?_eq_some_iff.1 hrv).1
    refine ⟨_, run_beginRound hrv rfl, ?_⟩
    obtain ⟨X, hX⟩ : ∃ X, X = V.putObj (w.heap.size + 1) (R .busy none) := ⟨_, rfl⟩
    have hrx : X.heap[w.heap.size + 1]? = some (R .busy none) := by rw [hX]; exact World.putObj_heap_same hlt
    have hdx : B X := by rw [hX]; exact (World.putObj_heap_other (by omega)).trans hdv
    have hix : I k X := by rw [hX]; exact hI _ _ _ hiv (butIn_put _ _ _ _ (.inr rl))
    have hax : Ax k a' X := by rw [hX]; exact hAx _ _ _ _ hav (butIn_put _ _ _ _ rl)
    have hgx : Stays G U X := fun b hb => by rw [hX]; exact (World.putObj_heap_other (by have := hG b hb; omega)).trans (hsv b (.inl hb))
    show body.wpIn _ _ _ _ _ (V.putObj (w.heap.size + 1) (R .busy none))
    rw [← hX]
    refine wpIn_mono (hbody k a' X hk (Array.getElem?_eq_some_iff.1 hrx).1 hix hax) ?_
    -- the round's end, whichever way its body is left
    have fin : ∀ (j : Option Code) (Y : World), Stays (fun b => G b ∨ loopB w b) X Y → ∃ Z, Z = Y.putObj (w.heap.size + 1) (R (if j.isNone then .ready else .done) j) ∧ (Instr.endRound (w.heap.size + 1) j).run P Y = .ok (.bool j.isNone) Z ∧
        Z.heap[w.heap.size + 1]? = some (R (if j.isNone then .ready else .done) j) ∧ B Z ∧ Stays G U Z := fun j Y hy => by
      have hry : Y.heap[w.heap.size + 1]? = some (R .busy none) := (hy _ (.inr rl)).trans hrx
      refine ⟨_, rfl, run_endRound j hry, World.putObj_heap_same (Array.getElem?_eq_some_iff.1 hry).1, (World.putObj_heap_other (by omega)).trans ((hy _ (.inr (.inl rfl))).trans hdx), fun b hb => ?_⟩
      exact (World.putObj_heap_other (by have := hG b hb; omega)).trans ((hy b (.inl hb)).trans (hgx b hb))
    intro e a3 Y hp
    match e, hp with
    | .normal, hp =>
      obtain ⟨Z, hZ, h1, h2, h3, h4⟩ := fin none Y hp.1
      exact ⟨_, _, h1, .inl ⟨rfl, ⟨by rw [hZ]; exact hI _ _ _ hp.2 (butIn_put _ _ _ _ (.inr rl)), h2, h3⟩, h4⟩⟩
    | .ret, hp =>
      obtain ⟨Z, hZ, h1, h2, h3, h4⟩ := fin (some .ret) Y hp.1
      exact ⟨_, _, h1, .inr ⟨rfl, _, by rw [hZ]; exact hIx _ _ _ _ hp.2 (butIn_put _ _ _ _ (.inr rl)), h2, h3⟩⟩
    | .exit id, hp =>
      obtain ⟨Z, hZ, h1, h2, h3, h4⟩ := fin (some (.exit id)) Y hp.1
      exact ⟨_, _, h1, .inr ⟨rfl, _, by rw [hZ]; exact hIx _ _ _ _ hp.2 (butIn_put _ _ _ _ (.inr rl)), h2, h3⟩⟩
    | .goto t, hp =>
      obtain ⟨Z, hZ, h1, h2, h3, h4⟩ := fin (some (.goto t)) Y hp.1
      exact ⟨_, _, h1, .inr ⟨rfl, _, by rw [hZ]; exact hIx _ _ _ _ hp.2 (butIn_put _ _ _ _ (.inr rl)), h2, h3⟩⟩
    | .panic _, hp => exact hp.elim
    | .outgrown, hp => exact hp.elim
  · -- behind the iterator
    rintro e U ⟨⟨v, rfl⟩, h⟩
    rcases h with ⟨hi, hr, hd⟩ | ⟨k, hk, c, hi, hr, hd⟩
    · exact ⟨none, _, run_endLoop hr (by simp), hdone _ (hI _ _ _ hi (butIn_put _ _ _ _ (.inr rl))) ((World.putObj_heap_other (by omega)).trans hd)⟩
    · exact ⟨some c, _, run_endLoop hr (by simp), hstop c k _ hk (hIx _ _ _ _ hi (butIn_put _ _ _ _ (.inr rl))) ((World.putObj_heap_other (by omega)).trans hd)⟩
end Ev
end Go.Proofs.YtdldgefahgojaakGreatDoor

/- Frames by what some of their slots hold; a piece of a function's code; how pieces join. So that a great function goes piece by piece, each a declaration of its own. -/
namespace Go.Proofs.YtdldgefahgojaakGreatDoor
open Go.RowKit
set_option linter.unusedSimpArgs false
set_option linter.unusedVariables false

def Has (t : List Value) : List (Nat × Value) → Prop
  | [] => True
  | (k, v) :: r => t[k]? = some v ∧ Has t r
def HasX (X : Nat → Value) : List (Nat × Value) → Prop
  | [] => True
  | (k, v) :: r => X k = v ∧ HasX X r
/-- a frame of n slots, of which these hold these -/
def Slots (n : Nat) (vs : List (Nat × Value)) (a : Act) : Prop := a.defers = [] ∧ a.tmps.toList.length = n ∧ Has a.tmps.toList vs
theorem has_x {t : List Value} : ∀ vs, Has t vs → HasX (fun i => t.getD i undef) vs := by
  intro vs
  induction vs with
  | nil => intro _; trivial
  | cons p r ih =>
    obtain ⟨k, v⟩ := p
    rintro ⟨h1, h2⟩
    exact ⟨by simp [List.getD, h1], ih h2⟩
theorem Slots.lay {n : Nat} {vs : List (Nat × Value)} {a : Act} (h : Slots n vs a) : ∃ X : Nat → Value, a = ⟨((List.range n).map X).toArray, []⟩ ∧ HasX X vs := by
  obtain ⟨⟨t⟩, d⟩ := a
  obtain ⟨h1, h2, h3⟩ := h
  simp only at h1 h2 h3
  subst h1 h2
  refine ⟨fun i => t.getD i undef, ?_, has_x vs h3⟩
  congr 2
  apply List.ext_getElem
  · simp
  · intro i h1 h2
    simp [List.getD, h1]
theorem Slots.head {n : Nat} {p : Nat × Value} {vs : List (Nat × Value)} {a : Act} (h : Slots n (p :: vs) a) : a.tmps.toList[p.1]? = some p.2 := h.2.2.1
theorem Slots.tail {n : Nat} {p : Nat × Value} {vs : List (Nat × Value)} {a : Act} (h : Slots n (p :: vs) a) : Slots n vs a := ⟨h.1, h.2.1, h.2.2.2⟩
theorem slot_eval {a : Act} {k : Nat} {v : Value} (h : a.tmps.toList[k]? = some v) : a.eval (.tmp k) = v := by
  obtain ⟨⟨t⟩, d⟩ := a
  simp only at h
  simp [Act.eval, Array.getD]
  obtain ⟨hk, e⟩ := List.getElem?_eq_some_iff.1 h
  simp [hk, e]
/-- a piece of code: left, right, within -/
def dig : List Nat → Code → Code
  | [], c => c
  | 0 :: p, .seq a _ => dig p a
  | _ :: p, .seq _ b => dig p b
  | 0 :: p, .cond _ a _ => dig p a
  | _ :: p, .cond _ _ b => dig p b
  | _ :: p, .block _ c => dig p c
  | _ :: p, .loop c => dig p c
  | _ :: p, .scope c => dig p c
  | _ :: _, c => c
/-- a piece goes through to its end -/
def Thru (c : Code) (R : Act → World → Prop) (a : Act) (w : World) : Prop := c.wp Tryz.prog (fun e a' w' => e = .normal ∧ R a' w') a w
/-- no other way out -/
def NoWay : Exit → Act → World → Prop := fun _ _ _ => False
theorem Thru.mk {c : Code} {R : Act → World → Prop} {a : Act} {w : World} (h : ∀ (J K : Act → World → Prop), (∀ a' w', R a' w' → J a' w') → (∀ a' w', Met J a' w' → K a' w') → c.wp Tryz.prog (Exit.then K NoWay) a w) : Thru c R a w := by
  refine wp_mono (h R R (fun _ _ q => q) (fun _ _ q => q)) ?_
  intro e a' w' hq
  cases e with
  | normal => exact ⟨rfl, hq⟩
  | exit id => exact hq.elim
  | goto l => exact hq.elim
  | ret => exact hq.elim
  | panic ch => exact hq.elim
  | outgrown => exact hq.elim
/-- a piece goes out of the block id -/
def Outs (c : Code) (id : Nat) (R : Act → World → Prop) (a : Act) (w : World) : Prop := c.wp Tryz.prog (fun e a' w' => e = .exit id ∧ R a' w') a w
def OneWay (id : Nat) (K : Act → World → Prop) : Exit → Act → World → Prop
  | .exit id', a, w => id' = id ∧ K a w
  | _, _, _ => False
theorem OneWay.mk {id : Nat} {K : Act → World → Prop} {a : Act} {w : World} (h : K a w) : OneWay id K (.exit id) a w := ⟨rfl, h⟩
theorem Outs.mk {c : Code} {id : Nat} {R : Act → World → Prop} {a : Act} {w : World} (h : ∀ (J : Act → World → Prop) (Q : Exit → Act → World → Prop), (∀ a' w', R a' w' → J a' w') → (∀ a' w', Met J a' w' → Q (.exit id) a' w') → c.wp Tryz.prog (Exit.then (fun _ _ => False) Q) a w) : Outs c id R a w := by
  refine wp_mono (h R (OneWay id R) (fun _ _ q => q) (fun _ _ q => ⟨rfl, q⟩)) ?_
  intro e a' w' hq
  cases e with
  | normal => exact hq.elim
  | exit id' => exact ⟨by rw [hq.1], hq.2⟩
  | goto l => exact hq.elim
  | ret => exact hq.elim
  | panic ch => exact hq.elim
  | outgrown => exact hq.elim
theorem Thru.mono {c : Code} {R R' : Act → World → Prop} {a : Act} {w : World} (h : Thru c R a w) (hr : ∀ a' w', R a' w' → R' a' w') : Thru c R' a w :=
  wp_mono h (fun e a' w' q => ⟨q.1, hr _ _ q.2⟩)
theorem Thru.seq {c x y : Code} (hc : c = .seq x y) {R R' : Act → World → Prop} {a : Act} {w : World} (h : Thru x R a w) (hr : ∀ a' w', R a' w' → Thru y R' a' w') : Thru c R' a w := by
  subst hc
  refine wp_seq (wp_mono h ?_)
  rintro e a' w' ⟨rfl, q⟩
  exact hr _ _ q
theorem Thru.cond {c x y : Code} {k : Nat} (hc : c = .cond (.tmp k) x y) {R : Act → World → Prop} {a : Act} {w : World} {b : Bool} (hb : a.tmps.toList[k]? = some (.bool b)) (ht : b = true → Thru x R a w) (hf : b = false → Thru y R a w) : Thru c R a w := by
  subst hc
  refine wp_cond (slot_eval hb) ?_
  cases b with
  | true => exact ht rfl
  | false => exact hf rfl
theorem Thru.skip {c : Code} (hc : c = .skip) {R : Act → World → Prop} {a : Act} {w : World} (h : R a w) : Thru c R a w := by
  subst hc
  exact wp_skip ⟨rfl, h⟩
theorem Thru.block {c x : Code} {id : Nat} (hc : c = .block id x) {R : Act → World → Prop} {a : Act} {w : World} (h : Thru x R a w) : Thru c R a w := by
  subst hc
  refine wp_block (wp_mono h ?_)
  rintro e a' w' ⟨rfl, q⟩
  exact ⟨rfl, q⟩
theorem Outs.mono {c : Code} {id : Nat} {R R' : Act → World → Prop} {a : Act} {w : World} (h : Outs c id R a w) (hr : ∀ a' w', R a' w' → R' a' w') : Outs c id R' a w :=
  wp_mono h (fun e a' w' q => ⟨q.1, hr _ _ q.2⟩)
theorem slot_int {a : Act} {k : Nat} {n : Int} (h : a.tmps.toList[k]? = some (.int .i64 n)) : intOf (a.tmps.toList.getD k undef) = n := by
  rw [List.getD, h]; rfl
theorem Outs.seq {c x y : Code} {id : Nat} (hc : c = .seq x y) {R : Act → World → Prop} {a : Act} {w : World} (h : Outs x id R a w) : Outs c id R a w := by
  subst hc
  refine wp_seq (wp_mono h ?_)
  rintro e a' w' ⟨rfl, q⟩
  exact ⟨rfl, q⟩
theorem Thru.loop {c x : Code} {id : Nat} (hc : c = .block id (.loop x)) {R : Act → World → Prop} (I : Act → World → Prop) (mu : Act → World → Nat) {a : Act} {w : World} (h0 : I a w)
    (round : ∀ a w, I a w → Thru x (fun a' w' => I a' w' ∧ mu a' w' < mu a w) a w ∨ Outs x id R a w) : Thru c R a w := by
  subst hc
  refine wp_block (wp_loop I mu h0 (fun a w hI => ?_))
  rcases round a w hI with h | h
  · refine wp_mono h ?_
    rintro e a' w' ⟨rfl, q⟩
    exact q
  · refine wp_mono h ?_
    rintro e a' w' ⟨rfl, q⟩
    simp only [Exit.then, Exit.inBlock, if_true]
    exact ⟨trivial, q⟩
/-- where the walk of the whole stands at such a piece -/
theorem Thru.here {c : Code} {R : Act → World → Prop} {K : Act → World → Prop} {Q : Exit → Act → World → Prop} {a : Act} {w : World} (h : Thru c R a w) (hr : ∀ a' w', R a' w' → K a' w') : c.wp Tryz.prog (Exit.then K Q) a w := by
  refine wp_mono h ?_
  rintro e a' w' ⟨rfl, q⟩
  exact hr _ _ q
end Go.Proofs.YtdldgefahgojaakGreatDoor

/- What is asked of package net's Users, as the document says it. -/
namespace Go.Proofs.YtdldgefahgojaakGreatDoor
namespace Ns
open Go.RowKit Fr

def UsersSaid : Prop := ∀ (Q : Nat → Prop) (caps : List Int) (paths : List (List Int)) (link : Int) (v : Value) (w : World), NetAt Q w v caps paths →
  Calls Tryz.prog 61 #[v, .int .i64 link] w fun e w' => ∃ x, e = .returned (.tuple #[x, errV (usersE caps paths link)]) ∧
    IntsAt (fun b => w.heap.size ≤ b) w' x (okL (usersE caps paths link) (users paths link)) ∧ Below w.heap.size w w'
end Ns
end Go.Proofs.YtdldgefahgojaakGreatDoor

/- What is asked of package load's Of, as the document says it. -/
namespace Go.Proofs.YtdldgefahgojaakGreatDoor
namespace Ld
open Go.RowKit Fr Ns

def OfSaid : Prop := ∀ (Q : Nat → Prop) (caps : List Int) (paths : List (List Int)) (r : List (Int × Int)) (v x : Value) (w : World), NetAt Q w v caps paths → FracsAt Q w x r →
  Calls Tryz.prog 29 #[v, x] w fun e w' => ∃ y, e = .returned (.tuple #[y, errV (loadE caps paths r)]) ∧
    FracsAt (fun b => w.heap.size ≤ b) w' y (okL (loadE caps paths r) (loadL paths r caps.length)) ∧ Below w.heap.size w w'
end Ld
end Go.Proofs.YtdldgefahgojaakGreatDoor

/- The document's Rates, step by step: one more, behind all that are no more than it. No Go in it. -/
namespace Go.Proofs.YtdldgefahgojaakGreatDoor.Fl
open Fr Ns Ld
set_option linter.unusedSimpArgs false

theorem sortFrom_snoc : ∀ (r out : List (Int × Int)) (a : Int × Int), sortFrom out (r ++ [a]) = insP a (sortFrom out r) := by
  intro r
  induction r with
  | nil => intro out a; rfl
  | cons b l ih => intro out a; simp only [List.cons_append, sortFrom]; exact ih _ a
theorem sort_step {r : List (Int × Int)} {i : Nat} (h : i < r.length) : sortP (r.take (i + 1)) = insP (r.getD i (0, 0)) (sortP (r.take i)) := by
  rw [take_snoc r i h (0, 0)]
  exact sortFrom_snoc _ _ _
theorem ins_at (a : Int × Int) : ∀ (l : List (Int × Int)) (k : Nat), k ≤ l.length → (∀ j, j < k → ordP (l.getD j (0, 0)) a ≤ 0) → (k = l.length ∨ ¬ ordP (l.getD k (0, 0)) a ≤ 0) → insP a l = l.take k ++ ([a] ++ l.drop k) := by
  intro l
  induction l with
  | nil => intro k hk _ _; obtain rfl : k = 0 := by simpa using hk
           rfl
  | cons b l ih =>
    intro k hk h1 h2
    cases k with
    | zero =>
      have : ¬ ordP b a ≤ 0 := by
        rcases h2 with h2 | h2
        · simp at h2
        · simpa using h2
      unfold insP
      rw [if_neg this]
      simp
    | succ k =>
      have h0 : ordP b a ≤ 0 := by simpa using h1 0 (by omega)
      unfold insP
      rw [if_pos h0, ih k (by simpa using hk) (fun j hj => by simpa using h1 (j + 1) (by omega)) (by
        rcases h2 with h2 | h2
        · left; simpa using h2
        · right; simpa using h2)]
      simp
theorem ratesE_drop (r : List (Int × Int)) (k : Nat) (h : k < r.length) : ratesE (r.drop k) = if faultP (r.getD k (0, 0)) = 0 then ratesE (r.drop (k + 1)) else faultP (r.getD k (0, 0)) := by
  rw [drop_cons r k h (0, 0)]
  rfl
end Go.Proofs.YtdldgefahgojaakGreatDoor.Fl

/- A list sorted in its place: each one goes down past all that are greater. No Go in it. -/
namespace Go.Proofs.YtdldgefahgojaakGreatDoor.Fl
open Fr Ns Ld
set_option linter.unusedSimpArgs false

/-- the first i in order, the rest as it was -/
def stL (l : List (Int × Int)) (i : Nat) : List (Int × Int) := sortP (l.take i) ++ l.drop i
/-- the one at place i has gone down to place j -/
def curL (l : List (Int × Int)) (i j : Nat) : List (Int × Int) := (sortP (l.take i)).take j ++ (l.getD i (0, 0) :: ((sortP (l.take i)).drop j ++ l.drop (i + 1)))
theorem stL_0 (l : List (Int × Int)) : stL l 0 = l := by simp [stL, sortP, sortFrom]
theorem stL_1 (l : List (Int × Int)) : stL l 1 = l := by
  cases l with
  | nil => simp [stL, sortP, sortFrom]
  | cons a l => simp [stL, sortP, sortFrom, insP]
theorem stL_all (l : List (Int × Int)) (i : Nat) (h : l.length ≤ i) : stL l i = sortP l := by
  rw [stL, List.take_of_length_le h, List.drop_of_length_le h, List.append_nil]
theorem sortTake_length {l : List (Int × Int)} {i : Nat} (h : i ≤ l.length) : (sortP (l.take i)).length = i := by
  rw [sortP_length, List.length_take]; omega
theorem stL_length (l : List (Int × Int)) (i : Nat) : (stL l i).length = l.length := by
  rw [stL, List.length_append, sortP_length, List.length_take, List.length_drop]; omega
theorem curL_start {l : List (Int × Int)} {i : Nat} (h : i < l.length) : curL l i i = stL l i := by
  have e := sortTake_length (l := l) (i := i) (by omega)
  rw [curL, stL, List.take_of_length_le (by omega), List.drop_of_length_le (l := sortP (l.take i)) (by omega), List.nil_append, ← drop_cons l i h (0, 0)]
theorem curL_length {l : List (Int × Int)} {i j : Nat} (h : i < l.length) (hj : j ≤ i) : (curL l i j).length = l.length := by
  have e := sortTake_length (l := l) (i := i) (by omega)
  rw [curL, List.length_append, List.length_cons, List.length_append, List.length_take, List.length_drop, List.length_drop, e]; omega
theorem curL_at {l : List (Int × Int)} {i j : Nat} (h : i < l.length) (hj : j ≤ i) : (curL l i j).getD j (0, 0) = l.getD i (0, 0) := by
  have e := sortTake_length (l := l) (i := i) (by omega)
  rw [curL, List.getD_eq_getElem?_getD, List.getElem?_append_right (by rw [List.length_take]; omega)]
  rw [List.length_take, e, show j - min j i = 0 by omega]
  rfl
theorem curL_ahead {l : List (Int × Int)} {i j : Nat} (h : i < l.length) (hj : j < i) : (curL l i (j + 1)).getD j (0, 0) = (sortP (l.take i)).getD j (0, 0) := by
  have e := sortTake_length (l := l) (i := i) (by omega)
  rw [curL, List.getD_eq_getElem?_getD, List.getElem?_append_left (by rw [List.length_take]; omega), List.getElem?_take, if_pos (by omega), List.getD_eq_getElem?_getD]
theorem curL_swap {l : List (Int × Int)} {i j : Nat} (h : i < l.length) (hj : j < i) : ((curL l i (j + 1)).set (j + 1) ((sortP (l.take i)).getD j (0, 0))).set j (l.getD i (0, 0)) = curL l i j := by
  have e := sortTake_length (l := l) (i := i) (by omega)
  generalize hS : sortP (l.take i) = S at *
  have e1 : S.take (j + 1) = S.take j ++ [S.getD j (0, 0)] := take_snoc S j (by omega) (0, 0)
  have e2 : S.drop j = S.getD j (0, 0) :: S.drop (j + 1) := drop_cons S j (by omega) (0, 0)
  have e3 : (S.take j).length = j := by rw [List.length_take]; omega
  rw [curL, curL, hS, e1, e2]
  generalize S.take j = A at *
  generalize S.drop (j + 1) = B at *
  rw [List.append_assoc, List.singleton_append]
  rw [List.set_append_right _ _ (by omega), show j + 1 - A.length = 1 by omega]
  rw [List.set_append_right _ _ (by omega), show j - A.length = 0 by omega]
  rfl
theorem asc_at {s : List (Int × Int)} (h : Asc s) {a b : Nat} (hab : a ≤ b) (hb : b < s.length) : val (s.getD a (0, 0)) ≤ val (s.getD b (0, 0)) := by
  rcases Nat.lt_or_eq_of_le hab with h1 | rfl
  · have := (List.pairwise_iff_getElem.1 h) a b (by omega) hb h1
    rw [List.getD_eq_getElem?_getD, List.getD_eq_getElem?_getD, List.getElem?_eq_getElem (by omega), List.getElem?_eq_getElem hb]
    exact this
  · exact Rat.le_refl
/-- it stands where it belongs -/
theorem curL_end {l : List (Int × Int)} {i j : Nat} (hp : Pos l) (h : i < l.length) (hj : j ≤ i)
    (h1 : ∀ k, j ≤ k → k < i → ordP (l.getD i (0, 0)) ((sortP (l.take i)).getD k (0, 0)) < 0)
    (h2 : j = 0 ∨ ¬ ordP (l.getD i (0, 0)) ((sortP (l.take i)).getD (j - 1) (0, 0)) < 0) : curL l i j = stL l (i + 1) := by
  have e := sortTake_length (l := l) (i := i) (by omega)
  have hpt : Pos (l.take i) := fun a ha => hp a (List.mem_of_mem_take ha)
  have hA : Asc (sortP (l.take i)) := sortP_asc hpt
  have hpS : Pos (sortP (l.take i)) := fun a ha => hpt a (sortP_mem.1 ha)
  have hx : 1 ≤ (l.getD i (0, 0)).2 := hp _ (getD_mem l i h _)
  rw [stL, sort_step h, curL]
  generalize sortP (l.take i) = S at *
  have g1 : ∀ k, k < j → ordP (S.getD k (0, 0)) (l.getD i (0, 0)) ≤ 0 := fun k hk => by
    rcases h2 with rfl | h2
    · omega
    · have hk1 : 1 ≤ (S.getD k (0, 0)).2 := hpS _ (getD_mem S k (by omega) _)
      have hj1 : 1 ≤ (S.getD (j - 1) (0, 0)).2 := hpS _ (getD_mem S (j - 1) (by omega) _)
      have a1 : ordP (S.getD (j - 1) (0, 0)) (l.getD i (0, 0)) ≤ 0 := by rw [ordP_neg]; omega
      exact (ordP_le hk1 hx).2 (Rat.le_trans (asc_at hA (by omega) (by omega)) ((ordP_le hj1 hx).1 a1))
  have g2 : j = S.length ∨ ¬ ordP (S.getD j (0, 0)) (l.getD i (0, 0)) ≤ 0 := by
    by_cases hji : j = i
    · left; omega
    · right
      have := h1 j (Nat.le_refl _) (by omega)
      rw [ordP_neg]
      omega
  rw [ins_at (l.getD i (0, 0)) S j (by omega) g1 g2]
  simp
end Go.Proofs.YtdldgefahgojaakGreatDoor.Fl

/- What is asked of package rank's Sorted, as the document says it. -/
namespace Go.Proofs.YtdldgefahgojaakGreatDoor
namespace Fl
open Go.RowKit Fr Ns Ld

def SortedSaid : Prop := ∀ (Q : Nat → Prop) (r : List (Int × Int)) (x : Value) (w : World), FracsAt Q w x r →
  Calls Tryz.prog 34 #[x] w fun e w' => ∃ y, e = .returned (.tuple #[y, errV (sortE r)]) ∧
    FracsAt (fun b => w.heap.size ≤ b) w' y (okL (sortE r) (sortP r)) ∧ Below w.heap.size w w'
end Fl
end Go.Proofs.YtdldgefahgojaakGreatDoor

/- From the reading of an argument to what a walk is told of it: a list of ints. -/
namespace Go.Proofs.YtdldgefahgojaakGreatDoor
namespace Ns
open Go.ChangeShapes Go.WideShapes Go.ChangeAt Go.RowKit Go.Joins Go.Deep
set_option linter.unusedVariables false
set_option linter.unusedSimpArgs false

theorem cellsInt : Tryz.prog.cellsOf 3 = 1 := by kernel_rfl

theorem addr_none {w : World} {a : Addr} {v : Value} (h : w.cell? (a.add 0) = some v) : ∃ b off, a = ⟨b, off, none⟩ := by
  obtain ⟨b, off, spot⟩ := a
  have hs : spot = none := by simpa [Addr.add] using World.cell?_spot h
  subst hs
  exact ⟨b, off, rfl⟩
theorem add_addr' (b off i : Nat) : (⟨b, off, none⟩ : Addr).add i = ⟨b, off + i, none⟩ := by unfold Addr.add; split <;> simp_all

/-- a slice of ints, by its address, its cells and their numbers -/
theorem intsAt_of {w : World} {a : Option Addr} {len cap : Nat} {zs : List Int} (hl : len ≤ cap) (hm : cap ≤ maxLen) (hz : zs.length = cap) (h0 : a = none → cap = 0)
    (h : ∀ a', a = some a' → ∀ c, c < cap → w.cell? (a'.add c) = some (.int .i64 (zs.getD c 0))) : IntsAt (fun b => b < w.heap.size) w (.slice a len cap) (zs.take len) := by
  have hlen : (zs.take len).length = len := by rw [List.length_take]; omega
  unfold maxLen at hm
  refine ⟨a, cap, by rw [hlen], ⟨by omega, by omega⟩, ?_⟩
  by_cases hz0 : len = 0
  · exact .inl (by rw [hz0]; rfl)
  · right
    cases a with
    | none => have := h0 rfl; omega
    | some a' =>
      obtain ⟨b, off, rfl⟩ := addr_none (h a' rfl 0 (by omega))
      refine ⟨b, off, rfl, fun i hi => ?_, World.block_lt_of_cell? _ _ (h _ rfl 0 (by omega))⟩
      have := h _ rfl i (by omega)
      rw [add_addr'] at this
      rw [this]
      congr 2
      simp [List.getD, List.getElem?_take, show i < len by omega]

variable {H : Type} {enc : TypeId × Value → H}

theorem ints_of_trod {w : World} {n : Nat} {v : Value} {y : DataW H × List MemPlace} (h : DataW.trod enc Tryz.prog w 0 (fun _ => true) true n 22 [v] = some y) : ∃ l, IntsAt (fun b => b < w.heap.size) w v l := by
  rcases open_ints Tryz.underlying22 Tryz.underlying3 cellsInt h with ⟨hcs, _⟩ | ⟨a, len, cap, zs, hcs, _, hl, hm, hz, _, hcell, hwz⟩
  · simp at hcs
    subst hcs
    exact ⟨[], none, 0, rfl, ⟨Nat.le_refl _, by simp⟩, .inl rfl⟩
  · simp at hcs
    subst hcs
    have hz' : zs.length = cap := by simpa using hz
    exact ⟨_, intsAt_of hl hm hz' (by intro h; cases h) (fun a' ha c hc => by cases ha; exact hcell c (by omega))⟩

set_option maxRecDepth 100000 in
theorem intsArg_of_trod {w : World} {base : Nat} {v : Value} {d : DataW H} {p : List MemPlace} (hv : Value.okWide Tryz.prog w .any base 22 v) (h : DataW.Trod enc Tryz.prog w 0 (fun _ => true) true 22 v d p) : ∃ l, IntsAt (fun b => b < w.heap.size) w v l := by
  obtain ⟨a, len, cap, rfl⟩ := okWide_slice Tryz.underlying22 hv
  obtain ⟨fuel, hf⟩ := h
  exact ints_of_trod (by simpa [Value.cells] using hf)
/-- and each of its numbers is one of 64 bits -/
theorem wf_le {n : Int} (h : (Lit.int .i64 n).wf = true) : n ≤ 9223372036854775807 := by
  have h' : (decide (IntKind.i64.min ≤ n) && decide (n ≤ IntKind.i64.max)) = true := h
  rw [Bool.and_eq_true] at h'
  have := of_decide_eq_true h'.2
  have e : IntKind.i64.max = 9223372036854775807 := by decide
  omega
set_option maxRecDepth 100000 in
theorem intsArgIn_of_trod {w : World} {base : Nat} {v : Value} {d : DataW H} {p : List MemPlace} (hv : Value.okWide Tryz.prog w .any base 22 v) (h : DataW.Trod enc Tryz.prog w 0 (fun _ => true) true 22 v d p) : ∃ l, IntsAt (fun b => b < w.heap.size) w v l ∧ ∀ x ∈ l, x ≤ 9223372036854775807 := by
  obtain ⟨a, len, cap, rfl⟩ := okWide_slice Tryz.underlying22 hv
  obtain ⟨fuel, hf⟩ := h
  have hf' : DataW.trod enc Tryz.prog w 0 (fun _ => true) true fuel 22 [.slice a len cap] = some (d, p) := by simpa [Value.cells] using hf
  rcases open_ints Tryz.underlying22 Tryz.underlying3 cellsInt hf' with ⟨hcs, _⟩ | ⟨a', len', cap', zs, hcs, _, hl, hm, hz, _, hcell, hwz⟩
  · simp only [List.cons.injEq, and_true] at hcs
    rw [hcs]
    exact ⟨[], ⟨none, 0, rfl, ⟨Nat.le_refl _, by simp⟩, .inl rfl⟩, fun x hx => by simp at hx⟩
  · simp only [List.cons.injEq, and_true] at hcs
    rw [hcs]
    have hz' : zs.length = cap' := by simpa using hz
    exact ⟨_, intsAt_of hl hm hz' (by intro h; cases h) (fun a'' ha c hc => by cases ha; exact hcell c (by omega)), fun x hx => wf_le (hwz x (List.mem_of_mem_take hx))⟩
end Ns
end Go.Proofs.YtdldgefahgojaakGreatDoor

/- From the reading of an argument to what a walk is told of it: a list of lists, a net. -/
namespace Go.Proofs.YtdldgefahgojaakGreatDoor
namespace Ns
open Go.ChangeShapes Go.WideShapes Go.ChangeAt Go.RowKit Go.Joins Go.Deep
set_option linter.unusedVariables false
set_option linter.unusedSimpArgs false

theorem cellsInts : Tryz.prog.cellsOf 22 = 1 := by kernel_rfl
theorem cellsNet : Tryz.prog.cellsOf 37 = 2 := by kernel_rfl
variable {H : Type} {enc : TypeId × Value → H}

theorem lists_of_trod {w : World} {n : Nat} {v : Value} {y : DataW H × List MemPlace} (h : DataW.trod enc Tryz.prog w 0 (fun _ => true) true n 23 [v] = some y) : ∃ ll, ListsAt (fun b => b < w.heap.size) w v ll := by
  rcases open_int_rows Tryz.underlying23 Tryz.underlying22 Tryz.underlying3 cellsInts cellsInt h with ⟨hcs, _⟩ | ⟨a, len, cap, A, L, C, Z, hcs, _, hl, hm, _, hr⟩
  · simp at hcs
    subst hcs
    exact ⟨[], none, 0, rfl, ⟨Nat.le_refl _, by simp⟩, .inl rfl⟩
  · simp at hcs
    subst hcs
    have hlen : ((List.range len).map (fun r => (Z r).take (L r))).length = len := by simp
    refine ⟨(List.range len).map (fun r => (Z r).take (L r)), some a, cap, by rw [hlen], ⟨by omega, by unfold maxLen at hm; omega⟩, ?_⟩
    by_cases hz0 : len = 0
    · exact .inl (by rw [hz0]; rfl)
    · right
      obtain ⟨b, off, rfl⟩ := addr_none (hr 0 (by omega)).1
      refine ⟨b, off, rfl, fun i hi => ?_, World.block_lt_of_cell? _ _ (hr 0 (by omega)).1⟩
      rw [hlen] at hi
      obtain ⟨h1, h2, h3, h4, _, h6, h7⟩ := hr i (by omega)
      rw [add_addr'] at h1
      refine ⟨_, h1, ?_⟩
      have e : ((List.range len).map (fun r => (Z r).take (L r))).getD i [] = (Z i).take (L i) := by simp [List.getD, List.getElem?_range hi]
      rw [e]
      exact intsAt_of h2 h3 h4 h6 (fun a' ha c hc => (h7 a' ha).2 c hc)

set_option maxRecDepth 100000 in
theorem listsArg_of_trod {w : World} {base : Nat} {v : Value} {d : DataW H} {p : List MemPlace} (hv : Value.okWide Tryz.prog w .any base 23 v) (h : DataW.Trod enc Tryz.prog w 0 (fun _ => true) true 23 v d p) : ∃ ll, ListsAt (fun b => b < w.heap.size) w v ll := by
  obtain ⟨a, len, cap, rfl⟩ := okWide_slice Tryz.underlying23 hv
  obtain ⟨fuel, hf⟩ := h
  exact lists_of_trod (by simpa [Value.cells] using hf)

set_option maxRecDepth 100000 in
theorem net_of_trod {w : World} {base : Nat} {v : Value} {d : DataW H} {p : List MemPlace} (hv : Value.okWide Tryz.prog w .any base 37 v) (h : DataW.Trod enc Tryz.prog w 0 (fun _ => true) true 37 v d p) : ∃ caps paths, NetAt (fun b => b < w.heap.size) w v caps paths := by
  obtain ⟨c0, c1, y0, y1, m, rfl, rfl, rfl, hy0, hy1⟩ := open_agg2 Tryz.underlying37 (by kernel_rfl) cellsNet hv h
  obtain ⟨l, hl⟩ := ints_of_trod hy0
  obtain ⟨ll, hll⟩ := lists_of_trod hy1
  exact ⟨l, ll, c0, c1, rfl, hl, hll⟩

end Ns
end Go.Proofs.YtdldgefahgojaakGreatDoor

/- From the reading of an argument to what a walk is told of it: a list of fractions. -/
namespace Go.Proofs.YtdldgefahgojaakGreatDoor
namespace Ld
open Go.ChangeShapes Go.WideShapes Go.ChangeAt Go.RowKit Go.Joins Go.Deep Ns
set_option linter.unusedVariables false
set_option linter.unusedSimpArgs false

theorem cellsFrac : Tryz.prog.cellsOf 50 = 2 := by kernel_rfl

variable {H : Type} {enc : TypeId × Value → H}

theorem fracs_of_trod {w : World} {n : Nat} {v : Value} {y : DataW H × List MemPlace} (h : DataW.trod enc Tryz.prog w 0 (fun _ => true) true n 24 [v] = some y) : ∃ l, FracsAt (fun b => b < w.heap.size) w v l := by
  rcases open_slice_pairs Tryz.underlying24 Tryz.underlying50 cellsFrac rfl rfl (by kernel_rfl) (by kernel_rfl) h with ⟨hcs, _⟩ | ⟨a, len, cap, m, k, V0, V1, D0, D1, P0, P1, hcs, _, hl, hm, hmm, _, hr⟩
  · simp at hcs
    subst hcs
    exact ⟨[], fracs_nil _ _⟩
  · simp at hcs
    subst hcs
    simp only [if_true] at hmm
    subst hmm
    have each : ∀ i, i < m → ∃ z : Int × Int, w.cell? (a.add (i * 2)) = some (.int .i64 z.1) ∧ w.cell? (a.add (i * 2 + 1)) = some (.int .i64 z.2) := by
      intro i hi
      obtain ⟨h1, h2, h3, h4⟩ := hr i hi
      obtain ⟨z0, e0, _, _⟩ := DataW.trod_int Tryz.underlying3 h3
      obtain ⟨z1, e1, _, _⟩ := DataW.trod_int Tryz.underlying3 h4
      simp only [List.cons.injEq, and_true] at e0 e1
      exact ⟨(z0, z1), by rw [h1, e0], by rw [h2, e1]⟩
    obtain ⟨q, hq⟩ := choose_lt each
    have hlen : ((List.range len).map q).length = len := by simp
    refine ⟨(List.range len).map q, some a, m, by rw [hlen], ⟨by omega, by unfold maxLen at hm; omega⟩, ?_⟩
    by_cases hz0 : len = 0
    · exact .inl (by rw [hz0]; rfl)
    · right
      obtain ⟨b, off, rfl⟩ := addr_none (show w.cell? (a.add 0) = some _ from (hq 0 (by omega)).1)
      refine ⟨b, off, rfl, fun i hi => ?_, World.block_lt_of_cell? _ _ (hq 0 (by omega)).1⟩
      rw [hlen] at hi
      have e : ((List.range len).map q).getD i (0, 0) = q i := by simp [List.getD, List.getElem?_range hi]
      obtain ⟨h1, h2⟩ := hq i (by omega)
      rw [add_addr'] at h1 h2
      rw [e]
      exact ⟨h1, by rw [Nat.add_assoc]; exact h2⟩

set_option maxRecDepth 100000 in
theorem fracsArg_of_trod {w : World} {base : Nat} {v : Value} {d : DataW H} {p : List MemPlace} (hv : Value.okWide Tryz.prog w .any base 24 v) (h : DataW.Trod enc Tryz.prog w 0 (fun _ => true) true 24 v d p) : ∃ l, FracsAt (fun b => b < w.heap.size) w v l := by
  obtain ⟨a, len, cap, rfl⟩ := okWide_slice Tryz.underlying24 hv
  obtain ⟨fuel, hf⟩ := h
  exact fracs_of_trod (by simpa [Value.cells] using hf)
end Ld
end Go.Proofs.YtdldgefahgojaakGreatDoor
