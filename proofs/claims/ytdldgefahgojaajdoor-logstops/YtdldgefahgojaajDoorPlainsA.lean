/- Facts and contracts that the walks lean on, one text behind the other; no walk of Go in them. -/
import Derived.Test.YtdldgefahgojaajDoorChecked
import Derived.WalkKit
import Derived.WalkSpells
import Derived.WalkLawsBesides
import Derived.Deep.QuietTactic
import Derived.BigQuiet
import Derived.Deep.RegionHeld3
import Derived.OwnWalk
import Derived.LaidEql
import Derived.Stop.Asserts
import Derived.RowKitTokens
import Derived.Deep.RegionLaw
/- Plain facts on nets: which number is in a list, what is wrong with links, a path, a net. No Go in it. -/
namespace Go.Proofs.YtdldgefahgojaajDoor.Ns

def inB (l : List Int) (n : Int) : Bool := l.contains n
theorem inB_nil (n : Int) : inB [] n = false := rfl
theorem inB_snoc (l : List Int) (x n : Int) : inB (l ++ [x]) n = (inB l n || x == n) := by
  rw [Bool.eq_iff_iff]
  simp [inB]
  constructor
  · rintro (h | h)
    · exact .inl h
    · exact .inr h.symm
  · rintro (h | h)
    · exact .inl h
    · exact .inr h.symm
theorem inB_of_mem {l : List Int} {n : Int} (h : n ∈ l) : inB l n = true := by simpa [inB] using h
theorem take_snoc {α : Type} (l : List α) (k : Nat) (h : k < l.length) (d : α) : l.take (k + 1) = l.take k ++ [l.getD k d] := by
  rw [List.take_succ_eq_append_getElem h]
  simp [List.getD, List.getElem?_eq_getElem h]
theorem drop_cons {α : Type} (l : List α) (k : Nat) (h : k < l.length) (d : α) : l.drop k = l.getD k d :: l.drop (k + 1) := by
  rw [List.drop_eq_getElem_cons h]
  simp [List.getD, List.getElem?_eq_getElem h]
theorem getD_mem {α : Type} (l : List α) (k : Nat) (h : k < l.length) (d : α) : l.getD k d ∈ l := by
  simp [List.getD, List.getElem?_eq_getElem h]

/-- what is wrong with links: 5 there is none, 4 too many, 1 one is out of bounds, 0 nothing -/
def capsFrom : List Int → Int
  | [] => 0
  | x :: r => if x < 1 ∨ 1000 < x then 1 else capsFrom r
def linksE (l : List Int) : Int := if l.length = 0 then 5 else if 6 < l.length then 4 else capsFrom l
/-- what is wrong with a path, behind the links that it went over -/
def pathFrom (links : Int) : List Int → List Int → Int
  | _, [] => 0
  | seen, x :: r => if x < 0 ∨ links ≤ x then 1 else if inB seen x then 7 else pathFrom links (seen ++ [x]) r
def pathE (links : Int) (p : List Int) : Int := if p.length = 0 then 5 else pathFrom links [] p
/-- what is wrong with some paths: the first fault -/
def pathsFrom (links : Int) : List (List Int) → Int
  | [] => 0
  | p :: r => if pathE links p = 0 then pathsFrom links r else pathE links p
def netE (caps : List Int) (paths : List (List Int)) : Int :=
  if caps.length = 0 ∨ paths.length = 0 then 5 else if 6 < caps.length ∨ 6 < paths.length then 4
  else if linksE caps = 0 then pathsFrom caps.length paths else linksE caps

theorem capsFrom_bd (l : List Int) : 0 ≤ capsFrom l ∧ capsFrom l ≤ 1 := by
  induction l with
  | nil => simp [capsFrom]
  | cons x r ih => unfold capsFrom; split <;> omega
theorem pathFrom_bd (links : Int) (s l : List Int) : 0 ≤ pathFrom links s l ∧ pathFrom links s l ≤ 7 := by
  induction l generalizing s with
  | nil => simp [pathFrom]
  | cons x r ih => unfold pathFrom; split; omega; split; omega; exact ih _

/-- who goes over a link: the flows' numbers, rising -/
def usersFrom (link : Int) : Nat → List (List Int) → List Int
  | _, [] => []
  | i, p :: r => if inB p link then (i : Int) :: usersFrom link (i + 1) r else usersFrom link (i + 1) r
def users (paths : List (List Int)) (link : Int) : List Int := usersFrom link 0 paths
theorem usersFrom_snoc (link : Int) (i : Nat) (l : List (List Int)) (p : List Int) :
    usersFrom link i (l ++ [p]) = usersFrom link i l ++ (if inB p link then [((i + l.length : Nat) : Int)] else []) := by
  induction l generalizing i with
  | nil => simp [usersFrom]
  | cons q r ih =>
    simp only [List.cons_append, usersFrom, ih]
    have : i + 1 + r.length = i + (q :: r).length := by simp; omega
    rw [this]
    split <;> simp
theorem users_length (link : Int) (i : Nat) (l : List (List Int)) : (usersFrom link i l).length ≤ l.length := by
  induction l generalizing i with
  | nil => simp [usersFrom]
  | cons q r ih => unfold usersFrom; have := ih (i + 1); split <;> simp <;> omega

end Go.Proofs.YtdldgefahgojaajDoor.Ns

/- What is kept when the power goes: the document's log, step by step. No Go in it. -/
namespace Go.Proofs.YtdldgefahgojaajDoor.Ev
open Ns
set_option linter.unusedSimpArgs false
set_option linter.unusedVariables false

abbrev Flows := List (List Int)
/-- a log: its links; behind each whole record (none at first) the flows and how many bytes there are; all bytes, those that are safe; in how many steps it stops (below 0: never); whether it has -/
structure LogS where
  caps : List Int
  done : List Flows
  marks : List Nat
  bytes : Nat
  safe : Nat
  left : Int
  stopped : Bool
def flowsL (d : List Flows) : Flows := d.getD (d.length - 1) []
def topM (m : List Nat) : Nat := m.getD (m.length - 1) 0
def LogS.flows (s : LogS) : Flows := flowsL s.done
def log0 (caps : List Int) : LogS := ⟨caps, [[]], [0], 0, 0, -1, false⟩
/-- a record of n bytes that makes these flows -/
def putS (s : LogS) (n : Nat) (f : Flows) : LogS :=
  if s.left = 0 then { s with bytes := s.bytes + n / 2, stopped := true }
  else { s with done := s.done ++ [f], marks := s.marks ++ [s.bytes + n], bytes := s.bytes + n, left := if 0 < s.left then s.left - 1 else s.left }
def addF (s : LogS) (p : List Int) : Int := if s.stopped then 6 else if s.flows.length = 6 then 4 else pathE s.caps.length p
def dropF (s : LogS) (i : Int) : Int := if s.stopped then 6 else if i < 0 ∨ (s.flows.length : Int) ≤ i then 1 else 0
def lastE (s : LogS) (k : Int) : Int := if k = 0 then (if s.left = 0 then 6 else 0) else k
def addLE (s : LogS) (p : List Int) : Int := lastE s (addF s p)
def dropLE (s : LogS) (i : Int) : Int := lastE s (dropF s i)
def lessF (f : Flows) (i : Int) : Flows := f.take i.toNat ++ f.drop (i.toNat + 1)
def addLS (s : LogS) (p : List Int) (n : Nat) : LogS := if addF s p = 0 then putS s n (s.flows ++ [p]) else s
def dropLS (s : LogS) (i : Int) (n : Nat) : LogS := if dropF s i = 0 then putS s n (lessF s.flows i) else s
def syncE (s : LogS) : Int := if s.stopped then 6 else if s.left = 0 then 6 else 0
def syncS (s : LogS) : LogS :=
  if s.stopped then s else if s.left = 0 then { s with stopped := true } else { s with safe := s.bytes, left := if 0 < s.left then s.left - 1 else s.left }
def failS (s : LogS) (n : Int) : LogS := { s with left := n }
/-- how many bytes are left when the power goes -/
def highN (s : LogS) (keep : Int) : Nat := if keep ≤ 0 then s.safe else if keep < (s.bytes : Int) - s.safe then s.safe + keep.toNat else s.bytes
/-- the last record, of the first k, that ends no later than there -/
def leftK (m : List Nat) (h : Nat) : Nat → Nat
  | 0 => 0
  | k + 1 => if m.getD k 0 ≤ h then k else leftK m h k
def leftN' (m : List Nat) (h : Nat) : Nat := leftK m h m.length
def crashS (s : LogS) (keep : Int) : LogS :=
  { s with done := s.done.take (leftN' s.marks (highN s keep) + 1), marks := s.marks.take (leftN' s.marks (highN s keep) + 1),
           bytes := s.marks.getD (leftN' s.marks (highN s keep)) 0, safe := s.marks.getD (leftN' s.marks (highN s keep)) 0, left := -1, stopped := false }

/-- a log is right -/
structure LogOk (s : LogS) : Prop where
  caps : linksE s.caps = 0
  len : s.done.length = s.marks.length
  pos : 0 < s.marks.length
  first : s.marks.getD 0 0 = 0
  rise : ∀ i, i + 1 < s.marks.length → s.marks.getD i 0 + 2 ≤ s.marks.getD (i + 1) 0
  safe : ∃ i, i < s.marks.length ∧ s.safe = s.marks.getD i 0
  top : topM s.marks ≤ s.bytes
  torn : s.stopped = false → s.bytes = topM s.marks
  nets : ∀ f ∈ s.done, f.length ≤ 6 ∧ ∀ p ∈ f, pathE s.caps.length p = 0
  few : ∀ i, i < s.marks.length → s.marks.getD i 0 ≤ 1000 * i
  tail : s.bytes ≤ topM s.marks + 1000

theorem flowsL_mem {d : List Flows} (h : 0 < d.length) : flowsL d ∈ d := by
  unfold flowsL
  have : d.length - 1 < d.length := by omega
  rw [List.getD, List.getElem?_eq_getElem this]
  exact List.getElem_mem _
theorem flowsL_snoc (d : List Flows) (f : Flows) : flowsL (d ++ [f]) = f := by simp [flowsL, List.getD]
theorem topM_snoc (m : List Nat) (n : Nat) : topM (m ++ [n]) = n := by simp [topM, List.getD]
theorem getD_take {α : Type} (l : List α) (n i : Nat) (d : α) (h : i < n) : (l.take n).getD i d = l.getD i d := by simp [List.getD, List.getElem?_take, h]
theorem getD_snoc_lt {α : Type} (l : List α) (x d : α) (i : Nat) (h : i < l.length) : (l ++ [x]).getD i d = l.getD i d := by simp [List.getD, List.getElem?_append_left h]
theorem getD_snoc_eq {α : Type} (l : List α) (x d : α) : (l ++ [x]).getD l.length d = x := by simp [List.getD]

theorem LogOk.flows_right {s : LogS} (h : LogOk s) : s.flows.length ≤ 6 ∧ ∀ p ∈ s.flows, pathE s.caps.length p = 0 := h.nets _ (flowsL_mem (by have := h.len; have := h.pos; omega))
theorem log0_ok {caps : List Int} (h : linksE caps = 0) : LogOk (log0 caps) :=
  ⟨h, rfl, by simp [log0], rfl, by simp [log0], ⟨0, by simp [log0], rfl⟩, by simp [log0, topM], fun _ => rfl, by simp [log0], fun i hi => by simp [log0] at hi ⊢; subst hi; simp, by simp [log0]⟩
theorem LogOk.topAt {s : LogS} (h : LogOk s) : topM s.marks ≤ 1000 * (s.marks.length - 1) := h.few _ (by have := h.pos; omega)
theorem LogOk.bytes_le {s : LogS} (h : LogOk s) : s.bytes ≤ 1000 * s.marks.length := by
  have := h.topAt; have := h.tail; have := h.pos; omega
theorem putS_ok {s : LogS} {n : Nat} {f : Flows} (h : LogOk s) (hs : s.stopped = false) (h2 : 2 ≤ n) (hn : n ≤ 1000) (hf : f.length ≤ 6 ∧ ∀ p ∈ f, pathE s.caps.length p = 0) : LogOk (putS s n f) := by
  have ht := h.torn hs
  have hta := h.topAt
  obtain ⟨i, hi, hsi⟩ := h.safe
  have hp := h.pos
  have hl := h.len
  unfold putS
  split
  · exact ⟨h.caps, h.len, h.pos, h.first, h.rise, h.safe, by have := h.top; show topM s.marks ≤ s.bytes + n / 2; omega, fun e => by simp at e, h.nets, h.few, by show s.bytes + n / 2 ≤ topM s.marks + 1000; omega⟩
  · refine ⟨h.caps, by simp [hl], by simp, ?_, fun j hj => ?_, ⟨i, by simp; omega, ?_⟩, ?_, fun _ => ?_, fun g hg => ?_, fun j hj => ?_, ?_⟩
    · show (s.marks ++ [s.bytes + n]).getD 0 0 = 0
      rw [getD_snoc_lt _ _ _ _ hp]; exact h.first
    · show (s.marks ++ [s.bytes + n]).getD j 0 + 2 ≤ (s.marks ++ [s.bytes + n]).getD (j + 1) 0
      have hj' : j + 1 < s.marks.length + 1 := by simpa using hj
      by_cases e : j + 1 = s.marks.length
      · rw [e, getD_snoc_eq, getD_snoc_lt _ _ _ _ (by omega)]
        have : j = s.marks.length - 1 := by omega
        rw [this]
        show topM s.marks + 2 ≤ _
        omega
      · rw [getD_snoc_lt _ _ _ _ (by omega), getD_snoc_lt _ _ _ _ (by omega)]
        exact h.rise j (by omega)
    · show s.safe = (s.marks ++ [s.bytes + n]).getD i 0
      rw [getD_snoc_lt _ _ _ _ hi]; exact hsi
    · show topM (s.marks ++ [s.bytes + n]) ≤ s.bytes + n
      rw [topM_snoc]; exact Nat.le_refl _
    · show s.bytes + n = topM (s.marks ++ [s.bytes + n])
      rw [topM_snoc]
    · rcases List.mem_append.1 hg with hg | hg
      · exact h.nets g hg
      · simp at hg; subst hg; exact hf
    · show (s.marks ++ [s.bytes + n]).getD j 0 ≤ 1000 * j
      have hj' : j < s.marks.length + 1 := by simpa using hj
      by_cases e : j = s.marks.length
      · subst e; rw [getD_snoc_eq]; omega
      · rw [getD_snoc_lt _ _ _ _ (by omega)]; exact h.few j (by omega)
    · show s.bytes + n ≤ topM (s.marks ++ [s.bytes + n]) + 1000
      rw [topM_snoc]; omega
theorem lessF_length {f : Flows} {i : Int} (h0 : 0 ≤ i) (h1 : i < f.length) : (lessF f i).length + 1 = f.length := by
  simp only [lessF, List.length_append, List.length_take, List.length_drop]; omega
theorem lessF_mem {f : Flows} {i : Int} {p : List Int} (h : p ∈ lessF f i) : p ∈ f := by
  rcases List.mem_append.1 h with h | h
  · exact List.mem_of_mem_take h
  · exact List.mem_of_mem_drop h
theorem addF_0 {s : LogS} {p : List Int} (h : addF s p = 0) : s.stopped = false ∧ s.flows.length ≠ 6 ∧ pathE s.caps.length p = 0 := by
  unfold addF at h
  split at h
  · omega
  · split at h
    · omega
    · exact ⟨by simpa using ‹¬ s.stopped = true›, by assumption, h⟩
theorem dropF_0 {s : LogS} {i : Int} (h : dropF s i = 0) : s.stopped = false ∧ 0 ≤ i ∧ i < s.flows.length := by
  unfold dropF at h
  split at h
  · omega
  · split at h
    · omega
    · exact ⟨by simpa using ‹¬ s.stopped = true›, by omega, by omega⟩
theorem addLS_ok {s : LogS} {p : List Int} {n : Nat} (h : LogOk s) (h2 : 2 ≤ n) (hn : n ≤ 1000) : LogOk (addLS s p n) := by
  unfold addLS
  split
  · rename_i h0
    obtain ⟨a1, a2, a3⟩ := addF_0 h0
    obtain ⟨b1, b2⟩ := h.flows_right
    refine putS_ok h a1 h2 hn ⟨by simp; omega, fun q hq => ?_⟩
    rcases List.mem_append.1 hq with hq | hq
    · exact b2 q hq
    · simp at hq; subst hq; exact a3
  · exact h
theorem dropLS_ok {s : LogS} {i : Int} {n : Nat} (h : LogOk s) (h2 : 2 ≤ n) (hn : n ≤ 1000) : LogOk (dropLS s i n) := by
  unfold dropLS
  split
  · rename_i h0
    obtain ⟨a1, a2, a3⟩ := dropF_0 h0
    obtain ⟨b1, b2⟩ := h.flows_right
    exact putS_ok h a1 h2 hn ⟨by have := lessF_length a2 a3; omega, fun q hq => b2 q (lessF_mem hq)⟩
  · exact h
theorem syncS_ok {s : LogS} (h : LogOk s) : LogOk (syncS s) := by
  unfold syncS
  split
  · exact h
  · rename_i hs
    have ht := h.torn (by simpa using hs)
    split
    · exact ⟨h.caps, h.len, h.pos, h.first, h.rise, h.safe, h.top, fun e => by simp at e, h.nets, h.few, h.tail⟩
    · exact ⟨h.caps, h.len, h.pos, h.first, h.rise, ⟨s.marks.length - 1, by have := h.pos; show _ < s.marks.length; omega, ht⟩, h.top, h.torn, h.nets, h.few, h.tail⟩
theorem failS_ok {s : LogS} {n : Int} (h : LogOk s) : LogOk (failS s n) := ⟨h.caps, h.len, h.pos, h.first, h.rise, h.safe, h.top, h.torn, h.nets, h.few, h.tail⟩
theorem leftK_bd (m : List Nat) (h : Nat) (h0 : m.getD 0 0 ≤ h) : ∀ k, (leftK m h k < k ∨ (k = 0 ∧ leftK m h k = 0)) ∧ m.getD (leftK m h k) 0 ≤ h := by
  intro k
  induction k with
  | zero => exact ⟨.inr ⟨rfl, rfl⟩, h0⟩
  | succ k ih =>
    unfold leftK
    split
    · exact ⟨.inl (by omega), by assumption⟩
    · exact ⟨.inl (by omega), ih.2⟩
theorem left_lt {s : LogS} (h : LogOk s) (H : Nat) : leftN' s.marks H < s.marks.length := by
  have := leftK_bd s.marks H (by rw [h.first]; exact Nat.zero_le _) s.marks.length
  have := h.pos
  unfold leftN'
  omega
theorem crashS_ok {s : LogS} {keep : Int} (h : LogOk s) : LogOk (crashS s keep) := by
  have hl := left_lt h (highN s keep)
  have hlen := h.len
  generalize hi : leftN' s.marks (highN s keep) = i at hl
  have ht : topM (s.marks.take (i + 1)) = s.marks.getD i 0 := by
    unfold topM
    rw [List.length_take, show min (i + 1) s.marks.length - 1 = i by omega, getD_take _ _ _ _ (by omega)]
  have hc : crashS s keep = { s with done := s.done.take (i + 1), marks := s.marks.take (i + 1), bytes := s.marks.getD i 0, safe := s.marks.getD i 0, left := -1, stopped := false } := by rw [← hi]; rfl
  rw [hc]
  refine ⟨h.caps, ?_, ?_, ?_, fun j hj => ?_, ⟨i, ?_, ?_⟩, ?_, fun _ => ?_, fun f hf => h.nets f (List.mem_of_mem_take hf), fun j hj => ?_, ?_⟩
  · show (s.done.take (i + 1)).length = (s.marks.take (i + 1)).length
    simp only [List.length_take]; omega
  · show 0 < (s.marks.take (i + 1)).length
    simp only [List.length_take]; omega
  · show (s.marks.take (i + 1)).getD 0 0 = 0
    rw [getD_take _ _ _ _ (by omega)]; exact h.first
  · have hj' : j + 1 < (s.marks.take (i + 1)).length := hj
    rw [List.length_take] at hj'
    show (s.marks.take (i + 1)).getD j 0 + 2 ≤ (s.marks.take (i + 1)).getD (j + 1) 0
    rw [getD_take _ _ _ _ (by omega), getD_take _ _ _ _ (by omega)]
    exact h.rise j (by omega)
  · show i < (s.marks.take (i + 1)).length
    simp only [List.length_take]; omega
  · show s.marks.getD i 0 = (s.marks.take (i + 1)).getD i 0
    rw [getD_take _ _ _ _ (by omega)]
  · show topM (s.marks.take (i + 1)) ≤ s.marks.getD i 0
    rw [ht]; exact Nat.le_refl _
  · show s.marks.getD i 0 = topM (s.marks.take (i + 1))
    rw [ht]
  · have hj' : j < (s.marks.take (i + 1)).length := hj
    rw [List.length_take] at hj'
    show (s.marks.take (i + 1)).getD j 0 ≤ 1000 * j
    rw [getD_take _ _ _ _ (by omega)]; exact h.few j (by omega)
  · show s.marks.getD i 0 ≤ topM (s.marks.take (i + 1)) + 1000
    rw [ht]; omega
/-- behind a crash -/
theorem crash_flows {s : LogS} {keep : Int} (h : LogOk s) : (crashS s keep).flows = s.done.getD (leftN' s.marks (highN s keep)) [] := by
  have hl := left_lt h (highN s keep)
  have := h.len
  show flowsL (s.done.take (leftN' s.marks (highN s keep) + 1)) = _
  unfold flowsL
  rw [List.length_take, show min (leftN' s.marks (highN s keep) + 1) s.done.length - 1 = leftN' s.marks (highN s keep) by omega, getD_take _ _ _ _ (by omega)]
end Go.Proofs.YtdldgefahgojaajDoor.Ev

/- An error as a value, and old memory behind a contract. -/
namespace Go.Proofs.YtdldgefahgojaajDoor
namespace Fr
open Go.RowKit

/-- an error value: none, or the number in an api.Errno -/
def errV (k : Int) : Value := if k = 0 then .nilIface else .iface 80 (.int .i64 k)
theorem errV_0 : errV 0 = .nilIface := rfl
theorem errV_ne {k : Int} (h : k ≠ 0) : errV k = .iface 80 (.int .i64 k) := by simp [errV, h]

theorem bcell {W w1 : World} (hb : Below W.heap.size W w1) : (∀ b o, b < W.heap.size → w1.cell? ⟨b, o, none⟩ = W.cell? ⟨b, o, none⟩) ∧ (∀ b o, b < W.heap.size → w1.frozen? ⟨b, o, none⟩ = W.frozen? ⟨b, o, none⟩) :=
  ⟨fun b o h => hb.cell (p := ⟨b, o, none⟩) h, fun b o h => hb.frozen (p := ⟨b, o, none⟩) h⟩

end Fr
end Go.Proofs.YtdldgefahgojaajDoor

/- Small laws on worlds behind calls: what lies below stays. -/
namespace Go.Proofs.YtdldgefahgojaajDoor
namespace Bel
open Go.RowKit
theorem more {B : Nat} {W u : World} (h : Below B W u) (hB : B ≤ W.heap.size) (o : Obj) : Below B W (u.alloc o) := h.alloc (Nat.le_trans hB h.size) o
theorem call {B : Nat} {W u u' : World} (h : Below B W u) (hB : B ≤ W.heap.size) (hc : Below u.heap.size u u') : Below B W u' := h.trans (hc.mono (Nat.le_trans hB h.size))
end Bel
end Go.Proofs.YtdldgefahgojaajDoor

/- A call that changes memory of its thing's own alone. -/
namespace Go.Proofs.YtdldgefahgojaajDoor
namespace Ev
open Go.RowKit
set_option linter.unusedVariables false

/-- but in some blocks the memory is as it was -/
def ButIn (F : Nat → Prop) (w w' : World) : Prop := Below 0 w w' ∧ ∀ b, b < w.heap.size → ¬ F b → w'.heap[b]? = w.heap[b]?
theorem ButIn.below {F : Nat → Prop} {w w' : World} {B : Nat} (h : ButIn F w w') (hF : ∀ b, F b → B ≤ b) (hB : B ≤ w.heap.size) : Below B w w' :=
  ⟨h.1.os, h.1.tape, h.1.output, h.1.size, fun k hk => h.2 k (by omega) (fun hf => by have := hF k hf; omega)⟩
theorem ButIn.of_below {F : Nat → Prop} {w w' : World} (h : Below w.heap.size w w') : ButIn F w w' := ⟨h.mono (Nat.zero_le _), fun b hb _ => h.block b hb⟩
theorem ButIn.refl (F : Nat → Prop) (w : World) : ButIn F w w := ⟨Below.refl _ _, fun _ _ _ => rfl⟩
end Ev
end Go.Proofs.YtdldgefahgojaajDoor

/- A log as package log has it: what the laws are told of it. -/
namespace Go.Proofs.YtdldgefahgojaajDoor
namespace Ev
open Go.RowKit Ns
set_option linter.unusedSimpArgs false
set_option linter.unusedVariables false

/-- a log as package log has it: what of the memory is its own only the package knows -/
structure LogFace where
  Inv : World → Value → (Nat → Prop) → LogS → Prop
  lt : ∀ {w p F s}, Inv w p F s → ∀ b, F b → b < w.heap.size
  keep : ∀ {w w' p F s}, Inv w p F s → (∀ b, F b → w'.heap[b]? = w.heap[b]?) → Inv w' p F s
  ptr : ∀ {w p F s}, Inv w p F s → ∃ a, p = .pointer (some a)
theorem LogFace.later (X : LogFace) {w w' : World} {p : Value} {F : Nat → Prop} {s : LogS} (hb : Below w.heap.size w w') (h : X.Inv w p F s) : X.Inv w' p F s := X.keep h (fun b hb' => hb.block b (X.lt h b hb'))
/-- what a call on a log leaves: the log then, no memory changed but the log's own -/
def MovedL (X : LogFace) (p : Value) (F : Nat → Prop) (s' : LogS) (w w' : World) : Prop := ∃ F', X.Inv w' p F' s' ∧ (∀ b, F' b → F b ∨ w.heap.size ≤ b) ∧ ButIn F w w'
/-- not too many records for any machine -/
def FewL (s : LogS) : Prop := LogOk s ∧ s.marks.length ≤ 1000
end Ev
end Go.Proofs.YtdldgefahgojaajDoor

/- Slices of int, slices of these, and a net: what a walk is told of them, and what stays of it. -/
namespace Go.Proofs.YtdldgefahgojaajDoor
namespace Ns
open Go.RowKit
set_option linter.unusedSimpArgs false
set_option linter.unusedVariables false

/-- the slice v holds the numbers l in the world w, in a block of which Q holds -/
def IntsAt (Q : Nat → Prop) (w : World) (v : Value) (l : List Int) : Prop :=
  ∃ a cap, v = .slice a l.length cap ∧ (l.length ≤ cap ∧ l.length ≤ 9223372036854775807) ∧
    (l = [] ∨ ∃ b off, a = some ⟨b, off, none⟩ ∧ (∀ i, i < l.length → w.cell? ⟨b, off + i, none⟩ = some (.int .i64 (l.getD i 0))) ∧ Q b)

theorem IntsAt.later {Q : Nat → Prop} {w w' : World} {v : Value} {l : List Int} (hb : Below w.heap.size w w') (h : IntsAt Q w v l) : IntsAt Q w' v l := by
  obtain ⟨a, cap, rfl, hm, h⟩ := h
  refine ⟨a, cap, rfl, hm, ?_⟩
  rcases h with h | ⟨b, off, rfl, h, hQ⟩
  · exact .inl h
  · exact .inr ⟨b, off, rfl, fun i hi => cell_later hb (h i hi), hQ⟩
/-- only the blocks of which Q holds matter -/
theorem IntsAt.keep {Q R : Nat → Prop} {w w' : World} {v : Value} {l : List Int} (hk : ∀ b, Q b → b < w.heap.size → w'.heap[b]? = w.heap[b]?) (hQR : ∀ b, Q b → b < w.heap.size → R b) (h : IntsAt Q w v l) : IntsAt R w' v l := by
  obtain ⟨a, cap, rfl, hm, h⟩ := h
  refine ⟨a, cap, rfl, hm, ?_⟩
  rcases h with h | ⟨b, off, rfl, h, hQ⟩
  · exact .inl h
  · by_cases hl : l = []
    · exact .inl hl
    · have hb : b < w.heap.size := World.block_lt_of_cell? _ _ (h 0 (List.length_pos_iff.2 hl))
      refine .inr ⟨b, off, rfl, fun i hi => ?_, hQR b hQ hb⟩
      rw [World.cell?_of_block (w := w) (a := ⟨b, off + i, none⟩) (hk b hQ hb)]
      exact h i hi

theorem ret_bool {a b : Bool} (h : a = b) : Ending.returned (.bool a) = .returned (.bool b) := by rw [h]
theorem ret_int {k : IntKind} {a b : Int} (h : a = b) : Ending.returned (.int k a) = .returned (.int k b) := by rw [h]

theorem IntsAt.take {Q : Nat → Prop} {w : World} {b off cap : Nat} {l : List Int} (hm : l.length ≤ cap) (hm2 : l.length ≤ 9223372036854775807) (h : ∀ i, i < l.length → w.cell? ⟨b, off + i, none⟩ = some (.int .i64 (l.getD i 0))) (k : Nat) (hk : k ≤ l.length) (hQ : Q b) :
    IntsAt Q w (.slice (some ⟨b, off, none⟩) k cap) (l.take k) := by
  refine ⟨_, cap, by rw [List.length_take, Nat.min_eq_left hk], ⟨by rw [List.length_take]; omega, by rw [List.length_take]; omega⟩, .inr ⟨b, off, rfl, fun i hi => ?_, hQ⟩⟩
  rw [List.length_take] at hi
  rw [h i (by omega)]
  congr 2
  simp [List.getD, List.getElem?_take, show i < k by omega]

/-- the slice v holds the lists ll in the world w -/
def ListsAt (Q : Nat → Prop) (w : World) (v : Value) (ll : List (List Int)) : Prop :=
  ∃ a cap, v = .slice a ll.length cap ∧ (ll.length ≤ cap ∧ ll.length ≤ 9223372036854775807) ∧
    (ll = [] ∨ ∃ b off, a = some ⟨b, off, none⟩ ∧ (∀ i, i < ll.length → ∃ x, w.cell? ⟨b, off + i, none⟩ = some x ∧ IntsAt Q w x (ll.getD i [])) ∧ Q b)

theorem ListsAt.later {Q : Nat → Prop} {w w' : World} {v : Value} {l : List (List Int)} (hb : Below w.heap.size w w') (h : ListsAt Q w v l) : ListsAt Q w' v l := by
  obtain ⟨a, cap, rfl, hm, h⟩ := h
  refine ⟨a, cap, rfl, hm, ?_⟩
  rcases h with h | ⟨b, off, rfl, h, hQ⟩
  · exact .inl h
  · refine .inr ⟨b, off, rfl, fun i hi => ?_, hQ⟩
    obtain ⟨x, hx, hi⟩ := h i hi
    exact ⟨x, cell_later hb hx, hi.later hb⟩
theorem ListsAt.keep {Q R : Nat → Prop} {w w' : World} {v : Value} {l : List (List Int)} (hk : ∀ b, Q b → b < w.heap.size → w'.heap[b]? = w.heap[b]?) (hQR : ∀ b, Q b → b < w.heap.size → R b) (h : ListsAt Q w v l) : ListsAt R w' v l := by
  obtain ⟨a, cap, rfl, hm, h⟩ := h
  refine ⟨a, cap, rfl, hm, ?_⟩
  rcases h with h | ⟨b, off, rfl, h, hQ⟩
  · exact .inl h
  · by_cases hl : l = []
    · exact .inl hl
    · obtain ⟨x0, hx0, _⟩ := h 0 (List.length_pos_iff.2 hl)
      have hb : b < w.heap.size := World.block_lt_of_cell? _ _ hx0
      refine .inr ⟨b, off, rfl, fun i hi => ?_, hQR b hQ hb⟩
      obtain ⟨x, hx, hxi⟩ := h i hi
      exact ⟨x, by rw [World.cell?_of_block (w := w) (a := ⟨b, off + i, none⟩) (hk b hQ hb)]; exact hx, hxi.keep hk hQR⟩

/-- the value v is the net of these links and paths in the world w -/
def NetAt (Q : Nat → Prop) (w : World) (v : Value) (caps : List Int) (paths : List (List Int)) : Prop :=
  ∃ v1 v2, v = .agg #[v1, v2] ∧ IntsAt Q w v1 caps ∧ ListsAt Q w v2 paths
theorem NetAt.later {Q : Nat → Prop} {w w' : World} {v : Value} {c : List Int} {l : List (List Int)} (hb : Below w.heap.size w w') (h : NetAt Q w v c l) : NetAt Q w' v c l := by
  obtain ⟨v1, v2, rfl, h1, h2⟩ := h
  exact ⟨v1, v2, rfl, h1.later hb, h2.later hb⟩
theorem NetAt.keep {Q R : Nat → Prop} {w w' : World} {v : Value} {c : List Int} {l : List (List Int)} (hk : ∀ b, Q b → b < w.heap.size → w'.heap[b]? = w.heap[b]?) (hQR : ∀ b, Q b → b < w.heap.size → R b) (h : NetAt Q w v c l) : NetAt R w' v c l := by
  obtain ⟨v1, v2, rfl, h1, h2⟩ := h
  exact ⟨v1, v2, rfl, h1.keep hk hQR, h2.keep hk hQR⟩
/-- a store into a block of which Q does not hold -/
theorem NetAt.setCell {Q : Nat → Prop} {w : World} {v : Value} {c : List Int} {l : List (List Int)} (h : NetAt Q w v c l) {a : Addr} (ha : ¬ Q a.block) (u : Value) : NetAt Q (w.setCell a u) v c l :=
  h.keep (fun b hb _ => Below.heap_setCell w a u b (fun e => ha (e ▸ hb))) (fun _ h _ => h)

theorem NetAt.shape {Q : Nat → Prop} {w : World} {v : Value} {c : List Int} {l : List (List Int)} (h : NetAt Q w v c l) : ∃ a n k a' n' k', v = .agg #[.slice a n k, .slice a' n' k'] := by
  obtain ⟨_, _, rfl, ⟨_, _, rfl, _⟩, ⟨_, _, rfl, _⟩⟩ := h
  exact ⟨_, _, _, _, _, _, rfl⟩
theorem pathsFrom_cons (L : Int) (l : List (List Int)) (k : Nat) (h : k < l.length) :
    pathsFrom L (l.drop k) = if pathE L (l.getD k []) = 0 then pathsFrom L (l.drop (k + 1)) else pathE L (l.getD k []) := by
  rw [drop_cons l k h []]; rfl

theorem infoInt : (Tryd.prog.info? 3).map (fun i => (i.zero, i.size, i.bytes)) = some (some (.int .i64 0), 1, 8) := by kernel_rfl

/-- a row of ints that the call owns is a list -/
theorem ints_of_owns {Q : Nat → Prop} {w : World} {base : Nat} {v : Value} {l : List Int} (hl : l.length ≤ 9223372036854775807) (h : w.ownsRow base 3 1 v l.length (l.map (Value.int .i64))) (hQ : ∀ g, base ≤ g → Q g) : IntsAt Q w v l := by
  have h' := h
  obtain ⟨h0, h⟩ := h
  rcases h with ⟨rfl, h⟩ | ⟨g, cap, cur, rfl, hb, hg, hc, hm, hs, ht⟩
  · have : l = [] := List.eq_nil_of_length_eq_zero h
    subst this
    exact ⟨none, 0, rfl, ⟨Nat.le_refl _, by simp⟩, .inl rfl⟩
  · refine ⟨_, cap, rfl, ⟨hc, hl⟩, .inr ⟨g, 0, rfl, fun i hi => ?_, hQ g hb⟩⟩
    have := h'.cells (g := g) rfl i (.int .i64 (l.getD i 0)) (by simp [List.getD, List.getElem?_eq_getElem hi])
    have e : (⟨g, 0, none⟩ : Addr).add i = ⟨g, 0 + i, none⟩ := by unfold Addr.add; split <;> simp_all
    rw [e] at this
    exact this

/-- behind an append to a row of the call's own nothing below has turned -/
theorem rel_append {B : Nat} {W wr w1 : World} {e : TypeId} {sz n : Nat} {v : Value} {xs : List Value} {o : Obj} (hb : Below B W wr) (hs : B ≤ wr.heap.size) (ho : wr.ownsRow B e sz v n xs) (hg : (wr.alloc o).grownBy w1 v.ownBlock) : Below B W w1 :=
  (hb.alloc hs o).grown hg (by simp; omega) (fun k hk => (ho.lt k hk).1)

theorem users_step (paths : List (List Int)) (link : Int) (k : Nat) (h : k < paths.length) :
    users (paths.take (k + 1)) link = users (paths.take k) link ++ (if inB (paths.getD k []) link then [(k : Int)] else []) := by
  unfold users
  rw [take_snoc paths k h [], usersFrom_snoc]
  have : 0 + (paths.take k).length = k := by rw [List.length_take]; omega
  rw [this]

/-- the values in the cells of a list of lists -/
theorem ListsAt.vals {Q : Nat → Prop} {w : World} {v : Value} {ll : List (List Int)} (h : ListsAt Q w v ll) (hne : ll ≠ []) :
    ∃ b off cap vs, v = .slice (some ⟨b, off, none⟩) ll.length cap ∧ ll.length ≤ cap ∧ List.length vs = ll.length ∧ ∀ i, i < ll.length → w.cell? ⟨b, off + i, none⟩ = some (vs.getD i undef) ∧ IntsAt Q w (vs.getD i undef) (ll.getD i []) := by
  obtain ⟨a, cap, rfl, ⟨hm, hm2⟩, h⟩ := h
  rcases h with h | ⟨b, off, rfl, h, hQ⟩
  · exact absurd h hne
  · refine ⟨b, off, cap, (List.range ll.length).map (fun i => (w.cell? ⟨b, off + i, none⟩).getD undef), rfl, hm, by simp, fun i hi => ?_⟩
    obtain ⟨x, hx, hi'⟩ := h i hi
    have e : ((List.range ll.length).map (fun i => (w.cell? ⟨b, off + i, none⟩).getD undef)).getD i undef = x := by
      simp [List.getD, List.getElem?_range hi, hx]
    rw [e]
    exact ⟨hx, hi'⟩

theorem add_addr (b off i : Nat) : (⟨b, off, none⟩ : Addr).add i = ⟨b, off + i, none⟩ := by unfold Addr.add; split <;> simp_all

theorem ones {Q : Nat → Prop} {w : World} {vs : List Value} {ll : List (List Int)} (hl : vs.length = ll.length) (h : ∀ i, i < ll.length → IntsAt Q w (vs.getD i undef) (ll.getD i [])) : ∀ u ∈ vs, u.oneCell' = true := by
  intro u hu
  obtain ⟨i, hi, rfl⟩ := List.mem_iff_getElem.1 hu
  obtain ⟨a, c, e, _⟩ := h i (by omega)
  have : vs[i] = vs.getD i undef := by simp [List.getD, List.getElem?_eq_getElem hi]
  rw [this, e]
  rfl

theorem ints_snoc {Q : Nat → Prop} {w : World} {vs : List Value} {ll : List (List Int)} {v : Value} {l : List Int} (hl : vs.length = ll.length) (h : ∀ i, i < ll.length → IntsAt Q w (vs.getD i undef) (ll.getD i [])) (hv : IntsAt Q w v l) :
    ∀ i, i < (ll ++ [l]).length → IntsAt Q w ((vs ++ [v]).getD i undef) ((ll ++ [l]).getD i []) := by
  intro i hi
  by_cases hlt : i < ll.length
  · have e1 : (vs ++ [v]).getD i undef = vs.getD i undef := by simp [List.getD, List.getElem?_append_left (show i < vs.length by omega)]
    have e2 : (ll ++ [l]).getD i [] = ll.getD i [] := by simp [List.getD, List.getElem?_append_left hlt]
    rw [e1, e2]; exact h i hlt
  · have hi' : i = ll.length := by simp at hi; omega
    subst hi'
    have e1 : (vs ++ [v]).getD ll.length undef = v := by rw [← hl]; simp [List.getD]
    have e2 : (ll ++ [l]).getD ll.length [] = l := by simp [List.getD]
    rw [e1, e2]; exact hv
end Ns
end Go.Proofs.YtdldgefahgojaajDoor

/- What is asked of package log's New, as the document says it. -/
namespace Go.Proofs.YtdldgefahgojaajDoor
namespace Ev
open Go.RowKit Fr Ns
/-- what New hands out -/
def MadeL (X : LogFace) (caps : List Int) (w w' : World) (e : Ending) : Prop :=
  ∃ p, e = .returned (.tuple #[p, errV (linksE caps)]) ∧ (∃ a, p = .pointer a) ∧ (linksE caps = 0 → ∃ F, X.Inv w' p F (log0 caps) ∧ ∀ b, F b → w.heap.size ≤ b) ∧ Below w.heap.size w w'
def LNewSaid (X : LogFace) : Prop := ∀ (Q : Nat → Prop) (caps : List Int) (v : Value) (w : World), IntsAt Q w v caps →
  Calls Tryd.prog 24 #[v] w fun e w' => MadeL X caps w w' e
end Ev
end Go.Proofs.YtdldgefahgojaajDoor

/- What is asked of the calls that change a log, as the document says it. -/
namespace Go.Proofs.YtdldgefahgojaajDoor
namespace Ev
open Go.RowKit Fr Ns
def LAddSaid (X : LogFace) : Prop := ∀ (Q : Nat → Prop) (p : Value) (F : Nat → Prop) (s : LogS) (path : List Int) (v : Value) (w : World), X.Inv w p F s → FewL s → IntsAt Q w v path → (∀ b, Q b → ¬ F b) →
  Calls Tryd.prog 26 #[p, v] w fun e w' => ∃ n, e = .returned (errV (addLE s path)) ∧ 2 ≤ n ∧ n ≤ 1000 ∧ MovedL X p F (addLS s path n) w w'
def LDropSaid (X : LogFace) : Prop := ∀ (p : Value) (F : Nat → Prop) (s : LogS) (i : Int) (w : World), X.Inv w p F s → FewL s →
  Calls Tryd.prog 28 #[p, .int .i64 i] w fun e w' => ∃ n, e = .returned (errV (dropLE s i)) ∧ 2 ≤ n ∧ n ≤ 1000 ∧ MovedL X p F (dropLS s i n) w w'
def LSyncSaid (X : LogFace) : Prop := ∀ (p : Value) (F : Nat → Prop) (s : LogS) (w : World), X.Inv w p F s → FewL s →
  Calls Tryd.prog 27 #[p] w fun e w' => e = .returned (errV (syncE s)) ∧ MovedL X p F (syncS s) w w'
def LCrashSaid (X : LogFace) : Prop := ∀ (p : Value) (F : Nat → Prop) (s : LogS) (keep : Int) (w : World), X.Inv w p F s → FewL s →
  Calls Tryd.prog 29 #[p, .int .i64 keep] w fun e w' => e = .returned (.tuple #[]) ∧ MovedL X p F (crashS s keep) w w'
def LFailSaid (X : LogFace) : Prop := ∀ (p : Value) (F : Nat → Prop) (s : LogS) (n : Int) (w : World), X.Inv w p F s → FewL s → s.stopped = false → n ≤ 9223372036854775807 →
  Calls Tryd.prog 25 #[p, .int .i64 n] w fun e w' => e = .returned (.tuple #[]) ∧ MovedL X p F (failS s n) w w'
end Ev
end Go.Proofs.YtdldgefahgojaajDoor

/- What is asked of the calls that read a log, as the document says it. -/
namespace Go.Proofs.YtdldgefahgojaajDoor
namespace Ev
open Go.RowKit Fr Ns
def LPathsSaid (X : LogFace) : Prop := ∀ (p : Value) (F : Nat → Prop) (s : LogS) (w : World), X.Inv w p F s → FewL s →
  Calls Tryd.prog 30 #[p] w fun e w' => ∃ y, e = .returned y ∧ ListsAt (fun b => w.heap.size ≤ b) w' y s.flows ∧ Below w.heap.size w w'
def LBytesSaid (X : LogFace) : Prop := ∀ (p : Value) (F : Nat → Prop) (s : LogS) (w : World), X.Inv w p F s → FewL s →
  Calls Tryd.prog 32 #[p] w fun e w' => e = .returned (.int .i64 s.bytes) ∧ ∃ n, w' = w.drewN n
def LSafeSaid (X : LogFace) : Prop := ∀ (p : Value) (F : Nat → Prop) (s : LogS) (w : World), X.Inv w p F s → FewL s →
  Calls Tryd.prog 31 #[p] w fun e w' => e = .returned (.int .i64 s.safe) ∧ ∃ n, w' = w.drewN n
end Ev
end Go.Proofs.YtdldgefahgojaajDoor

/- A log that package log has made, call by call: what the laws are told of it. -/
namespace Go.Proofs.YtdldgefahgojaajDoor
namespace Ev
open Go.RowKit Fr Ns
set_option linter.unusedSimpArgs false
set_option linter.unusedVariables false

theorem putS_marks (s : LogS) (n : Nat) (f : Flows) : (putS s n f).marks.length ≤ s.marks.length + 1 := by
  unfold putS
  split
  · exact Nat.le_succ _
  · simp
theorem addLS_marks (s : LogS) (p : List Int) (n : Nat) : (addLS s p n).marks.length ≤ s.marks.length + 1 := by
  unfold addLS
  split
  · exact putS_marks _ _ _
  · exact Nat.le_succ _
theorem dropLS_marks (s : LogS) (i : Int) (n : Nat) : (dropLS s i n).marks.length ≤ s.marks.length + 1 := by
  unfold dropLS
  split
  · exact putS_marks _ _ _
  · exact Nat.le_succ _
theorem syncS_marks (s : LogS) : (syncS s).marks = s.marks := by
  unfold syncS
  split
  · rfl
  · split <;> rfl
theorem crashS_marks (s : LogS) (k : Int) : (crashS s k).marks.length ≤ s.marks.length := by
  show (s.marks.take _).length ≤ _
  rw [List.length_take]; omega
/-- the log s at a, in memory from w's end on; but for that w is as it was; at most m records, and the beginning -/
def LogAt (X : LogFace) (w : World) (a : Addr) (m : Nat) (s : LogS) (u : World) : Prop :=
  ∃ F, X.Inv u (.pointer (some a)) F s ∧ LogOk s ∧ s.marks.length ≤ m ∧ (∀ b, F b → w.heap.size ≤ b) ∧ Below w.heap.size w u
theorem LogAt.later {X : LogFace} {w u u' : World} {a : Addr} {m : Nat} {s : LogS} (h : LogAt X w a m s u) (hb : Below u.heap.size u u') : LogAt X w a m s u' := by
  obtain ⟨F, h1, h2, h3, h4, h5⟩ := h
  exact ⟨F, X.later hb h1, h2, h3, h4, Bel.call h5 (Nat.le_refl _) hb⟩
theorem LogAt.below {X : LogFace} {w u : World} {a : Addr} {m : Nat} {s : LogS} (h : LogAt X w a m s u) : Below w.heap.size w u := h.choose_spec.2.2.2.2
theorem LogAt.ok {X : LogFace} {w u : World} {a : Addr} {m : Nat} {s : LogS} (h : LogAt X w a m s u) : LogOk s := h.choose_spec.2.1
theorem LogAt.up {X : LogFace} {w u : World} {a : Addr} {m m' : Nat} {s : LogS} (h : LogAt X w a m s u) (hm : m ≤ m') : LogAt X w a m' s u := by
  obtain ⟨F, h1, h2, h3, h4, h5⟩ := h
  exact ⟨F, h1, h2, by omega, h4, h5⟩
theorem moved_at {X : LogFace} {w u w' : World} {a : Addr} {m : Nat} {s' : LogS} {F : Nat → Prop} (hF : ∀ b, F b → w.heap.size ≤ b) (hb : Below w.heap.size w u) (hm : MovedL X (.pointer (some a)) F s' u w') (hok : LogOk s') (hl : s'.marks.length ≤ m) : LogAt X w a m s' w' := by
  obtain ⟨F', hi, hF', hbut⟩ := hm
  have hs := hb.size
  refine ⟨F', hi, hok, hl, fun b hb' => ?_, hb.trans (hbut.below hF hs)⟩
  rcases hF' b hb' with h | h
  · exact hF b h
  · omega
theorem made_logAt {X : LogFace} {caps : List Int} (hc : linksE caps = 0) {w u : World} (hb : Below w.heap.size w u) : ∀ e w', MadeL X caps u w' e → ∃ a, e = .returned (.tuple #[.pointer (some a), .nilIface]) ∧ LogAt X w a 1 (log0 caps) w' := fun e w' ⟨p, h1, _, h2, h3⟩ => by
  obtain ⟨F, hi, hF⟩ := h2 hc
  obtain ⟨a, rfl⟩ := X.ptr hi
  rw [hc, errV_0] at h1
  have hs := hb.size
  exact ⟨a, h1, F, hi, log0_ok hc, by simp [log0], fun b hb' => by have := hF b hb'; omega, Bel.call hb (Nat.le_refl _) h3⟩
theorem made_logBad {X : LogFace} {caps : List Int} (hc : linksE caps ≠ 0) {u : World} : ∀ e w', MadeL X caps u w' e → ∃ a, e = .returned (.tuple #[.pointer a, .iface 80 (.int .i64 (linksE caps))]) ∧ Below u.heap.size u w' := fun e w' ⟨p, h1, ⟨a, h2⟩, _, h3⟩ => by
  rw [errV_ne hc, h2] at h1
  exact ⟨a, h1, h3⟩
/-- Add of a list in memory that is none of the log's -/
theorem add_at {X : LogFace} (hA : LAddSaid X) {w u u1 : World} {a : Addr} {m : Nat} {s : LogS} {path : List Int} {v : Value} {Q : Nat → Prop} (h : LogAt X w a m s u) (hu : Below u.heap.size u u1) (hv : IntsAt Q u1 v path) (hQ : ∀ b, Q b → u.heap.size ≤ b ∨ b < w.heap.size) (hm : m ≤ 1000) :
    Calls Tryd.prog 26 #[.pointer (some a), v] u1 fun e w' => ∃ n, e = .returned (errV (addLE s path)) ∧ LogAt X w a (m + 1) (addLS s path n) w' := by
  obtain ⟨F, h1, h2, h3, h4, h5⟩ := h
  have hb1 : Below w.heap.size w u1 := Bel.call h5 (Nat.le_refl _) hu
  refine (hA Q _ F s path v u1 (X.later hu h1) ⟨h2, by omega⟩ hv (fun b hb hF => ?_)).mono ?_
  · rcases hQ b hb with h | h
    · have := X.lt h1 b hF; omega
    · have := h4 b hF; omega
  · rintro e w' ⟨n, he, n2, n3, hmv⟩
    exact ⟨n, he, moved_at h4 hb1 hmv (addLS_ok h2 n2 n3) (by have := addLS_marks s path n; omega)⟩
theorem drop_at {X : LogFace} (hD : LDropSaid X) {w u : World} {a : Addr} {m : Nat} {s : LogS} (i : Int) (h : LogAt X w a m s u) (hm : m ≤ 1000) :
    Calls Tryd.prog 28 #[.pointer (some a), .int .i64 i] u fun e w' => ∃ n, e = .returned (errV (dropLE s i)) ∧ LogAt X w a (m + 1) (dropLS s i n) w' := by
  obtain ⟨F, h1, h2, h3, h4, h5⟩ := h
  refine (hD _ F s i u h1 ⟨h2, by omega⟩).mono ?_
  rintro e w' ⟨n, he, n2, n3, hmv⟩
  exact ⟨n, he, moved_at h4 h5 hmv (dropLS_ok h2 n2 n3) (by have := dropLS_marks s i n; omega)⟩
theorem sync_at {X : LogFace} (hS : LSyncSaid X) {w u : World} {a : Addr} {m : Nat} {s : LogS} (h : LogAt X w a m s u) (hm : m ≤ 1000) :
    Calls Tryd.prog 27 #[.pointer (some a)] u fun e w' => e = .returned (errV (syncE s)) ∧ LogAt X w a m (syncS s) w' := by
  obtain ⟨F, h1, h2, h3, h4, h5⟩ := h
  refine (hS _ F s u h1 ⟨h2, by omega⟩).mono ?_
  rintro e w' ⟨he, hmv⟩
  exact ⟨he, moved_at h4 h5 hmv (syncS_ok h2) (by rw [syncS_marks]; exact h3)⟩
theorem crash_at {X : LogFace} (hC : LCrashSaid X) {w u : World} {a : Addr} {m : Nat} {s : LogS} (keep : Int) (h : LogAt X w a m s u) (hm : m ≤ 1000) :
    Calls Tryd.prog 29 #[.pointer (some a), .int .i64 keep] u fun e w' => e = .returned (.tuple #[]) ∧ LogAt X w a m (crashS s keep) w' := by
  obtain ⟨F, h1, h2, h3, h4, h5⟩ := h
  refine (hC _ F s keep u h1 ⟨h2, by omega⟩).mono ?_
  rintro e w' ⟨he, hmv⟩
  exact ⟨he, moved_at h4 h5 hmv (crashS_ok h2) (by have := crashS_marks s keep; omega)⟩
theorem fail_at {X : LogFace} (hF : LFailSaid X) {w u : World} {a : Addr} {m : Nat} {s : LogS} (n : Int) (h : LogAt X w a m s u) (hm : m ≤ 1000) (hs : s.stopped = false) (hn : n ≤ 9223372036854775807) :
    Calls Tryd.prog 25 #[.pointer (some a), .int .i64 n] u fun e w' => e = .returned (.tuple #[]) ∧ LogAt X w a m (failS s n) w' := by
  obtain ⟨F, h1, h2, h3, h4, h5⟩ := h
  refine (hF _ F s n u h1 ⟨h2, by omega⟩ hs hn).mono ?_
  rintro e w' ⟨he, hmv⟩
  exact ⟨he, moved_at h4 h5 hmv (failS_ok h2) h3⟩
theorem paths_at {X : LogFace} (hP : LPathsSaid X) {w u : World} {a : Addr} {m : Nat} {s : LogS} (h : LogAt X w a m s u) (hm : m ≤ 1000) :
    Calls Tryd.prog 30 #[.pointer (some a)] u fun e w' => ∃ y, e = .returned y ∧ ListsAt (fun b => u.heap.size ≤ b) w' y s.flows ∧ LogAt X w a m s w' ∧ Below u.heap.size u w' := by
  obtain ⟨F, h1, h2, h3, h4, h5⟩ := id h
  refine (hP _ F s u h1 ⟨h2, by omega⟩).mono ?_
  rintro e w' ⟨y, he, hy, hb⟩
  exact ⟨y, he, hy, h.later hb, hb⟩
theorem bytes_at {X : LogFace} (hB : LBytesSaid X) {w u : World} {a : Addr} {m : Nat} {s : LogS} (h : LogAt X w a m s u) (hm : m ≤ 1000) :
    Calls Tryd.prog 32 #[.pointer (some a)] u fun e w' => e = .returned (.int .i64 s.bytes) ∧ ∃ n, w' = u.drewN n := by
  obtain ⟨F, h1, h2, h3, h4, h5⟩ := h
  exact hB _ F s u h1 ⟨h2, by omega⟩
theorem safe_at {X : LogFace} (hB : LSafeSaid X) {w u : World} {a : Addr} {m : Nat} {s : LogS} (h : LogAt X w a m s u) (hm : m ≤ 1000) :
    Calls Tryd.prog 31 #[.pointer (some a)] u fun e w' => e = .returned (.int .i64 s.safe) ∧ ∃ n, w' = u.drewN n := by
  obtain ⟨F, h1, h2, h3, h4, h5⟩ := h
  exact hB _ F s u h1 ⟨h2, by omega⟩
end Ev
end Go.Proofs.YtdldgefahgojaajDoor

/- When a log has stopped it has stopped: the document's log under the law LogStops. No Go in it. -/
namespace Go.Proofs.YtdldgefahgojaajDoor.Ev
open Ns
set_option linter.unusedSimpArgs false
set_option linter.unusedVariables false

/-- behind i steps of a log that stops in so many: flows of at most c -/
structure StopS (aft : Int) (i c : Nat) (s : LogS) : Prop where
  caps : s.caps = [5, 7]
  few : ∀ f ∈ s.done, f.length ≤ c
  goes : (i : Int) ≤ aft → s.stopped = false ∧ s.left = aft - i
  stops : aft < i → s.stopped = true
theorem path01 : pathE 2 [0, 1] = 0 := by decide
theorem path1 : pathE 2 [1] = 0 := by decide
theorem stop0 {aft : Int} (h : 0 ≤ aft) : StopS aft 0 0 (failS (log0 [5, 7]) aft) :=
  ⟨rfl, by simp [failS, log0], fun _ => ⟨rfl, by simp [failS]⟩, fun hh => by simp at hh; omega⟩
theorem StopS.flows {aft : Int} {i c : Nat} {s : LogS} (h : StopS aft i c s) (ho : LogOk s) : s.flows.length ≤ c := h.few _ (flowsL_mem (by have := ho.len; have := ho.pos; omega))
theorem stop_nil {aft : Int} {i c : Nat} {s : LogS} (h : StopS aft i c s) (ho : LogOk s) (hc : c ≤ 5) : addLE s [] = (if aft < i then 6 else 5) ∧ ∀ n, addLS s [] n = s := by
  have hf := h.flows ho
  have e : addF s [] = if aft < i then 6 else 5 := by
    unfold addF
    by_cases hi : aft < i
    · rw [if_pos (h.stops hi), if_pos hi]
    · rw [if_neg (by rw [(h.goes (by omega)).1]; decide), if_neg (by omega), if_neg hi]
      rfl
  have hne : addF s [] ≠ 0 := by rw [e]; split <;> decide
  exact ⟨by rw [addLE, lastE, if_neg hne, e], fun n => by rw [addLS, if_neg hne]⟩
theorem stop_add {aft : Int} {i c : Nat} {s : LogS} (h : StopS aft i c s) (ho : LogOk s) (hc : c ≤ 5) : addLE s [0, 1] = (if (i : Int) < aft then 0 else 6) ∧ ∀ n, StopS aft (i + 1) (c + 1) (addLS s [0, 1] n) := by
  have hf := h.flows ho
  by_cases hi : aft < i
  · have e : addF s [0, 1] = 6 := by unfold addF; rw [if_pos (h.stops hi)]
    refine ⟨by rw [addLE, lastE, e, if_neg (by decide), if_neg (by omega)], fun n => ?_⟩
    rw [addLS, if_neg (by rw [e]; decide)]
    exact ⟨h.caps, fun f hf => Nat.le_succ_of_le (h.few f hf), fun hh => by omega, fun _ => h.stops hi⟩
  · obtain ⟨g1, g2⟩ := h.goes (by omega)
    have e : addF s [0, 1] = 0 := by
      unfold addF
      rw [if_neg (by rw [g1]; decide), if_neg (by omega), h.caps]
      exact path01
    refine ⟨?_, fun n => ?_⟩
    · rw [addLE, lastE, if_pos e]
      by_cases hz : s.left = 0
      · rw [if_pos hz, if_neg (by omega)]
      · rw [if_neg hz, if_pos (by omega)]
    · rw [addLS, if_pos e]
      unfold putS
      by_cases hz : s.left = 0
      · rw [if_pos hz]
        exact ⟨h.caps, fun f hf => Nat.le_succ_of_le (h.few f hf), fun hh => by omega, fun _ => rfl⟩
      · rw [if_neg hz]
        refine ⟨h.caps, fun f hf => ?_, fun hh => ⟨g1, ?_⟩, fun hh => by omega⟩
        · rcases List.mem_append.1 hf with hf | hf
          · exact Nat.le_succ_of_le (h.few f hf)
          · simp at hf; subst hf; simp; omega
        · show (if 0 < s.left then s.left - 1 else s.left) = _
          rw [if_pos (by omega)]; omega
theorem stop_sync {aft : Int} {i c : Nat} {s : LogS} (h : StopS aft i c s) : syncE s = (if (i : Int) < aft then 0 else 6) ∧ StopS aft (i + 1) c (syncS s) := by
  by_cases hi : aft < i
  · have hs := h.stops hi
    refine ⟨by rw [syncE, if_pos hs, if_neg (by omega)], ?_⟩
    rw [syncS, if_pos hs]
    exact ⟨h.caps, h.few, fun hh => by omega, fun _ => hs⟩
  · obtain ⟨g1, g2⟩ := h.goes (by omega)
    have hs : ¬ s.stopped = true := by rw [g1]; decide
    by_cases hz : s.left = 0
    · refine ⟨by rw [syncE, if_neg hs, if_pos hz, if_neg (by omega)], ?_⟩
      rw [syncS, if_neg hs, if_pos hz]
      exact ⟨h.caps, h.few, fun hh => by omega, fun _ => rfl⟩
    · refine ⟨by rw [syncE, if_neg hs, if_neg hz, if_pos (by omega)], ?_⟩
      rw [syncS, if_neg hs, if_neg hz]
      refine ⟨h.caps, h.few, fun hh => ⟨g1, ?_⟩, fun hh => by omega⟩
      show (if 0 < s.left then s.left - 1 else s.left) = _
      rw [if_pos (by omega)]; omega
theorem stop_end {aft : Int} {i c : Nat} {s : LogS} (h : StopS aft i c s) (hi : aft < i) : syncE s = 6 ∧ syncS s = s ∧ dropLE s 0 = 6 ∧ ∀ n, dropLS s 0 n = s := by
  have hs := h.stops hi
  have e : dropF s 0 = 6 := by rw [dropF, if_pos hs]
  exact ⟨by rw [syncE, if_pos hs], by rw [syncS, if_pos hs], by rw [dropLE, lastE, e, if_neg (by decide)], fun n => by rw [dropLS, if_neg (by rw [e]; decide)]⟩
theorem stop_crash {aft : Int} {i c : Nat} {s : LogS} (h : StopS aft i c s) (ho : LogOk s) (hc : c ≤ 5) (keep : Int) : (crashS s keep).flows.length ≤ 5 ∧ addLE (crashS s keep) [1] = 0 ∧ ∀ n, (addLS (crashS s keep) [1] n).flows = (crashS s keep).flows ++ [[1]] ∧ syncE (addLS (crashS s keep) [1] n) = 0 ∧ (syncS (addLS (crashS s keep) [1] n)).flows = (crashS s keep).flows ++ [[1]] ∧ (syncS (addLS (crashS s keep) [1] n)).safe = (syncS (addLS (crashS s keep) [1] n)).bytes := by
  have hfl : (crashS s keep).flows.length ≤ c := by
    have hk := crashS_ok (keep := keep) ho
    have hm : (crashS s keep).flows ∈ (crashS s keep).done := flowsL_mem (by have := hk.len; have := hk.pos; omega)
    exact h.few _ (List.mem_of_mem_take hm)
  have e : addF (crashS s keep) [1] = 0 := by
    unfold addF
    rw [if_neg (by simp [crashS]), if_neg (by omega)]
    show pathE (s.caps.length : Int) [1] = 0
    rw [h.caps]; exact path1
  have hl : ¬ (crashS s keep).left = 0 := by simp [crashS]
  have ea : ∀ n, addLS (crashS s keep) [1] n = { crashS s keep with done := (crashS s keep).done ++ [(crashS s keep).flows ++ [[1]]], marks := (crashS s keep).marks ++ [(crashS s keep).bytes + n], bytes := (crashS s keep).bytes + n, left := -1 } := fun n => by
    rw [addLS, if_pos e, putS, if_neg hl]
    rfl
  refine ⟨by omega, by rw [addLE, lastE, if_pos e, if_neg hl], fun n => ?_⟩
  have e1 : (addLS (crashS s keep) [1] n).flows = (crashS s keep).flows ++ [[1]] := by rw [ea]; exact flowsL_snoc _ _
  have es : syncS (addLS (crashS s keep) [1] n) = { addLS (crashS s keep) [1] n with safe := (addLS (crashS s keep) [1] n).bytes, left := -1 } := by
    rw [ea]; rfl
  refine ⟨e1, by rw [ea]; rfl, ?_, by rw [es]⟩
  rw [es]; exact e1
end Go.Proofs.YtdldgefahgojaajDoor.Ev

/- Rows of cells that a call makes and writes into: what a walk is told of them. -/
namespace Go.Proofs.YtdldgefahgojaajDoor
namespace Fl
open Go.RowKit Ns
set_option linter.unusedSimpArgs false
set_option linter.unusedVariables false

/-- the block g holds these cells, and none of it is frozen -/
def RowAt (w : World) (g : Nat) (T : TypeId) (xs : List Value) : Prop := w.heap[g]? = some (.cells xs.toArray T (0, 0))
theorem RowAt.lt {w : World} {g : Nat} {T : TypeId} {xs : List Value} (h : RowAt w g T xs) : g < w.heap.size := (Array.getElem?_eq_some_iff.1 h).1
theorem RowAt.cell {w : World} {g : Nat} {T : TypeId} {xs : List Value} (h : RowAt w g T xs) {i : Nat} {v : Value} (hi : xs[i]? = some v) : w.cell? ⟨g, i, none⟩ = some v := by
  rw [cell_of_row w g i _ T (0, 0) h]
  simpa using hi
theorem RowAt.frozen {w : World} {g : Nat} {T : TypeId} {xs : List Value} (h : RowAt w g T xs) (i : Nat) : w.frozen? ⟨g, i, none⟩ = false := frozen_of_row w g i _ T h
theorem RowAt.set {w : World} {g : Nat} {T : TypeId} {xs : List Value} (h : RowAt w g T xs) (i : Nat) (v : Value) : RowAt (w.setCell ⟨g, i, none⟩ v) g T (xs.set i v) := by
  unfold RowAt
  rw [heap_setCell_same w g i _ T v h]
  simp
theorem RowAt.later {w w' : World} {g B : Nat} {T : TypeId} {xs : List Value} (hb : Below B w w') (hg : g < B) (h : RowAt w g T xs) : RowAt w' g T xs := by
  unfold RowAt
  rw [hb.block g hg]; exact h
theorem RowAt.other {w : World} {g : Nat} {T : TypeId} {xs : List Value} (h : RowAt w g T xs) {a : Addr} (ha : a.block ≠ g) (v : Value) : RowAt (w.setCell a v) g T xs := by
  unfold RowAt
  rw [Below.heap_setCell w a v g (fun e => ha e.symm)]; exact h
theorem RowAt.alloc {w : World} {g : Nat} {T : TypeId} {xs : List Value} (h : RowAt w g T xs) (o : Obj) : RowAt (w.alloc o) g T xs := h.later (((Below.refl w.heap.size w)).alloc (Nat.le_refl _) o) h.lt
theorem RowAt.new (w : World) (a : Array Value) (T : TypeId) : RowAt (w.alloc (.cells a T (0, 0))) w.heap.size T a.toList := by
  unfold RowAt
  rw [heap_alloc_new]
theorem RowAt.owns {w : World} {base g n size : Nat} {T : TypeId} {xs : List Value} (h : RowAt w g T xs) (hb : base ≤ g) (hl : xs.length = n * size) (hn : n ≤ maxLen) : w.ownsRow base T size (.slice (some ⟨g, 0, none⟩) n n) n xs := by
  refine ⟨hl, .inr ⟨g, n, xs.toArray, rfl, hb, h, Nat.le_refl _, hn, by simp [hl], by simp [← hl]⟩⟩
theorem RowAt.of_owns {w : World} {base g n size : Nat} {T : TypeId} {xs : List Value} (h : w.ownsRow base T size (.slice (some ⟨g, 0, none⟩) n n) n xs) : RowAt w g T xs := by
  obtain ⟨h0, h⟩ := h
  rcases h with ⟨e, _⟩ | ⟨g', cap, cur, e, hb, hg, hc, hm, hs, ht⟩
  · cases e
  · simp only [Value.slice.injEq, Option.some.injEq, Addr.mk.injEq, and_true, true_and] at e
    obtain ⟨rfl, rfl⟩ := e
    unfold RowAt
    rw [hg]
    have : cur.toList = xs := by
      have : cur.toList.take (n * size) = cur.toList := List.take_of_length_le (by simp [hs])
      rw [← this]; exact ht
    rw [← this]
/-- the cells of a row of three -/
theorem RowAt.three {w : World} {g : Nat} {T : TypeId} {a b c : Value} (h : RowAt w g T [a, b, c]) : w.cell? ⟨g, 0, none⟩ = some a ∧ w.cell? ⟨g, 1, none⟩ = some b ∧ w.cell? ⟨g, 2, none⟩ = some c ∧ w.frozen? ⟨g, 0, none⟩ = false ∧ w.frozen? ⟨g, 1, none⟩ = false ∧ w.frozen? ⟨g, 2, none⟩ = false ∧ g < w.heap.size :=
  ⟨h.cell rfl, h.cell rfl, h.cell rfl, h.frozen 0, h.frozen 1, h.frozen 2, h.lt⟩
theorem RowAt.set3 {w : World} {g : Nat} {T : TypeId} {a b c : Value} (h : RowAt w g T [a, b, c]) (x y z : Value) : RowAt (((w.setCell ⟨g, 0, none⟩ x).setCell ⟨g, 1, none⟩ y).setCell ⟨g, 2, none⟩ z) g T [x, y, z] := ((h.set 0 x).set 1 y).set 2 z
theorem RowAt.four {w : World} {g : Nat} {T : TypeId} {a b c d : Value} (h : RowAt w g T [a, b, c, d]) : w.cell? ⟨g, 0, none⟩ = some a ∧ w.cell? ⟨g, 1, none⟩ = some b ∧ w.cell? ⟨g, 2, none⟩ = some c ∧ w.cell? ⟨g, 3, none⟩ = some d ∧ w.frozen? ⟨g, 0, none⟩ = false ∧ w.frozen? ⟨g, 1, none⟩ = false ∧ w.frozen? ⟨g, 2, none⟩ = false ∧ w.frozen? ⟨g, 3, none⟩ = false ∧ g < w.heap.size :=
  ⟨h.cell rfl, h.cell rfl, h.cell rfl, h.cell rfl, h.frozen 0, h.frozen 1, h.frozen 2, h.frozen 3, h.lt⟩
theorem RowAt.put4 {w : World} {g : Nat} {T : TypeId} {a b c d : Value} (h : RowAt w g T [a, b, c, d]) (x y z u : Value) : RowAt ((((w.setCell ⟨g, 0, none⟩ x).setCell ⟨g, 1, none⟩ y).setCell ⟨g, 2, none⟩ z).setCell ⟨g, 3, none⟩ u) g T [x, y, z, u] := (((h.set 0 x).set 1 y).set 2 z).set 3 u
theorem row_made (w : World) (a : Array Value) (T : TypeId) (g : Nat) (xs : List Value) (hg : g = w.heap.size) (hx : a.toList = xs) : RowAt (w.alloc (.cells a T (0, 0))) g T xs := by
  rw [hg, ← hx]; exact RowAt.new w a T
theorem new1 (w : World) (x : Value) (T : TypeId) (g : Nat) (hg : g = w.heap.size) : ∀ j u, [x][j]? = some u → (w.alloc (.cells #[x] T)).cell? ((⟨g, 0, none⟩ : Addr).add j) = some u := by
  intro j u hj
  subst hg
  match j, hj with
  | 0, hj => simp at hj; subst hj; simp [Addr.add]
theorem own_keeps {w w' : World} {base : Nat} {e : TypeId} {size n : Nat} {v : Value} {xs : List Value} (hk : ∀ g, base ≤ g → g < w.heap.size → w'.heap[g]? = w.heap[g]?) (h : w.ownsRow base e size v n xs) : w'.ownsRow base e size v n xs := by
  obtain ⟨h0, h⟩ := h
  refine ⟨h0, ?_⟩
  rcases h with h | ⟨g, cap, cur, e1, hb, hg, hr⟩
  · exact .inl h
  · exact .inr ⟨g, cap, cur, e1, hb, by rw [hk g hb (Array.getElem?_eq_some_iff.1 hg).1]; exact hg, hr⟩
theorem stay_set (w : World) (g i k : Nat) (x : Value) (h : k ≠ g) : (w.setCell ⟨g, i, none⟩ x).heap[k]? = w.heap[k]? := Below.heap_setCell w ⟨g, i, none⟩ x k h
theorem own_slice {w : World} {base n size : Nat} {e : TypeId} {v : Value} {xs : List Value} (h : w.ownsRow base e size v n xs) : ∃ a c, v = .slice a n c := by
  rcases h.2 with ⟨rfl, h0⟩ | ⟨g, cap, cur, rfl, _⟩
  · exact ⟨none, 0, by rw [h0]⟩
  · exact ⟨_, _, rfl⟩
theorem grew1 {B : Nat} {W wg : World} {o1 : Obj} {k : Option Nat} (hs : B ≤ W.heap.size) (hg : (W.alloc o1).grownBy wg k) (hk : ∀ j, k = some j → B ≤ j) : Below B W wg :=
  ((Below.refl B W).alloc hs o1).grown hg (by simp; omega) hk
theorem owns_shape {w : World} {base n size : Nat} {e : TypeId} {v : Value} {xs : List Value} (h : w.ownsRow base e size v n xs) : ∃ a c, v = .slice a n c := by
  rcases h.2 with ⟨rfl, h0⟩ | ⟨g, cap, cur, rfl, _⟩
  · exact ⟨none, 0, by rw [h0]⟩
  · exact ⟨_, _, rfl⟩
def bestZ (o : Option (Int × Int)) : Int × Int := o.getD (0, 0)
end Fl
end Go.Proofs.YtdldgefahgojaajDoor

/- Short lists that a law writes out, and a log beside them. -/
namespace Go.Proofs.YtdldgefahgojaajDoor
namespace Ev
open Go.RowKit Fr Ns Fl
set_option linter.unusedSimpArgs false
set_option linter.unusedVariables false

theorem lit_ints (u : World) (l : List Int) (A : Array Value) (hA : A.toList = l.map (Value.int .i64)) (n : Nat) (hn : n = l.length) (hl : l.length ≤ 6) : IntsAt (fun b => u.heap.size ≤ b) (u.alloc (.cells A 3)) (.slice (some ⟨u.heap.size, 0, none⟩) n n) l := by
  subst hn
  have hr : RowAt (u.alloc (.cells A 3)) u.heap.size 3 (l.map (Value.int .i64)) := row_made u A 3 u.heap.size _ rfl hA
  refine ⟨_, l.length, rfl, ⟨Nat.le_refl _, by omega⟩, .inr ⟨u.heap.size, 0, rfl, fun i hi => ?_, Nat.le_refl _⟩⟩
  rw [Nat.zero_add]
  exact hr.cell (by simp [List.getD, List.getElem?_eq_getElem hi])
theorem nil_intsL {Q : Nat → Prop} (u : World) : IntsAt Q u (.slice none 0 0) [] := ⟨none, 0, rfl, ⟨Nat.le_refl _, by simp⟩, .inl rfl⟩
theorem LogAt.few {X : LogFace} {w u : World} {a : Addr} {m : Nat} {s : LogS} (h : LogAt X w a m s u) : s.marks.length ≤ m := h.choose_spec.2.2.1
theorem LogAt.to {X : LogFace} {w u : World} {a : Addr} {m m' : Nat} {s : LogS} (h : LogAt X w a m s u) (hm : s.marks.length ≤ m') : LogAt X w a m' s u := by
  obtain ⟨F, h1, h2, h3, h4, h5⟩ := h
  exact ⟨F, h1, h2, hm, h4, h5⟩
end Ev
end Go.Proofs.YtdldgefahgojaajDoor

/- Contracts of errors.As at an api.Errno, of plain.Told, and of fairsame.Error. After the kit's worked text on errors.As (Toyas), turned to a target of an integer type. -/
namespace Go.Proofs.YtdldgefahgojaajDoor
namespace Fr
open Go.RowKit Go.Extern.Stop Go.Stop Go.Extern
set_option linter.unusedSimpArgs false
set_option linter.unusedVariables false

/-- what package errors' variable errorType holds -/
def handleV : Value := .iface 149 (.agg #[.pointer (some ⟨1, 28, none⟩)])

theorem valueOfT (t : Addr) (w : World) : (ReflectliteValue.unpack (.iface 121 (.pointer (some t)))).run Tryd.prog w
    = .ok (.agg #[.pointer (some ⟨1, 121, none⟩), .pointer (some ⟨w.heap.size, 0, none⟩), .int .u64 150]) (w.alloc (.cells #[.pointer (some t)] 121)) := by kernel_rfl
theorem typeT (a : Addr) (w : World) : (ReflectliteValue.methodAny (ReflectliteValue.valueError "reflectlite.Value.Type" 0) (fun t _ _ _ => ReflectliteType.toType t) #[.agg #[.pointer (some ⟨1, 121, none⟩), .pointer (some a), .int .u64 150]]).run Tryd.prog w
    = .ok (.iface 149 (.agg #[.pointer (some ⟨1, 121, none⟩)])) w := by kernel_rfl
theorem methodKind (h : Value) (w : World) : (Go.method 318 149 (.agg #[h]) "Kind").run Tryd.prog w = .ok (132, h) w := by kernel_rfl
theorem kindT (w : World) : ((ReflectliteType.abiMethod fun t => Functor.map (fun a : Nat => Value.int IntKind.u8 (a : Int)) (Rtype.kind t)) #[.pointer (some ⟨1, 121, none⟩)]).run Tryd.prog w = .ok (.int .u8 22) w := by kernel_rfl
theorem kindE (w : World) : ((ReflectliteType.abiMethod fun t => Functor.map (fun a : Nat => Value.int IntKind.u8 (a : Int)) (Rtype.kind t)) #[.pointer (some ⟨1, 80, none⟩)]).run Tryd.prog w = .ok (.int .u8 2) w := by kernel_rfl

/-- a method of a Value first takes the Value apart -/
theorem method_shape (z : Sem Value) (f : TypeId → Addr → Nat → Nat → Sem Value) : ∃ g : Option (TypeId × Addr × Nat) → Sem Value,
    (∀ v, ReflectliteValue.method z f #[v] = (ReflectliteValue.parts v >>= g)) ∧ ∀ t a fl, g (some (t, a, fl)) = f t a fl (fl % 32) :=
  ⟨_, fun _ => rfl, fun _ _ _ => rfl⟩
theorem partsT (a : Addr) (w : World) : (ReflectliteValue.parts (.agg #[.pointer (some ⟨1, 121, none⟩), .pointer (some a), .int .u64 150])).run Tryd.prog w = .ok (some (121, a, 150)) w := by kernel_rfl
theorem isNilT (a p : Addr) (W : World) (ha : W.cell? a = some (.pointer (some p))) :
    (ReflectliteValue.method (ReflectliteValue.valueError "reflectlite.Value.IsNil" 0) ReflectliteValue.isNil #[.agg #[.pointer (some ⟨1, 121, none⟩), .pointer (some a), .int .u64 150]]).run Tryd.prog W = .ok (.bool false) W := by
  obtain ⟨g, h1, h2⟩ := method_shape _ _
  rw [h1]
  simp only [Sem.run_bind, partsT, Result.andThen, h2]
  simp [ReflectliteValue.isNil, loadVar, isAgg, underlying, Tryd.underlying121, ha, Result.andThen]

theorem methodElem (h : Value) (w : World) : (Go.method 318 149 (.agg #[h]) "Elem").run Tryd.prog w = .ok (142, .agg #[h]) w := by kernel_rfl
theorem methodImplements (h : Value) (w : World) : (Go.method 318 149 (.agg #[h]) "Implements").run Tryd.prog w = .ok (143, .agg #[h]) w := by kernel_rfl
theorem methodAssignableTo (h : Value) (w : World) : (Go.method 318 149 (.agg #[h]) "AssignableTo").run Tryd.prog w = .ok (140, .agg #[h]) w := by kernel_rfl
theorem elemT (w : World) : (ReflectliteType.method ReflectliteType.elem #[.agg #[.pointer (some ⟨1, 121, none⟩)]]).run Tryd.prog w = .ok (.iface 149 (.agg #[.pointer (some ⟨1, 80, none⟩)])) w := by kernel_rfl
theorem implementsE (w : World) : (ReflectliteType.relation "Implements" ReflectliteType.implements_ #[.agg #[.pointer (some ⟨1, 80, none⟩)], .iface 149 (.agg #[.pointer (some ⟨1, 28, none⟩)])]).run Tryd.prog w = .ok (.bool true) w := by kernel_rfl
theorem typeOfE (v : Value) (w : World) : (ReflectliteType.typeOf #[.iface 80 v]).run Tryd.prog w = .ok (.iface 149 (.agg #[.pointer (some ⟨1, 80, none⟩)])) w := by kernel_rfl
theorem assignableE (w : World) : (ReflectliteType.relation "AssignableTo" ReflectliteType.assignableTo #[.agg #[.pointer (some ⟨1, 80, none⟩)], .iface 149 (.agg #[.pointer (some ⟨1, 80, none⟩)])]).run Tryd.prog w = .ok (.bool true) w := by kernel_rfl
theorem valueOfE (k : Int) (w : World) : (ReflectliteValue.unpack (.iface 80 (.int .i64 k))).run Tryd.prog w
    = .ok (.agg #[.pointer (some ⟨1, 80, none⟩), .pointer (some ⟨w.heap.size, 0, none⟩), .int .u64 130]) (w.alloc (.cells #[.int .i64 k] 80)) := by kernel_rfl

theorem elemOfT (w : World) : (Rtype.elem? 121).run Tryd.prog w = .ok (some 80) w := by kernel_rfl
theorem mkE (p : Addr) (w : World) : (ReflectliteValue.mk 80 p ReflectliteValue.flagAddr).run Tryd.prog w = .ok (.agg #[.pointer (some ⟨1, 80, none⟩), .pointer (some p), .int .u64 386]) w := by kernel_rfl
theorem elemVT (a p : Addr) (W : World) (ha : W.cell? a = some (.pointer (some p))) :
    (ReflectliteValue.method (ReflectliteValue.valueError "reflectlite.Value.Elem" 0) ReflectliteValue.elem #[.agg #[.pointer (some ⟨1, 121, none⟩), .pointer (some a), .int .u64 150]]).run Tryd.prog W
      = .ok (.agg #[.pointer (some ⟨1, 80, none⟩), .pointer (some p), .int .u64 386]) W := by
  obtain ⟨g, h1, h2⟩ := method_shape _ _
  rw [h1]
  simp only [Sem.run_bind, partsT, Result.andThen, h2]
  simp [ReflectliteValue.elem, loadVar, isAgg, underlying, Tryd.underlying121, ha, Result.andThen, elemOfT, mkE]
theorem partsEa (a : Addr) (w : World) : (ReflectliteValue.parts (.agg #[.pointer (some ⟨1, 80, none⟩), .pointer (some a), .int .u64 386])).run Tryd.prog w = .ok (some (80, a, 386)) w := by kernel_rfl
theorem partsE (a : Addr) (w : World) : (ReflectliteValue.parts (.agg #[.pointer (some ⟨1, 80, none⟩), .pointer (some a), .int .u64 130])).run Tryd.prog w = .ok (some (80, a, 130)) w := by kernel_rfl
theorem directE (w : World) : (Rtype.directlyAssignable 80 80).run Tryd.prog w = .ok true w := by kernel_rfl
/-- of two Values of api.Errno, the first one addressable: what the second one holds is read, whether it may be assigned is asked, then it is stored -/
theorem set_shape : ∃ (g : Option (TypeId × Addr × Nat) → Option (TypeId × Addr × Nat) → Sem Value) (h : Addr → Value → Bool → Sem Value),
    (∀ v x, ReflectliteValue.set #[v, x] = (ReflectliteValue.parts v >>= fun p => ReflectliteValue.parts x >>= fun q => g p q)) ∧
    (∀ a b, g (some (80, a, 386)) (some (80, b, 130)) = (loadVar 80 b >>= fun val => Rtype.directlyAssignable 80 80 >>= fun d => h a val d)) ∧
    ∀ a val, h a val true = (storeVar 80 a val >>= fun _ => pure (.tuple #[])) :=
  ⟨_, _, fun _ _ => rfl, fun _ _ => rfl, fun _ _ => rfl⟩
theorem setE (ta b : Addr) (k : Int) (old : Value) (W : World) (hb : W.cell? b = some (.int .i64 k)) (ht : W.cell? ta = some old) (hf : W.frozen? ta = false) :
    (ReflectliteValue.set #[.agg #[.pointer (some ⟨1, 80, none⟩), .pointer (some ta), .int .u64 386], .agg #[.pointer (some ⟨1, 80, none⟩), .pointer (some b), .int .u64 130]]).run Tryd.prog W
      = .ok (.tuple #[]) (W.setCell ta (.int .i64 k)) := by
  obtain ⟨g, h, h1, h2, h3⟩ := set_shape
  rw [h1]
  simp only [Sem.run_bind, partsEa, partsE, Result.andThen, h2]
  simp [loadVar, isAgg, underlying, Tryd.underlying80, hb, Result.andThen, directE, h3, storeVar, Value.cells, storeCells, Addr.add]
  rw [run_store Tryd.prog W ta _ _ (by rfl)]
  simp [ht, hf]
end Fr
end Go.Proofs.YtdldgefahgojaajDoor

/- The records of the landed log: what bytes an Add and a Drop write down, and what is found among them again. No Go in it. -/
namespace Go.Proofs.YtdldgefahgojaajDoor.Ev
open Ns
set_option linter.unusedSimpArgs false
set_option linter.unusedVariables false

/-- a record: its first byte tells how many are behind it (0: one) -/
def RecR (r : List Nat) : Prop := 2 ≤ r.length ∧ r.length = 1 + max (r.getD 0 0) 1 ∧ r.length ≤ 7 ∧ ∀ x ∈ r, x ≤ 255
/-- what a record makes of the flows -/
def stepR (f : Flows) (r : List Nat) : Flows := if r.getD 0 0 = 0 then lessF f (r.getD 1 0 : Nat) else f ++ [(r.drop 1).map fun (x : Nat) => (x : Int)]
def doneR (f : Flows) : List (List Nat) → List Flows
  | [] => [f]
  | r :: rs => f :: doneR (stepR f r) rs
def marksR (p : Nat) : List (List Nat) → List Nat
  | [] => [p]
  | r :: rs => p :: marksR (p + r.length) rs
/-- a record may stand behind these flows -/
def MayR (f : Flows) (r : List Nat) : Prop := RecR r ∧ (r.getD 0 0 = 0 → r.getD 1 0 < f.length) ∧ (r.getD 0 0 ≠ 0 → f.length < 6)
def AllR (f : Flows) : List (List Nat) → Prop
  | [] => True
  | r :: rs => MayR f r ∧ AllR (stepR f r) rs

theorem doneR_len (rs : List (List Nat)) : ∀ f, (doneR f rs).length = rs.length + 1 := by
  induction rs with
  | nil => intro f; rfl
  | cons r rs ih => intro f; simp [doneR, ih]
theorem marksR_len (rs : List (List Nat)) : ∀ p, (marksR p rs).length = rs.length + 1 := by
  induction rs with
  | nil => intro f; rfl
  | cons r rs ih => intro f; simp [marksR, ih]
theorem getD_cons_succ' {α : Type} (x d : α) (l : List α) (k : Nat) : (x :: l).getD (k + 1) d = l.getD k d := by simp [List.getD]
theorem flowsL_cons (f : Flows) (d : List Flows) (h : 0 < d.length) : flowsL (f :: d) = flowsL d := by
  unfold flowsL
  rw [List.length_cons, show d.length + 1 - 1 = (d.length - 1) + 1 by omega, getD_cons_succ']
theorem topM_cons (p : Nat) (m : List Nat) (h : 0 < m.length) : topM (p :: m) = topM m := by
  unfold topM
  rw [List.length_cons, show m.length + 1 - 1 = (m.length - 1) + 1 by omega, getD_cons_succ']
theorem doneR_snoc (rs : List (List Nat)) (r : List Nat) : ∀ f, doneR f (rs ++ [r]) = doneR f rs ++ [stepR (flowsL (doneR f rs)) r] := by
  induction rs with
  | nil => intro f; rfl
  | cons x rs ih =>
    intro f
    simp only [List.cons_append, doneR, ih]
    rw [flowsL_cons _ _ (by rw [doneR_len]; omega)]
theorem marksR_snoc (rs : List (List Nat)) (r : List Nat) : ∀ p, marksR p (rs ++ [r]) = marksR p rs ++ [topM (marksR p rs) + r.length] := by
  induction rs with
  | nil => intro f; rfl
  | cons x rs ih =>
    intro p
    simp only [List.cons_append, marksR, ih]
    rw [topM_cons _ _ (by rw [marksR_len]; omega)]
theorem allR_snoc (rs : List (List Nat)) (r : List Nat) : ∀ f, AllR f rs → MayR (flowsL (doneR f rs)) r → AllR f (rs ++ [r]) := by
  induction rs with
  | nil => intro f _ h; exact ⟨h, trivial⟩
  | cons x rs ih =>
    intro f h hm
    refine ⟨h.1, ih _ h.2 ?_⟩
    rw [doneR, flowsL_cons _ _ (by rw [doneR_len]; omega)] at hm
    exact hm
theorem doneR_take (rs : List (List Nat)) : ∀ f k, (doneR f rs).take (k + 1) = doneR f (rs.take k) := by
  induction rs with
  | nil => intro f k; cases k <;> simp [doneR]
  | cons r rs ih =>
    intro f k
    cases k with
    | zero => simp [doneR]
    | succ k => simp only [doneR, List.take_succ_cons, ih]
theorem marksR_take (rs : List (List Nat)) : ∀ p k, (marksR p rs).take (k + 1) = marksR p (rs.take k) := by
  induction rs with
  | nil => intro f k; cases k <;> simp [marksR]
  | cons r rs ih =>
    intro f k
    cases k with
    | zero => simp [marksR]
    | succ k => simp only [marksR, List.take_succ_cons, ih]
theorem allR_take (rs : List (List Nat)) : ∀ f k, AllR f rs → AllR f (rs.take k) := by
  induction rs with
  | nil => intro f k _; cases k <;> exact trivial
  | cons r rs ih =>
    intro f k h
    cases k with
    | zero => exact trivial
    | succ k => exact ⟨h.1, ih _ _ h.2⟩
theorem marksR_at (rs : List (List Nat)) : ∀ p k, k ≤ rs.length → (marksR p rs).getD k 0 = p + (rs.take k).flatten.length := by
  induction rs with
  | nil => intro p k h; simp at h; subst h; simp [marksR]
  | cons r rs ih =>
    intro p k h
    cases k with
    | zero => simp [marksR]
    | succ k =>
      rw [marksR, getD_cons_succ', ih _ _ (by simpa using h)]
      simp only [List.take_succ_cons, List.flatten_cons, List.length_append]
      omega
theorem doneR_at (rs : List (List Nat)) : ∀ f k, k < rs.length → (doneR f rs).getD (k + 1) [] = stepR ((doneR f rs).getD k []) (rs.getD k []) := by
  induction rs with
  | nil => intro f k h; simp at h
  | cons r rs ih =>
    intro f k h
    cases k with
    | zero => cases rs <;> simp [doneR]
    | succ k =>
      rw [doneR, getD_cons_succ', getD_cons_succ', getD_cons_succ', ih _ _ (by simpa using h)]
theorem allR_at (rs : List (List Nat)) : ∀ f k, k < rs.length → AllR f rs → MayR ((doneR f rs).getD k []) (rs.getD k []) := by
  induction rs with
  | nil => intro f k h; simp at h
  | cons r rs ih =>
    intro f k h ha
    cases k with
    | zero => simpa [doneR] using ha.1
    | succ k =>
      rw [doneR, getD_cons_succ', getD_cons_succ']
      exact ih _ _ (by simpa using h) ha.2
theorem topM_marks (rs : List (List Nat)) : topM (marksR 0 rs) = rs.flatten.length := by
  unfold topM
  rw [marksR_len, Nat.add_sub_cancel, marksR_at _ _ _ (Nat.le_refl _), List.take_length, Nat.zero_add]

/-- how the bytes B are those of a log: its records, and behind them what is there of one at which it stopped -/
structure BytesR (s : LogS) (B : List Nat) (rs : List (List Nat)) (half : List Nat) : Prop where
  all : AllR [] rs
  done : s.done = doneR [] rs
  marks : s.marks = marksR 0 rs
  bytes : B = rs.flatten ++ half
  torn : half = [] ∨ ∃ r, RecR r ∧ half = r.take (r.length / 2)
  small : ∀ x ∈ B, x ≤ 255

/-- where record k begins -/
def posR (rs : List (List Nat)) (k : Nat) : Nat := (rs.take k).flatten.length
theorem posR_0 (rs : List (List Nat)) : posR rs 0 = 0 := by simp [posR]
theorem posR_step (rs : List (List Nat)) (k : Nat) (h : k < rs.length) : posR rs (k + 1) = posR rs k + (rs.getD k []).length := by
  unfold posR
  have e : rs.take (k + 1) = rs.take k ++ [rs.getD k []] := by rw [List.take_add_one, List.getElem?_eq_getElem h]; simp [List.getD, List.getElem?_eq_getElem h]
  rw [e, List.flatten_append, List.length_append, List.flatten_singleton]
theorem posR_all (rs : List (List Nat)) (k : Nat) (h : rs.length ≤ k) : posR rs k = rs.flatten.length := by unfold posR; rw [List.take_of_length_le h]
theorem posR_mono (rs : List (List Nat)) : ∀ k j, k ≤ j → posR rs k ≤ posR rs j := by
  intro k j h
  induction j with
  | zero => obtain rfl : k = 0 := by omega
            exact Nat.le_refl _
  | succ j ih =>
    by_cases e : k = j + 1
    · subst e; exact Nat.le_refl _
    · have h1 := ih (by omega)
      by_cases hj : j < rs.length
      · rw [posR_step rs j hj]; omega
      · rw [posR_all rs (j + 1) (by omega)]
        rw [posR_all rs j (by omega)] at h1
        exact h1
/-- a byte of record k -/
theorem at_rec {rs : List (List Nat)} {half : List Nat} {k i : Nat} (hk : k < rs.length) (hi : i < (rs.getD k []).length) : (rs.flatten ++ half).getD (posR rs k + i) 0 = (rs.getD k []).getD i 0 := by
  have e : rs.flatten = (rs.take k).flatten ++ ((rs.getD k []) ++ (rs.drop (k + 1)).flatten) := by
    conv => lhs; rw [← List.take_append_drop k rs]
    rw [List.flatten_append]
    congr 1
    rw [List.drop_eq_getElem_cons hk, List.flatten_cons]
    simp [List.getD, List.getElem?_eq_getElem hk]
  rw [e, List.append_assoc, List.getD, List.getElem?_append_right (by unfold posR; omega)]
  rw [show posR rs k + i - (rs.take k).flatten.length = i by unfold posR; omega, List.append_assoc, List.getElem?_append_left hi]
  rfl
theorem at_half {rs : List (List Nat)} {half : List Nat} {i : Nat} : (rs.flatten ++ half).getD (posR rs rs.length + i) 0 = half.getD i 0 := by
  rw [posR_all rs _ (Nat.le_refl _), List.getD, List.getElem?_append_right (by omega), show rs.flatten.length + i - rs.flatten.length = i by omega]
  rfl
theorem leftK_top (m : List Nat) (H : Nat) : ∀ k j, j < k → leftK m H k < j → ¬ m.getD j 0 ≤ H := by
  intro k
  induction k with
  | zero => intro j h; omega
  | succ k ih =>
    intro j h h2
    unfold leftK at h2
    split at h2
    · omega
    · by_cases e : j = k
      · subst e; assumption
      · exact ih j (by omega) h2
/-- what the bytes up to H hold: N whole records, and then none -/
theorem bytes_upto {s : LogS} {B : List Nat} {rs : List (List Nat)} {half : List Nat} (h : BytesR s B rs half) {H : Nat} (hH : H ≤ B.length) :
    ∃ N, N = leftN' s.marks H ∧ N ≤ rs.length ∧ (∀ k, k < N → posR rs (k + 1) = posR rs k + (1 + max (B.getD (posR rs k) 0) 1) ∧ posR rs (k + 1) ≤ H) ∧ posR rs N ≤ H ∧
      (posR rs N < H → H < posR rs N + (1 + max (B.getD (posR rs N) 0) 1)) := by
  refine ⟨leftN' s.marks H, rfl, ?_⟩
  have hm := h.marks
  have hat : ∀ k, k ≤ rs.length → s.marks.getD k 0 = posR rs k := fun k hk => by rw [hm, marksR_at rs 0 k hk, Nat.zero_add]; rfl
  have hlen : s.marks.length = rs.length + 1 := by rw [hm, marksR_len]
  have h0 : s.marks.getD 0 0 ≤ H := by rw [hat 0 (by omega), posR_0]; exact Nat.zero_le _
  have hbd := leftK_bd s.marks H h0 s.marks.length
  have htop := leftK_top s.marks H s.marks.length
  unfold leftN'
  generalize leftK s.marks H s.marks.length = N at hbd htop ⊢
  have hN : N ≤ rs.length := by omega
  have hNH : posR rs N ≤ H := by have := hbd.2; rwa [hat N hN] at this
  have hsz : ∀ k, k < rs.length → posR rs (k + 1) = posR rs k + (1 + max (B.getD (posR rs k) 0) 1) := by
    intro k hk
    have hr := (allR_at rs [] k hk h.all).1
    have e := at_rec (half := half) (i := 0) hk (by have := hr.1; omega)
    rw [← h.bytes, Nat.add_zero] at e
    rw [posR_step rs k hk, e, hr.2.1]
  refine ⟨hN, fun k hk => ⟨hsz k (by omega), Nat.le_trans (posR_mono rs _ _ hk) hNH⟩, hNH, fun hlt => ?_⟩
  by_cases e : N < rs.length
  · have := htop (N + 1) (by omega) (by omega)
    rw [hat (N + 1) (by omega)] at this
    rw [← hsz N e]; omega
  · obtain rfl : N = rs.length := by omega
    have e0 := at_half (rs := rs) (half := half) (i := 0)
    rw [← h.bytes, Nat.add_zero] at e0
    have hB : B.length = posR rs rs.length + half.length := by rw [h.bytes, List.length_append, posR_all rs _ (Nat.le_refl _)]
    rcases h.torn with rfl | ⟨r, hr, rfl⟩
    · simp at hB; omega
    · rw [e0]
      have hl : (r.take (r.length / 2)).length = r.length / 2 := by rw [List.length_take]; omega
      have h2 := hr.1
      have e1 : (r.take (r.length / 2)).getD 0 0 = r.getD 0 0 := getD_take _ _ _ _ (by omega)
      have := hr.2.1
      rw [e1]; omega
/-- a path as a record -/
def addR (p : List Int) : List Nat := p.length :: p.map Int.toNat
def dropR (i : Int) : List Nat := [0, i.toNat]
theorem recR_add {L : Nat} {p : List Int} (hL : L ≤ 6) (hp : pathE L p = 0) (h1 : 1 ≤ p.length) (h6 : p.length ≤ 6) (hb : ∀ x ∈ p, 0 ≤ x ∧ x < L) : RecR (addR p) := by
  refine ⟨by simp [addR]; omega, by simp [addR]; omega, by simp [addR]; omega, fun x hx => ?_⟩
  simp only [addR, List.mem_cons, List.mem_map] at hx
  rcases hx with rfl | ⟨y, hy, rfl⟩
  · omega
  · have := hb y hy; omega
theorem stepR_add {f : Flows} {p : List Int} (h1 : 1 ≤ p.length) (hb : ∀ x ∈ p, 0 ≤ x) : stepR f (addR p) = f ++ [p] := by
  have e0 : (addR p).getD 0 0 = p.length := by simp [addR]
  unfold stepR
  rw [e0, if_neg (by omega)]
  congr 2
  simp only [addR, List.drop_succ_cons, List.drop_zero, List.map_map]
  conv => rhs; rw [← List.map_id p]
  refine List.map_congr_left fun x hx => ?_
  have := hb x hx
  simp only [Function.comp, id]
  omega
theorem recR_drop {i : Int} (h : i < 256) : RecR (dropR i) := by
  refine ⟨by simp [dropR], by simp [dropR], by simp [dropR], fun x hx => ?_⟩
  simp [dropR] at hx
  rcases hx with rfl | rfl <;> omega
theorem stepR_drop {f : Flows} {i : Int} (h : 0 ≤ i) : stepR f (dropR i) = lessF f i := by
  have e0 : (dropR i).getD 0 0 = 0 := rfl
  have e1 : (dropR i).getD 1 0 = i.toNat := rfl
  unfold stepR
  rw [e0, if_pos rfl, e1]
  congr 1
  omega
/-- a record more -/
theorem BytesR.put {s : LogS} {B : List Nat} {rs : List (List Nat)} (h : BytesR s B rs []) {r : List Nat} (hr : MayR s.flows r) (hB : s.bytes = B.length) (hl : s.left ≠ 0) : BytesR (putS s r.length (stepR s.flows r)) (B ++ r) (rs ++ [r]) [] := by
  have hput : putS s r.length (stepR s.flows r) = { s with done := s.done ++ [stepR s.flows r], marks := s.marks ++ [s.bytes + r.length], bytes := s.bytes + r.length, left := if 0 < s.left then s.left - 1 else s.left } := by unfold putS; rw [if_neg hl]
  have hf : s.flows = flowsL (doneR [] rs) := by unfold LogS.flows; rw [h.done]
  have hBl : B.length = rs.flatten.length := by rw [h.bytes]; simp
  rw [hput]
  refine ⟨allR_snoc _ _ _ h.all (hf ▸ hr), ?_, ?_, ?_, .inl rfl, fun x hx => ?_⟩
  · show s.done ++ [stepR s.flows r] = _
    rw [doneR_snoc, h.done, hf]
  · show s.marks ++ [s.bytes + r.length] = _
    rw [marksR_snoc, h.marks, topM_marks, hB, hBl]
  · rw [h.bytes]; simp
  · rcases List.mem_append.1 hx with hx | hx
    · exact h.small x hx
    · exact hr.1.2.2.2 x hx
/-- half of one more -/
theorem BytesR.half {s : LogS} {B : List Nat} {rs : List (List Nat)} (h : BytesR s B rs []) {r : List Nat} (hr : RecR r) (f : Flows) (hl : s.left = 0) : BytesR (putS s r.length f) (B ++ r.take (r.length / 2)) rs (r.take (r.length / 2)) := by
  have hput : putS s r.length f = { s with bytes := s.bytes + r.length / 2, stopped := true } := by unfold putS; rw [if_pos hl]
  rw [hput]
  refine ⟨h.all, h.done, h.marks, ?_, .inr ⟨r, hr, rfl⟩, fun x hx => ?_⟩
  · rw [h.bytes]; simp
  · rcases List.mem_append.1 hx with hx | hx
    · exact h.small x hx
    · exact hr.2.2.2 x (List.mem_of_mem_take hx)
/-- behind a crash -/
theorem BytesR.crash {s : LogS} {B : List Nat} {rs : List (List Nat)} {half : List Nat} (h : BytesR s B rs half) {keep : Int} {N : Nat} (hN : N = leftN' s.marks (highN s keep)) (hl : N ≤ rs.length) : BytesR (crashS s keep) (B.take (posR rs N)) (rs.take N) [] := by
  refine ⟨allR_take _ _ _ h.all, ?_, ?_, ?_, .inl rfl, fun x hx => h.small x (List.mem_of_mem_take hx)⟩
  · show s.done.take (leftN' s.marks (highN s keep) + 1) = _
    rw [← hN, h.done, doneR_take]
  · show s.marks.take (leftN' s.marks (highN s keep) + 1) = _
    rw [← hN, h.marks, marksR_take]
  · have e : rs.flatten = (rs.take N).flatten ++ (rs.drop N).flatten := by rw [← List.flatten_append, List.take_append_drop]
    rw [h.bytes, List.append_nil, e, List.append_assoc]
    exact List.take_left' rfl
end Go.Proofs.YtdldgefahgojaajDoor.Ev

/- Slices of slices of int: rows of them that a call owns. -/
namespace Go.Proofs.YtdldgefahgojaajDoor
namespace Ns
open Go.RowKit
set_option linter.unusedSimpArgs false
set_option linter.unusedVariables false

theorem infoInts : (Tryd.prog.info? 33).map (fun i => (i.zero, i.size, i.bytes)) = some (some (.slice none 0 0), 1, 24) := by kernel_rfl

/-- a row of slices that the call owns is a list of lists -/
theorem lists_of_owns {Q : Nat → Prop} {w : World} {base : Nat} {v : Value} {ll : List (List Int)} {vs : List Value} (hl : ll.length ≤ 9223372036854775807) (hvs : vs.length = ll.length) (h : w.ownsRow base 33 1 v ll.length vs)
    (hi : ∀ i, i < ll.length → IntsAt Q w (vs.getD i undef) (ll.getD i [])) (hQ : ∀ g, base ≤ g → Q g) : ListsAt Q w v ll := by
  have h' := h
  obtain ⟨h0, h⟩ := h
  rcases h with ⟨rfl, h⟩ | ⟨g, cap, cur, rfl, hb, hg, hc, hm, hs, ht⟩
  · have : ll = [] := List.eq_nil_of_length_eq_zero h
    subst this
    exact ⟨none, 0, rfl, ⟨Nat.le_refl _, by simp⟩, .inl rfl⟩
  · refine ⟨_, cap, rfl, ⟨hc, hl⟩, .inr ⟨g, 0, rfl, fun i hi' => ⟨vs.getD i undef, ?_, hi i hi'⟩, hQ g hb⟩⟩
    have := h'.cells (g := g) rfl i (vs.getD i undef) (by simp [List.getD, List.getElem?_eq_getElem (show i < vs.length by omega)])
    rw [add_addr] at this
    exact this

end Ns
end Go.Proofs.YtdldgefahgojaajDoor

/- An append as a step of a region that draws its order, and a list without one of its places. -/
namespace Go.Proofs.YtdldgefahgojaajDoor
namespace Ns
open Go.RowKit
set_option linter.unusedSimpArgs false
set_option linter.unusedVariables false

/-- an append to a row of the call's own, as a step of a region that draws its order -/
theorem step_append_own {P : Program} {ops : Array Oper} {o : Oper} {a : Act} {w : World} {K : Act → World → Prop} {Q : Exit → Act → World → Prop} {E : Prop} (hgd : o.guard = none) (s x : Operand) (t : TypeId)
    (ho : o.op = .call { callee := .builtin .append, args := #[s, x], argTypes := #[t, t] })
    (base : Nat) (e : TypeId) (i : TypeInfo) (z : Value) (size bytes : Nat) (ht : P.underlying t = some (.slice e)) (hi : P.info? e = some i) (hz : i.zero = some z)
    (hsize : i.size = size) (hby : i.bytes = bytes) (hzs : z.cells.size = size) (hsz : 0 < size)
    (v : Value) (n : Nat) (xs : List Value) (hs : a.eval s = v) (hown : w.ownsRow base e size v n xs)
    (ad : Addr) (m c : Nat) (news : List Value) (hx : a.eval x = .slice (some ad) m c) (hl : news.length = m * size) (hnews : ∀ j u, news[j]? = some u → w.cell? (ad.add j) = some u) (h1 : ∀ u ∈ news, u.oneCell' = true)
    (h63 : n + m ≤ maxLen) (hbytes : (n + m) * bytes ≤ 140737488355328) (hbase : base ≤ w.heap.size)
    (h : ∀ a' n' c' w', w'.ownsRow base e size (.slice a' n' c') (n + m) (xs ++ news) → w.grownBy w' v.ownBlock → K (a.put o.dst (.slice a' n' c')) w') :
    if Region.wanted o (yielded ops a.tmps) = true then Oper.wp P o a w K Q else E := by
  have hw : Region.wanted o (yielded ops a.tmps) = true := by simp [Region.wanted, hgd]
  rw [if_pos hw]
  refine wp_append_own w s x t ho base e i z size bytes ht hi hz hsize hby hzs hsz v n xs hs hown ad m c news hx hl hnews h1 h63 hbytes hbase ?_
  intro v' w' h2 h3 _
  obtain ⟨a', n', c', rfl⟩ : ∃ a n c, v' = .slice a n c := by
    rcases h2.2 with ⟨rfl, _⟩ | ⟨g, cap, cur, rfl, _⟩
    · exact ⟨_, _, _, rfl⟩
    · exact ⟨_, _, _, rfl⟩
  exact h a' n' c' w' h2 h3

theorem getD_without {α : Type} (l : List α) (k i : Nat) (hk : k < l.length) (d : α) : (l.take k ++ l.drop (k + 1)).getD i d = l.getD (if i < k then i else i + 1) d := by
  have hl : (l.take k).length = k := by rw [List.length_take]; omega
  by_cases h : i < k
  · rw [if_pos h]
    simp [List.getD, List.getElem?_append_left (show i < (l.take k).length by omega), List.getElem?_take, h]
  · rw [if_neg h]
    simp only [List.getD]
    rw [List.getElem?_append_right (by omega), hl, List.getElem?_drop]
    congr 2
    omega
end Ns
end Go.Proofs.YtdldgefahgojaajDoor

/- The landed log in memory (package log): a struct, the links, a row of bytes, a row of flows; and what a call leaves of it. -/
namespace Go.Proofs.YtdldgefahgojaajDoor
namespace Ev
open Go.RowKit Fr Ns Fl
set_option linter.unusedSimpArgs false
set_option linter.unusedVariables false

theorem infoByte : (Tryd.prog.info? 5).map (fun i => (i.zero, i.size, i.bytes)) = some (some (.int .u8 0), 1, 1) := by kernel_rfl
/-- bytes as cells -/
def u8s (B : List Nat) : List Value := B.map fun (x : Nat) => Value.int .u8 (x : Int)
theorem u8s_length (B : List Nat) : (u8s B).length = B.length := by simp [u8s]
theorem u8s_append (B C : List Nat) : u8s (B ++ C) = u8s B ++ u8s C := by simp [u8s]
theorem u8s_take (B : List Nat) (n : Nat) : u8s (B.take n) = (u8s B).take n := by simp [u8s, List.map_take]
theorem u8s_at {B : List Nat} {k : Nat} (h : k < B.length) : (u8s B)[k]? = some (.int .u8 ((B.getD k 0 : Nat) : Int)) := by simp [u8s, List.getD, List.getElem?_eq_getElem h]
theorem ones_u8 (B : List Nat) : ∀ u ∈ u8s B, u.oneCell' = true := by
  intro u hu
  obtain ⟨x, _, rfl⟩ := List.mem_map.1 hu
  rfl
/-- a row of the thing's own, wherever its block is kept -/
theorem own_keep {w w' : World} {base : Nat} {e : TypeId} {size n : Nat} {v : Value} {xs : List Value} (hk : ∀ g, v.ownBlock = some g → w'.heap[g]? = w.heap[g]?) (h : w.ownsRow base e size v n xs) : w'.ownsRow base e size v n xs := by
  obtain ⟨h0, h⟩ := h
  refine ⟨h0, ?_⟩
  rcases h with h | ⟨g, cap, cur, e1, hb, hg, hr⟩
  · exact .inl h
  · exact .inr ⟨g, cap, cur, e1, hb, by rw [hk g (by rw [e1]; rfl)]; exact hg, hr⟩
theorem own_base {w : World} {base base' : Nat} {e : TypeId} {size n : Nat} {v : Value} {xs : List Value} (hb : ∀ g, v.ownBlock = some g → base' ≤ g) (h : w.ownsRow base e size v n xs) : w.ownsRow base' e size v n xs := by
  obtain ⟨h0, h⟩ := h
  refine ⟨h0, ?_⟩
  rcases h with h | ⟨g, cap, cur, e1, _, hg, hr⟩
  · exact .inl h
  · exact .inr ⟨g, cap, cur, e1, hb g (by rw [e1]; rfl), hg, hr⟩
theorem own_lt {w : World} {base : Nat} {e : TypeId} {size n g : Nat} {v : Value} {xs : List Value} (h : w.ownsRow base e size v n xs) (hg : v.ownBlock = some g) : base ≤ g ∧ g < w.heap.size ∧ ∃ cur, w.heap[g]? = some (.cells cur e (0, 0)) := by
  rcases h.2 with ⟨rfl, _⟩ | ⟨g', cap, cur, e1, hb, hg', _⟩
  · simp [Value.ownBlock] at hg
  · rw [e1] at hg
    simp [Value.ownBlock] at hg
    subst hg
    exact ⟨hb, (Array.getElem?_eq_some_iff.1 hg').1, _, hg'⟩
theorem own_ne {w : World} {base base' : Nat} {e e' : TypeId} {size n size' n' g : Nat} {v v' : Value} {xs xs' : List Value} (h : w.ownsRow base e size v n xs) (h' : w.ownsRow base' e' size' v' n' xs') (hne : e ≠ e') (hg : v.ownBlock = some g) : v'.ownBlock ≠ some g := by
  intro hg'
  obtain ⟨_, _, c1, h1⟩ := own_lt h hg
  obtain ⟨_, _, c2, h2⟩ := own_lt h' hg'
  rw [h1] at h2
  simp at h2
  exact hne h2.2
theorem own_row {w : World} {base : Nat} {e T : TypeId} {size n g : Nat} {v : Value} {xs ys : List Value} (h : w.ownsRow base e size v n xs) (hr : RowAt w g T ys) (hne : e ≠ T) : v.ownBlock ≠ some g := by
  intro hg
  obtain ⟨_, _, c1, h1⟩ := own_lt h hg
  unfold RowAt at hr
  rw [h1] at hr
  simp at hr
  exact hne hr.2
/-- the first of a row's cells -/
theorem own_take {w : World} {base : Nat} {e : TypeId} {n m cap : Nat} {a : Option Addr} {xs : List Value} (h : w.ownsRow base e 1 (.slice a n cap) n xs) (hm : m ≤ n) : w.ownsRow base e 1 (.slice a m cap) m (xs.take m) := by
  obtain ⟨h0, h⟩ := h
  refine ⟨by rw [List.length_take]; omega, ?_⟩
  rcases h with ⟨e1, h1⟩ | ⟨g, cap', cur, e1, hb, hg, hc, hx, hs, ht⟩
  · simp only [Value.slice.injEq] at e1
    obtain ⟨rfl, rfl, rfl⟩ := e1
    exact .inl ⟨by rw [show m = 0 by omega], by omega⟩
  · simp only [Value.slice.injEq] at e1
    obtain ⟨rfl, -, rfl⟩ := e1
    refine .inr ⟨g, cap, cur, rfl, hb, hg, by omega, hx, hs, ?_⟩
    rw [← ht, List.take_take, Nat.min_eq_left (by omega), Nat.mul_one]
theorem own_cell {w : World} {base : Nat} {e : TypeId} {n cap : Nat} {a : Option Addr} {xs : List Value} (h : w.ownsRow base e 1 (.slice a n cap) n xs) : (n = 0 ∧ cap = 0 ∧ a = none) ∨ ∃ g, a = some ⟨g, 0, none⟩ ∧ n ≤ cap ∧ cap ≤ maxLen ∧ (∀ i, w.frozen? ⟨g, i, none⟩ = false) ∧ ∀ k x, xs[k]? = some x → w.cell? ⟨g, k, none⟩ = some x := by
  have h' := h
  rcases h.2 with ⟨e1, h1⟩ | ⟨g, cap', cur, e1, hb, hg, hc, hx, hs, ht⟩
  · simp only [Value.slice.injEq] at e1
    obtain ⟨rfl, -, rfl⟩ := e1
    exact .inl ⟨h1, rfl, rfl⟩
  · simp only [Value.slice.injEq] at e1
    obtain ⟨rfl, -, rfl⟩ := e1
    refine .inr ⟨g, rfl, hc, hx, fun i => frozen_of_row w g i _ e hg, fun k x hk => ?_⟩
    have := h'.cells (g := g) rfl k x hk
    rw [add_addr, Nat.zero_add] at this
    exact this

/-- flows in a row of the thing's own; their lists lie in other blocks of Q -/
structure OwnLs (w : World) (Q : Nat → Prop) (v : Value) (f : Flows) (ws : List Value) : Prop where
  row : w.ownsRow 0 33 1 v f.length ws
  each : ∀ i, i < f.length → IntsAt (fun b => Q b ∧ v.ownBlock ≠ some b) w (ws.getD i undef) (f.getD i [])
  own : ∀ b, v.ownBlock = some b → Q b
def newQ (Q : Nat → Prop) (w w' : World) (b : Nat) : Prop := Q b ∨ (w.heap.size ≤ b ∧ b < w'.heap.size)
theorem OwnLs.keep {w w' : World} {Q R : Nat → Prop} {v : Value} {f : Flows} {ws : List Value} (h : OwnLs w Q v f ws) (hk : ∀ b, Q b → b < w.heap.size → w'.heap[b]? = w.heap[b]?) (hR : ∀ b, Q b → b < w.heap.size → R b) : OwnLs w' R v f ws :=
  ⟨own_keep (fun b hb => hk b (h.own b hb) (own_lt h.row hb).2.1) h.row, fun i hi => (h.each i hi).keep (fun b hb hl => hk b hb.1 hl) (fun b hb hl => ⟨hR b hb.1 hl, hb.2⟩), fun b hb => hR b (h.own b hb) (own_lt h.row hb).2.1⟩
theorem OwnLs.nil (w : World) (Q : Nat → Prop) : OwnLs w Q (.slice none 0 0) [] [] :=
  ⟨World.ownsRow_nil _ _ _ _, fun i hi => by simp at hi, fun b hb => by simp [Value.ownBlock] at hb⟩
/-- as a list of lists -/
theorem OwnLs.lists {w : World} {Q : Nat → Prop} {v : Value} {f : Flows} {ws : List Value} (h : OwnLs w Q v f ws) (hl : f.length ≤ 1000) : ListsAt (fun _ => True) w v f := by
  have hwl : ws.length = f.length := by have := h.row.1; omega
  exact lists_of_owns (by omega) hwl h.row (fun i hi => (h.each i hi).keep (fun _ _ _ => rfl) (fun _ _ _ => trivial)) (fun _ _ => trivial)
/-- only one block has changed -/
def Only (g : Nat) (w w' : World) : Prop := Below 0 w w' ∧ ∀ b, b ≠ g → w'.heap[b]? = w.heap[b]?
/-- the blocks of a log behind a call -/
def Fn (F : Nat → Prop) (w w' : World) (b : Nat) : Prop := F b ∨ (w.heap.size ≤ b ∧ b < w'.heap.size)
/-- the log's blocks without its struct and its bytes -/
def Qo (F : Nat → Prop) (g : Nat) (bv : Value) (b : Nat) : Prop := F b ∧ b ≠ g ∧ bv.ownBlock ≠ some b
/-- the landed log's memory: the struct at the block g, the links, a row of bytes, a row of flows -/
structure LgMem (w : World) (g : Nat) (F : Nat → Prop) (cv bv fv : Value) (caps : List Int) (sf : Nat) (lf : Int) (st : Bool) (B : List Nat) (f : Flows) (ws : List Value) : Prop where
  cells : RowAt w g 111 [cv, bv, .int .i64 sf, fv, .int .i64 lf, .bool st]
  own : F g
  lt : ∀ b, F b → b < w.heap.size
  caps : IntsAt (fun b => Qo F g bv b ∧ fv.ownBlock ≠ some b) w cv caps
  bytes : w.ownsRow 0 5 1 bv B.length (u8s B)
  flows : OwnLs w (Qo F g bv) fv f ws
  fb : ∀ b, bv.ownBlock = some b → F b
section
variable {w w' : World} {g : Nat} {F : Nat → Prop} {cv bv fv bv' fv' : Value} {caps : List Int} {sf sf' : Nat} {lf lf' : Int} {st st' : Bool} {B C : List Nat} {f f' : Flows} {ws ws' : List Value}
theorem kept_lt {b : Nat} (h1 : w'.heap[b]? = w.heap[b]?) (h2 : b < w.heap.size) : b < w'.heap.size := by
  rw [Array.getElem?_eq_getElem h2] at h1
  exact (Array.getElem?_eq_some_iff.1 h1).1
theorem LgMem.keep (h : LgMem w g F cv bv fv caps sf lf st B f ws) (hk : ∀ b, F b → w'.heap[b]? = w.heap[b]?) : LgMem w' g F cv bv fv caps sf lf st B f ws := by
  refine ⟨?_, h.own, fun b hb => kept_lt (hk b hb) (h.lt b hb), h.caps.keep (fun b hb _ => hk b hb.1.1) (fun _ h _ => h), own_keep (fun b hb => hk b (h.fb b hb)) h.bytes, h.flows.keep (fun b hb _ => hk b hb.1) (fun _ h _ => h), h.fb⟩
  have := h.cells
  unfold RowAt at this ⊢
  rw [hk g h.own]; exact this
theorem LgMem.apart (h : LgMem w g F cv bv fv caps sf lf st B f ws) : bv.ownBlock ≠ some g ∧ fv.ownBlock ≠ some g ∧ ∀ b, bv.ownBlock = some b → fv.ownBlock ≠ some b :=
  ⟨own_row h.bytes h.cells (by decide), own_row h.flows.row h.cells (by decide), fun b hb => own_ne h.bytes h.flows.row (by decide) hb⟩
theorem LgMem.shape (h : LgMem w g F cv bv fv caps sf lf st B f ws) : (∃ a c, cv = .slice a caps.length c ∧ caps.length ≤ c) ∧ (∃ a c, bv = .slice a B.length c) ∧ ∃ a c, fv = .slice a f.length c := by
  obtain ⟨a, c, e, hm, _⟩ := h.caps
  exact ⟨⟨a, c, e, hm.1⟩, owns_shape h.bytes, owns_shape h.flows.row⟩
theorem LgMem.six (h : LgMem w g F cv bv fv caps sf lf st B f ws) : w.cell? ⟨g, 0, none⟩ = some cv ∧ w.cell? ⟨g, 1, none⟩ = some bv ∧ w.cell? ⟨g, 2, none⟩ = some (.int .i64 sf) ∧ w.cell? ⟨g, 3, none⟩ = some fv ∧ w.cell? ⟨g, 4, none⟩ = some (.int .i64 lf) ∧ w.cell? ⟨g, 5, none⟩ = some (.bool st) ∧ (∀ i, w.frozen? ⟨g, i, none⟩ = false) ∧ g < w.heap.size :=
  ⟨h.cells.cell rfl, h.cells.cell rfl, h.cells.cell rfl, h.cells.cell rfl, h.cells.cell rfl, h.cells.cell rfl, h.cells.frozen, h.cells.lt⟩
/-- the struct's own numbers are others -/
theorem LgMem.put (h : LgMem w g F cv bv fv caps sf lf st B f ws) (hc : RowAt w' g 111 [cv, bv, .int .i64 (sf' : Int), fv, .int .i64 lf', .bool st']) (hk : ∀ b, b ≠ g → w'.heap[b]? = w.heap[b]?) : LgMem w' g F cv bv fv caps sf' lf' st' B f ws := by
  obtain ⟨n1, n2, _⟩ := h.apart
  have hlt : ∀ b, F b → b < w'.heap.size := fun b hb => by
    by_cases e : b = g
    · subst e; exact hc.lt
    · exact kept_lt (hk b e) (h.lt b hb)
  exact ⟨hc, h.own, hlt, h.caps.keep (fun b hb _ => hk b hb.1.2.1) (fun _ h _ => h), own_keep (fun b hb => hk b (fun e => n1 (e ▸ hb))) h.bytes, h.flows.keep (fun b hb _ => hk b hb.2.1) (fun _ h _ => h), h.fb⟩
/-- other bytes -/
theorem LgMem.newB (h : LgMem w g F cv bv fv caps sf lf st B f ws) (hr : RowAt w' g 111 [cv, bv', .int .i64 sf, fv, .int .i64 lf, .bool st]) (hk : ∀ b, b < w.heap.size → b ≠ g → bv.ownBlock ≠ some b → w'.heap[b]? = w.heap[b]?) (hz : w.heap.size ≤ w'.heap.size)
    (ho : w'.ownsRow 0 5 1 bv' C.length (u8s C)) (hat : ∀ b, bv'.ownBlock = some b → bv.ownBlock = some b ∨ w.heap.size ≤ b) : LgMem w' g (Fn F w w') cv bv' fv caps sf lf st C f ws := by
  have q : ∀ b, Qo F g bv b → b < w.heap.size → Qo (Fn F w w') g bv' b := fun b hb hl => ⟨.inl hb.1, hb.2.1, fun e => by rcases hat b e with e | e; exact hb.2.2 e; omega⟩
  refine ⟨hr, .inl h.own, fun b hb => ?_, h.caps.keep (fun b hb hl => hk b hl hb.1.2.1 hb.1.2.2) (fun b hb hl => ⟨q b hb.1 hl, hb.2⟩), ho, h.flows.keep (fun b hb hl => hk b hl hb.2.1 hb.2.2) q, fun b hb => ?_⟩
  · rcases hb with hb | hb
    · have := h.lt b hb; omega
    · exact hb.2
  · rcases hat b hb with e | e
    · exact .inl (h.fb b e)
    · exact .inr ⟨e, (own_lt ho hb).2.1⟩
/-- other flows, and fewer bytes -/
theorem LgMem.newF (h : LgMem w g F cv bv fv caps sf lf st B f ws) (hr : RowAt w' g 111 [cv, bv', .int .i64 (sf' : Int), fv', .int .i64 lf', .bool st']) (hk : ∀ b, b < w.heap.size → b ≠ g → fv.ownBlock ≠ some b → w'.heap[b]? = w.heap[b]?) (hz : w.heap.size ≤ w'.heap.size)
    (ho : w'.ownsRow 0 5 1 bv' C.length (u8s C)) (hab : ∀ b, bv'.ownBlock = some b → bv.ownBlock = some b) (hof : OwnLs w' (newQ (Qo F g bv) w w') fv' f' ws') (hat : ∀ b, fv'.ownBlock = some b → fv.ownBlock = some b ∨ w.heap.size ≤ b) : LgMem w' g (Fn F w w') cv bv' fv' caps sf' lf' st' C f' ws' := by
  have hbl : ∀ b, bv'.ownBlock = some b → b < w.heap.size := fun b hb => (own_lt h.bytes (hab b hb)).2.1
  have hgl := h.cells.lt
  have q : ∀ b, newQ (Qo F g bv) w w' b → Qo (Fn F w w') g bv' b := fun b hb => by
    rcases hb with hb | hb
    · exact ⟨.inl hb.1, hb.2.1, fun e => hb.2.2 (hab b e)⟩
    · exact ⟨.inr hb, by omega, fun e => by have := hbl b e; omega⟩
  refine ⟨hr, .inl h.own, fun b hb => ?_, h.caps.keep (fun b hb hl => hk b hl hb.1.2.1 hb.2) (fun b hb hl => ⟨q b (.inl hb.1), fun e => ?_⟩), ho, hof.keep (fun _ _ _ => rfl) (fun b hb _ => q b hb), fun b hb => .inl (h.fb b (hab b hb))⟩
  · rcases hb with hb | hb
    · have := h.lt b hb; omega
    · exact hb.2
  · rcases hat b e with e | e
    · exact hb.2 e
    · omega
end
/-- the landed log -/
structure LgAt (w : World) (g : Nat) (F : Nat → Prop) (cv bv fv : Value) (s : LogS) (B : List Nat) (ws : List Value) : Prop where
  mem : LgMem w g F cv bv fv s.caps s.safe s.left s.stopped B s.flows ws
  len : s.bytes = B.length
  recs : ∃ rs half, BytesR s B rs half ∧ (s.stopped = false → half = [])
  far : s.left ≤ 9223372036854775807
def LgInv (w : World) (p : Value) (F : Nat → Prop) (s : LogS) : Prop := ∃ g cv bv fv B ws, p = .pointer (some ⟨g, 0, none⟩) ∧ LgAt w g F cv bv fv s B ws
section
variable {w w' : World} {g : Nat} {F : Nat → Prop} {cv bv fv : Value} {s : LogS} {B : List Nat} {ws : List Value}
theorem LgAt.keep (h : LgAt w g F cv bv fv s B ws) (hk : ∀ b, F b → w'.heap[b]? = w.heap[b]?) : LgAt w' g F cv bv fv s B ws := ⟨h.mem.keep hk, h.len, h.recs, h.far⟩
theorem LgAt.put {sf : Nat} {lf : Int} {st : Bool} (h : LgAt w g F cv bv fv s B ws) (hc : RowAt w' g 111 [cv, bv, .int .i64 (sf : Int), fv, .int .i64 lf, .bool st]) (hk : ∀ b, b ≠ g → w'.heap[b]? = w.heap[b]?) (hst : st = false → s.stopped = false) (hlf : lf ≤ 9223372036854775807) :
    LgAt w' g F cv bv fv { s with safe := sf, left := lf, stopped := st } B ws := by
  obtain ⟨rs, half, hr, hz⟩ := h.recs
  exact ⟨h.mem.put hc hk, h.len, ⟨rs, half, ⟨hr.all, hr.done, hr.marks, hr.bytes, hr.torn, hr.small⟩, fun e => hz (hst e)⟩, hlf⟩
end
def logX : LogFace where
  Inv := LgInv
  lt := fun ⟨_, _, _, _, _, _, _, h⟩ => h.mem.lt
  keep := fun ⟨g, cv, bv, fv, B, ws, e, h⟩ hk => ⟨g, cv, bv, fv, B, ws, e, h.keep hk⟩
  ptr := fun ⟨_, _, _, _, _, _, e, _⟩ => ⟨_, e⟩
theorem moved_of {w w' : World} {g : Nat} {F : Nat → Prop} {cv bv fv : Value} {s : LogS} {B : List Nat} {ws : List Value} (h : LgAt w' g (Fn F w w') cv bv fv s B ws) (hb : ButIn F w w') : MovedL logX (.pointer (some ⟨g, 0, none⟩)) F s w w' :=
  ⟨Fn F w w', ⟨g, cv, bv, fv, B, ws, rfl, h⟩, fun b hb => hb.elim .inl (fun h => .inr h.1), hb⟩
/-- the struct alone has changed -/
theorem moved_put {w w' : World} {g : Nat} {F : Nat → Prop} {cv bv fv : Value} {s : LogS} {B : List Nat} {ws : List Value} (h : LgAt w' g F cv bv fv s B ws) (hg : F g) (ho : Only g w w') : MovedL logX (.pointer (some ⟨g, 0, none⟩)) F s w w' :=
  ⟨F, ⟨g, cv, bv, fv, B, ws, rfl, h⟩, fun b hb => .inl hb, ho.1, fun b _ hF => ho.2 b (fun e => hF (e ▸ hg))⟩
/-- nothing of a log has changed -/
theorem moved_none {w w' : World} {g : Nat} {F : Nat → Prop} {cv bv fv : Value} {s : LogS} {B : List Nat} {ws : List Value} (h : LgAt w g F cv bv fv s B ws) (hb : Below w.heap.size w w') : MovedL logX (.pointer (some ⟨g, 0, none⟩)) F s w w' :=
  ⟨F, ⟨g, cv, bv, fv, B, ws, rfl, h.keep (fun b hb' => hb.block b (h.mem.lt b hb'))⟩, fun b hb => .inl hb, ButIn.of_below hb⟩
end Ev
end Go.Proofs.YtdldgefahgojaajDoor

/- What package net's calls tell, in plain numbers. -/
namespace Go.Proofs.YtdldgefahgojaajDoor
namespace Ns
open Go.RowKit Fr
set_option linter.unusedSimpArgs false
set_option linter.unusedVariables false

/-- what comes out beside a fault: nothing -/
def okL {α : Type} (k : Int) (l : List α) : List α := if k = 0 then l else []
theorem okL_0 {α : Type} (l : List α) : okL 0 l = l := rfl
theorem okL_ne {α : Type} {k : Int} (h : k ≠ 0) (l : List α) : okL k l = [] := if_neg h
def usersE (caps : List Int) (paths : List (List Int)) (link : Int) : Int :=
  if netE caps paths = 0 then if link < 0 ∨ (caps.length : Int) ≤ link then 1 else 0 else netE caps paths
def addE (caps : List Int) (paths : List (List Int)) (path : List Int) : Int :=
  if netE caps paths = 0 then if paths.length = 6 then 4 else pathE caps.length path else netE caps paths
def dropE (caps : List Int) (paths : List (List Int)) (flow : Int) : Int :=
  if netE caps paths = 0 then if flow < 0 ∨ (paths.length : Int) ≤ flow then 1 else if paths.length = 1 then 5 else 0 else netE caps paths
def less (paths : List (List Int)) (flow : Int) : List (List Int) := paths.take flow.toNat ++ paths.drop (flow.toNat + 1)

theorem netE_0 {caps : List Int} {paths : List (List Int)} (h : netE caps paths = 0) :
    0 < caps.length ∧ caps.length ≤ 6 ∧ 0 < paths.length ∧ paths.length ≤ 6 ∧ linksE caps = 0 ∧ pathsFrom caps.length paths = 0 := by
  unfold netE at h
  split at h
  · omega
  · split at h
    · omega
    · split at h
      · refine ⟨by omega, by omega, by omega, by omega, by assumption, h⟩
      · contradiction
theorem netE_mk {caps : List Int} {paths : List (List Int)} (h : 0 < caps.length ∧ caps.length ≤ 6 ∧ 0 < paths.length ∧ paths.length ≤ 6 ∧ linksE caps = 0 ∧ pathsFrom caps.length paths = 0) : netE caps paths = 0 := by
  rw [netE, if_neg (by omega), if_neg (by omega), if_pos h.2.2.2.2.1]
  exact h.2.2.2.2.2
theorem pathsFrom_append (L : Int) (l m : List (List Int)) (h : pathsFrom L l = 0) : pathsFrom L (l ++ m) = pathsFrom L m := by
  induction l with
  | nil => rfl
  | cons p r ih =>
    simp only [List.cons_append, pathsFrom] at h ⊢
    split at h
    · rw [if_pos (by assumption)]; exact ih h
    · contradiction
theorem pathsFrom_one (L : Int) (p : List Int) : pathsFrom L [p] = pathE L p := by
  simp only [pathsFrom]
  split <;> simp_all
theorem pathsFrom_iff (L : Int) (l : List (List Int)) : pathsFrom L l = 0 ↔ ∀ p ∈ l, pathE L p = 0 := by
  induction l with
  | nil => simp [pathsFrom]
  | cons q r ih =>
    simp only [pathsFrom, List.mem_cons, forall_eq_or_imp]
    split
    · simp [ih, *]
    · simp [*]
/-- a net with a flow more is a net -/
theorem netE_add {caps : List Int} {paths : List (List Int)} {path : List Int} (h : addE caps paths path = 0) :
    netE caps paths = 0 ∧ paths.length < 6 ∧ pathE caps.length path = 0 ∧ netE caps (paths ++ [path]) = 0 := by
  unfold addE at h
  split at h
  · rename_i h0
    split at h
    · omega
    · have := netE_0 h0
      refine ⟨h0, by omega, h, netE_mk ⟨this.1, this.2.1, by simp, by simp; omega, this.2.2.2.2.1, ?_⟩⟩
      rw [pathsFrom_append _ _ _ this.2.2.2.2.2, pathsFrom_one, h]
  · contradiction
end Ns
end Go.Proofs.YtdldgefahgojaajDoor

/- What is asked of package net's Check, as the document says it: a contract to be proved of the landed code. -/
namespace Go.Proofs.YtdldgefahgojaajDoor
namespace Ns
open Go.RowKit Fr

def CheckSaid : Prop := ∀ (Q : Nat → Prop) (caps : List Int) (paths : List (List Int)) (v : Value) (w : World), NetAt Q w v caps paths →
  Calls Tryd.prog 58 #[v] w fun e w' => e = .returned (errV (netE caps paths)) ∧ Below w.heap.size w w'
end Ns
end Go.Proofs.YtdldgefahgojaajDoor

/- Rows of bools, and of ints with room behind them, as a walk meets them. -/
namespace Go.Proofs.YtdldgefahgojaajDoor
namespace Ev
open Go.RowKit Ns Fl
set_option linter.unusedSimpArgs false
set_option linter.unusedVariables false

theorem infoB : (Tryd.prog.info? 4).map (fun i => (i.zero, i.size, i.bytes)) = some (some (.bool false), 1, 1) := by kernel_rfl
theorem madeB (n : Nat) : (madeCells #[Value.bool false] n).toList = (List.replicate n false).map Value.bool := by
  apply List.ext_getElem
  · simp [madeCells]
  · intro i h1 h2
    simp [madeCells, Nat.mod_one]
/-- a row that the call owns, and what lies behind its length -/
theorem owns_row {w : World} {base n c : Nat} {T : TypeId} {a : Option Addr} {xs : List Value} (hn : 0 < n) (h : w.ownsRow base T 1 (.slice a n c) n xs) : ∃ g sp, a = some ⟨g, 0, none⟩ ∧ base ≤ g ∧ n ≤ c ∧ RowAt w g T (xs ++ sp) := by
  rcases h.2 with ⟨_, h0⟩ | ⟨g, cap, cur, hv, hb, hg, hc, hm, hs, ht⟩
  · omega
  · simp only [Value.slice.injEq] at hv
    refine ⟨g, cur.toList.drop (n * 1), hv.1, hb, by rw [hv.2.2]; exact hc, ?_⟩
    unfold RowAt
    rw [hg, ← ht, List.take_append_drop]
theorem boolsCell {l : List Bool} {i : Nat} (h : i < l.length) : (l.map Value.bool)[i]? = some (.bool (l.getD i false)) := by
  simp [List.getD, List.getElem?_eq_getElem h]
theorem intsCell {l : List Int} {sp : List Value} {i : Nat} (h : i < l.length) : (l.map (Value.int .i64) ++ sp)[i]? = some (.int .i64 (l.getD i 0)) := by
  rw [List.getElem?_append_left (by simpa using h)]
  simp [List.getD, List.getElem?_eq_getElem h]
theorem boolsSet {l : List Bool} {i : Nat} {b : Bool} : (l.map Value.bool).set i (.bool b) = (l.set i b).map Value.bool := by rw [List.map_set]
theorem intsSet {l : List Int} {sp : List Value} {i : Nat} {x : Int} (h : i < l.length) : (l.map (Value.int .i64) ++ sp).set i (.int .i64 x) = (l.set i x).map (Value.int .i64) ++ sp := by
  rw [List.set_append_left _ _ (by simpa using h), List.map_set]
/-- a row of ints with room behind it is a list -/
theorem intsRow {Q : Nat → Prop} {w : World} {g c : Nat} {l : List Int} {sp : List Value} (h : RowAt w g 3 (l.map (Value.int .i64) ++ sp)) (hc : l.length ≤ c) (hl : l.length ≤ 9223372036854775807) (hQ : Q g) : IntsAt Q w (.slice (some ⟨g, 0, none⟩) l.length c) l :=
  ⟨_, c, rfl, ⟨hc, hl⟩, .inr ⟨g, 0, rfl, fun i hi => by rw [Nat.zero_add]; exact h.cell (intsCell hi), hQ⟩⟩
/-- a list in a row of its own, that may be written into -/
def OwnInts (B : Nat) (w : World) (y : Value) (l : List Int) : Prop := ∃ g c sp, y = .slice (some ⟨g, 0, none⟩) l.length c ∧ l.length ≤ c ∧ B ≤ g ∧ RowAt w g 3 (l.map (Value.int .i64) ++ sp)
theorem OwnInts.ints {B : Nat} {w : World} {y : Value} {l : List Int} (h : OwnInts B w y l) (hl : l.length ≤ 9223372036854775807) : IntsAt (fun b => B ≤ b) w y l := by
  obtain ⟨g, c, sp, rfl, hc, hg, hr⟩ := h
  exact intsRow hr hc hl hg
end Ev
end Go.Proofs.YtdldgefahgojaajDoor

/- Plain facts on fractions: two whole numbers, their greatest common divisor, lowest terms, the bounds. No Go in it. -/
namespace Go.Proofs.YtdldgefahgojaajDoor.Fr

/-- both numbers are within a fraction's bounds -/
def mayB (t b : Int) : Bool := decide (1 ≤ b ∧ b ≤ 100000000 ∧ -1000000000 ≤ t ∧ t ≤ 1000000000)
/-- the greatest common divisor -/
def gd (t b : Int) : Int := (Nat.gcd t.natAbs b.natAbs : Int)
def lowT (t b : Int) : Int := t / gd t b
def lowB (t b : Int) : Int := b / gd t b
/-- in lowest terms already -/
def isLow (t b : Int) : Bool := decide (t = lowT t b ∧ b = lowB t b)
/-- what is wrong with a fraction: 1 out of bounds, 3 not in lowest terms, 0 nothing -/
def fault (t b : Int) : Int := if mayB t b then (if isLow t b then 0 else 3) else 1
/-- of two: the first fault -/
def fault2 (t b u c : Int) : Int := if fault t b = 0 then fault u c else fault t b

theorem mayB_iff {t b : Int} : mayB t b = true ↔ (1 ≤ b ∧ b ≤ 100000000 ∧ -1000000000 ≤ t ∧ t ≤ 1000000000) := by simp [mayB]

theorem gd_neg (t b : Int) : gd (-t) b = gd t b := by simp [gd]
theorem gd_pos {t b : Int} (h : 1 ≤ b) : 1 ≤ gd t b := by
  unfold gd
  have : 0 < Nat.gcd t.natAbs b.natAbs := Nat.gcd_pos_of_pos_right _ (by omega)
  omega
theorem gd_dvd_left (t b : Int) : gd t b ∣ t := by
  unfold gd
  exact Int.ofNat_dvd_left.2 (Nat.gcd_dvd_left _ _)
theorem gd_dvd_right (t b : Int) : gd t b ∣ b := by
  unfold gd
  exact Int.ofNat_dvd_left.2 (Nat.gcd_dvd_right _ _)

theorem tdiv_gd (t b : Int) : t.tdiv (gd t b) = lowT t b := Int.tdiv_eq_ediv_of_dvd (gd_dvd_left t b)
theorem lowT_mul {t b : Int} : lowT t b * gd t b = t := by
  unfold lowT; exact Int.ediv_mul_cancel (gd_dvd_left t b)
theorem lowB_mul {t b : Int} : lowB t b * gd t b = b := by
  unfold lowB; exact Int.ediv_mul_cancel (gd_dvd_right t b)

/-- a product with a number from 0 on -/
theorem mul_bd {t c A C : Int} (h1 : -A ≤ t) (h2 : t ≤ A) (h3 : 0 ≤ c) (h4 : c ≤ C) : -(A * C) ≤ t * c ∧ t * c ≤ A * C := by
  have hA : 0 ≤ A := by omega
  have a1 : t * c ≤ A * c := Int.mul_le_mul_of_nonneg_right h2 h3
  have a2 : A * c ≤ A * C := Int.mul_le_mul_of_nonneg_left h4 hA
  have a3 : (-A) * c ≤ t * c := Int.mul_le_mul_of_nonneg_right h1 h3
  rw [Int.neg_mul] at a3
  omega
/-- a product with a number of either sign -/
theorem mul_bd' {t c A C : Int} (h1 : -A ≤ t) (h2 : t ≤ A) (h3 : -C ≤ c) (h4 : c ≤ C) : -(A * C) ≤ t * c ∧ t * c ≤ A * C := by
  by_cases h : 0 ≤ c
  · exact mul_bd h1 h2 h h4
  · have := mul_bd (t := t) (c := -c) (A := A) (C := C) h1 h2 (by omega) (by omega)
    rw [Int.mul_neg] at this
    omega

theorem fault_0 {t b : Int} (h : fault t b = 0) : 1 ≤ b ∧ b ≤ 100000000 ∧ -1000000000 ≤ t ∧ t ≤ 1000000000 := by
  unfold fault at h
  split at h
  · exact mayB_iff.1 ‹_›
  · omega
theorem fault2_0 {t b u c : Int} (h : fault2 t b u c = 0) : fault t b = 0 ∧ fault u c = 0 := by
  unfold fault2 at h
  split at h
  · exact ⟨‹_›, h⟩
  · contradiction
theorem fault_cases (t b : Int) : fault t b = 0 ∨ fault t b = 1 ∨ fault t b = 3 := by
  unfold fault
  split
  · split <;> simp
  · simp

theorem low_of_fault {t b : Int} (h : fault t b = 0) : lowT t b = t ∧ lowB t b = b := by
  unfold fault at h
  split at h
  · split at h
    · have := ‹isLow t b = true›
      simp only [isLow, decide_eq_true_eq] at this
      exact ⟨this.1.symm, this.2.symm⟩
    · omega
  · omega
theorem mayB_of_fault {t b : Int} (h : fault t b = 0) : mayB t b = true := by
  unfold fault at h
  split at h
  · assumption
  · omega
theorem fault_of {t b : Int} (hm : mayB t b = true) (h1 : lowT t b = t) (h2 : lowB t b = b) : fault t b = 0 := by
  unfold fault
  rw [hm, if_pos rfl, if_pos]
  simp only [isLow, decide_eq_true_eq]
  exact ⟨h1.symm, h2.symm⟩
theorem gd_zero {b : Int} (h : 1 ≤ b) : gd 0 b = b := by
  unfold gd
  simp
  omega
theorem low_zero {b : Int} (h : 1 ≤ b) : lowT 0 b = 0 ∧ lowB 0 b = 1 := by
  unfold lowT lowB
  rw [gd_zero h]
  exact ⟨Int.zero_ediv b, Int.ediv_self (by omega)⟩
theorem fault_01 : fault 0 1 = 0 := by decide

/-- which of two numbers is less -/
def cmpI (x y : Int) : Int := if x < y then -1 else if y < x then 1 else 0

end Go.Proofs.YtdldgefahgojaajDoor.Fr

/- Plain facts: lowest terms hang on the ratio alone; sums, parts and multiples of fractions in lowest terms. No Go in it. -/
namespace Go.Proofs.YtdldgefahgojaajDoor.Fr

theorem gd_comm (t b : Int) : gd t b = gd b t := by unfold gd; rw [Nat.gcd_comm]
theorem gd_one_iff {t b : Int} : gd t b = 1 ↔ Nat.Coprime t.natAbs b.natAbs := by
  unfold gd Nat.Coprime
  omega

theorem natAbs_div {t g : Int} (h : g ∣ t) : (t / g).natAbs = t.natAbs / g.natAbs := by
  obtain ⟨k, rfl⟩ := h
  by_cases hg : g = 0
  · subst hg; simp
  · rw [Int.mul_ediv_cancel_left k hg, Int.natAbs_mul, Nat.mul_div_cancel_left _ (Int.natAbs_pos.2 hg)]

/-- what is in lowest terms has no divisor in common -/
theorem low_coprime {t b : Int} (hb : 1 ≤ b) : gd (lowT t b) (lowB t b) = 1 := by
  rw [gd_one_iff]
  unfold lowT lowB
  rw [natAbs_div (gd_dvd_left t b), natAbs_div (gd_dvd_right t b)]
  have e : (gd t b).natAbs = Nat.gcd t.natAbs b.natAbs := by unfold gd; omega
  rw [e]
  exact Nat.coprime_div_gcd_div_gcd (Nat.gcd_pos_of_pos_right _ (by omega))
theorem lowB_pos {t b : Int} (hb : 1 ≤ b) : 1 ≤ lowB t b := by
  have h1 := gd_pos (t := t) hb
  have h2 := lowB_mul (t := t) (b := b)
  by_cases h : 1 ≤ lowB t b
  · exact h
  · exfalso
    have h3 : lowB t b ≤ 0 := by omega
    have h4 : lowB t b * gd t b ≤ 0 := Int.mul_nonpos_of_nonpos_of_nonneg h3 (by omega)
    omega
theorem low_ratio (t b : Int) : lowT t b * b = t * lowB t b := by
  have h1 := lowT_mul (t := t) (b := b)
  have h2 := lowB_mul (t := t) (b := b)
  calc lowT t b * b = lowT t b * (lowB t b * gd t b) := by rw [h2]
    _ = (lowT t b * gd t b) * lowB t b := by rw [Int.mul_assoc, Int.mul_comm (gd t b)]
    _ = t * lowB t b := by rw [h1]

theorem dvd_of_coprime {q p q' : Int} (h : gd p q = 1) (hd : q ∣ p * q') : q ∣ q' := by
  rw [gd_one_iff] at h
  have hd' : q.natAbs ∣ p.natAbs * q'.natAbs := by rw [← Int.natAbs_mul]; exact Int.natAbs_dvd_natAbs.2 hd
  exact Int.natAbs_dvd_natAbs.1 (Nat.Coprime.dvd_of_dvd_mul_left h.symm hd')

/-- two pairs of one ratio, each with no divisor in common, are one pair -/
theorem ratio_uniq {p q p' q' : Int} (h : gd p q = 1) (h' : gd p' q' = 1) (hq : 1 ≤ q) (hq' : 1 ≤ q') (e : p * q' = p' * q) : p = p' ∧ q = q' := by
  have d1 : q ∣ q' := dvd_of_coprime h (by rw [e]; exact Int.dvd_mul_left _ _)
  have d2 : q' ∣ q := dvd_of_coprime h' (by rw [← e]; exact Int.dvd_mul_left _ _)
  have e1 : q = q' := by
    have a1 := Int.le_of_dvd (by omega) d1
    have a2 := Int.le_of_dvd (by omega) d2
    omega
  refine ⟨?_, e1⟩
  rw [e1] at e
  exact Int.eq_of_mul_eq_mul_right (by omega) e

theorem low_of_ratio {t b u c : Int} (hb : 1 ≤ b) (hc : 1 ≤ c) (e : t * c = u * b) : lowT t b = lowT u c ∧ lowB t b = lowB u c := by
  refine ratio_uniq (low_coprime hb) (low_coprime hc) (lowB_pos hb) (lowB_pos hc) ?_
  have r1 := low_ratio t b
  have r2 := low_ratio u c
  have hbc : b * c ≠ 0 := Int.mul_ne_zero (by omega) (by omega)
  apply Int.eq_of_mul_eq_mul_right hbc
  calc lowT t b * lowB u c * (b * c) = (lowT t b * b) * (lowB u c * c) := by ac_rfl
    _ = (t * lowB t b) * (lowB u c * c) := by rw [r1]
    _ = (t * c) * (lowB t b * lowB u c) := by ac_rfl
    _ = (u * b) * (lowB t b * lowB u c) := by rw [e]
    _ = (u * lowB u c) * (lowB t b * b) := by ac_rfl
    _ = (lowT u c * c) * (lowB t b * b) := by rw [r2]
    _ = lowT u c * lowB t b * (b * c) := by ac_rfl

theorem low_self {p q : Int} (h : gd p q = 1) : lowT p q = p ∧ lowB p q = q := by
  unfold lowT lowB
  rw [h]
  exact ⟨Int.ediv_one _, Int.ediv_one _⟩
theorem fault_iff {t b : Int} : fault t b = 0 ↔ mayB t b = true ∧ gd t b = 1 := by
  constructor
  · intro h
    refine ⟨mayB_of_fault h, ?_⟩
    obtain ⟨l1, l2⟩ := low_of_fault h
    have := low_coprime (t := t) (b := b) (fault_0 h).1
    rw [l1, l2] at this
    exact this
  · rintro ⟨hm, hg⟩
    obtain ⟨l1, l2⟩ := low_self hg
    exact fault_of hm l1 l2
/-- what was brought to lowest terms, and is within the bounds, is a fraction -/
theorem fault_low {t b : Int} (hb : 1 ≤ b) (hm : mayB (lowT t b) (lowB t b) = true) : fault (lowT t b) (lowB t b) = 0 :=
  fault_iff.2 ⟨hm, low_coprime hb⟩

end Go.Proofs.YtdldgefahgojaajDoor.Fr

/- Plain facts on loads: rates that are right, what goes over a link, what is left, whether it fits. No Go in it. -/
namespace Go.Proofs.YtdldgefahgojaajDoor.Ld
open Fr Ns
set_option linter.unusedSimpArgs false

def faultP (a : Int × Int) : Int := fault a.1 a.2
/-- the sum of two in lowest terms -/
def sumP (a b : Int × Int) : Int × Int := (lowT (a.1 * b.2 + b.1 * a.2) (a.2 * b.2), lowB (a.1 * b.2 + b.1 * a.2) (a.2 * b.2))
def mayP (a : Int × Int) : Bool := mayB a.1 a.2
/-- the first fault of some rates -/
def ratesE : List (Int × Int) → Int
  | [] => 0
  | a :: r => if faultP a = 0 then ratesE r else faultP a
/-- the rates of some flows added up, one by one: none, if that is too much -/
def addUp (r : List (Int × Int)) : List Int → Int × Int → Option (Int × Int)
  | [], s => some s
  | u :: us, s => if mayP (sumP s (r.getD u.toNat (0, 1))) then addUp r us (sumP s (r.getD u.toNat (0, 1))) else none
def loadOf (paths : List (List Int)) (r : List (Int × Int)) (l : Nat) : Option (Int × Int) := addUp r (users paths l) (0, 1)
/-- none is too much, of the first so many links -/
def allOk (paths : List (List Int)) (r : List (Int × Int)) (n : Nat) : Bool := (List.range n).all fun l => (loadOf paths r l).isSome
def loadL (paths : List (List Int)) (r : List (Int × Int)) (n : Nat) : List (Int × Int) := (List.range n).map fun l => (loadOf paths r l).getD (0, 1)
/-- what is wrong with a net and rates -/
def loadE (caps : List Int) (paths : List (List Int)) (r : List (Int × Int)) : Int :=
  if netE caps paths = 0 then if r.length = paths.length then if ratesE r = 0 then if allOk paths r caps.length then 0 else 4 else ratesE r else 3 else netE caps paths
/-- no rate is below 0, no link's load above what it takes -/
def fitsB (caps : List Int) (paths : List (List Int)) (r : List (Int × Int)) : Bool :=
  (r.all fun a => decide (0 ≤ a.1)) && (List.range caps.length).all fun l => decide (((loadL paths r caps.length).getD l (0, 1)).1 ≤ caps.getD l 0 * ((loadL paths r caps.length).getD l (0, 1)).2)
/-- what is left on a link -/
def leftOf (c : Int) (a : Int × Int) : Int × Int := sumP (c, 1) (-a.1, a.2)
def leftL (caps : List Int) (paths : List (List Int)) (r : List (Int × Int)) : List (Int × Int) := (List.range caps.length).map fun l => leftOf (caps.getD l 0) ((loadL paths r caps.length).getD l (0, 1))
def leftE (caps : List Int) (paths : List (List Int)) (r : List (Int × Int)) : Int :=
  if loadE caps paths r = 0 then if (leftL caps paths r).all mayP then 0 else 4 else loadE caps paths r

theorem ratesE_iff (r : List (Int × Int)) : ratesE r = 0 ↔ ∀ a ∈ r, faultP a = 0 := by
  induction r with
  | nil => simp [ratesE]
  | cons a r ih =>
    simp only [ratesE, List.mem_cons, forall_eq_or_imp]
    split
    · simp [ih, *]
    · simp [*]
theorem ratesE_cons (r : List (Int × Int)) (k : Nat) (h : k < r.length) : ratesE (r.drop k) = if faultP (r.getD k (0, 0)) = 0 then ratesE (r.drop (k + 1)) else faultP (r.getD k (0, 0)) := by
  rw [drop_cons r k h (0, 0)]; rfl
theorem loadL_length (paths : List (List Int)) (r : List (Int × Int)) (n : Nat) : (loadL paths r n).length = n := by simp [loadL]
theorem leftL_length (caps : List Int) (paths : List (List Int)) (r : List (Int × Int)) : (leftL caps paths r).length = caps.length := by simp [leftL]
theorem loadL_getD (paths : List (List Int)) (r : List (Int × Int)) (n l : Nat) (h : l < n) (d : Int × Int) : (loadL paths r n).getD l d = (loadOf paths r l).getD (0, 1) := by
  simp [loadL, List.getD, List.getElem?_map, List.getElem?_range h]
theorem loadL_snoc (paths : List (List Int)) (r : List (Int × Int)) (n : Nat) : loadL paths r (n + 1) = loadL paths r n ++ [(loadOf paths r n).getD (0, 1)] := by
  simp [loadL, List.range_succ]
theorem allOk_snoc (paths : List (List Int)) (r : List (Int × Int)) (n : Nat) : allOk paths r (n + 1) = (allOk paths r n && (loadOf paths r n).isSome) := by
  simp [allOk, List.range_succ]
theorem allOk_le {paths : List (List Int)} {r : List (Int × Int)} {n m : Nat} (h : allOk paths r n = true) (hm : m ≤ n) : allOk paths r m = true := by
  simp only [allOk, List.all_eq_true, List.mem_range] at h ⊢
  exact fun l hl => h l (by omega)
theorem allOk_at {paths : List (List Int)} {r : List (Int × Int)} {n l : Nat} (h : allOk paths r n = true) (hl : l < n) : ∃ s, loadOf paths r l = some s := by
  simp only [allOk, List.all_eq_true, List.mem_range] at h
  exact Option.isSome_iff_exists.1 (h l hl)

theorem loadE_0 {caps : List Int} {paths : List (List Int)} {r : List (Int × Int)} (h : loadE caps paths r = 0) : netE caps paths = 0 ∧ r.length = paths.length ∧ ratesE r = 0 ∧ allOk paths r caps.length = true := by
  unfold loadE at h
  split at h
  · split at h
    · split at h
      · split at h
        · exact ⟨by assumption, by assumption, by assumption, by assumption⟩
        · omega
      · contradiction
    · omega
  · contradiction
theorem loadE_mk {caps : List Int} {paths : List (List Int)} {r : List (Int × Int)} (h1 : netE caps paths = 0) (h2 : r.length = paths.length) (h3 : ratesE r = 0) (h4 : allOk paths r caps.length = true) : loadE caps paths r = 0 := by
  rw [loadE, if_pos h1, if_pos h2, if_pos h3, if_pos h4]

theorem fault_sumP {a b : Int × Int} (ha : faultP a = 0) (hb : faultP b = 0) (h : mayP (sumP a b) = true) : faultP (sumP a b) = 0 := by
  have h1 := fault_0 ha
  have h2 := fault_0 hb
  have hp : 1 ≤ a.2 * b.2 := Int.mul_le_mul h1.1 h2.1 (by decide) (by omega)
  exact fault_low hp h
/-- what is added up of right rates is right -/
theorem addUp_fault {r : List (Int × Int)} (hr : ratesE r = 0) : ∀ (us : List Int) (s t : Int × Int), faultP s = 0 → addUp r us s = some t → faultP t = 0 := by
  intro us
  induction us with
  | nil => intro s t hs h; simp only [addUp, Option.some.injEq] at h; exact h ▸ hs
  | cons u us ih =>
    intro s t hs h
    simp only [addUp] at h
    split at h
    · rename_i hm
      refine ih _ _ (fault_sumP hs ?_ hm) h
      by_cases hu : u.toNat < r.length
      · exact (ratesE_iff r).1 hr _ (getD_mem r _ hu _)
      · rw [List.getD_eq_getElem?_getD, List.getElem?_eq_none (by omega)]
        decide
    · cases h
theorem loadOf_fault {paths : List (List Int)} {r : List (Int × Int)} {l : Nat} {s : Int × Int} (hr : ratesE r = 0) (h : loadOf paths r l = some s) : faultP s = 0 := addUp_fault hr _ _ _ (by decide) h
theorem addUp_snoc (r : List (Int × Int)) : ∀ (us : List Int) (u : Int) (s : Int × Int), addUp r (us ++ [u]) s = (addUp r us s).bind fun t => if mayP (sumP t (r.getD u.toNat (0, 1))) then some (sumP t (r.getD u.toNat (0, 1))) else none := by
  intro us
  induction us with
  | nil => intro u s; simp [addUp]
  | cons x us ih =>
    intro u s
    simp only [List.cons_append, addUp]
    split
    · exact ih _ _
    · rfl
/-- the users' numbers are flows -/
theorem usersFrom_mem (link : Int) : ∀ (l : List (List Int)) (i : Nat) (u : Int), u ∈ usersFrom link i l → (i : Int) ≤ u ∧ u < i + l.length := by
  intro l
  induction l with
  | nil => intro i u h; simp [usersFrom] at h
  | cons p r ih =>
    intro i u h
    simp only [usersFrom] at h
    split at h
    · rcases List.mem_cons.1 h with rfl | h
      · simp; omega
      · have := ih (i + 1) u h
        simp; omega
    · have := ih (i + 1) u h
      simp; omega
theorem users_mem {paths : List (List Int)} {link u : Int} (h : u ∈ users paths link) : 0 ≤ u ∧ u < paths.length := by
  have := usersFrom_mem link paths 0 u h
  omega
end Go.Proofs.YtdldgefahgojaajDoor.Ld

/- Fractions as rational numbers: what a sum, a part and an order of two are. No Go in it. -/
namespace Go.Proofs.YtdldgefahgojaajDoor.Fl
open Fr Ns Ld
set_option linter.unusedSimpArgs false

/-- the number that a fraction is -/
def val (a : Int × Int) : Rat := (a.1 : Rat) / (a.2 : Rat)

theorem castPos {b : Int} (h : 1 ≤ b) : (0 : Rat) < (b : Rat) := by
  have : ((0 : Int) : Rat) < (b : Rat) := Rat.intCast_lt_intCast.2 (by omega)
  simpa using this
theorem castNe {b : Int} (h : 1 ≤ b) : (b : Rat) ≠ 0 := by
  have := castPos h
  intro e
  rw [e] at this
  exact absurd this (by decide)
theorem val_mul {a : Int × Int} (h : 1 ≤ a.2) : val a * (a.2 : Rat) = (a.1 : Rat) := by
  have := castNe h
  unfold val
  grind
theorem val_of_mul {a : Int × Int} {q : Rat} (h : 1 ≤ a.2) (e : q * (a.2 : Rat) = (a.1 : Rat)) : val a = q := by
  have := castNe h
  have := val_mul h
  grind
theorem val_low {t b : Int} (h : 1 ≤ b) : val (lowT t b, lowB t b) = val (t, b) := by
  have hb := lowB_pos (t := t) h
  apply val_of_mul (a := (lowT t b, lowB t b)) hb
  have hr := low_ratio t b
  have hr' : (lowT t b : Rat) * (b : Rat) = (t : Rat) * (lowB t b : Rat) := by
    rw [← Rat.intCast_mul, ← Rat.intCast_mul, hr]
  have hv := val_mul (a := (t, b)) h
  have hn := castNe h
  simp only at hv ⊢
  have : (val (t, b) * (lowB t b : Rat)) * (b : Rat) = (lowT t b : Rat) * (b : Rat) := by
    rw [hr', Rat.mul_assoc, Rat.mul_comm (lowB t b : Rat), ← Rat.mul_assoc, hv]
  grind
theorem val_sum {a b : Int × Int} (ha : 1 ≤ a.2) (hb : 1 ≤ b.2) : val (sumP a b) = val a + val b := by
  have hp : 1 ≤ a.2 * b.2 := Int.mul_le_mul ha hb (by decide) (by omega)
  unfold sumP
  rw [val_low hp]
  apply val_of_mul (a := (a.1 * b.2 + b.1 * a.2, a.2 * b.2)) hp
  have h1 := val_mul ha
  have h2 := val_mul hb
  simp only
  rw [Rat.intCast_mul, Rat.intCast_add, Rat.intCast_mul, Rat.intCast_mul, ← h1, ← h2]
  grind
theorem val_neg (a : Int × Int) : val (-a.1, a.2) = - val a := by
  unfold val
  simp only [Rat.intCast_neg]
  grind
theorem val_whole (c : Int) : val (c, 1) = (c : Rat) := by
  have := val_mul (a := (c, 1)) (show (1 : Int) ≤ 1 by decide)
  simp only [Rat.intCast_one, Rat.mul_one] at this
  exact this
theorem val_part {t b k : Int} (hb : 1 ≤ b) (hk : 1 ≤ k) : val (lowT t (b * k), lowB t (b * k)) * (k : Rat) = val (t, b) := by
  have hp : 1 ≤ b * k := Int.mul_le_mul hb hk (by decide) (by omega)
  rw [val_low hp]
  have h1 := val_mul (a := (t, b * k)) hp
  have h2 := val_mul (a := (t, b)) hb
  have hn := castNe hb
  simp only [Rat.intCast_mul] at h1 h2
  have : (val (t, b * k) * (k : Rat)) * (b : Rat) = val (t, b) * (b : Rat) := by
    rw [h2, ← h1]; grind
  grind
theorem cross {a b : Int × Int} (ha : 1 ≤ a.2) (hb : 1 ≤ b.2) : (val a ≤ val b ↔ a.1 * b.2 ≤ b.1 * a.2) := by
  have h1 := val_mul ha
  have h2 := val_mul hb
  have p1 := castPos ha
  have p2 := castPos hb
  have p3 : (0 : Rat) < (a.2 : Rat) * (b.2 : Rat) := Rat.mul_pos p1 p2
  have e1 : ((a.1 * b.2 : Int) : Rat) = val a * ((a.2 : Rat) * (b.2 : Rat)) := by rw [Rat.intCast_mul, ← h1]; grind
  have e2 : ((b.1 * a.2 : Int) : Rat) = val b * ((a.2 : Rat) * (b.2 : Rat)) := by rw [Rat.intCast_mul, ← h2]; grind
  rw [← Rat.intCast_le_intCast, e1, e2]
  exact ⟨fun h => Rat.mul_le_mul_of_nonneg_right h (Rat.le_of_lt p3), fun h => Rat.le_of_mul_le_mul_right h p3⟩
theorem cross_lt {a b : Int × Int} (ha : 1 ≤ a.2) (hb : 1 ≤ b.2) : (val a < val b ↔ a.1 * b.2 < b.1 * a.2) := by
  have := cross hb ha
  rw [← Rat.not_le, this]
  omega
theorem fault_pos {a : Int × Int} (h : faultP a = 0) : 1 ≤ a.2 := (fault_0 h).1
/-- in lowest terms the number tells the fraction -/
theorem val_inj {a b : Int × Int} (ha : 1 ≤ a.2) (hb : 1 ≤ b.2) (ga : gd a.1 a.2 = 1) (gb : gd b.1 b.2 = 1) (h : val a = val b) : a = b := by
  have h1 : a.1 * b.2 ≤ b.1 * a.2 := (cross ha hb).1 (by rw [h]; exact Rat.le_refl)
  have h2 : b.1 * a.2 ≤ a.1 * b.2 := (cross hb ha).1 (by rw [h]; exact Rat.le_refl)
  have := ratio_uniq ga gb ha hb (by omega)
  exact Prod.ext this.1 this.2
theorem val_inj' {a b : Int × Int} (ha : faultP a = 0) (hb : faultP b = 0) (h : val a = val b) : a = b := val_inj (fault_pos ha) (fault_pos hb) (fault_iff.1 ha).2 (fault_iff.1 hb).2 h

/-- a fraction in lowest terms whose bottom divides D -/
def Over (D : Int) (a : Int × Int) : Prop := 1 ≤ a.2 ∧ gd a.1 a.2 = 1 ∧ a.2 ∣ D
theorem over_of {D t b m : Int} (hb : 1 ≤ b) (e : t * D = m * b) : Over D (lowT t b, lowB t b) := by
  refine ⟨lowB_pos hb, low_coprime hb, ?_⟩
  have h : lowT t b * D = m * lowB t b := by
    have h1 := lowT_mul (t := t) (b := b)
    have h2 := lowB_mul (t := t) (b := b)
    have hg := gd_pos (t := t) hb
    rw [← h1] at e
    have e' : m * b = m * (lowB t b * gd t b) := by rw [h2]
    rw [e'] at e
    have : (lowT t b * D) * gd t b = (m * lowB t b) * gd t b := by
      rw [Int.mul_right_comm, e, Int.mul_assoc]
    exact Int.eq_of_mul_eq_mul_right (by omega) this
  exact dvd_of_coprime (low_coprime hb) ⟨m, by rw [h, Int.mul_comm]⟩
theorem over_sum {D : Int} {a b : Int × Int} (ha : Over D a) (hb : Over D b) : Over D (sumP a b) := by
  obtain ⟨a1, _, k, hk⟩ := ha
  obtain ⟨b1, _, m, hm⟩ := hb
  have hp : 1 ≤ a.2 * b.2 := Int.mul_le_mul a1 b1 (by decide) (by omega)
  refine over_of (m := a.1 * k + b.1 * m) hp ?_
  have e1 : a.1 * b.2 * D = a.1 * k * (a.2 * b.2) := by rw [hk]; grind
  have e2 : b.1 * a.2 * D = b.1 * m * (a.2 * b.2) := by rw [hm]; grind
  rw [Int.add_mul, Int.add_mul, e1, e2]
theorem over_neg {D : Int} {a : Int × Int} (ha : Over D a) : Over D (-a.1, a.2) := ⟨ha.1, by rw [gd_neg]; exact ha.2.1, ha.2.2⟩
theorem over_whole (D c : Int) : Over D (c, 1) := ⟨Int.le_refl 1, by unfold gd; simp, ⟨D, by simp⟩⟩
theorem over_part {D k : Int} {a : Int × Int} (ha : Over D a) (hk : 1 ≤ k) : Over (D * k) (lowT a.1 (a.2 * k), lowB a.1 (a.2 * k)) := by
  obtain ⟨a1, _, m, hm⟩ := ha
  have hp : 1 ≤ a.2 * k := Int.mul_le_mul a1 hk (by decide) (by omega)
  exact over_of (m := a.1 * m) hp (by rw [hm]; grind)
theorem Over.mono {D E : Int} {a : Int × Int} (h : Over D a) (hd : D ∣ E) : Over E a := ⟨h.1, h.2.1, Int.dvd_trans h.2.2 hd⟩
theorem over_fault {D : Int} {a : Int × Int} (h : Over D a) (h1 : 1 ≤ D) (h2 : D ≤ 1000000) (l : 0 ≤ val a) (u : val a ≤ 1000) : faultP a = 0 := by
  obtain ⟨a1, ag, hd⟩ := h
  have hb : a.2 ≤ D := Int.le_of_dvd (by omega) hd
  have e0 : val (0, 1) = 0 := by rw [val_whole]; rfl
  have e1 : val (1000, 1) = 1000 := by rw [val_whole]; rfl
  rw [← e0] at l
  rw [← e1] at u
  have l' := (cross (a := (0, 1)) (by decide) a1).1 l
  have u' := (cross (b := (1000, 1)) a1 (by decide)).1 u
  simp only at l' u'
  exact fault_iff.2 ⟨mayB_iff.2 (by omega), ag⟩
end Go.Proofs.YtdldgefahgojaajDoor.Fl

/- Shares: all of them together, their squares, the gap, and what some that go from one to another one make of these. No Go in it. -/
namespace Go.Proofs.YtdldgefahgojaajDoor.Ev
open Fr Ns Ld Fl
set_option linter.unusedSimpArgs false
set_option linter.unusedVariables false

def tot : List Int → Int
  | [] => 0
  | x :: r => x + tot r
def sqs : List Int → Int
  | [] => 0
  | x :: r => x * x + sqs r
theorem tot_append (l m : List Int) : tot (l ++ m) = tot l + tot m := by
  induction l with
  | nil => simp [tot]
  | cons x r ih => simp only [List.cons_append, tot, ih]; omega
theorem sqs_append (l m : List Int) : sqs (l ++ m) = sqs l + sqs m := by
  induction l with
  | nil => simp [sqs]
  | cons x r ih => simp only [List.cons_append, sqs, ih]; omega
theorem tot_step (l : List Int) (k : Nat) (h : k < l.length) : tot (l.take (k + 1)) = tot (l.take k) + l.getD k 0 := by
  rw [take_snoc l k h 0, tot_append]; simp [tot]
theorem sqs_step (l : List Int) (k : Nat) (h : k < l.length) : sqs (l.take (k + 1)) = sqs (l.take k) + l.getD k 0 * l.getD k 0 := by
  rw [take_snoc l k h 0, sqs_append]; simp [sqs]

def inTo (most x : Int) : Bool := decide (0 ≤ x) && decide (x ≤ most)
/-- what is wrong with shares: 5 there is none, 4 too many, 1 one is out of bounds, 0 nothing -/
def few (l : List Int) (most : Int) : Int := if l.length = 0 then 5 else if 6 < l.length then 4 else if l.all (inTo most) then 0 else 1
theorem few_0 {l : List Int} {most : Int} : few l most = 0 ↔ 0 < l.length ∧ l.length ≤ 6 ∧ ∀ x ∈ l, 0 ≤ x ∧ x ≤ most := by
  unfold few
  split
  · constructor
    · intro h; omega
    · intro h; omega
  · split
    · constructor
      · intro h; omega
      · intro h; omega
    · split
      · rename_i h
        rw [List.all_eq_true] at h
        constructor
        · intro _
          exact ⟨by omega, by omega, fun x hx => by simpa [inTo] using h x hx⟩
        · intro _; rfl
      · rename_i h
        constructor
        · intro e; omega
        · rintro ⟨_, _, hb⟩
          exfalso; apply h
          rw [List.all_eq_true]
          intro x hx
          simpa [inTo] using hb x hx

theorem tot_bd {M : Int} : ∀ {l : List Int}, (∀ x ∈ l, 0 ≤ x ∧ x ≤ M) → 0 ≤ tot l ∧ tot l ≤ l.length * M := by
  intro l
  induction l with
  | nil => intro _; simp [tot]
  | cons x r ih =>
    intro h
    have h1 := h x (by simp)
    have h2 := ih fun y hy => h y (by simp [hy])
    simp only [tot, List.length_cons]
    have e : ((r.length + 1 : Nat) : Int) * M = r.length * M + M := by rw [Int.natCast_add, Int.add_mul]; simp
    rw [e]
    omega
theorem sqs_bd {M : Int} : ∀ {l : List Int}, (∀ x ∈ l, 0 ≤ x ∧ x ≤ M) → 0 ≤ sqs l ∧ sqs l ≤ l.length * (M * M) := by
  intro l
  induction l with
  | nil => intro _; simp [sqs]
  | cons x r ih =>
    intro h
    have h1 := h x (by simp)
    have h2 := ih fun y hy => h y (by simp [hy])
    simp only [sqs, List.length_cons]
    have e : ((r.length + 1 : Nat) : Int) * (M * M) = r.length * (M * M) + M * M := by rw [Int.natCast_add, Int.add_mul]; simp
    rw [e]
    have h3 : x * x ≤ M * M := Int.mul_le_mul h1.2 h1.2 h1.1 (by omega)
    have h4 : 0 ≤ x * x := Int.mul_nonneg h1.1 h1.1
    omega

def dev (x : Int) : List Int → Int
  | [] => 0
  | y :: r => (x - y) * (x - y) + dev x r
theorem sq_nonneg (x : Int) : 0 ≤ x * x := by
  rcases Int.le_total 0 x with h | h
  · exact Int.mul_nonneg h h
  · exact Int.mul_nonneg_of_nonpos_of_nonpos h h
theorem sq_zero {x : Int} (h : x * x = 0) : x = 0 := by
  rcases Int.mul_eq_zero.1 h with h | h <;> exact h
theorem dev_nonneg (x : Int) : ∀ l, 0 ≤ dev x l := by
  intro l
  induction l with
  | nil => simp [dev]
  | cons y r ih => have := sq_nonneg (x - y); simp only [dev]; omega
theorem dev_zero {x : Int} : ∀ {l}, dev x l = 0 → ∀ y ∈ l, y = x := by
  intro l
  induction l with
  | nil => intro _ y hy; simp at hy
  | cons z r ih =>
    intro h y hy
    have h1 := sq_nonneg (x - z)
    have h2 := dev_nonneg x r
    simp only [dev] at h
    have h3 : (x - z) * (x - z) = 0 := by omega
    have h4 := sq_zero h3
    rcases List.mem_cons.1 hy with rfl | hy
    · omega
    · exact ih (by omega) y hy
theorem dev_eq (x : Int) : ∀ l : List Int, dev x l = l.length * (x * x) - 2 * (x * tot l) + sqs l := by
  intro l
  induction l with
  | nil => simp [dev, tot, sqs]
  | cons y r ih =>
    simp only [dev, tot, sqs, List.length_cons, ih]
    have e : ((r.length + 1 : Nat) : Int) = r.length + 1 := by simp
    rw [e]
    grind
theorem part_eq (x : Int) (r : List Int) : ((x :: r).length : Int) * sqs (x :: r) - tot (x :: r) * tot (x :: r) = (r.length * sqs r - tot r * tot r) + dev x r := by
  rw [dev_eq]
  simp only [tot, sqs, List.length_cons]
  have e : ((r.length + 1 : Nat) : Int) = r.length + 1 := by simp
  rw [e]
  grind
/-- the square of all together is no more than so many times their squares together, and as much just if all are alike -/
theorem cauchy : ∀ l : List Int, tot l * tot l ≤ l.length * sqs l := by
  intro l
  induction l with
  | nil => simp [tot, sqs]
  | cons x r ih =>
    have := part_eq x r
    have := dev_nonneg x r
    omega
theorem cauchy_eq : ∀ {l : List Int}, tot l * tot l = l.length * sqs l → ∀ x ∈ l, ∀ y ∈ l, x = y := by
  intro l
  induction l with
  | nil => intro _ x hx; simp at hx
  | cons z r ih =>
    intro h
    have h1 := part_eq z r
    have h2 := dev_nonneg z r
    have h3 := cauchy r
    have hz := dev_zero (x := z) (l := r) (by omega)
    intro x hx y hy
    have e : ∀ x ∈ z :: r, x = z := fun x hx => by
      rcases List.mem_cons.1 hx with rfl | hx
      · rfl
      · exact hz x hx
    rw [e x hx, e y hy]
theorem alike_eq {c : Int} : ∀ {l : List Int}, (∀ x ∈ l, x = c) → tot l = l.length * c ∧ sqs l = l.length * (c * c) := by
  intro l
  induction l with
  | nil => intro _; simp [tot, sqs]
  | cons x r ih =>
    intro h
    have h1 := h x (by simp)
    have h2 := ih fun y hy => h y (by simp [hy])
    simp only [tot, sqs, List.length_cons, h1, h2.1, h2.2]
    have e : ((r.length + 1 : Nat) : Int) = r.length + 1 := by simp
    rw [e]
    constructor <;> grind
theorem square_all : ∀ {l : List Int}, (∀ x ∈ l, 0 ≤ x) → sqs l ≤ tot l * tot l ∧ 0 ≤ tot l := by
  intro l
  induction l with
  | nil => intro _; simp [tot, sqs]
  | cons x r ih =>
    intro h
    have h1 := h x (by simp)
    obtain ⟨h2, h3⟩ := ih fun y hy => h y (by simp [hy])
    have h4 : 0 ≤ x * tot r := Int.mul_nonneg h1 h3
    simp only [tot, sqs]
    have e : (x + tot r) * (x + tot r) = x * x + 2 * (x * tot r) + tot r * tot r := by grind
    rw [e]
    constructor <;> omega

/-! ### the gap -/
theorem mx_ge (a : Int) : ∀ l : List Int, a ≤ l.foldl max a ∧ ∀ x ∈ l, x ≤ l.foldl max a := by
  intro l
  induction l generalizing a with
  | nil => simp
  | cons y r ih =>
    obtain ⟨h1, h2⟩ := ih (max a y)
    simp only [List.foldl_cons]
    refine ⟨by omega, fun x hx => ?_⟩
    rcases List.mem_cons.1 hx with rfl | hx
    · omega
    · exact h2 x hx
theorem mx_in (a : Int) : ∀ l : List Int, l.foldl max a = a ∨ l.foldl max a ∈ l := by
  intro l
  induction l generalizing a with
  | nil => simp
  | cons y r ih =>
    simp only [List.foldl_cons]
    rcases ih (max a y) with h | h
    · rcases Int.le_total a y with h' | h'
      · right; rw [h, Int.max_eq_right h']; simp
      · left; rw [h, Int.max_eq_left h']
    · right; simp [h]
theorem mn_le (a : Int) : ∀ l : List Int, l.foldl min a ≤ a ∧ ∀ x ∈ l, l.foldl min a ≤ x := by
  intro l
  induction l generalizing a with
  | nil => simp
  | cons y r ih =>
    obtain ⟨h1, h2⟩ := ih (min a y)
    simp only [List.foldl_cons]
    refine ⟨by omega, fun x hx => ?_⟩
    rcases List.mem_cons.1 hx with rfl | hx
    · omega
    · exact h2 x hx
theorem mn_in (a : Int) : ∀ l : List Int, l.foldl min a = a ∨ l.foldl min a ∈ l := by
  intro l
  induction l generalizing a with
  | nil => simp
  | cons y r ih =>
    simp only [List.foldl_cons]
    rcases ih (min a y) with h | h
    · rcases Int.le_total a y with h' | h'
      · left; rw [h, Int.min_eq_left h']
      · right; rw [h, Int.min_eq_right h']; simp
    · right; simp [h]
def mxL (l : List Int) : Int := l.foldl max (l.getD 0 0)
def mnL (l : List Int) : Int := l.foldl min (l.getD 0 0)
/-- the greatest less the least -/
def gapL (l : List Int) : Int := mxL l - mnL l
theorem mx_step (l : List Int) (a : Int) (k : Nat) (h : k < l.length) : (l.take (k + 1)).foldl max a = max ((l.take k).foldl max a) (l.getD k 0) := by
  rw [take_snoc l k h 0, List.foldl_append]; rfl
theorem mn_step (l : List Int) (a : Int) (k : Nat) (h : k < l.length) : (l.take (k + 1)).foldl min a = min ((l.take k).foldl min a) (l.getD k 0) := by
  rw [take_snoc l k h 0, List.foldl_append]; rfl
theorem mxL_spec {l : List Int} (h : 0 < l.length) : mxL l ∈ l ∧ ∀ x ∈ l, x ≤ mxL l := by
  refine ⟨?_, (mx_ge _ l).2⟩
  rcases mx_in (l.getD 0 0) l with e | e
  · unfold mxL; rw [e]; exact getD_mem l 0 h 0
  · exact e
theorem mnL_spec {l : List Int} (h : 0 < l.length) : mnL l ∈ l ∧ ∀ x ∈ l, mnL l ≤ x := by
  refine ⟨?_, (mn_le _ l).2⟩
  rcases mn_in (l.getD 0 0) l with e | e
  · unfold mnL; rw [e]; exact getD_mem l 0 h 0
  · exact e
theorem gap_nonneg {l : List Int} (h : 0 < l.length) : 0 ≤ gapL l := by
  have := (mxL_spec h).2 _ (mnL_spec h).1
  unfold gapL; omega
/-- no two are further apart than the gap -/
theorem gap_ge {l : List Int} (h : 0 < l.length) {x y : Int} (hx : x ∈ l) (hy : y ∈ l) : x - y ≤ gapL l := by
  have h1 := (mxL_spec h).2 x hx
  have h2 := (mnL_spec h).2 y hy
  unfold gapL; omega
theorem gap_le {l : List Int} {d : Int} (h : 0 < l.length) (hd : ∀ x ∈ l, ∀ y ∈ l, x - y ≤ d) : gapL l ≤ d := hd _ (mxL_spec h).1 _ (mnL_spec h).1
theorem gap_zero {l : List Int} (h : 0 < l.length) : gapL l = 0 ↔ ∀ x ∈ l, ∀ y ∈ l, x = y := by
  constructor
  · intro e x hx y hy
    have h1 := gap_ge h hx hy
    have h2 := gap_ge h hy hx
    omega
  · intro e
    have h1 := gap_nonneg h
    have h2 := gap_le (d := 0) h (fun x hx y hy => by have := e x hx y hy; omega)
    omega

/-! ### the index -/
def idx (l : List Int) : Int × Int := (lowT (tot l * tot l) (l.length * sqs l), lowB (tot l * tot l) (l.length * sqs l))
def idxE (l : List Int) : Int := if few l 1000 = 0 then if tot l = 0 then 5 else 0 else few l 1000
theorem idxE_0 {l : List Int} : idxE l = 0 ↔ few l 1000 = 0 ∧ tot l ≠ 0 := by
  unfold idxE
  split
  · split
    · constructor
      · intro h; omega
      · rintro ⟨_, h⟩; contradiction
    · constructor
      · intro _; exact ⟨by assumption, by assumption⟩
      · intro _; rfl
  · constructor
    · intro h; contradiction
    · rintro ⟨h, _⟩; contradiction
theorem idx_parts {l : List Int} (h : idxE l = 0) : 1 ≤ tot l ∧ tot l ≤ 6000 ∧ 1 ≤ sqs l ∧ sqs l ≤ 6000000 ∧ 1 ≤ (l.length : Int) * sqs l ∧ (l.length : Int) * sqs l ≤ 36000000 ∧ 0 ≤ tot l * tot l ∧ tot l * tot l ≤ 36000000 := by
  obtain ⟨h1, h2⟩ := idxE_0.1 h
  obtain ⟨n1, n2, hb⟩ := few_0.1 h1
  have t := tot_bd hb
  have s := sqs_bd hb
  have c := cauchy l
  have hn : (1 : Int) ≤ l.length ∧ (l.length : Int) ≤ 6 := by omega
  have t1 : 1 ≤ tot l := by omega
  have t2 : tot l ≤ 6000 := by
    have : (l.length : Int) * 1000 ≤ 6 * 1000 := by omega
    omega
  have tt : 1 ≤ tot l * tot l := Int.mul_le_mul t1 t1 (by decide) (by omega)
  have t3 : tot l * tot l ≤ 6000 * 6000 := Int.mul_le_mul t2 t2 (by omega) (by omega)
  have s2 : sqs l ≤ 6000000 := by
    have : (l.length : Int) * (1000 * 1000) ≤ 6 * 1000000 := by omega
    omega
  have s1 : 1 ≤ sqs l := by
    rcases Int.lt_or_le 0 (sqs l) with hs | hs
    · omega
    · have : sqs l = 0 := by omega
      rw [this] at c
      omega
  have ns : (l.length : Int) * sqs l ≤ 6 * 6000000 := Int.mul_le_mul hn.2 s2 (by omega) (by omega)
  exact ⟨t1, t2, s1, s2, by omega, by omega, by omega, by omega⟩
theorem low_bd {t b : Int} (h0 : 0 ≤ t) (hb : 1 ≤ b) : 0 ≤ lowT t b ∧ lowT t b ≤ t ∧ 1 ≤ lowB t b ∧ lowB t b ≤ b := by
  have g := gd_pos (t := t) hb
  have e1 := lowT_mul (t := t) (b := b)
  have e2 := lowB_mul (t := t) (b := b)
  have p := lowB_pos (t := t) hb
  have q : 0 ≤ lowT t b := by
    rcases Int.lt_or_le (lowT t b) 0 with h | h
    · have : lowT t b * gd t b ≤ -1 * gd t b := Int.mul_le_mul_of_nonneg_right (by omega) (by omega)
      omega
    · exact h
  have a1 : lowT t b * 1 ≤ lowT t b * gd t b := Int.mul_le_mul_of_nonneg_left g q
  have a2 : lowB t b * 1 ≤ lowB t b * gd t b := Int.mul_le_mul_of_nonneg_left g (by omega)
  refine ⟨q, by omega, p, by omega⟩
theorem idx_right {l : List Int} (h : idxE l = 0) : faultP (idx l) = 0 := by
  obtain ⟨_, _, _, _, b1, b2, t1, t2⟩ := idx_parts h
  obtain ⟨c1, c2, c3, c4⟩ := low_bd t1 b1
  exact fault_low b1 (mayB_iff.2 (by omega))
theorem idx_val {l : List Int} (h : idxE l = 0) : val (idx l) = val (tot l * tot l, (l.length : Int) * sqs l) := val_low (idx_parts h).2.2.2.2.1
theorem cmp_le' {a b : Int × Int} (ha : 1 ≤ a.2) (hb : 1 ≤ b.2) : cmpI (a.1 * b.2) (b.1 * a.2) ≤ 0 ↔ val a ≤ val b := by
  rw [cross ha hb]; unfold cmpI
  split
  · constructor <;> intro <;> omega
  · split
    · constructor <;> intro <;> omega
    · constructor <;> intro <;> omega
theorem cmp_eq' {a b : Int × Int} (ha : 1 ≤ a.2) (hb : 1 ≤ b.2) : cmpI (a.1 * b.2) (b.1 * a.2) = 0 ↔ val a = val b := by
  have h1 := cross ha hb
  have h2 := cross hb ha
  have e : val a = val b ↔ val a ≤ val b ∧ val b ≤ val a := by
    constructor
    · intro e; rw [e]; exact ⟨Rat.le_refl, Rat.le_refl⟩
    · rintro ⟨x, y⟩; grind
  rw [e, h1, h2]; unfold cmpI
  split
  · constructor <;> intro <;> omega
  · split
    · constructor <;> intro <;> omega
    · constructor <;> intro <;> omega
/-- from all for one to all alike -/
theorem idx_between {l : List Int} (h : idxE l = 0) : cmpI (1 * (idx l).2) ((idx l).1 * (l.length : Int)) ≤ 0 ∧ cmpI ((idx l).1 * 1) (1 * (idx l).2) ≤ 0 ∧ (cmpI ((idx l).1 * 1) (1 * (idx l).2) = 0 ↔ gapL l = 0) := by
  obtain ⟨h1, h2⟩ := idxE_0.1 h
  obtain ⟨n1, n2, hb⟩ := few_0.1 h1
  have hn : (1 : Int) ≤ l.length := by omega
  obtain ⟨t1, t2, s1, s2, b1, b2, q1, q2⟩ := idx_parts h
  have hv := idx_val h
  have hp := fault_pos (idx_right h)
  refine ⟨?_, ?_, ?_⟩
  · rw [cmp_le' (a := (1, (l.length : Int))) (b := idx l) hn hp, hv, cross (a := (1, (l.length : Int))) (b := (tot l * tot l, (l.length : Int) * sqs l)) hn b1]
    have := (square_all fun x hx => (hb x hx).1).1
    have := Int.mul_le_mul_of_nonneg_left this (show (0 : Int) ≤ l.length by omega)
    simp only
    grind
  · rw [cmp_le' (a := idx l) (b := (1, 1)) hp (by decide), hv, cross (a := (tot l * tot l, (l.length : Int) * sqs l)) (b := (1, 1)) b1 (by decide)]
    have := cauchy l
    simpa using this
  · rw [cmp_eq' (a := idx l) (b := (1, 1)) hp (by decide), hv, gap_zero n1]
    have e : val (tot l * tot l, (l.length : Int) * sqs l) = val (1, 1) ↔ tot l * tot l = (l.length : Int) * sqs l := by
      have := cmp_eq' (a := (tot l * tot l, (l.length : Int) * sqs l)) (b := (1, 1)) b1 (by decide)
      rw [← this]
      simp only [Int.mul_one, Int.one_mul]
      unfold cmpI
      split
      · constructor <;> intro <;> omega
      · split
        · constructor <;> intro <;> omega
        · constructor <;> intro <;> omega
    rw [e]
    constructor
    · exact cauchy_eq
    · intro ha
      obtain ⟨e1, e2⟩ := alike_eq (c := l.getD 0 0) (l := l) fun x hx => ha x hx _ (getD_mem l 0 n1 0)
      rw [e1, e2]
      grind

/-! ### some go from one to another one -/
def giveL (l : List Int) (f t : Nat) (m : Int) : List Int := (l.set f (l.getD f 0 - m)).set t ((l.set f (l.getD f 0 - m)).getD t 0 + m)
theorem tot_set : ∀ (l : List Int) (f : Nat) (x : Int), f < l.length → tot (l.set f x) = tot l - l.getD f 0 + x := by
  intro l
  induction l with
  | nil => intro f x h; simp at h
  | cons y r ih =>
    intro f x h
    cases f with
    | zero => simp [tot]; omega
    | succ f => have := ih f x (by simpa using h); simp [tot] at this ⊢; omega
theorem sqs_set : ∀ (l : List Int) (f : Nat) (x : Int), f < l.length → sqs (l.set f x) = sqs l - l.getD f 0 * l.getD f 0 + x * x := by
  intro l
  induction l with
  | nil => intro f x h; simp at h
  | cons y r ih =>
    intro f x h
    cases f with
    | zero => simp [sqs]; omega
    | succ f => have := ih f x (by simpa using h); simp [sqs] at this ⊢; omega
theorem getD_set_self (l : List Int) (f : Nat) (x : Int) (h : f < l.length) : (l.set f x).getD f 0 = x := by
  simp [List.getD, h]
theorem getD_set_ne (l : List Int) {f g : Nat} (x : Int) (h : f ≠ g) : (l.set f x).getD g 0 = l.getD g 0 := by
  simp [List.getD, List.getElem?_set_ne h]
theorem giveL_length (l : List Int) (f t : Nat) (m : Int) : (giveL l f t m).length = l.length := by simp [giveL]
theorem give_same (l : List Int) (f : Nat) (m : Int) (hf : f < l.length) : giveL l f f m = l := by
  unfold giveL
  rw [getD_set_self _ _ _ hf, List.set_set]
  have e : l.getD f 0 - m + m = l.getD f 0 := by omega
  rw [e]
  apply List.ext_getElem?
  intro i
  by_cases h : f = i
  · subst h
    rw [List.getElem?_set_self hf]
    simp [List.getD, List.getElem?_eq_getElem hf]
  · rw [List.getElem?_set_ne h]
theorem give_tot (l : List Int) (f t : Nat) (m : Int) (hf : f < l.length) (ht : t < l.length) : tot (giveL l f t m) = tot l := by
  by_cases e : f = t
  · subst e; rw [give_same _ _ _ hf]
  · unfold giveL
    rw [tot_set _ _ _ (by simpa using ht), tot_set _ _ _ hf]
    omega
/-- what a richer one gives a poorer one, no more than the half between, makes squares no more -/
theorem give_sqs (l : List Int) (f t : Nat) (m : Int) (hf : f < l.length) (ht : t < l.length) (hm : 0 ≤ m) (h2 : 2 * m ≤ l.getD f 0 - l.getD t 0) : sqs (giveL l f t m) ≤ sqs l := by
  by_cases e : f = t
  · subst e; rw [give_same _ _ _ hf]; exact Int.le_refl _
  · unfold giveL
    rw [sqs_set _ _ _ (by simpa using ht), sqs_set _ _ _ hf, getD_set_ne _ _ e]
    generalize l.getD f 0 = a at *
    generalize l.getD t 0 = b at *
    have e1 : (a - m) * (a - m) = a * a - 2 * (m * a) + m * m := by grind
    have e2 : (b + m) * (b + m) = b * b + 2 * (m * b) + m * m := by grind
    have e3 : m * (2 * m) ≤ m * (a - b) := Int.mul_le_mul_of_nonneg_left h2 hm
    have e4 : m * (2 * m) = 2 * (m * m) := by grind
    have e5 : m * (a - b) = m * a - m * b := by grind
    rw [e1, e2]
    have hmm := sq_nonneg m
    omega
theorem mem_give {l : List Int} {f t : Nat} {m : Int} {x : Int} (hf : f < l.length) (ht : t < l.length) (e : f ≠ t) (h : x ∈ giveL l f t m) : x ∈ l ∨ x = l.getD f 0 - m ∨ x = l.getD t 0 + m := by
  unfold giveL at h
  rw [getD_set_ne _ _ e] at h
  rcases List.mem_or_eq_of_mem_set h with h | h
  · rcases List.mem_or_eq_of_mem_set h with h | h
    · exact .inl h
    · exact .inr (.inl h)
  · exact .inr (.inr h)
theorem give_gap (l : List Int) (f t : Nat) (m : Int) (hf : f < l.length) (ht : t < l.length) (hm : 0 ≤ m) (h2 : 2 * m ≤ l.getD f 0 - l.getD t 0) : gapL (giveL l f t m) ≤ gapL l := by
  by_cases e : f = t
  · subst e; rw [give_same _ _ _ hf]; exact Int.le_refl _
  · have h0 : 0 < l.length := by omega
    have bx : ∀ x ∈ giveL l f t m, mnL l ≤ x ∧ x ≤ mxL l := by
      intro x hx
      have a1 := (mxL_spec h0).2
      have a2 := (mnL_spec h0).2
      have f1 := a1 _ (getD_mem l f hf 0)
      have f2 := a2 _ (getD_mem l f hf 0)
      have t1 := a1 _ (getD_mem l t ht 0)
      have t2 := a2 _ (getD_mem l t ht 0)
      rcases mem_give hf ht e hx with h | h | h
      · exact ⟨a2 x h, a1 x h⟩
      · omega
      · omega
    refine gap_le (by rw [giveL_length]; exact h0) fun x hx y hy => ?_
    have := bx x hx
    have := bx y hy
    unfold gapL
    omega
/-- no less even -/
theorem give_idx {l : List Int} {f t : Nat} {m : Int} (h : idxE l = 0) (hy : few (giveL l f t m) 1000 = 0) (hf : f < l.length) (ht : t < l.length) (hm : 0 ≤ m) (h2 : 2 * m ≤ l.getD f 0 - l.getD t 0) :
    idxE (giveL l f t m) = 0 ∧ cmpI ((idx l).1 * (idx (giveL l f t m)).2) ((idx (giveL l f t m)).1 * (idx l).2) ≤ 0 := by
  have e0 : idxE (giveL l f t m) = 0 := idxE_0.2 ⟨hy, by rw [give_tot l f t m hf ht]; exact (idxE_0.1 h).2⟩
  refine ⟨e0, ?_⟩
  rw [cmp_le' (fault_pos (idx_right h)) (fault_pos (idx_right e0)), idx_val h, idx_val e0, give_tot l f t m hf ht, giveL_length]
  have p1 := (idx_parts h).2.2.2.2.1
  have p2 := (idx_parts e0).2.2.2.2.1
  rw [giveL_length] at p2
  rw [cross (a := (tot l * tot l, (l.length : Int) * sqs l)) (b := (tot l * tot l, (l.length : Int) * sqs (giveL l f t m))) p1 p2]
  have := give_sqs l f t m hf ht hm h2
  have := Int.mul_le_mul_of_nonneg_left this (show (0 : Int) ≤ l.length by omega)
  exact Int.mul_le_mul_of_nonneg_left this (sq_nonneg _)

/-! ### times as much -/
theorem tot_times (c : Int) : ∀ l : List Int, tot (l.map (· * c)) = tot l * c := by
  intro l
  induction l with
  | nil => simp [tot]
  | cons x r ih => simp only [List.map_cons, tot, ih]; grind
theorem sqs_times (c : Int) : ∀ l : List Int, sqs (l.map (· * c)) = sqs l * (c * c) := by
  intro l
  induction l with
  | nil => simp [sqs]
  | cons x r ih => simp only [List.map_cons, sqs, ih]; grind
theorem times_idx {l : List Int} {c : Int} (h : idxE l = 0) (hc : 1 ≤ c) (hm : ∀ x ∈ l, x * c ≤ 1000) : idxE (l.map (· * c)) = 0 ∧ idx (l.map (· * c)) = idx l := by
  obtain ⟨h1, h2⟩ := idxE_0.1 h
  obtain ⟨n1, n2, hb⟩ := few_0.1 h1
  have e0 : idxE (l.map (· * c)) = 0 := by
    refine idxE_0.2 ⟨few_0.2 ⟨by simpa using n1, by simpa using n2, fun x hx => ?_⟩, ?_⟩
    · obtain ⟨y, hy, rfl⟩ := List.mem_map.1 hx
      exact ⟨Int.mul_nonneg (hb y hy).1 (by omega), hm y hy⟩
    · rw [tot_times]
      intro e
      rcases Int.mul_eq_zero.1 e with e | e
      · exact h2 e
      · omega
  refine ⟨e0, ?_⟩
  have p1 := (idx_parts h).2.2.2.2.1
  have p2 := (idx_parts e0).2.2.2.2.1
  unfold idx
  rw [tot_times, sqs_times, List.length_map] at *
  have := low_of_ratio (t := tot l * c * (tot l * c)) (b := l.length * (sqs l * (c * c))) (u := tot l * tot l) (c := l.length * sqs l) p2 p1 (by grind)
  rw [this.1, this.2]
theorem times_gap {l : List Int} {c : Int} (h : 0 < l.length) (hc : 0 ≤ c) : gapL (l.map (· * c)) = gapL l * c := by
  have h' : 0 < (l.map (· * c)).length := by simpa using h
  have a := mxL_spec h
  have b := mnL_spec h
  have a' := mxL_spec h'
  have b' := mnL_spec h'
  have e1 : mxL (l.map (· * c)) = mxL l * c := by
    have u1 : mxL l * c ≤ _ := a'.2 _ (List.mem_map.2 ⟨_, a.1, rfl⟩)
    obtain ⟨y, hy, e⟩ := List.mem_map.1 a'.1
    have u2 := Int.mul_le_mul_of_nonneg_right (a.2 y hy) hc
    have e : y * c = _ := e
    omega
  have e2 : mnL (l.map (· * c)) = mnL l * c := by
    have u1 : _ ≤ mnL l * c := b'.2 _ (List.mem_map.2 ⟨_, b.1, rfl⟩)
    obtain ⟨y, hy, e⟩ := List.mem_map.1 b'.1
    have u2 := Int.mul_le_mul_of_nonneg_right (b.2 y hy) hc
    have e : y * c = _ := e
    omega
  unfold gapL
  rw [e1, e2, Int.sub_mul]
end Go.Proofs.YtdldgefahgojaajDoor.Ev

/- Slices of ints, one by one. -/
namespace Go.Proofs.YtdldgefahgojaajDoor
namespace Ev
open Go.RowKit Fr Ns Ld Fl
set_option linter.unusedSimpArgs false
set_option linter.unusedVariables false

theorem ints_cells {Q : Nat → Prop} {w : World} {a : Option Addr} {n cap : Nat} {l : List Int} (h : IntsAt Q w (.slice a n cap) l) : ∀ i, i < l.length → ∃ b off, a = some ⟨b, off, none⟩ ∧ ∀ u, Below w.heap.size w u → u.cell? ⟨b, off + i, none⟩ = some (.int .i64 (l.getD i 0)) := by
  intro i hi
  obtain ⟨_, _, e, _, hc⟩ := h
  simp only [Value.slice.injEq] at e
  obtain ⟨rfl, _, _⟩ := e
  rcases hc with h | ⟨b, off, rfl, h, _⟩
  · rw [h] at hi; simp at hi
  · exact ⟨b, off, rfl, fun u hu => cell_later hu (h i hi)⟩
theorem all_step {l : List Int} {p : Int → Bool} {k : Nat} (h : k < l.length) : (l.take (k + 1)).all p = ((l.take k).all p && p (l.getD k 0)) := by
  rw [take_snoc l k h 0, List.all_append]
  simp
theorem all_not {l : List Int} {p : Int → Bool} {k : Nat} (h : k < l.length) (hx : p (l.getD k 0) = false) : l.all p = false := by
  rw [List.all_eq_false]
  exact ⟨_, getD_mem l k h 0, by rw [hx]; exact Bool.false_ne_true⟩
end Ev
end Go.Proofs.YtdldgefahgojaajDoor

/- A made row of ints whose first places are written. No Go in it. -/
namespace Go.Proofs.YtdldgefahgojaajDoor
namespace Ev
open Go.RowKit Fr Ns Ld Fl
set_option linter.unusedSimpArgs false
set_option linter.unusedVariables false

theorem nil_intsB {Q : Nat → Prop} (w : World) : IntsAt Q w (.slice none 0 0) [] := ⟨none, 0, rfl, ⟨Nat.le_refl _, by simp⟩, .inl rfl⟩
theorem madeI (n : Nat) : (madeCells #[Value.int .i64 0] n).toList = (List.replicate n (0 : Int)).map (Value.int .i64) := by
  apply List.ext_getElem
  · simp [madeCells]
  · intro i h1 h2
    simp [madeCells, Nat.mod_one]
/-- what went so far, and room for the rest -/
theorem went_set {a : List Int} {n k : Nat} {x : Int} (ha : a.length = k) (hk : k < n) : (a ++ List.replicate (n - k) 0).set k x = (a ++ [x]) ++ List.replicate (n - (k + 1)) 0 := by
  obtain ⟨m, hm⟩ : ∃ m, n - k = m + 1 := ⟨n - k - 1, by omega⟩
  have e : n - (k + 1) = m := by omega
  rw [hm, e, List.replicate_succ, ← ha]
  simp
theorem row_set {w : World} {g n k : Nat} {T : TypeId} {a b : List Int} {x : Int} (h : RowAt w g T ((a ++ List.replicate (n - k) 0).map (Value.int .i64))) (ha : a.length = k) (hk : k < n) (hb : b = a ++ [x]) : RowAt (w.setCell ⟨g, k, none⟩ (.int .i64 x)) g T ((b ++ List.replicate (n - (k + 1)) 0).map (Value.int .i64)) := by
  have := h.set k (.int .i64 x)
  rw [← List.map_set, went_set ha hk, ← hb] at this
  exact this
end Ev
end Go.Proofs.YtdldgefahgojaajDoor

/- Slices of fractions: what a walk is told of them; and package fairsame's Fracs. -/
namespace Go.Proofs.YtdldgefahgojaajDoor
namespace Ld
open Go.RowKit Fr Ns
set_option linter.unusedSimpArgs false
set_option linter.unusedVariables false

/-- the slice v holds the fractions l in the world w, in a block of which Q holds -/
def FracsAt (Q : Nat → Prop) (w : World) (v : Value) (l : List (Int × Int)) : Prop :=
  ∃ a cap, v = .slice a l.length cap ∧ (l.length ≤ cap ∧ l.length ≤ 9223372036854775807) ∧
    (l = [] ∨ ∃ b off, a = some ⟨b, off, none⟩ ∧ (∀ i, i < l.length → w.cell? ⟨b, off + i * 2, none⟩ = some (.int .i64 (l.getD i (0, 0)).1) ∧ w.cell? ⟨b, off + i * 2 + 1, none⟩ = some (.int .i64 (l.getD i (0, 0)).2)) ∧ Q b)

theorem FracsAt.later {Q : Nat → Prop} {w w' : World} {v : Value} {l : List (Int × Int)} (hb : Below w.heap.size w w') (h : FracsAt Q w v l) : FracsAt Q w' v l := by
  obtain ⟨a, cap, rfl, hm, h⟩ := h
  refine ⟨a, cap, rfl, hm, ?_⟩
  rcases h with h | ⟨b, off, rfl, h, hQ⟩
  · exact .inl h
  · exact .inr ⟨b, off, rfl, fun i hi => ⟨cell_later hb (h i hi).1, cell_later hb (h i hi).2⟩, hQ⟩
theorem FracsAt.keep {Q R : Nat → Prop} {w w' : World} {v : Value} {l : List (Int × Int)} (hk : ∀ b, Q b → b < w.heap.size → w'.heap[b]? = w.heap[b]?) (hQR : ∀ b, Q b → b < w.heap.size → R b) (h : FracsAt Q w v l) : FracsAt R w' v l := by
  obtain ⟨a, cap, rfl, hm, h⟩ := h
  refine ⟨a, cap, rfl, hm, ?_⟩
  rcases h with h | ⟨b, off, rfl, h, hQ⟩
  · exact .inl h
  · by_cases hl : l = []
    · exact .inl hl
    · have hb : b < w.heap.size := World.block_lt_of_cell? _ _ (h 0 (List.length_pos_iff.2 hl)).1
      refine .inr ⟨b, off, rfl, fun i hi => ?_, hQR b hQ hb⟩
      rw [World.cell?_of_block (w := w) (a := ⟨b, off + i * 2, none⟩) (hk b hQ hb), World.cell?_of_block (w := w) (a := ⟨b, off + i * 2 + 1, none⟩) (hk b hQ hb)]
      exact h i hi
theorem FracsAt.shape {Q : Nat → Prop} {w : World} {v : Value} {l : List (Int × Int)} (h : FracsAt Q w v l) : ∃ a n k, v = .slice a n k := by
  obtain ⟨_, _, rfl, _⟩ := h
  exact ⟨_, _, _, rfl⟩
theorem fracs_nil (Q : Nat → Prop) (w : World) : FracsAt Q w (.slice none 0 0) [] := ⟨none, 0, rfl, ⟨Nat.le_refl _, by simp⟩, .inl rfl⟩

theorem cell_set2 {w : World} {g : Nat} {x y z z' : Value} (h0 : w.cell? ⟨g, 0, none⟩ = some z) (h1 : w.cell? ⟨g, 1, none⟩ = some z') :
    ((w.setCell ⟨g, 0, none⟩ x).setCell ⟨g, 1, none⟩ y).cell? ⟨g, 0, none⟩ = some x ∧ ((w.setCell ⟨g, 0, none⟩ x).setCell ⟨g, 1, none⟩ y).cell? ⟨g, 1, none⟩ = some y := by
  constructor <;> go_simp
theorem infoFrac : (Tryd.prog.info? 96).map (fun i => (i.zero, i.size, i.bytes)) = some (some (.agg #[.int .i64 0, .int .i64 0]), 2, 16) := by kernel_rfl

/-- the cells of a row of fractions -/
def flat : List (Int × Int) → List Value
  | [] => []
  | a :: r => .int .i64 a.1 :: .int .i64 a.2 :: flat r
theorem flat_length (l : List (Int × Int)) : (flat l).length = l.length * 2 := by
  induction l with
  | nil => rfl
  | cons a r ih => simp [flat, ih]; omega
theorem flat_append (l m : List (Int × Int)) : flat (l ++ m) = flat l ++ flat m := by
  induction l with
  | nil => rfl
  | cons a r ih => simp [flat, ih]
theorem flat_at : ∀ (l : List (Int × Int)) (i : Nat), i < l.length → (flat l)[i * 2]? = some (.int .i64 (l.getD i (0, 0)).1) ∧ (flat l)[i * 2 + 1]? = some (.int .i64 (l.getD i (0, 0)).2) := by
  intro l
  induction l with
  | nil => intro i h; simp at h
  | cons a r ih =>
    intro i h
    cases i with
    | zero => simp [flat]
    | succ i =>
      have := ih i (by simpa using h)
      rw [show (i + 1) * 2 = i * 2 + 1 + 1 by omega]
      simpa [flat] using this
/-- a row of fractions that the call owns is a list -/
theorem fracs_of_owns {Q : Nat → Prop} {w : World} {base : Nat} {v : Value} {l : List (Int × Int)} (hl : l.length ≤ 9223372036854775807) (h : w.ownsRow base 96 2 v l.length (flat l)) (hQ : ∀ g, base ≤ g → Q g) : FracsAt Q w v l := by
  have h' := h
  obtain ⟨h0, h⟩ := h
  rcases h with ⟨rfl, h⟩ | ⟨g, cap, cur, rfl, hb, hg, hc, hm, hs, ht⟩
  · have : l = [] := List.eq_nil_of_length_eq_zero h
    subst this
    exact fracs_nil _ _
  · refine ⟨_, cap, rfl, ⟨hc, hl⟩, .inr ⟨g, 0, rfl, fun i hi => ?_, hQ g hb⟩⟩
    have e := flat_at l i hi
    have c1 := h'.cells (g := g) rfl (i * 2) _ e.1
    have c2 := h'.cells (g := g) rfl (i * 2 + 1) _ e.2
    rw [add_addr] at c1 c2
    exact ⟨c1, by rw [Nat.add_assoc]; exact c2⟩
/-- the two cells of a fraction that is appended -/
theorem news_two (w : World) (x y : Value) (T : TypeId) : ∀ j u, [x, y][j]? = some u → (w.alloc (.cells #[x, y] T)).cell? ((⟨w.heap.size, 0, none⟩ : Addr).add j) = some u := by
  intro j u hj
  match j, hj with
  | 0, hj => simp at hj; subst hj; simp [Addr.add]
  | 1, hj => simp at hj; subst hj; simp [Addr.add]
theorem ones_two (a b : Int) : ∀ u ∈ [Value.int .i64 a, Value.int .i64 b], u.oneCell' = true := by
  intro u hu
  simp at hu
  rcases hu with rfl | rfl <;> rfl
end Ld
end Go.Proofs.YtdldgefahgojaajDoor

/- Rates that fit, and narrow places, of whatever flows and links: what follows of these. Plain numbers; no Go in it. -/
namespace Go.Proofs.YtdldgefahgojaajDoor.Fl
set_option linter.unusedSimpArgs false

def sumQ (x : Nat → Rat) : List Nat → Rat
  | [] => 0
  | u :: us => x u + sumQ x us
theorem sumQ_le {x y : Nat → Rat} : ∀ {l : List Nat}, (∀ g ∈ l, x g ≤ y g) → sumQ x l ≤ sumQ y l := by
  intro l
  induction l with
  | nil => intro _; exact Rat.le_refl
  | cons u us ih =>
    intro h
    have h1 := h u (by simp)
    have h2 := ih (fun g hg => h g (by simp [hg]))
    simp only [sumQ]
    grind
theorem sumQ_lt {x y : Nat → Rat} {f : Nat} : ∀ {l : List Nat}, (∀ g ∈ l, x g ≤ y g) → f ∈ l → x f < y f → sumQ x l < sumQ y l := by
  intro l
  induction l with
  | nil => intro _ hf; simp at hf
  | cons u us ih =>
    intro h hf hlt
    have h1 := h u (by simp)
    have h2 := sumQ_le (fun g hg => h g (List.mem_cons_of_mem u hg))
    simp only [sumQ]
    rcases List.mem_cons.1 hf with rfl | hf
    · grind
    · have := ih (fun g hg => h g (by simp [hg])) hf hlt
      grind
theorem sumQ_congr {x y : Nat → Rat} : ∀ {l : List Nat}, (∀ g ∈ l, x g = y g) → sumQ x l = sumQ y l := by
  intro l
  induction l with
  | nil => intro _; rfl
  | cons u us ih =>
    intro h
    simp only [sumQ]
    rw [h u (by simp), ih (fun g hg => h g (by simp [hg]))]
/-- together no more, and one has more: another one has less -/
theorem other_less {x y : Nat → Rat} {f : Nat} {l : List Nat} (hs : sumQ y l ≤ sumQ x l) (hf : f ∈ l) (hlt : x f < y f) : ∃ g ∈ l, y g < x g := by
  apply Classical.byContradiction
  intro hn
  have h : ∀ g ∈ l, x g ≤ y g := fun g hg => by
    rcases (Rat.le_total : x g ≤ y g ∨ y g ≤ x g) with h | h
    · exact h
    · apply Classical.byContradiction
      intro hh
      exact hn ⟨g, hg, by grind⟩
  have := sumQ_lt h hf hlt
  grind

def FitsQ (us : Nat → List Nat) (cap : Nat → Rat) (L n : Nat) (x : Nat → Rat) : Prop := (∀ f, f < n → 0 ≤ x f) ∧ ∀ l, l < L → sumQ x (us l) ≤ cap l
def NeckQ (us : Nat → List Nat) (cap : Nat → Rat) (L : Nat) (x : Nat → Rat) (f : Nat) : Prop := ∃ l, l < L ∧ f ∈ us l ∧ sumQ x (us l) = cap l ∧ ∀ g ∈ us l, x g ≤ x f

variable {us : Nat → List Nat} {cap : Nat → Rat} {L n : Nat} {r x : Nat → Rat}

/-- giving one more takes of one who has no more -/
theorem weak {f : Nat} (hr : FitsQ us cap L n r) (hx : NeckQ us cap L x f) (h : x f < r f) : ∃ l g, l < L ∧ g ∈ us l ∧ g ≠ f ∧ x g ≤ x f ∧ r g < x g := by
  obtain ⟨l, hl, hf, he, hm⟩ := hx
  obtain ⟨g, hg, hlt⟩ := other_less (x := x) (y := r) (by rw [he]; exact hr.2 l hl) hf h
  refine ⟨l, g, hl, hg, ?_, hm g hg, hlt⟩
  rintro rfl
  grind

theorem exists_min (p : Nat → Prop) (m : Nat → Rat) : ∀ n : Nat, (∃ f, f < n ∧ p f) → ∃ f, f < n ∧ p f ∧ ∀ g, g < n → p g → m f ≤ m g := by
  intro n
  induction n with
  | zero => rintro ⟨f, hf, _⟩; omega
  | succ n ih =>
    rintro ⟨f, hf, hp⟩
    by_cases hs : ∃ f, f < n ∧ p f
    · obtain ⟨a, ha, hpa, hm⟩ := ih hs
      by_cases hn : p n
      · rcases (Rat.le_total : m a ≤ m n ∨ m n ≤ m a) with h | h
        · refine ⟨a, by omega, hpa, fun g hg hpg => ?_⟩
          by_cases e : g = n
          · rw [e]; exact h
          · exact hm g (by omega) hpg
        · refine ⟨n, by omega, hn, fun g hg hpg => ?_⟩
          by_cases e : g = n
          · rw [e]; exact Rat.le_refl
          · exact Rat.le_trans h (hm g (by omega) hpg)
      · refine ⟨a, by omega, hpa, fun g hg hpg => ?_⟩
        by_cases e : g = n
        · rw [e] at hpg; exact absurd hpg hn
        · exact hm g (by omega) hpg
    · have e : f = n := by
        by_cases e : f = n
        · exact e
        · exact absurd ⟨f, by omega, hp⟩ hs
      subst e
      refine ⟨f, by omega, hp, fun g hg hpg => ?_⟩
      by_cases e : g = f
      · rw [e]; exact Rat.le_refl
      · exact absurd ⟨g, by omega, hpg⟩ hs

/-- the lesser of two -/
def lo (a b : Rat) : Rat := if a ≤ b then a else b
theorem lo_le_left (a b : Rat) : lo a b ≤ a := by
  unfold lo; split
  · exact Rat.le_refl
  · grind
theorem lo_le_right (a b : Rat) : lo a b ≤ b := by
  unfold lo; split
  · assumption
  · exact Rat.le_refl

/-- only one is fair -/
theorem only (hU : ∀ l, l < L → ∀ g ∈ us l, g < n) (hr : FitsQ us cap L n r) (hx : FitsQ us cap L n x) (nr : ∀ f, f < n → NeckQ us cap L r f) (nx : ∀ f, f < n → NeckQ us cap L x f) : ∀ f, f < n → r f = x f := by
  apply Classical.byContradiction
  intro hn
  have hex : ∃ f, f < n ∧ r f ≠ x f := by
    apply Classical.byContradiction
    intro h
    exact hn fun f hf => Classical.byContradiction fun h' => h ⟨f, hf, h'⟩
  obtain ⟨f, hf, hne, hmin⟩ := exists_min (fun f => r f ≠ x f) (fun f => lo (r f) (x f)) n hex
  rcases (Rat.le_total : r f ≤ x f ∨ x f ≤ r f) with h | h
  · have hlt : r f < x f := Rat.lt_of_le_of_ne h hne
    obtain ⟨l, g, hl, hg, _, h1, h2⟩ := weak hx (nr f hf) hlt
    have h3 := hmin g (hU l hl g hg) (fun e => by rw [e] at h2; exact absurd h2 Rat.lt_irrefl)
    have h4 := lo_le_right (r g) (x g)
    have h5 : lo (r f) (x f) = r f := if_pos h
    grind
  · have hlt : x f < r f := Rat.lt_of_le_of_ne h (Ne.symm hne)
    obtain ⟨l, g, hl, hg, _, h1, h2⟩ := weak hr (nx f hf) hlt
    have h3 := hmin g (hU l hl g hg) (fun e => by rw [e] at h2; exact absurd h2 Rat.lt_irrefl)
    have h4 := lo_le_left (r g) (x g)
    have h5 : lo (r f) (x f) = x f := if_neg (by grind)
    grind

/-- how many have no more than t -/
def cnt (n : Nat) (y : Nat → Rat) (t : Rat) : Nat := (List.range n).countP fun f => decide (y f ≤ t)
theorem countP_lt {p q : Nat → Bool} : ∀ {l : List Nat} {f : Nat}, (∀ g ∈ l, p g = true → q g = true) → f ∈ l → p f = false → q f = true → l.countP p < l.countP q := by
  intro l
  induction l with
  | nil => intro f _ hf; simp at hf
  | cons u us ih =>
    intro f h hf hp hq
    have hle : us.countP p ≤ us.countP q := List.countP_mono_left fun g hg hpg => h g (by simp [hg]) hpg
    rcases List.mem_cons.1 hf with rfl | hf
    · rw [List.countP_cons, List.countP_cons, hp, hq]
      simp only [Bool.false_eq_true, if_false, if_true]
      omega
    · have h1 := ih (fun g hg => h g (by simp [hg])) hf hp hq
      have h2 := h u (by simp)
      rw [List.countP_cons, List.countP_cons]
      cases hpu : p u with
      | false => simp only [Bool.false_eq_true, if_false]; split <;> omega
      | true => rw [h2 hpu]; simp only [if_true]; omega

/-- no way that fits helps the weakest more: where below v as many have no more, at v no fewer have -/
theorem best (hU : ∀ l, l < L → ∀ g ∈ us l, g < n) (hr : FitsQ us cap L n r) (nx : ∀ f, f < n → NeckQ us cap L x f) (v : Rat) (hv : ∀ t, t < v → cnt n r t = cnt n x t) :
    cnt n x v ≤ cnt n r v := by
  have hall : ∀ f, f < n → x f ≤ v → r f = x f := by
    apply Classical.byContradiction
    intro hn
    have hex : ∃ f, f < n ∧ (x f ≤ v ∧ r f ≠ x f) := by
      apply Classical.byContradiction
      intro h
      exact hn fun f hf hfv => Classical.byContradiction fun h' => h ⟨f, hf, hfv, h'⟩
    obtain ⟨f, hf, ⟨hfv, hne⟩, hmin⟩ := exists_min (fun f => x f ≤ v ∧ r f ≠ x f) (fun f => lo (r f) (x f)) n hex
    -- none that differs has more than it had, of those at the least place
    have key : ∀ g, g < n → x g ≤ v → x g < r g → x g ≤ lo (r f) (x f) → False := by
      intro g hg hgv hlt hle
      obtain ⟨l, k, hl, hk, _, h1, h2⟩ := weak hr (nx g hg) hlt
      have h3 := hmin k (hU l hl k hk) ⟨Rat.le_trans h1 hgv, fun e => by rw [e] at h2; exact absurd h2 Rat.lt_irrefl⟩
      have h4 := lo_le_left (r k) (x k)
      grind
    rcases (Rat.le_total : r f ≤ x f ∨ x f ≤ r f) with h | h
    · have hlt : r f < x f := Rat.lt_of_le_of_ne h hne
      have hlo : lo (r f) (x f) = r f := if_pos h
      have ht := hv (r f) (by grind)
      have : cnt n x (r f) < cnt n r (r f) := by
        refine countP_lt (f := f) (fun g hg hp => ?_) (List.mem_range.2 hf) (decide_eq_false (by grind)) (decide_eq_true Rat.le_refl)
        have hgn := List.mem_range.1 hg
        have hxg : x g ≤ r f := of_decide_eq_true hp
        apply decide_eq_true
        by_cases e : r g = x g
        · rw [e]; exact hxg
        · have hgv : x g ≤ v := by grind
          rcases (Rat.le_total : r g ≤ x g ∨ x g ≤ r g) with h' | h'
          · exact Rat.le_trans h' hxg
          · exact (key g hgn hgv (Rat.lt_of_le_of_ne h' (Ne.symm e)) (by rw [hlo]; exact hxg)).elim
      omega
    · have hlt : x f < r f := Rat.lt_of_le_of_ne h (Ne.symm hne)
      have hlo : lo (r f) (x f) = x f := if_neg (by grind)
      exact key f hf hfv hlt (by rw [hlo]; exact Rat.le_refl)
  exact List.countP_mono_left fun f hf hp => by
    have hfn := List.mem_range.1 hf
    have hfv : x f ≤ v := of_decide_eq_true hp
    exact decide_eq_true (by rw [hall f hfn hfv]; exact hfv)
end Go.Proofs.YtdldgefahgojaajDoor.Fl

/- All rise together: the document's rounds as plain lists, and what each step of them is. No Go in it. -/
namespace Go.Proofs.YtdldgefahgojaajDoor.Fl
open Fr Ns Ld
set_option linter.unusedSimpArgs false

def dB (done : List Bool) (f : Nat) : Bool := done.getD f false
def rP (rate : List (Int × Int)) (f : Nat) : Int × Int := rate.getD f (0, 0)
def negP (a : Int × Int) : Int × Int := (-a.1, a.2)
/-- what a link takes, less the rates of those that are not free, and how many are free -/
def linkSum (rate : List (Int × Int)) (done : List Bool) : List Int → Int × Int → Nat → (Int × Int) × Nat
  | [], s, k => (s, k)
  | u :: us, s, k => if dB done u.toNat then linkSum rate done us (sumP s (negP (rP rate u.toNat))) k else linkSum rate done us s (k + 1)
/-- a fraction's k-th part -/
def partP (s : Int × Int) (k : Int) : Int × Int := (lowT s.1 (s.2 * k), lowB s.1 (s.2 * k))
def shareOf (caps : List Int) (paths : List (List Int)) (rate : List (Int × Int)) (done : List Bool) (l : Nat) : Option (Int × Int) :=
  if (linkSum rate done (users paths l) (caps.getD l 0, 1) 0).2 = 0 then none
  else some (partP (linkSum rate done (users paths l) (caps.getD l 0, 1) 0).1 ((linkSum rate done (users paths l) (caps.getD l 0, 1) 0).2 : Nat))
/-- the least one of the first so many -/
def bestOf (sh : Nat → Option (Int × Int)) : Nat → Option (Int × Int)
  | 0 => none
  | n + 1 => match sh n, bestOf sh n with
    | none, b => b
    | some s, none => some s
    | some s, some b => if s.1 * b.2 < b.1 * s.2 then some s else some b
/-- the free flows that go over a link with that share -/
def roundOf (paths : List (List Int)) (done : List Bool) (nar : Nat → Bool) : List Int :=
  ((List.range paths.length).filter fun f => !dB done f && (paths.getD f []).any fun x => nar x.toNat).map (fun f : Nat => (f : Int))
def setRate (rate : List (Int × Int)) (rd : List Int) (b : Int × Int) : List (Int × Int) := (List.range rate.length).map fun f : Nat => if rd.contains (f : Int) then b else rP rate f
def setDone (done : List Bool) (rd : List Int) : List Bool := (List.range done.length).map fun f : Nat => rd.contains (f : Int) || dB done f
def narOf (sh : Nat → Option (Int × Int)) (n : Nat) (l : Nat) : Bool := decide (l < n) && (sh l).isSome && decide (sh l = bestOf sh n)
def fillFrom (caps : List Int) (paths : List (List Int)) : Nat → List (Int × Int) → List Bool → List (Int × Int) × List (List Int)
  | 0, rate, _ => (rate, [])
  | k + 1, rate, done => if done.all id then (rate, []) else
    match bestOf (shareOf caps paths rate done) caps.length with
    | none => (rate, [])
    | some b => ((fillFrom caps paths k (setRate rate (roundOf paths done (narOf (shareOf caps paths rate done) caps.length)) b) (setDone done (roundOf paths done (narOf (shareOf caps paths rate done) caps.length)))).1,
        roundOf paths done (narOf (shareOf caps paths rate done) caps.length) :: (fillFrom caps paths k (setRate rate (roundOf paths done (narOf (shareOf caps paths rate done) caps.length)) b) (setDone done (roundOf paths done (narOf (shareOf caps paths rate done) caps.length)))).2)
def fill (caps : List Int) (paths : List (List Int)) : List (Int × Int) × List (List Int) := fillFrom caps paths paths.length (List.replicate paths.length (0, 0)) (List.replicate paths.length false)

def xQ (rate : List (Int × Int)) (f : Nat) : Rat := val (rP rate f)
/-- what each has, if those that are free have t -/
def lev (done : List Bool) (rate : List (Int × Int)) (t : Rat) (u : Nat) : Rat := if dB done u then xQ rate u else t
/-- who goes over a link -/
def usN (paths : List (List Int)) (l : Nat) : List Nat := (users paths l).map Int.toNat
def capQ (caps : List Int) (l : Nat) : Rat := ((caps.getD l 0 : Int) : Rat)

/-- a net whose links and paths are right; there may be more links than a net's -/
def Good (caps : List Int) (paths : List (List Int)) : Prop :=
  (∀ c ∈ caps, 1 ≤ c ∧ c ≤ 1000) ∧ (∀ p ∈ paths, p ≠ [] ∧ ∀ x ∈ p, 0 ≤ x ∧ x < caps.length) ∧ paths.length ≤ 6 ∧ 0 < paths.length

/-! ### who goes over a link -/
theorem usersFrom_iff (link : Int) : ∀ (l : List (List Int)) (i : Nat) (f : Nat), ((i + f : Nat) : Int) ∈ usersFrom link i l ↔ f < l.length ∧ inB (l.getD f []) link = true := by
  intro l
  induction l with
  | nil => intro i f; simp [usersFrom]
  | cons p r ih =>
    intro i f
    cases f with
    | zero =>
      have hno : ((i : Nat) : Int) ∉ usersFrom link (i + 1) r := fun h => by
        have := usersFrom_mem link r (i + 1) _ h
        omega
      simp only [usersFrom, Nat.add_zero]
      split
      · rename_i hp; simp [hp]
      · rename_i hp; simp [hno, hp]
    | succ f =>
      have e : i + (f + 1) = (i + 1) + f := by omega
      rw [e]
      simp only [usersFrom]
      have := ih (i + 1) f
      split
      · rw [List.mem_cons, this]
        have hne : ¬ (((i + 1 + f : Nat) : Int) = (i : Int)) := by omega
        simp only [hne, false_or]
        simp
      · rw [this]; simp
theorem usN_iff {paths : List (List Int)} {l f : Nat} : f ∈ usN paths l ↔ f < paths.length ∧ inB (paths.getD f []) (l : Int) = true := by
  have := usersFrom_iff (l : Int) paths 0 f
  rw [Nat.zero_add] at this
  unfold usN users
  rw [← this, List.mem_map]
  constructor
  · rintro ⟨a, ha, rfl⟩
    have h2 := usersFrom_mem (l : Int) paths 0 a ha
    have : ((a.toNat : Nat) : Int) = a := by omega
    rw [this]; exact ha
  · intro h
    exact ⟨_, h, by simp⟩
theorem usN_lt {paths : List (List Int)} {l f : Nat} (h : f ∈ usN paths l) : f < paths.length := (usN_iff.1 h).1

/-! ### a link's share -/
theorem lev_lin (done : List Bool) (rate : List (Int × Int)) (s t : Rat) : ∀ us : List Nat, sumQ (lev done rate s) us = sumQ (lev done rate t) us + (s - t) * ((us.countP fun u => !dB done u : Nat) : Rat) := by
  intro us
  induction us with
  | nil => simp [sumQ]; grind
  | cons u us ih =>
    simp only [sumQ, List.countP_cons]
    rw [ih]
    unfold lev
    cases dB done u with
    | true => simp; grind
    | false =>
      simp only [Bool.not_false, if_true, Bool.false_eq_true, if_false]
      rw [Rat.natCast_add]
      grind
theorem linkSum_spec (rate : List (Int × Int)) (done : List Bool) (D : Int) : ∀ (us : List Int) (s : Int × Int) (k : Nat), Over D s → (∀ u ∈ us, dB done u.toNat = true → Over D (rP rate u.toNat)) →
    Over D (linkSum rate done us s k).1 ∧ (linkSum rate done us s k).2 = k + (us.map Int.toNat).countP (fun u => !dB done u) ∧ sumQ (lev done rate 0) (us.map Int.toNat) = val s - val (linkSum rate done us s k).1 := by
  intro us
  induction us with
  | nil => intro s k hs _; refine ⟨hs, by simp [linkSum], ?_⟩; simp only [linkSum, sumQ, List.map_nil]; grind
  | cons u us ih =>
    intro s k hs h
    simp only [linkSum, List.map_cons, sumQ, List.countP_cons]
    by_cases hd : dB done u.toNat = true
    · have hr := h u (by simp) hd
      have hn : Over D (negP (rP rate u.toNat)) := over_neg hr
      obtain ⟨h1, h2, h3⟩ := ih (sumP s (negP (rP rate u.toNat))) k (over_sum hs hn) (fun v hv => h v (by simp [hv]))
      rw [if_pos hd]
      refine ⟨h1, ?_, ?_⟩
      · rw [h2, hd]; simp
      · rw [h3, val_sum hs.1 hn.1]
        have : val (negP (rP rate u.toNat)) = - xQ rate u.toNat := val_neg _
        rw [this]
        simp only [lev, hd, if_true]
        grind
    · obtain ⟨h1, h2, h3⟩ := ih s (k + 1) hs (fun v hv => h v (by simp [hv]))
      rw [if_neg hd]
      have hd' : dB done u.toNat = false := by simpa using hd
      refine ⟨h1, ?_, ?_⟩
      · rw [h2, hd']; simp; omega
      · rw [h3]
        simp only [lev, hd', Bool.false_eq_true, if_false]
        grind
theorem share_some {caps : List Int} {paths : List (List Int)} {rate : List (Int × Int)} {done : List Bool} {D : Int} {l : Nat} {s : Int × Int} (hr : ∀ f, f < paths.length → dB done f = true → Over D (rP rate f)) (h : shareOf caps paths rate done l = some s) :
    sumQ (lev done rate (val s)) (usN paths l) = capQ caps l ∧ (∃ u ∈ usN paths l, dB done u = false) ∧ ∃ k : Nat, 1 ≤ k ∧ k ≤ paths.length ∧ Over (D * k) s := by
  have hsp := linkSum_spec rate done D (users paths l) (caps.getD l 0, 1) 0 (over_whole D _) (fun u hu hd => hr _ (by have := users_mem hu; omega) hd)
  unfold shareOf at h
  have e0 : (users paths l).map Int.toNat = usN paths l := rfl
  rw [e0] at hsp
  revert h hsp
  generalize linkSum rate done (users paths l) (caps.getD l 0, 1) 0 = z
  intro h hsp
  obtain ⟨h1, h2, h3⟩ := hsp
  split at h
  · cases h
  · rename_i hk
    obtain rfl := Option.some.inj h
    have hk1 : 1 ≤ z.2 := by omega
    have hle : z.2 ≤ paths.length := by
      rw [h2, Nat.zero_add]
      refine Nat.le_trans List.countP_le_length ?_
      have := users_length (l : Int) 0 paths
      unfold usN users
      rw [List.length_map]
      exact this
    refine ⟨?_, ?_, z.2, hk1, hle, over_part h1 (by omega)⟩
    · have hp := val_part (t := z.1.1) (b := z.1.2) (k := (z.2 : Int)) h1.1 (by omega)
      have hz : val (z.1.1, z.1.2) = val z.1 := rfl
      rw [hz] at hp
      rw [lev_lin done rate _ 0, h3, val_whole]
      have hc : ((usN paths l).countP fun u => !dB done u) = z.2 := by rw [h2, Nat.zero_add]
      rw [hc]
      have : ((z.2 : Nat) : Rat) = (((z.2 : Nat) : Int) : Rat) := by rw [Rat.intCast_natCast]
      rw [this]
      unfold partP capQ
      grind
    · apply Classical.byContradiction
      intro hn
      have : (usN paths l).countP (fun u => !dB done u) = 0 := by
        rw [List.countP_eq_zero]
        intro u hu hd
        exact hn ⟨u, hu, by simpa using hd⟩
      omega
theorem share_none {caps : List Int} {paths : List (List Int)} {rate : List (Int × Int)} {done : List Bool} {D : Int} {l : Nat} (hr : ∀ f, f < paths.length → dB done f = true → Over D (rP rate f)) (h : shareOf caps paths rate done l = none) :
    ∀ u ∈ usN paths l, dB done u = true := by
  have hsp := linkSum_spec rate done D (users paths l) (caps.getD l 0, 1) 0 (over_whole D _) (fun u hu hd => hr _ (by have := users_mem hu; omega) hd)
  unfold shareOf at h
  split at h
  · rename_i hk
    intro u hu
    have : (usN paths l).countP (fun u => !dB done u) = 0 := by
      have := hsp.2.1
      rw [hk] at this
      unfold usN
      omega
    rw [List.countP_eq_zero] at this
    simpa using this u hu
  · cases h
theorem best_some {sh : Nat → Option (Int × Int)} (hp : ∀ l s, sh l = some s → 1 ≤ s.2) : ∀ (n : Nat) (b : Int × Int), bestOf sh n = some b → (∃ l, l < n ∧ sh l = some b) ∧ ∀ l s, l < n → sh l = some s → val b ≤ val s := by
  intro n
  induction n with
  | zero => intro b h; simp [bestOf] at h
  | succ n ih =>
    intro b h
    unfold bestOf at h
    cases hs : sh n with
    | none =>
      rw [hs] at h
      obtain ⟨⟨l, hl, hb⟩, hm⟩ := ih b h
      refine ⟨⟨l, by omega, hb⟩, fun l s hl hs' => ?_⟩
      by_cases e : l = n
      · rw [e, hs] at hs'; cases hs'
      · exact hm l s (by omega) hs'
    | some s =>
      rw [hs] at h
      cases hb : bestOf sh n with
      | none =>
        rw [hb] at h
        obtain rfl := Option.some.inj h
        refine ⟨⟨n, by omega, hs⟩, fun l t hl ht => ?_⟩
        by_cases e : l = n
        · rw [e, hs] at ht; cases ht; exact Rat.le_refl
        · exfalso
          have hno : ∀ m, bestOf sh m = none → ∀ l, l < m → sh l = none := by
            intro m
            induction m with
            | zero => intro _ l hl; omega
            | succ m ihm =>
              intro hm l hl
              unfold bestOf at hm
              cases hsm : sh m with
              | none =>
                rw [hsm] at hm
                by_cases e : l = m
                · rw [e]; exact hsm
                · exact ihm hm l (by omega)
              | some x =>
                rw [hsm] at hm
                cases hbm : bestOf sh m with
                | none => rw [hbm] at hm; cases hm
                | some y => rw [hbm] at hm; simp only at hm; split at hm <;> cases hm
          have := hno n hb l (by omega)
          rw [this] at ht; cases ht
      | some b0 =>
        rw [hb] at h
        obtain ⟨⟨l0, hl0, hb0⟩, hm⟩ := ih b0 hb
        have p1 := hp n s hs
        have p2 := hp l0 b0 hb0
        simp only at h
        split at h
        · rename_i hlt
          obtain rfl := Option.some.inj h
          have hv : val s < val b0 := (cross_lt p1 p2).2 hlt
          refine ⟨⟨n, by omega, hs⟩, fun l t hl ht => ?_⟩
          by_cases e : l = n
          · rw [e, hs] at ht; cases ht; exact Rat.le_refl
          · have := hm l t (by omega) ht
            grind
        · rename_i hlt
          obtain rfl := Option.some.inj h
          have hv : ¬ val s < val b0 := fun h => hlt ((cross_lt p1 p2).1 h)
          refine ⟨⟨l0, by omega, hb0⟩, fun l t hl ht => ?_⟩
          by_cases e : l = n
          · rw [e, hs] at ht; cases ht; grind
          · exact hm l t (by omega) ht
theorem best_none {sh : Nat → Option (Int × Int)} : ∀ m, bestOf sh m = none → ∀ l, l < m → sh l = none := by
  intro m
  induction m with
  | zero => intro _ l hl; omega
  | succ m ihm =>
    intro hm l hl
    unfold bestOf at hm
    cases hsm : sh m with
    | none =>
      rw [hsm] at hm
      by_cases e : l = m
      · rw [e]; exact hsm
      · exact ihm hm l (by omega)
    | some x =>
      rw [hsm] at hm
      cases hbm : bestOf sh m with
      | none => rw [hbm] at hm; cases hm
      | some y => rw [hbm] at hm; simp only at hm; split at hm <;> cases hm
end Go.Proofs.YtdldgefahgojaajDoor.Fl

/- All rise together: what holds behind each round, and in the end: it fits, and each has its narrow place. No Go in it. -/
namespace Go.Proofs.YtdldgefahgojaajDoor.Fl
open Fr Ns Ld
set_option linter.unusedSimpArgs false

theorem rP_setRate {rate : List (Int × Int)} {rd : List Int} {b : Int × Int} {f : Nat} (h : f < rate.length) : rP (setRate rate rd b) f = if (f : Int) ∈ rd then b else rP rate f := by
  unfold setRate
  have e : rP ((List.range rate.length).map fun f : Nat => if rd.contains (f : Int) then b else rP rate f) f = if rd.contains (f : Int) then b else rP rate f := by
    conv => lhs; unfold rP
    simp only [List.getD, List.getElem?_map, List.getElem?_range h]
    rfl
  rw [e]
  by_cases hm : (f : Int) ∈ rd
  · rw [if_pos hm, if_pos (by simpa using hm)]
  · rw [if_neg hm, if_neg (by simpa using hm)]
theorem dB_setDone {done : List Bool} {rd : List Int} {f : Nat} (h : f < done.length) : dB (setDone done rd) f = (decide ((f : Int) ∈ rd) || dB done f) := by
  unfold setDone
  have e : dB ((List.range done.length).map fun f : Nat => rd.contains (f : Int) || dB done f) f = (rd.contains (f : Int) || dB done f) := by
    conv => lhs; unfold dB
    simp only [List.getD, List.getElem?_map, List.getElem?_range h]
    rfl
  rw [e]
  congr 1
  by_cases hm : (f : Int) ∈ rd
  · simp [hm]
  · simp [hm]
theorem mem_round {paths : List (List Int)} {done : List Bool} {nar : Nat → Bool} {f : Nat} : (f : Int) ∈ roundOf paths done nar ↔ f < paths.length ∧ dB done f = false ∧ ∃ x ∈ paths.getD f [], nar x.toNat = true := by
  unfold roundOf
  rw [List.mem_map]
  constructor
  · rintro ⟨a, ha, e⟩
    have e' : a = f := by omega
    subst e'
    rw [List.mem_filter, List.mem_range] at ha
    simp only [Bool.and_eq_true, Bool.not_eq_true', List.any_eq_true] at ha
    exact ⟨ha.1, ha.2.1, ha.2.2⟩
  · rintro ⟨h1, h2, h3⟩
    refine ⟨f, ?_, rfl⟩
    rw [List.mem_filter, List.mem_range]
    simp only [Bool.and_eq_true, Bool.not_eq_true', List.any_eq_true]
    exact ⟨h1, h2, h3⟩
theorem round_nat {paths : List (List Int)} {done : List Bool} {nar : Nat → Bool} {u : Int} (h : u ∈ roundOf paths done nar) : ∃ f : Nat, u = f ∧ f < paths.length := by
  unfold roundOf at h
  rw [List.mem_map] at h
  obtain ⟨a, ha, rfl⟩ := h
  exact ⟨a, rfl, by rw [List.mem_filter, List.mem_range] at ha; exact ha.1⟩
theorem le_sumQ {x : Nat → Rat} {f : Nat} : ∀ {l : List Nat}, (∀ g ∈ l, 0 ≤ x g) → f ∈ l → x f ≤ sumQ x l := by
  intro l
  induction l with
  | nil => intro _ h; simp at h
  | cons u us ih =>
    intro h hf
    have h1 := h u (by simp)
    have h0 : (0 : Rat) ≤ sumQ x us := by
      have := sumQ_le (x := fun _ => 0) (y := x) (l := us) (fun g hg => h g (by simp [hg]))
      have e : ∀ l : List Nat, sumQ (fun _ => 0) l = 0 := by
        intro l
        induction l with
        | nil => rfl
        | cons a r ih => simp only [sumQ, ih]; grind
      rw [e] at this
      exact this
    simp only [sumQ]
    rcases List.mem_cons.1 hf with rfl | hf
    · grind
    · have := ih (fun g hg => h g (by simp [hg])) hf
      grind

/-- what holds behind each round: b is the last rate, D what the bottoms divide -/
structure Inv (caps : List Int) (paths : List (List Int)) (rate : List (Int × Int)) (done : List Bool) (b : Rat) (D : Int) : Prop where
  lr : rate.length = paths.length
  ld : done.length = paths.length
  hD : 1 ≤ D
  hb : 0 ≤ b
  over : ∀ f, f < paths.length → dB done f = true → Over D (rP rate f) ∧ 0 < xQ rate f ∧ xQ rate f ≤ b
  room : ∀ l, l < caps.length → sumQ (lev done rate b) (usN paths l) ≤ capQ caps l
  strict : ∀ l, l < caps.length → (∃ u ∈ usN paths l, dB done u = false) → sumQ (lev done rate b) (usN paths l) < capQ caps l
  neck : ∀ f, f < paths.length → dB done f = true → ∃ l, l < caps.length ∧ f ∈ usN paths l ∧ (∀ g ∈ usN paths l, dB done g = true) ∧ sumQ (xQ rate) (usN paths l) = capQ caps l ∧ ∀ g ∈ usN paths l, xQ rate g ≤ xQ rate f

theorem capQ_bd {caps : List Int} {l : Nat} (hc : ∀ c ∈ caps, 1 ≤ c ∧ c ≤ 1000) (hl : l < caps.length) : 1 ≤ capQ caps l ∧ capQ caps l ≤ 1000 := by
  have := hc _ (getD_mem caps l hl 0)
  unfold capQ
  constructor
  · have h : ((1 : Int) : Rat) ≤ ((caps.getD l 0 : Int) : Rat) := Rat.intCast_le_intCast.2 this.1
    simpa using h
  · have h : ((caps.getD l 0 : Int) : Rat) ≤ ((1000 : Int) : Rat) := Rat.intCast_le_intCast.2 this.2
    exact h
theorem getD_replicate {α : Type} (n : Nat) (a d : α) (f : Nat) (h : f < n) : (List.replicate n a).getD f d = a := by
  simp [List.getD, List.getElem?_replicate, h]
theorem inv_start {caps : List Int} {paths : List (List Int)} (hg : Good caps paths) : Inv caps paths (List.replicate paths.length (0, 0)) (List.replicate paths.length false) 0 1 := by
  have hd : ∀ f, dB (List.replicate paths.length false) f = false := fun f => by
    unfold dB
    simp only [List.getD, List.getElem?_replicate]
    split <;> rfl
  have h0 : ∀ l, sumQ (lev (List.replicate paths.length false) (List.replicate paths.length (0, 0)) 0) l = 0 := by
    intro l
    induction l with
    | nil => rfl
    | cons u us ih => simp only [sumQ, ih, lev, hd, Bool.false_eq_true, if_false]; grind
  refine ⟨by simp, by simp, by decide, Rat.le_refl, fun f _ h => ?_, fun l hl => ?_, fun l hl _ => ?_, fun f _ h => ?_⟩
  · rw [hd] at h; cases h
  · rw [h0]; have := capQ_bd hg.1 hl; grind
  · rw [h0]; have := capQ_bd hg.1 hl; grind
  · rw [hd] at h; cases h

theorem toNat_lt {caps : List Int} {paths : List (List Int)} (hg : Good caps paths) {f : Nat} (hf : f < paths.length) {x : Int} (hx : x ∈ paths.getD f []) : x.toNat < caps.length ∧ f ∈ usN paths x.toNat := by
  have hp := hg.2.1 _ (getD_mem paths f hf [])
  have hb := hp.2 x hx
  refine ⟨by omega, usN_iff.2 ⟨hf, ?_⟩⟩
  have e : ((x.toNat : Nat) : Int) = x := by omega
  rw [e]
  exact inB_of_mem hx

/-- one round -/
theorem inv_step {caps : List Int} {paths : List (List Int)} {rate : List (Int × Int)} {done : List Bool} {b : Rat} {D : Int} (hg : Good caps paths) (hi : Inv caps paths rate done b D) (hf : ∃ f, f < paths.length ∧ dB done f = false) :
    ∃ bst, bestOf (shareOf caps paths rate done) caps.length = some bst ∧ b < val bst ∧ roundOf paths done (narOf (shareOf caps paths rate done) caps.length) ≠ [] ∧
      ∃ k : Nat, 1 ≤ k ∧ k ≤ 6 ∧ Inv caps paths (setRate rate (roundOf paths done (narOf (shareOf caps paths rate done) caps.length)) bst) (setDone done (roundOf paths done (narOf (shareOf caps paths rate done) caps.length))) (val bst) (D * k) := by
  obtain ⟨f0, hf0, hd0⟩ := hf
  have hr : ∀ f, f < paths.length → dB done f = true → Over D (rP rate f) := fun f h1 h2 => (hi.over f h1 h2).1
  have hp2 : ∀ l s, shareOf caps paths rate done l = some s → 1 ≤ s.2 := fun l s h => by
    obtain ⟨_, _, k, _, _, ho⟩ := share_some hr h
    exact ho.1
  generalize hsh : shareOf caps paths rate done = sh at *
  have hS : ∀ l s, sh l = some s → sumQ (lev done rate (val s)) (usN paths l) = capQ caps l ∧ (∃ u ∈ usN paths l, dB done u = false) ∧ ∃ k : Nat, 1 ≤ k ∧ k ≤ paths.length ∧ Over (D * k) s := fun l s h => share_some hr (by rw [hsh]; exact h)
  have hN : ∀ l, sh l = none → ∀ u ∈ usN paths l, dB done u = true := fun l h => share_none hr (by rw [hsh]; exact h)
  cases hbest : bestOf sh caps.length with
  | none =>
    exfalso
    have hp := hg.2.1 _ (getD_mem paths f0 hf0 [])
    obtain ⟨x, hx⟩ := List.exists_mem_of_ne_nil _ hp.1
    obtain ⟨h1, h2⟩ := toNat_lt hg hf0 hx
    have := hN _ (best_none _ hbest _ h1) _ h2
    rw [hd0] at this; cases this
  | some bst =>
    obtain ⟨⟨lb, hlb, hsb⟩, hmin⟩ := best_some hp2 _ _ hbest
    obtain ⟨s1, ⟨ub, hub, hdb⟩, k, hk1, hk2, hov⟩ := hS lb bst hsb
    have hnar : ∀ l, narOf sh caps.length l = true ↔ l < caps.length ∧ sh l = some bst := by
      intro l
      unfold narOf
      rw [hbest]
      simp only [Bool.and_eq_true, decide_eq_true_eq]
      constructor
      · rintro ⟨⟨h1, _⟩, h3⟩; exact ⟨h1, h3⟩
      · rintro ⟨h1, h3⟩; exact ⟨⟨h1, by rw [h3]; rfl⟩, h3⟩
    have hbv : b < val bst := by
      have hst := hi.strict lb hlb ⟨ub, hub, hdb⟩
      rw [← s1] at hst
      apply Classical.byContradiction
      intro hn
      have hle : val bst ≤ b := by grind
      have := sumQ_le (x := lev done rate (val bst)) (y := lev done rate b) (l := usN paths lb) (fun g _ => by
        unfold lev
        split
        · exact Rat.le_refl
        · exact hle)
      grind
    generalize hrd : roundOf paths done (narOf sh caps.length) = rd
    have hmem : ∀ f : Nat, (f : Int) ∈ rd ↔ f < paths.length ∧ dB done f = false ∧ ∃ x ∈ paths.getD f [], x.toNat < caps.length ∧ sh x.toNat = some bst := by
      intro f
      rw [← hrd, mem_round]
      simp only [hnar]
    have hmem' : ∀ (f l : Nat), l < caps.length → f ∈ usN paths l → dB done f = false → sh l = some bst → (f : Int) ∈ rd := by
      intro f l hl hf hd hs
      obtain ⟨h1, h2⟩ := usN_iff.1 hf
      refine (hmem f).2 ⟨h1, hd, (l : Int), ?_, by simpa using hl, by simpa using hs⟩
      simpa [inB] using h2
    have hrP : ∀ f, f < paths.length → rP (setRate rate rd bst) f = if (f : Int) ∈ rd then bst else rP rate f := fun f h => rP_setRate (by rw [hi.lr]; exact h)
    have hdB : ∀ f, f < paths.length → dB (setDone done rd) f = (decide ((f : Int) ∈ rd) || dB done f) := fun f h => dB_setDone (by rw [hi.ld]; exact h)
    have hx1 : ∀ f, f < paths.length → (f : Int) ∈ rd → xQ (setRate rate rd bst) f = val bst := fun f h h' => by unfold xQ; rw [hrP f h, if_pos h']
    have hx2 : ∀ f, f < paths.length → (f : Int) ∉ rd → xQ (setRate rate rd bst) f = xQ rate f := fun f h h' => by unfold xQ; rw [hrP f h, if_neg h']
    have hno : ∀ f : Nat, dB done f = true → (f : Int) ∉ rd := fun f h h' => by have := ((hmem f).1 h').2.1; rw [h] at this; cases this
    have hlev : ∀ f, f < paths.length → lev (setDone done rd) (setRate rate rd bst) (val bst) f = lev done rate (val bst) f := by
      intro f h
      unfold lev
      rw [hdB f h]
      by_cases h1 : (f : Int) ∈ rd
      · have h2 := ((hmem f).1 h1).2.1
        rw [h2]
        simp only [h1, decide_true, Bool.true_or, if_true, Bool.false_eq_true, if_false]
        exact hx1 f h h1
      · simp only [h1, decide_false, Bool.false_or]
        cases hd : dB done f with
        | true => simp only [if_true]; exact hx2 f h h1
        | false => simp only [Bool.false_eq_true, if_false]
    have hlevS : ∀ l, sumQ (lev (setDone done rd) (setRate rate rd bst) (val bst)) (usN paths l) = sumQ (lev done rate (val bst)) (usN paths l) := fun l => sumQ_congr fun g hg => hlev g (usN_lt hg)
    refine ⟨bst, rfl, hbv, ?_, k, hk1, Nat.le_trans hk2 hg.2.2.1, ?_⟩
    · intro he
      have := hmem' ub lb hlb hub hdb hsb
      rw [he] at this
      cases this
    · refine ⟨by simp [setRate, hi.lr], by simp [setDone, hi.ld], ?_, ?_, ?_, ?_, ?_, ?_⟩
      · have := Int.mul_le_mul hi.hD (show (1 : Int) ≤ (k : Int) by omega) (by decide) (by have := hi.hD; omega)
        omega
      · have := hi.hb; grind
      · intro f hf hd
        rw [hdB f hf] at hd
        by_cases h1 : (f : Int) ∈ rd
        · rw [hrP f hf, if_pos h1, hx1 f hf h1]
          refine ⟨hov, ?_, Rat.le_refl⟩
          have := hi.hb; grind
        · simp only [h1, decide_false, Bool.false_or] at hd
          obtain ⟨o1, o2, o3⟩ := hi.over f hf hd
          rw [hrP f hf, if_neg h1, hx2 f hf h1]
          exact ⟨o1.mono ⟨k, rfl⟩, o2, by grind⟩
      · intro l hl
        rw [hlevS]
        cases hs : sh l with
        | none =>
          have hall := hN l hs
          have e : sumQ (lev done rate (val bst)) (usN paths l) = sumQ (lev done rate b) (usN paths l) := sumQ_congr fun g hg => by unfold lev; rw [hall g hg]; rfl
          rw [e]; exact hi.room l hl
        | some s =>
          have h1 := hmin l s hl hs
          have h2 := (hS l s hs).1
          rw [← h2]
          exact sumQ_le fun g _ => by
            unfold lev
            split
            · exact Rat.le_refl
            · exact h1
      · rintro l hl ⟨u, hu, hd⟩
        have hun := usN_lt hu
        rw [hdB u hun] at hd
        simp only [Bool.or_eq_false_iff, decide_eq_false_iff_not] at hd
        obtain ⟨hd1, hd2⟩ := hd
        rw [hlevS]
        cases hs : sh l with
        | none => have := hN l hs u hu; rw [hd2] at this; cases this
        | some s =>
          obtain ⟨h2, _, k', hk', _, hov'⟩ := hS l s hs
          have h1 := hmin l s hl hs
          have hne : val bst ≠ val s := by
            intro e
            have : bst = s := val_inj hov.1 hov'.1 hov.2.1 hov'.2.1 e
            subst this
            exact hd1 (hmem' u l hl hu hd2 hs)
          have hlt : val bst < val s := Rat.lt_of_le_of_ne h1 hne
          rw [← h2]
          refine sumQ_lt (f := u) (fun g _ => ?_) hu ?_
          · unfold lev
            split
            · exact Rat.le_refl
            · exact h1
          · unfold lev
            rw [hd2]
            simp only [Bool.false_eq_true, if_false]
            exact hlt
      · intro f hf hd
        rw [hdB f hf] at hd
        by_cases h1 : (f : Int) ∈ rd
        · obtain ⟨_, hdf, x, hx, hxl, hxs⟩ := (hmem f).1 h1
          obtain ⟨_, hfu⟩ := toNat_lt hg hf hx
          have hall : ∀ g ∈ usN paths x.toNat, dB done g = true ∨ (g : Int) ∈ rd := fun g hgu => by
            cases hd : dB done g with
            | true => exact .inl rfl
            | false => exact .inr (hmem' g _ hxl hgu hd hxs)
          refine ⟨x.toNat, hxl, hfu, fun g hgu => ?_, ?_, fun g hgu => ?_⟩
          · rw [hdB g (usN_lt hgu)]
            rcases hall g hgu with h | h
            · rw [h]; simp
            · simp [h]
          · rw [← (hS _ _ hxs).1]
            refine sumQ_congr fun g hgu => ?_
            rcases hall g hgu with h | h
            · rw [hx2 g (usN_lt hgu) (hno g h)]; unfold lev; rw [h]; rfl
            · rw [hx1 g (usN_lt hgu) h]
              unfold lev
              rw [((hmem g).1 h).2.1]; rfl
          · rw [hx1 f hf h1]
            rcases hall g hgu with h | h
            · rw [hx2 g (usN_lt hgu) (hno g h)]
              have := (hi.over g (usN_lt hgu) h).2.2
              grind
            · rw [hx1 g (usN_lt hgu) h]; exact Rat.le_refl
        · simp only [h1, decide_false, Bool.false_or] at hd
          obtain ⟨l, hl, hfl, hall, hsum, hm⟩ := hi.neck f hf hd
          refine ⟨l, hl, hfl, fun g hgu => ?_, ?_, fun g hgu => ?_⟩
          · rw [hdB g (usN_lt hgu), hall g hgu]; simp
          · rw [← hsum]
            exact sumQ_congr fun g hgu => hx2 g (usN_lt hgu) (hno g (hall g hgu))
          · rw [hx2 f hf h1, hx2 g (usN_lt hgu) (hno g (hall g hgu))]
            exact hm g hgu
end Go.Proofs.YtdldgefahgojaajDoor.Fl
