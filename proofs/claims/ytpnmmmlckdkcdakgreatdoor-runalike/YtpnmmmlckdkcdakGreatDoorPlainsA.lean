/- Facts and contracts that the walks lean on, one text behind the other; no walk of Go in them. -/
import Derived.Test.YtpnmmmlckdkcdakGreatDoorChecked
import Derived.WalkKit
import Derived.WalkSpells
import Derived.WalkLawsBesides
import Derived.Deep.QuietTactic
import Derived.BigQuiet
import Derived.Deep.RegionHeld3
/- An error as a value, and old memory behind a contract. -/
namespace Go.Proofs.YtpnmmmlckdkcdakGreatDoor
namespace Fr
open Go.RowKit

/-- an error value: none, or the number in an api.Errno -/
def errV (k : Int) : Value := if k = 0 then .nilIface else .iface 65 (.int .i64 k)
theorem errV_0 : errV 0 = .nilIface := rfl
theorem errV_ne {k : Int} (h : k ≠ 0) : errV k = .iface 65 (.int .i64 k) := by simp [errV, h]

theorem bcell {W w1 : World} (hb : Below W.heap.size W w1) : (∀ b o, b < W.heap.size → w1.cell? ⟨b, o, none⟩ = W.cell? ⟨b, o, none⟩) ∧ (∀ b o, b < W.heap.size → w1.frozen? ⟨b, o, none⟩ = W.frozen? ⟨b, o, none⟩) :=
  ⟨fun b o h => hb.cell (p := ⟨b, o, none⟩) h, fun b o h => hb.frozen (p := ⟨b, o, none⟩) h⟩

end Fr
end Go.Proofs.YtpnmmmlckdkcdakGreatDoor

/- Plain facts on nets: which number is in a list, what is wrong with links, a path, a net. No Go in it. -/
namespace Go.Proofs.YtpnmmmlckdkcdakGreatDoor.Ns

def inB (l : List Int) (n : Int) : Bool := l.contains n
theorem inB_nil (n : Int) : inB [] n = false := rfl
theorem inB_snoc (l : List Int) (x n : Int) : inB (l ++ [x]) n = (inB l n || x == n) := by
  rw [Bool.eq_iff_iff]
  simp [inB]
  constructor
  · rintro (h | h)
    · exact .inl h
    · exact .inr h.symm
  · rintro (h | h)
    · exact .inl h
    · exact .inr h.symm
theorem inB_of_mem {l : List Int} {n : Int} (h : n ∈ l) : inB l n = true := by simpa [inB] using h
theorem take_snoc {α : Type} (l : List α) (k : Nat) (h : k < l.length) (d : α) : l.take (k + 1) = l.take k ++ [l.getD k d] := by
  rw [List.take_succ_eq_append_getElem h]
  simp [List.getD, List.getElem?_eq_getElem h]
theorem drop_cons {α : Type} (l : List α) (k : Nat) (h : k < l.length) (d : α) : l.drop k = l.getD k d :: l.drop (k + 1) := by
  rw [List.drop_eq_getElem_cons h]
  simp [List.getD, List.getElem?_eq_getElem h]
theorem getD_mem {α : Type} (l : List α) (k : Nat) (h : k < l.length) (d : α) : l.getD k d ∈ l := by
  simp [List.getD, List.getElem?_eq_getElem h]

/-- what is wrong with links: 5 there is none, 4 too many, 1 one is out of bounds, 0 nothing -/
def capsFrom : List Int → Int
  | [] => 0
  | x :: r => if x < 1 ∨ 1000 < x then 1 else capsFrom r
def linksE (l : List Int) : Int := if l.length = 0 then 5 else if 6 < l.length then 4 else capsFrom l
/-- what is wrong with a path, behind the links that it went over -/
def pathFrom (links : Int) : List Int → List Int → Int
  | _, [] => 0
  | seen, x :: r => if x < 0 ∨ links ≤ x then 1 else if inB seen x then 7 else pathFrom links (seen ++ [x]) r
def pathE (links : Int) (p : List Int) : Int := if p.length = 0 then 5 else pathFrom links [] p
/-- what is wrong with some paths: the first fault -/
def pathsFrom (links : Int) : List (List Int) → Int
  | [] => 0
  | p :: r => if pathE links p = 0 then pathsFrom links r else pathE links p
def netE (caps : List Int) (paths : List (List Int)) : Int :=
  if caps.length = 0 ∨ paths.length = 0 then 5 else if 6 < caps.length ∨ 6 < paths.length then 4
  else if linksE caps = 0 then pathsFrom caps.length paths else linksE caps

theorem capsFrom_bd (l : List Int) : 0 ≤ capsFrom l ∧ capsFrom l ≤ 1 := by
  induction l with
  | nil => simp [capsFrom]
  | cons x r ih => unfold capsFrom; split <;> omega
theorem pathFrom_bd (links : Int) (s l : List Int) : 0 ≤ pathFrom links s l ∧ pathFrom links s l ≤ 7 := by
  induction l generalizing s with
  | nil => simp [pathFrom]
  | cons x r ih => unfold pathFrom; split; omega; split; omega; exact ih _

/-- who goes over a link: the flows' numbers, rising -/
def usersFrom (link : Int) : Nat → List (List Int) → List Int
  | _, [] => []
  | i, p :: r => if inB p link then (i : Int) :: usersFrom link (i + 1) r else usersFrom link (i + 1) r
def users (paths : List (List Int)) (link : Int) : List Int := usersFrom link 0 paths
theorem usersFrom_snoc (link : Int) (i : Nat) (l : List (List Int)) (p : List Int) :
    usersFrom link i (l ++ [p]) = usersFrom link i l ++ (if inB p link then [((i + l.length : Nat) : Int)] else []) := by
  induction l generalizing i with
  | nil => simp [usersFrom]
  | cons q r ih =>
    simp only [List.cons_append, usersFrom, ih]
    have : i + 1 + r.length = i + (q :: r).length := by simp; omega
    rw [this]
    split <;> simp
theorem users_length (link : Int) (i : Nat) (l : List (List Int)) : (usersFrom link i l).length ≤ l.length := by
  induction l generalizing i with
  | nil => simp [usersFrom]
  | cons q r ih => unfold usersFrom; have := ih (i + 1); split <;> simp <;> omega

end Go.Proofs.YtpnmmmlckdkcdakGreatDoor.Ns

/- What is kept when the power goes: the document's log, step by step. No Go in it. -/
namespace Go.Proofs.YtpnmmmlckdkcdakGreatDoor.Ev
open Ns
set_option linter.unusedSimpArgs false
set_option linter.unusedVariables false

abbrev Flows := List (List Int)
/-- a log: its links; behind each whole record (none at first) the flows and how many bytes there are; all bytes, those that are safe; in how many steps it stops (below 0: never); whether it has -/
structure LogS where
  caps : List Int
  done : List Flows
  marks : List Nat
  bytes : Nat
  safe : Nat
  left : Int
  stopped : Bool
def flowsL (d : List Flows) : Flows := d.getD (d.length - 1) []
def topM (m : List Nat) : Nat := m.getD (m.length - 1) 0
def LogS.flows (s : LogS) : Flows := flowsL s.done
def log0 (caps : List Int) : LogS := ⟨caps, [[]], [0], 0, 0, -1, false⟩
/-- a record of n bytes that makes these flows -/
def putS (s : LogS) (n : Nat) (f : Flows) : LogS :=
  if s.left = 0 then { s with bytes := s.bytes + n / 2, stopped := true }
  else { s with done := s.done ++ [f], marks := s.marks ++ [s.bytes + n], bytes := s.bytes + n, left := if 0 < s.left then s.left - 1 else s.left }
def addF (s : LogS) (p : List Int) : Int := if s.stopped then 6 else if s.flows.length = 6 then 4 else pathE s.caps.length p
def dropF (s : LogS) (i : Int) : Int := if s.stopped then 6 else if i < 0 ∨ (s.flows.length : Int) ≤ i then 1 else 0
def lastE (s : LogS) (k : Int) : Int := if k = 0 then (if s.left = 0 then 6 else 0) else k
def addLE (s : LogS) (p : List Int) : Int := lastE s (addF s p)
def dropLE (s : LogS) (i : Int) : Int := lastE s (dropF s i)
def lessF (f : Flows) (i : Int) : Flows := f.take i.toNat ++ f.drop (i.toNat + 1)
def addLS (s : LogS) (p : List Int) (n : Nat) : LogS := if addF s p = 0 then putS s n (s.flows ++ [p]) else s
def dropLS (s : LogS) (i : Int) (n : Nat) : LogS := if dropF s i = 0 then putS s n (lessF s.flows i) else s
def syncE (s : LogS) : Int := if s.stopped then 6 else if s.left = 0 then 6 else 0
def syncS (s : LogS) : LogS :=
  if s.stopped then s else if s.left = 0 then { s with stopped := true } else { s with safe := s.bytes, left := if 0 < s.left then s.left - 1 else s.left }
def failS (s : LogS) (n : Int) : LogS := { s with left := n }
/-- how many bytes are left when the power goes -/
def highN (s : LogS) (keep : Int) : Nat := if keep ≤ 0 then s.safe else if keep < (s.bytes : Int) - s.safe then s.safe + keep.toNat else s.bytes
/-- the last record, of the first k, that ends no later than there -/
def leftK (m : List Nat) (h : Nat) : Nat → Nat
  | 0 => 0
  | k + 1 => if m.getD k 0 ≤ h then k else leftK m h k
def leftN' (m : List Nat) (h : Nat) : Nat := leftK m h m.length
def crashS (s : LogS) (keep : Int) : LogS :=
  { s with done := s.done.take (leftN' s.marks (highN s keep) + 1), marks := s.marks.take (leftN' s.marks (highN s keep) + 1),
           bytes := s.marks.getD (leftN' s.marks (highN s keep)) 0, safe := s.marks.getD (leftN' s.marks (highN s keep)) 0, left := -1, stopped := false }

/-- a log is right -/
structure LogOk (s : LogS) : Prop where
  caps : linksE s.caps = 0
  len : s.done.length = s.marks.length
  pos : 0 < s.marks.length
  first : s.marks.getD 0 0 = 0
  rise : ∀ i, i + 1 < s.marks.length → s.marks.getD i 0 + 2 ≤ s.marks.getD (i + 1) 0
  safe : ∃ i, i < s.marks.length ∧ s.safe = s.marks.getD i 0
  top : topM s.marks ≤ s.bytes
  torn : s.stopped = false → s.bytes = topM s.marks
  nets : ∀ f ∈ s.done, f.length ≤ 6 ∧ ∀ p ∈ f, pathE s.caps.length p = 0
  few : ∀ i, i < s.marks.length → s.marks.getD i 0 ≤ 1000 * i
  tail : s.bytes ≤ topM s.marks + 1000

theorem flowsL_mem {d : List Flows} (h : 0 < d.length) : flowsL d ∈ d := by
  unfold flowsL
  have : d.length - 1 < d.length := by omega
  rw [List.getD, List.getElem?_eq_getElem this]
  exact List.getElem_mem _
theorem flowsL_snoc (d : List Flows) (f : Flows) : flowsL (d ++ [f]) = f := by simp [flowsL, List.getD]
theorem topM_snoc (m : List Nat) (n : Nat) : topM (m ++ [n]) = n := by simp [topM, List.getD]
theorem getD_take {α : Type} (l : List α) (n i : Nat) (d : α) (h : i < n) : (l.take n).getD i d = l.getD i d := by simp [List.getD, List.getElem?_take, h]
theorem getD_snoc_lt {α : Type} (l : List α) (x d : α) (i : Nat) (h : i < l.length) : (l ++ [x]).getD i d = l.getD i d := by simp [List.getD, List.getElem?_append_left h]
theorem getD_snoc_eq {α : Type} (l : List α) (x d : α) : (l ++ [x]).getD l.length d = x := by simp [List.getD]

theorem LogOk.flows_right {s : LogS} (h : LogOk s) : s.flows.length ≤ 6 ∧ ∀ p ∈ s.flows, pathE s.caps.length p = 0 := h.nets _ (flowsL_mem (by have := h.len; have := h.pos; omega))
theorem log0_ok {caps : List Int} (h : linksE caps = 0) : LogOk (log0 caps) :=
  ⟨h, rfl, by simp [log0], rfl, by simp [log0], ⟨0, by simp [log0], rfl⟩, by simp [log0, topM], fun _ => rfl, by simp [log0], fun i hi => by simp [log0] at hi ⊢; subst hi; simp, by simp [log0]⟩
theorem LogOk.topAt {s : LogS} (h : LogOk s) : topM s.marks ≤ 1000 * (s.marks.length - 1) := h.few _ (by have := h.pos; omega)
theorem LogOk.bytes_le {s : LogS} (h : LogOk s) : s.bytes ≤ 1000 * s.marks.length := by
  have := h.topAt; have := h.tail; have := h.pos; omega
theorem putS_ok {s : LogS} {n : Nat} {f : Flows} (h : LogOk s) (hs : s.stopped = false) (h2 : 2 ≤ n) (hn : n ≤ 1000) (hf : f.length ≤ 6 ∧ ∀ p ∈ f, pathE s.caps.length p = 0) : LogOk (putS s n f) := by
  have ht := h.torn hs
  have hta := h.topAt
  obtain ⟨i, hi, hsi⟩ := h.safe
  have hp := h.pos
  have hl := h.len
  unfold putS
  split
  · exact ⟨h.caps, h.len, h.pos, h.first, h.rise, h.safe, by have := h.top; show topM s.marks ≤ s.bytes + n / 2; omega, fun e => by simp at e, h.nets, h.few, by show s.bytes + n / 2 ≤ topM s.marks + 1000; omega⟩
  · refine ⟨h.caps, by simp [hl], by simp, ?_, fun j hj => ?_, ⟨i, by simp; omega, ?_⟩, ?_, fun _ => ?_, fun g hg => ?_, fun j hj => ?_, ?_⟩
    · show (s.marks ++ [s.bytes + n]).getD 0 0 = 0
      rw [getD_snoc_lt _ _ _ _ hp]; exact h.first
    · show (s.marks ++ [s.bytes + n]).getD j 0 + 2 ≤ (s.marks ++ [s.bytes + n]).getD (j + 1) 0
      have hj' : j + 1 < s.marks.length + 1 := by simpa using hj
      by_cases e : j + 1 = s.marks.length
      · rw [e, getD_snoc_eq, getD_snoc_lt _ _ _ _ (by omega)]
        have : j = s.marks.length - 1 := by omega
        rw [this]
        show topM s.marks + 2 ≤ _
        omega
      · rw [getD_snoc_lt _ _ _ _ (by omega), getD_snoc_lt _ _ _ _ (by omega)]
        exact h.rise j (by omega)
    · show s.safe = (s.marks ++ [s.bytes + n]).getD i 0
      rw [getD_snoc_lt _ _ _ _ hi]; exact hsi
    · show topM (s.marks ++ [s.bytes + n]) ≤ s.bytes + n
      rw [topM_snoc]; exact Nat.le_refl _
    · show s.bytes + n = topM (s.marks ++ [s.bytes + n])
      rw [topM_snoc]
    · rcases List.mem_append.1 hg with hg | hg
      · exact h.nets g hg
      · simp at hg; subst hg; exact hf
    · show (s.marks ++ [s.bytes + n]).getD j 0 ≤ 1000 * j
      have hj' : j < s.marks.length + 1 := by simpa using hj
      by_cases e : j = s.marks.length
      · subst e; rw [getD_snoc_eq]; omega
      · rw [getD_snoc_lt _ _ _ _ (by omega)]; exact h.few j (by omega)
    · show s.bytes + n ≤ topM (s.marks ++ [s.bytes + n]) + 1000
      rw [topM_snoc]; omega
theorem lessF_length {f : Flows} {i : Int} (h0 : 0 ≤ i) (h1 : i < f.length) : (lessF f i).length + 1 = f.length := by
  simp only [lessF, List.length_append, List.length_take, List.length_drop]; omega
theorem lessF_mem {f : Flows} {i : Int} {p : List Int} (h : p ∈ lessF f i) : p ∈ f := by
  rcases List.mem_append.1 h with h | h
  · exact List.mem_of_mem_take h
  · exact List.mem_of_mem_drop h
theorem addF_0 {s : LogS} {p : List Int} (h : addF s p = 0) : s.stopped = false ∧ s.flows.length ≠ 6 ∧ pathE s.caps.length p = 0 := by
  unfold addF at h
  split at h
  · omega
  · split at h
    · omega
    · exact ⟨by simpa using ‹¬ s.stopped = true›, by assumption, h⟩
theorem dropF_0 {s : LogS} {i : Int} (h : dropF s i = 0) : s.stopped = false ∧ 0 ≤ i ∧ i < s.flows.length := by
  unfold dropF at h
  split at h
  · omega
  · split at h
    · omega
    · exact ⟨by simpa using ‹¬ s.stopped = true›, by omega, by omega⟩
theorem addLS_ok {s : LogS} {p : List Int} {n : Nat} (h : LogOk s) (h2 : 2 ≤ n) (hn : n ≤ 1000) : LogOk (addLS s p n) := by
  unfold addLS
  split
  · rename_i h0
    obtain ⟨a1, a2, a3⟩ := addF_0 h0
    obtain ⟨b1, b2⟩ := h.flows_right
    refine putS_ok h a1 h2 hn ⟨by simp; omega, fun q hq => ?_⟩
    rcases List.mem_append.1 hq with hq | hq
    · exact b2 q hq
    · simp at hq; subst hq; exact a3
  · exact h
theorem dropLS_ok {s : LogS} {i : Int} {n : Nat} (h : LogOk s) (h2 : 2 ≤ n) (hn : n ≤ 1000) : LogOk (dropLS s i n) := by
  unfold dropLS
  split
  · rename_i h0
    obtain ⟨a1, a2, a3⟩ := dropF_0 h0
    obtain ⟨b1, b2⟩ := h.flows_right
    exact putS_ok h a1 h2 hn ⟨by have := lessF_length a2 a3; omega, fun q hq => b2 q (lessF_mem hq)⟩
  · exact h
theorem syncS_ok {s : LogS} (h : LogOk s) : LogOk (syncS s) := by
  unfold syncS
  split
  · exact h
  · rename_i hs
    have ht := h.torn (by simpa using hs)
    split
    · exact ⟨h.caps, h.len, h.pos, h.first, h.rise, h.safe, h.top, fun e => by simp at e, h.nets, h.few, h.tail⟩
    · exact ⟨h.caps, h.len, h.pos, h.first, h.rise, ⟨s.marks.length - 1, by have := h.pos; show _ < s.marks.length; omega, ht⟩, h.top, h.torn, h.nets, h.few, h.tail⟩
theorem failS_ok {s : LogS} {n : Int} (h : LogOk s) : LogOk (failS s n) := ⟨h.caps, h.len, h.pos, h.first, h.rise, h.safe, h.top, h.torn, h.nets, h.few, h.tail⟩
theorem leftK_bd (m : List Nat) (h : Nat) (h0 : m.getD 0 0 ≤ h) : ∀ k, (leftK m h k < k ∨ (k = 0 ∧ leftK m h k = 0)) ∧ m.getD (leftK m h k) 0 ≤ h := by
  intro k
  induction k with
  | zero => exact ⟨.inr ⟨rfl, rfl⟩, h0⟩
  | succ k ih =>
    unfold leftK
    split
    · exact ⟨.inl (by omega), by assumption⟩
    · exact ⟨.inl (by omega), ih.2⟩
theorem left_lt {s : LogS} (h : LogOk s) (H : Nat) : leftN' s.marks H < s.marks.length := by
  have := leftK_bd s.marks H (by rw [h.first]; exact Nat.zero_le _) s.marks.length
  have := h.pos
  unfold leftN'
  omega
theorem crashS_ok {s : LogS} {keep : Int} (h : LogOk s) : LogOk (crashS s keep) := by
  have hl := left_lt h (highN s keep)
  have hlen := h.len
  generalize hi : leftN' s.marks (highN s keep) = i at hl
  have ht : topM (s.marks.take (i + 1)) = s.marks.getD i 0 := by
    unfold topM
    rw [List.length_take, show min (i + 1) s.marks.length - 1 = i by omega, getD_take _ _ _ _ (by omega)]
  have hc : crashS s keep = { s with done := s.done.take (i + 1), marks := s.marks.take (i + 1), bytes := s.marks.getD i 0, safe := s.marks.getD i 0, left := -1, stopped := false } := by rw [← hi]; rfl
  rw [hc]
  refine ⟨h.caps, ?_, ?_, ?_, fun j hj => ?_, ⟨i, ?_, ?_⟩, ?_, fun _ => ?_, fun f hf => h.nets f (List.mem_of_mem_take hf), fun j hj => ?_, ?_⟩
  · show (s.done.take (i + 1)).length = (s.marks.take (i + 1)).length
    simp only [List.length_take]; omega
  · show 0 < (s.marks.take (i + 1)).length
    simp only [List.length_take]; omega
  · show (s.marks.take (i + 1)).getD 0 0 = 0
    rw [getD_take _ _ _ _ (by omega)]; exact h.first
  · have hj' : j + 1 < (s.marks.take (i + 1)).length := hj
    rw [List.length_take] at hj'
    show (s.marks.take (i + 1)).getD j 0 + 2 ≤ (s.marks.take (i + 1)).getD (j + 1) 0
    rw [getD_take _ _ _ _ (by omega), getD_take _ _ _ _ (by omega)]
    exact h.rise j (by omega)
  · show i < (s.marks.take (i + 1)).length
    simp only [List.length_take]; omega
  · show s.marks.getD i 0 = (s.marks.take (i + 1)).getD i 0
    rw [getD_take _ _ _ _ (by omega)]
  · show topM (s.marks.take (i + 1)) ≤ s.marks.getD i 0
    rw [ht]; exact Nat.le_refl _
  · show s.marks.getD i 0 = topM (s.marks.take (i + 1))
    rw [ht]
  · have hj' : j < (s.marks.take (i + 1)).length := hj
    rw [List.length_take] at hj'
    show (s.marks.take (i + 1)).getD j 0 ≤ 1000 * j
    rw [getD_take _ _ _ _ (by omega)]; exact h.few j (by omega)
  · show s.marks.getD i 0 ≤ topM (s.marks.take (i + 1)) + 1000
    rw [ht]; omega
/-- behind a crash -/
theorem crash_flows {s : LogS} {keep : Int} (h : LogOk s) : (crashS s keep).flows = s.done.getD (leftN' s.marks (highN s keep)) [] := by
  have hl := left_lt h (highN s keep)
  have := h.len
  show flowsL (s.done.take (leftN' s.marks (highN s keep) + 1)) = _
  unfold flowsL
  rw [List.length_take, show min (leftN' s.marks (highN s keep) + 1) s.done.length - 1 = leftN' s.marks (highN s keep) by omega, getD_take _ _ _ _ (by omega)]
end Go.Proofs.YtpnmmmlckdkcdakGreatDoor.Ev

/- Some in the order of a number, of several the first: who is how far ahead, and the first of those that are left. No Go in it. -/
namespace Go.Proofs.YtpnmmmlckdkcdakGreatDoor.Ev
open Ns
set_option linter.unusedSimpArgs false
set_option linter.unusedVariables false

/-- the lesser number is ahead, of several the first -/
def ahead (key : Nat → Int) (j i : Nat) : Bool := decide (key j < key i ∨ key j = key i ∧ j < i)
theorem ahead_iff {key : Nat → Int} {j i : Nat} : ahead key j i = true ↔ key j < key i ∨ key j = key i ∧ j < i := by simp [ahead]
theorem ahead_trans {key : Nat → Int} {a b c : Nat} (h1 : ahead key a b = true) (h2 : ahead key b c = true) : ahead key a c = true := by
  rw [ahead_iff] at *; omega
theorem ahead_irrefl {key : Nat → Int} {a : Nat} : ahead key a a = false := by
  rw [← Bool.not_eq_true, ahead_iff]; omega
theorem ahead_total {key : Nat → Int} {a b : Nat} (h : a ≠ b) : ahead key a b = true ∨ ahead key b a = true := by
  rw [ahead_iff, ahead_iff]; omega
/-- how many are ahead of one -/
def rankK (key : Nat → Int) (n i : Nat) : Nat := (List.range n).countP fun j => ahead key j i
theorem countP_lt {p q : Nat → Bool} {n b : Nat} (hb : b < n) (h : ∀ i, i < n → p i = true → q i = true) (h1 : p b = false) (h2 : q b = true) : (List.range n).countP p < (List.range n).countP q := by
  induction n with
  | zero => omega
  | succ n ih =>
    rw [List.range_succ, List.countP_append, List.countP_append]
    have hmono : (List.range n).countP p ≤ (List.range n).countP q := by
      refine List.countP_mono_left fun i hi => ?_
      exact h i (by have := List.mem_range.1 hi; omega)
    have hn := h n (by omega)
    simp only [List.countP_cons, List.countP_nil]
    by_cases e : b = n
    · subst e
      rw [h1, h2]
      simp
      omega
    · have := ih (by omega) (fun i hi => h i (by omega))
      split <;> split <;> simp_all <;> omega
theorem rank_lt {key : Nat → Int} {n j i : Nat} (hj : j < n) (h : ahead key j i = true) : rankK key n j < rankK key n i :=
  countP_lt hj (fun k _ hk => ahead_trans hk h) ahead_irrefl h
theorem rank_iff {key : Nat → Int} {n j i : Nat} (hj : j < n) (hi : i < n) : rankK key n j < rankK key n i ↔ ahead key j i = true := by
  constructor
  · intro h
    by_cases e : j = i
    · subst e; omega
    · rcases ahead_total (key := key) e with h' | h'
      · exact h'
      · have := rank_lt hi h'; omega
  · exact rank_lt hj
theorem rank_inj {key : Nat → Int} {n j i : Nat} (hj : j < n) (hi : i < n) (h : rankK key n j = rankK key n i) : j = i := by
  apply Classical.byContradiction
  intro e
  rcases ahead_total (key := key) e with h' | h'
  · have := rank_lt hj h'; omega
  · have := rank_lt hi h'; omega

/-- the first in order of those that are not got yet -/
def bestK (key : Nat → Int) (got : Nat → Bool) : Nat → Option Nat
  | 0 => none
  | m + 1 => match bestK key got m with
    | none => if got m then none else some m
    | some b => if !got m && decide (key m < key b) then some m else some b
theorem best_spec (key : Nat → Int) (got : Nat → Bool) : ∀ m, (∀ b, bestK key got m = some b → b < m ∧ got b = false ∧ ∀ i, i < m → got i = false → i ≠ b → ahead key b i = true) ∧ (bestK key got m = none → ∀ i, i < m → got i = true) := by
  intro m
  induction m with
  | zero => exact ⟨fun b h => by simp [bestK] at h, fun _ i h => by omega⟩
  | succ m ih =>
    obtain ⟨i1, i2⟩ := ih
    simp only [bestK]
    cases hb : bestK key got m with
    | none =>
      have hn := i2 hb
      cases hg : got m with
      | true =>
        refine ⟨fun b h => by simp at h, fun _ i hi => ?_⟩
        by_cases e : i = m
        · rw [e]; exact hg
        · exact hn i (by omega)
      | false =>
        refine ⟨fun b h => ?_, fun h => by simp at h⟩
        simp at h
        subst h
        refine ⟨by omega, hg, fun i hi hgi hne => ?_⟩
        have := hn i (by omega)
        rw [this] at hgi
        cases hgi
    | some c =>
      obtain ⟨c1, c2, c3⟩ := i1 c hb
      by_cases ht : (!got m && decide (key m < key c)) = true
      · simp only [ht, if_true]
        refine ⟨fun b h => ?_, fun h => by simp at h⟩
        simp only [Option.some.injEq] at h
        subst h
        rw [Bool.and_eq_true, Bool.not_eq_true', decide_eq_true_eq] at ht
        refine ⟨by omega, ht.1, fun i hi hgi hne => ?_⟩
        by_cases e : i = c
        · subst e; rw [ahead_iff]; omega
        · refine ahead_trans ?_ (c3 i (by omega) hgi e)
          rw [ahead_iff]; omega
      · have ht' : (!got m && decide (key m < key c)) = false := by simpa using ht
        simp only [ht', Bool.false_eq_true, if_false]
        refine ⟨fun b h => ?_, fun h => by simp at h⟩
        simp only [Option.some.injEq] at h
        subst h
        refine ⟨by omega, c2, fun i hi hgi hne => ?_⟩
        by_cases e : i = m
        · subst e
          rw [hgi] at ht'
          simp at ht'
          rw [ahead_iff]
          omega
        · exact c3 i (by omega) hgi hne
theorem countP_congr' {p q : Nat → Bool} {n : Nat} (h : ∀ i, i < n → p i = q i) : (List.range n).countP p = (List.range n).countP q := by
  refine List.countP_congr fun i hi => ?_
  rw [h i (List.mem_range.1 hi)]
theorem countP_one {p q : Nat → Bool} {n b : Nat} (hb : b < n) (h : ∀ i, i < n → q i = (p i || decide (i = b))) (h1 : p b = false) : (List.range n).countP q = (List.range n).countP p + 1 := by
  induction n with
  | zero => omega
  | succ n ih =>
    rw [List.range_succ, List.countP_append, List.countP_append]
    simp only [List.countP_cons, List.countP_nil]
    by_cases e : b = n
    · subst e
      have : (List.range b).countP q = (List.range b).countP p := countP_congr' fun i hi => by
        rw [h i (by omega), decide_eq_false (by omega), Bool.or_false]
      rw [this, h b (by omega), h1]
      simp
    · have := ih (by omega) (fun i hi => h i (by omega))
      rw [this, h n (by omega), decide_eq_false (by omega), Bool.or_false]
      omega
/-- just k are fewer than k places ahead; and the first of the others is just behind k -/
theorem rank_count (key : Nat → Int) (n : Nat) : ∀ k, k ≤ n → (List.range n).countP (fun i => decide (rankK key n i < k)) = k ∧ (k < n → ∃ b, bestK key (fun i => decide (rankK key n i < k)) n = some b ∧ b < n ∧ rankK key n b = k) := by
  have step : ∀ k, k < n → (List.range n).countP (fun i => decide (rankK key n i < k)) = k → ∃ b, bestK key (fun i => decide (rankK key n i < k)) n = some b ∧ b < n ∧ rankK key n b = k := by
    intro k hk hc
    obtain ⟨s1, s2⟩ := best_spec key (fun i => decide (rankK key n i < k)) n
    cases hb : bestK key (fun i => decide (rankK key n i < k)) n with
    | none =>
      exfalso
      have hall := s2 hb
      have : (List.range n).countP (fun i => decide (rankK key n i < k)) = n := by
        have := List.countP_eq_length (p := fun i => decide (rankK key n i < k)) (l := List.range n)
        rw [List.length_range] at this
        exact this.2 fun i hi => hall i (List.mem_range.1 hi)
      omega
    | some b =>
      obtain ⟨b1, b2, b3⟩ := s1 b hb
      refine ⟨b, rfl, b1, ?_⟩
      have b2' : k ≤ rankK key n b := by simpa using b2
      have : rankK key n b = (List.range n).countP (fun i => decide (rankK key n i < k)) := by
        unfold rankK
        refine countP_congr' fun i hi => ?_
        rw [Bool.eq_iff_iff, decide_eq_true_eq]
        constructor
        · intro ha
          by_cases hr : rankK key n i < k
          · exact hr
          · exfalso
            have hne : i ≠ b := fun e => by rw [e, ahead_irrefl] at ha; cases ha
            have h2 := b3 i hi (by simpa using hr) hne
            have := ahead_trans ha h2
            rw [ahead_irrefl] at this
            cases this
        · intro hr
          have hr' : rankK key n i < k := hr
          exact (rank_iff (key := key) hi b1).1 (by omega)
      omega
  intro k
  induction k with
  | zero =>
    intro _
    have h0 : (List.range n).countP (fun i => decide (rankK key n i < 0)) = 0 := by
      rw [List.countP_eq_zero]
      intro i _
      simp
    exact ⟨h0, fun hk => step 0 hk h0⟩
  | succ k ih =>
    intro hk
    obtain ⟨c1, c2⟩ := ih (by omega)
    obtain ⟨b, hb, hbn, hbr⟩ := c2 (by omega)
    have h1 : (List.range n).countP (fun i => decide (rankK key n i < k + 1)) = k + 1 := by
      have := countP_one (p := fun i => decide (rankK key n i < k)) (q := fun i => decide (rankK key n i < k + 1)) hbn (fun i hi => by
        rw [Bool.eq_iff_iff, Bool.or_eq_true, decide_eq_true_eq, decide_eq_true_eq, decide_eq_true_eq]
        constructor
        · intro h
          by_cases e : rankK key n i < k
          · exact .inl e
          · exact .inr (rank_inj (key := key) hi hbn (by omega))
        · rintro (h | h)
          · omega
          · rw [h]; omega) (by simp; omega)
      rw [this, c1]
    exact ⟨h1, fun hk' => step (k + 1) hk' h1⟩
theorem rank_bound {key : Nat → Int} {n i : Nat} (h : i < n) : rankK key n i < n := by
  have hle : rankK key n i ≤ n := by
    unfold rankK
    exact Nat.le_trans List.countP_le_length (by simp)
  by_cases e : rankK key n i = n
  · exfalso
    unfold rankK at e
    have := List.countP_eq_length (p := fun j => ahead key j i) (l := List.range n)
    rw [List.length_range] at this
    have := this.1 e i (List.mem_range.2 h)
    simp [ahead_irrefl] at this
  · omega
end Go.Proofs.YtpnmmmlckdkcdakGreatDoor.Ev

/- Plain facts on fractions: two whole numbers, their greatest common divisor, lowest terms, the bounds. No Go in it. -/
namespace Go.Proofs.YtpnmmmlckdkcdakGreatDoor.Fr

/-- both numbers are within a fraction's bounds -/
def mayB (t b : Int) : Bool := decide (1 ≤ b ∧ b ≤ 100000000 ∧ -1000000000 ≤ t ∧ t ≤ 1000000000)
/-- the greatest common divisor -/
def gd (t b : Int) : Int := (Nat.gcd t.natAbs b.natAbs : Int)
def lowT (t b : Int) : Int := t / gd t b
def lowB (t b : Int) : Int := b / gd t b
/-- in lowest terms already -/
def isLow (t b : Int) : Bool := decide (t = lowT t b ∧ b = lowB t b)
/-- what is wrong with a fraction: 1 out of bounds, 3 not in lowest terms, 0 nothing -/
def fault (t b : Int) : Int := if mayB t b then (if isLow t b then 0 else 3) else 1
/-- of two: the first fault -/
def fault2 (t b u c : Int) : Int := if fault t b = 0 then fault u c else fault t b

theorem mayB_iff {t b : Int} : mayB t b = true ↔ (1 ≤ b ∧ b ≤ 100000000 ∧ -1000000000 ≤ t ∧ t ≤ 1000000000) := by simp [mayB]

theorem gd_neg (t b : Int) : gd (-t) b = gd t b := by simp [gd]
theorem gd_pos {t b : Int} (h : 1 ≤ b) : 1 ≤ gd t b := by
  unfold gd
  have : 0 < Nat.gcd t.natAbs b.natAbs := Nat.gcd_pos_of_pos_right _ (by omega)
  omega
theorem gd_dvd_left (t b : Int) : gd t b ∣ t := by
  unfold gd
  exact Int.ofNat_dvd_left.2 (Nat.gcd_dvd_left _ _)
theorem gd_dvd_right (t b : Int) : gd t b ∣ b := by
  unfold gd
  exact Int.ofNat_dvd_left.2 (Nat.gcd_dvd_right _ _)

theorem tdiv_gd (t b : Int) : t.tdiv (gd t b) = lowT t b := Int.tdiv_eq_ediv_of_dvd (gd_dvd_left t b)
theorem lowT_mul {t b : Int} : lowT t b * gd t b = t := by
  unfold lowT; exact Int.ediv_mul_cancel (gd_dvd_left t b)
theorem lowB_mul {t b : Int} : lowB t b * gd t b = b := by
  unfold lowB; exact Int.ediv_mul_cancel (gd_dvd_right t b)

/-- a product with a number from 0 on -/
theorem mul_bd {t c A C : Int} (h1 : -A ≤ t) (h2 : t ≤ A) (h3 : 0 ≤ c) (h4 : c ≤ C) : -(A * C) ≤ t * c ∧ t * c ≤ A * C := by
  have hA : 0 ≤ A := by omega
  have a1 : t * c ≤ A * c := Int.mul_le_mul_of_nonneg_right h2 h3
  have a2 : A * c ≤ A * C := Int.mul_le_mul_of_nonneg_left h4 hA
  have a3 : (-A) * c ≤ t * c := Int.mul_le_mul_of_nonneg_right h1 h3
  rw [Int.neg_mul] at a3
  omega
/-- a product with a number of either sign -/
theorem mul_bd' {t c A C : Int} (h1 : -A ≤ t) (h2 : t ≤ A) (h3 : -C ≤ c) (h4 : c ≤ C) : -(A * C) ≤ t * c ∧ t * c ≤ A * C := by
  by_cases h : 0 ≤ c
  · exact mul_bd h1 h2 h h4
  · have := mul_bd (t := t) (c := -c) (A := A) (C := C) h1 h2 (by omega) (by omega)
    rw [Int.mul_neg] at this
    omega

theorem fault_0 {t b : Int} (h : fault t b = 0) : 1 ≤ b ∧ b ≤ 100000000 ∧ -1000000000 ≤ t ∧ t ≤ 1000000000 := by
  unfold fault at h
  split at h
  · exact mayB_iff.1 ‹_›
  · omega
theorem fault2_0 {t b u c : Int} (h : fault2 t b u c = 0) : fault t b = 0 ∧ fault u c = 0 := by
  unfold fault2 at h
  split at h
  · exact ⟨‹_›, h⟩
  · contradiction
theorem fault_cases (t b : Int) : fault t b = 0 ∨ fault t b = 1 ∨ fault t b = 3 := by
  unfold fault
  split
  · split <;> simp
  · simp

theorem low_of_fault {t b : Int} (h : fault t b = 0) : lowT t b = t ∧ lowB t b = b := by
  unfold fault at h
  split at h
  · split at h
    · have := ‹isLow t b = true›
      simp only [isLow, decide_eq_true_eq] at this
      exact ⟨this.1.symm, this.2.symm⟩
    · omega
  · omega
theorem mayB_of_fault {t b : Int} (h : fault t b = 0) : mayB t b = true := by
  unfold fault at h
  split at h
  · assumption
  · omega
theorem fault_of {t b : Int} (hm : mayB t b = true) (h1 : lowT t b = t) (h2 : lowB t b = b) : fault t b = 0 := by
  unfold fault
  rw [hm, if_pos rfl, if_pos]
  simp only [isLow, decide_eq_true_eq]
  exact ⟨h1.symm, h2.symm⟩
theorem gd_zero {b : Int} (h : 1 ≤ b) : gd 0 b = b := by
  unfold gd
  simp
  omega
theorem low_zero {b : Int} (h : 1 ≤ b) : lowT 0 b = 0 ∧ lowB 0 b = 1 := by
  unfold lowT lowB
  rw [gd_zero h]
  exact ⟨Int.zero_ediv b, Int.ediv_self (by omega)⟩
theorem fault_01 : fault 0 1 = 0 := by decide

/-- which of two numbers is less -/
def cmpI (x y : Int) : Int := if x < y then -1 else if y < x then 1 else 0

end Go.Proofs.YtpnmmmlckdkcdakGreatDoor.Fr

/- Plain facts: lowest terms hang on the ratio alone; sums, parts and multiples of fractions in lowest terms. No Go in it. -/
namespace Go.Proofs.YtpnmmmlckdkcdakGreatDoor.Fr

theorem gd_comm (t b : Int) : gd t b = gd b t := by unfold gd; rw [Nat.gcd_comm]
theorem gd_one_iff {t b : Int} : gd t b = 1 ↔ Nat.Coprime t.natAbs b.natAbs := by
  unfold gd Nat.Coprime
  omega

theorem natAbs_div {t g : Int} (h : g ∣ t) : (t / g).natAbs = t.natAbs / g.natAbs := by
  obtain ⟨k, rfl⟩ := h
  by_cases hg : g = 0
  · subst hg; simp
  · rw [Int.mul_ediv_cancel_left k hg, Int.natAbs_mul, Nat.mul_div_cancel_left _ (Int.natAbs_pos.2 hg)]

/-- what is in lowest terms has no divisor in common -/
theorem low_coprime {t b : Int} (hb : 1 ≤ b) : gd (lowT t b) (lowB t b) = 1 := by
  rw [gd_one_iff]
  unfold lowT lowB
  rw [natAbs_div (gd_dvd_left t b), natAbs_div (gd_dvd_right t b)]
  have e : (gd t b).natAbs = Nat.gcd t.natAbs b.natAbs := by unfold gd; omega
  rw [e]
  exact Nat.coprime_div_gcd_div_gcd (Nat.gcd_pos_of_pos_right _ (by omega))
theorem lowB_pos {t b : Int} (hb : 1 ≤ b) : 1 ≤ lowB t b := by
  have h1 := gd_pos (t := t) hb
  have h2 := lowB_mul (t := t) (b := b)
  by_cases h : 1 ≤ lowB t b
  · exact h
  · exfalso
    have h3 : lowB t b ≤ 0 := by omega
    have h4 : lowB t b * gd t b ≤ 0 := Int.mul_nonpos_of_nonpos_of_nonneg h3 (by omega)
    omega
theorem low_ratio (t b : Int) : lowT t b * b = t * lowB t b := by
  have h1 := lowT_mul (t := t) (b := b)
  have h2 := lowB_mul (t := t) (b := b)
  calc lowT t b * b = lowT t b * (lowB t b * gd t b) := by rw [h2]
    _ = (lowT t b * gd t b) * lowB t b := by rw [Int.mul_assoc, Int.mul_comm (gd t b)]
    _ = t * lowB t b := by rw [h1]

theorem dvd_of_coprime {q p q' : Int} (h : gd p q = 1) (hd : q ∣ p * q') : q ∣ q' := by
  rw [gd_one_iff] at h
  have hd' : q.natAbs ∣ p.natAbs * q'.natAbs := by rw [← Int.natAbs_mul]; exact Int.natAbs_dvd_natAbs.2 hd
  exact Int.natAbs_dvd_natAbs.1 (Nat.Coprime.dvd_of_dvd_mul_left h.symm hd')

/-- two pairs of one ratio, each with no divisor in common, are one pair -/
theorem ratio_uniq {p q p' q' : Int} (h : gd p q = 1) (h' : gd p' q' = 1) (hq : 1 ≤ q) (hq' : 1 ≤ q') (e : p * q' = p' * q) : p = p' ∧ q = q' := by
  have d1 : q ∣ q' := dvd_of_coprime h (by rw [e]; exact Int.dvd_mul_left _ _)
  have d2 : q' ∣ q := dvd_of_coprime h' (by rw [← e]; exact Int.dvd_mul_left _ _)
  have e1 : q = q' := by
    have a1 := Int.le_of_dvd (by omega) d1
    have a2 := Int.le_of_dvd (by omega) d2
    omega
  refine ⟨?_, e1⟩
  rw [e1] at e
  exact Int.eq_of_mul_eq_mul_right (by omega) e

theorem low_of_ratio {t b u c : Int} (hb : 1 ≤ b) (hc : 1 ≤ c) (e : t * c = u * b) : lowT t b = lowT u c ∧ lowB t b = lowB u c := by
  refine ratio_uniq (low_coprime hb) (low_coprime hc) (lowB_pos hb) (lowB_pos hc) ?_
  have r1 := low_ratio t b
  have r2 := low_ratio u c
  have hbc : b * c ≠ 0 := Int.mul_ne_zero (by omega) (by omega)
  apply Int.eq_of_mul_eq_mul_right hbc
  calc lowT t b * lowB u c * (b * c) = (lowT t b * b) * (lowB u c * c) := by ac_rfl
    _ = (t * lowB t b) * (lowB u c * c) := by rw [r1]
    _ = (t * c) * (lowB t b * lowB u c) := by ac_rfl
    _ = (u * b) * (lowB t b * lowB u c) := by rw [e]
    _ = (u * lowB u c) * (lowB t b * b) := by ac_rfl
    _ = (lowT u c * c) * (lowB t b * b) := by rw [r2]
    _ = lowT u c * lowB t b * (b * c) := by ac_rfl

theorem low_self {p q : Int} (h : gd p q = 1) : lowT p q = p ∧ lowB p q = q := by
  unfold lowT lowB
  rw [h]
  exact ⟨Int.ediv_one _, Int.ediv_one _⟩
theorem fault_iff {t b : Int} : fault t b = 0 ↔ mayB t b = true ∧ gd t b = 1 := by
  constructor
  · intro h
    refine ⟨mayB_of_fault h, ?_⟩
    obtain ⟨l1, l2⟩ := low_of_fault h
    have := low_coprime (t := t) (b := b) (fault_0 h).1
    rw [l1, l2] at this
    exact this
  · rintro ⟨hm, hg⟩
    obtain ⟨l1, l2⟩ := low_self hg
    exact fault_of hm l1 l2
/-- what was brought to lowest terms, and is within the bounds, is a fraction -/
theorem fault_low {t b : Int} (hb : 1 ≤ b) (hm : mayB (lowT t b) (lowB t b) = true) : fault (lowT t b) (lowB t b) = 0 :=
  fault_iff.2 ⟨hm, low_coprime hb⟩

end Go.Proofs.YtpnmmmlckdkcdakGreatDoor.Fr

/- Plain facts on loads: rates that are right, what goes over a link, what is left, whether it fits. No Go in it. -/
namespace Go.Proofs.YtpnmmmlckdkcdakGreatDoor.Ld
open Fr Ns
set_option linter.unusedSimpArgs false

def faultP (a : Int × Int) : Int := fault a.1 a.2
/-- the sum of two in lowest terms -/
def sumP (a b : Int × Int) : Int × Int := (lowT (a.1 * b.2 + b.1 * a.2) (a.2 * b.2), lowB (a.1 * b.2 + b.1 * a.2) (a.2 * b.2))
def mayP (a : Int × Int) : Bool := mayB a.1 a.2
/-- the first fault of some rates -/
def ratesE : List (Int × Int) → Int
  | [] => 0
  | a :: r => if faultP a = 0 then ratesE r else faultP a
/-- the rates of some flows added up, one by one: none, if that is too much -/
def addUp (r : List (Int × Int)) : List Int → Int × Int → Option (Int × Int)
  | [], s => some s
  | u :: us, s => if mayP (sumP s (r.getD u.toNat (0, 1))) then addUp r us (sumP s (r.getD u.toNat (0, 1))) else none
def loadOf (paths : List (List Int)) (r : List (Int × Int)) (l : Nat) : Option (Int × Int) := addUp r (users paths l) (0, 1)
/-- none is too much, of the first so many links -/
def allOk (paths : List (List Int)) (r : List (Int × Int)) (n : Nat) : Bool := (List.range n).all fun l => (loadOf paths r l).isSome
def loadL (paths : List (List Int)) (r : List (Int × Int)) (n : Nat) : List (Int × Int) := (List.range n).map fun l => (loadOf paths r l).getD (0, 1)
/-- what is wrong with a net and rates -/
def loadE (caps : List Int) (paths : List (List Int)) (r : List (Int × Int)) : Int :=
  if netE caps paths = 0 then if r.length = paths.length then if ratesE r = 0 then if allOk paths r caps.length then 0 else 4 else ratesE r else 3 else netE caps paths
/-- no rate is below 0, no link's load above what it takes -/
def fitsB (caps : List Int) (paths : List (List Int)) (r : List (Int × Int)) : Bool :=
  (r.all fun a => decide (0 ≤ a.1)) && (List.range caps.length).all fun l => decide (((loadL paths r caps.length).getD l (0, 1)).1 ≤ caps.getD l 0 * ((loadL paths r caps.length).getD l (0, 1)).2)
/-- what is left on a link -/
def leftOf (c : Int) (a : Int × Int) : Int × Int := sumP (c, 1) (-a.1, a.2)
def leftL (caps : List Int) (paths : List (List Int)) (r : List (Int × Int)) : List (Int × Int) := (List.range caps.length).map fun l => leftOf (caps.getD l 0) ((loadL paths r caps.length).getD l (0, 1))
def leftE (caps : List Int) (paths : List (List Int)) (r : List (Int × Int)) : Int :=
  if loadE caps paths r = 0 then if (leftL caps paths r).all mayP then 0 else 4 else loadE caps paths r

theorem ratesE_iff (r : List (Int × Int)) : ratesE r = 0 ↔ ∀ a ∈ r, faultP a = 0 := by
  induction r with
  | nil => simp [ratesE]
  | cons a r ih =>
    simp only [ratesE, List.mem_cons, forall_eq_or_imp]
    split
    · simp [ih, *]
    · simp [*]
theorem ratesE_cons (r : List (Int × Int)) (k : Nat) (h : k < r.length) : ratesE (r.drop k) = if faultP (r.getD k (0, 0)) = 0 then ratesE (r.drop (k + 1)) else faultP (r.getD k (0, 0)) := by
  rw [drop_cons r k h (0, 0)]; rfl
theorem loadL_length (paths : List (List Int)) (r : List (Int × Int)) (n : Nat) : (loadL paths r n).length = n := by simp [loadL]
theorem leftL_length (caps : List Int) (paths : List (List Int)) (r : List (Int × Int)) : (leftL caps paths r).length = caps.length := by simp [leftL]
theorem loadL_getD (paths : List (List Int)) (r : List (Int × Int)) (n l : Nat) (h : l < n) (d : Int × Int) : (loadL paths r n).getD l d = (loadOf paths r l).getD (0, 1) := by
  simp [loadL, List.getD, List.getElem?_map, List.getElem?_range h]
theorem loadL_snoc (paths : List (List Int)) (r : List (Int × Int)) (n : Nat) : loadL paths r (n + 1) = loadL paths r n ++ [(loadOf paths r n).getD (0, 1)] := by
  simp [loadL, List.range_succ]
theorem allOk_snoc (paths : List (List Int)) (r : List (Int × Int)) (n : Nat) : allOk paths r (n + 1) = (allOk paths r n && (loadOf paths r n).isSome) := by
  simp [allOk, List.range_succ]
theorem allOk_le {paths : List (List Int)} {r : List (Int × Int)} {n m : Nat} (h : allOk paths r n = true) (hm : m ≤ n) : allOk paths r m = true := by
  simp only [allOk, List.all_eq_true, List.mem_range] at h ⊢
  exact fun l hl => h l (by omega)
theorem allOk_at {paths : List (List Int)} {r : List (Int × Int)} {n l : Nat} (h : allOk paths r n = true) (hl : l < n) : ∃ s, loadOf paths r l = some s := by
  simp only [allOk, List.all_eq_true, List.mem_range] at h
  exact Option.isSome_iff_exists.1 (h l hl)

theorem loadE_0 {caps : List Int} {paths : List (List Int)} {r : List (Int × Int)} (h : loadE caps paths r = 0) : netE caps paths = 0 ∧ r.length = paths.length ∧ ratesE r = 0 ∧ allOk paths r caps.length = true := by
  unfold loadE at h
  split at h
  · split at h
    · split at h
      · split at h
        · exact ⟨by assumption, by assumption, by assumption, by assumption⟩
        · omega
      · contradiction
    · omega
  · contradiction
theorem loadE_mk {caps : List Int} {paths : List (List Int)} {r : List (Int × Int)} (h1 : netE caps paths = 0) (h2 : r.length = paths.length) (h3 : ratesE r = 0) (h4 : allOk paths r caps.length = true) : loadE caps paths r = 0 := by
  rw [loadE, if_pos h1, if_pos h2, if_pos h3, if_pos h4]

theorem fault_sumP {a b : Int × Int} (ha : faultP a = 0) (hb : faultP b = 0) (h : mayP (sumP a b) = true) : faultP (sumP a b) = 0 := by
  have h1 := fault_0 ha
  have h2 := fault_0 hb
  have hp : 1 ≤ a.2 * b.2 := Int.mul_le_mul h1.1 h2.1 (by decide) (by omega)
  exact fault_low hp h
/-- what is added up of right rates is right -/
theorem addUp_fault {r : List (Int × Int)} (hr : ratesE r = 0) : ∀ (us : List Int) (s t : Int × Int), faultP s = 0 → addUp r us s = some t → faultP t = 0 := by
  intro us
  induction us with
  | nil => intro s t hs h; simp only [addUp, Option.some.injEq] at h; exact h ▸ hs
  | cons u us ih =>
    intro s t hs h
    simp only [addUp] at h
    split at h
    · rename_i hm
      refine ih _ _ (fault_sumP hs ?_ hm) h
      by_cases hu : u.toNat < r.length
      · exact (ratesE_iff r).1 hr _ (getD_mem r _ hu _)
      · rw [List.getD_eq_getElem?_getD, List.getElem?_eq_none (by omega)]
        decide
    · cases h
theorem loadOf_fault {paths : List (List Int)} {r : List (Int × Int)} {l : Nat} {s : Int × Int} (hr : ratesE r = 0) (h : loadOf paths r l = some s) : faultP s = 0 := addUp_fault hr _ _ _ (by decide) h
theorem addUp_snoc (r : List (Int × Int)) : ∀ (us : List Int) (u : Int) (s : Int × Int), addUp r (us ++ [u]) s = (addUp r us s).bind fun t => if mayP (sumP t (r.getD u.toNat (0, 1))) then some (sumP t (r.getD u.toNat (0, 1))) else none := by
  intro us
  induction us with
  | nil => intro u s; simp [addUp]
  | cons x us ih =>
    intro u s
    simp only [List.cons_append, addUp]
    split
    · exact ih _ _
    · rfl
/-- the users' numbers are flows -/
theorem usersFrom_mem (link : Int) : ∀ (l : List (List Int)) (i : Nat) (u : Int), u ∈ usersFrom link i l → (i : Int) ≤ u ∧ u < i + l.length := by
  intro l
  induction l with
  | nil => intro i u h; simp [usersFrom] at h
  | cons p r ih =>
    intro i u h
    simp only [usersFrom] at h
    split at h
    · rcases List.mem_cons.1 h with rfl | h
      · simp; omega
      · have := ih (i + 1) u h
        simp; omega
    · have := ih (i + 1) u h
      simp; omega
theorem users_mem {paths : List (List Int)} {link u : Int} (h : u ∈ users paths link) : 0 ≤ u ∧ u < paths.length := by
  have := usersFrom_mem link paths 0 u h
  omega
end Go.Proofs.YtpnmmmlckdkcdakGreatDoor.Ld

/- Fractions as rational numbers: what a sum, a part and an order of two are. No Go in it. -/
namespace Go.Proofs.YtpnmmmlckdkcdakGreatDoor.Fl
open Fr Ns Ld
set_option linter.unusedSimpArgs false

/-- the number that a fraction is -/
def val (a : Int × Int) : Rat := (a.1 : Rat) / (a.2 : Rat)

theorem castPos {b : Int} (h : 1 ≤ b) : (0 : Rat) < (b : Rat) := by
  have : ((0 : Int) : Rat) < (b : Rat) := Rat.intCast_lt_intCast.2 (by omega)
  simpa using this
theorem castNe {b : Int} (h : 1 ≤ b) : (b : Rat) ≠ 0 := by
  have := castPos h
  intro e
  rw [e] at this
  exact absurd this (by decide)
theorem val_mul {a : Int × Int} (h : 1 ≤ a.2) : val a * (a.2 : Rat) = (a.1 : Rat) := by
  have := castNe h
  unfold val
  grind
theorem val_of_mul {a : Int × Int} {q : Rat} (h : 1 ≤ a.2) (e : q * (a.2 : Rat) = (a.1 : Rat)) : val a = q := by
  have := castNe h
  have := val_mul h
  grind
theorem val_low {t b : Int} (h : 1 ≤ b) : val (lowT t b, lowB t b) = val (t, b) := by
  have hb := lowB_pos (t := t) h
  apply val_of_mul (a := (lowT t b, lowB t b)) hb
  have hr := low_ratio t b
  have hr' : (lowT t b : Rat) * (b : Rat) = (t : Rat) * (lowB t b : Rat) := by
    rw [← Rat.intCast_mul, ← Rat.intCast_mul, hr]
  have hv := val_mul (a := (t, b)) h
  have hn := castNe h
  simp only at hv ⊢
  have : (val (t, b) * (lowB t b : Rat)) * (b : Rat) = (lowT t b : Rat) * (b : Rat) := by
    rw [hr', Rat.mul_assoc, Rat.mul_comm (lowB t b : Rat), ← Rat.mul_assoc, hv]
  grind
theorem val_sum {a b : Int × Int} (ha : 1 ≤ a.2) (hb : 1 ≤ b.2) : val (sumP a b) = val a + val b := by
  have hp : 1 ≤ a.2 * b.2 := Int.mul_le_mul ha hb (by decide) (by omega)
  unfold sumP
  rw [val_low hp]
  apply val_of_mul (a := (a.1 * b.2 + b.1 * a.2, a.2 * b.2)) hp
  have h1 := val_mul ha
  have h2 := val_mul hb
  simp only
  rw [Rat.intCast_mul, Rat.intCast_add, Rat.intCast_mul, Rat.intCast_mul, ← h1, ← h2]
  grind
theorem val_neg (a : Int × Int) : val (-a.1, a.2) = - val a := by
  unfold val
  simp only [Rat.intCast_neg]
  grind
theorem val_whole (c : Int) : val (c, 1) = (c : Rat) := by
  have := val_mul (a := (c, 1)) (show (1 : Int) ≤ 1 by decide)
  simp only [Rat.intCast_one, Rat.mul_one] at this
  exact this
theorem val_part {t b k : Int} (hb : 1 ≤ b) (hk : 1 ≤ k) : val (lowT t (b * k), lowB t (b * k)) * (k : Rat) = val (t, b) := by
  have hp : 1 ≤ b * k := Int.mul_le_mul hb hk (by decide) (by omega)
  rw [val_low hp]
  have h1 := val_mul (a := (t, b * k)) hp
  have h2 := val_mul (a := (t, b)) hb
  have hn := castNe hb
  simp only [Rat.intCast_mul] at h1 h2
  have : (val (t, b * k) * (k : Rat)) * (b : Rat) = val (t, b) * (b : Rat) := by
    rw [h2, ← h1]; grind
  grind
theorem cross {a b : Int × Int} (ha : 1 ≤ a.2) (hb : 1 ≤ b.2) : (val a ≤ val b ↔ a.1 * b.2 ≤ b.1 * a.2) := by
  have h1 := val_mul ha
  have h2 := val_mul hb
  have p1 := castPos ha
  have p2 := castPos hb
  have p3 : (0 : Rat) < (a.2 : Rat) * (b.2 : Rat) := Rat.mul_pos p1 p2
  have e1 : ((a.1 * b.2 : Int) : Rat) = val a * ((a.2 : Rat) * (b.2 : Rat)) := by rw [Rat.intCast_mul, ← h1]; grind
  have e2 : ((b.1 * a.2 : Int) : Rat) = val b * ((a.2 : Rat) * (b.2 : Rat)) := by rw [Rat.intCast_mul, ← h2]; grind
  rw [← Rat.intCast_le_intCast, e1, e2]
  exact ⟨fun h => Rat.mul_le_mul_of_nonneg_right h (Rat.le_of_lt p3), fun h => Rat.le_of_mul_le_mul_right h p3⟩
theorem cross_lt {a b : Int × Int} (ha : 1 ≤ a.2) (hb : 1 ≤ b.2) : (val a < val b ↔ a.1 * b.2 < b.1 * a.2) := by
  have := cross hb ha
  rw [← Rat.not_le, this]
  omega
theorem fault_pos {a : Int × Int} (h : faultP a = 0) : 1 ≤ a.2 := (fault_0 h).1
/-- in lowest terms the number tells the fraction -/
theorem val_inj {a b : Int × Int} (ha : 1 ≤ a.2) (hb : 1 ≤ b.2) (ga : gd a.1 a.2 = 1) (gb : gd b.1 b.2 = 1) (h : val a = val b) : a = b := by
  have h1 : a.1 * b.2 ≤ b.1 * a.2 := (cross ha hb).1 (by rw [h]; exact Rat.le_refl)
  have h2 : b.1 * a.2 ≤ a.1 * b.2 := (cross hb ha).1 (by rw [h]; exact Rat.le_refl)
  have := ratio_uniq ga gb ha hb (by omega)
  exact Prod.ext this.1 this.2
theorem val_inj' {a b : Int × Int} (ha : faultP a = 0) (hb : faultP b = 0) (h : val a = val b) : a = b := val_inj (fault_pos ha) (fault_pos hb) (fault_iff.1 ha).2 (fault_iff.1 hb).2 h

/-- a fraction in lowest terms whose bottom divides D -/
def Over (D : Int) (a : Int × Int) : Prop := 1 ≤ a.2 ∧ gd a.1 a.2 = 1 ∧ a.2 ∣ D
theorem over_of {D t b m : Int} (hb : 1 ≤ b) (e : t * D = m * b) : Over D (lowT t b, lowB t b) := by
  refine ⟨lowB_pos hb, low_coprime hb, ?_⟩
  have h : lowT t b * D = m * lowB t b := by
    have h1 := lowT_mul (t := t) (b := b)
    have h2 := lowB_mul (t := t) (b := b)
    have hg := gd_pos (t := t) hb
    rw [← h1] at e
    have e' : m * b = m * (lowB t b * gd t b) := by rw [h2]
    rw [e'] at e
    have : (lowT t b * D) * gd t b = (m * lowB t b) * gd t b := by
      rw [Int.mul_right_comm, e, Int.mul_assoc]
    exact Int.eq_of_mul_eq_mul_right (by omega) this
  exact dvd_of_coprime (low_coprime hb) ⟨m, by rw [h, Int.mul_comm]⟩
theorem over_sum {D : Int} {a b : Int × Int} (ha : Over D a) (hb : Over D b) : Over D (sumP a b) := by
  obtain ⟨a1, _, k, hk⟩ := ha
  obtain ⟨b1, _, m, hm⟩ := hb
  have hp : 1 ≤ a.2 * b.2 := Int.mul_le_mul a1 b1 (by decide) (by omega)
  refine over_of (m := a.1 * k + b.1 * m) hp ?_
  have e1 : a.1 * b.2 * D = a.1 * k * (a.2 * b.2) := by rw [hk]; grind
  have e2 : b.1 * a.2 * D = b.1 * m * (a.2 * b.2) := by rw [hm]; grind
  rw [Int.add_mul, Int.add_mul, e1, e2]
theorem over_neg {D : Int} {a : Int × Int} (ha : Over D a) : Over D (-a.1, a.2) := ⟨ha.1, by rw [gd_neg]; exact ha.2.1, ha.2.2⟩
theorem over_whole (D c : Int) : Over D (c, 1) := ⟨Int.le_refl 1, by unfold gd; simp, ⟨D, by simp⟩⟩
theorem over_part {D k : Int} {a : Int × Int} (ha : Over D a) (hk : 1 ≤ k) : Over (D * k) (lowT a.1 (a.2 * k), lowB a.1 (a.2 * k)) := by
  obtain ⟨a1, _, m, hm⟩ := ha
  have hp : 1 ≤ a.2 * k := Int.mul_le_mul a1 hk (by decide) (by omega)
  exact over_of (m := a.1 * m) hp (by rw [hm]; grind)
theorem Over.mono {D E : Int} {a : Int × Int} (h : Over D a) (hd : D ∣ E) : Over E a := ⟨h.1, h.2.1, Int.dvd_trans h.2.2 hd⟩
theorem over_fault {D : Int} {a : Int × Int} (h : Over D a) (h1 : 1 ≤ D) (h2 : D ≤ 1000000) (l : 0 ≤ val a) (u : val a ≤ 1000) : faultP a = 0 := by
  obtain ⟨a1, ag, hd⟩ := h
  have hb : a.2 ≤ D := Int.le_of_dvd (by omega) hd
  have e0 : val (0, 1) = 0 := by rw [val_whole]; rfl
  have e1 : val (1000, 1) = 1000 := by rw [val_whole]; rfl
  rw [← e0] at l
  rw [← e1] at u
  have l' := (cross (a := (0, 1)) (by decide) a1).1 l
  have u' := (cross (b := (1000, 1)) a1 (by decide)).1 u
  simp only at l' u'
  exact fault_iff.2 ⟨mayB_iff.2 (by omega), ag⟩
end Go.Proofs.YtpnmmmlckdkcdakGreatDoor.Fl

/- Shares: all of them together, their squares, the gap, and what some that go from one to another one make of these. No Go in it. -/
namespace Go.Proofs.YtpnmmmlckdkcdakGreatDoor.Ev
open Fr Ns Ld Fl
set_option linter.unusedSimpArgs false
set_option linter.unusedVariables false

def tot : List Int → Int
  | [] => 0
  | x :: r => x + tot r
def sqs : List Int → Int
  | [] => 0
  | x :: r => x * x + sqs r
theorem tot_append (l m : List Int) : tot (l ++ m) = tot l + tot m := by
  induction l with
  | nil => simp [tot]
  | cons x r ih => simp only [List.cons_append, tot, ih]; omega
theorem sqs_append (l m : List Int) : sqs (l ++ m) = sqs l + sqs m := by
  induction l with
  | nil => simp [sqs]
  | cons x r ih => simp only [List.cons_append, sqs, ih]; omega
theorem tot_step (l : List Int) (k : Nat) (h : k < l.length) : tot (l.take (k + 1)) = tot (l.take k) + l.getD k 0 := by
  rw [take_snoc l k h 0, tot_append]; simp [tot]
theorem sqs_step (l : List Int) (k : Nat) (h : k < l.length) : sqs (l.take (k + 1)) = sqs (l.take k) + l.getD k 0 * l.getD k 0 := by
  rw [take_snoc l k h 0, sqs_append]; simp [sqs]

def inTo (most x : Int) : Bool := decide (0 ≤ x) && decide (x ≤ most)
/-- what is wrong with shares: 5 there is none, 4 too many, 1 one is out of bounds, 0 nothing -/
def few (l : List Int) (most : Int) : Int := if l.length = 0 then 5 else if 6 < l.length then 4 else if l.all (inTo most) then 0 else 1
theorem few_0 {l : List Int} {most : Int} : few l most = 0 ↔ 0 < l.length ∧ l.length ≤ 6 ∧ ∀ x ∈ l, 0 ≤ x ∧ x ≤ most := by
  unfold few
  split
  · constructor
    · intro h; omega
    · intro h; omega
  · split
    · constructor
      · intro h; omega
      · intro h; omega
    · split
      · rename_i h
        rw [List.all_eq_true] at h
        constructor
        · intro _
          exact ⟨by omega, by omega, fun x hx => by simpa [inTo] using h x hx⟩
        · intro _; rfl
      · rename_i h
        constructor
        · intro e; omega
        · rintro ⟨_, _, hb⟩
          exfalso; apply h
          rw [List.all_eq_true]
          intro x hx
          simpa [inTo] using hb x hx

theorem tot_bd {M : Int} : ∀ {l : List Int}, (∀ x ∈ l, 0 ≤ x ∧ x ≤ M) → 0 ≤ tot l ∧ tot l ≤ l.length * M := by
  intro l
  induction l with
  | nil => intro _; simp [tot]
  | cons x r ih =>
    intro h
    have h1 := h x (by simp)
    have h2 := ih fun y hy => h y (by simp [hy])
    simp only [tot, List.length_cons]
    have e : ((r.length + 1 : Nat) : Int) * M = r.length * M + M := by rw [Int.natCast_add, Int.add_mul]; simp
    rw [e]
    omega
theorem sqs_bd {M : Int} : ∀ {l : List Int}, (∀ x ∈ l, 0 ≤ x ∧ x ≤ M) → 0 ≤ sqs l ∧ sqs l ≤ l.length * (M * M) := by
  intro l
  induction l with
  | nil => intro _; simp [sqs]
  | cons x r ih =>
    intro h
    have h1 := h x (by simp)
    have h2 := ih fun y hy => h y (by simp [hy])
    simp only [sqs, List.length_cons]
    have e : ((r.length + 1 : Nat) : Int) * (M * M) = r.length * (M * M) + M * M := by rw [Int.natCast_add, Int.add_mul]; simp
    rw [e]
    have h3 : x * x ≤ M * M := Int.mul_le_mul h1.2 h1.2 h1.1 (by omega)
    have h4 : 0 ≤ x * x := Int.mul_nonneg h1.1 h1.1
    omega

def dev (x : Int) : List Int → Int
  | [] => 0
  | y :: r => (x - y) * (x - y) + dev x r
theorem sq_nonneg (x : Int) : 0 ≤ x * x := by
  rcases Int.le_total 0 x with h | h
  · exact Int.mul_nonneg h h
  · exact Int.mul_nonneg_of_nonpos_of_nonpos h h
theorem sq_zero {x : Int} (h : x * x = 0) : x = 0 := by
  rcases Int.mul_eq_zero.1 h with h | h <;> exact h
theorem dev_nonneg (x : Int) : ∀ l, 0 ≤ dev x l := by
  intro l
  induction l with
  | nil => simp [dev]
  | cons y r ih => have := sq_nonneg (x - y); simp only [dev]; omega
theorem dev_zero {x : Int} : ∀ {l}, dev x l = 0 → ∀ y ∈ l, y = x := by
  intro l
  induction l with
  | nil => intro _ y hy; simp at hy
  | cons z r ih =>
    intro h y hy
    have h1 := sq_nonneg (x - z)
    have h2 := dev_nonneg x r
    simp only [dev] at h
    have h3 : (x - z) * (x - z) = 0 := by omega
    have h4 := sq_zero h3
    rcases List.mem_cons.1 hy with rfl | hy
    · omega
    · exact ih (by omega) y hy
theorem dev_eq (x : Int) : ∀ l : List Int, dev x l = l.length * (x * x) - 2 * (x * tot l) + sqs l := by
  intro l
  induction l with
  | nil => simp [dev, tot, sqs]
  | cons y r ih =>
    simp only [dev, tot, sqs, List.length_cons, ih]
    have e : ((r.length + 1 : Nat) : Int) = r.length + 1 := by simp
    rw [e]
    grind
theorem part_eq (x : Int) (r : List Int) : ((x :: r).length : Int) * sqs (x :: r) - tot (x :: r) * tot (x :: r) = (r.length * sqs r - tot r * tot r) + dev x r := by
  rw [dev_eq]
  simp only [tot, sqs, List.length_cons]
  have e : ((r.length + 1 : Nat) : Int) = r.length + 1 := by simp
  rw [e]
  grind
/-- the square of all together is no more than so many times their squares together, and as much just if all are alike -/
theorem cauchy : ∀ l : List Int, tot l * tot l ≤ l.length * sqs l := by
  intro l
  induction l with
  | nil => simp [tot, sqs]
  | cons x r ih =>
    have := part_eq x r
    have := dev_nonneg x r
    omega
theorem cauchy_eq : ∀ {l : List Int}, tot l * tot l = l.length * sqs l → ∀ x ∈ l, ∀ y ∈ l, x = y := by
  intro l
  induction l with
  | nil => intro _ x hx; simp at hx
  | cons z r ih =>
    intro h
    have h1 := part_eq z r
    have h2 := dev_nonneg z r
    have h3 := cauchy r
    have hz := dev_zero (x := z) (l := r) (by omega)
    intro x hx y hy
    have e : ∀ x ∈ z :: r, x = z := fun x hx => by
      rcases List.mem_cons.1 hx with rfl | hx
      · rfl
      · exact hz x hx
    rw [e x hx, e y hy]
theorem alike_eq {c : Int} : ∀ {l : List Int}, (∀ x ∈ l, x = c) → tot l = l.length * c ∧ sqs l = l.length * (c * c) := by
  intro l
  induction l with
  | nil => intro _; simp [tot, sqs]
  | cons x r ih =>
    intro h
    have h1 := h x (by simp)
    have h2 := ih fun y hy => h y (by simp [hy])
    simp only [tot, sqs, List.length_cons, h1, h2.1, h2.2]
    have e : ((r.length + 1 : Nat) : Int) = r.length + 1 := by simp
    rw [e]
    constructor <;> grind
theorem square_all : ∀ {l : List Int}, (∀ x ∈ l, 0 ≤ x) → sqs l ≤ tot l * tot l ∧ 0 ≤ tot l := by
  intro l
  induction l with
  | nil => intro _; simp [tot, sqs]
  | cons x r ih =>
    intro h
    have h1 := h x (by simp)
    obtain ⟨h2, h3⟩ := ih fun y hy => h y (by simp [hy])
    have h4 : 0 ≤ x * tot r := Int.mul_nonneg h1 h3
    simp only [tot, sqs]
    have e : (x + tot r) * (x + tot r) = x * x + 2 * (x * tot r) + tot r * tot r := by grind
    rw [e]
    constructor <;> omega

/-! ### the gap -/
theorem mx_ge (a : Int) : ∀ l : List Int, a ≤ l.foldl max a ∧ ∀ x ∈ l, x ≤ l.foldl max a := by
  intro l
  induction l generalizing a with
  | nil => simp
  | cons y r ih =>
    obtain ⟨h1, h2⟩ := ih (max a y)
    simp only [List.foldl_cons]
    refine ⟨by omega, fun x hx => ?_⟩
    rcases List.mem_cons.1 hx with rfl | hx
    · omega
    · exact h2 x hx
theorem mx_in (a : Int) : ∀ l : List Int, l.foldl max a = a ∨ l.foldl max a ∈ l := by
  intro l
  induction l generalizing a with
  | nil => simp
  | cons y r ih =>
    simp only [List.foldl_cons]
    rcases ih (max a y) with h | h
    · rcases Int.le_total a y with h' | h'
      · right; rw [h, Int.max_eq_right h']; simp
      · left; rw [h, Int.max_eq_left h']
    · right; simp [h]
theorem mn_le (a : Int) : ∀ l : List Int, l.foldl min a ≤ a ∧ ∀ x ∈ l, l.foldl min a ≤ x := by
  intro l
  induction l generalizing a with
  | nil => simp
  | cons y r ih =>
    obtain ⟨h1, h2⟩ := ih (min a y)
    simp only [List.foldl_cons]
    refine ⟨by omega, fun x hx => ?_⟩
    rcases List.mem_cons.1 hx with rfl | hx
    · omega
    · exact h2 x hx
theorem mn_in (a : Int) : ∀ l : List Int, l.foldl min a = a ∨ l.foldl min a ∈ l := by
  intro l
  induction l generalizing a with
  | nil => simp
  | cons y r ih =>
    simp only [List.foldl_cons]
    rcases ih (min a y) with h | h
    · rcases Int.le_total a y with h' | h'
      · left; rw [h, Int.min_eq_left h']
      · right; rw [h, Int.min_eq_right h']; simp
    · right; simp [h]
def mxL (l : List Int) : Int := l.foldl max (l.getD 0 0)
def mnL (l : List Int) : Int := l.foldl min (l.getD 0 0)
/-- the greatest less the least -/
def gapL (l : List Int) : Int := mxL l - mnL l
theorem mx_step (l : List Int) (a : Int) (k : Nat) (h : k < l.length) : (l.take (k + 1)).foldl max a = max ((l.take k).foldl max a) (l.getD k 0) := by
  rw [take_snoc l k h 0, List.foldl_append]; rfl
theorem mn_step (l : List Int) (a : Int) (k : Nat) (h : k < l.length) : (l.take (k + 1)).foldl min a = min ((l.take k).foldl min a) (l.getD k 0) := by
  rw [take_snoc l k h 0, List.foldl_append]; rfl
theorem mxL_spec {l : List Int} (h : 0 < l.length) : mxL l ∈ l ∧ ∀ x ∈ l, x ≤ mxL l := by
  refine ⟨?_, (mx_ge _ l).2⟩
  rcases mx_in (l.getD 0 0) l with e | e
  · unfold mxL; rw [e]; exact getD_mem l 0 h 0
  · exact e
theorem mnL_spec {l : List Int} (h : 0 < l.length) : mnL l ∈ l ∧ ∀ x ∈ l, mnL l ≤ x := by
  refine ⟨?_, (mn_le _ l).2⟩
  rcases mn_in (l.getD 0 0) l with e | e
  · unfold mnL; rw [e]; exact getD_mem l 0 h 0
  · exact e
theorem gap_nonneg {l : List Int} (h : 0 < l.length) : 0 ≤ gapL l := by
  have := (mxL_spec h).2 _ (mnL_spec h).1
  unfold gapL; omega
/-- no two are further apart than the gap -/
theorem gap_ge {l : List Int} (h : 0 < l.length) {x y : Int} (hx : x ∈ l) (hy : y ∈ l) : x - y ≤ gapL l := by
  have h1 := (mxL_spec h).2 x hx
  have h2 := (mnL_spec h).2 y hy
  unfold gapL; omega
theorem gap_le {l : List Int} {d : Int} (h : 0 < l.length) (hd : ∀ x ∈ l, ∀ y ∈ l, x - y ≤ d) : gapL l ≤ d := hd _ (mxL_spec h).1 _ (mnL_spec h).1
theorem gap_zero {l : List Int} (h : 0 < l.length) : gapL l = 0 ↔ ∀ x ∈ l, ∀ y ∈ l, x = y := by
  constructor
  · intro e x hx y hy
    have h1 := gap_ge h hx hy
    have h2 := gap_ge h hy hx
    omega
  · intro e
    have h1 := gap_nonneg h
    have h2 := gap_le (d := 0) h (fun x hx y hy => by have := e x hx y hy; omega)
    omega

/-! ### the index -/
def idx (l : List Int) : Int × Int := (lowT (tot l * tot l) (l.length * sqs l), lowB (tot l * tot l) (l.length * sqs l))
def idxE (l : List Int) : Int := if few l 1000 = 0 then if tot l = 0 then 5 else 0 else few l 1000
theorem idxE_0 {l : List Int} : idxE l = 0 ↔ few l 1000 = 0 ∧ tot l ≠ 0 := by
  unfold idxE
  split
  · split
    · constructor
      · intro h; omega
      · rintro ⟨_, h⟩; contradiction
    · constructor
      · intro _; exact ⟨by assumption, by assumption⟩
      · intro _; rfl
  · constructor
    · intro h; contradiction
    · rintro ⟨h, _⟩; contradiction
theorem idx_parts {l : List Int} (h : idxE l = 0) : 1 ≤ tot l ∧ tot l ≤ 6000 ∧ 1 ≤ sqs l ∧ sqs l ≤ 6000000 ∧ 1 ≤ (l.length : Int) * sqs l ∧ (l.length : Int) * sqs l ≤ 36000000 ∧ 0 ≤ tot l * tot l ∧ tot l * tot l ≤ 36000000 := by
  obtain ⟨h1, h2⟩ := idxE_0.1 h
  obtain ⟨n1, n2, hb⟩ := few_0.1 h1
  have t := tot_bd hb
  have s := sqs_bd hb
  have c := cauchy l
  have hn : (1 : Int) ≤ l.length ∧ (l.length : Int) ≤ 6 := by omega
  have t1 : 1 ≤ tot l := by omega
  have t2 : tot l ≤ 6000 := by
    have : (l.length : Int) * 1000 ≤ 6 * 1000 := by omega
    omega
  have tt : 1 ≤ tot l * tot l := Int.mul_le_mul t1 t1 (by decide) (by omega)
  have t3 : tot l * tot l ≤ 6000 * 6000 := Int.mul_le_mul t2 t2 (by omega) (by omega)
  have s2 : sqs l ≤ 6000000 := by
    have : (l.length : Int) * (1000 * 1000) ≤ 6 * 1000000 := by omega
    omega
  have s1 : 1 ≤ sqs l := by
    rcases Int.lt_or_le 0 (sqs l) with hs | hs
    · omega
    · have : sqs l = 0 := by omega
      rw [this] at c
      omega
  have ns : (l.length : Int) * sqs l ≤ 6 * 6000000 := Int.mul_le_mul hn.2 s2 (by omega) (by omega)
  exact ⟨t1, t2, s1, s2, by omega, by omega, by omega, by omega⟩
theorem low_bd {t b : Int} (h0 : 0 ≤ t) (hb : 1 ≤ b) : 0 ≤ lowT t b ∧ lowT t b ≤ t ∧ 1 ≤ lowB t b ∧ lowB t b ≤ b := by
  have g := gd_pos (t := t) hb
  have e1 := lowT_mul (t := t) (b := b)
  have e2 := lowB_mul (t := t) (b := b)
  have p := lowB_pos (t := t) hb
  have q : 0 ≤ lowT t b := by
    rcases Int.lt_or_le (lowT t b) 0 with h | h
    · have : lowT t b * gd t b ≤ -1 * gd t b := Int.mul_le_mul_of_nonneg_right (by omega) (by omega)
      omega
    · exact h
  have a1 : lowT t b * 1 ≤ lowT t b * gd t b := Int.mul_le_mul_of_nonneg_left g q
  have a2 : lowB t b * 1 ≤ lowB t b * gd t b := Int.mul_le_mul_of_nonneg_left g (by omega)
  refine ⟨q, by omega, p, by omega⟩
theorem idx_right {l : List Int} (h : idxE l = 0) : faultP (idx l) = 0 := by
  obtain ⟨_, _, _, _, b1, b2, t1, t2⟩ := idx_parts h
  obtain ⟨c1, c2, c3, c4⟩ := low_bd t1 b1
  exact fault_low b1 (mayB_iff.2 (by omega))
theorem idx_val {l : List Int} (h : idxE l = 0) : val (idx l) = val (tot l * tot l, (l.length : Int) * sqs l) := val_low (idx_parts h).2.2.2.2.1
theorem cmp_le' {a b : Int × Int} (ha : 1 ≤ a.2) (hb : 1 ≤ b.2) : cmpI (a.1 * b.2) (b.1 * a.2) ≤ 0 ↔ val a ≤ val b := by
  rw [cross ha hb]; unfold cmpI
  split
  · constructor <;> intro <;> omega
  · split
    · constructor <;> intro <;> omega
    · constructor <;> intro <;> omega
theorem cmp_eq' {a b : Int × Int} (ha : 1 ≤ a.2) (hb : 1 ≤ b.2) : cmpI (a.1 * b.2) (b.1 * a.2) = 0 ↔ val a = val b := by
  have h1 := cross ha hb
  have h2 := cross hb ha
  have e : val a = val b ↔ val a ≤ val b ∧ val b ≤ val a := by
    constructor
    · intro e; rw [e]; exact ⟨Rat.le_refl, Rat.le_refl⟩
    · rintro ⟨x, y⟩; grind
  rw [e, h1, h2]; unfold cmpI
  split
  · constructor <;> intro <;> omega
  · split
    · constructor <;> intro <;> omega
    · constructor <;> intro <;> omega
/-- from all for one to all alike -/
theorem idx_between {l : List Int} (h : idxE l = 0) : cmpI (1 * (idx l).2) ((idx l).1 * (l.length : Int)) ≤ 0 ∧ cmpI ((idx l).1 * 1) (1 * (idx l).2) ≤ 0 ∧ (cmpI ((idx l).1 * 1) (1 * (idx l).2) = 0 ↔ gapL l = 0) := by
  obtain ⟨h1, h2⟩ := idxE_0.1 h
  obtain ⟨n1, n2, hb⟩ := few_0.1 h1
  have hn : (1 : Int) ≤ l.length := by omega
  obtain ⟨t1, t2, s1, s2, b1, b2, q1, q2⟩ := idx_parts h
  have hv := idx_val h
  have hp := fault_pos (idx_right h)
  refine ⟨?_, ?_, ?_⟩
  · rw [cmp_le' (a := (1, (l.length : Int))) (b := idx l) hn hp, hv, cross (a := (1, (l.length : Int))) (b := (tot l * tot l, (l.length : Int) * sqs l)) hn b1]
    have := (square_all fun x hx => (hb x hx).1).1
    have := Int.mul_le_mul_of_nonneg_left this (show (0 : Int) ≤ l.length by omega)
    simp only
    grind
  · rw [cmp_le' (a := idx l) (b := (1, 1)) hp (by decide), hv, cross (a := (tot l * tot l, (l.length : Int) * sqs l)) (b := (1, 1)) b1 (by decide)]
    have := cauchy l
    simpa using this
  · rw [cmp_eq' (a := idx l) (b := (1, 1)) hp (by decide), hv, gap_zero n1]
    have e : val (tot l * tot l, (l.length : Int) * sqs l) = val (1, 1) ↔ tot l * tot l = (l.length : Int) * sqs l := by
      have := cmp_eq' (a := (tot l * tot l, (l.length : Int) * sqs l)) (b := (1, 1)) b1 (by decide)
      rw [← this]
      simp only [Int.mul_one, Int.one_mul]
      unfold cmpI
      split
      · constructor <;> intro <;> omega
      · split
        · constructor <;> intro <;> omega
        · constructor <;> intro <;> omega
    rw [e]
    constructor
    · exact cauchy_eq
    · intro ha
      obtain ⟨e1, e2⟩ := alike_eq (c := l.getD 0 0) (l := l) fun x hx => ha x hx _ (getD_mem l 0 n1 0)
      rw [e1, e2]
      grind

/-! ### some go from one to another one -/
def giveL (l : List Int) (f t : Nat) (m : Int) : List Int := (l.set f (l.getD f 0 - m)).set t ((l.set f (l.getD f 0 - m)).getD t 0 + m)
theorem tot_set : ∀ (l : List Int) (f : Nat) (x : Int), f < l.length → tot (l.set f x) = tot l - l.getD f 0 + x := by
  intro l
  induction l with
  | nil => intro f x h; simp at h
  | cons y r ih =>
    intro f x h
    cases f with
    | zero => simp [tot]; omega
    | succ f => have := ih f x (by simpa using h); simp [tot] at this ⊢; omega
theorem sqs_set : ∀ (l : List Int) (f : Nat) (x : Int), f < l.length → sqs (l.set f x) = sqs l - l.getD f 0 * l.getD f 0 + x * x := by
  intro l
  induction l with
  | nil => intro f x h; simp at h
  | cons y r ih =>
    intro f x h
    cases f with
    | zero => simp [sqs]; omega
    | succ f => have := ih f x (by simpa using h); simp [sqs] at this ⊢; omega
theorem getD_set_self (l : List Int) (f : Nat) (x : Int) (h : f < l.length) : (l.set f x).getD f 0 = x := by
  simp [List.getD, h]
theorem getD_set_ne (l : List Int) {f g : Nat} (x : Int) (h : f ≠ g) : (l.set f x).getD g 0 = l.getD g 0 := by
  simp [List.getD, List.getElem?_set_ne h]
theorem giveL_length (l : List Int) (f t : Nat) (m : Int) : (giveL l f t m).length = l.length := by simp [giveL]
theorem give_same (l : List Int) (f : Nat) (m : Int) (hf : f < l.length) : giveL l f f m = l := by
  unfold giveL
  rw [getD_set_self _ _ _ hf, List.set_set]
  have e : l.getD f 0 - m + m = l.getD f 0 := by omega
  rw [e]
  apply List.ext_getElem?
  intro i
  by_cases h : f = i
  · subst h
    rw [List.getElem?_set_self hf]
    simp [List.getD, List.getElem?_eq_getElem hf]
  · rw [List.getElem?_set_ne h]
theorem give_tot (l : List Int) (f t : Nat) (m : Int) (hf : f < l.length) (ht : t < l.length) : tot (giveL l f t m) = tot l := by
  by_cases e : f = t
  · subst e; rw [give_same _ _ _ hf]
  · unfold giveL
    rw [tot_set _ _ _ (by simpa using ht), tot_set _ _ _ hf]
    omega
/-- what a richer one gives a poorer one, no more than the half between, makes squares no more -/
theorem give_sqs (l : List Int) (f t : Nat) (m : Int) (hf : f < l.length) (ht : t < l.length) (hm : 0 ≤ m) (h2 : 2 * m ≤ l.getD f 0 - l.getD t 0) : sqs (giveL l f t m) ≤ sqs l := by
  by_cases e : f = t
  · subst e; rw [give_same _ _ _ hf]; exact Int.le_refl _
  · unfold giveL
    rw [sqs_set _ _ _ (by simpa using ht), sqs_set _ _ _ hf, getD_set_ne _ _ e]
    generalize l.getD f 0 = a at *
    generalize l.getD t 0 = b at *
    have e1 : (a - m) * (a - m) = a * a - 2 * (m * a) + m * m := by grind
    have e2 : (b + m) * (b + m) = b * b + 2 * (m * b) + m * m := by grind
    have e3 : m * (2 * m) ≤ m * (a - b) := Int.mul_le_mul_of_nonneg_left h2 hm
    have e4 : m * (2 * m) = 2 * (m * m) := by grind
    have e5 : m * (a - b) = m * a - m * b := by grind
    rw [e1, e2]
    have hmm := sq_nonneg m
    omega
theorem mem_give {l : List Int} {f t : Nat} {m : Int} {x : Int} (hf : f < l.length) (ht : t < l.length) (e : f ≠ t) (h : x ∈ giveL l f t m) : x ∈ l ∨ x = l.getD f 0 - m ∨ x = l.getD t 0 + m := by
  unfold giveL at h
  rw [getD_set_ne _ _ e] at h
  rcases List.mem_or_eq_of_mem_set h with h | h
  · rcases List.mem_or_eq_of_mem_set h with h | h
    · exact .inl h
    · exact .inr (.inl h)
  · exact .inr (.inr h)
theorem give_gap (l : List Int) (f t : Nat) (m : Int) (hf : f < l.length) (ht : t < l.length) (hm : 0 ≤ m) (h2 : 2 * m ≤ l.getD f 0 - l.getD t 0) : gapL (giveL l f t m) ≤ gapL l := by
  by_cases e : f = t
  · subst e; rw [give_same _ _ _ hf]; exact Int.le_refl _
  · have h0 : 0 < l.length := by omega
    have bx : ∀ x ∈ giveL l f t m, mnL l ≤ x ∧ x ≤ mxL l := by
      intro x hx
      have a1 := (mxL_spec h0).2
      have a2 := (mnL_spec h0).2
      have f1 := a1 _ (getD_mem l f hf 0)
      have f2 := a2 _ (getD_mem l f hf 0)
      have t1 := a1 _ (getD_mem l t ht 0)
      have t2 := a2 _ (getD_mem l t ht 0)
      rcases mem_give hf ht e hx with h | h | h
      · exact ⟨a2 x h, a1 x h⟩
      · omega
      · omega
    refine gap_le (by rw [giveL_length]; exact h0) fun x hx y hy => ?_
    have := bx x hx
    have := bx y hy
    unfold gapL
    omega
/-- no less even -/
theorem give_idx {l : List Int} {f t : Nat} {m : Int} (h : idxE l = 0) (hy : few (giveL l f t m) 1000 = 0) (hf : f < l.length) (ht : t < l.length) (hm : 0 ≤ m) (h2 : 2 * m ≤ l.getD f 0 - l.getD t 0) :
    idxE (giveL l f t m) = 0 ∧ cmpI ((idx l).1 * (idx (giveL l f t m)).2) ((idx (giveL l f t m)).1 * (idx l).2) ≤ 0 := by
  have e0 : idxE (giveL l f t m) = 0 := idxE_0.2 ⟨hy, by rw [give_tot l f t m hf ht]; exact (idxE_0.1 h).2⟩
  refine ⟨e0, ?_⟩
  rw [cmp_le' (fault_pos (idx_right h)) (fault_pos (idx_right e0)), idx_val h, idx_val e0, give_tot l f t m hf ht, giveL_length]
  have p1 := (idx_parts h).2.2.2.2.1
  have p2 := (idx_parts e0).2.2.2.2.1
  rw [giveL_length] at p2
  rw [cross (a := (tot l * tot l, (l.length : Int) * sqs l)) (b := (tot l * tot l, (l.length : Int) * sqs (giveL l f t m))) p1 p2]
  have := give_sqs l f t m hf ht hm h2
  have := Int.mul_le_mul_of_nonneg_left this (show (0 : Int) ≤ l.length by omega)
  exact Int.mul_le_mul_of_nonneg_left this (sq_nonneg _)

/-! ### times as much -/
theorem tot_times (c : Int) : ∀ l : List Int, tot (l.map (· * c)) = tot l * c := by
  intro l
  induction l with
  | nil => simp [tot]
  | cons x r ih => simp only [List.map_cons, tot, ih]; grind
theorem sqs_times (c : Int) : ∀ l : List Int, sqs (l.map (· * c)) = sqs l * (c * c) := by
  intro l
  induction l with
  | nil => simp [sqs]
  | cons x r ih => simp only [List.map_cons, sqs, ih]; grind
theorem times_idx {l : List Int} {c : Int} (h : idxE l = 0) (hc : 1 ≤ c) (hm : ∀ x ∈ l, x * c ≤ 1000) : idxE (l.map (· * c)) = 0 ∧ idx (l.map (· * c)) = idx l := by
  obtain ⟨h1, h2⟩ := idxE_0.1 h
  obtain ⟨n1, n2, hb⟩ := few_0.1 h1
  have e0 : idxE (l.map (· * c)) = 0 := by
    refine idxE_0.2 ⟨few_0.2 ⟨by simpa using n1, by simpa using n2, fun x hx => ?_⟩, ?_⟩
    · obtain ⟨y, hy, rfl⟩ := List.mem_map.1 hx
      exact ⟨Int.mul_nonneg (hb y hy).1 (by omega), hm y hy⟩
    · rw [tot_times]
      intro e
      rcases Int.mul_eq_zero.1 e with e | e
      · exact h2 e
      · omega
  refine ⟨e0, ?_⟩
  have p1 := (idx_parts h).2.2.2.2.1
  have p2 := (idx_parts e0).2.2.2.2.1
  unfold idx
  rw [tot_times, sqs_times, List.length_map] at *
  have := low_of_ratio (t := tot l * c * (tot l * c)) (b := l.length * (sqs l * (c * c))) (u := tot l * tot l) (c := l.length * sqs l) p2 p1 (by grind)
  rw [this.1, this.2]
theorem times_gap {l : List Int} {c : Int} (h : 0 < l.length) (hc : 0 ≤ c) : gapL (l.map (· * c)) = gapL l * c := by
  have h' : 0 < (l.map (· * c)).length := by simpa using h
  have a := mxL_spec h
  have b := mnL_spec h
  have a' := mxL_spec h'
  have b' := mnL_spec h'
  have e1 : mxL (l.map (· * c)) = mxL l * c := by
    have u1 : mxL l * c ≤ _ := a'.2 _ (List.mem_map.2 ⟨_, a.1, rfl⟩)
    obtain ⟨y, hy, e⟩ := List.mem_map.1 a'.1
    have u2 := Int.mul_le_mul_of_nonneg_right (a.2 y hy) hc
    have e : y * c = _ := e
    omega
  have e2 : mnL (l.map (· * c)) = mnL l * c := by
    have u1 : _ ≤ mnL l * c := b'.2 _ (List.mem_map.2 ⟨_, b.1, rfl⟩)
    obtain ⟨y, hy, e⟩ := List.mem_map.1 b'.1
    have u2 := Int.mul_le_mul_of_nonneg_right (b.2 y hy) hc
    have e : y * c = _ := e
    omega
  unfold gapL
  rw [e1, e2, Int.sub_mul]
end Go.Proofs.YtpnmmmlckdkcdakGreatDoor.Ev

/- In parts, and from all to all: what each gets, all together, how far apart. No Go in it. -/
namespace Go.Proofs.YtpnmmmlckdkcdakGreatDoor.Ev
open Fr Ns Ld Fl
set_option linter.unusedSimpArgs false
set_option linter.unusedVariables false

theorem range_map (w : List Int) (f : Int → Int) : (List.range w.length).map (fun i => f (w.getD i 0)) = w.map f := by
  apply List.ext_getElem
  · simp
  · intro i h1 h2
    simp at h1 h2
    simp [List.getD, List.getElem?_eq_getElem h1]
theorem tot_ind (f : Nat → Int) (p : Nat → Bool) : ∀ n : Nat, tot ((List.range n).map fun i => f i + if p i then 1 else 0) = tot ((List.range n).map f) + ((List.range n).countP p : Nat) := by
  intro n
  induction n with
  | zero => simp [tot]
  | succ n ih =>
    rw [List.range_succ, List.map_append, List.map_append, List.countP_append, tot_append, tot_append, ih]
    simp only [List.map_cons, List.map_nil, tot, List.countP_cons, List.countP_nil]
    cases p n <;> simp <;> omega
theorem tot_const (c : Int) : ∀ n : Nat, tot ((List.range n).map fun _ => c) = n * c := by
  intro n
  induction n with
  | zero => simp [tot]
  | succ n ih =>
    rw [List.range_succ, List.map_append, tot_append, ih]
    simp only [List.map_cons, List.map_nil, tot]
    rw [Int.natCast_add, Int.add_mul]; simp
theorem tot_add (f g : Nat → Int) : ∀ n : Nat, tot ((List.range n).map fun i => f i + g i) = tot ((List.range n).map f) + tot ((List.range n).map g) := by
  intro n
  induction n with
  | zero => simp [tot]
  | succ n ih =>
    rw [List.range_succ, List.map_append, List.map_append, List.map_append, tot_append, tot_append, tot_append, ih]
    simp only [List.map_cons, List.map_nil, tot]
    omega

/-! ### split -/
def baseG (many all x : Int) : Int := many * x / all
def restG (many all x : Int) : Int := many * x % all
def keyG (many : Int) (w : List Int) (i : Nat) : Int := -restG many (tot w) (w.getD i 0)
def leftG (many : Int) (w : List Int) : Int := many - tot (w.map (baseG many (tot w)))
def splitL (many : Int) (w : List Int) : List Int := (List.range w.length).map fun i => baseG many (tot w) (w.getD i 0) + if decide (rankK (keyG many w) w.length i < (leftG many w).toNat) then 1 else 0
def splitS (many : Int) (w : List Int) : List Int := if many < 0 then (splitL (-many) w).map (fun x => -x) else splitL many w
def splitE (many : Int) (w : List Int) : Int := if idxE w = 0 then if many < -10000 ∨ 10000 < many then 1 else 0 else idxE w
theorem splitL_length (many : Int) (w : List Int) : (splitL many w).length = w.length := by simp [splitL]
theorem splitS_length (many : Int) (w : List Int) : (splitS many w).length = w.length := by unfold splitS; split <;> simp [splitL_length]
theorem splitL_at {many : Int} {w : List Int} {i : Nat} (h : i < w.length) : (splitL many w).getD i 0 = baseG many (tot w) (w.getD i 0) + if decide (rankK (keyG many w) w.length i < (leftG many w).toNat) then 1 else 0 := by
  simp [splitL, List.getD, List.getElem?_map, List.getElem?_range h]
theorem rest_bd {many all x : Int} (ha : 1 ≤ all) : 0 ≤ restG many all x ∧ restG many all x < all := ⟨Int.emod_nonneg _ (by omega), Int.emod_lt_of_pos _ (by omega)⟩
theorem parts_sum (many all : Int) : ∀ w : List Int, tot (w.map (baseG many all)) * all + tot (w.map (restG many all)) = many * tot w := by
  intro w
  induction w with
  | nil => simp [tot]
  | cons x r ih =>
    simp only [List.map_cons, tot]
    have : baseG many all x * all + restG many all x = many * x := by
      unfold baseG restG
      have := Int.mul_ediv_add_emod (many * x) all
      grind
    grind
theorem rests_pos {many all : Int} (ha : 1 ≤ all) : ∀ w : List Int, 0 ≤ tot (w.map (restG many all)) ∧ tot (w.map (restG many all)) ≤ (w.countP fun x => decide (0 < restG many all x) : Nat) * all := by
  intro w
  induction w with
  | nil => simp [tot]
  | cons x r ih =>
    simp only [List.map_cons, tot, List.countP_cons]
    have hr := rest_bd (many := many) (x := x) ha
    by_cases h : 0 < restG many all x
    · rw [decide_eq_true h]
      simp only [if_true]
      have e : (((r.countP fun x => decide (0 < restG many all x)) + 1 : Nat) : Int) * all = (r.countP fun x => decide (0 < restG many all x) : Nat) * all + all := by rw [Int.natCast_add, Int.add_mul]; simp
      rw [e]
      omega
    · rw [decide_eq_false h]
      simp only [Bool.false_eq_true, if_false, Nat.add_zero]
      omega
theorem left_eq {many : Int} {w : List Int} : leftG many w * tot w = tot (w.map (restG many (tot w))) := by
  have := parts_sum many (tot w) w
  unfold leftG
  rw [Int.sub_mul]
  omega
theorem left_bd {many : Int} {w : List Int} (ha : 1 ≤ tot w) : 0 ≤ leftG many w ∧ leftG many w ≤ (w.countP fun x => decide (0 < restG many (tot w) x) : Nat) := by
  have h := rests_pos (many := many) ha w
  rw [← left_eq] at h
  generalize leftG many w = a at *
  generalize ((w.countP fun x => decide (0 < restG many (tot w) x) : Nat) : Int) = c at *
  refine ⟨?_, ?_⟩
  · exact Int.nonneg_of_mul_nonneg_left h.1 (by omega)
  · exact Int.le_of_mul_le_mul_right h.2 (by omega)
theorem count_range (w : List Int) (p : Int → Bool) : (List.range w.length).countP (fun i => p (w.getD i 0)) = w.countP p := by
  have : w = (List.range w.length).map (fun i => w.getD i 0) := by
    have := range_map w id
    simpa using this.symm
  conv => rhs; rw [this, List.countP_map]
  rfl
/-- all is given -/
theorem split_tot {many : Int} {w : List Int} (ha : 1 ≤ tot w) : tot (splitL many w) = many := by
  have hb := left_bd (many := many) ha
  have hle : w.countP (fun x => decide (0 < restG many (tot w) x)) ≤ w.length := List.countP_le_length
  unfold splitL
  rw [tot_ind (fun i => baseG many (tot w) (w.getD i 0)), (rank_count (keyG many w) w.length (leftG many w).toNat (by omega)).1, range_map w (baseG many (tot w))]
  have : ((leftG many w).toNat : Int) = leftG many w := by omega
  rw [this]
  unfold leftG
  omega
theorem split_part {many : Int} {w : List Int} {i : Nat} (h0 : 0 ≤ many) (ha : 1 ≤ tot w) (hi : i < w.length) : baseG many (tot w) (w.getD i 0) ≤ (splitL many w).getD i 0 ∧ (splitL many w).getD i 0 ≤ baseG many (tot w) (w.getD i 0) + 1 ∧ (w.getD i 0 = 0 → (splitL many w).getD i 0 = 0) := by
  rw [splitL_at hi]
  refine ⟨by split <;> omega, by split <;> omega, fun hz => ?_⟩
  rw [hz]
  have e1 : baseG many (tot w) 0 = 0 := by simp [baseG]
  have hk : keyG many w i = 0 := by unfold keyG restG; rw [hz]; simp
  have hr : w.countP (fun x => decide (0 < restG many (tot w) x)) ≤ rankK (keyG many w) w.length i := by
    rw [← count_range]
    unfold rankK
    refine List.countP_mono_left fun j _ hj => ?_
    rw [ahead_iff, hk]
    unfold keyG
    have : 0 < restG many (tot w) (w.getD j 0) := by simpa using hj
    omega
  have hb := left_bd (many := many) ha
  rw [e1, decide_eq_false (by omega)]
  rfl
theorem neg_tot : ∀ w : List Int, tot (w.map fun x => -x) = -tot w := by
  intro w
  induction w with
  | nil => rfl
  | cons x r ih => simp only [List.map_cons, tot, ih]; omega
theorem splitS_tot {many : Int} {w : List Int} (ha : 1 ≤ tot w) : tot (splitS many w) = many := by
  unfold splitS
  split
  · rw [neg_tot, split_tot ha]; omega
  · exact split_tot ha
/-- of alike weights alike parts, the first ones one more -/
theorem rank_alike (c : Int) {n i : Nat} (key : Nat → Int) (hk : ∀ j, j < n → key j = c) (hi : i < n) : rankK key n i = i := by
  unfold rankK
  have : (List.range n).countP (fun j => ahead key j i) = (List.range n).countP (fun j => decide (j < i)) := countP_congr' fun j hj => by
    rw [Bool.eq_iff_iff, ahead_iff, decide_eq_true_eq, hk j hj, hk i hi]
    omega
  rw [this]
  clear this hk
  induction n with
  | zero => omega
  | succ n ih =>
    rw [List.range_succ, List.countP_append]
    simp only [List.countP_cons, List.countP_nil]
    by_cases e : i = n
    · subst e
      have : (List.range i).countP (fun j => decide (j < i)) = i := by
        have := List.countP_eq_length (p := fun j => decide (j < i)) (l := List.range i)
        rw [List.length_range] at this
        exact this.2 fun j hj => by simpa using hj
      rw [this]
      simp
    · rw [ih (by omega), decide_eq_false (by omega)]
      simp
theorem split_even {many c : Int} {n i : Nat} (hc : 1 ≤ c) (hn : 1 ≤ n) (hi : i < n) : (splitL many (List.replicate n c)).getD i 0 = many / n + if (i : Int) < many % n then 1 else 0 := by
  have hl : (List.replicate n c).length = n := by simp
  have htot : tot (List.replicate n c) = n * c := by
    have := (alike_eq (c := c) (l := List.replicate n c) (fun x hx => (List.mem_replicate.1 hx).2)).1
    rwa [hl] at this
  have hg : ∀ j, j < n → (List.replicate n c).getD j 0 = c := fun j hj => by simp [List.getD, List.getElem?_replicate, hj]
  have hb : many * c / (n * c) = many / n := Int.mul_ediv_mul_of_pos_left many n (by omega)
  rw [splitL_at (by rw [hl]; exact hi), hg i hi, htot, hl]
  have hbase : baseG many (n * c) c = many / n := hb
  rw [hbase]
  have hrk : rankK (keyG many (List.replicate n c)) n i = i := rank_alike (-restG many (n * c) c) _ (fun j hj => by unfold keyG; rw [hg j hj, htot]) hi
  rw [hrk]
  have hleft : leftG many (List.replicate n c) = many % n := by
    unfold leftG
    rw [htot, List.map_replicate, hbase]
    have : tot (List.replicate n (many / n)) = n * (many / n) := by
      have := (alike_eq (c := many / n) (l := List.replicate n (many / n)) (fun x hx => (List.mem_replicate.1 hx).2)).1
      simpa using this
    rw [this]
    have := Int.mul_ediv_add_emod many n
    omega
  rw [hleft]
  have hm := Int.emod_nonneg many (show (n : Int) ≠ 0 by omega)
  congr 1
  by_cases h : (i : Int) < many % n
  · rw [if_pos h, if_pos (by simp; omega)]
  · rw [if_neg h, if_neg (by simp; omega)]

/-! ### shuffle -/
def takeS (part x : Int) : Int := x * part / 1000
def allS (l : List Int) (part : Int) : Int := tot (l.map (takeS part))
def shufL (l : List Int) (part : Int) : List Int := (List.range l.length).map fun i => (l.getD i 0 - takeS part (l.getD i 0) + allS l part / l.length) + if decide (rankK (fun i => l.getD i 0) l.length i < (allS l part % l.length).toNat) then 1 else 0
def shufE (l : List Int) (part : Int) : Int := if few l 10000 = 0 then if part < 0 ∨ 1000 < part then 1 else 0 else few l 10000
theorem shufL_length (l : List Int) (part : Int) : (shufL l part).length = l.length := by simp [shufL]
theorem shufL_at {l : List Int} {part : Int} {i : Nat} (h : i < l.length) : (shufL l part).getD i 0 = (l.getD i 0 - takeS part (l.getD i 0) + allS l part / l.length) + if decide (rankK (fun i => l.getD i 0) l.length i < (allS l part % l.length).toNat) then 1 else 0 := by
  simp [shufL, List.getD, List.getElem?_map, List.getElem?_range h]
theorem tot_sub (f g : Int → Int) : ∀ l : List Int, tot (l.map fun x => f x - g x) = tot (l.map f) - tot (l.map g) := by
  intro l
  induction l with
  | nil => simp [tot]
  | cons x r ih => simp only [List.map_cons, tot, ih]; omega
/-- all together as much -/
theorem shuf_tot {l : List Int} {part : Int} (hn : 0 < l.length) : tot (shufL l part) = tot l := by
  have hn' : (l.length : Int) ≠ 0 := by omega
  have h1 := Int.emod_nonneg (allS l part) hn'
  have h2 := Int.emod_lt_of_pos (allS l part) (show (0 : Int) < l.length by omega)
  have h3 := Int.mul_ediv_add_emod (allS l part) l.length
  unfold shufL
  rw [tot_ind (fun i => l.getD i 0 - takeS part (l.getD i 0) + allS l part / l.length), (rank_count _ l.length (allS l part % l.length).toNat (by omega)).1, tot_add (fun i => l.getD i 0 - takeS part (l.getD i 0)), range_map l (fun x => x - takeS part x), tot_const, tot_sub (fun x => x) (takeS part)]
  have e : tot (l.map (takeS part)) = allS l part := rfl
  rw [e, List.map_id']
  omega
theorem keep_mono {part x y : Int} (h0 : 0 ≤ part) (h1 : part ≤ 1000) (h : x ≤ y) : x - takeS part x ≤ y - takeS part y ∧ (y - takeS part y) - (x - takeS part x) ≤ y - x := by
  unfold takeS
  obtain ⟨d, rfl⟩ : ∃ d, y = x + d := ⟨y - x, by omega⟩
  have hd : 0 ≤ d := by omega
  have e : (x + d) * part = x * part + d * part := Int.add_mul _ _ _
  rw [e]
  have h2 : 0 ≤ d * part := Int.mul_nonneg hd h0
  have h3 : d * part ≤ d * 1000 := Int.mul_le_mul_of_nonneg_left h1 hd
  generalize x * part = a at *
  generalize d * part = b at *
  omega
/-- and no less even -/
theorem shuf_gap {l : List Int} {part : Int} (hn : 0 < l.length) (h0 : 0 ≤ part) (h1 : part ≤ 1000) : gapL (shufL l part) ≤ gapL l := by
  have hn' : (l.length : Int) ≠ 0 := by omega
  have hg := gap_nonneg hn
  refine gap_le (by rw [shufL_length]; exact hn) fun x hx y hy => ?_
  have at_ : ∀ z ∈ shufL l part, ∃ i, i < l.length ∧ z = (shufL l part).getD i 0 := fun z hz => by
    obtain ⟨i, hi, rfl⟩ := List.mem_iff_getElem.1 hz
    rw [shufL_length] at hi
    exact ⟨i, hi, by simp [List.getD, List.getElem?_eq_getElem (show i < (shufL l part).length by rw [shufL_length]; exact hi)]⟩
  obtain ⟨i, hi, rfl⟩ := at_ x hx
  obtain ⟨j, hj, rfl⟩ := at_ y hy
  rw [shufL_at hi, shufL_at hj]
  have mi := getD_mem l i hi 0
  have mj := getD_mem l j hj 0
  have g1 := gap_ge hn mi mj
  have g2 := gap_ge hn mj mi
  by_cases hall : ∀ x ∈ l, ∀ y ∈ l, x = y
  · have e := hall _ mi _ mj
    have hzero : allS l part % l.length = 0 := by
      have : allS l part = l.length * takeS part (l.getD i 0) := by
        unfold allS
        have := (alike_eq (c := takeS part (l.getD i 0)) (l := l.map (takeS part)) (fun z hz => by
          obtain ⟨u, hu, rfl⟩ := List.mem_map.1 hz
          rw [hall u hu _ mi])).1
        rwa [List.length_map] at this
      rw [this]
      exact Int.mul_emod_right _ _
    rw [hzero, e]
    simp
    omega
  · have hpos : 1 ≤ gapL l := by
      have : gapL l ≠ 0 := fun h => hall ((gap_zero hn).1 h)
      omega
    have hri := rank_iff (key := fun i => l.getD i 0) hi hj
    have hrj := rank_iff (key := fun i => l.getD i 0) hj hi
    rw [ahead_iff] at hri hrj
    generalize hK : (allS l part % l.length).toNat = K at *
    generalize rankK (fun i => l.getD i 0) l.length i = ri at *
    generalize rankK (fun i => l.getD i 0) l.length j = rj at *
    rcases Int.le_total (l.getD i 0) (l.getD j 0) with h | h
    · have := keep_mono h0 h1 h
      by_cases a : ri < K <;> by_cases b : rj < K <;> simp only [a, b, decide_true, decide_false, if_true, Bool.false_eq_true, if_false] <;> omega
    · have := keep_mono h0 h1 h
      by_cases a : ri < K <;> by_cases b : rj < K <;> simp only [a, b, decide_true, decide_false, if_true, Bool.false_eq_true, if_false]
      · omega
      · by_cases e : l.getD i 0 = l.getD j 0
        · rw [e]; omega
        · exfalso
          have : rj < ri := hrj.2 (.inl (by omega))
          omega
      · omega
      · omega
/-- of no part nothing goes -/
theorem shuf_none {l : List Int} (hn : 0 < l.length) : shufL l 0 = l ∧ allS l 0 = 0 := by
  have ha : allS l 0 = 0 := by
    unfold allS
    have := (alike_eq (c := 0) (l := l.map (takeS 0)) (fun z hz => by
      obtain ⟨u, hu, rfl⟩ := List.mem_map.1 hz
      simp [takeS])).1
    rw [this]; simp
  refine ⟨?_, ha⟩
  unfold shufL
  rw [ha]
  have : (fun i => (l.getD i 0 - takeS 0 (l.getD i 0) + 0 / (l.length : Int)) + if decide (rankK (fun i => l.getD i 0) l.length i < ((0 : Int) % l.length).toNat) then 1 else 0) = fun i => id (l.getD i 0) := by
    funext i
    simp [takeS]
  rw [this, range_map l id]
  simp
/-- of all all are alike, or one apart -/
theorem shuf_all {l : List Int} (hn : 0 < l.length) : allS l 1000 = tot l ∧ ∀ i, i < l.length → (shufL l 1000).getD i 0 = tot l / l.length ∨ (shufL l 1000).getD i 0 = tot l / l.length + 1 := by
  have ht : ∀ x : Int, takeS 1000 x = x := fun x => by unfold takeS; exact Int.mul_ediv_cancel x (by decide)
  have ha : allS l 1000 = tot l := by
    unfold allS
    have : l.map (takeS 1000) = l.map id := List.map_congr_left fun x _ => ht x
    rw [this, List.map_id]
  refine ⟨ha, fun i hi => ?_⟩
  rw [shufL_at hi, ht, ha]
  split
  · right; omega
  · left; omega

/-! ### the meter -/
def nextM (cap came wait rate : Int) : Int :=
  let r := rate + rate * (2 * (cap - came) - wait) / (4 * cap)
  if cap < r then (if cap < 1 then 1 else cap) else if r < 1 then 1 else r
def metE (cap came wait : Int) : Int := if cap < 1 ∨ 1000 < cap ∨ came < 0 ∨ 10000 < came ∨ wait < 0 ∨ 10000 < wait then 1 else 0
theorem metE_0 {cap came wait : Int} : metE cap came wait = 0 ↔ 1 ≤ cap ∧ cap ≤ 1000 ∧ 0 ≤ came ∧ came ≤ 10000 ∧ 0 ≤ wait ∧ wait ≤ 10000 := by
  unfold metE
  split <;> constructor <;> intro hh <;> omega
theorem next_bd {cap came wait rate : Int} (h : 1 ≤ cap) : 1 ≤ nextM cap came wait rate ∧ nextM cap came wait rate ≤ cap := by
  unfold nextM
  simp only
  split
  · rw [if_neg (by omega)]; omega
  · split <;> omega
/-- where all is as it should be it stays -/
theorem next_stays {cap rate : Int} (h1 : 1 ≤ rate) (h2 : rate ≤ cap) : nextM cap cap 0 rate = rate := by
  unfold nextM
  simp only [Int.sub_self, Int.mul_zero, Int.zero_ediv, Int.add_zero]
  rw [if_neg (by omega), if_neg (by omega)]
/-- the more came, or waits, the less it is -/
theorem next_less {cap came wait rate a b : Int} (hc : 1 ≤ cap) (hr : 1 ≤ rate) (h : 2 * (cap - a) - b ≤ 2 * (cap - came) - wait) : nextM cap a b rate ≤ nextM cap came wait rate := by
  have h1 : rate * (2 * (cap - a) - b) ≤ rate * (2 * (cap - came) - wait) := Int.mul_le_mul_of_nonneg_left h (by omega)
  have h2 : rate * (2 * (cap - a) - b) / (4 * cap) ≤ rate * (2 * (cap - came) - wait) / (4 * cap) := Int.ediv_le_ediv (by omega) h1
  unfold nextM
  simp only
  generalize rate * (2 * (cap - a) - b) / (4 * cap) = p at *
  generalize rate * (2 * (cap - came) - wait) / (4 * cap) = q at *
  split <;> split <;> (try rw [if_neg (by omega : ¬ cap < 1)]) <;> (try (split <;> omega)) <;> omega
theorem next_idle {cap rate : Int} (hc : 1 ≤ cap) (hr : 1 ≤ rate) : nextM cap 0 0 rate = if cap < rate + rate / 2 then cap else rate + rate / 2 := by
  unfold nextM
  have e : rate * (2 * (cap - 0) - 0) / (4 * cap) = rate / 2 := by
    rw [show rate * (2 * (cap - 0) - 0) = rate * (2 * cap) by grind, show 4 * cap = 2 * (2 * cap) by omega]
    exact Int.mul_ediv_mul_of_pos_left rate 2 (by omega)
  simp only [e]
  split
  · rw [if_neg (by omega)]
  · rw [if_neg (by omega)]
end Go.Proofs.YtpnmmmlckdkcdakGreatDoor.Ev

/- What package even is asked beside its numbers: faults, and what is told beside a fault. No Go in it. -/
namespace Go.Proofs.YtpnmmmlckdkcdakGreatDoor.Ev
open Fr Ns Ld Fl
set_option linter.unusedSimpArgs false
set_option linter.unusedVariables false

def okF (k : Int) (a : Int × Int) : Int × Int := if k = 0 then a else (0, 0)
def okI (k x : Int) : Int := if k = 0 then x else 0
theorem okF_0 (a : Int × Int) : okF 0 a = a := rfl
theorem okI_0 (x : Int) : okI 0 x = x := rfl
theorem okF_ne {k : Int} (h : k ≠ 0) (a : Int × Int) : okF k a = (0, 0) := if_neg h
theorem okI_ne {k : Int} (h : k ≠ 0) (x : Int) : okI k x = 0 := if_neg h
/-- the fault of some that go from one to another one -/
def giveE (l : List Int) (f t m : Int) : Int :=
  if few l 1000 = 0 then if f < 0 ∨ l.length ≤ f ∨ t < 0 ∨ l.length ≤ t ∨ m < 0 ∨ 1000 < m then 1
    else if l.getD f.toNat 0 < m then 8 else if 1000 < (giveL l f.toNat t.toNat m).getD t.toNat 0 then 4 else 0
  else few l 1000
theorem giveE_0 {l : List Int} {f t m : Int} (h : giveE l f t m = 0) : few l 1000 = 0 ∧ 0 ≤ f ∧ f < l.length ∧ 0 ≤ t ∧ t < l.length ∧ 0 ≤ m ∧ m ≤ 1000 ∧ m ≤ l.getD f.toNat 0 ∧ (giveL l f.toNat t.toNat m).getD t.toNat 0 ≤ 1000 := by
  unfold giveE at h
  split at h
  · split at h
    · omega
    · split at h
      · omega
      · split at h
        · omega
        · refine ⟨by assumption, ?_⟩
          omega
  · contradiction
/-- what is given is right -/
theorem give_few {l : List Int} {f t m : Int} (h : giveE l f t m = 0) : few (giveL l f.toNat t.toNat m) 1000 = 0 := by
  obtain ⟨h1, f0, f1, t0, t1, m0, m1, h2, h3⟩ := giveE_0 h
  obtain ⟨n1, n2, hb⟩ := few_0.1 h1
  have hf : f.toNat < l.length := by omega
  have ht : t.toNat < l.length := by omega
  refine few_0.2 ⟨by rw [giveL_length]; exact n1, by rw [giveL_length]; exact n2, fun x hx => ?_⟩
  by_cases e : f.toNat = t.toNat
  · rw [e, give_same _ _ _ ht] at hx
    exact hb x hx
  · have bf := hb _ (getD_mem l _ hf 0)
    have bt := hb _ (getD_mem l _ ht 0)
    have ev : (giveL l f.toNat t.toNat m).getD t.toNat 0 = l.getD t.toNat 0 + m := by
      unfold giveL
      rw [getD_set_self _ _ _ (by simpa using ht), getD_set_ne _ _ e]
    rw [ev] at h3
    rcases mem_give hf ht e hx with h | h | h
    · exact hb x h
    · omega
    · omega
theorem low_one {n : Int} (h : 1 ≤ n) : lowT 1 n = 1 ∧ lowB 1 n = n := low_self (by unfold gd; simp)
theorem fact10E : idxE [1, 0] = 0 := by decide +kernel
theorem fact10I : idx [1, 0] = (1, 2) := by decide +kernel
end Go.Proofs.YtpnmmmlckdkcdakGreatDoor.Ev

/- What package give tells beside its parts: the fault of one of them. No Go in it. -/
namespace Go.Proofs.YtpnmmmlckdkcdakGreatDoor.Ev
open Fr Ns Ld Fl
set_option linter.unusedSimpArgs false
set_option linter.unusedVariables false

/-- the fault of the i-th part -/
def partE (many : Int) (w : List Int) (i : Int) : Int := if splitE many w = 0 then if i < 0 ∨ w.length ≤ i then 1 else 0 else splitE many w
theorem splitE_0 {many : Int} {w : List Int} (h : splitE many w = 0) : idxE w = 0 ∧ -10000 ≤ many ∧ many ≤ 10000 := by
  unfold splitE at h
  split at h
  · split at h
    · omega
    · refine ⟨by assumption, by omega, by omega⟩
  · contradiction
theorem idx_tot {w : List Int} (h : idxE w = 0) : 1 ≤ tot w ∧ 1 ≤ w.length ∧ w.length ≤ 6 ∧ ∀ x ∈ w, 0 ≤ x ∧ x ≤ 1000 := by
  obtain ⟨h1, h2⟩ := idxE_0.1 h
  obtain ⟨a, b, c⟩ := few_0.1 h1
  have := (tot_bd c).1
  exact ⟨by omega, a, b, c⟩
theorem shufE_0 {l : List Int} {part : Int} (h : shufE l part = 0) : few l 10000 = 0 ∧ 0 ≤ part ∧ part ≤ 1000 := by
  unfold shufE at h
  split at h
  · split at h
    · omega
    · refine ⟨by assumption, by omega, by omega⟩
  · contradiction
end Go.Proofs.YtpnmmmlckdkcdakGreatDoor.Ev

/- Rates that fit, and narrow places, of whatever flows and links: what follows of these. Plain numbers; no Go in it. -/
namespace Go.Proofs.YtpnmmmlckdkcdakGreatDoor.Fl
set_option linter.unusedSimpArgs false

def sumQ (x : Nat → Rat) : List Nat → Rat
  | [] => 0
  | u :: us => x u + sumQ x us
theorem sumQ_le {x y : Nat → Rat} : ∀ {l : List Nat}, (∀ g ∈ l, x g ≤ y g) → sumQ x l ≤ sumQ y l := by
  intro l
  induction l with
  | nil => intro _; exact Rat.le_refl
  | cons u us ih =>
    intro h
    have h1 := h u (by simp)
    have h2 := ih (fun g hg => h g (by simp [hg]))
    simp only [sumQ]
    grind
theorem sumQ_lt {x y : Nat → Rat} {f : Nat} : ∀ {l : List Nat}, (∀ g ∈ l, x g ≤ y g) → f ∈ l → x f < y f → sumQ x l < sumQ y l := by
  intro l
  induction l with
  | nil => intro _ hf; simp at hf
  | cons u us ih =>
    intro h hf hlt
    have h1 := h u (by simp)
    have h2 := sumQ_le (fun g hg => h g (List.mem_cons_of_mem u hg))
    simp only [sumQ]
    rcases List.mem_cons.1 hf with rfl | hf
    · grind
    · have := ih (fun g hg => h g (by simp [hg])) hf hlt
      grind
theorem sumQ_congr {x y : Nat → Rat} : ∀ {l : List Nat}, (∀ g ∈ l, x g = y g) → sumQ x l = sumQ y l := by
  intro l
  induction l with
  | nil => intro _; rfl
  | cons u us ih =>
    intro h
    simp only [sumQ]
    rw [h u (by simp), ih (fun g hg => h g (by simp [hg]))]
/-- together no more, and one has more: another one has less -/
theorem other_less {x y : Nat → Rat} {f : Nat} {l : List Nat} (hs : sumQ y l ≤ sumQ x l) (hf : f ∈ l) (hlt : x f < y f) : ∃ g ∈ l, y g < x g := by
  apply Classical.byContradiction
  intro hn
  have h : ∀ g ∈ l, x g ≤ y g := fun g hg => by
    rcases (Rat.le_total : x g ≤ y g ∨ y g ≤ x g) with h | h
    · exact h
    · apply Classical.byContradiction
      intro hh
      exact hn ⟨g, hg, by grind⟩
  have := sumQ_lt h hf hlt
  grind

def FitsQ (us : Nat → List Nat) (cap : Nat → Rat) (L n : Nat) (x : Nat → Rat) : Prop := (∀ f, f < n → 0 ≤ x f) ∧ ∀ l, l < L → sumQ x (us l) ≤ cap l
def NeckQ (us : Nat → List Nat) (cap : Nat → Rat) (L : Nat) (x : Nat → Rat) (f : Nat) : Prop := ∃ l, l < L ∧ f ∈ us l ∧ sumQ x (us l) = cap l ∧ ∀ g ∈ us l, x g ≤ x f

variable {us : Nat → List Nat} {cap : Nat → Rat} {L n : Nat} {r x : Nat → Rat}

/-- giving one more takes of one who has no more -/
theorem weak {f : Nat} (hr : FitsQ us cap L n r) (hx : NeckQ us cap L x f) (h : x f < r f) : ∃ l g, l < L ∧ g ∈ us l ∧ g ≠ f ∧ x g ≤ x f ∧ r g < x g := by
  obtain ⟨l, hl, hf, he, hm⟩ := hx
  obtain ⟨g, hg, hlt⟩ := other_less (x := x) (y := r) (by rw [he]; exact hr.2 l hl) hf h
  refine ⟨l, g, hl, hg, ?_, hm g hg, hlt⟩
  rintro rfl
  grind

theorem exists_min (p : Nat → Prop) (m : Nat → Rat) : ∀ n : Nat, (∃ f, f < n ∧ p f) → ∃ f, f < n ∧ p f ∧ ∀ g, g < n → p g → m f ≤ m g := by
  intro n
  induction n with
  | zero => rintro ⟨f, hf, _⟩; omega
  | succ n ih =>
    rintro ⟨f, hf, hp⟩
    by_cases hs : ∃ f, f < n ∧ p f
    · obtain ⟨a, ha, hpa, hm⟩ := ih hs
      by_cases hn : p n
      · rcases (Rat.le_total : m a ≤ m n ∨ m n ≤ m a) with h | h
        · refine ⟨a, by omega, hpa, fun g hg hpg => ?_⟩
          by_cases e : g = n
          · rw [e]; exact h
          · exact hm g (by omega) hpg
        · refine ⟨n, by omega, hn, fun g hg hpg => ?_⟩
          by_cases e : g = n
          · rw [e]; exact Rat.le_refl
          · exact Rat.le_trans h (hm g (by omega) hpg)
      · refine ⟨a, by omega, hpa, fun g hg hpg => ?_⟩
        by_cases e : g = n
        · rw [e] at hpg; exact absurd hpg hn
        · exact hm g (by omega) hpg
    · have e : f = n := by
        by_cases e : f = n
        · exact e
        · exact absurd ⟨f, by omega, hp⟩ hs
      subst e
      refine ⟨f, by omega, hp, fun g hg hpg => ?_⟩
      by_cases e : g = f
      · rw [e]; exact Rat.le_refl
      · exact absurd ⟨g, by omega, hpg⟩ hs

/-- the lesser of two -/
def lo (a b : Rat) : Rat := if a ≤ b then a else b
theorem lo_le_left (a b : Rat) : lo a b ≤ a := by
  unfold lo; split
  · exact Rat.le_refl
  · grind
theorem lo_le_right (a b : Rat) : lo a b ≤ b := by
  unfold lo; split
  · assumption
  · exact Rat.le_refl

/-- only one is fair -/
theorem only (hU : ∀ l, l < L → ∀ g ∈ us l, g < n) (hr : FitsQ us cap L n r) (hx : FitsQ us cap L n x) (nr : ∀ f, f < n → NeckQ us cap L r f) (nx : ∀ f, f < n → NeckQ us cap L x f) : ∀ f, f < n → r f = x f := by
  apply Classical.byContradiction
  intro hn
  have hex : ∃ f, f < n ∧ r f ≠ x f := by
    apply Classical.byContradiction
    intro h
    exact hn fun f hf => Classical.byContradiction fun h' => h ⟨f, hf, h'⟩
  obtain ⟨f, hf, hne, hmin⟩ := exists_min (fun f => r f ≠ x f) (fun f => lo (r f) (x f)) n hex
  rcases (Rat.le_total : r f ≤ x f ∨ x f ≤ r f) with h | h
  · have hlt : r f < x f := Rat.lt_of_le_of_ne h hne
    obtain ⟨l, g, hl, hg, _, h1, h2⟩ := weak hx (nr f hf) hlt
    have h3 := hmin g (hU l hl g hg) (fun e => by rw [e] at h2; exact absurd h2 Rat.lt_irrefl)
    have h4 := lo_le_right (r g) (x g)
    have h5 : lo (r f) (x f) = r f := if_pos h
    grind
  · have hlt : x f < r f := Rat.lt_of_le_of_ne h (Ne.symm hne)
    obtain ⟨l, g, hl, hg, _, h1, h2⟩ := weak hr (nx f hf) hlt
    have h3 := hmin g (hU l hl g hg) (fun e => by rw [e] at h2; exact absurd h2 Rat.lt_irrefl)
    have h4 := lo_le_left (r g) (x g)
    have h5 : lo (r f) (x f) = x f := if_neg (by grind)
    grind

/-- how many have no more than t -/
def cnt (n : Nat) (y : Nat → Rat) (t : Rat) : Nat := (List.range n).countP fun f => decide (y f ≤ t)
theorem countP_lt {p q : Nat → Bool} : ∀ {l : List Nat} {f : Nat}, (∀ g ∈ l, p g = true → q g = true) → f ∈ l → p f = false → q f = true → l.countP p < l.countP q := by
  intro l
  induction l with
  | nil => intro f _ hf; simp at hf
  | cons u us ih =>
    intro f h hf hp hq
    have hle : us.countP p ≤ us.countP q := List.countP_mono_left fun g hg hpg => h g (by simp [hg]) hpg
    rcases List.mem_cons.1 hf with rfl | hf
    · rw [List.countP_cons, List.countP_cons, hp, hq]
      simp only [Bool.false_eq_true, if_false, if_true]
      omega
    · have h1 := ih (fun g hg => h g (by simp [hg])) hf hp hq
      have h2 := h u (by simp)
      rw [List.countP_cons, List.countP_cons]
      cases hpu : p u with
      | false => simp only [Bool.false_eq_true, if_false]; split <;> omega
      | true => rw [h2 hpu]; simp only [if_true]; omega

/-- no way that fits helps the weakest more: where below v as many have no more, at v no fewer have -/
theorem best (hU : ∀ l, l < L → ∀ g ∈ us l, g < n) (hr : FitsQ us cap L n r) (nx : ∀ f, f < n → NeckQ us cap L x f) (v : Rat) (hv : ∀ t, t < v → cnt n r t = cnt n x t) :
    cnt n x v ≤ cnt n r v := by
  have hall : ∀ f, f < n → x f ≤ v → r f = x f := by
    apply Classical.byContradiction
    intro hn
    have hex : ∃ f, f < n ∧ (x f ≤ v ∧ r f ≠ x f) := by
      apply Classical.byContradiction
      intro h
      exact hn fun f hf hfv => Classical.byContradiction fun h' => h ⟨f, hf, hfv, h'⟩
    obtain ⟨f, hf, ⟨hfv, hne⟩, hmin⟩ := exists_min (fun f => x f ≤ v ∧ r f ≠ x f) (fun f => lo (r f) (x f)) n hex
    -- none that differs has more than it had, of those at the least place
    have key : ∀ g, g < n → x g ≤ v → x g < r g → x g ≤ lo (r f) (x f) → False := by
      intro g hg hgv hlt hle
      obtain ⟨l, k, hl, hk, _, h1, h2⟩ := weak hr (nx g hg) hlt
      have h3 := hmin k (hU l hl k hk) ⟨Rat.le_trans h1 hgv, fun e => by rw [e] at h2; exact absurd h2 Rat.lt_irrefl⟩
      have h4 := lo_le_left (r k) (x k)
      grind
    rcases (Rat.le_total : r f ≤ x f ∨ x f ≤ r f) with h | h
    · have hlt : r f < x f := Rat.lt_of_le_of_ne h hne
      have hlo : lo (r f) (x f) = r f := if_pos h
      have ht := hv (r f) (by grind)
      have : cnt n x (r f) < cnt n r (r f) := by
        refine countP_lt (f := f) (fun g hg hp => ?_) (List.mem_range.2 hf) (decide_eq_false (by grind)) (decide_eq_true Rat.le_refl)
        have hgn := List.mem_range.1 hg
        have hxg : x g ≤ r f := of_decide_eq_true hp
        apply decide_eq_true
        by_cases e : r g = x g
        · rw [e]; exact hxg
        · have hgv : x g ≤ v := by grind
          rcases (Rat.le_total : r g ≤ x g ∨ x g ≤ r g) with h' | h'
          · exact Rat.le_trans h' hxg
          · exact (key g hgn hgv (Rat.lt_of_le_of_ne h' (Ne.symm e)) (by rw [hlo]; exact hxg)).elim
      omega
    · have hlt : x f < r f := Rat.lt_of_le_of_ne h (Ne.symm hne)
      have hlo : lo (r f) (x f) = x f := if_neg (by grind)
      exact key f hf hfv hlt (by rw [hlo]; exact Rat.le_refl)
  exact List.countP_mono_left fun f hf hp => by
    have hfn := List.mem_range.1 hf
    have hfv : x f ≤ v := of_decide_eq_true hp
    exact decide_eq_true (by rw [hall f hfn hfv]; exact hfv)
end Go.Proofs.YtpnmmmlckdkcdakGreatDoor.Fl

/- All rise together: the document's rounds as plain lists, and what each step of them is. No Go in it. -/
namespace Go.Proofs.YtpnmmmlckdkcdakGreatDoor.Fl
open Fr Ns Ld
set_option linter.unusedSimpArgs false

def dB (done : List Bool) (f : Nat) : Bool := done.getD f false
def rP (rate : List (Int × Int)) (f : Nat) : Int × Int := rate.getD f (0, 0)
def negP (a : Int × Int) : Int × Int := (-a.1, a.2)
/-- what a link takes, less the rates of those that are not free, and how many are free -/
def linkSum (rate : List (Int × Int)) (done : List Bool) : List Int → Int × Int → Nat → (Int × Int) × Nat
  | [], s, k => (s, k)
  | u :: us, s, k => if dB done u.toNat then linkSum rate done us (sumP s (negP (rP rate u.toNat))) k else linkSum rate done us s (k + 1)
/-- a fraction's k-th part -/
def partP (s : Int × Int) (k : Int) : Int × Int := (lowT s.1 (s.2 * k), lowB s.1 (s.2 * k))
def shareOf (caps : List Int) (paths : List (List Int)) (rate : List (Int × Int)) (done : List Bool) (l : Nat) : Option (Int × Int) :=
  if (linkSum rate done (users paths l) (caps.getD l 0, 1) 0).2 = 0 then none
  else some (partP (linkSum rate done (users paths l) (caps.getD l 0, 1) 0).1 ((linkSum rate done (users paths l) (caps.getD l 0, 1) 0).2 : Nat))
/-- the least one of the first so many -/
def bestOf (sh : Nat → Option (Int × Int)) : Nat → Option (Int × Int)
  | 0 => none
  | n + 1 => match sh n, bestOf sh n with
    | none, b => b
    | some s, none => some s
    | some s, some b => if s.1 * b.2 < b.1 * s.2 then some s else some b
/-- the free flows that go over a link with that share -/
def roundOf (paths : List (List Int)) (done : List Bool) (nar : Nat → Bool) : List Int :=
  ((List.range paths.length).filter fun f => !dB done f && (paths.getD f []).any fun x => nar x.toNat).map (fun f : Nat => (f : Int))
def setRate (rate : List (Int × Int)) (rd : List Int) (b : Int × Int) : List (Int × Int) := (List.range rate.length).map fun f : Nat => if rd.contains (f : Int) then b else rP rate f
def setDone (done : List Bool) (rd : List Int) : List Bool := (List.range done.length).map fun f : Nat => rd.contains (f : Int) || dB done f
def narOf (sh : Nat → Option (Int × Int)) (n : Nat) (l : Nat) : Bool := decide (l < n) && (sh l).isSome && decide (sh l = bestOf sh n)
def fillFrom (caps : List Int) (paths : List (List Int)) : Nat → List (Int × Int) → List Bool → List (Int × Int) × List (List Int)
  | 0, rate, _ => (rate, [])
  | k + 1, rate, done => if done.all id then (rate, []) else
    match bestOf (shareOf caps paths rate done) caps.length with
    | none => (rate, [])
    | some b => ((fillFrom caps paths k (setRate rate (roundOf paths done (narOf (shareOf caps paths rate done) caps.length)) b) (setDone done (roundOf paths done (narOf (shareOf caps paths rate done) caps.length)))).1,
        roundOf paths done (narOf (shareOf caps paths rate done) caps.length) :: (fillFrom caps paths k (setRate rate (roundOf paths done (narOf (shareOf caps paths rate done) caps.length)) b) (setDone done (roundOf paths done (narOf (shareOf caps paths rate done) caps.length)))).2)
def fill (caps : List Int) (paths : List (List Int)) : List (Int × Int) × List (List Int) := fillFrom caps paths paths.length (List.replicate paths.length (0, 0)) (List.replicate paths.length false)

def xQ (rate : List (Int × Int)) (f : Nat) : Rat := val (rP rate f)
/-- what each has, if those that are free have t -/
def lev (done : List Bool) (rate : List (Int × Int)) (t : Rat) (u : Nat) : Rat := if dB done u then xQ rate u else t
/-- who goes over a link -/
def usN (paths : List (List Int)) (l : Nat) : List Nat := (users paths l).map Int.toNat
def capQ (caps : List Int) (l : Nat) : Rat := ((caps.getD l 0 : Int) : Rat)

/-- a net whose links and paths are right; there may be more links than a net's -/
def Good (caps : List Int) (paths : List (List Int)) : Prop :=
  (∀ c ∈ caps, 1 ≤ c ∧ c ≤ 1000) ∧ (∀ p ∈ paths, p ≠ [] ∧ ∀ x ∈ p, 0 ≤ x ∧ x < caps.length) ∧ paths.length ≤ 6 ∧ 0 < paths.length

/-! ### who goes over a link -/
theorem usersFrom_iff (link : Int) : ∀ (l : List (List Int)) (i : Nat) (f : Nat), ((i + f : Nat) : Int) ∈ usersFrom link i l ↔ f < l.length ∧ inB (l.getD f []) link = true := by
  intro l
  induction l with
  | nil => intro i f; simp [usersFrom]
  | cons p r ih =>
    intro i f
    cases f with
    | zero =>
      have hno : ((i : Nat) : Int) ∉ usersFrom link (i + 1) r := fun h => by
        have := usersFrom_mem link r (i + 1) _ h
        omega
      simp only [usersFrom, Nat.add_zero]
      split
      · rename_i hp; simp [hp]
      · rename_i hp; simp [hno, hp]
    | succ f =>
      have e : i + (f + 1) = (i + 1) + f := by omega
      rw [e]
      simp only [usersFrom]
      have := ih (i + 1) f
      split
      · rw [List.mem_cons, this]
        have hne : ¬ (((i + 1 + f : Nat) : Int) = (i : Int)) := by omega
        simp only [hne, false_or]
        simp
      · rw [this]; simp
theorem usN_iff {paths : List (List Int)} {l f : Nat} : f ∈ usN paths l ↔ f < paths.length ∧ inB (paths.getD f []) (l : Int) = true := by
  have := usersFrom_iff (l : Int) paths 0 f
  rw [Nat.zero_add] at this
  unfold usN users
  rw [← this, List.mem_map]
  constructor
  · rintro ⟨a, ha, rfl⟩
    have h2 := usersFrom_mem (l : Int) paths 0 a ha
    have : ((a.toNat : Nat) : Int) = a := by omega
    rw [this]; exact ha
  · intro h
    exact ⟨_, h, by simp⟩
theorem usN_lt {paths : List (List Int)} {l f : Nat} (h : f ∈ usN paths l) : f < paths.length := (usN_iff.1 h).1

/-! ### a link's share -/
theorem lev_lin (done : List Bool) (rate : List (Int × Int)) (s t : Rat) : ∀ us : List Nat, sumQ (lev done rate s) us = sumQ (lev done rate t) us + (s - t) * ((us.countP fun u => !dB done u : Nat) : Rat) := by
  intro us
  induction us with
  | nil => simp [sumQ]; grind
  | cons u us ih =>
    simp only [sumQ, List.countP_cons]
    rw [ih]
    unfold lev
    cases dB done u with
    | true => simp; grind
    | false =>
      simp only [Bool.not_false, if_true, Bool.false_eq_true, if_false]
      rw [Rat.natCast_add]
      grind
theorem linkSum_spec (rate : List (Int × Int)) (done : List Bool) (D : Int) : ∀ (us : List Int) (s : Int × Int) (k : Nat), Over D s → (∀ u ∈ us, dB done u.toNat = true → Over D (rP rate u.toNat)) →
    Over D (linkSum rate done us s k).1 ∧ (linkSum rate done us s k).2 = k + (us.map Int.toNat).countP (fun u => !dB done u) ∧ sumQ (lev done rate 0) (us.map Int.toNat) = val s - val (linkSum rate done us s k).1 := by
  intro us
  induction us with
  | nil => intro s k hs _; refine ⟨hs, by simp [linkSum], ?_⟩; simp only [linkSum, sumQ, List.map_nil]; grind
  | cons u us ih =>
    intro s k hs h
    simp only [linkSum, List.map_cons, sumQ, List.countP_cons]
    by_cases hd : dB done u.toNat = true
    · have hr := h u (by simp) hd
      have hn : Over D (negP (rP rate u.toNat)) := over_neg hr
      obtain ⟨h1, h2, h3⟩ := ih (sumP s (negP (rP rate u.toNat))) k (over_sum hs hn) (fun v hv => h v (by simp [hv]))
      rw [if_pos hd]
      refine ⟨h1, ?_, ?_⟩
      · rw [h2, hd]; simp
      · rw [h3, val_sum hs.1 hn.1]
        have : val (negP (rP rate u.toNat)) = - xQ rate u.toNat := val_neg _
        rw [this]
        simp only [lev, hd, if_true]
        grind
    · obtain ⟨h1, h2, h3⟩ := ih s (k + 1) hs (fun v hv => h v (by simp [hv]))
      rw [if_neg hd]
      have hd' : dB done u.toNat = false := by simpa using hd
      refine ⟨h1, ?_, ?_⟩
      · rw [h2, hd']; simp; omega
      · rw [h3]
        simp only [lev, hd', Bool.false_eq_true, if_false]
        grind
theorem share_some {caps : List Int} {paths : List (List Int)} {rate : List (Int × Int)} {done : List Bool} {D : Int} {l : Nat} {s : Int × Int} (hr : ∀ f, f < paths.length → dB done f = true → Over D (rP rate f)) (h : shareOf caps paths rate done l = some s) :
    sumQ (lev done rate (val s)) (usN paths l) = capQ caps l ∧ (∃ u ∈ usN paths l, dB done u = false) ∧ ∃ k : Nat, 1 ≤ k ∧ k ≤ paths.length ∧ Over (D * k) s := by
  have hsp := linkSum_spec rate done D (users paths l) (caps.getD l 0, 1) 0 (over_whole D _) (fun u hu hd => hr _ (by have := users_mem hu; omega) hd)
  unfold shareOf at h
  have e0 : (users paths l).map Int.toNat = usN paths l := rfl
  rw [e0] at hsp
  revert h hsp
  generalize linkSum rate done (users paths l) (caps.getD l 0, 1) 0 = z
  intro h hsp
  obtain ⟨h1, h2, h3⟩ := hsp
  split at h
  · cases h
  · rename_i hk
    obtain rfl := Option.some.inj h
    have hk1 : 1 ≤ z.2 := by omega
    have hle : z.2 ≤ paths.length := by
      rw [h2, Nat.zero_add]
      refine Nat.le_trans List.countP_le_length ?_
      have := users_length (l : Int) 0 paths
      unfold usN users
      rw [List.length_map]
      exact this
    refine ⟨?_, ?_, z.2, hk1, hle, over_part h1 (by omega)⟩
    · have hp := val_part (t := z.1.1) (b := z.1.2) (k := (z.2 : Int)) h1.1 (by omega)
      have hz : val (z.1.1, z.1.2) = val z.1 := rfl
      rw [hz] at hp
      rw [lev_lin done rate _ 0, h3, val_whole]
      have hc : ((usN paths l).countP fun u => !dB done u) = z.2 := by rw [h2, Nat.zero_add]
      rw [hc]
      have : ((z.2 : Nat) : Rat) = (((z.2 : Nat) : Int) : Rat) := by rw [Rat.intCast_natCast]
      rw [this]
      unfold partP capQ
      grind
    · apply Classical.byContradiction
      intro hn
      have : (usN paths l).countP (fun u => !dB done u) = 0 := by
        rw [List.countP_eq_zero]
        intro u hu hd
        exact hn ⟨u, hu, by simpa using hd⟩
      omega
theorem share_none {caps : List Int} {paths : List (List Int)} {rate : List (Int × Int)} {done : List Bool} {D : Int} {l : Nat} (hr : ∀ f, f < paths.length → dB done f = true → Over D (rP rate f)) (h : shareOf caps paths rate done l = none) :
    ∀ u ∈ usN paths l, dB done u = true := by
  have hsp := linkSum_spec rate done D (users paths l) (caps.getD l 0, 1) 0 (over_whole D _) (fun u hu hd => hr _ (by have := users_mem hu; omega) hd)
  unfold shareOf at h
  split at h
  · rename_i hk
    intro u hu
    have : (usN paths l).countP (fun u => !dB done u) = 0 := by
      have := hsp.2.1
      rw [hk] at this
      unfold usN
      omega
    rw [List.countP_eq_zero] at this
    simpa using this u hu
  · cases h
theorem best_some {sh : Nat → Option (Int × Int)} (hp : ∀ l s, sh l = some s → 1 ≤ s.2) : ∀ (n : Nat) (b : Int × Int), bestOf sh n = some b → (∃ l, l < n ∧ sh l = some b) ∧ ∀ l s, l < n → sh l = some s → val b ≤ val s := by
  intro n
  induction n with
  | zero => intro b h; simp [bestOf] at h
  | succ n ih =>
    intro b h
    unfold bestOf at h
    cases hs : sh n with
    | none =>
      rw [hs] at h
      obtain ⟨⟨l, hl, hb⟩, hm⟩ := ih b h
      refine ⟨⟨l, by omega, hb⟩, fun l s hl hs' => ?_⟩
      by_cases e : l = n
      · rw [e, hs] at hs'; cases hs'
      · exact hm l s (by omega) hs'
    | some s =>
      rw [hs] at h
      cases hb : bestOf sh n with
      | none =>
        rw [hb] at h
        obtain rfl := Option.some.inj h
        refine ⟨⟨n, by omega, hs⟩, fun l t hl ht => ?_⟩
        by_cases e : l = n
        · rw [e, hs] at ht; cases ht; exact Rat.le_refl
        · exfalso
          have hno : ∀ m, bestOf sh m = none → ∀ l, l < m → sh l = none := by
            intro m
            induction m with
            | zero => intro _ l hl; omega
            | succ m ihm =>
              intro hm l hl
              unfold bestOf at hm
              cases hsm : sh m with
              | none =>
                rw [hsm] at hm
                by_cases e : l = m
                · rw [e]; exact hsm
                · exact ihm hm l (by omega)
              | some x =>
                rw [hsm] at hm
                cases hbm : bestOf sh m with
                | none => rw [hbm] at hm; cases hm
                | some y => rw [hbm] at hm; simp only at hm; split at hm <;> cases hm
          have := hno n hb l (by omega)
          rw [this] at ht; cases ht
      | some b0 =>
        rw [hb] at h
        obtain ⟨⟨l0, hl0, hb0⟩, hm⟩ := ih b0 hb
        have p1 := hp n s hs
        have p2 := hp l0 b0 hb0
        simp only at h
        split at h
        · rename_i hlt
          obtain rfl := Option.some.inj h
          have hv : val s < val b0 := (cross_lt p1 p2).2 hlt
          refine ⟨⟨n, by omega, hs⟩, fun l t hl ht => ?_⟩
          by_cases e : l = n
          · rw [e, hs] at ht; cases ht; exact Rat.le_refl
          · have := hm l t (by omega) ht
            grind
        · rename_i hlt
          obtain rfl := Option.some.inj h
          have hv : ¬ val s < val b0 := fun h => hlt ((cross_lt p1 p2).1 h)
          refine ⟨⟨l0, by omega, hb0⟩, fun l t hl ht => ?_⟩
          by_cases e : l = n
          · rw [e, hs] at ht; cases ht; grind
          · exact hm l t (by omega) ht
theorem best_none {sh : Nat → Option (Int × Int)} : ∀ m, bestOf sh m = none → ∀ l, l < m → sh l = none := by
  intro m
  induction m with
  | zero => intro _ l hl; omega
  | succ m ihm =>
    intro hm l hl
    unfold bestOf at hm
    cases hsm : sh m with
    | none =>
      rw [hsm] at hm
      by_cases e : l = m
      · rw [e]; exact hsm
      · exact ihm hm l (by omega)
    | some x =>
      rw [hsm] at hm
      cases hbm : bestOf sh m with
      | none => rw [hbm] at hm; cases hm
      | some y => rw [hbm] at hm; simp only at hm; split at hm <;> cases hm
end Go.Proofs.YtpnmmmlckdkcdakGreatDoor.Fl

/- All rise together: what holds behind each round, and in the end: it fits, and each has its narrow place. No Go in it. -/
namespace Go.Proofs.YtpnmmmlckdkcdakGreatDoor.Fl
open Fr Ns Ld
set_option linter.unusedSimpArgs false

theorem rP_setRate {rate : List (Int × Int)} {rd : List Int} {b : Int × Int} {f : Nat} (h : f < rate.length) : rP (setRate rate rd b) f = if (f : Int) ∈ rd then b else rP rate f := by
  unfold setRate
  have e : rP ((List.range rate.length).map fun f : Nat => if rd.contains (f : Int) then b else rP rate f) f = if rd.contains (f : Int) then b else rP rate f := by
    conv => lhs; unfold rP
    simp only [List.getD, List.getElem?_map, List.getElem?_range h]
    rfl
  rw [e]
  by_cases hm : (f : Int) ∈ rd
  · rw [if_pos hm, if_pos (by simpa using hm)]
  · rw [if_neg hm, if_neg (by simpa using hm)]
theorem dB_setDone {done : List Bool} {rd : List Int} {f : Nat} (h : f < done.length) : dB (setDone done rd) f = (decide ((f : Int) ∈ rd) || dB done f) := by
  unfold setDone
  have e : dB ((List.range done.length).map fun f : Nat => rd.contains (f : Int) || dB done f) f = (rd.contains (f : Int) || dB done f) := by
    conv => lhs; unfold dB
    simp only [List.getD, List.getElem?_map, List.getElem?_range h]
    rfl
  rw [e]
  congr 1
  by_cases hm : (f : Int) ∈ rd
  · simp [hm]
  · simp [hm]
theorem mem_round {paths : List (List Int)} {done : List Bool} {nar : Nat → Bool} {f : Nat} : (f : Int) ∈ roundOf paths done nar ↔ f < paths.length ∧ dB done f = false ∧ ∃ x ∈ paths.getD f [], nar x.toNat = true := by
  unfold roundOf
  rw [List.mem_map]
  constructor
  · rintro ⟨a, ha, e⟩
    have e' : a = f := by omega
    subst e'
    rw [List.mem_filter, List.mem_range] at ha
    simp only [Bool.and_eq_true, Bool.not_eq_true', List.any_eq_true] at ha
    exact ⟨ha.1, ha.2.1, ha.2.2⟩
  · rintro ⟨h1, h2, h3⟩
    refine ⟨f, ?_, rfl⟩
    rw [List.mem_filter, List.mem_range]
    simp only [Bool.and_eq_true, Bool.not_eq_true', List.any_eq_true]
    exact ⟨h1, h2, h3⟩
theorem round_nat {paths : List (List Int)} {done : List Bool} {nar : Nat → Bool} {u : Int} (h : u ∈ roundOf paths done nar) : ∃ f : Nat, u = f ∧ f < paths.length := by
  unfold roundOf at h
  rw [List.mem_map] at h
  obtain ⟨a, ha, rfl⟩ := h
  exact ⟨a, rfl, by rw [List.mem_filter, List.mem_range] at ha; exact ha.1⟩
theorem le_sumQ {x : Nat → Rat} {f : Nat} : ∀ {l : List Nat}, (∀ g ∈ l, 0 ≤ x g) → f ∈ l → x f ≤ sumQ x l := by
  intro l
  induction l with
  | nil => intro _ h; simp at h
  | cons u us ih =>
    intro h hf
    have h1 := h u (by simp)
    have h0 : (0 : Rat) ≤ sumQ x us := by
      have := sumQ_le (x := fun _ => 0) (y := x) (l := us) (fun g hg => h g (by simp [hg]))
      have e : ∀ l : List Nat, sumQ (fun _ => 0) l = 0 := by
        intro l
        induction l with
        | nil => rfl
        | cons a r ih => simp only [sumQ, ih]; grind
      rw [e] at this
      exact this
    simp only [sumQ]
    rcases List.mem_cons.1 hf with rfl | hf
    · grind
    · have := ih (fun g hg => h g (by simp [hg])) hf
      grind

/-- what holds behind each round: b is the last rate, D what the bottoms divide -/
structure Inv (caps : List Int) (paths : List (List Int)) (rate : List (Int × Int)) (done : List Bool) (b : Rat) (D : Int) : Prop where
  lr : rate.length = paths.length
  ld : done.length = paths.length
  hD : 1 ≤ D
  hb : 0 ≤ b
  over : ∀ f, f < paths.length → dB done f = true → Over D (rP rate f) ∧ 0 < xQ rate f ∧ xQ rate f ≤ b
  room : ∀ l, l < caps.length → sumQ (lev done rate b) (usN paths l) ≤ capQ caps l
  strict : ∀ l, l < caps.length → (∃ u ∈ usN paths l, dB done u = false) → sumQ (lev done rate b) (usN paths l) < capQ caps l
  neck : ∀ f, f < paths.length → dB done f = true → ∃ l, l < caps.length ∧ f ∈ usN paths l ∧ (∀ g ∈ usN paths l, dB done g = true) ∧ sumQ (xQ rate) (usN paths l) = capQ caps l ∧ ∀ g ∈ usN paths l, xQ rate g ≤ xQ rate f

theorem capQ_bd {caps : List Int} {l : Nat} (hc : ∀ c ∈ caps, 1 ≤ c ∧ c ≤ 1000) (hl : l < caps.length) : 1 ≤ capQ caps l ∧ capQ caps l ≤ 1000 := by
  have := hc _ (getD_mem caps l hl 0)
  unfold capQ
  constructor
  · have h : ((1 : Int) : Rat) ≤ ((caps.getD l 0 : Int) : Rat) := Rat.intCast_le_intCast.2 this.1
    simpa using h
  · have h : ((caps.getD l 0 : Int) : Rat) ≤ ((1000 : Int) : Rat) := Rat.intCast_le_intCast.2 this.2
    exact h
theorem getD_replicate {α : Type} (n : Nat) (a d : α) (f : Nat) (h : f < n) : (List.replicate n a).getD f d = a := by
  simp [List.getD, List.getElem?_replicate, h]
theorem inv_start {caps : List Int} {paths : List (List Int)} (hg : Good caps paths) : Inv caps paths (List.replicate paths.length (0, 0)) (List.replicate paths.length false) 0 1 := by
  have hd : ∀ f, dB (List.replicate paths.length false) f = false := fun f => by
    unfold dB
    simp only [List.getD, List.getElem?_replicate]
    split <;> rfl
  have h0 : ∀ l, sumQ (lev (List.replicate paths.length false) (List.replicate paths.length (0, 0)) 0) l = 0 := by
    intro l
    induction l with
    | nil => rfl
    | cons u us ih => simp only [sumQ, ih, lev, hd, Bool.false_eq_true, if_false]; grind
  refine ⟨by simp, by simp, by decide, Rat.le_refl, fun f _ h => ?_, fun l hl => ?_, fun l hl _ => ?_, fun f _ h => ?_⟩
  · rw [hd] at h; cases h
  · rw [h0]; have := capQ_bd hg.1 hl; grind
  · rw [h0]; have := capQ_bd hg.1 hl; grind
  · rw [hd] at h; cases h

theorem toNat_lt {caps : List Int} {paths : List (List Int)} (hg : Good caps paths) {f : Nat} (hf : f < paths.length) {x : Int} (hx : x ∈ paths.getD f []) : x.toNat < caps.length ∧ f ∈ usN paths x.toNat := by
  have hp := hg.2.1 _ (getD_mem paths f hf [])
  have hb := hp.2 x hx
  refine ⟨by omega, usN_iff.2 ⟨hf, ?_⟩⟩
  have e : ((x.toNat : Nat) : Int) = x := by omega
  rw [e]
  exact inB_of_mem hx

/-- one round -/
theorem inv_step {caps : List Int} {paths : List (List Int)} {rate : List (Int × Int)} {done : List Bool} {b : Rat} {D : Int} (hg : Good caps paths) (hi : Inv caps paths rate done b D) (hf : ∃ f, f < paths.length ∧ dB done f = false) :
    ∃ bst, bestOf (shareOf caps paths rate done) caps.length = some bst ∧ b < val bst ∧ roundOf paths done (narOf (shareOf caps paths rate done) caps.length) ≠ [] ∧
      ∃ k : Nat, 1 ≤ k ∧ k ≤ 6 ∧ Inv caps paths (setRate rate (roundOf paths done (narOf (shareOf caps paths rate done) caps.length)) bst) (setDone done (roundOf paths done (narOf (shareOf caps paths rate done) caps.length))) (val bst) (D * k) := by
  obtain ⟨f0, hf0, hd0⟩ := hf
  have hr : ∀ f, f < paths.length → dB done f = true → Over D (rP rate f) := fun f h1 h2 => (hi.over f h1 h2).1
  have hp2 : ∀ l s, shareOf caps paths rate done l = some s → 1 ≤ s.2 := fun l s h => by
    obtain ⟨_, _, k, _, _, ho⟩ := share_some hr h
    exact ho.1
  generalize hsh : shareOf caps paths rate done = sh at *
  have hS : ∀ l s, sh l = some s → sumQ (lev done rate (val s)) (usN paths l) = capQ caps l ∧ (∃ u ∈ usN paths l, dB done u = false) ∧ ∃ k : Nat, 1 ≤ k ∧ k ≤ paths.length ∧ Over (D * k) s := fun l s h => share_some hr (by rw [hsh]; exact h)
  have hN : ∀ l, sh l = none → ∀ u ∈ usN paths l, dB done u = true := fun l h => share_none hr (by rw [hsh]; exact h)
  cases hbest : bestOf sh caps.length with
  | none =>
    exfalso
    have hp := hg.2.1 _ (getD_mem paths f0 hf0 [])
    obtain ⟨x, hx⟩ := List.exists_mem_of_ne_nil _ hp.1
    obtain ⟨h1, h2⟩ := toNat_lt hg hf0 hx
    have := hN _ (best_none _ hbest _ h1) _ h2
    rw [hd0] at this; cases this
  | some bst =>
    obtain ⟨⟨lb, hlb, hsb⟩, hmin⟩ := best_some hp2 _ _ hbest
    obtain ⟨s1, ⟨ub, hub, hdb⟩, k, hk1, hk2, hov⟩ := hS lb bst hsb
    have hnar : ∀ l, narOf sh caps.length l = true ↔ l < caps.length ∧ sh l = some bst := by
      intro l
      unfold narOf
      rw [hbest]
      simp only [Bool.and_eq_true, decide_eq_true_eq]
      constructor
      · rintro ⟨⟨h1, _⟩, h3⟩; exact ⟨h1, h3⟩
      · rintro ⟨h1, h3⟩; exact ⟨⟨h1, by rw [h3]; rfl⟩, h3⟩
    have hbv : b < val bst := by
      have hst := hi.strict lb hlb ⟨ub, hub, hdb⟩
      rw [← s1] at hst
      apply Classical.byContradiction
      intro hn
      have hle : val bst ≤ b := by grind
      have := sumQ_le (x := lev done rate (val bst)) (y := lev done rate b) (l := usN paths lb) (fun g _ => by
        unfold lev
        split
        · exact Rat.le_refl
        · exact hle)
      grind
    generalize hrd : roundOf paths done (narOf sh caps.length) = rd
    have hmem : ∀ f : Nat, (f : Int) ∈ rd ↔ f < paths.length ∧ dB done f = false ∧ ∃ x ∈ paths.getD f [], x.toNat < caps.length ∧ sh x.toNat = some bst := by
      intro f
      rw [← hrd, mem_round]
      simp only [hnar]
    have hmem' : ∀ (f l : Nat), l < caps.length → f ∈ usN paths l → dB done f = false → sh l = some bst → (f : Int) ∈ rd := by
      intro f l hl hf hd hs
      obtain ⟨h1, h2⟩ := usN_iff.1 hf
      refine (hmem f).2 ⟨h1, hd, (l : Int), ?_, by simpa using hl, by simpa using hs⟩
      simpa [inB] using h2
    have hrP : ∀ f, f < paths.length → rP (setRate rate rd bst) f = if (f : Int) ∈ rd then bst else rP rate f := fun f h => rP_setRate (by rw [hi.lr]; exact h)
    have hdB : ∀ f, f < paths.length → dB (setDone done rd) f = (decide ((f : Int) ∈ rd) || dB done f) := fun f h => dB_setDone (by rw [hi.ld]; exact h)
    have hx1 : ∀ f, f < paths.length → (f : Int) ∈ rd → xQ (setRate rate rd bst) f = val bst := fun f h h' => by unfold xQ; rw [hrP f h, if_pos h']
    have hx2 : ∀ f, f < paths.length → (f : Int) ∉ rd → xQ (setRate rate rd bst) f = xQ rate f := fun f h h' => by unfold xQ; rw [hrP f h, if_neg h']
    have hno : ∀ f : Nat, dB done f = true → (f : Int) ∉ rd := fun f h h' => by have := ((hmem f).1 h').2.1; rw [h] at this; cases this
    have hlev : ∀ f, f < paths.length → lev (setDone done rd) (setRate rate rd bst) (val bst) f = lev done rate (val bst) f := by
      intro f h
      unfold lev
      rw [hdB f h]
      by_cases h1 : (f : Int) ∈ rd
      · have h2 := ((hmem f).1 h1).2.1
        rw [h2]
        simp only [h1, decide_true, Bool.true_or, if_true, Bool.false_eq_true, if_false]
        exact hx1 f h h1
      · simp only [h1, decide_false, Bool.false_or]
        cases hd : dB done f with
        | true => simp only [if_true]; exact hx2 f h h1
        | false => simp only [Bool.false_eq_true, if_false]
    have hlevS : ∀ l, sumQ (lev (setDone done rd) (setRate rate rd bst) (val bst)) (usN paths l) = sumQ (lev done rate (val bst)) (usN paths l) := fun l => sumQ_congr fun g hg => hlev g (usN_lt hg)
    refine ⟨bst, rfl, hbv, ?_, k, hk1, Nat.le_trans hk2 hg.2.2.1, ?_⟩
    · intro he
      have := hmem' ub lb hlb hub hdb hsb
      rw [he] at this
      cases this
    · refine ⟨by simp [setRate, hi.lr], by simp [setDone, hi.ld], ?_, ?_, ?_, ?_, ?_, ?_⟩
      · have := Int.mul_le_mul hi.hD (show (1 : Int) ≤ (k : Int) by omega) (by decide) (by have := hi.hD; omega)
        omega
      · have := hi.hb; grind
      · intro f hf hd
        rw [hdB f hf] at hd
        by_cases h1 : (f : Int) ∈ rd
        · rw [hrP f hf, if_pos h1, hx1 f hf h1]
          refine ⟨hov, ?_, Rat.le_refl⟩
          have := hi.hb; grind
        · simp only [h1, decide_false, Bool.false_or] at hd
          obtain ⟨o1, o2, o3⟩ := hi.over f hf hd
          rw [hrP f hf, if_neg h1, hx2 f hf h1]
          exact ⟨o1.mono ⟨k, rfl⟩, o2, by grind⟩
      · intro l hl
        rw [hlevS]
        cases hs : sh l with
        | none =>
          have hall := hN l hs
          have e : sumQ (lev done rate (val bst)) (usN paths l) = sumQ (lev done rate b) (usN paths l) := sumQ_congr fun g hg => by unfold lev; rw [hall g hg]; rfl
          rw [e]; exact hi.room l hl
        | some s =>
          have h1 := hmin l s hl hs
          have h2 := (hS l s hs).1
          rw [← h2]
          exact sumQ_le fun g _ => by
            unfold lev
            split
            · exact Rat.le_refl
            · exact h1
      · rintro l hl ⟨u, hu, hd⟩
        have hun := usN_lt hu
        rw [hdB u hun] at hd
        simp only [Bool.or_eq_false_iff, decide_eq_false_iff_not] at hd
        obtain ⟨hd1, hd2⟩ := hd
        rw [hlevS]
        cases hs : sh l with
        | none => have := hN l hs u hu; rw [hd2] at this; cases this
        | some s =>
          obtain ⟨h2, _, k', hk', _, hov'⟩ := hS l s hs
          have h1 := hmin l s hl hs
          have hne : val bst ≠ val s := by
            intro e
            have : bst = s := val_inj hov.1 hov'.1 hov.2.1 hov'.2.1 e
            subst this
            exact hd1 (hmem' u l hl hu hd2 hs)
          have hlt : val bst < val s := Rat.lt_of_le_of_ne h1 hne
          rw [← h2]
          refine sumQ_lt (f := u) (fun g _ => ?_) hu ?_
          · unfold lev
            split
            · exact Rat.le_refl
            · exact h1
          · unfold lev
            rw [hd2]
            simp only [Bool.false_eq_true, if_false]
            exact hlt
      · intro f hf hd
        rw [hdB f hf] at hd
        by_cases h1 : (f : Int) ∈ rd
        · obtain ⟨_, hdf, x, hx, hxl, hxs⟩ := (hmem f).1 h1
          obtain ⟨_, hfu⟩ := toNat_lt hg hf hx
          have hall : ∀ g ∈ usN paths x.toNat, dB done g = true ∨ (g : Int) ∈ rd := fun g hgu => by
            cases hd : dB done g with
            | true => exact .inl rfl
            | false => exact .inr (hmem' g _ hxl hgu hd hxs)
          refine ⟨x.toNat, hxl, hfu, fun g hgu => ?_, ?_, fun g hgu => ?_⟩
          · rw [hdB g (usN_lt hgu)]
            rcases hall g hgu with h | h
            · rw [h]; simp
            · simp [h]
          · rw [← (hS _ _ hxs).1]
            refine sumQ_congr fun g hgu => ?_
            rcases hall g hgu with h | h
            · rw [hx2 g (usN_lt hgu) (hno g h)]; unfold lev; rw [h]; rfl
            · rw [hx1 g (usN_lt hgu) h]
              unfold lev
              rw [((hmem g).1 h).2.1]; rfl
          · rw [hx1 f hf h1]
            rcases hall g hgu with h | h
            · rw [hx2 g (usN_lt hgu) (hno g h)]
              have := (hi.over g (usN_lt hgu) h).2.2
              grind
            · rw [hx1 g (usN_lt hgu) h]; exact Rat.le_refl
        · simp only [h1, decide_false, Bool.false_or] at hd
          obtain ⟨l, hl, hfl, hall, hsum, hm⟩ := hi.neck f hf hd
          refine ⟨l, hl, hfl, fun g hgu => ?_, ?_, fun g hgu => ?_⟩
          · rw [hdB g (usN_lt hgu), hall g hgu]; simp
          · rw [← hsum]
            exact sumQ_congr fun g hgu => hx2 g (usN_lt hgu) (hno g (hall g hgu))
          · rw [hx2 f hf h1, hx2 g (usN_lt hgu) (hno g (hall g hgu))]
            exact hm g hgu
end Go.Proofs.YtpnmmmlckdkcdakGreatDoor.Fl

/- All rise together: in the end it fits, each has its narrow place, each is in one round, later ones have more. No Go in it. -/
namespace Go.Proofs.YtpnmmmlckdkcdakGreatDoor.Fl
open Fr Ns Ld
set_option linter.unusedSimpArgs false

/-- rates that fit, of which each flow has a narrow place; they are right, and above 0 -/
structure Fair (caps : List Int) (paths : List (List Int)) (x : List (Int × Int)) : Prop where
  len : x.length = paths.length
  right : ∀ f, f < paths.length → faultP (rP x f) = 0 ∧ 0 < xQ x f ∧ xQ x f ≤ 1000
  bottom : ∃ D : Int, 1 ≤ D ∧ D ≤ 46656 ∧ ∀ f, f < paths.length → Over D (rP x f)
  fits : FitsQ (usN paths) (capQ caps) caps.length paths.length (xQ x)
  neck : ∀ f, f < paths.length → NeckQ (usN paths) (capQ caps) caps.length (xQ x) f
/-- rounds at rates that rise -/
def Rises (x : Nat → Rat) : Rat → List (List Int) → Prop
  | _, [] => True
  | b, rd :: rest => rd ≠ [] ∧ ∃ v, b < v ∧ (∀ u ∈ rd, x u.toNat = v) ∧ Rises x v rest
def freeN (paths : List (List Int)) (done : List Bool) : Nat := (List.range paths.length).countP fun f => !dB done f

theorem six {a b : Nat} (h : a ≤ b) : (6 : Int) ^ a ≤ 6 ^ b := by
  have h1 : (6 : Nat) ^ a ≤ 6 ^ b := Nat.pow_le_pow_right (by decide) h
  have h2 : (((6 : Nat) ^ a : Nat) : Int) ≤ (((6 : Nat) ^ b : Nat) : Int) := Int.ofNat_le.2 h1
  simpa using h2
theorem inv_end {caps : List Int} {paths : List (List Int)} {rate : List (Int × Int)} {done : List Bool} {b : Rat} {D : Int} (hg : Good caps paths) (hi : Inv caps paths rate done b D) (hD : D ≤ 46656) (ha : ∀ f, f < paths.length → dB done f = true) : Fair caps paths rate := by
  have hle : ∀ f, f < paths.length → 0 < xQ rate f ∧ xQ rate f ≤ 1000 := by
    intro f hf
    have h1 := (hi.over f hf (ha f hf)).2.1
    obtain ⟨l, hl, hfl, _, hs, _⟩ := hi.neck f hf (ha f hf)
    have h2 := le_sumQ (x := xQ rate) (fun g hgl => by have := (hi.over g (usN_lt hgl) (ha g (usN_lt hgl))).2.1; grind) hfl
    have h3 := (capQ_bd hg.1 hl).2
    exact ⟨h1, by grind⟩
  refine ⟨hi.lr, fun f hf => ⟨?_, hle f hf⟩, ⟨D, hi.hD, hD, fun f hf => (hi.over f hf (ha f hf)).1⟩, ⟨fun f hf => Rat.le_of_lt (hle f hf).1, fun l hl => ?_⟩, fun f hf => ?_⟩
  · exact over_fault (hi.over f hf (ha f hf)).1 hi.hD (by omega) (Rat.le_of_lt (hle f hf).1) (hle f hf).2
  · rw [← sumQ_congr (x := lev done rate b) (y := xQ rate) (fun g hgl => by unfold lev; rw [ha g (usN_lt hgl)]; rfl)]
    exact hi.room l hl
  · obtain ⟨l, hl, hfl, _, hs, hm⟩ := hi.neck f hf (ha f hf)
    exact ⟨l, hl, hfl, hs, hm⟩

theorem all_done {done : List Bool} {n : Nat} (hl : done.length = n) : (done.all id = true) ↔ ∀ f, f < n → dB done f = true := by
  rw [List.all_eq_true]
  constructor
  · intro h f hf
    exact h _ (getD_mem done f (by omega) false)
  · intro h a ha
    obtain ⟨i, hi, rfl⟩ := List.mem_iff_getElem.1 ha
    have := h i (by omega)
    simpa [dB, List.getD, List.getElem?_eq_getElem hi] using this

theorem nodup_round {paths : List (List Int)} {done : List Bool} {nar : Nat → Bool} : (roundOf paths done nar).Nodup := by
  unfold roundOf
  have h1 : ((List.range paths.length).filter fun f => !dB done f && (paths.getD f []).any fun x => nar x.toNat).Nodup := List.Nodup.sublist List.filter_sublist List.nodup_range
  exact List.Pairwise.map (R := (· ≠ ·)) (S := (· ≠ ·)) _ (fun a b h e => h (by omega)) h1

theorem fill_spec {caps : List Int} {paths : List (List Int)} (hg : Good caps paths) : ∀ (fuel : Nat) (rate : List (Int × Int)) (done : List Bool) (b : Rat) (D : Int), Inv caps paths rate done b D → freeN paths done ≤ fuel → D * 6 ^ freeN paths done ≤ 46656 →
    Fair caps paths (fillFrom caps paths fuel rate done).1 ∧ (∀ f, f < paths.length → dB done f = true → rP (fillFrom caps paths fuel rate done).1 f = rP rate f) ∧
    Rises (xQ (fillFrom caps paths fuel rate done).1) b (fillFrom caps paths fuel rate done).2 ∧ (fillFrom caps paths fuel rate done).2.flatten.Nodup ∧
    (∀ u : Int, u ∈ (fillFrom caps paths fuel rate done).2.flatten ↔ ∃ f : Nat, u = f ∧ f < paths.length ∧ dB done f = false) := by
  intro fuel
  induction fuel with
  | zero =>
    intro rate done b D hi hf hD
    have h0 : freeN paths done = 0 := by omega
    have ha : ∀ f, f < paths.length → dB done f = true := by
      intro f hf
      unfold freeN at h0
      rw [List.countP_eq_zero] at h0
      simpa using h0 f (List.mem_range.2 hf)
    rw [h0] at hD
    simp only [fillFrom]
    refine ⟨inv_end hg hi (by omega) ha, fun _ _ _ => by first | rfl | trivial, trivial, by simp, fun u => ?_⟩
    simp only [List.flatten_nil, List.not_mem_nil, false_iff]
    rintro ⟨f, _, hf, hd⟩
    rw [ha f hf] at hd; cases hd
  | succ k ih =>
    intro rate done b D hi hf hD
    by_cases hall : done.all id = true
    · have ha := (all_done hi.ld).1 hall
      have h0 : freeN paths done = 0 := by
        unfold freeN
        rw [List.countP_eq_zero]
        intro f hf
        rw [ha f (List.mem_range.1 hf)]; decide
      rw [h0] at hD
      simp only [fillFrom]
      rw [if_pos hall]
      refine ⟨inv_end hg hi (by omega) ha, fun _ _ _ => by first | rfl | trivial, trivial, by simp, fun u => ?_⟩
      simp only [List.flatten_nil, List.not_mem_nil, false_iff]
      rintro ⟨f, _, hf, hd⟩
      rw [ha f hf] at hd; cases hd
    · have hex : ∃ f, f < paths.length ∧ dB done f = false := by
        apply Classical.byContradiction
        intro hn
        exact hall ((all_done hi.ld).2 fun f hf => by
          cases hd : dB done f with
          | true => rfl
          | false => exact absurd ⟨f, hf, hd⟩ hn)
      obtain ⟨bst, hbest, hbv, hne, kk, hk1, hk6, hi'⟩ := inv_step hg hi hex
      have hround : ∀ f : Nat, (f : Int) ∈ roundOf paths done (narOf (shareOf caps paths rate done) caps.length) → f < paths.length ∧ dB done f = false := fun f h => ⟨(mem_round.1 h).1, (mem_round.1 h).2.1⟩
      have hnat : ∀ u ∈ roundOf paths done (narOf (shareOf caps paths rate done) caps.length), ∃ f : Nat, u = f ∧ f < paths.length := fun u h => round_nat h
      have hnd : (roundOf paths done (narOf (shareOf caps paths rate done) caps.length)).Nodup := nodup_round
      simp only [fillFrom]
      rw [if_neg hall, hbest]
      simp only
      generalize roundOf paths done (narOf (shareOf caps paths rate done) caps.length) = rd at *
      have hdB : ∀ f, f < paths.length → dB (setDone done rd) f = (decide ((f : Int) ∈ rd) || dB done f) := fun f h => dB_setDone (by rw [hi.ld]; exact h)
      obtain ⟨u0, hu0⟩ := List.exists_mem_of_ne_nil _ hne
      obtain ⟨f1, rfl, hf1⟩ := hnat u0 hu0
      have hlt : freeN paths (setDone done rd) < freeN paths done := by
        refine countP_lt (f := f1) (fun g hg' hp => ?_) (List.mem_range.2 hf1) ?_ ?_
        · rw [hdB g (List.mem_range.1 hg')] at hp
          simp only [Bool.not_or, Bool.and_eq_true] at hp
          exact hp.2
        · rw [hdB f1 hf1]; simp [hu0]
        · rw [(hround f1 hu0).2]; rfl
      have hpow : D * (kk : Int) * 6 ^ freeN paths (setDone done rd) ≤ 46656 := by
        have e1 : (6 : Int) ^ (freeN paths (setDone done rd) + 1) ≤ 6 ^ freeN paths done := by
          exact six (by omega)
        have p0 : (0 : Int) ≤ 6 ^ freeN paths (setDone done rd) := Int.le_of_lt (Int.pow_pos (by decide))
        have e2 : (kk : Int) * 6 ^ freeN paths (setDone done rd) ≤ 6 ^ freeN paths done := by
          have h6 : (kk : Int) * 6 ^ freeN paths (setDone done rd) ≤ 6 * 6 ^ freeN paths (setDone done rd) := Int.mul_le_mul_of_nonneg_right (by omega) p0
          rw [Int.pow_succ] at e1
          omega
        have e3 : D * ((kk : Int) * 6 ^ freeN paths (setDone done rd)) ≤ D * 6 ^ freeN paths done := Int.mul_le_mul_of_nonneg_left e2 (by have := hi.hD; omega)
        rw [Int.mul_assoc]
        omega
      obtain ⟨i1, i2, i3, i4, i5⟩ := ih _ _ _ _ hi' (by omega) hpow
      generalize fillFrom caps paths k (setRate rate rd bst) (setDone done rd) = z at *
      refine ⟨i1, fun f hf hd => ?_, ⟨hne, val bst, hbv, fun u hu => ?_, i3⟩, ?_, fun u => ?_⟩
      · rw [i2 f hf (by rw [hdB f hf, hd]; simp), rP_setRate (by rw [hi.lr]; exact hf), if_neg]
        intro h
        have := (hround f h).2
        rw [hd] at this; cases this
      · obtain ⟨f, rfl, hf⟩ := hnat u hu
        have e : ((f : Int)).toNat = f := by omega
        rw [e]
        unfold xQ
        rw [i2 f hf (by rw [hdB f hf]; simp [hu]), rP_setRate (by rw [hi.lr]; exact hf), if_pos hu]
      · rw [List.flatten_cons, List.nodup_append]
        refine ⟨hnd, i4, fun a ha c hc e => ?_⟩
        subst e
        obtain ⟨f, rfl, hf, hd⟩ := (i5 a).1 hc
        rw [hdB f hf] at hd
        simp [ha] at hd
      · rw [List.flatten_cons, List.mem_append, i5 u]
        constructor
        · rintro (h | ⟨f, rfl, hf, hd⟩)
          · obtain ⟨f, rfl, hf⟩ := hnat u h
            exact ⟨f, rfl, hf, (hround f h).2⟩
          · rw [hdB f hf] at hd
            simp only [Bool.or_eq_false_iff] at hd
            exact ⟨f, rfl, hf, hd.2⟩
        · rintro ⟨f, rfl, hf, hd⟩
          by_cases h : (f : Int) ∈ rd
          · exact .inl h
          · exact .inr ⟨f, rfl, hf, by rw [hdB f hf]; simp [h, hd]⟩

/-- rates that rise together are fair, and their rounds are as the document says -/
theorem fill_fair {caps : List Int} {paths : List (List Int)} (hg : Good caps paths) :
    Fair caps paths (fill caps paths).1 ∧ Rises (xQ (fill caps paths).1) 0 (fill caps paths).2 ∧ (fill caps paths).2.flatten.Nodup ∧ (∀ u : Int, u ∈ (fill caps paths).2.flatten ↔ ∃ f : Nat, u = f ∧ f < paths.length) := by
  have hd : ∀ f, dB (List.replicate paths.length false) f = false := fun f => by
    unfold dB
    simp only [List.getD, List.getElem?_replicate]
    split <;> rfl
  have hfn : freeN paths (List.replicate paths.length false) ≤ paths.length := by
    unfold freeN
    exact Nat.le_trans List.countP_le_length (by simp)
  have hpow : (1 : Int) * 6 ^ freeN paths (List.replicate paths.length false) ≤ 46656 := by
    rw [Int.one_mul]
    have h1 : (6 : Int) ^ freeN paths (List.replicate paths.length false) ≤ 6 ^ 6 := six (Nat.le_trans hfn hg.2.2.1)
    have h2 : (6 : Int) ^ 6 = 46656 := by decide
    omega
  obtain ⟨h1, _, h3, h4, h5⟩ := fill_spec hg paths.length _ _ 0 1 (inv_start hg) hfn hpow
  refine ⟨h1, h3, h4, fun u => ?_⟩
  rw [show (fill caps paths).2 = (fillFrom caps paths paths.length (List.replicate paths.length (0, 0)) (List.replicate paths.length false)).2 from rfl, h5 u]
  constructor
  · rintro ⟨f, e, hf, _⟩; exact ⟨f, e, hf⟩
  · rintro ⟨f, e, hf⟩; exact ⟨f, e, hf, hd f⟩
end Go.Proofs.YtpnmmmlckdkcdakGreatDoor.Fl

/- Rates sorted, and who is better off: no way that fits is better than rates that are fair. No Go in it. -/
namespace Go.Proofs.YtpnmmmlckdkcdakGreatDoor.Fl
open Fr Ns Ld
set_option linter.unusedSimpArgs false

/-- which of two is less: -1, 0, 1 -/
def ordP (a b : Int × Int) : Int := cmpI (a.1 * b.2) (b.1 * a.2)
/-- one more, behind all that are no more than it -/
def insP (a : Int × Int) : List (Int × Int) → List (Int × Int)
  | [] => [a]
  | b :: l => if ordP b a ≤ 0 then b :: insP a l else a :: b :: l
def sortFrom : List (Int × Int) → List (Int × Int) → List (Int × Int)
  | out, [] => out
  | out, a :: r => sortFrom (insP a out) r
def sortP (r : List (Int × Int)) : List (Int × Int) := sortFrom [] r
/-- the first place where two differ -/
def cmpL : List (Int × Int) → List (Int × Int) → Int
  | a :: l, b :: m => if ordP a b = 0 then cmpL l m else ordP a b
  | _, _ => 0
/-- all bottoms are above 0 -/
def Pos (l : List (Int × Int)) : Prop := ∀ a ∈ l, 1 ≤ a.2
def Asc (l : List (Int × Int)) : Prop := l.Pairwise fun a b => val a ≤ val b

theorem ordP_le {a b : Int × Int} (ha : 1 ≤ a.2) (hb : 1 ≤ b.2) : ordP a b ≤ 0 ↔ val a ≤ val b := by
  rw [cross ha hb]; unfold ordP cmpI
  split
  · constructor <;> intro <;> omega
  · split
    · constructor <;> intro <;> omega
    · constructor <;> intro <;> omega
theorem ordP_0 {a b : Int × Int} (ha : 1 ≤ a.2) (hb : 1 ≤ b.2) : ordP a b = 0 ↔ val a = val b := by
  have h1 := cross ha hb
  have h2 := cross hb ha
  constructor
  · intro h
    unfold ordP cmpI at h
    split at h
    · omega
    · split at h
      · omega
      · exact Rat.le_antisymm (h1.2 (by omega)) (h2.2 (by omega))
  · intro h
    have e1 := h1.1 (by rw [h]; exact Rat.le_refl)
    have e2 := h2.1 (by rw [h]; exact Rat.le_refl)
    unfold ordP cmpI
    rw [if_neg (by omega), if_neg (by omega)]
theorem ordP_neg (a b : Int × Int) : ordP b a = - ordP a b := by
  unfold ordP cmpI
  split <;> split <;> (try split) <;> omega

theorem insP_perm (a : Int × Int) : ∀ l, (insP a l).Perm (a :: l) := by
  intro l
  induction l with
  | nil => exact List.Perm.refl _
  | cons b l ih =>
    unfold insP
    split
    · exact (List.Perm.cons b ih).trans (List.Perm.swap a b l)
    · exact List.Perm.refl _
theorem sortFrom_perm : ∀ (r out : List (Int × Int)), (sortFrom out r).Perm (out ++ r) := by
  intro r
  induction r with
  | nil => intro out; simp [sortFrom]
  | cons a r ih =>
    intro out
    unfold sortFrom
    refine (ih _).trans ?_
    refine (List.Perm.append_right r (insP_perm a out)).trans ?_
    exact (List.perm_middle (a := a) (l₁ := out) (l₂ := r)).symm
theorem sortP_perm (r : List (Int × Int)) : (sortP r).Perm r := by
  have := sortFrom_perm r []
  simpa [sortP] using this
theorem sortP_length (r : List (Int × Int)) : (sortP r).length = r.length := (sortP_perm r).length_eq
theorem sortP_mem {r : List (Int × Int)} {a : Int × Int} : a ∈ sortP r ↔ a ∈ r := (sortP_perm r).mem_iff
theorem insP_asc {a : Int × Int} (ha : 1 ≤ a.2) : ∀ {l : List (Int × Int)}, Pos l → Asc l → Asc (insP a l) := by
  intro l
  induction l with
  | nil => intro _ _; unfold Asc insP; simp
  | cons b l ih =>
    intro hp h
    have hb := hp b (by simp)
    unfold Asc at h
    rw [List.pairwise_cons] at h
    unfold insP
    split
    · rename_i hle
      have hv := (ordP_le hb ha).1 hle
      unfold Asc
      rw [List.pairwise_cons]
      refine ⟨fun c hc => ?_, ih (fun c hc => hp c (by simp [hc])) h.2⟩
      rcases List.mem_cons.1 ((insP_perm a l).mem_iff.1 hc) with rfl | hc
      · exact hv
      · exact h.1 c hc
    · rename_i hle
      have hv : val a ≤ val b := by
        have : ¬ val b ≤ val a := fun h => hle ((ordP_le hb ha).2 h)
        grind
      unfold Asc
      rw [List.pairwise_cons, List.pairwise_cons]
      refine ⟨fun c hc => ?_, h.1, h.2⟩
      rcases List.mem_cons.1 hc with rfl | hc
      · exact hv
      · exact Rat.le_trans hv (h.1 c hc)
theorem sortFrom_asc : ∀ {r out : List (Int × Int)}, Pos r → Pos out → Asc out → Asc (sortFrom out r) := by
  intro r
  induction r with
  | nil => intro out _ _ h; exact h
  | cons a r ih =>
    intro out hr ho h
    have ha := hr a (by simp)
    unfold sortFrom
    refine ih (fun c hc => hr c (by simp [hc])) (fun c hc => ?_) (insP_asc ha ho h)
    rcases List.mem_cons.1 ((insP_perm a out).mem_iff.1 hc) with rfl | hc
    · exact ha
    · exact ho c hc
theorem sortP_asc {r : List (Int × Int)} (hr : Pos r) : Asc (sortP r) := sortFrom_asc hr (fun _ h => by simp at h) List.Pairwise.nil
theorem sortP_pos {r : List (Int × Int)} (hr : Pos r) : Pos (sortP r) := fun a ha => hr a (sortP_mem.1 ha)

theorem cmpL_pos : ∀ {s z : List (Int × Int)}, Pos s → Pos z → s.length = z.length → 0 < cmpL s z → ∃ i, i < s.length ∧ (∀ j, j < i → val (rP s j) = val (rP z j)) ∧ val (rP z i) < val (rP s i) := by
  intro s
  induction s with
  | nil => intro z _ _ hl h; cases z <;> simp [cmpL] at h
  | cons a l ih =>
    intro z hs hz hl h
    cases z with
    | nil => simp [cmpL] at h
    | cons b m =>
      have ha := hs a (by simp)
      have hb := hz b (by simp)
      unfold cmpL at h
      split at h
      · rename_i h0
        obtain ⟨i, hi, h1, h2⟩ := ih (fun c hc => hs c (by simp [hc])) (fun c hc => hz c (by simp [hc])) (by simpa using hl) h
        refine ⟨i + 1, by simpa using hi, fun j hj => ?_, by simpa [rP] using h2⟩
        cases j with
        | zero => simpa [rP] using (ordP_0 ha hb).1 h0
        | succ j => simpa [rP] using h1 j (by omega)
      · refine ⟨0, by simp, fun j hj => by omega, ?_⟩
        have hn : ¬ val a ≤ val b := fun hle => by have := (ordP_le ha hb).2 hle; omega
        simp only [rP, List.getD_cons_zero]
        grind
theorem countQ_perm {r s : List (Int × Int)} (h : s.Perm r) (t : Rat) : s.countP (fun a => decide (val a ≤ t)) = r.countP (fun a => decide (val a ≤ t)) := h.countP_eq _
theorem range_map (r : List (Int × Int)) : (List.range r.length).map (rP r) = r := by
  apply List.ext_getElem
  · simp
  · intro i h1 h2
    simp [rP, List.getD, List.getElem?_eq_getElem h2]
theorem cnt_eq (r : List (Int × Int)) (t : Rat) : cnt r.length (xQ r) t = r.countP (fun a => decide (val a ≤ t)) := by
  conv => rhs; rw [← range_map r]
  rw [List.countP_map]
  rfl
theorem asc_getD {s : List (Int × Int)} (h : Asc s) {i j : Nat} (hij : i ≤ j) (hj : j < s.length) : val (rP s i) ≤ val (rP s j) := by
  by_cases e : i = j
  · rw [e]; exact Rat.le_refl
  · have := List.pairwise_iff_getElem.1 h i j (by omega) hj (by omega)
    simpa [rP, List.getD, List.getElem?_eq_getElem hj, List.getElem?_eq_getElem (show i < s.length by omega)] using this
theorem mem_take {s : List (Int × Int)} {i : Nat} {a : Int × Int} (h : a ∈ s.take i) : ∃ j, j < i ∧ j < s.length ∧ a = rP s j := by
  obtain ⟨j, hj, rfl⟩ := List.mem_iff_getElem.1 h
  rw [List.length_take] at hj
  refine ⟨j, by omega, by omega, ?_⟩
  simp [rP, List.getD, List.getElem?_eq_getElem (show j < s.length by omega)]
theorem mem_drop {s : List (Int × Int)} {i : Nat} {a : Int × Int} (h : a ∈ s.drop i) : ∃ j, i ≤ j ∧ j < s.length ∧ a = rP s j := by
  obtain ⟨j, hj, rfl⟩ := List.mem_iff_getElem.1 h
  rw [List.length_drop] at hj
  refine ⟨i + j, by omega, by omega, ?_⟩
  simp [rP, List.getD, List.getElem?_eq_getElem (show i + j < s.length by omega)]
theorem countP_split (s : List (Int × Int)) (i : Nat) (t : Rat) : s.countP (fun a => decide (val a ≤ t)) = (s.take i).countP (fun a => decide (val a ≤ t)) + (s.drop i).countP (fun a => decide (val a ≤ t)) := by
  rw [← List.countP_append, List.take_append_drop]
theorem drop_zero {s : List (Int × Int)} (h : Asc s) {i : Nat} {t : Rat} (_hi : i < s.length) (ht : t < val (rP s i)) : (s.drop i).countP (fun a => decide (val a ≤ t)) = 0 := by
  rw [List.countP_eq_zero]
  intro a ha
  obtain ⟨j, hj, hjl, rfl⟩ := mem_drop ha
  have := asc_getD h hj hjl
  simp only [decide_eq_true_eq]
  grind
theorem countP_take_congr {s z : List (Int × Int)} : ∀ (i : Nat), i ≤ s.length → i ≤ z.length → (∀ j, j < i → val (rP s j) = val (rP z j)) → ∀ t, (s.take i).countP (fun a => decide (val a ≤ t)) = (z.take i).countP (fun a => decide (val a ≤ t)) := by
  intro i
  induction i with
  | zero => intro _ _ _ t; simp
  | succ i ih =>
    intro h1 h2 h t
    rw [take_snoc s i (by omega) (0, 0), take_snoc z i (by omega) (0, 0), List.countP_append, List.countP_append, ih (by omega) (by omega) (fun j hj => h j (by omega)) t]
    have e : val (s.getD i (0, 0)) = val (z.getD i (0, 0)) := h i (by omega)
    simp only [List.countP_cons, List.countP_nil, e]

/-- of all rates that fit those that are fair are best off -/
theorem rank_best {caps : List Int} {paths : List (List Int)} {r x : List (Int × Int)} (hr : r.length = paths.length) (hp : Pos r) (hf : FitsQ (usN paths) (capQ caps) caps.length paths.length (xQ r)) (hx : Fair caps paths x) : cmpL (sortP r) (sortP x) ≤ 0 := by
  have hpx : Pos x := fun a ha => by
    obtain ⟨i, hi, rfl⟩ := List.mem_iff_getElem.1 ha
    have := fault_pos (hx.right i (by have := hx.len; omega)).1
    simpa [rP, List.getD, List.getElem?_eq_getElem hi] using this
  apply Classical.byContradiction
  intro hn
  have hs := sortP_asc hp
  have hz := sortP_asc hpx
  have hl1 := sortP_length r
  have hl2 := sortP_length x
  have hxl := hx.len
  obtain ⟨i, hi, he, hlt⟩ := cmpL_pos (sortP_pos hp) (sortP_pos hpx) (by omega) (show 0 < cmpL (sortP r) (sortP x) by omega)
  have hcr : ∀ t, cnt paths.length (xQ r) t = (sortP r).countP (fun a => decide (val a ≤ t)) := fun t => by rw [← hr, cnt_eq, countQ_perm (sortP_perm r)]
  have hcx : ∀ t, cnt paths.length (xQ x) t = (sortP x).countP (fun a => decide (val a ≤ t)) := fun t => by rw [← hxl, cnt_eq, countQ_perm (sortP_perm x)]
  have hb := best (fun l _ g hg => usN_lt hg) hf hx.neck (val (rP (sortP x) i)) (fun t ht => by
    rw [hcr, hcx, countP_split (sortP r) i, countP_split (sortP x) i, drop_zero hs hi (by grind), drop_zero hz (by omega) ht, countP_take_congr i (by omega) (by omega) he])
  rw [hcr, hcx, countP_split (sortP r) i, drop_zero hs hi hlt, countP_split (sortP x) (i + 1)] at hb
  have h1 : ((sortP r).take i).countP (fun a => decide (val a ≤ val (rP (sortP x) i))) ≤ i := by
    refine Nat.le_trans List.countP_le_length ?_
    rw [List.length_take]; omega
  have h2 : ((sortP x).take (i + 1)).countP (fun a => decide (val a ≤ val (rP (sortP x) i))) = i + 1 := by
    have : ((sortP x).take (i + 1)).countP (fun a => decide (val a ≤ val (rP (sortP x) i))) = ((sortP x).take (i + 1)).length := by
      rw [List.countP_eq_length]
      intro a ha
      obtain ⟨j, hj, hjl, rfl⟩ := mem_take ha
      exact decide_eq_true (asc_getD hz (by omega) (by omega))
    rw [this, List.length_take]; omega
  omega
/-- ascending ones of the same numbers are the same, if each number has one fraction -/
theorem asc_uniq : ∀ {s z : List (Int × Int)}, (∀ a ∈ s, faultP a = 0) → s.Perm z → Asc s → Asc z → s = z := by
  intro s
  induction s with
  | nil => intro z _ hp _ _; exact (List.Perm.nil_eq hp)
  | cons a l ih =>
    intro z hf hp hs hz
    cases z with
    | nil => exact absurd hp.length_eq (by simp)
    | cons b m =>
      have hfz : ∀ c ∈ b :: m, faultP c = 0 := fun c hc => hf c (hp.mem_iff.2 hc)
      unfold Asc at hs hz
      rw [List.pairwise_cons] at hs hz
      have h1 : val a ≤ val b := by
        rcases List.mem_cons.1 (hp.mem_iff.2 (List.mem_cons_self (a := b) (l := m))) with rfl | h
        · exact Rat.le_refl
        · exact hs.1 b h
      have h2 : val b ≤ val a := by
        rcases List.mem_cons.1 (hp.mem_iff.1 (List.mem_cons_self (a := a) (l := l))) with rfl | h
        · exact Rat.le_refl
        · exact hz.1 a h
      have e : a = b := val_inj' (hf a (by simp)) (hfz b (by simp)) (Rat.le_antisymm h1 h2)
      subst e
      rw [ih (fun c hc => hf c (by simp [hc])) ((List.perm_cons a).1 hp) hs.2 hz.2]
end Go.Proofs.YtpnmmmlckdkcdakGreatDoor.Fl

/- Rates sorted: the other way round they are as good; with a greater one in the place of one they are better. No Go in it. -/
namespace Go.Proofs.YtpnmmmlckdkcdakGreatDoor.Fl
open Fr Ns Ld
set_option linter.unusedSimpArgs false

theorem ordP_range (a b : Int × Int) : ordP a b = -1 ∨ ordP a b = 0 ∨ ordP a b = 1 := by
  unfold ordP cmpI
  split
  · exact .inl rfl
  · split
    · exact .inr (.inr rfl)
    · exact .inr (.inl rfl)
theorem cmpL_range : ∀ (s z : List (Int × Int)), cmpL s z = -1 ∨ cmpL s z = 0 ∨ cmpL s z = 1 := by
  intro s
  induction s with
  | nil => intro z; cases z <;> exact .inr (.inl rfl)
  | cons a l ih =>
    intro z
    cases z with
    | nil => exact .inr (.inl rfl)
    | cons b m =>
      unfold cmpL
      split
      · exact ih m
      · exact ordP_range a b
theorem cmpL_neg : ∀ (s z : List (Int × Int)), cmpL z s = - cmpL s z := by
  intro s
  induction s with
  | nil => intro z; cases z <;> rfl
  | cons a l ih =>
    intro z
    cases z with
    | nil => rfl
    | cons b m =>
      unfold cmpL
      have := ordP_neg a b
      by_cases h : ordP a b = 0
      · rw [if_pos h, if_pos (by omega), ih m]
      · rw [if_neg h, if_neg (by omega), this]
theorem cmpL_self : ∀ (s : List (Int × Int)), cmpL s s = 0 := by
  intro s
  have := cmpL_neg s s
  omega
theorem cmpL_zero : ∀ {s z : List (Int × Int)}, Pos s → Pos z → s.length = z.length → cmpL s z = 0 → ∀ j, j < s.length → val (rP s j) = val (rP z j) := by
  intro s
  induction s with
  | nil => intro z _ _ _ _ j hj; simp at hj
  | cons a l ih =>
    intro z hs hz hl h j hj
    cases z with
    | nil => simp at hl
    | cons b m =>
      unfold cmpL at h
      split at h
      · rename_i h0
        cases j with
        | zero => simpa [rP] using (ordP_0 (hs a (by simp)) (hz b (by simp))).1 h0
        | succ j => simpa [rP] using ih (fun c hc => hs c (by simp [hc])) (fun c hc => hz c (by simp [hc])) (by simpa using hl) h j (by simpa using hj)
      · rename_i h0; exact absurd h h0
theorem rates_pos {r : List (Int × Int)} (h : ∀ a ∈ r, faultP a = 0) : Pos r := fun a ha => fault_pos (h a ha)
theorem sort_perm {r s : List (Int × Int)} (h : ∀ a ∈ r, faultP a = 0) (hp : r.Perm s) : sortP r = sortP s :=
  asc_uniq (fun a ha => h a (sortP_mem.1 ha)) ((sortP_perm r).trans (hp.trans (sortP_perm s).symm)) (sortP_asc (rates_pos h)) (sortP_asc (rates_pos fun a ha => h a (hp.mem_iff.2 ha)))
theorem sort_reverse {r : List (Int × Int)} (h : ∀ a ∈ r, faultP a = 0) : sortP r.reverse = sortP r := (sort_perm h (List.reverse_perm r).symm).symm
theorem count_set {r : List (Int × Int)} {b : Int × Int} (t : Rat) : ∀ {i : Nat}, i < r.length → (r.set i b).countP (fun a => decide (val a ≤ t)) + (if val (rP r i) ≤ t then 1 else 0) = r.countP (fun a => decide (val a ≤ t)) + (if val b ≤ t then 1 else 0) := by
  induction r with
  | nil => intro i hi; simp at hi
  | cons a l ih =>
    intro i hi
    cases i with
    | zero =>
      simp only [List.set_cons_zero, List.countP_cons, rP, List.getD_cons_zero, decide_eq_true_eq]
      omega
    | succ i =>
      have := ih (i := i) (by simpa using hi)
      have e : rP (a :: l) (i + 1) = rP l i := by simp [rP]
      rw [e]
      simp only [List.set_cons_succ, List.countP_cons]
      omega
/-- a greater one in the place of one is better -/
theorem rank_more {r : List (Int × Int)} {b : Int × Int} {i : Nat} (h : ∀ a ∈ r, faultP a = 0) (hi : i < r.length) (hb : 1 ≤ b.2) (hlt : val (rP r i) < val b) : cmpL (sortP r) (sortP (r.set i b)) = -1 := by
  have hp := rates_pos h
  have hp' : Pos (r.set i b) := fun a ha => by
    rcases List.mem_or_eq_of_mem_set ha with h' | rfl
    · exact hp a h'
    · exact hb
  have hl1 := sortP_length r
  have hl2 := sortP_length (r.set i b)
  have hl3 : (r.set i b).length = r.length := by simp
  have hs := sortP_asc hp
  have hz := sortP_asc hp'
  have hc : ∀ t, (sortP (r.set i b)).countP (fun a => decide (val a ≤ t)) + (if val (rP r i) ≤ t then 1 else 0) = (sortP r).countP (fun a => decide (val a ≤ t)) + (if val b ≤ t then 1 else 0) := fun t => by
    rw [countQ_perm (sortP_perm r), countQ_perm (sortP_perm (r.set i b))]
    exact count_set t hi
  rcases cmpL_range (sortP r) (sortP (r.set i b)) with h0 | h0 | h0
  · exact h0
  · exfalso
    have he := cmpL_zero (sortP_pos hp) (sortP_pos hp') (by omega) h0
    have := countP_take_congr (s := sortP r) (z := sortP (r.set i b)) (sortP r).length (Nat.le_refl _) (by omega) he (val (rP r i))
    rw [List.take_of_length_le (Nat.le_refl _), List.take_of_length_le (by omega)] at this
    have h1 := hc (val (rP r i))
    rw [if_pos Rat.le_refl, if_neg (by grind)] at h1
    omega
  · exfalso
    obtain ⟨j, hj, he, hlj⟩ := cmpL_pos (sortP_pos hp) (sortP_pos hp') (by omega) (show 0 < cmpL (sortP r) (sortP (r.set i b)) by omega)
    have hcz := hc (val (rP (sortP (r.set i b)) j))
    have h1 : (sortP r).countP (fun a => decide (val a ≤ val (rP (sortP (r.set i b)) j))) ≤ j := by
      rw [countP_split (sortP r) j, drop_zero hs hj hlj]
      refine Nat.le_trans (Nat.le_of_eq (Nat.add_zero _)) ?_
      refine Nat.le_trans List.countP_le_length ?_
      rw [List.length_take]; omega
    have h2 : j + 1 ≤ (sortP (r.set i b)).countP (fun a => decide (val a ≤ val (rP (sortP (r.set i b)) j))) := by
      rw [countP_split (sortP (r.set i b)) (j + 1)]
      have : ((sortP (r.set i b)).take (j + 1)).countP (fun a => decide (val a ≤ val (rP (sortP (r.set i b)) j))) = ((sortP (r.set i b)).take (j + 1)).length := by
        rw [List.countP_eq_length]
        intro a ha
        obtain ⟨k, hk, hkl, rfl⟩ := mem_take ha
        exact decide_eq_true (asc_getD hz (by omega) (by omega))
      rw [this, List.length_take]
      omega
    have h3 : (if val b ≤ val (rP (sortP (r.set i b)) j) then 1 else 0) ≤ (if val (rP r i) ≤ val (rP (sortP (r.set i b)) j) then 1 else 0) := by
      split
      · rename_i hbv
        rw [if_pos (by grind)]
        exact Nat.le_refl 1
      · exact Nat.zero_le _
    omega
end Go.Proofs.YtpnmmmlckdkcdakGreatDoor.Fl

/- Slices of int, slices of these, and a net: what a walk is told of them, and what stays of it. -/
namespace Go.Proofs.YtpnmmmlckdkcdakGreatDoor
namespace Ns
open Go.RowKit
set_option linter.unusedSimpArgs false
set_option linter.unusedVariables false

/-- the slice v holds the numbers l in the world w, in a block of which Q holds -/
def IntsAt (Q : Nat → Prop) (w : World) (v : Value) (l : List Int) : Prop :=
  ∃ a cap, v = .slice a l.length cap ∧ (l.length ≤ cap ∧ l.length ≤ 9223372036854775807) ∧
    (l = [] ∨ ∃ b off, a = some ⟨b, off, none⟩ ∧ (∀ i, i < l.length → w.cell? ⟨b, off + i, none⟩ = some (.int .i64 (l.getD i 0))) ∧ Q b)

theorem IntsAt.later {Q : Nat → Prop} {w w' : World} {v : Value} {l : List Int} (hb : Below w.heap.size w w') (h : IntsAt Q w v l) : IntsAt Q w' v l := by
  obtain ⟨a, cap, rfl, hm, h⟩ := h
  refine ⟨a, cap, rfl, hm, ?_⟩
  rcases h with h | ⟨b, off, rfl, h, hQ⟩
  · exact .inl h
  · exact .inr ⟨b, off, rfl, fun i hi => cell_later hb (h i hi), hQ⟩
/-- only the blocks of which Q holds matter -/
theorem IntsAt.keep {Q R : Nat → Prop} {w w' : World} {v : Value} {l : List Int} (hk : ∀ b, Q b → b < w.heap.size → w'.heap[b]? = w.heap[b]?) (hQR : ∀ b, Q b → b < w.heap.size → R b) (h : IntsAt Q w v l) : IntsAt R w' v l := by
  obtain ⟨a, cap, rfl, hm, h⟩ := h
  refine ⟨a, cap, rfl, hm, ?_⟩
  rcases h with h | ⟨b, off, rfl, h, hQ⟩
  · exact .inl h
  · by_cases hl : l = []
    · exact .inl hl
    · have hb : b < w.heap.size := World.block_lt_of_cell? _ _ (h 0 (List.length_pos_iff.2 hl))
      refine .inr ⟨b, off, rfl, fun i hi => ?_, hQR b hQ hb⟩
      rw [World.cell?_of_block (w := w) (a := ⟨b, off + i, none⟩) (hk b hQ hb)]
      exact h i hi

theorem ret_bool {a b : Bool} (h : a = b) : Ending.returned (.bool a) = .returned (.bool b) := by rw [h]
theorem ret_int {k : IntKind} {a b : Int} (h : a = b) : Ending.returned (.int k a) = .returned (.int k b) := by rw [h]

theorem IntsAt.take {Q : Nat → Prop} {w : World} {b off cap : Nat} {l : List Int} (hm : l.length ≤ cap) (hm2 : l.length ≤ 9223372036854775807) (h : ∀ i, i < l.length → w.cell? ⟨b, off + i, none⟩ = some (.int .i64 (l.getD i 0))) (k : Nat) (hk : k ≤ l.length) (hQ : Q b) :
    IntsAt Q w (.slice (some ⟨b, off, none⟩) k cap) (l.take k) := by
  refine ⟨_, cap, by rw [List.length_take, Nat.min_eq_left hk], ⟨by rw [List.length_take]; omega, by rw [List.length_take]; omega⟩, .inr ⟨b, off, rfl, fun i hi => ?_, hQ⟩⟩
  rw [List.length_take] at hi
  rw [h i (by omega)]
  congr 2
  simp [List.getD, List.getElem?_take, show i < k by omega]

/-- the slice v holds the lists ll in the world w -/
def ListsAt (Q : Nat → Prop) (w : World) (v : Value) (ll : List (List Int)) : Prop :=
  ∃ a cap, v = .slice a ll.length cap ∧ (ll.length ≤ cap ∧ ll.length ≤ 9223372036854775807) ∧
    (ll = [] ∨ ∃ b off, a = some ⟨b, off, none⟩ ∧ (∀ i, i < ll.length → ∃ x, w.cell? ⟨b, off + i, none⟩ = some x ∧ IntsAt Q w x (ll.getD i [])) ∧ Q b)

theorem ListsAt.later {Q : Nat → Prop} {w w' : World} {v : Value} {l : List (List Int)} (hb : Below w.heap.size w w') (h : ListsAt Q w v l) : ListsAt Q w' v l := by
  obtain ⟨a, cap, rfl, hm, h⟩ := h
  refine ⟨a, cap, rfl, hm, ?_⟩
  rcases h with h | ⟨b, off, rfl, h, hQ⟩
  · exact .inl h
  · refine .inr ⟨b, off, rfl, fun i hi => ?_, hQ⟩
    obtain ⟨x, hx, hi⟩ := h i hi
    exact ⟨x, cell_later hb hx, hi.later hb⟩
theorem ListsAt.keep {Q R : Nat → Prop} {w w' : World} {v : Value} {l : List (List Int)} (hk : ∀ b, Q b → b < w.heap.size → w'.heap[b]? = w.heap[b]?) (hQR : ∀ b, Q b → b < w.heap.size → R b) (h : ListsAt Q w v l) : ListsAt R w' v l := by
  obtain ⟨a, cap, rfl, hm, h⟩ := h
  refine ⟨a, cap, rfl, hm, ?_⟩
  rcases h with h | ⟨b, off, rfl, h, hQ⟩
  · exact .inl h
  · by_cases hl : l = []
    · exact .inl hl
    · obtain ⟨x0, hx0, _⟩ := h 0 (List.length_pos_iff.2 hl)
      have hb : b < w.heap.size := World.block_lt_of_cell? _ _ hx0
      refine .inr ⟨b, off, rfl, fun i hi => ?_, hQR b hQ hb⟩
      obtain ⟨x, hx, hxi⟩ := h i hi
      exact ⟨x, by rw [World.cell?_of_block (w := w) (a := ⟨b, off + i, none⟩) (hk b hQ hb)]; exact hx, hxi.keep hk hQR⟩

/-- the value v is the net of these links and paths in the world w -/
def NetAt (Q : Nat → Prop) (w : World) (v : Value) (caps : List Int) (paths : List (List Int)) : Prop :=
  ∃ v1 v2, v = .agg #[v1, v2] ∧ IntsAt Q w v1 caps ∧ ListsAt Q w v2 paths
theorem NetAt.later {Q : Nat → Prop} {w w' : World} {v : Value} {c : List Int} {l : List (List Int)} (hb : Below w.heap.size w w') (h : NetAt Q w v c l) : NetAt Q w' v c l := by
  obtain ⟨v1, v2, rfl, h1, h2⟩ := h
  exact ⟨v1, v2, rfl, h1.later hb, h2.later hb⟩
theorem NetAt.keep {Q R : Nat → Prop} {w w' : World} {v : Value} {c : List Int} {l : List (List Int)} (hk : ∀ b, Q b → b < w.heap.size → w'.heap[b]? = w.heap[b]?) (hQR : ∀ b, Q b → b < w.heap.size → R b) (h : NetAt Q w v c l) : NetAt R w' v c l := by
  obtain ⟨v1, v2, rfl, h1, h2⟩ := h
  exact ⟨v1, v2, rfl, h1.keep hk hQR, h2.keep hk hQR⟩
/-- a store into a block of which Q does not hold -/
theorem NetAt.setCell {Q : Nat → Prop} {w : World} {v : Value} {c : List Int} {l : List (List Int)} (h : NetAt Q w v c l) {a : Addr} (ha : ¬ Q a.block) (u : Value) : NetAt Q (w.setCell a u) v c l :=
  h.keep (fun b hb _ => Below.heap_setCell w a u b (fun e => ha (e ▸ hb))) (fun _ h _ => h)

theorem NetAt.shape {Q : Nat → Prop} {w : World} {v : Value} {c : List Int} {l : List (List Int)} (h : NetAt Q w v c l) : ∃ a n k a' n' k', v = .agg #[.slice a n k, .slice a' n' k'] := by
  obtain ⟨_, _, rfl, ⟨_, _, rfl, _⟩, ⟨_, _, rfl, _⟩⟩ := h
  exact ⟨_, _, _, _, _, _, rfl⟩
theorem pathsFrom_cons (L : Int) (l : List (List Int)) (k : Nat) (h : k < l.length) :
    pathsFrom L (l.drop k) = if pathE L (l.getD k []) = 0 then pathsFrom L (l.drop (k + 1)) else pathE L (l.getD k []) := by
  rw [drop_cons l k h []]; rfl

theorem infoInt : (Tryz.prog.info? 3).map (fun i => (i.zero, i.size, i.bytes)) = some (some (.int .i64 0), 1, 8) := by kernel_rfl

/-- a row of ints that the call owns is a list -/
theorem ints_of_owns {Q : Nat → Prop} {w : World} {base : Nat} {v : Value} {l : List Int} (hl : l.length ≤ 9223372036854775807) (h : w.ownsRow base 3 1 v l.length (l.map (Value.int .i64))) (hQ : ∀ g, base ≤ g → Q g) : IntsAt Q w v l := by
  have h' := h
  obtain ⟨h0, h⟩ := h
  rcases h with ⟨rfl, h⟩ | ⟨g, cap, cur, rfl, hb, hg, hc, hm, hs, ht⟩
  · have : l = [] := List.eq_nil_of_length_eq_zero h
    subst this
    exact ⟨none, 0, rfl, ⟨Nat.le_refl _, by simp⟩, .inl rfl⟩
  · refine ⟨_, cap, rfl, ⟨hc, hl⟩, .inr ⟨g, 0, rfl, fun i hi => ?_, hQ g hb⟩⟩
    have := h'.cells (g := g) rfl i (.int .i64 (l.getD i 0)) (by simp [List.getD, List.getElem?_eq_getElem hi])
    have e : (⟨g, 0, none⟩ : Addr).add i = ⟨g, 0 + i, none⟩ := by unfold Addr.add; split <;> simp_all
    rw [e] at this
    exact this

/-- behind an append to a row of the call's own nothing below has turned -/
theorem rel_append {B : Nat} {W wr w1 : World} {e : TypeId} {sz n : Nat} {v : Value} {xs : List Value} {o : Obj} (hb : Below B W wr) (hs : B ≤ wr.heap.size) (ho : wr.ownsRow B e sz v n xs) (hg : (wr.alloc o).grownBy w1 v.ownBlock) : Below B W w1 :=
  (hb.alloc hs o).grown hg (by simp; omega) (fun k hk => (ho.lt k hk).1)

theorem users_step (paths : List (List Int)) (link : Int) (k : Nat) (h : k < paths.length) :
    users (paths.take (k + 1)) link = users (paths.take k) link ++ (if inB (paths.getD k []) link then [(k : Int)] else []) := by
  unfold users
  rw [take_snoc paths k h [], usersFrom_snoc]
  have : 0 + (paths.take k).length = k := by rw [List.length_take]; omega
  rw [this]

/-- the values in the cells of a list of lists -/
theorem ListsAt.vals {Q : Nat → Prop} {w : World} {v : Value} {ll : List (List Int)} (h : ListsAt Q w v ll) (hne : ll ≠ []) :
    ∃ b off cap vs, v = .slice (some ⟨b, off, none⟩) ll.length cap ∧ ll.length ≤ cap ∧ List.length vs = ll.length ∧ ∀ i, i < ll.length → w.cell? ⟨b, off + i, none⟩ = some (vs.getD i undef) ∧ IntsAt Q w (vs.getD i undef) (ll.getD i []) := by
  obtain ⟨a, cap, rfl, ⟨hm, hm2⟩, h⟩ := h
  rcases h with h | ⟨b, off, rfl, h, hQ⟩
  · exact absurd h hne
  · refine ⟨b, off, cap, (List.range ll.length).map (fun i => (w.cell? ⟨b, off + i, none⟩).getD undef), rfl, hm, by simp, fun i hi => ?_⟩
    obtain ⟨x, hx, hi'⟩ := h i hi
    have e : ((List.range ll.length).map (fun i => (w.cell? ⟨b, off + i, none⟩).getD undef)).getD i undef = x := by
      simp [List.getD, List.getElem?_range hi, hx]
    rw [e]
    exact ⟨hx, hi'⟩

theorem add_addr (b off i : Nat) : (⟨b, off, none⟩ : Addr).add i = ⟨b, off + i, none⟩ := by unfold Addr.add; split <;> simp_all

theorem ones {Q : Nat → Prop} {w : World} {vs : List Value} {ll : List (List Int)} (hl : vs.length = ll.length) (h : ∀ i, i < ll.length → IntsAt Q w (vs.getD i undef) (ll.getD i [])) : ∀ u ∈ vs, u.oneCell' = true := by
  intro u hu
  obtain ⟨i, hi, rfl⟩ := List.mem_iff_getElem.1 hu
  obtain ⟨a, c, e, _⟩ := h i (by omega)
  have : vs[i] = vs.getD i undef := by simp [List.getD, List.getElem?_eq_getElem hi]
  rw [this, e]
  rfl

theorem ints_snoc {Q : Nat → Prop} {w : World} {vs : List Value} {ll : List (List Int)} {v : Value} {l : List Int} (hl : vs.length = ll.length) (h : ∀ i, i < ll.length → IntsAt Q w (vs.getD i undef) (ll.getD i [])) (hv : IntsAt Q w v l) :
    ∀ i, i < (ll ++ [l]).length → IntsAt Q w ((vs ++ [v]).getD i undef) ((ll ++ [l]).getD i []) := by
  intro i hi
  by_cases hlt : i < ll.length
  · have e1 : (vs ++ [v]).getD i undef = vs.getD i undef := by simp [List.getD, List.getElem?_append_left (show i < vs.length by omega)]
    have e2 : (ll ++ [l]).getD i [] = ll.getD i [] := by simp [List.getD, List.getElem?_append_left hlt]
    rw [e1, e2]; exact h i hlt
  · have hi' : i = ll.length := by simp at hi; omega
    subst hi'
    have e1 : (vs ++ [v]).getD ll.length undef = v := by rw [← hl]; simp [List.getD]
    have e2 : (ll ++ [l]).getD ll.length [] = l := by simp [List.getD]
    rw [e1, e2]; exact hv
end Ns
end Go.Proofs.YtpnmmmlckdkcdakGreatDoor

/- What package net's calls tell, in plain numbers. -/
namespace Go.Proofs.YtpnmmmlckdkcdakGreatDoor
namespace Ns
open Go.RowKit Fr
set_option linter.unusedSimpArgs false
set_option linter.unusedVariables false

/-- what comes out beside a fault: nothing -/
def okL {α : Type} (k : Int) (l : List α) : List α := if k = 0 then l else []
theorem okL_0 {α : Type} (l : List α) : okL 0 l = l := rfl
theorem okL_ne {α : Type} {k : Int} (h : k ≠ 0) (l : List α) : okL k l = [] := if_neg h
def usersE (caps : List Int) (paths : List (List Int)) (link : Int) : Int :=
  if netE caps paths = 0 then if link < 0 ∨ (caps.length : Int) ≤ link then 1 else 0 else netE caps paths
def addE (caps : List Int) (paths : List (List Int)) (path : List Int) : Int :=
  if netE caps paths = 0 then if paths.length = 6 then 4 else pathE caps.length path else netE caps paths
def dropE (caps : List Int) (paths : List (List Int)) (flow : Int) : Int :=
  if netE caps paths = 0 then if flow < 0 ∨ (paths.length : Int) ≤ flow then 1 else if paths.length = 1 then 5 else 0 else netE caps paths
def less (paths : List (List Int)) (flow : Int) : List (List Int) := paths.take flow.toNat ++ paths.drop (flow.toNat + 1)

theorem netE_0 {caps : List Int} {paths : List (List Int)} (h : netE caps paths = 0) :
    0 < caps.length ∧ caps.length ≤ 6 ∧ 0 < paths.length ∧ paths.length ≤ 6 ∧ linksE caps = 0 ∧ pathsFrom caps.length paths = 0 := by
  unfold netE at h
  split at h
  · omega
  · split at h
    · omega
    · split at h
      · refine ⟨by omega, by omega, by omega, by omega, by assumption, h⟩
      · contradiction
theorem netE_mk {caps : List Int} {paths : List (List Int)} (h : 0 < caps.length ∧ caps.length ≤ 6 ∧ 0 < paths.length ∧ paths.length ≤ 6 ∧ linksE caps = 0 ∧ pathsFrom caps.length paths = 0) : netE caps paths = 0 := by
  rw [netE, if_neg (by omega), if_neg (by omega), if_pos h.2.2.2.2.1]
  exact h.2.2.2.2.2
theorem pathsFrom_append (L : Int) (l m : List (List Int)) (h : pathsFrom L l = 0) : pathsFrom L (l ++ m) = pathsFrom L m := by
  induction l with
  | nil => rfl
  | cons p r ih =>
    simp only [List.cons_append, pathsFrom] at h ⊢
    split at h
    · rw [if_pos (by assumption)]; exact ih h
    · contradiction
theorem pathsFrom_one (L : Int) (p : List Int) : pathsFrom L [p] = pathE L p := by
  simp only [pathsFrom]
  split <;> simp_all
theorem pathsFrom_iff (L : Int) (l : List (List Int)) : pathsFrom L l = 0 ↔ ∀ p ∈ l, pathE L p = 0 := by
  induction l with
  | nil => simp [pathsFrom]
  | cons q r ih =>
    simp only [pathsFrom, List.mem_cons, forall_eq_or_imp]
    split
    · simp [ih, *]
    · simp [*]
/-- a net with a flow more is a net -/
theorem netE_add {caps : List Int} {paths : List (List Int)} {path : List Int} (h : addE caps paths path = 0) :
    netE caps paths = 0 ∧ paths.length < 6 ∧ pathE caps.length path = 0 ∧ netE caps (paths ++ [path]) = 0 := by
  unfold addE at h
  split at h
  · rename_i h0
    split at h
    · omega
    · have := netE_0 h0
      refine ⟨h0, by omega, h, netE_mk ⟨this.1, this.2.1, by simp, by simp; omega, this.2.2.2.2.1, ?_⟩⟩
      rw [pathsFrom_append _ _ _ this.2.2.2.2.2, pathsFrom_one, h]
  · contradiction
end Ns
end Go.Proofs.YtpnmmmlckdkcdakGreatDoor

/- More plain facts on loads: a flow of rate 0 more, what is left and what goes over together, rates of 0. No Go in it. -/
namespace Go.Proofs.YtpnmmmlckdkcdakGreatDoor.Ld
open Fr Ns
set_option linter.unusedSimpArgs false

theorem users_snoc (paths : List (List Int)) (path : List Int) (link : Int) : users (paths ++ [path]) link = users paths link ++ (if inB path link then [(paths.length : Int)] else []) := by
  unfold users
  rw [usersFrom_snoc, Nat.zero_add]
theorem sum_zero {t : Int × Int} (h : faultP t = 0) : sumP t (0, 1) = t := by
  have := low_of_fault h
  unfold sumP
  simp only [Int.mul_one, Int.zero_mul, Int.add_zero]
  exact Prod.ext this.1 this.2
theorem getD_snoc_lt (r : List (Int × Int)) (z d : Int × Int) (k : Nat) (h : k < r.length) : (r ++ [z]).getD k d = r.getD k d := by
  simp [List.getD, List.getElem?_append_left h]
theorem addUp_more (r : List (Int × Int)) (z : Int × Int) : ∀ (us : List Int) (s : Int × Int), (∀ u ∈ us, u.toNat < r.length) → addUp (r ++ [z]) us s = addUp r us s := by
  intro us
  induction us with
  | nil => intro s _; rfl
  | cons u us ih =>
    intro s h
    simp only [addUp]
    rw [getD_snoc_lt r z _ _ (h u (by simp)), ih _ (fun x hx => h x (by simp [hx]))]
theorem loadOf_more {paths : List (List Int)} {r : List (Int × Int)} (hr : ratesE r = 0) (hl : r.length = paths.length) (path : List Int) (l : Nat) : loadOf (paths ++ [path]) (r ++ [(0, 1)]) l = loadOf paths r l := by
  have e : addUp (r ++ [(0, 1)]) (users paths l) (0, 1) = addUp r (users paths l) (0, 1) := addUp_more r _ _ _ (fun u hu => by have := users_mem hu; omega)
  unfold loadOf
  rw [users_snoc]
  split
  · rw [addUp_snoc, e]
    cases h : addUp r (users paths l) (0, 1) with
    | none => rfl
    | some t =>
      have ht := addUp_fault hr _ _ _ (by decide) h
      have hg : (r ++ [(0, 1)]).getD ((paths.length : Int).toNat) (0, 1) = (0, 1) := by
        rw [show ((paths.length : Int).toNat) = r.length by omega]
        simp [List.getD]
      simp only [Option.bind_some]
      rw [hg, sum_zero ht, if_pos (show mayP t = true from mayB_of_fault ht)]
  · rw [List.append_nil, e]
theorem load_more {caps : List Int} {paths : List (List Int)} {r : List (Int × Int)} {path : List Int} (h : loadE caps paths r = 0) (ha : Ns.addE caps paths path = 0) :
    loadE caps (paths ++ [path]) (r ++ [(0, 1)]) = 0 ∧ (∀ n, loadL (paths ++ [path]) (r ++ [(0, 1)]) n = loadL paths r n) ∧ fitsB caps (paths ++ [path]) (r ++ [(0, 1)]) = fitsB caps paths r := by
  obtain ⟨h1, h2, h3, h4⟩ := loadE_0 h
  have hm := netE_add ha
  have hL : ∀ n, loadL (paths ++ [path]) (r ++ [(0, 1)]) n = loadL paths r n := fun n => by
    unfold loadL
    simp only [loadOf_more h3 h2]
  refine ⟨loadE_mk hm.2.2.2 (by simp [h2]) ?_ ?_, hL, ?_⟩
  · rw [ratesE_iff] at h3 ⊢
    intro a hA
    rcases List.mem_append.1 hA with hA | hA
    · exact h3 a hA
    · simp at hA; subst hA; decide
  · unfold allOk at h4 ⊢
    simp only [loadOf_more h3 h2]
    exact h4
  · unfold fitsB
    rw [hL]
    simp

/-- what goes over, and what is left, is all -/
theorem left_sum {c : Int} {x : Int × Int} (hx : faultP x = 0) : lowT (x.1 * (leftOf c x).2 + (leftOf c x).1 * x.2) (x.2 * (leftOf c x).2) = c ∧ lowB (x.1 * (leftOf c x).2 + (leftOf c x).1 * x.2) (x.2 * (leftOf c x).2) = 1 := by
  obtain ⟨b1, _, _, _⟩ := fault_0 hx
  have hb : 1 ≤ (1 : Int) * x.2 := by omega
  have hp := lowB_pos (t := c * x.2 + -x.1 * 1) hb
  have hrat := low_ratio (c * x.2 + -x.1 * 1) (1 * x.2)
  have e1 : (leftOf c x).1 = lowT (c * x.2 + -x.1 * 1) (1 * x.2) := rfl
  have e2 : (leftOf c x).2 = lowB (c * x.2 + -x.1 * 1) (1 * x.2) := rfl
  rw [← e1, ← e2] at hrat
  rw [← e2] at hp
  generalize (leftOf c x).1 = p at *
  generalize (leftOf c x).2 = q at *
  have hq : 1 ≤ x.2 * q := Int.mul_le_mul b1 hp (by decide) (by omega)
  have key : (x.1 * q + p * x.2) * 1 = c * (x.2 * q) := by
    have h' : p * x.2 = (c * x.2 + -x.1) * q := by simpa using hrat
    rw [Int.mul_one, h', Int.add_mul, Int.neg_mul, Int.mul_assoc]
    omega
  have := low_of_ratio hq (by decide : (1 : Int) ≤ 1) key
  have hc : gd c 1 = 1 := by unfold gd; simp
  have hs := low_self hc
  exact ⟨this.1.trans hs.1, this.2.trans hs.2⟩
theorem left_sign {c : Int} {x : Int × Int} (hx : faultP x = 0) (h : x.1 ≤ c * x.2) : 0 ≤ (leftOf c x).1 := by
  obtain ⟨b1, _, _, _⟩ := fault_0 hx
  show 0 ≤ lowT (c * x.2 + -x.1 * 1) (1 * x.2)
  unfold lowT
  have hb : 1 ≤ (1 : Int) * x.2 := by omega
  exact Int.ediv_nonneg (by omega) (by have := gd_pos (t := c * x.2 + -x.1 * 1) hb; omega)

theorem capsFrom_ge : ∀ {l : List Int} {x : Int}, capsFrom l = 0 → x ∈ l → 1 ≤ x := by
  intro l
  induction l with
  | nil => intro x _ h; simp at h
  | cons y r ih =>
    intro x h hm
    unfold capsFrom at h
    split at h
    · omega
    · rcases List.mem_cons.1 hm with rfl | hm
      · omega
      · exact ih h hm
theorem capsFrom_bounds : ∀ {l : List Int} {x : Int}, capsFrom l = 0 → x ∈ l → 1 ≤ x ∧ x ≤ 1000 := by
  intro l
  induction l with
  | nil => intro x _ h; simp at h
  | cons y r ih =>
    intro x h hm
    unfold capsFrom at h
    split at h
    · omega
    · rcases List.mem_cons.1 hm with rfl | hm
      · omega
      · exact ih h hm
theorem addUp_zeros (n : Nat) : ∀ us : List Int, addUp (List.replicate n (0, 1)) us (0, 1) = some (0, 1) := by
  intro us
  induction us with
  | nil => rfl
  | cons u us ih =>
    have hg : (List.replicate n ((0 : Int), (1 : Int))).getD u.toNat (0, 1) = (0, 1) := by
      simp only [List.getD, List.getElem?_replicate]
      split <;> rfl
    have hs : sumP (0, 1) (0, 1) = (0, 1) := sum_zero (by decide)
    simp only [addUp]
    rw [hg, hs, if_pos (by decide)]
    exact ih
theorem zeros {caps : List Int} {paths : List (List Int)} :
    loadE caps paths (List.replicate paths.length (0, 1)) = netE caps paths ∧ (∀ n, loadL paths (List.replicate paths.length (0, 1)) n = List.replicate n (0, 1)) ∧ (netE caps paths = 0 → fitsB caps paths (List.replicate paths.length (0, 1)) = true) := by
  have hO : ∀ l, loadOf paths (List.replicate paths.length (0, 1)) l = some (0, 1) := fun l => addUp_zeros _ _
  have hL : ∀ n, loadL paths (List.replicate paths.length (0, 1)) n = List.replicate n (0, 1) := fun n => by
    unfold loadL
    apply List.ext_getElem
    · simp
    · intro i h1 h2
      simp [hO]
  refine ⟨?_, hL, fun h => ?_⟩
  · by_cases h : netE caps paths = 0
    · rw [h]
      refine loadE_mk h (by simp) ((ratesE_iff _).2 (fun a ha => ?_)) ?_
      · rw [List.eq_of_mem_replicate ha]; decide
      · unfold allOk
        simp [hO]
    · rw [loadE, if_neg h]
  · unfold fitsB
    rw [hL]
    simp only [Bool.and_eq_true, List.all_eq_true, List.mem_range, decide_eq_true_eq]
    refine ⟨fun a ha => by rw [List.eq_of_mem_replicate ha]; decide, fun l hl => ?_⟩
    have hg : (List.replicate caps.length ((0 : Int), (1 : Int))).getD l (0, 1) = (0, 1) := by
      simp only [List.getD, List.getElem?_replicate]
      split <;> rfl
    rw [hg]
    have hb := (netE_0 h).2.2.2.2.1
    have hc : 1 ≤ caps.getD l 0 := capsFrom_ge (by
      have := netE_0 h
      rw [linksE, if_neg (by omega), if_neg (by omega)] at hb
      exact hb) (getD_mem caps l hl 0)
    simp only [Int.mul_one]
    omega
end Go.Proofs.YtpnmmmlckdkcdakGreatDoor.Ld

/- What package rank's calls tell, as the document says it. No Go in it. -/
namespace Go.Proofs.YtpnmmmlckdkcdakGreatDoor.Fl
open Fr Ns Ld
set_option linter.unusedSimpArgs false

def sortE (r : List (Int × Int)) : Int := if 6 < r.length then 4 else ratesE r
def rankE (a b : List (Int × Int)) : Int := if sortE a = 0 then (if sortE b = 0 then (if a.length = b.length then 0 else 3) else sortE b) else sortE a
def rankV (a b : List (Int × Int)) : Int := if rankE a b = 0 then cmpL (sortP a) (sortP b) else 0
def leastE (r : List (Int × Int)) : Int := if sortE r = 0 then (if r.length = 0 then 5 else 0) else sortE r
def leastV (r : List (Int × Int)) : Int × Int := if leastE r = 0 then (sortP r).getD 0 (0, 0) else (0, 0)
theorem sortE_0 {r : List (Int × Int)} (h : sortE r = 0) : r.length ≤ 6 ∧ ∀ a ∈ r, faultP a = 0 := by
  unfold sortE at h
  split at h
  · omega
  · exact ⟨by omega, (ratesE_iff r).1 h⟩
theorem sortE_mk {r : List (Int × Int)} (h1 : r.length ≤ 6) (h2 : ∀ a ∈ r, faultP a = 0) : sortE r = 0 := by
  rw [sortE, if_neg (by omega)]; exact (ratesE_iff r).2 h2
theorem rank_mk {a b : List (Int × Int)} (ha : sortE a = 0) (hb : sortE b = 0) (hl : a.length = b.length) : rankE a b = 0 ∧ rankV a b = cmpL (sortP a) (sortP b) := by
  have : rankE a b = 0 := by rw [rankE, if_pos ha, if_pos hb, if_pos hl]
  exact ⟨this, by rw [rankV, if_pos this]⟩
theorem least_mk {r : List (Int × Int)} (h : sortE r = 0) (hl : r.length ≠ 0) : leastE r = 0 ∧ leastV r = (sortP r).getD 0 (0, 0) ∧ faultP (leastV r) = 0 := by
  have h0 : leastE r = 0 := by rw [leastE, if_pos h, if_neg hl]
  have h1 : leastV r = (sortP r).getD 0 (0, 0) := by rw [leastV, if_pos h0]
  refine ⟨h0, h1, ?_⟩
  rw [h1]
  exact (sortE_0 h).2 _ (sortP_mem.1 (getD_mem (sortP r) 0 (by rw [sortP_length]; omega) (0, 0)))
theorem cmpL_head {s z : List (Int × Int)} (hs : s.length ≠ 0) (hz : z.length ≠ 0) (h : cmpL s z ≤ 0) : ordP (s.getD 0 (0, 0)) (z.getD 0 (0, 0)) ≤ 0 := by
  cases s with
  | nil => simp at hs
  | cons a l =>
    cases z with
    | nil => simp at hz
    | cons b m =>
      unfold cmpL at h
      simp only [List.getD_cons_zero]
      split at h
      · omega
      · exact h
end Go.Proofs.YtpnmmmlckdkcdakGreatDoor.Fl

/- A session, as the document has it: a text cut at a byte, numbers read and told, a line's answer, all answers. No Go in it. -/
namespace Go.Proofs.YtpnmmmlckdkcdakGreatDoor.Ev
open Fr Ns Ld Fl
set_option linter.unusedSimpArgs false
set_option linter.unusedVariables false

abbrev Txt := List UInt8
/-- a text cut at each byte c -/
def cutB (c : UInt8) : Txt → List Txt
  | [] => [[]]
  | x :: r => if x = c then [] :: cutB c r else (x :: (cutB c r).headD []) :: (cutB c r).tail
theorem cutB_ne (c : UInt8) (s : Txt) : cutB c s ≠ [] := by
  cases s with
  | nil => simp [cutB]
  | cons x r => simp only [cutB]; split <;> simp
theorem cutB_cons (c : UInt8) (s : Txt) : cutB c s = (cutB c s).headD [] :: (cutB c s).tail := by
  have := cutB_ne c s
  cases h : cutB c s with
  | nil => exact absurd h this
  | cons a b => rfl
/-- no byte c in it: one piece -/
theorem cutB_none {c : UInt8} {s : Txt} (h : ∀ x ∈ s, x ≠ c) : cutB c s = [s] := by
  induction s with
  | nil => rfl
  | cons x r ih =>
    simp only [cutB]
    rw [if_neg (h x (by simp)), ih (fun y hy => h y (by simp [hy]))]
    rfl
/-- a piece, the byte, and the rest -/
theorem cutB_at {c : UInt8} {a r : Txt} (h : ∀ x ∈ a, x ≠ c) : cutB c (a ++ c :: r) = a :: cutB c r := by
  induction a with
  | nil => simp [cutB]
  | cons x a ih =>
    simp only [List.cons_append, cutB]
    rw [if_neg (h x (by simp)), ih (fun y hy => h y (by simp [hy]))]
    rfl
theorem cutB_append (c : UInt8) (a b : Txt) : cutB c (a ++ c :: b) = cutB c a ++ cutB c b := by
  induction a with
  | nil => simp [cutB]
  | cons x a ih =>
    simp only [List.cons_append, cutB]
    rw [ih]
    split
    · rfl
    · rw [cutB_cons c a]; simp
theorem cutB_piece {c : UInt8} {s p : Txt} (h : p ∈ cutB c s) : ∀ x ∈ p, x ≠ c := by
  induction s generalizing p with
  | nil => simp [cutB] at h; subst h; simp
  | cons y r ih =>
    simp only [cutB] at h
    split at h
    · rcases List.mem_cons.1 h with h | h
      · subst h; simp
      · exact ih h
    · rename_i hy
      rcases List.mem_cons.1 h with h | h
      · subst h
        intro x hx
        rcases List.mem_cons.1 hx with hx | hx
        · exact hx ▸ hy
        · refine ih (p := (cutB c r).headD []) ?_ x hx
          rw [cutB_cons c r]; simp
      · exact ih (List.mem_of_mem_tail h)
/-- the pieces that are whole ahead of place i, and where the next one begins -/
def cutTo (c : UInt8) (s : Txt) : Nat → List Txt × Nat
  | 0 => ([], 0)
  | i + 1 => if s.getD i 0 = c then ((cutTo c s i).1 ++ [(s.take i).drop (cutTo c s i).2], i + 1) else cutTo c s i
theorem cutTo_le (c : UInt8) (s : Txt) (i : Nat) : (cutTo c s i).2 ≤ i := by
  induction i with
  | zero => exact Nat.le_refl _
  | succ i ih =>
    simp only [cutTo]
    split
    · exact Nat.le_refl _
    · omega
theorem cutTo_free (c : UInt8) (s : Txt) (i : Nat) (hi : i ≤ s.length) : ∀ x ∈ (s.take i).drop (cutTo c s i).2, x ≠ c := by
  induction i with
  | zero => simp
  | succ i ih =>
    simp only [cutTo]
    split
    · rw [List.drop_of_length_le (by rw [List.length_take]; omega)]; simp
    · rename_i hc
      have hle := cutTo_le c s i
      intro x hx
      have e : s.take (i + 1) = s.take i ++ [s.getD i 0] := by
        rw [List.take_add_one, List.getD, List.getElem?_eq_getElem (show i < s.length by omega)]; rfl
      rw [e, List.drop_append_of_le_length (by rw [List.length_take]; omega)] at hx
      rcases List.mem_append.1 hx with hx | hx
      · exact ih (by omega) x hx
      · simp at hx; rw [hx]; exact hc
theorem cutTo_cut (c : UInt8) (s : Txt) (i : Nat) (hi : i ≤ s.length) : cutB c s = (cutTo c s i).1 ++ cutB c (s.drop (cutTo c s i).2) := by
  induction i with
  | zero => simp [cutTo]
  | succ i ih =>
    have h := ih (by omega)
    have hf := cutTo_free c s i (by omega)
    have hle := cutTo_le c s i
    simp only [cutTo]
    split
    · rename_i hc
      rw [h]
      have e : s.drop (cutTo c s i).2 = (s.take i).drop (cutTo c s i).2 ++ c :: s.drop (i + 1) := by
        have e2 : c :: s.drop (i + 1) = s.drop i := by
          rw [← hc, List.getD, List.getElem?_eq_getElem (show i < s.length by omega)]
          exact (List.drop_eq_getElem_cons (show i < s.length by omega)).symm
        have e3 := List.drop_append_of_le_length (l₁ := s.take i) (l₂ := s.drop i) (i := (cutTo c s i).2) (by rw [List.length_take]; omega)
        rw [List.take_append_drop] at e3
        rw [e2, e3]
      rw [e, cutB_at hf]
      simp
    · exact h
/-- all pieces: those that are whole at the end, and the rest -/
theorem cutTo_all (c : UInt8) (s : Txt) : cutB c s = (cutTo c s s.length).1 ++ [s.drop (cutTo c s s.length).2] := by
  rw [cutTo_cut c s s.length (Nat.le_refl _), cutB_none]
  have := cutTo_free c s s.length (Nat.le_refl _)
  rwa [List.take_length] at this
theorem cutB_length (c : UInt8) (s : Txt) : (cutB c s).length ≤ s.length + 1 := by
  induction s with
  | nil => simp [cutB]
  | cons x r ih =>
    simp only [cutB]
    split
    · simp; omega
    · rw [cutB_cons] at ih; simp at ih ⊢; omega

/-! ### numbers, read and told -/
def isDig (b : UInt8) : Bool := decide (48 ≤ b) && decide (b ≤ 57)
def numV (s : Txt) : Int := s.foldl (fun n b => n * 10 + (b.toNat : Int) - 48) 0
def numOk (s : Txt) : Bool := !(decide (s = []) || decide (4 < s.length) || (decide (s.getD 0 0 = 48) && decide (1 < s.length))) && s.all isDig
def digF : Nat → Nat → Txt
  | 0, _ => []
  | f + 1, n => if n < 10 then [UInt8.ofNat (48 + n)] else digF f (n / 10) ++ [UInt8.ofNat (48 + n % 10)]
def digT (n : Int) : Txt := digF 20 n.toNat
theorem digF_more (f : Nat) : ∀ n, n < 10 ^ (f + 1) → digF (f + 2) n = digF (f + 1) n := by
  induction f with
  | zero =>
    intro n h
    have h10 : n < 10 := by simpa using h
    simp [digF, h10]
  | succ f ih =>
    intro n h
    by_cases h10 : n < 10
    · simp [digF, h10]
    · have h2 : n / 10 < 10 ^ (f + 1) := by
        rw [Nat.pow_succ] at h
        exact Nat.div_lt_of_lt_mul (by omega)
      rw [digF, if_neg h10, ih _ h2]
      conv => rhs; rw [digF, if_neg h10]
theorem digT_few {n : Int} (h0 : 0 ≤ n) (h : n < 10) : digT n = [UInt8.ofNat (48 + n.toNat)] := by
  rw [digT, digF, if_pos (by omega)]
theorem digT_more {n : Int} (h0 : 10 ≤ n) (h : n < 10000000000000000000) : digT n = digT (n / 10) ++ [UInt8.ofNat (48 + n.toNat % 10)] := by
  have e : (n / 10).toNat = n.toNat / 10 := by omega
  have h3 : n.toNat / 10 < 10 ^ (18 + 1) := Nat.lt_of_lt_of_le (show n.toNat / 10 < 1000000000000000000 by omega) (by decide)
  rw [digT, digF, if_neg (by omega), digT, e, digF_more 18 _ h3]
/-- a fraction -/
def toldT (a : Int × Int) : Txt := if a.2 = 1 then digT a.1 else digT a.1 ++ (47 :: digT a.2)
/-- several, a blank between -/
def joinT : List Txt → Txt
  | [] => []
  | [a] => a
  | a :: b :: r => a ++ 32 :: joinT (b :: r)
theorem joinT_snoc (l : List Txt) (x : Txt) : joinT (l ++ [x]) = if l = [] then x else joinT l ++ 32 :: x := by
  induction l with
  | nil => rfl
  | cons a r ih =>
    rw [if_neg (by simp)]
    cases r with
    | nil => rfl
    | cons b r =>
      have h := ih
      rw [if_neg (by simp)] at h
      simp only [List.cons_append, joinT] at h ⊢
      rw [h]
      simp
/-- an error's name -/
def nameT (k : Int) : Txt :=
  if k = 1 then [69, 114, 114, 82, 97, 110, 103, 101] else if k = 2 then [69, 114, 114, 83, 121, 110, 116, 97, 120] else if k = 3 then [69, 114, 114, 83, 104, 97, 112, 101]
  else if k = 4 then [69, 114, 114, 70, 117, 108, 108] else if k = 5 then [69, 114, 114, 78, 111, 110, 101] else if k = 6 then [69, 114, 114, 83, 116, 97, 116, 101]
  else if k = 7 then [69, 114, 114, 67, 108, 97, 115, 104] else if k = 8 then [69, 114, 114, 76, 111, 119] else [79, 75]
def tBad : Txt := [98, 97, 100]
def tOk : Txt := [111, 107]
def tAdd : Txt := [97, 100, 100]
def tDrop : Txt := [100, 114, 111, 112]
def tRates : Txt := [114, 97, 116, 101, 115]
def tLeast : Txt := [108, 101, 97, 115, 116]
def tIndex : Txt := [105, 110, 100, 101, 120]
def tSplit : Txt := [115, 112, 108, 105, 116]
def tLong : Txt := [116, 111, 111, 32, 108, 111, 110, 103, 10]

/-! ### a line, and all -/
/-- what there is at first -/
def capsR : List Int := [12, 6, 4, 10]
def wordT (s : Txt) : Txt := (cutB 32 s).headD []
def numsT (s : Txt) : List Int := (cutB 32 s).tail.map numV
def readT (s : Txt) : Bool := (cutB 32 s).tail.all numOk
/-- has it as many numbers as its word wants? -/
def fitsT (s : Txt) : Bool :=
  readT s && (if wordT s = tAdd ∨ wordT s = tIndex then decide (1 ≤ (numsT s).length) else if wordT s = tDrop then decide ((numsT s).length = 1)
    else if wordT s = tRates ∨ wordT s = tLeast then decide ((numsT s).length = 0) else if wordT s = tSplit then decide (2 ≤ (numsT s).length) else false)
def ratesR (f : Flows) : List (Int × Int) := (fill capsR f).1
def addR (f : Flows) (l : List Int) : Int := if f.length = 6 then 4 else pathE 4 l
def dropR (f : Flows) (l : List Int) : Int := if (f.length : Int) ≤ l.getD 0 0 then 1 else 0
def lineF (f : Flows) (s : Txt) : Flows :=
  if fitsT s then (if wordT s = tAdd then (if addR f (numsT s) = 0 then f ++ [numsT s] else f) else if wordT s = tDrop then (if dropR f (numsT s) = 0 then lessF f ((numsT s).getD 0 0) else f) else f) else f
def lineT (f : Flows) (s : Txt) : Txt :=
  if fitsT s then
    (if wordT s = tAdd then (if addR f (numsT s) = 0 then tOk else nameT (addR f (numsT s)))
     else if wordT s = tDrop then (if dropR f (numsT s) = 0 then tOk else nameT (dropR f (numsT s)))
     else if wordT s = tRates then (if f = [] then [45] else joinT ((ratesR f).map toldT))
     else if wordT s = tLeast then (if f = [] then nameT 5 else toldT (leastV (ratesR f)))
     else if wordT s = tIndex then (if idxE (numsT s) = 0 then toldT (idx (numsT s)) else nameT (idxE (numsT s)))
     else if idxE (numsT s).tail = 0 then joinT ((splitL ((numsT s).getD 0 0) (numsT s).tail).map digT) else nameT (idxE (numsT s).tail))
  else tBad
/-- the answers so far, and the flows -/
def stepR (p : Txt × Flows) (s : Txt) : Txt × Flows := (p.1 ++ lineT p.2 s ++ [10], lineF p.2 s)
def linesT (t : Txt) : List Txt := if (cutB 10 t).getLast (cutB_ne 10 t) = [] then (cutB 10 t).dropLast else cutB 10 t
def playR (l : List Txt) : Txt × Flows := l.foldl stepR ([], [])
def runT (t : Txt) : Txt := if 3000 < t.length then tLong else (playR (linesT t)).1
theorem play_snoc (l : List Txt) (s : Txt) : playR (l ++ [s]) = stepR (playR l) s := by rw [playR, List.foldl_append]; rfl
theorem play_pre (l m : List Txt) : ∃ r, (playR (l ++ m)).1 = (playR l).1 ++ r := by
  induction m generalizing l with
  | nil => exact ⟨[], by simp⟩
  | cons a m ih =>
    obtain ⟨r, hr⟩ := ih (l ++ [a])
    rw [List.append_assoc] at hr
    refine ⟨lineT (playR l).2 a ++ [10] ++ r, ?_⟩
    show (playR (l ++ ([a] ++ m))).1 = _
    rw [hr, play_snoc]
    simp [stepR]
theorem lines_end (a : Txt) : linesT (a ++ [10]) = cutB 10 a := by
  have e : cutB 10 (a ++ [10]) = cutB 10 a ++ [[]] := cutB_append 10 a []
  simp only [linesT, e]
  simp
/-- the lines of a beginning that ends with a line are a beginning of the lines -/
theorem lines_pre (a b : Txt) : ∃ r, linesT (a ++ 10 :: b) = linesT (a ++ [10]) ++ r := by
  rw [lines_end]
  have e := cutB_append 10 a b
  simp only [linesT, e]
  split
  · rw [List.dropLast_append_of_ne_nil (cutB_ne 10 b)]; exact ⟨_, rfl⟩
  · exact ⟨_, rfl⟩
theorem run_pre {a b : Txt} (h : (a ++ 10 :: b).length ≤ 3000) : ∃ r, runT (a ++ 10 :: b) = runT (a ++ [10]) ++ r := by
  obtain ⟨r, hr⟩ := lines_pre a b
  have h2 : (a ++ [10]).length ≤ 3000 := by simp at h ⊢; omega
  rw [runT, if_neg (by omega), runT, if_neg (by omega), hr]
  exact play_pre _ _
end Go.Proofs.YtpnmmmlckdkcdakGreatDoor.Ev
