/- Plain facts on nets: which number is in a list, what is wrong with links, a path, a net. No Go in it. -/
namespace Go.Proofs.Ytinmoocnhgkleab.Ns

def inB (l : List Int) (n : Int) : Bool := l.contains n
theorem inB_nil (n : Int) : inB [] n = false := rfl
theorem inB_snoc (l : List Int) (x n : Int) : inB (l ++ [x]) n = (inB l n || x == n) := by
  rw [Bool.eq_iff_iff]
  simp [inB]
  constructor
  · rintro (h | h)
    · exact .inl h
    · exact .inr h.symm
  · rintro (h | h)
    · exact .inl h
    · exact .inr h.symm
theorem inB_of_mem {l : List Int} {n : Int} (h : n ∈ l) : inB l n = true := by simpa [inB] using h
theorem take_snoc {α : Type} (l : List α) (k : Nat) (h : k < l.length) (d : α) : l.take (k + 1) = l.take k ++ [l.getD k d] := by
  rw [List.take_succ_eq_append_getElem h]
  simp [List.getD, List.getElem?_eq_getElem h]
theorem drop_cons {α : Type} (l : List α) (k : Nat) (h : k < l.length) (d : α) : l.drop k = l.getD k d :: l.drop (k + 1) := by
  rw [List.drop_eq_getElem_cons h]
  simp [List.getD, List.getElem?_eq_getElem h]
theorem getD_mem {α : Type} (l : List α) (k : Nat) (h : k < l.length) (d : α) : l.getD k d ∈ l := by
  simp [List.getD, List.getElem?_eq_getElem h]

/-- what is wrong with links: 5 there is none, 4 too many, 1 one is out of bounds, 0 nothing -/
def capsFrom : List Int → Int
  | [] => 0
  | x :: r => if x < 1 ∨ 1000 < x then 1 else capsFrom r
def linksE (l : List Int) : Int := if l.length = 0 then 5 else if 6 < l.length then 4 else capsFrom l
/-- what is wrong with a path, behind the links that it went over -/
def pathFrom (links : Int) : List Int → List Int → Int
  | _, [] => 0
  | seen, x :: r => if x < 0 ∨ links ≤ x then 1 else if inB seen x then 7 else pathFrom links (seen ++ [x]) r
def pathE (links : Int) (p : List Int) : Int := if p.length = 0 then 5 else pathFrom links [] p
/-- what is wrong with some paths: the first fault -/
def pathsFrom (links : Int) : List (List Int) → Int
  | [] => 0
  | p :: r => if pathE links p = 0 then pathsFrom links r else pathE links p
def netE (caps : List Int) (paths : List (List Int)) : Int :=
  if caps.length = 0 ∨ paths.length = 0 then 5 else if 6 < caps.length ∨ 6 < paths.length then 4
  else if linksE caps = 0 then pathsFrom caps.length paths else linksE caps

theorem capsFrom_bd (l : List Int) : 0 ≤ capsFrom l ∧ capsFrom l ≤ 1 := by
  induction l with
  | nil => simp [capsFrom]
  | cons x r ih => unfold capsFrom; split <;> omega
theorem pathFrom_bd (links : Int) (s l : List Int) : 0 ≤ pathFrom links s l ∧ pathFrom links s l ≤ 7 := by
  induction l generalizing s with
  | nil => simp [pathFrom]
  | cons x r ih => unfold pathFrom; split; omega; split; omega; exact ih _

/-- who goes over a link: the flows' numbers, rising -/
def usersFrom (link : Int) : Nat → List (List Int) → List Int
  | _, [] => []
  | i, p :: r => if inB p link then (i : Int) :: usersFrom link (i + 1) r else usersFrom link (i + 1) r
def users (paths : List (List Int)) (link : Int) : List Int := usersFrom link 0 paths
theorem usersFrom_snoc (link : Int) (i : Nat) (l : List (List Int)) (p : List Int) :
    usersFrom link i (l ++ [p]) = usersFrom link i l ++ (if inB p link then [((i + l.length : Nat) : Int)] else []) := by
  induction l generalizing i with
  | nil => simp [usersFrom]
  | cons q r ih =>
    simp only [List.cons_append, usersFrom, ih]
    have : i + 1 + r.length = i + (q :: r).length := by simp; omega
    rw [this]
    split <;> simp
theorem users_length (link : Int) (i : Nat) (l : List (List Int)) : (usersFrom link i l).length ≤ l.length := by
  induction l generalizing i with
  | nil => simp [usersFrom]
  | cons q r ih => unfold usersFrom; have := ih (i + 1); split <;> simp <;> omega

end Go.Proofs.Ytinmoocnhgkleab.Ns
