/- The document's Line (package fairref2): what every word leans on. -/
import Derived.Test.YtpnmmmlckdkcdakGreatDoorPlains
import Derived.Test.YtpnmmmlckdkcdakGreatDoorRCut
import Derived.Test.YtpnmmmlckdkcdakGreatDoorRNum
import Derived.Test.YtpnmmmlckdkcdakGreatDoorRDig
import Derived.Test.YtpnmmmlckdkcdakGreatDoorRName
import Derived.Test.YtpnmmmlckdkcdakGreatDoorRFill
import Derived.Deep.DeepCutAuto
import Derived.Deep.RegionHeld3
namespace Go.Proofs.YtpnmmmlckdkcdakGreatDoor
namespace Ev
open Go.RowKit Fr Ns Ld Fl
set_option linter.unusedSimpArgs false
set_option linter.unusedVariables false

theorem RowTwo {w : World} {g : Nat} {T : TypeId} {a b : Value} (h : RowAt w g T [a, b]) : w.cell? ⟨g, 0, none⟩ = some a ∧ w.cell? ⟨g, 1, none⟩ = some b ∧ w.frozen? ⟨g, 0, none⟩ = false ∧ w.frozen? ⟨g, 1, none⟩ = false ∧ g < w.heap.size :=
  ⟨h.cell rfl, h.cell rfl, h.frozen 0, h.frozen 1, h.lt⟩
/-- the words of a line whose numbers can be read -/
theorem line_parts {s : Txt} (hs : s.length ≤ 3000) (hr : readT s = true) : ∃ W : List Txt, (∀ u : World, Calls Tryz.prog 22 #[.string ⟨s.toArray⟩, .int .u8 32] u fun e w' => ∃ v, e = .returned v ∧ StrsAt (fun b => u.heap.size ≤ b) w' v W ∧ Below u.heap.size u w') ∧ W.length = (numsT s).length + 1 ∧ (numsT s).length ≤ 3000 ∧ W.getD 0 [] = wordT s ∧
    (∀ i, i < (numsT s).length → ∀ u : World, Calls Tryz.prog 51 #[.string ⟨(W.getD (i + 1) []).toArray⟩] u fun e w' => e = .returned (.tuple #[.int .i64 ((numsT s).getD i 0), .bool true]) ∧ w' = u) ∧ ∀ x ∈ numsT s, 0 ≤ x ∧ x ≤ 9999 := by
  have hl := cutB_length 32 s
  have hc := cutB_cons 32 s
  have hlen : (cutB 32 s).length = (numsT s).length + 1 := by rw [hc]; simp [numsT]
  have hok : ∀ x ∈ (cutB 32 s).tail, numOk x = true := fun x hx => by
    unfold readT at hr
    exact List.all_eq_true.1 hr x hx
  have hpl : ∀ x ∈ cutB 32 s, x.length ≤ 3000 := by
    intro x hx
    exact Nat.le_trans (cutB_small hx) hs
  refine ⟨cutB 32 s, fun u => RCut_any s 32 u (by omega), hlen, by omega, ?_, fun i hi u => ?_, fun x hx => ?_⟩
  · rw [hc]; rfl
  · have hi' : i < (cutB 32 s).tail.length := by simpa [numsT] using hi
    have e1 : (cutB 32 s).getD (i + 1) [] = (cutB 32 s).tail.getD i [] := by rw [hc]; simp
    have e2 : (numsT s).getD i 0 = numV ((cutB 32 s).tail.getD i []) := by
      show ((cutB 32 s).tail.map numV).getD i 0 = _
      rw [List.getD, List.getElem?_map, List.getD, List.getElem?_eq_getElem hi']; rfl
    have hm : (cutB 32 s).tail.getD i [] ∈ (cutB 32 s).tail := getD_mem _ i hi' []
    have h1 := RNumber_any ((cutB 32 s).tail.getD i []) u (by have := hpl _ (List.mem_of_mem_tail hm); omega)
    rw [e1, e2]
    rw [numN, hok _ hm] at h1
    exact h1
  · obtain ⟨y, hy, rfl⟩ := List.mem_map.1 hx
    exact num_few (hok y hy)
theorem line_end {Q : Nat → Prop} {w wz : World} {v1 v2 : Value} {f : Flows} (h : NetAt Q w (.agg #[v1, v2]) capsR f) (hb : Below w.heap.size w wz) : NetAt (fun b => Q b ∨ w.heap.size ≤ b) wz (.agg #[v1, v2]) capsR f := by
  obtain ⟨x1, x2, e, h1, h2⟩ := h
  exact ⟨x1, x2, e, (h1.later hb).keep (fun _ _ _ => rfl) (fun _ h _ => .inl h), (h2.later hb).keep (fun _ _ _ => rfl) (fun _ h _ => .inl h)⟩
/-- where a line's net may lie: where the one before lay, or behind the call's own two -/
def NewQ (Q : Nat → Prop) (w : World) (b : Nat) : Prop := (Q b ∧ b < w.heap.size) ∨ w.heap.size + 1 + 1 ≤ b
theorem net_in {Q : Nat → Prop} {w u : World} {v : Value} {c : List Int} {l : List (List Int)} (h : NetAt Q w v c l) (hb : Below w.heap.size w u) : NetAt (NewQ Q w) u v c l := h.keep (fun b _ hl => hb.block b hl) (fun b hq hl => .inl ⟨hq, hl⟩)
theorem net_out {Q : Nat → Prop} {w u : World} {v : Value} {c : List Int} {l : List (List Int)} (h : NetAt (NewQ Q w) u v c l) : NetAt (fun b => Q b ∨ w.heap.size ≤ b) u v c l := h.keep (fun _ _ _ => rfl) (fun b hq _ => hq.elim (fun h => .inl h.1) (fun h => .inr (by omega)))
theorem net_drew {Q : Nat → Prop} {w : World} {v : Value} {c : List Int} {l : List (List Int)} (h : NetAt Q w v c l) : NetAt Q w.drew v c l := h.later (Below.refl _ _).drew
theorem not_new {Q : Nat → Prop} {w : World} : ¬ NewQ Q w (w.heap.size + 1) := fun h => h.elim (fun h => by omega) (fun h => by omega)
/-- the rates that Line asks for: none of no flow -/
def ratesL (f : Flows) : List (Int × Int) := if f = [] then [] else ratesR f
theorem fracs_at {Q : Nat → Prop} {w : World} {v : Value} {l : List (Int × Int)} (h : FracsAt Q w v l) : ∀ i, i < l.length → ∃ a cap b off, v = .slice a l.length cap ∧ a = some ⟨b, off, none⟩ ∧ ∀ u, Below w.heap.size w u → u.cell? ⟨b, off + i * 2, none⟩ = some (.int .i64 (l.getD i (0, 0)).1) ∧ u.cell? ⟨b, off + i * 2 + 1, none⟩ = some (.int .i64 (l.getD i (0, 0)).2) := by
  intro i hi
  obtain ⟨a, cap, rfl, _, h⟩ := h
  rcases h with h | ⟨b, off, rfl, h, _⟩
  · rw [h] at hi; simp at hi
  · exact ⟨_, cap, b, off, rfl, rfl, fun u hu => ⟨cell_later hu (h i hi).1, cell_later hu (h i hi).2⟩⟩
end Ev
end Go.Proofs.YtpnmmmlckdkcdakGreatDoor
