/- Small facts on paths, rows and lists that the walks of package net lean on. -/
import Derived.Test.YtpnmmmlckdkcdakGreatDoorNetB
import Derived.Lib.SliceRun
import Derived.OwnWalk
namespace Go.Proofs.YtpnmmmlckdkcdakGreatDoor
namespace Ns
open Go.RowKit Fr
set_option linter.unusedSimpArgs false
set_option linter.unusedVariables false

theorem nodup_bound (n : Nat) : ∀ l : List Int, l.Nodup → (∀ x ∈ l, 0 ≤ x ∧ x < n) → l.length ≤ n := by
  induction n with
  | zero =>
    intro l _ h
    cases l with
    | nil => simp
    | cons x r => have := h x (by simp); omega
  | succ n ih =>
    intro l hn h
    have h1 := ih (l.erase n) (hn.erase _) (by
      intro x hx
      have hx' := (hn.mem_erase_iff).1 hx
      have := h x hx'.2
      have : x ≠ n := hx'.1
      omega)
    have h2 : l.length ≤ (l.erase (n : Int)).length + 1 := by rw [List.length_erase]; split <;> omega
    omega
theorem pathFrom_nodup (L : Nat) : ∀ (l seen : List Int), pathFrom L seen l = 0 → seen.Nodup → (∀ x ∈ seen, 0 ≤ x ∧ x < L) → (seen ++ l).Nodup ∧ ∀ x ∈ seen ++ l, 0 ≤ x ∧ x < L := by
  intro l
  induction l with
  | nil => intro seen _ h1 h2; simpa using ⟨h1, h2⟩
  | cons x r ih =>
    intro seen h h1 h2
    unfold pathFrom at h
    split at h
    · omega
    · split at h
      · omega
      · rename_i hx hs
        have hns : x ∉ seen := fun hm => hs (inB_of_mem hm)
        have := ih (seen ++ [x]) h (by
          rw [List.nodup_append]
          refine ⟨h1, by simp, ?_⟩
          intro a ha b hb
          simp at hb
          subst hb
          intro e
          exact hns (e ▸ ha)) (by
          intro y hy
          simp at hy
          rcases hy with hy | rfl
          · exact h2 y hy
          · omega)
        simpa using this
theorem pathE_len {L : Nat} {p : List Int} (h : pathE L p = 0) : p.length ≤ L := by
  unfold pathE at h
  split at h
  · omega
  · have := pathFrom_nodup L p [] h (by simp) (by simp)
    exact nodup_bound L p (by simpa using this.1) (by simpa using this.2)

theorem ints_nil (Q : Nat → Prop) (w : World) : IntsAt Q w (.slice none 0 0) [] := ⟨none, 0, rfl, ⟨Nat.le_refl _, by simp⟩, .inl rfl⟩
theorem lists_nil (Q : Nat → Prop) (w : World) : ListsAt Q w (.slice none 0 0) [] := ⟨none, 0, rfl, ⟨Nat.le_refl _, by simp⟩, .inl rfl⟩

/-- a row of the call's own behind a contract -/
theorem ownsRow_later {w w' : World} {B base : Nat} {e : TypeId} {size g n cap : Nat} {xs : List Value} (hb : Below B w w') (hg : g < B) (h : w.ownsRow base e size (.slice (some ⟨g, 0, none⟩) n cap) n xs) : w'.ownsRow base e size (.slice (some ⟨g, 0, none⟩) n cap) n xs := by
  refine ⟨h.1, ?_⟩
  rcases h.2 with h' | ⟨g', cap', cur, h', r⟩
  · exact .inl h'
  · refine .inr ⟨g', cap', cur, h', ?_⟩
    simp only [Value.slice.injEq, Option.some.injEq, Addr.mk.injEq, and_true, true_and] at h'
    rw [hb.block g' (by rw [← h'.1]; exact hg)]
    exact r

theorem cells_ints {w : World} {b off : Nat} {l : List Int} (h : ∀ i, i < l.length → w.cell? ⟨b, off + i, none⟩ = some (.int .i64 (l.getD i 0))) : ∀ j u, (l.map (Value.int .i64))[j]? = some u → w.cell? ((⟨b, off, none⟩ : Addr).add j) = some u := by
  intro j u hj
  rw [add_addr]
  have hl : j < l.length := by have := (List.getElem?_eq_some_iff.1 hj).1; simpa using this
  rw [h j hl, ← hj]
  simp [List.getD, List.getElem?_eq_getElem hl]
theorem ones_ints (l : List Int) : ∀ u ∈ l.map (Value.int .i64), u.oneCell' = true := by
  intro u hu
  obtain ⟨x, _, rfl⟩ := List.mem_map.1 hu
  rfl
end Ns
end Go.Proofs.YtpnmmmlckdkcdakGreatDoor
