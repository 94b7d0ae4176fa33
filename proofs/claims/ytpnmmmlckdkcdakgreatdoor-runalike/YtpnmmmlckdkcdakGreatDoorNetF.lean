/- The library's Delete of one place of a slice of slices. -/
import Derived.Test.YtpnmmmlckdkcdakGreatDoorPlains
import Derived.Lib.SliceRun
import Derived.Laws.IdiomCopy
import Derived.Deep.Upon
import Derived.Lib.EndianMore
namespace Go.Proofs.YtpnmmmlckdkcdakGreatDoor
namespace Ns
open Go.RowKit
set_option linter.unusedSimpArgs false
set_option linter.unusedVariables false

set_option maxRecDepth 100000 in
set_option maxHeartbeats 2000000 in
theorem Delete_at (R off n c k j : Nat) (vs : List Value) (w : World) (hl : vs.length = n) (hc : ∀ i, i < n → w.cell? ⟨R, off + i, none⟩ = some (vs.getD i undef)) (hf : ∀ i, i < n → w.frozen? ⟨R, off + i, none⟩ = false)
    (h1 : ∀ u ∈ vs, u.oneCell' = true) (hj : j = k + 1) (hk : k < n) (hn : n ≤ c) (hc6 : c ≤ 9223372036854775807) :
    Calls Tryz.prog 64 #[.slice (some ⟨R, off, none⟩) n c, .int .i64 k, .int .i64 j] w fun e w' => e = .returned (.slice (some ⟨R, off, none⟩) (n - 1) c) ∧
      ∃ z, w' = (w.drew.setCells R (off + k * 1) (vs.drop j)).setCells R (off + (k + (n - j))) [z] := by
  obtain ⟨i0, hi, hz0, hz1, hz2⟩ := info_parts infoInts
  have hic : k ≤ c := by omega
  have hjc : j ≤ c := by omega
  have hjn : j ≤ n := by omega
  have hkj : k ≤ j := by omega
  have hkj' : ¬ ((k : Int) == (j : Int)) = true := by simp; omega
  have hlen : (k + (n - j)) ≤ n := by omega
  have hne : ¬ c = k + (n - j) := by omega
  have HJ : Hid (j = k + 1) := hj
  have hdl : (vs.drop j).length = n - j := by rw [List.length_drop, hl]
  obtain ⟨A, hA, hsrc⟩ : ∃ A : Addr, (if c = j then some (⟨R, off, none⟩ : Addr) else some ⟨R, off + j, none⟩) = some A ∧ Hid (∀ t u, (vs.drop j)[t]? = some u → w.drew.cell? (A.add t) = some u) := by
    have hg : ∀ t u, (vs.drop j)[t]? = some u → t < n - j ∧ vs.getD (j + t) undef = u := by
      intro t u hu
      have ht := (List.getElem?_eq_some_iff.1 hu).1
      rw [List.getElem?_drop] at hu
      exact ⟨by rw [← hdl]; exact ht, by simp [List.getD, hu]⟩
    by_cases h : c = j
    · refine ⟨⟨R, off, none⟩, by simp [h], fun t u hu => ?_⟩
      have := (hg t u hu).1
      omega
    · refine ⟨⟨R, off + j, none⟩, by simp [h], fun t u hu => ?_⟩
      have := hg t u hu
      rw [add_addr, show off + j + t = off + (j + t) by omega]
      exact (hc (j + t) (by omega)).trans (by rw [this.2])
  have s1 : Hid ((vs.drop j).length = (n - j) * 1) := by rw [Nat.mul_one]; exact hdl
  have s2 : Hid (∀ u ∈ vs.drop j, u.oneCell' = true) := fun u hu => h1 u (List.mem_of_mem_drop hu)
  have s3 : Hid (∀ t, t < (vs.drop j).length → (w.drew.cell? ⟨R, off + k * 1 + t, none⟩).isSome = true ∧ w.drew.frozen? ⟨R, off + k * 1 + t, none⟩ = false) := by
    intro t ht
    rw [hdl] at ht
    rw [Nat.mul_one, Nat.add_assoc]
    exact ⟨by show (w.cell? _).isSome = true; rw [hc (k + t) (by omega)]; rfl, hf (k + t) (by omega)⟩
  obtain ⟨W1, hW1⟩ : ∃ W1, W1 = w.drew.setCells R (off + k * 1) (vs.drop j) := ⟨_, rfl⟩
  have hz : ∀ w, (zeroValue 22).run Tryz.prog w = .ok (.slice none 0 0) w := Tryz.zeroValue22
  have hcl : ∀ ty, (Builtin.clear_ #[23] ty #[.slice (some ⟨R, off + (k + (n - j)), none⟩) (n - (k + (n - j))) (c - (k + (n - j)))]).run Tryz.prog W1 = .ok (.tuple #[]) (W1.setCells R (off + (k + (n - j))) (List.replicate (n - (k + (n - j))) (.slice none 0 0))) :=
    fun ty => Lib.run_clear_slice W1 _ _ ty _ Tryz.underlying23 hz rfl rfl R (off + (k + (n - j))) _ _ (by omega) (fun t ht => by
      have ht0 : t = 0 := by omega
      subst ht0
      rw [hW1, World.cell?_setCells_out R (vs.drop j) (off + k * 1) _ _ (fun _ _ => .inr (by simp only [hdl]; omega))]
      show (w.cell? _).isSome = true
      rw [show off + (k + (n - j)) + 0 = off + (n - 1) by omega, hc (n - 1) (by omega)]
      rfl) (fun t ht => by
      have ht0 : t = 0 := by omega
      subst ht0
      rw [hW1, World.frozen?_setCells]
      show w.frozen? _ = false
      rw [show off + (k + (n - j)) + 0 = off + (n - 1) by omega]
      exact hf (n - 1) (by omega))
  have hW : Hid (W1 = w.drew.setCells R (off + k * 1) (vs.drop j)) := hW1
  clear hc hf h1 hj hW1 hdl
  go_enter Tryz.func64, Tryz.ntmps64
  go_wp2_with fail
  go_region_law (refine step_append_room rfl (.tmp 22) (.tmp 25) 23 rfl 22 i0 1 Tryz.underlying23 hi hz1 R off k c (by simp [Act.eval, Act.put]) A (n - j) (c - j) (vs.drop j) (by simp [Act.eval, Act.put, hA]) s1.out hsrc.out s2.out (by omega) s3.out ?_; rw [← hW.out])
  all_goals
    go_wp2
    go_ret
    refine ⟨by rw [show n - 1 = k + (n - j) by have := HJ.out; omega]; rfl, .slice none 0 0, ?_⟩
    rw [hW.out, show n - (k + (n - j)) = 1 by have := HJ.out; omega]
    rfl

/-- one place of a row of the call's own is taken out of it -/
theorem Delete_any {base R n k : Nat} {vs : List Value} (w : World) (ho : w.ownsRow base 22 1 (.slice (some ⟨R, 0, none⟩) n n) n vs) (h1 : ∀ u ∈ vs, u.oneCell' = true) (hk : k < n) (hn : n ≤ 1000) :
    Calls Tryz.prog 64 #[.slice (some ⟨R, 0, none⟩) n n, .int .i64 k, .int .i64 ((k : Int) + 1)] w fun e w' => e = .returned (.slice (some ⟨R, 0, none⟩) (n - 1) n) ∧
      (∀ b, b ≠ R → b < w.heap.size → w'.heap[b]? = w.heap[b]?) ∧ Below R w w' ∧ ∀ i, i < n - 1 → w'.cell? ⟨R, i, none⟩ = some (vs.getD (if i < k then i else i + 1) undef) := by
  have hl : vs.length = n := by have := ho.1; omega
  have hc : ∀ i, i < n → w.cell? ⟨R, 0 + i, none⟩ = some (vs.getD i undef) := fun i hi => by
    rw [Nat.zero_add, ho.cellAt i (by omega)]
    simp [List.getD, List.getElem?_eq_getElem (show i < vs.length by omega)]
  refine (Delete_at R 0 n n k (k + 1) vs w hl hc (fun i _ => by rw [Nat.zero_add]; exact ho.frozenAt i) h1 rfl hk (Nat.le_refl _) (by omega)).mono ?_
  rintro e w' ⟨rfl, z, rfl⟩
  have hdl : (vs.drop (k + 1)).length = n - (k + 1) := by rw [List.length_drop, hl]
  refine ⟨rfl, fun b hb hlt => ?_, ?_, fun i hi => ?_⟩
  · have e0 : w.heap.size ≤ (w.drew.setCells R (0 + k * 1) (vs.drop (k + 1))).heap.size := (Lib.below_setCells_w (B := R) (Nat.le_refl _) (vs.drop (k + 1)) (0 + k * 1) w.drew).size
    rw [World.heap_setCells_other _ R _ _ (by omega) hb, World.heap_setCells_other _ R _ _ (by exact hlt) hb]
    rfl
  · have b1 : Below R w w.drew := (Below.refl _ _).drew
    exact (b1.trans (Lib.below_setCells_w (Nat.le_refl _) _ _ _)).trans (Lib.below_setCells_w (Nat.le_refl _) _ _ _)
  · rw [World.cell?_setCells_out R [z] _ _ _ (fun _ _ => .inl (by simp; omega))]
    by_cases hik : i < k
    · rw [if_pos hik, World.cell?_setCells_out R _ _ _ _ (fun _ _ => .inl (by simp; omega))]
      have := hc i (by omega)
      rw [Nat.zero_add] at this
      exact this
    · rw [if_neg hik]
      have h := World.cell?_setCells_in R (vs.drop (k + 1)) (0 + k * 1) w.drew (fun t ht => by
        rw [hdl] at ht
        show (w.cell? _).isSome = true
        rw [show 0 + k * 1 + t = 0 + (k + t) by omega, hc (k + t) (by omega)]
        rfl) (i - k) (by rw [hdl]; omega)
      rw [show 0 + k * 1 + (i - k) = i by omega] at h
      rw [h]
      congr 1
      rw [List.getElem_drop]
      simp [List.getD, show k + 1 + (i - k) = i + 1 by omega, List.getElem?_eq_getElem (show i + 1 < vs.length by omega)]
end Ns
end Go.Proofs.YtpnmmmlckdkcdakGreatDoor
