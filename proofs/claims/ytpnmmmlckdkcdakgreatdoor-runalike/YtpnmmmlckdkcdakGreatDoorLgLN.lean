/- Package log's New does what is asked of it. -/
import Derived.Test.YtpnmmmlckdkcdakGreatDoorPlains
import Derived.Test.YtpnmmmlckdkcdakGreatDoorNetB
import Derived.Test.YtpnmmmlckdkcdakGreatDoorNetC0
import Derived.Test.YtpnmmmlckdkcdakGreatDoorCloneI
namespace Go.Proofs.YtpnmmmlckdkcdakGreatDoor
namespace Ev
open Go.RowKit Fr Ns Fl
set_option linter.unusedSimpArgs false
set_option linter.unusedVariables false

theorem links_len {caps : List Int} (h : linksE caps = 0) : 1 ≤ caps.length ∧ caps.length ≤ 6 := by
  unfold linksE at h
  split at h
  · omega
  · split at h
    · omega
    · omega
theorem netE_first (caps : List Int) : netE caps [[0]] = linksE caps := by
  unfold netE
  by_cases h0 : caps.length = 0
  · rw [if_pos (.inl h0), linksE, if_pos h0]
  · rw [if_neg (by simp; intro e; exact h0 (by simp [e]))]
    by_cases h6 : 6 < caps.length
    · rw [if_pos (.inl h6), linksE, if_neg h0, if_pos h6]
    · rw [if_neg (by simp; omega)]
      by_cases hl : linksE caps = 0
      · rw [if_pos hl, hl]
        have : pathE (caps.length : Int) [0] = 0 := by
          simp only [pathE, pathFrom, List.length_singleton]
          rw [if_neg (by omega), if_neg (by omega)]
          rfl
        simp only [pathsFrom]
        rw [if_pos this]
      · rw [if_neg hl]
theorem netE_one {caps : List Int} (h : linksE caps = 0) (p : List Int) : netE caps [p] = pathE caps.length p := by
  obtain ⟨h1, h6⟩ := links_len h
  unfold netE
  rw [if_neg (by simp; intro e; simp [e] at h1), if_neg (by simp; omega), if_pos h]
  simp only [pathsFrom]
  split
  · rename_i e; rw [e]
  · rfl
/-- one list in a box of its own -/
theorem one_list {Q : Nat → Prop} {w : World} {v : Value} {l : List Int} (h : IntsAt Q w v l) : ListsAt (fun _ => True) (w.alloc (.cells #[v] 22)) (.slice (some ⟨w.heap.size, 0, none⟩) 1 1) [l] := by
  refine ⟨_, 1, rfl, ⟨Nat.le_refl _, by simp⟩, .inr ⟨w.heap.size, 0, rfl, fun i hi => ?_, trivial⟩⟩
  obtain rfl : i = 0 := by simpa using hi
  exact ⟨v, by go_simp, (h.later ((Below.refl _ _).alloc (Nat.le_refl _) _)).keep (fun _ _ _ => rfl) (fun _ _ _ => trivial)⟩
set_option maxRecDepth 100000 in
set_option maxHeartbeats 2000000 in
theorem lnew_said : LNewSaid logX := by
  intro Q caps v w hv
  obtain ⟨W0, hW0⟩ : ∃ W0, Hid (W0 = (w.alloc (.cells #[.int .i64 0] 3)).alloc (.cells #[.slice (some ⟨w.heap.size, 0, none⟩) 1 1] 22)) := ⟨_, rfl⟩
  have B0 : Hid (Below w.heap.size w W0) := by rw [hW0.out]; exact ((Below.refl _ _).alloc (Nat.le_refl _) _).alloc (by simp) _
  have HCk : Hid (Calls Tryz.prog 18 #[.agg #[v, .slice (some ⟨w.heap.size + 1, 0, none⟩) 1 1]] W0 fun e w' => e = .returned (errV (linksE caps)) ∧ Below W0.heap.size W0 w') := by
    rw [← netE_first]
    refine check_said (fun _ => True) caps [[0]] _ W0 ⟨_, _, rfl, (hv.later B0.out).keep (fun _ _ _ => rfl) (fun _ _ _ => trivial), ?_⟩
    have := one_list (Q := fun _ => True) (w := w.alloc (.cells #[.int .i64 0] 3)) (v := .slice (some ⟨w.heap.size, 0, none⟩) 1 1) (l := [0]) ⟨_, 1, rfl, ⟨Nat.le_refl _, by simp⟩, .inr ⟨w.heap.size, 0, rfl, fun i hi => by obtain rfl : i = 0 := (by simpa using hi); go_simp, trivial⟩⟩
    rw [hW0.out]
    simpa using this
  obtain ⟨va, vc, hvv, hvm, _⟩ := id hv
  by_cases hl : linksE caps = 0
  · obtain ⟨h1, h6⟩ := links_len hl
    have HCl : Hid (∀ u, Below w.heap.size w u → Calls Tryz.prog 26 #[v] u fun e w' => ∃ x, e = .returned x ∧ w'.ownsRow u.heap.size 3 1 x caps.length (caps.map (Value.int .i64)) ∧ Below u.heap.size u w') := fun u hu => CloneE_own caps v u (hv.later hu) (by omega)
    have HEnd : Hid (∀ (u : World) (x : Value), Below w.heap.size w u → IntsAt (fun b => w.heap.size ≤ b) u x caps → MadeL logX caps w (u.alloc (.cells #[x, .slice none 0 0, .int .i64 0, .slice none 0 0, .int .i64 (-1), .bool false] 64)) (.returned (.tuple #[.pointer (some ⟨u.heap.size, 0, none⟩), .nilIface]))) := fun u x hu hx => by
      have hz := hu.size
      refine ⟨_, by rw [hl, errV_0], ⟨_, rfl⟩, fun _ => ⟨fun b => w.heap.size ≤ b ∧ b < u.heap.size + 1, ⟨u.heap.size, x, .slice none 0 0, .slice none 0 0, [], [], rfl, ⟨⟨row_made _ _ _ _ _ rfl rfl, ⟨hz, by omega⟩, fun b hb => by simp; exact hb.2, ?_, World.ownsRow_nil _ _ _ _, OwnLs.nil _ _, fun b hb => by simp [Value.ownBlock] at hb⟩, rfl, ⟨[], [], ⟨trivial, rfl, rfl, rfl, .inl rfl, fun x hx => by simp at hx⟩, fun _ => rfl⟩, by simp [log0]⟩⟩, fun b hb => hb.1⟩, hu.alloc hz _⟩
      refine hx.keep (fun b _ hl => Below.heap_alloc u _ b hl) (fun b hb hl => ⟨⟨⟨hb, by omega⟩, by omega, by simp [Value.ownBlock]⟩, by simp [Value.ownBlock]⟩)
    rw [hl, errV_0] at HCk
    clear hl hv
    subst hvv
    go_enter Tryz.func8, Tryz.ntmps8
    go_wp2_with fail
    rw [← hW0.out]
    refine HCk.out.mono ?_
    rintro e w1 ⟨rfl, hw1⟩
    have B1 : Hid (Below w.heap.size w w1) := Bel.call B0.out (Nat.le_refl _) hw1
    clear hw1
    go_wp2_with fail
    refine (HCl.out _ B1.out).mono ?_
    rintro e w2 ⟨x, rfl, hx, hw2⟩
    have hs1 := B1.out.size
    have X2 : Hid _ := HEnd.out w2 x (Bel.call B1.out (Nat.le_refl _) hw2) ((ints_of_owns (Q := fun b => w1.heap.size ≤ b) (by omega) hx (fun _ h => h)).keep (fun _ _ _ => rfl) (fun b hb _ => by omega))
    obtain ⟨xa, xc, rfl⟩ := owns_shape hx
    clear hx hw2 hs1
    go_wp2
    refine bodyPost_ret (v := .tuple #[.pointer (some ⟨w2.heap.size, 0, none⟩), .nilIface]) (by simp [results, Tryz.results8, go_sem]) rfl X2.out
  · have HEnd : Hid (∀ u, Below w.heap.size w u → MadeL logX caps w u (.returned (.tuple #[.pointer none, .iface 65 (.int .i64 (linksE caps))]))) := fun u hu => ⟨_, by rw [errV_ne hl], ⟨_, rfl⟩, fun h => absurd h hl, hu⟩
    rw [errV_ne hl] at HCk
    clear hl hv
    subst hvv
    generalize linksE caps = ek at *
    go_enter Tryz.func8, Tryz.ntmps8
    go_wp2_with fail
    rw [← hW0.out]
    refine HCk.out.mono ?_
    rintro e w1 ⟨rfl, hw1⟩
    have X1 : Hid _ := HEnd.out w1 (Bel.call B0.out (Nat.le_refl _) hw1)
    clear hw1
    go_wp2
    refine bodyPost_ret (v := .tuple #[.pointer none, .iface 65 (.int .i64 ek)]) (by simp [results, Tryz.results8, go_sem]) rfl X1.out
end Ev
end Go.Proofs.YtpnmmmlckdkcdakGreatDoor
