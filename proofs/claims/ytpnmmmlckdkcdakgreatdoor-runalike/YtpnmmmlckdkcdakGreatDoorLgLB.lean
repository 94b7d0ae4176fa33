/- Package log's addRecord: a path as a record. -/
import Derived.Test.YtpnmmmlckdkcdakGreatDoorPlains
import Derived.Maps.AppendAt
namespace Go.Proofs.YtpnmmmlckdkcdakGreatDoor
namespace Ev
open Go.RowKit Fr Ns Fl
set_option linter.unusedSimpArgs false
set_option linter.unusedVariables false

set_option maxHeartbeats 2000000 in
theorem laddRecord_any {Q : Nat → Prop} (p : List Int) (v : Value) (w : World) (h : IntsAt Q w v p) (h6 : p.length ≤ 6) (hb : ∀ x ∈ p, 0 ≤ x ∧ x < 6) :
    Calls Tryz.prog 28 #[v] w fun e w' => ∃ y, e = .returned y ∧ w'.ownsRow w.heap.size 5 1 y (p.length + 1) (u8s (recAdd p)) ∧ Below w.heap.size w w' := by
  obtain ⟨a, cap, rfl, ⟨hm, hm2⟩, h'⟩ := id h
  have HC : Hid (∀ i, i < p.length → ∃ b off, a = some ⟨b, off, none⟩ ∧ ∀ u, Below w.heap.size w u → u.cell? ⟨b, off + i, none⟩ = some (.int .i64 (p.getD i 0))) := ints_cells h
  have HB : Hid (∀ k, k < p.length → 0 ≤ p.getD k 0 ∧ p.getD k 0 < 6) := fun k hk => hb _ (getD_mem p k hk 0)
  have HS : Hid (∀ k, k < p.length → u8s (p.length :: (p.take (k + 1)).map Int.toNat) = u8s (p.length :: (p.take k).map Int.toNat) ++ [.int .u8 (p.getD k 0)]) := fun k hk => by
    have e : p.take (k + 1) = p.take k ++ [p.getD k 0] := take_snoc p k hk 0
    have := hb _ (getD_mem p k hk 0)
    rw [e, List.map_append, List.map_singleton, ← List.cons_append, u8s_append]
    congr 1
    show [Value.int .u8 (((p.getD k 0).toNat : Nat) : Int)] = _
    rw [Int.toNat_of_nonneg this.1]
  obtain ⟨i0, hi, hz0, hz1, hz2⟩ := info_parts infoByte
  have q0 : IntKind.u8.wrap (p.length : Int) = p.length := by rw [IntKind.wrap_u8]; omega
  have O0 : Hid ((w.alloc (.cells #[.int .u8 p.length] 5)).ownsRow w.heap.size 5 1 (.slice (some ⟨w.heap.size, 0, none⟩) 1 1) 1 (u8s (p.length :: (p.take 0).map Int.toNat))) := by
    refine RowAt.owns (row_made w _ _ _ _ rfl ?_) (Nat.le_refl _) rfl (by decide)
    simp [u8s]
  clear h h' hb
  go_enter Tryz.func28, Tryz.ntmps28
  go_wp2
  go_loopw [3, 5, 12] (fun s3 _ i wr => ∃ k : Nat, k ≤ p.length ∧ i = .int .i64 k ∧ Hid (wr.ownsRow w.heap.size 5 1 s3 (k + 1) (u8s (p.length :: (p.take k).map Int.toNat))) ∧ Hid (Below w.heap.size w wr)) (fun _ _ i _ => p.length - (intOf i).toNat)
  case atStart => exact ⟨0, by omega, rfl, O0, (Below.refl _ _).alloc (Nat.le_refl _) _⟩
  case round =>
    obtain ⟨k, hk, rfl, ho, hbl⟩ := hrel
    by_cases hlt : k < p.length
    · obtain ⟨b, off, rfl, hc⟩ := HC.out k hlt
      have c0 := hc _ hbl.out
      obtain ⟨b1, b2⟩ := HB.out k hlt
      have HN := HS.out k hlt
      have q1 : IntKind.u8.wrap (p.getD k 0) = p.getD k 0 := by rw [IntKind.wrap_u8]; omega
      have hsz : w.heap.size ≤ wr.heap.size := hbl.out.size
      have O2 : Hid ((wr.alloc (.cells #[.int .u8 (p.getD k 0)] 5)).ownsRow w.heap.size 5 1 u3 (k + 1) (u8s (p.length :: (p.take k).map Int.toNat))) := ho.out.alloc _
      obtain ⟨sa, cs, rfl⟩ := owns_shape ho.out
      generalize u8s (p.length :: (p.take k).map Int.toNat) = xs at *
      have HN' : Hid (u8s (p.length :: (p.take (k + 1)).map Int.toNat) = xs ++ [.int .u8 (p.getD k 0)]) := HN
      clear hc HN
      generalize p.getD k 0 = y at *
      have HNews : Hid (∀ j u, [Value.int .u8 y][j]? = some u → (wr.alloc (.cells #[.int .u8 y] 5)).cell? ((⟨wr.heap.size, 0, none⟩ : Addr).add j) = some u) := new1 _ _ _ _ rfl
      go_wp2_with (at_builtin; go_must (refine wpList_append_own_at _ rfl (.tmp 16) (.tmp 19) 62 rfl w.heap.size 5 i0 (.int .u8 0) 1 1 Tryz.underlying62 hi hz0 hz1 hz2 rfl (by decide) (.slice sa (k + 1) cs) (k + 1) xs rfl O2.out ⟨wr.heap.size, 0, none⟩ 1 1 [.int .u8 y] rfl rfl HNews.out (by intro u hu; simp at hu; subst hu; rfl) (by unfold maxLen; omega) (by omega) (by simp; omega) ?_))
      intro v' wg hown' hgrow _ _
      have HBg : Hid (Below w.heap.size w wg) := rel_append hbl.out hsz ho.out hgrow
      obtain ⟨av, cv, rfl⟩ := owns_shape hown'
      have HO : Hid (wg.ownsRow w.heap.size 5 1 (.slice av (k + 1 + 1) cv) (k + 1 + 1) (u8s (p.length :: (p.take (k + 1)).map Int.toNat))) := by rw [HN'.out]; exact hown'
      clear hown' hgrow
      go_wp2
      go_roundw
      case rel => exact ⟨k + 1, by omega, by go_num, HO, HBg⟩
      case measure => simp [intOf]; omega
    · have HO : Hid (wr.ownsRow w.heap.size 5 1 u3 (p.length + 1) (u8s (recAdd p))) := by
        have := ho.out
        rw [show k = p.length by omega, List.take_length] at this
        exact this
      obtain ⟨sa, cs, rfl⟩ := owns_shape ho.out
      go_wp2
      go_ret
      exact ⟨_, rfl, HO.out, hbl.out⟩
end Ev
end Go.Proofs.YtpnmmmlckdkcdakGreatDoor
