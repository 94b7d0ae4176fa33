/- Package road's Source, Pool and Waits do what is asked of them. -/
import Derived.Test.YtkpmjmgmgkdfnajDoorPlains
import Derived.Laws.AppendOwnNone
namespace Go.Proofs.YtkpmjmgmgkdfnajDoor
namespace Ev
open Go.RowKit Fr Ns Ld Fl
set_option linter.unusedSimpArgs false
set_option linter.unusedVariables false

set_option maxRecDepth 100000 in
set_option maxHeartbeats 1000000 in
theorem rpool_said : RPoolSaid roadX := by
  rintro p F R w ⟨g, gs, cs, sp, rv, rfl, h, hF⟩ hr
  obtain ⟨c0, c1, c2, c3, c4, f0, f1, gl, sl, -⟩ := (InL.start h).five
  have B0 : Hid (Below w.heap.size w (w.alloc (.cells #[.int .i64 R.room, .int .i64 R.cap, .int .i64 R.wait] 24))) := (Below.refl _ _).alloc (Nat.le_refl _) _
  clear h hr hF
  go_enter Tryd.func9, Tryd.ntmps9
  go_wp2
  refine bodyPost_ret (v := .agg #[.int .i64 R.room, .int .i64 R.cap, .int .i64 R.wait]) (by simp [results, Tryd.results9, go_sem, *]) rfl ⟨rfl, ?_⟩
  exact B0.out

set_option maxRecDepth 100000 in
set_option maxHeartbeats 1000000 in
theorem rsource_said : RSourceSaid roadX := by
  rintro p F R i w ⟨g, gs, cs, sp, rv, rfl, h, hF⟩ hr
  obtain ⟨c0, c1, c2, c3, c4, f0, f1, gl, sl, -⟩ := (InL.start h).five
  have hlen : R.S.length ≤ 6 := by obtain ⟨L, h6, _⟩ := hr; exact h6
  by_cases hi : i < 0 ∨ (R.S.length : Int) ≤ i
  · have B0 : Hid (Below w.heap.size w (w.alloc (.cells #[.int .i64 0, .int .i64 0, .int .i64 0, .int .i64 0] 43))) := (Below.refl _ _).alloc (Nat.le_refl _) _
    have e1 : atI R.S.length i = 1 := if_pos hi
    rw [e1]
    show Calls _ _ _ _ fun e w' => e = .returned (.tuple #[.agg #[.int .i64 0, .int .i64 0, .int .i64 0, .int .i64 0], .iface 54 (.int .i64 1)]) ∧ _
    clear h hr hF e1
    by_cases h0 : i < 0
    · clear hi
      go_enter Tryd.func12, Tryd.ntmps12
      go_wp2
      refine bodyPost_ret (v := .tuple #[.agg #[.int .i64 0, .int .i64 0, .int .i64 0, .int .i64 0], .iface 54 (.int .i64 1)]) (by simp [results, Tryd.results12, go_sem, *]) rfl ⟨rfl, ?_⟩
      exact B0.out
    · have h1 : (R.S.length : Int) ≤ i := by omega
      clear hi
      go_enter Tryd.func12, Tryd.ntmps12
      go_wp2
      refine bodyPost_ret (v := .tuple #[.agg #[.int .i64 0, .int .i64 0, .int .i64 0, .int .i64 0], .iface 54 (.int .i64 1)]) (by simp [results, Tryd.results12, go_sem, *]) rfl ⟨rfl, ?_⟩
      exact B0.out
  · obtain ⟨k, rfl⟩ : ∃ k : Nat, i = k := ⟨i.toNat, by omega⟩
    have hk : k < R.S.length := by omega
    have e1 : atI R.S.length (k : Int) = 0 := if_neg hi
    rw [e1, errV_0, Int.toNat_natCast]
    show Calls _ _ _ _ fun e w' => e = .returned (.tuple #[.agg #[.int .i64 (sAt R.S k).1, .int .i64 (sAt R.S k).2.1, .int .i64 (sAt R.S k).2.2.1, .int .i64 (sAt R.S k).2.2.2], .nilIface]) ∧ _
    obtain ⟨s0, s1, s2, s3⟩ := row_src h.srcs hk
    clear h hr hF e1 hi
    generalize sAt R.S k = s at *
    have B0 : Hid (Below w.heap.size w (w.alloc (.cells #[.int .i64 s.1, .int .i64 s.2.1, .int .i64 s.2.2.1, .int .i64 s.2.2.2] 43))) := (Below.refl _ _).alloc (Nat.le_refl _) _
    go_enter Tryd.func12, Tryd.ntmps12
    go_wp2
    refine bodyPost_ret (v := .tuple #[.agg #[.int .i64 s.1, .int .i64 s.2.1, .int .i64 s.2.2.1, .int .i64 s.2.2.2], .nilIface]) (by simp [results, Tryd.results12, go_sem, *]) rfl ⟨rfl, ?_⟩
    exact B0.out

theorem ones_nats (l : List Nat) : ∀ u ∈ natsV l, u.oneCell' = true := by
  intro u hu
  obtain ⟨x, _, rfl⟩ := List.mem_map.1 hu
  rfl
set_option maxRecDepth 100000 in
set_option maxHeartbeats 1000000 in
theorem rwaits_said : RWaitsSaid roadX := by
  rintro p F R w ⟨g, gs, cs, sp, rv, rfl, h, hF⟩ hr
  obtain ⟨c0, c1, c2, c3, c4, f0, f1, gl, sl, -⟩ := (InL.start h).five
  have hrow : R.row.length ≤ 10000 := by
    obtain ⟨L, h6, hL, hinv⟩ := hr
    have := poolE_0.1 hinv.pool
    have := hinv.waits
    omega
  obtain ⟨i0, hi, hz0, hz1, hz2⟩ := info_parts infoInt
  have HT := h.rows
  obtain ⟨ar, cr, hrv⟩ := HT.shape
  rw [hrv] at HT c4
  have HN : Hid ((natsV R.row).length = R.row.length) := by simp [Hid, natsV]
  have HE : Hid (natsV R.row = (R.row.map Int.ofNat).map (Value.int .i64)) := natsV_ints _
  rcases HT.cell with ⟨e1, e2, e3⟩ | ⟨gr, off, e1, hc⟩
  · subst e3
    have HR : Hid (R.row = []) := List.eq_nil_of_length_eq_zero e1
    rw [e1, e2] at c4
    clear h hr hF HT hrv HN HE e1
    go_enter Tryd.func11, Tryd.ntmps11
    go_wp2_with (at_builtin; go_must (refine wpList_append_own_none rfl _ _ 33 rfl w.heap.size 3 i0 1 Tryd.underlying33 hi _ _ _ rfl (World.ownsRow_nil _ _ _ _) rfl ?_))
    go_ret
    refine ⟨_, rfl, ?_, Below.refl _ _⟩
    rw [HR.out]
    exact ⟨none, 0, rfl, ⟨Nat.le_refl _, by simp⟩, .inl rfl⟩
  · subst e1
    have A : Hid (∀ j u, (natsV R.row)[j]? = some u → w.cell? ((⟨gr, off, none⟩ : Addr).add j) = some u) := fun j u hj => by rw [Addr.add_lit]; exact hc j u hj
    clear h hr hF HT hrv hc
    go_enter Tryd.func11, Tryd.ntmps11
    go_wp2_with (at_builtin; go_must (refine wpList_append_own _ rfl _ _ 33 rfl w.heap.size 3 i0 (.int .i64 0) 1 8 Tryd.underlying33 hi hz0 hz1 hz2 rfl (by decide) _ _ _ rfl (World.ownsRow_nil _ _ _ _) ⟨gr, off, none⟩ R.row.length cr (natsV R.row) rfl ?c0 ?c1 ?c2 ?c3 ?c4 ?c5 ?_))
    case c0 => rw [HN.out, Nat.mul_one]
    case c1 => exact A.out
    case c2 => exact ones_nats _
    case c3 => unfold maxLen; omega
    case c4 => omega
    case c5 => exact Nat.le_refl _
    intro v' w1 hown hgrow _
    have HO : Hid (IntsAt (fun b => w.heap.size ≤ b) w1 v' (R.row.map Int.ofNat)) := by
      refine ints_of_owns (base := w.heap.size) (by simp; omega) ?_ (fun _ h => h)
      rw [HE.out] at hown
      simpa using hown
    have HW : Hid (Below w.heap.size w w1) := (Below.refl _ w).grown hgrow (Nat.le_refl _) (by intro k hk; simp [Value.ownBlock] at hk)
    clear hown hgrow
    go_wp2
    go_ret
    exact ⟨_, rfl, HO.out, HW.out⟩
end Ev
end Go.Proofs.YtkpmjmgmgkdfnajDoor
