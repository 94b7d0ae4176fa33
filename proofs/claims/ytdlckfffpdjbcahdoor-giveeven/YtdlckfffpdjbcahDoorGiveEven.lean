/- The law GiveEven returns true for every input, from what is asked of package give's Split: of alike weights alike parts, the first ones one more. -/
import Derived.Test.YtdlckfffpdjbcahDoorPlains
import Derived.Test.YtdlckfffpdjbcahDoorToldB
import Derived.Deep.DeepCutAuto
namespace Go.Proofs.YtdlckfffpdjbcahDoor
namespace Ev
open Go.RowKit Fr Ns Ld Fl
set_option linter.unusedSimpArgs false
set_option linter.unusedVariables false

theorem ge_fact : splitE 1 [0] = 5 := by decide +kernel
theorem ge_one (w : World) (x : Int) (T : TypeId) : IntsAt (fun _ => True) (w.alloc (.cells #[.int .i64 x] T)) (.slice (some ⟨w.heap.size, 0, none⟩) 1 1) [x] :=
  ⟨_, 1, rfl, ⟨Nat.le_refl _, by simp⟩, .inr ⟨w.heap.size, 0, rfl, fun i hi => by
    match i, hi with
    | 0, _ => simp, trivial⟩⟩
theorem ge_tot (n : Nat) (c : Int) : tot (List.replicate n c) = n * c := by
  have := (alike_eq (c := c) (l := List.replicate n c) (fun x hx => (List.mem_replicate.1 hx).2)).1
  simpa using this
theorem ge_right {many c : Int} {n : Nat} (n1 : 1 ≤ n) (n6 : n ≤ 6) (m0 : 0 ≤ many) (m1 : many ≤ 10000) (c0 : 1 ≤ c) (c1 : c ≤ 1000) : splitE many (List.replicate n c) = 0 := by
  have hf : few (List.replicate n c) 1000 = 0 := few_0.2 ⟨by simp; omega, by simp; omega, fun x hx => by rw [(List.mem_replicate.1 hx).2]; omega⟩
  have ht : tot (List.replicate n c) ≠ 0 := by
    rw [ge_tot]
    have : 1 * 1 ≤ (n : Int) * c := Int.mul_le_mul (by omega) c0 (by decide) (by omega)
    omega
  rw [splitE, if_pos (idxE_0.2 ⟨hf, ht⟩), if_neg (by omega)]
theorem ge_at {many c : Int} {n i : Nat} (hm : 0 ≤ many) (hc : 1 ≤ c) (hn : 1 ≤ n) (hi : i < n) : (splitS many (List.replicate n c)).getD i 0 = many / n + if (i : Int) < many % n then 1 else 0 := by
  unfold splitS
  rw [if_neg (by omega)]
  exact split_even hc hn hi
theorem rep_snoc (n : Nat) (c : Int) : (List.replicate (n + 1) c).map (Value.int .i64) = (List.replicate n c).map (Value.int .i64) ++ [.int .i64 c] := by
  rw [List.replicate_succ', List.map_append]; rfl

set_option maxRecDepth 100000 in
set_option maxHeartbeats 8000000 in
theorem giveEven_walk (hS : GSplitSaid) (many parts weight : Int) (w : World) (hg : w.cell? ⟨0, 0, none⟩ = some handleV) :
    Calls Tryd.prog 4 #[.int .i64 many, .int .i64 parts, .int .i64 weight] w fun e w' => e = .returned (.bool true) ∧ Below w.heap.size w w' := by
  by_cases hbad : parts < 1 ∨ 6 < parts ∨ many < 0 ∨ 10000 < many ∨ weight < 1 ∨ 1000 < weight
  · have HF : Hid (∀ u : World, Calls Tryd.prog 7 #[.int .i64 1, .slice (some ⟨u.heap.size, 0, none⟩) 1 1] (u.alloc (.cells #[.int .i64 0] 3)) fun e w' => ∃ y, e = .returned (.tuple #[y, .iface 39 (.int .i64 5)]) ∧ IntsAt (fun b => u.heap.size + 1 ≤ b) w' y [] ∧ Below (u.heap.size + 1) (u.alloc (.cells #[.int .i64 0] 3)) w') := fun u => by
      have := hS (fun _ => True) 1 [0] _ _ (ge_one u 0 3)
      rw [ge_fact, okL_ne (by decide), errV_ne (show (5 : Int) ≠ 0 by decide)] at this
      simpa using this
    have HE5 : Hid (∀ u : World, Below w.heap.size w u → Calls Tryd.prog 8 #[.iface 39 (.int .i64 5), .int .i64 5] u fun e w' => e = .returned (.bool true) ∧ Below u.heap.size u w') := fun u hu => by
      have := Error_any 5 5 u (cell_later hu hg)
      rw [beq_self_eq_true] at this
      exact this
    have hor : parts < 1 ∨ (¬ parts < 1 ∧ 6 < parts) ∨ (¬ parts < 1 ∧ ¬ 6 < parts ∧ many < 0) ∨ (¬ parts < 1 ∧ ¬ 6 < parts ∧ ¬ many < 0 ∧ 10000 < many) ∨ (¬ parts < 1 ∧ ¬ 6 < parts ∧ ¬ many < 0 ∧ ¬ 10000 < many ∧ weight < 1) ∨ (¬ parts < 1 ∧ ¬ 6 < parts ∧ ¬ many < 0 ∧ ¬ 10000 < many ∧ ¬ weight < 1 ∧ 1000 < weight) := by omega
    clear hbad hg
    rcases hor with h1 | ⟨h1, h2⟩ | ⟨h1, h2, h3⟩ | ⟨h1, h2, h3, h4⟩ | ⟨h1, h2, h3, h4, h5⟩ | ⟨h1, h2, h3, h4, h5, h6⟩
    all_goals
      go_enter Tryd.func4, Tryd.ntmps4
      go_wp2_with fail
      refine (HF.out w).mono ?_
      rintro e w1 ⟨y, rfl, hy, hw1⟩
      have B1 : Hid (Below w.heap.size w w1) := ((Below.refl _ _).alloc (Nat.le_refl _) _).trans (hw1.mono (by omega))
      obtain ⟨ay, cy, rfl, _⟩ := hy
      clear hw1
      go_wp2_with fail
      refine (HE5.out _ B1.out).mono ?_
      rintro e w2 ⟨rfl, hw2⟩
      have B2 : Hid (Below w.heap.size w w2) := B1.out.trans (hw2.mono B1.out.size)
      clear hw2
      go_wp2
      go_ret
      exact ⟨Ns.ret_bool rfl, B2.out⟩
  · obtain ⟨n, rfl⟩ : ∃ n : Nat, parts = (n : Int) := ⟨parts.toNat, by omega⟩
    have n1 : 1 ≤ n := by omega
    have n6 : n ≤ 6 := by omega
    have m0 : 0 ≤ many := by omega
    have m1 : many ≤ 10000 := by omega
    have c0 : 1 ≤ weight := by omega
    have c1 : weight ≤ 1000 := by omega
    have HS : Hid (∀ (R : Nat → Prop) (y : Value) (u : World), IntsAt R u y (List.replicate n weight) → Calls Tryd.prog 7 #[.int .i64 many, y] u fun e w' => ∃ z, e = .returned (.tuple #[z, .nilIface]) ∧ IntsAt (fun b => u.heap.size ≤ b) w' z (splitS many (List.replicate n weight)) ∧ Below u.heap.size u w') := fun R y u hy => by
      have := hS R many (List.replicate n weight) y u hy
      rw [ge_right n1 n6 m0 m1 c0 c1, errV_0, okL_0] at this
      exact this
    have HA : Hid (∀ i, i < n → (splitS many (List.replicate n weight)).getD i 0 = many / n + if (i : Int) < many % n then 1 else 0) := fun i hi => ge_at m0 c0 n1 hi
    have HL : Hid ((splitS many (List.replicate n weight)).length = n) := by show _ = _; rw [splitS_length]; simp
    generalize splitS many (List.replicate n weight) = x at *
    have z1 : many.tdiv (n : Int) = many / n := Int.tdiv_eq_ediv_of_nonneg m0
    have z2 : many.tmod (n : Int) = many % n := Int.tmod_eq_emod_of_nonneg m0
    have z3 : 0 ≤ many / (n : Int) := Int.ediv_nonneg m0 (by omega)
    have z4 : many / (n : Int) ≤ 10000 := Int.le_trans (Int.ediv_le_self _ m0) m1
    have z5 : 0 ≤ many % (n : Int) := Int.emod_nonneg _ (by omega)
    have z6 : many % (n : Int) < n := Int.emod_lt_of_pos _ (by omega)
    have z7 : IntKind.i64.wrap (many / (n : Int)) = many / n := by rw [IntKind.wrap_i64]; omega
    have z8 : IntKind.i64.wrap (many % (n : Int)) = many % n := by rw [IntKind.wrap_i64]; omega
    have ht0 : ¬ (n : Int) = 0 := by omega
    generalize many / (n : Int) = q at *
    generalize many % (n : Int) = r at *
    obtain ⟨k0, hKI, hx0, hx1, hx2⟩ := info_parts infoInt
    clear hbad hg
    go_enter Tryd.func4, Tryd.ntmps4
    go_wp2
    go_loopw [9, 10] (fun s9 s10 wr => ∃ k : Nat, k ≤ n ∧ s10 = .int .i64 k ∧ Hid (wr.ownsRow w.heap.size 3 1 s9 k ((List.replicate k weight).map (Value.int .i64))) ∧ Hid (Below w.heap.size w wr)) (fun _ s10 _ => n - (intOf s10).toNat)
    case atStart => exact ⟨0, by omega, rfl, World.ownsRow_nil _ _ _ _, Below.refl _ _⟩
    case round =>
      obtain ⟨k, hk, rfl, ho, hbl⟩ := hrel
      obtain ⟨a9, c9, rfl⟩ := own_slice ho.out
      by_cases hlt : k < n
      · have HSn : Hid ((List.replicate (k + 1) weight).map (Value.int .i64) = (List.replicate k weight).map (Value.int .i64) ++ [.int .i64 weight]) := rep_snoc _ _
        have HON : Hid (wr.ownsRow w.heap.size 3 1 (.slice a9 k c9) k ((List.replicate k weight).map (Value.int .i64))) := ho
        have hsz : w.heap.size ≤ wr.heap.size := hbl.out.size
        clear ho
        generalize (List.replicate k weight).map (Value.int .i64) = ys at *
        go_wp2_with (at_builtin; go_must (refine wpList_append_own _ rfl _ _ 22 rfl w.heap.size 3 k0 (.int .i64 0) 1 8 Tryd.underlying22 hKI hx0 hx1 hx2 rfl (by decide) _ _ _ rfl (HON.out.alloc _) ⟨_, 0, none⟩ 1 1 [.int .i64 weight] rfl rfl (new1 _ _ _ _ ?c1) (by intro u hu; simp at hu; subst hu; rfl) (by unfold maxLen; omega) (by omega) ?c2 ?_))
        case c1 => simp
        case c2 => simp; omega
        intro v' wg hown hgrow _
        have HO2 : Hid (wg.ownsRow w.heap.size 3 1 v' (k + 1) ((List.replicate (k + 1) weight).map (Value.int .i64))) := by rw [HSn.out]; simpa [Hid] using hown
        have HB2 : Hid (Below w.heap.size w wg) := hbl.out.trans (grew1 hsz hgrow (fun k hk => (HON.out.lt k hk).1))
        clear hown hgrow
        go_wp2
        go_roundw
        case rel => exact ⟨k + 1, by omega, by go_num, HO2, HB2⟩
        case measure => simp [intOf]; omega
      · obtain rfl : k = n := by omega
        have HI : Hid (IntsAt (fun b => w.heap.size ≤ b) wr (.slice a9 k c9) (List.replicate k weight)) := ints_of_owns (by simp; omega) (by simpa using ho.out) (fun g hg => hg)
        have HS1 : Hid (Calls Tryd.prog 7 #[.int .i64 many, .slice a9 k c9] wr fun e w' => ∃ z, e = .returned (.tuple #[z, .nilIface]) ∧ IntsAt (fun b => wr.heap.size ≤ b) w' z x ∧ Below wr.heap.size wr w') := HS.out _ _ wr HI.out
        clear ho HI
        go_wp2_with fail
        refine HS1.out.mono ?_
        rintro e w1 ⟨z, rfl, hz, hw1⟩
        have B1 : Hid (Below w.heap.size w w1) := hbl.out.trans (hw1.mono hbl.out.size)
        have HZ : Hid (IntsAt (fun b => wr.heap.size ≤ b) w1 z x) := hz
        obtain ⟨az, cz, rfl, _⟩ := hz
        have HC : Hid (∀ i, i < k → ∃ b off, az = some ⟨b, off, none⟩ ∧ ∀ u, Below w1.heap.size w1 u → u.cell? ⟨b, off + i, none⟩ = some (.int .i64 (x.getD i 0))) := fun i hi => ints_cells HZ.out i (by rw [HL.out]; exact hi)
        rw [HL.out]
        clear hw1
        go_wp2
        go_loopw [13, 14] (fun s13 _ wr => ∃ i : Nat, i ≤ k ∧ s13 = .int .i64 i ∧ Hid (wr = w1)) (fun s13 _ _ => k - (intOf s13).toNat)
        case atStart => exact ⟨0, by omega, rfl, rfl⟩
        case round =>
          obtain ⟨i, hi, rfl, hw⟩ := hrel
          by_cases hlt : i < k
          · obtain ⟨b, off, rfl, hc⟩ := HC.out i hlt
            have c0 : wr.cell? ⟨b, off + i, none⟩ = some (.int .i64 (x.getD i 0)) := by rw [hw.out]; exact hc _ (Below.refl _ _)
            rw [HA.out i hlt] at c0
            clear hc
            by_cases hr : (i : Int) < r
            · rw [if_pos hr] at c0
              go_wp2
              go_roundw
              case rel => exact ⟨i + 1, by omega, by go_num, hw⟩
              case measure => simp [intOf]; omega
            · rw [if_neg hr, Int.add_zero] at c0
              go_wp2
              go_roundw
              case rel => exact ⟨i + 1, by omega, by go_num, hw⟩
              case measure => simp [intOf]; omega
          · have BF : Hid (Below w.heap.size w wr) := by rw [hw.out]; exact B1
            go_wp2
            go_ret
            exact ⟨Ns.ret_bool rfl, BF.out⟩
end Ev
end Go.Proofs.YtdlckfffpdjbcahDoor
