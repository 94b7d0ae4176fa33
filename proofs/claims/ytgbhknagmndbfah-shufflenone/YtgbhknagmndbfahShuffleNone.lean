/- The law ShuffleNone returns true for every input, from what is asked of package shuffle's calls: of no part nothing goes, of all all are alike, or one apart. -/
import Derived.Test.YtgbhknagmndbfahPlains
import Derived.Test.YtgbhknagmndbfahSameI
import Derived.BigQuiet
namespace Go.Proofs.Ytgbhknagmndbfah
namespace Ev
open Go.RowKit Fr Ns Ld Fl
set_option linter.unusedSimpArgs false
set_option linter.unusedVariables false

theorem shufE_few (l : List Int) : shufE l 0 = few l 10000 ∧ shufE l 1000 = few l 10000 := by
  unfold shufE
  constructor
  · split
    · rw [if_neg (by omega)]; exact (Eq.symm (by assumption))
    · rfl
  · split
    · rw [if_neg (by omega)]; exact (Eq.symm (by assumption))
    · rfl

set_option maxRecDepth 100000 in
set_option maxHeartbeats 8000000 in
theorem shuffleNone_walk (hS : SStepSaid) (hT : STakenSaid) (l : List Int) (v : Value) (w : World) (hv : IntsAt (fun b => b < w.heap.size) w v l) :
    Calls Try.prog 4 #[v] w fun e w' => e = .returned (.bool true) ∧ Below w.heap.size w w' := by
  have H0 : Hid (∀ u : World, Below w.heap.size w u → Calls Try.prog 7 #[v, .int .i64 0] u fun e w' => ∃ y, e = .returned (.tuple #[y, errV (few l 10000)]) ∧ IntsAt (fun b => u.heap.size ≤ b) w' y (okL (few l 10000) (shufL l 0)) ∧ Below u.heap.size u w') := fun u hu => by
    have := hS _ l 0 v u (hv.later hu)
    rwa [(shufE_few l).1] at this
  have H1 : Hid (∀ u : World, Below w.heap.size w u → Calls Try.prog 7 #[v, .int .i64 1000] u fun e w' => ∃ y, e = .returned (.tuple #[y, errV (few l 10000)]) ∧ IntsAt (fun b => u.heap.size ≤ b) w' y (okL (few l 10000) (shufL l 1000)) ∧ Below u.heap.size u w') := fun u hu => by
    have := hS _ l 1000 v u (hv.later hu)
    rwa [(shufE_few l).2] at this
  have H2 : Hid (∀ u : World, Below w.heap.size w u → Calls Try.prog 8 #[v, .int .i64 1000] u fun e w' => e = .returned (.tuple #[.int .i64 (okI (few l 10000) (allS l 1000)), errV (few l 10000)]) ∧ Below u.heap.size u w') := fun u hu => by
    have := hT _ l 1000 v u (hv.later hu)
    rwa [(shufE_few l).2] at this
  by_cases hE : few l 10000 = 0
  · obtain ⟨n1, n6, hb⟩ := few_0.1 hE
    rw [hE, errV_0, okL_0, (shuf_none n1).1] at H0
    rw [hE, errV_0, okL_0] at H1
    rw [hE, errV_0, okI_0, (shuf_all n1).1] at H2
    have Hal : Hid (∀ i, i < l.length → (shufL l 1000).getD i 0 = tot l / l.length ∨ (shufL l 1000).getD i 0 = tot l / l.length + 1) := (shuf_all n1).2
    have Hyl : Hid ((shufL l 1000).length = l.length) := shufL_length _ _
    have HTk : Hid (∀ k, k ≤ l.length → 0 ≤ tot (l.take k) ∧ tot (l.take k) ≤ 60000) := fun k hk => by
      have := tot_bd (l := l.take k) (M := 10000) (fun x hx => hb x (List.mem_of_mem_take hx))
      refine ⟨this.1, Int.le_trans this.2 ?_⟩
      have : ((l.take k).length : Int) ≤ 6 := by simp; omega
      omega
    have Hx : Hid (∀ i, i < l.length → 0 ≤ l.getD i 0 ∧ l.getD i 0 ≤ 10000) := fun i hi => hb _ (getD_mem l i hi 0)
    have HTs : Hid (∀ k, k < l.length → tot (l.take (k + 1)) = tot (l.take k) + l.getD k 0) := fun k hk => tot_step l k hk
    have HTa : Hid (tot (l.take l.length) = tot l) := by show _ = _; rw [List.take_length]
    obtain ⟨T0, T1⟩ : 0 ≤ tot l ∧ tot l ≤ 60000 := by have := HTk.out l.length (Nat.le_refl _); rwa [HTa.out] at this
    generalize shufL l 1000 = y at *
    have Hv : Hid (IntsAt (fun b => b < w.heap.size) w v l) := hv
    obtain ⟨a, cap, rfl, ⟨hm1, hm2⟩, _⟩ := id hv
    have HC : Hid (∀ i, i < l.length → ∃ b off, a = some ⟨b, off, none⟩ ∧ ∀ u, Below w.heap.size w u → u.cell? ⟨b, off + i, none⟩ = some (.int .i64 (l.getD i 0))) := ints_cells hv
    have z1 : (tot l).tdiv (l.length : Int) = tot l / l.length := Int.tdiv_eq_ediv_of_nonneg T0
    have z3 : 0 ≤ tot l / (l.length : Int) := Int.ediv_nonneg T0 (by omega)
    have z4 : tot l / (l.length : Int) ≤ 60000 := Int.le_trans (Int.ediv_le_self _ T0) T1
    have z7 : IntKind.i64.wrap (tot l / (l.length : Int)) = tot l / l.length := by rw [IntKind.wrap_i64]; omega
    have z8 : IntKind.i64.wrap (tot l / (l.length : Int) + 1) = tot l / l.length + 1 := by rw [IntKind.wrap_i64]; omega
    have ht0 : ¬ (l.length : Int) = 0 := by omega
    clear hv hE hb
    go_enter Try.func4, Try.ntmps4
    go_wp2_with fail
    refine (H0.out _ (Below.refl _ _)).mono ?_
    rintro e w1 ⟨y1, rfl, hy1, hw1⟩
    have B1 : Hid (Below w.heap.size w w1) := hw1
    have HY1 : Hid (IntsAt (fun b => w.heap.size ≤ b) w1 y1 l) := hy1
    obtain ⟨a1, c1, rfl, _⟩ := hy1
    clear hw1
    go_wp2_with fail
    refine (H1.out _ B1.out).mono ?_
    rintro e w2 ⟨y2, rfl, hy2, hw2⟩
    have B2 : Hid (Below w.heap.size w w2) := B1.out.trans (hw2.mono B1.out.size)
    have HY1' : Hid (IntsAt (fun b => w.heap.size ≤ b) w2 (.slice a1 l.length c1) l) := HY1.out.later hw2
    have HY2 : Hid (IntsAt (fun b => w1.heap.size ≤ b) w2 y2 y) := hy2
    obtain ⟨a2, c2, rfl, _⟩ := hy2
    clear hw2
    rw [Hyl.out]
    go_wp2_with fail
    refine (H2.out _ B2.out).mono ?_
    rintro e w3 ⟨rfl, hw3⟩
    have B3 : Hid (Below w.heap.size w w3) := B2.out.trans (hw3.mono B2.out.size)
    have HY1'' : Hid (IntsAt (fun b => w.heap.size ≤ b) w3 (.slice a1 l.length c1) l) := HY1'.out.later hw3
    have HY2' : Hid (IntsAt (fun b => w1.heap.size ≤ b) w3 (.slice a2 y.length c2) y) := HY2.out.later hw3
    rw [Hyl.out] at HY2'
    have HC2 : Hid (∀ i, i < l.length → ∃ b off, a2 = some ⟨b, off, none⟩ ∧ ∀ u, Below w3.heap.size w3 u → u.cell? ⟨b, off + i, none⟩ = some (.int .i64 (y.getD i 0))) := fun i hi => ints_cells HY2'.out i (by rw [Hyl.out]; exact hi)
    clear hw3 HY1 HY1' HY2
    go_wp2
    go_loopw [9, 10] (fun s9 s10 wr => ∃ k : Nat, k ≤ l.length ∧ s10 = .int .i64 k ∧ s9 = .int .i64 (tot (l.take k)) ∧ Hid (wr = w3)) (fun _ s10 _ => l.length - (intOf s10).toNat)
    case atStart => exact ⟨0, by omega, rfl, rfl, rfl⟩
    case round =>
      obtain ⟨k, hk, rfl, rfl, hw⟩ := hrel
      by_cases hlt : k < l.length
      · obtain ⟨b, off, rfl, hc⟩ := HC.out k hlt
        have c0 : wr.cell? ⟨b, off + k, none⟩ = some (.int .i64 (l.getD k 0)) := by rw [hw.out]; exact hc _ B3.out
        obtain ⟨x0, x1⟩ := Hx.out k hlt
        obtain ⟨l0, l1⟩ := HTk.out k hk
        have HN : Hid (tot (l.take (k + 1)) = tot (l.take k) + l.getD k 0) := HTs.out k hlt
        clear hc
        generalize tot (l.take k) = S at *
        generalize l.getD k 0 = x at *
        go_wp2
        go_roundw
        case rel => exact ⟨k + 1, by omega, by go_num, by rw [HN.out], hw⟩
        case measure => simp [intOf]; omega
      · obtain rfl : k = l.length := by omega
        rw [HTa.out]
        generalize tot l = T at *
        generalize T / (l.length : Int) = q at *
        have HI : Hid (Calls Try.prog 9 #[.slice a1 l.length c1, .slice a l.length cap] wr fun e w' => e = .returned (.bool true) ∧ ∃ n, w' = wr.drewN n) := by
          rw [hw.out]
          have := SInts_any l l _ _ w3 HY1''.out (Hv.out.later B3.out)
          rwa [show eqI l l = true by simp [eqI]] at this
        have B3' : Hid (Below w.heap.size w wr) := by rw [hw.out]; exact B3
        have HC3 : Hid (∀ i, i < l.length → ∃ b off, a2 = some ⟨b, off, none⟩ ∧ ∀ u, Below wr.heap.size wr u → u.cell? ⟨b, off + i, none⟩ = some (.int .i64 (y.getD i 0))) := by rw [hw.out]; exact HC2
        clear hw HC2
        go_wp2_with fail
        refine HI.out.mono ?_
        rintro e w4 ⟨rfl, n, hw4⟩
        have B4 : Hid (Below wr.heap.size wr w4) := by rw [hw4]; exact below_drewN (Below.refl _ _) _
        have B4' : Hid (Below w.heap.size w w4) := B3'.out.trans (B4.out.mono B3'.out.size)
        clear hw4 HI
        obtain ⟨w9, h9⟩ : ∃ w9, w9 = wr := ⟨_, rfl⟩
        rw [← h9] at HC3 B4
        clear h9
        go_wp2
        go_loopw [11] (fun s11 wr => ∃ k : Nat, k ≤ l.length ∧ s11 = .int .i64 k ∧ Hid (Below w9.heap.size w9 wr) ∧ Hid (Below w.heap.size w wr)) (fun s11 _ => l.length - (intOf s11).toNat)
        case atStart => exact ⟨0, by omega, rfl, B4, B4'⟩
        case round =>
          obtain ⟨k, hk, rfl, hb1, hb2⟩ := hrel
          by_cases hlt : k < l.length
          · obtain ⟨b, off, rfl, hc⟩ := HC3.out k hlt
            have c0 := hc _ hb1.out
            have hal := Hal.out k hlt
            clear hc
            generalize y.getD k 0 = yk at *
            rcases hal with hal | hal
            · rw [hal] at c0
              clear hal
              have q1 : (q != q) = false := by simp
              go_wp2_with fail
              go_quiet (fail)
              go_wp2
              go_roundw
              case rel => exact ⟨k + 1, by omega, by go_num, below_drewN hb1.out _, below_drewN hb2.out _⟩
              case measure => simp [intOf]; omega
            · rw [hal] at c0
              clear hal
              have q1 : (q + 1 != q) = true := by simp; omega
              have q2 : (q + 1 != q + 1) = false := by simp
              go_wp2_with fail
              go_quiet (fail)
              go_wp2
              go_roundw
              case rel => exact ⟨k + 1, by omega, by go_num, below_drewN hb1.out _, below_drewN hb2.out _⟩
              case measure => simp [intOf]; omega
          · go_wp2
            go_ret
            exact ⟨Ns.ret_bool rfl, hb2.out⟩
  · have HV : errV (few l 10000) = .iface 39 (.int .i64 (few l 10000)) := errV_ne hE
    rw [HV, okL_ne hE] at H0 H1
    rw [HV, okI_ne hE] at H2
    generalize few l 10000 = ek at *
    obtain ⟨a, cap, rfl, ⟨hm1, hm2⟩, hc⟩ := hv
    clear hc hE HV
    go_enter Try.func4, Try.ntmps4
    go_wp2_with fail
    refine (H0.out _ (Below.refl _ _)).mono ?_
    rintro e w1 ⟨y1, rfl, hy1, hw1⟩
    have B1 : Hid (Below w.heap.size w w1) := hw1
    obtain ⟨a1, c1, rfl, _⟩ := hy1
    clear hw1
    go_wp2_with fail
    refine (H1.out _ B1.out).mono ?_
    rintro e w2 ⟨y2, rfl, hy2, hw2⟩
    have B2 : Hid (Below w.heap.size w w2) := B1.out.trans (hw2.mono B1.out.size)
    obtain ⟨a2, c2, rfl, _⟩ := hy2
    clear hw2
    go_wp2_with fail
    refine (H2.out _ B2.out).mono ?_
    rintro e w3 ⟨rfl, hw3⟩
    have B3 : Hid (Below w.heap.size w w3) := B2.out.trans (hw3.mono B2.out.size)
    clear hw3
    go_wp2
    go_ret
    exact ⟨Ns.ret_bool rfl, B3.out⟩
end Ev
end Go.Proofs.Ytgbhknagmndbfah
