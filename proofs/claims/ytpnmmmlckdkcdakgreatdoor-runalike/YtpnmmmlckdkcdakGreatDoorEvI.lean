/- Package even's Index does what is asked of it. -/
import Derived.Test.YtpnmmmlckdkcdakGreatDoorEvA
import Derived.Test.YtpnmmmlckdkcdakGreatDoorPlains
import Derived.Test.YtpnmmmlckdkcdakGreatDoorFracAll
namespace Go.Proofs.YtpnmmmlckdkcdakGreatDoor
namespace Ev
open Go.RowKit Fr Ns Ld Fl
set_option linter.unusedSimpArgs false
set_option linter.unusedVariables false

theorem enot_tells : TellsI 144 (fun x => !(x == 0)) := by
  refine ⟨enters Tryz.func144 (by kernel_rfl) (by kernel_rfl), fun x w => ?_⟩
  go_enter Tryz.func144, Tryz.ntmps144
  go_wp2
  go_ret
  exact ⟨rfl, 0, rfl⟩
theorem any_tot : ∀ {l : List Int}, (∀ x ∈ l, 0 ≤ x) → (l.any (fun x => !(x == 0)) = true ↔ tot l ≠ 0) := by
  intro l h
  have ht : 0 ≤ tot l := (square_all h).2
  induction l with
  | nil => simp [tot]
  | cons x r ih =>
    have h1 := h x (by simp)
    have hr : ∀ y ∈ r, 0 ≤ y := fun y hy => h y (by simp [hy])
    have h2 := (square_all hr).2
    have := ih hr h2
    simp only [List.any_cons, tot, Bool.or_eq_true, this]
    by_cases hx : x = 0
    · simp [hx]
    · simp [hx]; omega
theorem idx_of {l : List Int} (h : idxE l = 0) : mayB (tot l * tot l) (l.length * sqs l) = true := by
  obtain ⟨_, _, _, _, b1, b2, t1, t2⟩ := idx_parts h
  exact mayB_iff.2 (by omega)

set_option maxRecDepth 100000 in
set_option maxHeartbeats 2000000 in
theorem eindex_said : EIndexSaid := by
  intro Q l v w h
  have HK : Hid (∀ u, Below w.heap.size w u → Calls Tryz.prog 143 #[v] u fun e w' => e = .returned (errV (few l 1000)) ∧ Below u.heap.size u w') := fun u hu => drawn (echeck_any l v u (h.later hu))
  by_cases hk : few l 1000 = 0
  · obtain ⟨n1, n6, hb⟩ := few_0.1 hk
    have HC : Hid (∀ u, Below w.heap.size w u → Calls Tryz.prog 34 #[v, .func (.func 144) #[] #[]] u fun e w' => e = .returned (.bool (l.any (fun x => !(x == 0)))) ∧ Below u.heap.size u w') := fun u hu => drawn (ContainsFuncI enot_tells l v u (h.later hu))
    rw [hk, errV_0] at HK
    by_cases ht : tot l = 0
    · have hE : idxE l = 5 := by rw [idxE, if_pos hk, if_pos ht]
      have ha : l.any (fun x => !(x == 0)) = false := by
        cases hx : l.any (fun x => !(x == 0)) with
        | false => rfl
        | true => exact absurd ht ((any_tot fun x hx => (hb x hx).1).1 hx)
      rw [ha] at HC
      have HR : Hid (Value.tuple #[.agg #[.int .i64 (okF (idxE l) (idx l)).1, .int .i64 (okF (idxE l) (idx l)).2], errV (idxE l)] = .tuple #[.agg #[.int .i64 0, .int .i64 0], .iface 65 (.int .i64 5)]) := by
        show _ = _
        rw [hE, okF_ne (by decide), errV_ne (by decide)]
      rw [HR.out]
      obtain ⟨a, cap, rfl, ⟨hm, hm2⟩, _⟩ := h
      clear hk hb ht ha hE
      go_enter Tryz.func115, Tryz.ntmps115
      go_wp2_with fail
      refine (HK.out _ ((Below.refl _ _).alloc (Nat.le_refl _) _)).mono ?_
      rintro e w1 ⟨rfl, hw1⟩
      obtain ⟨hc1, hf1⟩ := bcell hw1
      have hz1 : w.heap.size < w1.heap.size := by have := hw1.size; simp at this; omega
      have B1 : Hid (Below w.heap.size w w1) := ((Below.refl _ _).alloc (Nat.le_refl _) _).trans (hw1.mono (by simp))
      have r0 : w1.cell? ⟨w.heap.size, 0, none⟩ = some (.int .i64 0) := cell_later hw1 (by simp)
      have r1 : w1.cell? ⟨w.heap.size, 1, none⟩ = some (.int .i64 0) := cell_later hw1 (by simp)
      have f0 : w1.frozen? ⟨w.heap.size, 0, none⟩ = false := by rw [hf1 _ _ (by simp)]; simp
      have f1 : w1.frozen? ⟨w.heap.size, 1, none⟩ = false := by rw [hf1 _ _ (by simp)]; simp
      clear hw1 hc1 hf1
      go_wp2_with fail
      refine (HC.out _ B1.out).mono ?_
      rintro e w2 ⟨rfl, hw2⟩
      have B2 : Hid (Below w.heap.size w w2) := B1.out.trans (hw2.mono B1.out.size)
      have hz2 : w.heap.size < w2.heap.size := Nat.lt_of_lt_of_le hz1 hw2.size
      obtain ⟨hc2, hf2⟩ := bcell hw2
      have s0 : w2.cell? ⟨w.heap.size, 0, none⟩ = some (.int .i64 0) := by rw [hc2 _ _ hz1]; exact r0
      have s1 : w2.cell? ⟨w.heap.size, 1, none⟩ = some (.int .i64 0) := by rw [hc2 _ _ hz1]; exact r1
      have g0 : w2.frozen? ⟨w.heap.size, 0, none⟩ = false := by rw [hf2 _ _ hz1]; exact f0
      have g1 : w2.frozen? ⟨w.heap.size, 1, none⟩ = false := by rw [hf2 _ _ hz1]; exact f1
      clear hw2 hc2 hf2 r0 r1 f0 f1
      go_wp2
      refine bodyPost_ret (v := .tuple #[.agg #[.int .i64 0, .int .i64 0], .iface 65 (.int .i64 5)]) (by simp [results, Tryz.results115, go_sem, s0, s1, g0, g1, hz2]) rfl ⟨rfl, ?_⟩
      repeat (first | exact B2.out | refine Below.setCell ?_ (by simp) _ | refine Below.alloc ?_ (by simp) _ | refine Below.drew ?_ | refine below_drewN ?_ _)
    · have hE : idxE l = 0 := idxE_0.2 ⟨hk, ht⟩
      have ha : l.any (fun x => !(x == 0)) = true := (any_tot fun x hx => (hb x hx).1).2 ht
      rw [ha] at HC
      obtain ⟨t1, t2, s1, s2, b1, b2, b3, b4⟩ := idx_parts hE
      have HOf : Hid (∀ u, Calls Tryz.prog 145 #[.int .i64 (tot l * tot l), .int .i64 (l.length * sqs l)] u fun e w' => e = .returned (.tuple #[.agg #[.int .i64 (idx l).1, .int .i64 (idx l).2], .nilIface]) ∧ Below u.heap.size u w') := fun u => by
        have := Of_any (tot l * tot l) (l.length * sqs l) u
        rw [ofT, ofB, ofE, if_pos (idx_of hE), if_pos (idx_of hE), if_pos (idx_of hE)] at this
        exact this
      rw [hE, okF_0, errV_0]
      have HT : Hid (∀ k, k < l.length → tot (l.take (k + 1)) = tot (l.take k) + l.getD k 0 ∧ sqs (l.take (k + 1)) = sqs (l.take k) + l.getD k 0 * l.getD k 0) := fun k hk => ⟨tot_step l k hk, sqs_step l k hk⟩
      have HTb : Hid (∀ k, k ≤ l.length → 0 ≤ tot (l.take k) ∧ tot (l.take k) ≤ 6000 ∧ 0 ≤ sqs (l.take k) ∧ sqs (l.take k) ≤ 6000000) := fun k hk => by
        have hb' : ∀ x ∈ l.take k, 0 ≤ x ∧ x ≤ 1000 := fun x hx => hb x (List.mem_of_mem_take hx)
        have h1 := tot_bd hb'
        have h2 := sqs_bd hb'
        have h3 : (l.take k).length ≤ 6 := by rw [List.length_take]; omega
        omega
      have HXb : Hid (∀ k, k < l.length → 0 ≤ l.getD k 0 ∧ l.getD k 0 ≤ 1000 ∧ 0 ≤ l.getD k 0 * l.getD k 0 ∧ l.getD k 0 * l.getD k 0 ≤ 1000000) := fun k hk => by
        have h1 := hb _ (getD_mem l k hk 0)
        have h2 := sq_nonneg (l.getD k 0)
        have h3 : l.getD k 0 * l.getD k 0 ≤ 1000 * 1000 := Int.mul_le_mul h1.2 h1.2 h1.1 (by omega)
        exact ⟨h1.1, h1.2, h2, by omega⟩
      have HA : Hid (∀ k, l.length ≤ k → tot (l.take k) = tot l ∧ sqs (l.take k) = sqs l) := fun k hk => by rw [List.take_of_length_le hk]; exact ⟨rfl, rfl⟩
      obtain ⟨a, cap, rfl, ⟨hm, hm2⟩, h⟩ := h
      obtain ⟨b, off, rfl, hC⟩ : ∃ b off, a = some ⟨b, off, none⟩ ∧ ∀ i, i < l.length → w.cell? ⟨b, off + i, none⟩ = some (.int .i64 (l.getD i 0)) := by
        rcases h with h | ⟨b, off, rfl, h, _⟩
        · rw [h] at n1; simp at n1
        · exact ⟨b, off, rfl, h⟩
      have HL : Hid (∀ u, Below w.heap.size w u → ∀ i, i < l.length → u.cell? ⟨b, off + i, none⟩ = some (.int .i64 (l.getD i 0))) := fun u hu i hi => cell_later hu (hC i hi)
      have Hn : Hid (0 < l.length) := n1
      clear hk hb ht ha hE h hC n1
      generalize tot l = T at *
      generalize sqs l = S at *
      generalize idx l = I at *
      go_enter Tryz.func115, Tryz.ntmps115
      go_wp2_with fail
      refine (HK.out _ ((Below.refl _ _).alloc (Nat.le_refl _) _)).mono ?_
      rintro e w1 ⟨rfl, hw1⟩
      obtain ⟨hc1, hf1⟩ := bcell hw1
      have hz1 : w.heap.size < w1.heap.size := by have := hw1.size; simp at this; omega
      have B1 : Hid (Below w.heap.size w w1) := ((Below.refl _ _).alloc (Nat.le_refl _) _).trans (hw1.mono (by simp))
      have r0 : w1.cell? ⟨w.heap.size, 0, none⟩ = some (.int .i64 0) := cell_later hw1 (by simp)
      have r1 : w1.cell? ⟨w.heap.size, 1, none⟩ = some (.int .i64 0) := cell_later hw1 (by simp)
      have f0 : w1.frozen? ⟨w.heap.size, 0, none⟩ = false := by rw [hf1 _ _ (by simp)]; simp
      have f1 : w1.frozen? ⟨w.heap.size, 1, none⟩ = false := by rw [hf1 _ _ (by simp)]; simp
      clear hw1 hc1 hf1
      go_wp2_with fail
      refine (HC.out _ B1.out).mono ?_
      rintro e w2 ⟨rfl, hw2⟩
      have B2 : Hid (Below w.heap.size w w2) := B1.out.trans (hw2.mono B1.out.size)
      have hz2 : w.heap.size < w2.heap.size := Nat.lt_of_lt_of_le hz1 hw2.size
      obtain ⟨hc2, hf2⟩ := bcell hw2
      have s0 : w2.cell? ⟨w.heap.size, 0, none⟩ = some (.int .i64 0) := by rw [hc2 _ _ hz1]; exact r0
      have s1 : w2.cell? ⟨w.heap.size, 1, none⟩ = some (.int .i64 0) := by rw [hc2 _ _ hz1]; exact r1
      have g0 : w2.frozen? ⟨w.heap.size, 0, none⟩ = false := by rw [hf2 _ _ hz1]; exact f0
      have g1 : w2.frozen? ⟨w.heap.size, 1, none⟩ = false := by rw [hf2 _ _ hz1]; exact f1
      clear hw2 hc2 hf2 r0 r1 f0 f1
      go_wp2
      go_loop [5, 6, 8, 22] (fun s5 s6 _ i => ∃ k : Nat, k ≤ l.length ∧ i = .int .i64 k ∧ s5 = .int .i64 (tot (l.take k)) ∧ s6 = .int .i64 (sqs (l.take k))) (fun _ _ _ i => l.length - (intOf i).toNat)
      case atStart => exact ⟨0, by omega, rfl, rfl, rfl⟩
      case round =>
        obtain ⟨k, hk, rfl, rfl, rfl⟩ := hrel
        by_cases hlt : k < l.length
        · have c0 := HL.out w2 B2.out k hlt
          have b0 := HTb.out k hk
          have b5 := HXb.out k hlt
          have hs : Hid (tot (l.take (k + 1)) = tot (l.take k) + l.getD k 0 ∧ sqs (l.take (k + 1)) = sqs (l.take k) + l.getD k 0 * l.getD k 0) := HT.out k hlt
          generalize tot (l.take k) = tk at *
          generalize sqs (l.take k) = sk at *
          generalize l.getD k 0 = y at *
          obtain ⟨p1, p2, p3, p4⟩ := b0
          obtain ⟨p5, p6, p7, p8⟩ := b5
          go_wp2
          go_round
          case rel => exact ⟨k + 1, by omega, by go_num, by rw [hs.out.1], by rw [hs.out.2]⟩
          case measure => simp [intOf]; omega
        · obtain ⟨e1, e2⟩ := HA.out k (by omega)
          rw [e1, e2]
          clear e1 e2
          go_wp2_with fail
          refine (HOf.out _).mono ?_
          rintro e w3 ⟨rfl, hw3⟩
          have B3 : Hid (Below w.heap.size w w3) := B2.out.trans (hw3.mono B2.out.size)
          have hz3 : w.heap.size < w3.heap.size := Nat.lt_of_lt_of_le hz2 hw3.size
          obtain ⟨hc3, hf3⟩ := bcell hw3
          have t0 : w3.cell? ⟨w.heap.size, 0, none⟩ = some (.int .i64 0) := by rw [hc3 _ _ hz2]; exact s0
          have t1 : w3.cell? ⟨w.heap.size, 1, none⟩ = some (.int .i64 0) := by rw [hc3 _ _ hz2]; exact s1
          have h0 : w3.frozen? ⟨w.heap.size, 0, none⟩ = false := by rw [hf3 _ _ hz2]; exact g0
          have h1 : w3.frozen? ⟨w.heap.size, 1, none⟩ = false := by rw [hf3 _ _ hz2]; exact g1
          clear hw3 hc3 hf3
          go_wp2
          refine bodyPost_ret (v := .tuple #[.agg #[.int .i64 I.1, .int .i64 I.2], .nilIface]) (by simp [results, Tryz.results115, go_sem, t0, t1, h0, h1, hz3]) rfl ⟨rfl, ?_⟩
          repeat (first | exact B3.out | refine Below.setCell ?_ (by simp) _ | refine Below.alloc ?_ (by simp) _ | refine Below.drew ?_ | refine below_drewN ?_ _)
  · have HV : Hid (errV (few l 1000) = .iface 65 (.int .i64 (few l 1000))) := errV_ne hk
    have HR : Hid (Value.tuple #[.agg #[.int .i64 (okF (idxE l) (idx l)).1, .int .i64 (okF (idxE l) (idx l)).2], errV (idxE l)] = .tuple #[.agg #[.int .i64 0, .int .i64 0], .iface 65 (.int .i64 (few l 1000))]) := by
      show _ = _
      rw [idxE, if_neg hk, okF_ne hk, HV.out]
    rw [HR.out]
    rw [HV.out] at HK
    generalize few l 1000 = ek at *
    clear hk
    obtain ⟨a, cap, rfl, ⟨hm, hm2⟩, _⟩ := h
    go_enter Tryz.func115, Tryz.ntmps115
    go_wp2_with fail
    refine (HK.out _ ((Below.refl _ _).alloc (Nat.le_refl _) _)).mono ?_
    rintro e w1 ⟨rfl, hw1⟩
    obtain ⟨hc1, hf1⟩ := bcell hw1
    have hz1 : w.heap.size < w1.heap.size := by have := hw1.size; simp at this; omega
    have B1 : Hid (Below w.heap.size w w1) := ((Below.refl _ _).alloc (Nat.le_refl _) _).trans (hw1.mono (by simp))
    have r0 : w1.cell? ⟨w.heap.size, 0, none⟩ = some (.int .i64 0) := cell_later hw1 (by simp)
    have r1 : w1.cell? ⟨w.heap.size, 1, none⟩ = some (.int .i64 0) := cell_later hw1 (by simp)
    have f0 : w1.frozen? ⟨w.heap.size, 0, none⟩ = false := by rw [hf1 _ _ (by simp)]; simp
    have f1 : w1.frozen? ⟨w.heap.size, 1, none⟩ = false := by rw [hf1 _ _ (by simp)]; simp
    clear hw1 hc1 hf1
    go_wp2
    refine bodyPost_ret (v := .tuple #[.agg #[.int .i64 0, .int .i64 0], .iface 65 (.int .i64 ek)]) (by simp [results, Tryz.results115, go_sem, r0, r1, f0, f1, hz1]) rfl ⟨rfl, ?_⟩
    repeat (first | exact B1.out | refine Below.setCell ?_ (by simp) _ | refine Below.alloc ?_ (by simp) _ | refine Below.drew ?_ | refine below_drewN ?_ _)
end Ev
end Go.Proofs.YtpnmmmlckdkcdakGreatDoor
