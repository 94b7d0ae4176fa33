/- The document's source (package fairref2): its fault, what it sends, an answer, a loss. -/
import Derived.Test.YtkpmjmgmgkdfnajDoorPlains
namespace Go.Proofs.YtkpmjmgmgkdfnajDoor
namespace Ev
open Go.RowKit Fr Ns Ld Fl
set_option linter.unusedSimpArgs false
set_option linter.unusedVariables false

set_option maxRecDepth 100000 in
set_option maxHeartbeats 2000000 in
theorem RSource_any (a b c d : Int) (w : World) :
    Calls Tryd.prog 13 #[.agg #[.int .i64 a, .int .i64 b, .int .i64 c, .int .i64 d]] w fun e w' => e = .returned (.int .i64 (srcE a b c d)) ∧ Below w.heap.size w w' := by
  have hor : ((a < 1) ∨ (¬ a < 1 ∧ 1000 < a) ∨ (¬ a < 1 ∧ ¬ 1000 < a ∧ b < 0) ∨ (¬ a < 1 ∧ ¬ 1000 < a ∧ ¬ b < 0 ∧ 10000 < b) ∨ (¬ a < 1 ∧ ¬ 1000 < a ∧ ¬ b < 0 ∧ ¬ 10000 < b ∧ c < 0) ∨ (¬ a < 1 ∧ ¬ 1000 < a ∧ ¬ b < 0 ∧ ¬ 10000 < b ∧ ¬ c < 0 ∧ 10000 < c) ∨ (¬ a < 1 ∧ ¬ 1000 < a ∧ ¬ b < 0 ∧ ¬ 10000 < b ∧ ¬ c < 0 ∧ ¬ 10000 < c ∧ d < 0) ∨ (¬ a < 1 ∧ ¬ 1000 < a ∧ ¬ b < 0 ∧ ¬ 10000 < b ∧ ¬ c < 0 ∧ ¬ 10000 < c ∧ ¬ d < 0 ∧ 10000 < d)) ∧ Hid (srcE a b c d = 1) ∨ (¬ a < 1 ∧ ¬ 1000 < a ∧ ¬ b < 0 ∧ ¬ 10000 < b ∧ ¬ c < 0 ∧ ¬ 10000 < c ∧ ¬ d < 0 ∧ ¬ 10000 < d) ∧ Hid (srcE a b c d = 0) := by
    by_cases h0 : srcE a b c d = 0
    · have := srcE_0.1 h0
      exact .inr ⟨by omega, h0⟩
    · left
      have h1 : srcE a b c d = 1 := by unfold srcE at h0 ⊢; split <;> simp_all
      unfold srcE at h0
      split at h0
      · exact ⟨by omega, h1⟩
      · exact absurd rfl h0
  rcases hor with ⟨h1 | ⟨h1, h2⟩ | ⟨h1, h2, h3⟩ | ⟨h1, h2, h3, h4⟩ | ⟨h1, h2, h3, h4, h5⟩ | ⟨h1, h2, h3, h4, h5, h6⟩ | ⟨h1, h2, h3, h4, h5, h6, h7⟩ | ⟨h1, h2, h3, h4, h5, h6, h7, h8⟩, HE⟩ | ⟨⟨h1, h2, h3, h4, h5, h6, h7, h8⟩, HE⟩
  all_goals
    go_enter Tryd.func13, Tryd.ntmps13
    go_wp2
    go_ret
    exact ⟨by rw [HE.out]; rfl, (Below.refl _ _).alloc (Nat.le_refl _) _⟩

set_option maxRecDepth 100000 in
set_option maxHeartbeats 2000000 in
theorem RSendS_any (a b c d : Int) (w : World) (h0 : srcE a b c d = 0) :
    Calls Tryd.prog 19 #[.agg #[.int .i64 a, .int .i64 b, .int .i64 c, .int .i64 d]] w fun e w' => e = .returned (.tuple #[.agg #[.int .i64 a, .int .i64 (b + goN a b c), .int .i64 (c - goN a b c), .int .i64 d], .int .i64 (goN a b c)]) ∧ Below w.heap.size w w' := by
  have hb := srcE_0.1 h0
  have HG : Hid (∀ j : Int, 0 ≤ j → j ≤ goN a b c → ((j < goN a b c ∧ 0 < c - j ∧ b + j < a) ∨ (j = goN a b c ∧ (¬ 0 < c - j ∨ (0 < c - j ∧ ¬ b + j < a)))) ∧ c - j ≤ 10000 ∧ 0 ≤ c - j) := fun j j0 j1 => by
    unfold goN at *
    split at j1
    · split at j1 <;> simp_all <;> omega
    · simp_all; omega
  have hg0 : 0 ≤ goN a b c ∧ goN a b c ≤ 10000 := by unfold goN; split <;> (try split) <;> omega
  generalize goN a b c = G at *
  clear h0
  have R0 : Hid (RowAt ((w.alloc (.cells #[.int .i64 a, .int .i64 b, .int .i64 c, .int .i64 d] 43)).alloc (.cells #[.int .i64 0, .int .i64 0, .int .i64 0, .int .i64 0] 43)) w.heap.size 43 [.int .i64 a, .int .i64 b, .int .i64 c, .int .i64 d]) := (row_made w _ _ _ _ rfl rfl).alloc _
  have R1 : Hid (RowAt ((w.alloc (.cells #[.int .i64 a, .int .i64 b, .int .i64 c, .int .i64 d] 43)).alloc (.cells #[.int .i64 0, .int .i64 0, .int .i64 0, .int .i64 0] 43)) (w.heap.size + 1) 43 [.int .i64 0, .int .i64 0, .int .i64 0, .int .i64 0]) := row_made _ _ _ _ _ (by simp) rfl
  have B0 : Hid (Below w.heap.size w ((w.alloc (.cells #[.int .i64 a, .int .i64 b, .int .i64 c, .int .i64 d] 43)).alloc (.cells #[.int .i64 0, .int .i64 0, .int .i64 0, .int .i64 0] 43))) := ((Below.refl _ _).alloc (Nat.le_refl _) _).alloc (by simp) _
  go_enter Tryd.func19, Tryd.ntmps19
  go_wp2
  go_loopw [4] (fun s4 wr => ∃ j : Nat, (j : Int) ≤ G ∧ s4 = .int .i64 j ∧ Hid (RowAt wr w.heap.size 43 [.int .i64 a, .int .i64 (b + j), .int .i64 (c - j), .int .i64 d]) ∧ Hid (RowAt wr (w.heap.size + 1) 43 [.int .i64 0, .int .i64 0, .int .i64 0, .int .i64 0]) ∧ Hid (Below w.heap.size w wr)) (fun s4 _ => G.toNat - (intOf s4).toNat)
  case atStart => exact ⟨0, by omega, rfl, by simpa using R0, R1, B0⟩
  case round =>
    obtain ⟨j, hj, rfl, r0, r1, hB⟩ := hrel
    obtain ⟨hcase, u1, u2⟩ := HG.out j (by omega) hj
    obtain ⟨d0, d1, d2, d3, z0, z1, z2, z3, hgz⟩ := r0.out.four
    rcases hcase with ⟨c1, c2, c3⟩ | ⟨c1, hx⟩
    · have w1 : IntKind.i64.wrap (c - j - 1) = c - j - 1 := by rw [IntKind.wrap_i64]; omega
      have w2 : IntKind.i64.wrap (b + j + 1) = b + j + 1 := by rw [IntKind.wrap_i64]; omega
      have jb : j < 10000 := by omega
      have N1 : Hid (((j + 1 : Nat) : Int) ≤ G) := by show _ ≤ _; omega
      have N2 : Hid (G.toNat - (j + 1) < G.toNat - j) := by show _ < _; omega
      have nn : ¬ w.heap.size = w.heap.size + 1 := by omega
      have Q0 : Hid (RowAt ((wr.setCell ⟨w.heap.size, 2, none⟩ (.int .i64 (c - j - 1))).setCell ⟨w.heap.size, 1, none⟩ (.int .i64 (b + j + 1))) w.heap.size 43 [.int .i64 a, .int .i64 (b + ((j + 1 : Nat) : Int)), .int .i64 (c - ((j + 1 : Nat) : Int)), .int .i64 d]) := by
        have := (r0.out.set 2 (.int .i64 (c - j - 1))).set 1 (.int .i64 (b + j + 1))
        simp only [List.set] at this
        rw [show b + ((j + 1 : Nat) : Int) = b + j + 1 by omega, show c - ((j + 1 : Nat) : Int) = c - j - 1 by omega]
        exact this
      have Q1 : Hid (RowAt ((wr.setCell ⟨w.heap.size, 2, none⟩ (.int .i64 (c - j - 1))).setCell ⟨w.heap.size, 1, none⟩ (.int .i64 (b + j + 1))) (w.heap.size + 1) 43 [.int .i64 0, .int .i64 0, .int .i64 0, .int .i64 0]) := (r1.out.other (a := ⟨w.heap.size, 2, none⟩) nn _).other (a := ⟨w.heap.size, 1, none⟩) nn _
      have Q2 : Hid (Below w.heap.size w ((wr.setCell ⟨w.heap.size, 2, none⟩ (.int .i64 (c - j - 1))).setCell ⟨w.heap.size, 1, none⟩ (.int .i64 (b + j + 1)))) := (hB.out.setCell (Nat.le_refl _) _).setCell (Nat.le_refl _) _
      clear HG hb hg0 u1 u2 c1
      go_wp2
      go_roundw
      case rel => exact ⟨j + 1, N1.out, by go_num, Q0, Q1, Q2⟩
      case measure => have := N2.out; simp [intOf]; omega
    · obtain ⟨e0, e1, e2, e3, y0, y1, y2, y3, hgy⟩ := r1.out.four
      have hGj : Hid (G = (j : Int)) := c1.symm
      clear HG hb hg0 u1 u2 c1
      rcases hx with c2 | ⟨c2, c3⟩
      all_goals
        go_wp2
        refine bodyPost_ret (v := .tuple #[.agg #[.int .i64 a, .int .i64 (b + j), .int .i64 (c - j), .int .i64 d], .int .i64 j]) (by simp [results, Tryd.results19, go_sem, e0, e1, e2, e3]) rfl ⟨by rw [hGj.out], ?_⟩
        repeat (first | exact hB.out | refine Below.setCell ?_ (by simp) _ | refine Below.drew ?_)

set_option maxHeartbeats 2000000 in
theorem RAckS_any (a b c d : Int) (f : Bool) (w : World) (h0 : srcE a b c d = 0) :
    Calls Tryd.prog 21 #[.agg #[.int .i64 a, .int .i64 b, .int .i64 c, .int .i64 d], .bool f] w fun e w' => e = .returned (.agg #[.int .i64 (ackW a f), .int .i64 (b - 1), .int .i64 c, .int .i64 (d + 1)]) ∧ Below w.heap.size w w' := by
  have hb := srcE_0.1 h0
  have w1 : IntKind.i64.wrap (b - 1) = b - 1 := by rw [IntKind.wrap_i64]; omega
  have w2 : IntKind.i64.wrap (d + 1) = d + 1 := by rw [IntKind.wrap_i64]; omega
  have w3 : IntKind.i64.wrap (a + 1) = a + 1 := by rw [IntKind.wrap_i64]; omega
  have w4 : IntKind.i64.wrap (a - 1) = a - 1 := by rw [IntKind.wrap_i64]; omega
  clear hb h0
  obtain ⟨A, hA⟩ : ∃ A, Hid (ackW a f = A) := ⟨_, rfl⟩
  cases f with
  | true =>
    by_cases c1 : a < 1000
    · have hE : Hid (ackW a true = a + 1) := by show _ = _; simp [ackW, c1]
      rw [hE.out]
      clear hA
      go_enter Tryd.func21, Tryd.ntmps21
      go_wp2
      refine bodyPost_ret (v := .agg #[.int .i64 (a + 1), .int .i64 (b - 1), .int .i64 c, .int .i64 (d + 1)]) (by simp [results, Tryd.results21, go_sem]) rfl ⟨rfl, ?_⟩
      repeat (first | exact Below.refl _ _ | refine Below.setCell ?_ (by simp) _ | refine Below.alloc ?_ (by simp) _ | refine Below.drew ?_)
    · have hE : Hid (ackW a true = a) := by show _ = _; simp [ackW, c1]
      rw [hE.out]
      clear hA
      go_enter Tryd.func21, Tryd.ntmps21
      go_wp2
      refine bodyPost_ret (v := .agg #[.int .i64 a, .int .i64 (b - 1), .int .i64 c, .int .i64 (d + 1)]) (by simp [results, Tryd.results21, go_sem]) rfl ⟨rfl, ?_⟩
      repeat (first | exact Below.refl _ _ | refine Below.setCell ?_ (by simp) _ | refine Below.alloc ?_ (by simp) _ | refine Below.drew ?_)
  | false =>
    by_cases c1 : 1 < a
    · have hE : Hid (ackW a false = a - 1) := by show _ = _; simp [ackW, c1]
      rw [hE.out]
      clear hA
      go_enter Tryd.func21, Tryd.ntmps21
      go_wp2
      refine bodyPost_ret (v := .agg #[.int .i64 (a - 1), .int .i64 (b - 1), .int .i64 c, .int .i64 (d + 1)]) (by simp [results, Tryd.results21, go_sem]) rfl ⟨rfl, ?_⟩
      repeat (first | exact Below.refl _ _ | refine Below.setCell ?_ (by simp) _ | refine Below.alloc ?_ (by simp) _ | refine Below.drew ?_)
    · have hE : Hid (ackW a false = a) := by show _ = _; simp [ackW, c1]
      rw [hE.out]
      clear hA
      go_enter Tryd.func21, Tryd.ntmps21
      go_wp2
      refine bodyPost_ret (v := .agg #[.int .i64 a, .int .i64 (b - 1), .int .i64 c, .int .i64 (d + 1)]) (by simp [results, Tryd.results21, go_sem]) rfl ⟨rfl, ?_⟩
      repeat (first | exact Below.refl _ _ | refine Below.setCell ?_ (by simp) _ | refine Below.alloc ?_ (by simp) _ | refine Below.drew ?_)

set_option maxHeartbeats 2000000 in
theorem RLostS_any (a b c d : Int) (w : World) (h0 : srcE a b c d = 0) :
    Calls Tryd.prog 22 #[.agg #[.int .i64 a, .int .i64 b, .int .i64 c, .int .i64 d]] w fun e w' => e = .returned (.agg #[.int .i64 (lostW a), .int .i64 (b - 1), .int .i64 (c + 1), .int .i64 d]) ∧ Below w.heap.size w w' := by
  have hb := srcE_0.1 h0
  have w1 : IntKind.i64.wrap (b - 1) = b - 1 := by rw [IntKind.wrap_i64]; omega
  have w2 : IntKind.i64.wrap (c + 1) = c + 1 := by rw [IntKind.wrap_i64]; omega
  have t1 : a.tdiv 2 = a / 2 := Int.tdiv_eq_ediv_of_nonneg (by omega)
  have w3 : IntKind.i64.wrap (a / 2) = a / 2 := by rw [IntKind.wrap_i64]; omega
  clear hb h0
  by_cases c1 : 1 < a
  · have hE : Hid (lostW a = a / 2) := if_pos c1
    rw [hE.out]
    go_enter Tryd.func22, Tryd.ntmps22
    go_wp2
    refine bodyPost_ret (v := .agg #[.int .i64 (a / 2), .int .i64 (b - 1), .int .i64 (c + 1), .int .i64 d]) (by simp [results, Tryd.results22, go_sem]) rfl ⟨rfl, ?_⟩
    repeat (first | exact Below.refl _ _ | refine Below.setCell ?_ (by simp) _ | refine Below.alloc ?_ (by simp) _ | refine Below.drew ?_)
  · have hE : Hid (lostW a = a) := if_neg c1
    rw [hE.out]
    go_enter Tryd.func22, Tryd.ntmps22
    go_wp2
    refine bodyPost_ret (v := .agg #[.int .i64 a, .int .i64 (b - 1), .int .i64 (c + 1), .int .i64 d]) (by simp [results, Tryd.results22, go_sem]) rfl ⟨rfl, ?_⟩
    repeat (first | exact Below.refl _ _ | refine Below.setCell ?_ (by simp) _ | refine Below.alloc ?_ (by simp) _ | refine Below.drew ?_)
end Ev
end Go.Proofs.YtkpmjmgmgkdfnajDoor
