/- Package rank's order and check; math/bits.Len of few. -/
import Derived.Test.YtdldgefahgojaakGreatDoorPlains
import Derived.Test.YtdldgefahgojaakGreatDoorFracE
import Derived.Test.YtdldgefahgojaakGreatDoorFracChk
namespace Go.Proofs.YtdldgefahgojaakGreatDoor
namespace Fl
open Go.RowKit Fr Ns Ld
set_option linter.unusedSimpArgs false
set_option linter.unusedVariables false

theorem RkCmp_right {a b : Int × Int} (ha : faultP a = 0) (hb : faultP b = 0) (w : World) :
    Calls Tryz.prog 32 #[.agg #[.int .i64 a.1, .int .i64 a.2], .agg #[.int .i64 b.1, .int .i64 b.2]] w fun e w' => e = .returned (.tuple #[.int .i64 (ordP a b), .nilIface]) ∧ Below w.heap.size w w' := by
  have := Compare_any a.1 a.2 b.1 b.2 w
  have h1 : fault a.1 a.2 = 0 := ha
  have hf : fault2 a.1 a.2 b.1 b.2 = 0 := by rw [fault2, if_pos h1]; exact hb
  rw [cmpV, if_pos hf, hf, errV_0] at this
  exact this

theorem order_any {a b : Int × Int} (ha : faultP a = 0) (hb : faultP b = 0) (w : World) :
    Calls Tryz.prog 36 #[.agg #[.int .i64 a.1, .int .i64 a.2], .agg #[.int .i64 b.1, .int .i64 b.2]] w fun e w' => e = .returned (.int .i64 (ordP a b)) ∧ Below w.heap.size w w' := by
  have HC : Hid (∀ u : World, Calls Tryz.prog 32 #[.agg #[.int .i64 a.1, .int .i64 a.2], .agg #[.int .i64 b.1, .int .i64 b.2]] u fun e w' => e = .returned (.tuple #[.int .i64 (ordP a b), .nilIface]) ∧ Below u.heap.size u w') := fun u => RkCmp_right ha hb u
  generalize ordP a b = c at *
  generalize a.1 = a1 at *
  generalize a.2 = a2 at *
  generalize b.1 = b1 at *
  generalize b.2 = b2 at *
  clear ha hb
  go_enter Tryz.func36, Tryz.ntmps36
  go_wp2_with fail
  refine (HC.out _).mono ?_
  rintro e w1 ⟨rfl, hw1⟩
  have HB : Hid (Below w.heap.size w w1) := (((Below.refl _ _).alloc (Nat.le_refl _) _).alloc (by simp) _).trans (hw1.mono (by simp; omega))
  clear hw1
  go_wp2
  go_ret
  exact ⟨rfl, HB.out⟩

set_option maxRecDepth 100000 in
set_option maxHeartbeats 1000000 in
theorem Len64_few (n : Nat) (hn : n ≤ 6) (w : World) :
    Calls Tryz.prog 86 #[.int .u64 n] w fun e w' => (∃ k : Int, e = .returned (.int .i64 k)) ∧ w' = w := by
  obtain rfl | rfl | rfl | rfl | rfl | rfl | rfl : n = 0 ∨ n = 1 ∨ n = 2 ∨ n = 3 ∨ n = 4 ∨ n = 5 ∨ n = 6 := by omega
  all_goals
    go_enter Tryz.func86, Tryz.ntmps86
    go_wp2
    go_ret
    exact ⟨⟨_, rfl⟩, rfl⟩

theorem Len_few (n : Nat) (hn : n ≤ 6) (w : World) :
    Calls Tryz.prog 67 #[.int .u64 n] w fun e w' => (∃ k : Int, e = .returned (.int .i64 k)) ∧ w' = w := by
  have HL : Hid (Calls Tryz.prog 86 #[.int .u64 n] w fun e w' => (∃ k : Int, e = .returned (.int .i64 k)) ∧ w' = w) := Len64_few n hn w
  go_enter Tryz.func67, Tryz.ntmps67
  go_wp2_with fail
  refine HL.out.mono ?_
  rintro e w1 ⟨⟨k, rfl⟩, rfl⟩
  go_wp2
  go_ret
  exact ⟨⟨_, rfl⟩, rfl⟩

set_option maxHeartbeats 1000000 in
theorem RCheck_any {Q : Nat → Prop} (r : List (Int × Int)) (x : Value) (w : World) (hx : FracsAt Q w x r) :
    Calls Tryz.prog 50 #[x] w fun e w' => e = .returned (errV (sortE r)) ∧ Below w.heap.size w w' := by
  obtain ⟨ar, capr, rfl, ⟨hm3, hn3⟩, hc⟩ := hx
  have HR : Hid (∀ k, k < r.length → ∃ b off, ar = some ⟨b, off, none⟩ ∧ ∀ u, Below w.heap.size w u → u.cell? ⟨b, off + k * 2, none⟩ = some (.int .i64 (r.getD k (0, 0)).1) ∧ u.cell? ⟨b, off + k * 2 + 1, none⟩ = some (.int .i64 (r.getD k (0, 0)).2)) := by
    intro k hk
    rcases hc with h0 | ⟨b, off, rfl, hc, _⟩
    · rw [h0] at hk; simp at hk
    · exact ⟨b, off, rfl, fun u hu => ⟨cell_later hu (hc k hk).1, cell_later hu (hc k hk).2⟩⟩
  clear hc
  by_cases h6 : 6 < r.length
  · have HE : Hid (sortE r = 4) := by show _ = _; rw [sortE, if_pos h6]
    have HV : Hid (errV (sortE r) = .iface 55 (.int .i64 4)) := by show _ = _; rw [HE.out]; exact errV_ne (by decide)
    have h6' : (6 : Int) < (r.length : Int) := by omega
    go_enter Tryz.func50, Tryz.ntmps50
    go_wp2
    go_ret
    exact ⟨by rw [HV.out]; rfl, Below.refl _ _⟩
  · have HE : Hid (sortE r = ratesE r) := by show _ = _; rw [sortE, if_neg h6]
    have HRd : Hid (∀ k, k < r.length → ratesE (r.drop k) = if faultP (r.getD k (0, 0)) = 0 then ratesE (r.drop (k + 1)) else faultP (r.getD k (0, 0))) := fun k hk => ratesE_drop r k hk
    have HRe : Hid (ratesE (r.drop r.length) = 0) := by show _ = _; rw [List.drop_of_length_le (Nat.le_refl _)]; rfl
    have h6' : ¬ (6 : Int) < (r.length : Int) := by omega
    have hr6 : r.length ≤ 6 := by omega
    clear h6
    go_enter Tryz.func50, Tryz.ntmps50
    go_wp2
    go_loopw [4, 12] (fun _ i wr => ∃ k : Nat, k ≤ r.length ∧ i = .int .i64 k ∧ Hid (Below w.heap.size w wr) ∧ Hid (ratesE r = ratesE (r.drop k))) (fun _ i _ => r.length - (intOf i).toNat)
    case atStart => exact ⟨0, by omega, rfl, Below.refl _ _, rfl⟩
    case round =>
      obtain ⟨k, hk, rfl, hbel, hn⟩ := hrel
      have hz : w.heap.size ≤ wr.heap.size := hbel.out.size
      by_cases hlt : k < r.length
      · obtain ⟨b, off, rfl, hc⟩ := HR.out k hlt
        obtain ⟨c1, c2⟩ := hc _ hbel.out
        have hs := HRd.out k hlt
        have HF : Hid (∀ u, Calls Tryz.prog 60 #[.agg #[.int .i64 (r.getD k (0, 0)).1, .int .i64 (r.getD k (0, 0)).2]] u fun e w' => e = .returned (errV (faultP (r.getD k (0, 0)))) ∧ Below u.heap.size u w') := fun u => Check_any _ _ u
        by_cases hf : faultP (r.getD k (0, 0)) = 0
        · have HN2 : Hid (ratesE r = ratesE (r.drop (k + 1))) := by show _ = _; rw [hn.out, hs, if_pos hf]
          rw [hf, errV_0] at HF
          generalize (r.getD k (0, 0)).1 = t at *
          generalize (r.getD k (0, 0)).2 = bo at *
          clear hs hc hf
          go_wp2_with fail
          refine (HF.out _).mono ?_
          rintro e w2 ⟨rfl, hw2⟩
          have HB2 : Hid (Below w.heap.size w w2) := (hbel.out.alloc hz _).trans (hw2.mono (by simp; omega))
          clear hw2
          go_wp2
          go_roundw
          case rel => exact ⟨k + 1, by omega, by go_num, HB2, HN2⟩
          case measure => simp [intOf]; omega
        · have HN2 : Hid (sortE r = faultP (r.getD k (0, 0))) := by show _ = _; rw [HE.out, hn.out, hs, if_neg hf]
          have HV : Hid (errV (faultP (r.getD k (0, 0))) = .iface 55 (.int .i64 (faultP (r.getD k (0, 0))))) := errV_ne hf
          rw [HV.out] at HF
          generalize faultP (r.getD k (0, 0)) = fk at *
          generalize (r.getD k (0, 0)).1 = t at *
          generalize (r.getD k (0, 0)).2 = bo at *
          clear hs hc hf
          go_wp2_with fail
          refine (HF.out _).mono ?_
          rintro e w2 ⟨rfl, hw2⟩
          have HB2 : Hid (Below w.heap.size w w2) := (hbel.out.alloc hz _).trans (hw2.mono (by simp; omega))
          clear hw2
          go_wp2
          go_ret
          exact ⟨by rw [HN2.out, HV.out]; rfl, HB2.out⟩
      · obtain rfl : k = r.length := by omega
        have HN2 : Hid (sortE r = 0) := by show _ = _; rw [HE.out, hn.out, HRe.out]
        go_wp2
        go_ret
        exact ⟨by rw [HN2.out, errV_0]; rfl, hbel.out⟩
end Fl
end Go.Proofs.YtdldgefahgojaakGreatDoor
