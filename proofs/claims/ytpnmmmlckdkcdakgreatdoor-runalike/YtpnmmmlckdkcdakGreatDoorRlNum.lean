/- Package run's number: one to four digits, without a needless 0, are a number; of anything else an error of the line is told. -/
import Derived.Test.YtpnmmmlckdkcdakGreatDoorRNum
import Derived.Test.YtpnmmmlckdkcdakGreatDoorPlains
namespace Go.Proofs.YtpnmmmlckdkcdakGreatDoor
namespace Ev
open Go.RowKit Fr Ns Ld Fl
set_option linter.unusedSimpArgs false
set_option linter.unusedVariables false

/-- the error of a line -/
def lineV : Value := .iface 170 (.agg #[.int .i64 2])
/-- what number tells -/
def numE (s : Txt) : Value := if numOk s then .nilIface else lineV

set_option maxRecDepth 100000 in
set_option maxHeartbeats 2000000 in
theorem rnumber_any (s : Txt) (w : World) (hl : s.length ≤ 1000000) :
    Calls Tryz.prog 110 #[.string ⟨s.toArray⟩] w fun e w' => e = .returned (.tuple #[.int .i64 (numN s), numE s]) ∧ w' = w := by
  have hsz0 : (⟨s.toArray⟩ : ByteArray).size = s.length := txt_len s
  by_cases h0 : s = []
  · subst h0
    show Calls _ _ _ _ fun e w' => e = .returned (.tuple #[.int .i64 0, lineV]) ∧ _
    go_enter Tryz.func110, Tryz.ntmps110
    go_wp2
    exact bodyPost_ret (v := .tuple #[.int .i64 0, lineV]) (by simp [results, Tryz.results110, go_sem, lineV]) rfl ⟨rfl, rfl⟩
  · have hp : 0 < s.length := List.length_pos_iff.2 h0
    have hne : ((⟨s.toArray⟩ : ByteArray).toList == []) = false := by
      rw [ByteArray.toList_mk]; simp [h0]
    by_cases h4 : 4 < s.length
    · have hE : numOk s = false := by simp [numOk, h4]
      rw [numN, numE, hE]
      show Calls _ _ _ _ fun e w' => e = .returned (.tuple #[.int .i64 0, lineV]) ∧ _
      go_enter Tryz.func110, Tryz.ntmps110
      go_wp2
      exact bodyPost_ret (v := .tuple #[.int .i64 0, lineV]) (by simp [results, Tryz.results110, go_sem, lineV]) rfl ⟨rfl, rfl⟩
    · obtain ⟨b0, hb0⟩ : ∃ b, s.getD 0 0 = b := ⟨_, rfl⟩
      have hz0 : 0 < (⟨s.toArray⟩ : ByteArray).size := by rw [hsz0]; exact hp
      have hby0 : (⟨s.toArray⟩ : ByteArray)[0]'hz0 = b0 := by rw [txt_byte]; exact hb0
      have hie : s.isEmpty = false := by simp [h0]
      by_cases hz : b0 = 48 ∧ 1 < s.length
      · obtain ⟨rfl, h1⟩ := hz
        have hE : numOk s = false := by
          unfold numOk
          rw [hb0]
          simp [h1]
        rw [numN, numE, hE]
        show Calls _ _ _ _ fun e w' => e = .returned (.tuple #[.int .i64 0, lineV]) ∧ _
        clear hE hb0
        go_enter Tryz.func110, Tryz.ntmps110
        go_wp2
        exact bodyPost_ret (v := .tuple #[.int .i64 0, lineV]) (by simp [results, Tryz.results110, go_sem, lineV]) rfl ⟨rfl, rfl⟩
      · have HOk : Hid (numOk s = s.all isDig) := by
          show _ = _
          unfold numOk
          rw [hb0]
          by_cases q : b0 = 48
          · have : ¬ 1 < s.length := fun h => hz ⟨q, h⟩
            simp [h0, h4, this]
          · simp [h0, h4, q]
        have HD : Hid (∀ b : UInt8, isDig b = true ↔ 48 ≤ b.toNat ∧ b.toNat ≤ 57) := fun b => isDig_1
        have HB : Hid (∀ k, k ≤ s.length → (∀ j, j < k → isDig (s.getD j 0) = true) → 0 ≤ numV (s.take k) ∧ numV (s.take k) ≤ 9999) := fun k hk h => num_bd4 (by omega) hk h
        have HSt : Hid (∀ k, k < s.length → numV (s.take (k + 1)) = numV (s.take k) * 10 + ((s.getD k 0).toNat : Int) - 48) := fun k hk => numV_step s k hk
        have HBy : Hid (∀ k (h : k < (⟨s.toArray⟩ : ByteArray).size), (⟨s.toArray⟩ : ByteArray)[k]'h = s.getD k 0) := fun k h => txt_byte h
        have HF : Hid (∀ k, k < s.length → isDig (s.getD k 0) = false → numN s = 0 ∧ numE s = lineV) := fun k hk h => by
          have e : numOk s = false := by rw [HOk.out]; exact num_cut hk h
          exact ⟨by rw [numN, e]; rfl, by rw [numE, e]; rfl⟩
        have HT : Hid ((∀ k, k < s.length → isDig (s.getD k 0) = true) → numN s = numV (s.take s.length) ∧ numE s = .nilIface) := fun h => by
          have e : numOk s = true := by rw [HOk.out]; exact num_all h
          exact ⟨by rw [numN, e, List.take_length]; rfl, by rw [numE, e]; rfl⟩
        have H0 : Hid (numV (s.take 0) = 0) := rfl
        generalize numN s = NS at *
        generalize numE s = OS at *
        obtain ⟨V, hV⟩ : ∃ V : Nat → Int, ∀ k, numV (s.take k) = V k := ⟨_, fun _ => rfl⟩
        obtain ⟨D, hDD⟩ : ∃ D : UInt8 → Bool, ∀ k, isDig k = D k := ⟨_, fun _ => rfl⟩
        simp only [hV, hDD] at HB HSt HT H0 HD HF
        clear hV hDD HOk hb0 h0
        have h4' : (s.length : Int) ≤ 4 := by omega
        have hc : (s.length : Int) ≤ 1 ∨ (((b0.toNat : Int) == 48) = false ∧ 1 < (s.length : Int)) := by
          by_cases q : 1 < s.length
          · right
            refine ⟨?_, by omega⟩
            rw [show ((b0.toNat : Int) == 48) = decide (b0 = 48) from byte_eq (b := 48), decide_eq_false (fun e => hz ⟨e, q⟩)]
          · left; omega
        clear hz
        have hb0 : Hid (s.length ≤ 4) := by show _ ≤ _; omega
        rcases hc with h1 | ⟨hq, h1⟩
        all_goals
          go_enter Tryz.func110, Tryz.ntmps110
          go_wp2
          go_loop [4, 5, 6, 28] (fun sn _ _ si => ∃ k : Nat, k ≤ s.length ∧ si = .int .i64 k ∧ sn = .int .i64 (V k) ∧ Hid (∀ j, j < k → D (s.getD j 0) = true)) (fun _ _ _ si => s.length - (intOf si).toNat)
          case atStart => exact ⟨0, by omega, rfl, by rw [H0.out], fun j hj => absurd hj (by omega)⟩
          case round =>
            obtain ⟨k, hk, rfl, rfl, hall⟩ := hrel
            by_cases hlt : k < s.length
            · have hsz : k < (⟨s.toArray⟩ : ByteArray).size := by rw [hsz0]; exact hlt
              have hby := HBy.out k hsz
              obtain ⟨v0, v1⟩ := HB.out k hk hall.out
              have hst := HSt.out k hlt
              have hf := HF.out k hlt
              have hd := HD.out (s.getD k 0)
              have HAl : Hid (D (s.getD k 0) = true → ∀ j, j < k + 1 → D (s.getD j 0) = true) := fun h j hj => by
                rcases Nat.lt_succ_iff_lt_or_eq.1 hj with h2 | rfl
                · exact hall.out j h2
                · exact h
              clear hall
              generalize s.getD k 0 = b at *
              have HS1 : Hid (V (k + 1) = V k * 10 + (b.toNat : Int) - 48) := hst
              clear hst
              by_cases d1 : (b.toNat : Int) < 48
              · obtain ⟨rfl, rfl⟩ := hf (by cases h : D b <;> simp_all; omega)
                clear hd
                go_wp2
                exact bodyPost_ret (v := .tuple #[.int .i64 0, lineV]) (by simp [results, Tryz.results110, go_sem, lineV]) rfl ⟨rfl, rfl⟩
              · by_cases d2 : 57 < (b.toNat : Int)
                · obtain ⟨rfl, rfl⟩ := hf (by cases h : D b <;> simp_all; omega)
                  clear hd
                  go_wp2
                  exact bodyPost_ret (v := .tuple #[.int .i64 0, lineV]) (by simp [results, Tryz.results110, go_sem, lineV]) rfl ⟨rfl, rfl⟩
                · have HD1 : Hid (D b = true) := hd.2 (by omega)
                  clear hf hd
                  have w1 : IntKind.i64.wrap (V k * 10) = V k * 10 := by rw [IntKind.wrap_i64]; omega
                  have w2 : IntKind.u8.wrap ((b.toNat : Int) - 48) = (b.toNat : Int) - 48 := by simp [IntKind.wrap, IntKind.bits, IntKind.signed]; omega
                  have w3 : IntKind.i64.wrap ((b.toNat : Int) - 48) = (b.toNat : Int) - 48 := by rw [IntKind.wrap_i64]; omega
                  have w4 : IntKind.i64.wrap (V k * 10 + ((b.toNat : Int) - 48)) = V k * 10 + ((b.toNat : Int) - 48) := by rw [IntKind.wrap_i64]; omega
                  have w5 : V k * 10 + ((b.toNat : Int) - 48) = V (k + 1) := by rw [HS1.out]; omega
                  go_wp2
                  go_round
                  case rel => exact ⟨k + 1, by omega, by go_num, by first | rfl | rw [w5], HAl.out HD1.out⟩
                  case measure => simp [intOf]; omega
            · obtain rfl : k = s.length := by omega
              obtain ⟨rfl, rfl⟩ := HT.out hall.out
              go_wp2
              exact bodyPost_ret (v := .tuple #[.int .i64 (V s.length), .nilIface]) (by simp [results, Tryz.results110, go_sem, lineV]) rfl ⟨rfl, rfl⟩
end Ev
end Go.Proofs.YtpnmmmlckdkcdakGreatDoor
