/- The document's number (package fairref2): a number of at most four digits, without a needless 0, read. -/
import Derived.Test.YtpnmmmlckdkcdakGreatDoorPlains
namespace Go.Proofs.YtpnmmmlckdkcdakGreatDoor
namespace Ev
open Go.RowKit Fr Ns Ld Fl
set_option linter.unusedSimpArgs false
set_option linter.unusedVariables false

theorem numV_step (s : Txt) (k : Nat) (hk : k < s.length) : numV (s.take (k + 1)) = numV (s.take k) * 10 + ((s.getD k 0).toNat : Int) - 48 := by
  have e : s.take (k + 1) = s.take k ++ [s.getD k 0] := by
    rw [List.take_add_one, List.getD, List.getElem?_eq_getElem hk]; rfl
  rw [e, numV, List.foldl_append]
  rfl
theorem isDig_1 {b : UInt8} : isDig b = true ↔ 48 ≤ b.toNat ∧ b.toNat ≤ 57 := by
  unfold isDig
  simp [UInt8.le_iff_toNat_le]
theorem num_bdp (s : Txt) : ∀ k, k ≤ s.length → (∀ j, j < k → isDig (s.getD j 0) = true) → 0 ≤ numV (s.take k) ∧ numV (s.take k) < 10 ^ k := by
  intro k
  induction k with
  | zero => intro _ _; simp [numV]
  | succ k ih =>
    intro hk h
    have ⟨h1, h2⟩ := ih (by omega) (fun j hj => h j (by omega))
    obtain ⟨d1, d2⟩ := isDig_1.1 (h k (by omega))
    rw [numV_step s k hk, Int.pow_succ]
    omega
theorem num_bd4 {s : Txt} {k : Nat} (h4 : s.length ≤ 4) (hk : k ≤ s.length) (h : ∀ j, j < k → isDig (s.getD j 0) = true) : 0 ≤ numV (s.take k) ∧ numV (s.take k) ≤ 9999 := by
  have := num_bdp s k hk h
  have h5 : k = 0 ∨ k = 1 ∨ k = 2 ∨ k = 3 ∨ k = 4 := by omega
  rcases h5 with e | e | e | e | e <;> rw [e] at this ⊢ <;> omega
theorem all_at {s : Txt} (h : s.all isDig = true) : ∀ k, k < s.length → isDig (s.getD k 0) = true := by
  intro k hk
  rw [List.all_eq_true] at h
  apply h
  rw [List.getD, List.getElem?_eq_getElem hk]
  exact List.getElem_mem hk
theorem num_few {s : Txt} (h : numOk s = true) : 0 ≤ numV s ∧ numV s ≤ 9999 := by
  unfold numOk at h
  simp only [Bool.and_eq_true, Bool.not_eq_true', Bool.or_eq_false_iff, decide_eq_false_iff_not] at h
  obtain ⟨⟨⟨h0, h4⟩, _⟩, hd⟩ := h
  have := num_bd4 (by omega) (Nat.le_refl _) (all_at hd)
  rwa [List.take_length] at this
/-- its first byte that is no digit -/
theorem num_cut {s : Txt} {k : Nat} (hk : k < s.length) (h : isDig (s.getD k 0) = false) : s.all isDig = false := by
  rw [List.all_eq_false]
  refine ⟨s.getD k 0, ?_, by rw [h]; decide⟩
  rw [List.getD, List.getElem?_eq_getElem hk]
  exact List.getElem_mem hk
theorem num_all {s : Txt} (h : ∀ k, k < s.length → isDig (s.getD k 0) = true) : s.all isDig = true := by
  rw [List.all_eq_true]
  intro x hx
  obtain ⟨k, hk, rfl⟩ := List.mem_iff_getElem.1 hx
  have := h k hk
  rwa [List.getD, List.getElem?_eq_getElem hk] at this
def numN (s : Txt) : Int := if numOk s then numV s else 0

set_option maxRecDepth 100000 in
set_option maxHeartbeats 2000000 in
theorem RNumber_any (s : Txt) (w : World) (hl : s.length ≤ 1000000) :
    Calls Tryz.prog 51 #[.string ⟨s.toArray⟩] w fun e w' => e = .returned (.tuple #[.int .i64 (numN s), .bool (numOk s)]) ∧ w' = w := by
  have hsz0 : (⟨s.toArray⟩ : ByteArray).size = s.length := txt_len s
  by_cases h0 : s = []
  · subst h0
    show Calls _ _ _ _ fun e w' => e = .returned (.tuple #[.int .i64 0, .bool false]) ∧ _
    go_enter Tryz.func51, Tryz.ntmps51
    go_wp2
    exact bodyPost_ret (v := .tuple #[.int .i64 0, .bool false]) (by simp [results, Tryz.results51, go_sem]) rfl ⟨rfl, rfl⟩
  · have hp : 0 < s.length := List.length_pos_iff.2 h0
    have hne : ((⟨s.toArray⟩ : ByteArray).toList == []) = false := by
      rw [ByteArray.toList_mk]; simp [h0]
    by_cases h4 : 4 < s.length
    · have hE : numOk s = false := by simp [numOk, h4]
      rw [numN, hE]
      show Calls _ _ _ _ fun e w' => e = .returned (.tuple #[.int .i64 0, .bool false]) ∧ _
      go_enter Tryz.func51, Tryz.ntmps51
      go_wp2
      exact bodyPost_ret (v := .tuple #[.int .i64 0, .bool false]) (by simp [results, Tryz.results51, go_sem]) rfl ⟨rfl, rfl⟩
    · obtain ⟨b0, hb0⟩ : ∃ b, s.getD 0 0 = b := ⟨_, rfl⟩
      have hz0 : 0 < (⟨s.toArray⟩ : ByteArray).size := by rw [hsz0]; exact hp
      have hby0 : (⟨s.toArray⟩ : ByteArray)[0]'hz0 = b0 := by rw [txt_byte]; exact hb0
      have hie : s.isEmpty = false := by simp [h0]
      by_cases hz : b0 = 48 ∧ 1 < s.length
      · obtain ⟨rfl, h1⟩ := hz
        have hE : numOk s = false := by
          unfold numOk
          rw [hb0]
          simp [h1]
        rw [numN, hE]
        show Calls _ _ _ _ fun e w' => e = .returned (.tuple #[.int .i64 0, .bool false]) ∧ _
        clear hE hb0
        go_enter Tryz.func51, Tryz.ntmps51
        go_wp2
        exact bodyPost_ret (v := .tuple #[.int .i64 0, .bool false]) (by simp [results, Tryz.results51, go_sem]) rfl ⟨rfl, rfl⟩
      · have HOk : Hid (numOk s = s.all isDig) := by
          show _ = _
          unfold numOk
          rw [hb0]
          by_cases q : b0 = 48
          · have : ¬ 1 < s.length := fun h => hz ⟨q, h⟩
            simp [h0, h4, this]
          · simp [h0, h4, q]
        have HD : Hid (∀ b : UInt8, isDig b = true ↔ 48 ≤ b.toNat ∧ b.toNat ≤ 57) := fun b => isDig_1
        have HB : Hid (∀ k, k ≤ s.length → (∀ j, j < k → isDig (s.getD j 0) = true) → 0 ≤ numV (s.take k) ∧ numV (s.take k) ≤ 9999) := fun k hk h => num_bd4 (by omega) hk h
        have HSt : Hid (∀ k, k < s.length → numV (s.take (k + 1)) = numV (s.take k) * 10 + ((s.getD k 0).toNat : Int) - 48) := fun k hk => numV_step s k hk
        have HBy : Hid (∀ k (h : k < (⟨s.toArray⟩ : ByteArray).size), (⟨s.toArray⟩ : ByteArray)[k]'h = s.getD k 0) := fun k h => txt_byte h
        have HF : Hid (∀ k, k < s.length → isDig (s.getD k 0) = false → numN s = 0 ∧ numOk s = false) := fun k hk h => by
          have e : numOk s = false := by rw [HOk.out]; exact num_cut hk h
          exact ⟨by rw [numN, e]; rfl, e⟩
        have HT : Hid ((∀ k, k < s.length → isDig (s.getD k 0) = true) → numN s = numV (s.take s.length) ∧ numOk s = true) := fun h => by
          have e : numOk s = true := by rw [HOk.out]; exact num_all h
          exact ⟨by rw [numN, e, List.take_length]; rfl, e⟩
        have H0 : Hid (numV (s.take 0) = 0) := rfl
        generalize numN s = NS at *
        generalize numOk s = OS at *
        obtain ⟨V, hV⟩ : ∃ V : Nat → Int, ∀ k, numV (s.take k) = V k := ⟨_, fun _ => rfl⟩
        obtain ⟨D, hDD⟩ : ∃ D : UInt8 → Bool, ∀ k, isDig k = D k := ⟨_, fun _ => rfl⟩
        simp only [hV, hDD] at HB HSt HT H0 HD HF
        clear hV hDD HOk hb0 h0
        have h4' : (s.length : Int) ≤ 4 := by omega
        have hc : (b0 = 48 ∧ (s.length : Int) ≤ 1) ∨ ((b0.toNat : Int) == 48) = false := by
          by_cases q : b0 = 48
          · exact .inl ⟨q, by have : ¬ 1 < s.length := fun h => hz ⟨q, h⟩
                              omega⟩
          · right
            rw [show ((b0.toNat : Int) == 48) = decide (b0 = 48) from byte_eq (b := 48), decide_eq_false q]
        clear hz
        have hb0 : Hid (s.length ≤ 4) := by show _ ≤ _; omega
        rcases hc with ⟨rfl, h1⟩ | hq
        all_goals
          go_enter Tryz.func51, Tryz.ntmps51
          go_wp2
          go_loop [4, 5] (fun sn si => ∃ k : Nat, k ≤ s.length ∧ si = .int .i64 k ∧ sn = .int .i64 (V k) ∧ Hid (∀ j, j < k → D (s.getD j 0) = true)) (fun _ si => s.length - (intOf si).toNat)
          case atStart => exact ⟨0, by omega, rfl, by rw [H0.out], fun j hj => absurd hj (by omega)⟩
          case round =>
            obtain ⟨k, hk, rfl, rfl, hall⟩ := hrel
            by_cases hlt : k < s.length
            · have hsz : k < (⟨s.toArray⟩ : ByteArray).size := by rw [hsz0]; exact hlt
              have hby := HBy.out k hsz
              obtain ⟨v0, v1⟩ := HB.out k hk hall.out
              have hst := HSt.out k hlt
              have hf := HF.out k hlt
              have hd := HD.out (s.getD k 0)
              have HAl : Hid (D (s.getD k 0) = true → ∀ j, j < k + 1 → D (s.getD j 0) = true) := fun h j hj => by
                rcases Nat.lt_succ_iff_lt_or_eq.1 hj with h2 | rfl
                · exact hall.out j h2
                · exact h
              clear hall
              generalize s.getD k 0 = b at *
              have HS1 : Hid (V (k + 1) = V k * 10 + (b.toNat : Int) - 48) := hst
              clear hst
              by_cases d1 : (b.toNat : Int) < 48
              · obtain ⟨rfl, rfl⟩ := hf (by cases h : D b <;> simp_all; omega)
                clear hd
                go_wp2
                exact bodyPost_ret (v := .tuple #[.int .i64 0, .bool false]) (by simp [results, Tryz.results51, go_sem]) rfl ⟨rfl, rfl⟩
              · by_cases d2 : 57 < (b.toNat : Int)
                · obtain ⟨rfl, rfl⟩ := hf (by cases h : D b <;> simp_all; omega)
                  clear hd
                  go_wp2
                  exact bodyPost_ret (v := .tuple #[.int .i64 0, .bool false]) (by simp [results, Tryz.results51, go_sem]) rfl ⟨rfl, rfl⟩
                · have HD1 : Hid (D b = true) := hd.2 (by omega)
                  clear hf hd
                  have w1 : IntKind.i64.wrap (V k * 10) = V k * 10 := by rw [IntKind.wrap_i64]; omega
                  have w2 : IntKind.i64.wrap (V k * 10 + (b.toNat : Int)) = V k * 10 + (b.toNat : Int) := by rw [IntKind.wrap_i64]; omega
                  have w3 : IntKind.i64.wrap (V k * 10 + (b.toNat : Int) - 48) = V k * 10 + (b.toNat : Int) - 48 := by rw [IntKind.wrap_i64]; omega
                  have w4 : IntKind.i64.wrap (b.toNat : Int) = (b.toNat : Int) := by rw [IntKind.wrap_i64]; omega
                  go_wp2
                  go_round
                  case rel => exact ⟨k + 1, by omega, by go_num, by rw [HS1.out], HAl.out HD1.out⟩
                  case measure => simp [intOf]; omega
            · obtain rfl : k = s.length := by omega
              obtain ⟨rfl, rfl⟩ := HT.out hall.out
              go_wp2
              exact bodyPost_ret (v := .tuple #[.int .i64 (V s.length), .bool true]) (by simp [results, Tryz.results51, go_sem]) rfl ⟨rfl, rfl⟩
end Ev
end Go.Proofs.YtpnmmmlckdkcdakGreatDoor
