/- The document's Digits and Told (package fairref2): a number, and a fraction, as a text. -/
import Derived.Test.YtpnmmmlckdkcdakGreatDoorPlains
namespace Go.Proofs.YtpnmmmlckdkcdakGreatDoor
namespace Ev
open Go.RowKit Fr Ns Ld Fl
set_option linter.unusedSimpArgs false
set_option linter.unusedVariables false

theorem dig_part {n : Int} (h0 : 0 ≤ n) (h : n < 10) : (⟨#[48, 49, 50, 51, 52, 53, 54, 55, 56, 57]⟩ : ByteArray).extract n.toNat (n.toNat + 1) = ⟨#[UInt8.ofNat (48 + n.toNat)]⟩ := by
  obtain ⟨k, rfl⟩ : ∃ k : Nat, n = k := ⟨n.toNat, by omega⟩
  have hk : k < 10 := by omega
  have h : k = 0 ∨ k = 1 ∨ k = 2 ∨ k = 3 ∨ k = 4 ∨ k = 5 ∨ k = 6 ∨ k = 7 ∨ k = 8 ∨ k = 9 := by omega
  rcases h with rfl | rfl | rfl | rfl | rfl | rfl | rfl | rfl | rfl | rfl <;> decide +kernel

theorem digF_len : ∀ f n, (digF f n).length ≤ f := by
  intro f
  induction f with
  | zero => intro n; simp [digF]
  | succ f ih =>
    intro n
    simp only [digF]
    split
    · simp
    · have := ih (n / 10); simp; omega
theorem digT_len (n : Int) : (digT n).length ≤ 20 := digF_len 20 _
theorem toldT_len (a : Int × Int) : (toldT a).length ≤ 41 := by
  have h1 := digT_len a.1
  have h2 := digT_len a.2
  unfold toldT
  split
  · omega
  · simp; omega

set_option maxRecDepth 100000 in
set_option maxHeartbeats 2000000 in
theorem RDigits_any (d : Nat) : ∀ (n : Int) (w : World), 0 ≤ n → n < 10 ^ (d + 1) → n < 1000000000000000000 →
    Calls Tryz.prog 61 #[.int .i64 n] w fun e w' => e = .returned (.string ⟨(digT n).toArray⟩) ∧ w' = w := by
  induction d with
  | zero =>
    intro n w h0 h1 h2
    have h10 : n < 10 := by simpa using h1
    have HR : Hid ((⟨(digT n).toArray⟩ : ByteArray) = (⟨#[48, 49, 50, 51, 52, 53, 54, 55, 56, 57]⟩ : ByteArray).extract n.toNat (n.toNat + 1)) := by
      show _ = _
      rw [digT_few h0 h10, dig_part h0 h10]
    have hw : IntKind.i64.wrap (n + 1) = n + 1 := by rw [IntKind.wrap_i64]; omega
    have ht : (n + 1).toNat = n.toNat + 1 := by omega
    go_enter Tryz.func61, Tryz.ntmps61
    go_wp2
    go_ret
    exact ⟨ret_str (by rw [HR.out]), rfl⟩
  | succ d ih =>
    intro n w h0 h1 h2
    by_cases h10 : n < 10
    · have HR : Hid ((⟨(digT n).toArray⟩ : ByteArray) = (⟨#[48, 49, 50, 51, 52, 53, 54, 55, 56, 57]⟩ : ByteArray).extract n.toNat (n.toNat + 1)) := by
        show _ = _
        rw [digT_few h0 h10, dig_part h0 h10]
      have hw : IntKind.i64.wrap (n + 1) = n + 1 := by rw [IntKind.wrap_i64]; omega
      have ht : (n + 1).toNat = n.toNat + 1 := by omega
      clear ih
      go_enter Tryz.func61, Tryz.ntmps61
      go_wp2
      go_ret
      exact ⟨ret_str (by rw [HR.out]), rfl⟩
    · have hq : n / 10 < 10 ^ (d + 1) := by
        rw [Int.pow_succ] at h1
        omega
      have HI : Hid (∀ u : World, Calls Tryz.prog 61 #[.int .i64 (n / 10)] u fun e w' => e = .returned (.string ⟨(digT (n / 10)).toArray⟩) ∧ w' = u) := fun u => ih (n / 10) u (by omega) hq (by omega)
      have q1 : n.tdiv 10 = n / 10 := Int.tdiv_eq_ediv_of_nonneg h0
      have q2 : n.tmod 10 = n % 10 := Int.tmod_eq_emod_of_nonneg h0
      have q3 : IntKind.i64.wrap (n / 10) = n / 10 := by rw [IntKind.wrap_i64]; omega
      have q4 : IntKind.i64.wrap (n % 10) = n % 10 := by rw [IntKind.wrap_i64]; omega
      have HR : Hid ((⟨(digT n).toArray⟩ : ByteArray) = ⟨(digT (n / 10)).toArray⟩ ++ (⟨#[48, 49, 50, 51, 52, 53, 54, 55, 56, 57]⟩ : ByteArray).extract (n % 10).toNat ((n % 10).toNat + 1)) := by
        show _ = _
        rw [dig_part (by omega) (by omega), digT_more (by omega) (by omega)]
        have : (n % 10).toNat = n.toNat % 10 := by omega
        rw [this]
        apply ByteArray.ext
        simp
      have k0 : 0 ≤ n % 10 := by omega
      have k1 : n % 10 < 10 := by omega
      have hD := digT_len (n / 10)
      generalize digT (n / 10) = D at *
      generalize n % 10 = r at *
      have hw : IntKind.i64.wrap (r + 1) = r + 1 := by rw [IntKind.wrap_i64]; omega
      have ht : (r + 1).toNat = r.toNat + 1 := by omega
      clear ih hq
      go_enter Tryz.func61, Tryz.ntmps61
      go_wp2_with fail
      refine (HI.out _).mono ?_
      rintro e w' ⟨rfl, rfl⟩
      go_wp2
      go_ret
      exact ⟨ret_str (by rw [HR.out]), rfl⟩
theorem RDigits_is (n : Int) (w : World) (h0 : 0 ≤ n) (h1 : n < 1000000000000000000) :
    Calls Tryz.prog 61 #[.int .i64 n] w fun e w' => e = .returned (.string ⟨(digT n).toArray⟩) ∧ w' = w :=
  RDigits_any 17 n w h0 (Int.lt_of_lt_of_le h1 (by decide)) h1

theorem told_1 {a : Int × Int} (h : a.2 = 1) : toldT a = digT a.1 := by rw [toldT, if_pos h]
theorem told_2 {a : Int × Int} (h : a.2 ≠ 1) : (⟨(toldT a).toArray⟩ : ByteArray) = ⟨(digT a.1).toArray⟩ ++ ⟨#[47]⟩ ++ ⟨(digT a.2).toArray⟩ := by
  rw [toldT, if_neg h]
  apply ByteArray.ext
  simp

set_option maxRecDepth 100000 in
set_option maxHeartbeats 2000000 in
theorem RTold_any (a : Int × Int) (w : World) (h0 : 0 ≤ a.1) (h1 : a.1 < 1000000000000000000) (h2 : 0 ≤ a.2) (h3 : a.2 < 1000000000000000000) :
    Calls Tryz.prog 24 #[.agg #[.int .i64 a.1, .int .i64 a.2]] w fun e w' => e = .returned (.string ⟨(toldT a).toArray⟩) ∧ Below w.heap.size w w' := by
  have H1 : Hid (∀ u : World, Calls Tryz.prog 61 #[.int .i64 a.1] u fun e w' => e = .returned (.string ⟨(digT a.1).toArray⟩) ∧ w' = u) := fun u => RDigits_is a.1 u h0 h1
  have H2 : Hid (∀ u : World, Calls Tryz.prog 61 #[.int .i64 a.2] u fun e w' => e = .returned (.string ⟨(digT a.2).toArray⟩) ∧ w' = u) := fun u => RDigits_is a.2 u h2 h3
  by_cases hb : a.2 = 1
  · rw [told_1 hb]
    generalize digT a.1 = D at *
    clear h0 h1 h2 h3 H2
    go_enter Tryz.func24, Tryz.ntmps24
    go_wp2_with fail
    refine (H1.out _).mono ?_
    rintro e w' ⟨rfl, rfl⟩
    go_wp2
    go_ret
    exact ⟨rfl, (Below.refl _ _).alloc (Nat.le_refl _) _⟩
  · rw [told_2 hb]
    have hD := digT_len a.1
    have hD2 := digT_len a.2
    generalize digT a.1 = D at *
    generalize digT a.2 = D2 at *
    clear h0 h1 h2 h3
    go_enter Tryz.func24, Tryz.ntmps24
    go_wp2_with fail
    refine (H1.out _).mono ?_
    rintro e w' ⟨rfl, rfl⟩
    go_wp2_with fail
    refine (H2.out _).mono ?_
    rintro e w' ⟨rfl, rfl⟩
    go_wp2
    go_ret
    exact ⟨rfl, (Below.refl _ _).alloc (Nat.le_refl _) _⟩
end Ev
end Go.Proofs.YtpnmmmlckdkcdakGreatDoor
