/- The document's Total (package fairref1): numbers added up. -/
import Derived.Test.YtpnmmmlckdkcdakGreatDoorPlains
namespace Go.Proofs.YtpnmmmlckdkcdakGreatDoor
namespace Ev
open Go.RowKit Fr Ns Ld Fl
set_option linter.unusedSimpArgs false
set_option linter.unusedVariables false

theorem tot_abs {M : Int} (hM : 0 ≤ M) : ∀ {l : List Int}, (∀ x ∈ l, -M ≤ x ∧ x ≤ M) → -(l.length * M) ≤ tot l ∧ tot l ≤ l.length * M := by
  intro l
  induction l with
  | nil => intro _; simp [tot]
  | cons x r ih =>
    intro h
    have h1 := h x (by simp)
    have h2 := ih fun y hy => h y (by simp [hy])
    simp only [tot, List.length_cons]
    have e : ((r.length + 1 : Nat) : Int) * M = r.length * M + M := by rw [Int.natCast_add, Int.add_mul]; simp
    rw [e]
    omega
theorem mem_take' {l : List Int} {k : Nat} {x : Int} (h : x ∈ l.take k) : x ∈ l := List.mem_of_mem_take h

set_option maxHeartbeats 1000000 in
theorem RTot_any {Q : Nat → Prop} (l : List Int) (v : Value) (w : World) (h : IntsAt Q w v l) (hl : l.length ≤ 1000) (hb : ∀ x ∈ l, -1000000 ≤ x ∧ x ≤ 1000000) :
    Calls Tryz.prog 59 #[v] w fun e w' => e = .returned (.int .i64 (tot l)) ∧ w' = w := by
  obtain ⟨a, cap, rfl, ⟨hm, hm2⟩, h'⟩ := id h
  have HC : Hid (∀ i, i < l.length → ∃ b off, a = some ⟨b, off, none⟩ ∧ w.cell? ⟨b, off + i, none⟩ = some (.int .i64 (l.getD i 0))) := by
    intro i hi
    rcases h' with h | ⟨b, off, rfl, h, _⟩
    · rw [h] at hi; simp at hi
    · exact ⟨b, off, rfl, h i hi⟩
  have HB : Hid (∀ k, k ≤ l.length → -1000000000 ≤ tot (l.take k) ∧ tot (l.take k) ≤ 1000000000) := fun k hk => by
    have := tot_abs (M := 1000000) (by decide) (l := l.take k) (fun x hx => hb x (mem_take' hx))
    rw [List.length_take] at this
    have h2 : ((min k l.length : Nat) : Int) ≤ 1000 := by omega
    have : ((min k l.length : Nat) : Int) * 1000000 ≤ 1000 * 1000000 := Int.mul_le_mul_of_nonneg_right h2 (by decide)
    omega
  clear h h' hb
  go_enter Tryz.func59, Tryz.ntmps59
  go_wp2
  go_loop [3, 4] (fun s i => ∃ k : Nat, k ≤ l.length ∧ i = .int .i64 k ∧ s = .int .i64 (tot (l.take k))) (fun _ i => l.length - (intOf i).toNat)
  case atStart => exact ⟨0, by omega, rfl, rfl⟩
  case round =>
    obtain ⟨k, hk, rfl, rfl⟩ := hrel
    by_cases hlt : k < l.length
    · obtain ⟨b, off, rfl, c0⟩ := HC.out k hlt
      have hs := tot_step l k hlt
      have b1 := HB.out k hk
      have b2 := HB.out (k + 1) hlt
      rw [hs] at b2
      have HS : Hid (tot (l.take (k + 1)) = tot (l.take k) + l.getD k 0) := hs
      clear hs
      generalize tot (l.take k) = t at *
      generalize l.getD k 0 = y at *
      go_wp2
      go_round
      case rel => exact ⟨k + 1, by omega, by go_num, by rw [HS.out]⟩
      case measure => simp [intOf]; omega
    · have HT : Hid (tot (l.take k) = tot l) := by show _ = _; rw [List.take_of_length_le (by omega)]
      go_wp2
      go_ret
      exact ⟨by rw [← HT.out]; rfl, rfl⟩
end Ev
end Go.Proofs.YtpnmmmlckdkcdakGreatDoor
