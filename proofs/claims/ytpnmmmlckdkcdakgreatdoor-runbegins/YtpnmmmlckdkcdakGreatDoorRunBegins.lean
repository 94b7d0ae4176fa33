/- The law RunBegins returns true for every input, from what is asked of package run's Run: the answers to a beginning are a beginning of the answers. -/
import Derived.Test.YtpnmmmlckdkcdakGreatDoorPlains
namespace Go.Proofs.YtpnmmmlckdkcdakGreatDoor
namespace Ev
open Go.RowKit Fr Ns Ld Fl
set_option linter.unusedSimpArgs false
set_option linter.unusedVariables false

theorem txt_size (t : Txt) : (⟨t.toArray⟩ : ByteArray).size = t.length := by show t.toArray.size = _; simp
theorem txt_at {t : Txt} {k : Nat} (h : k < (⟨t.toArray⟩ : ByteArray).size) : (⟨t.toArray⟩ : ByteArray)[k]'h = t.getD k 0 := by
  rw [txt_size] at h
  rw [List.getD, List.getElem?_eq_getElem h]; rfl
theorem begin_pre {t : Txt} {k : Nat} (h : t.length ≤ 3000) (hk : k ≤ t.length) (hJ : k = t.length ∨ k = 0 ∨ t.getD (k - 1) 0 = 10) : ∃ r, runT t = runT (t.take k) ++ r := by
  rcases hJ with rfl | rfl | hJ
  · exact ⟨[], by rw [List.take_length]; simp⟩
  · refine ⟨runT t, ?_⟩
    have : runT (t.take 0) = [] := by simp; decide
    rw [this]; rfl
  · by_cases h0 : k = 0
    · subst h0
      refine ⟨runT t, ?_⟩
      have : runT (t.take 0) = [] := by simp; decide
      rw [this]; rfl
    · have hlt : k - 1 < t.length := by omega
      have e1 : t.take k = t.take (k - 1) ++ [10] := by
        have e : k = (k - 1) + 1 := by omega
        conv => lhs; rw [e]
        rw [List.take_add_one, ← hJ, List.getD, List.getElem?_eq_getElem hlt]; rfl
      have e2 : t = t.take (k - 1) ++ 10 :: t.drop k := by
        conv => lhs; rw [← List.take_append_drop k t]
        rw [e1]; simp
      rw [e1]
      have h3 : (t.take (k - 1) ++ 10 :: t.drop k).length ≤ 3000 := by rw [← e2]; exact h
      have := run_pre h3
      rw [← e2] at this
      exact this

set_option maxRecDepth 100000 in
set_option maxHeartbeats 4000000 in
theorem runBegins_walk (t : Txt) (m : Int) (w : World) (hR : RunAt w) (ht : t.length ≤ 9223372036854775807) :
    Calls Tryz.prog 5 #[.string ⟨t.toArray⟩, .int .i64 m] w fun e w' => e = .returned (.bool true) ∧ Below w.heap.size w w' := by
  have HF : Hid (∀ u : World, Below w.heap.size w u → Calls Tryz.prog 21 #[.string ⟨beginQ.toArray⟩] u fun e w' => e = .returned (.string ⟨beginA.toArray⟩) ∧ Below u.heap.size u w') := fun u hu => by
    have := hR beginQ u hu (by decide)
    rwa [begin_fact] at this
  have HR : Hid (∀ u : World, Below w.heap.size w u → Calls Tryz.prog 21 #[.string ⟨t.toArray⟩] u fun e w' => e = .returned (.string ⟨(runT t).toArray⟩) ∧ Below u.heap.size u w') := fun u hu => hR t u hu ht
  have HP : Hid (∀ (k : Nat) (u : World), Below w.heap.size w u → Calls Tryz.prog 21 #[.string ((⟨t.toArray⟩ : ByteArray).extract 0 k)] u fun e w' => e = .returned (.string ⟨(runT (t.take k)).toArray⟩) ∧ Below u.heap.size u w') := fun k u hu => by
    have e : (⟨t.toArray⟩ : ByteArray).extract 0 k = ⟨(t.take k).toArray⟩ := by rw [ByteArray.extract_mk]; simp
    rw [e]
    exact hR _ u hu (by rw [List.length_take]; omega)
  have HB : Hid (t.length ≤ 3000 → ∀ k, k ≤ t.length → (k = t.length ∨ k = 0 ∨ t.getD (k - 1) 0 = 10) → ∃ r, runT t = runT (t.take k) ++ r) := fun h k hk hJ => begin_pre h hk hJ
  have hlq : (⟨beginQ.toArray⟩ : ByteArray) = ⟨beginQ.toArray⟩ := rfl
  have HF2 : Hid (∀ u : World, Below w.heap.size w u → Calls Tryz.prog 21 #[.string ⟨beginQ.toArray⟩] u fun e w' => e = .returned (.string ⟨#[45, 10, 111, 107, 10, 111, 107, 10, 111, 107, 10, 98, 97, 100, 10, 51, 32, 51, 32, 57, 10, 51, 10, 111, 107, 10, 54, 32, 54, 10, 52, 47, 53, 10, 52, 32, 51, 10]⟩) ∧ Below u.heap.size u w') := HF
  clear HF hlq
  by_cases hL : 3000 < t.length
  · have e1 : runT t = tLong := by rw [runT, if_pos hL]
    rw [e1] at HR
    have HR2 : Hid (∀ u : World, Below w.heap.size w u → Calls Tryz.prog 21 #[.string ⟨t.toArray⟩] u fun e w' => e = .returned (.string ⟨#[116, 111, 111, 32, 108, 111, 110, 103, 10]⟩) ∧ Below u.heap.size u w') := HR
    clear HR HP HB e1
    go_enter Tryz.func5, Tryz.ntmps5
    go_wp2_with fail
    refine (HF2.out _ (Below.refl _ _)).mono ?_
    rintro e w1 ⟨rfl, hw1⟩
    have B1 : Hid (Below w.heap.size w w1) := hw1
    clear hw1
    go_wp2_with fail
    refine (HR2.out _ B1.out).mono ?_
    rintro e w2 ⟨rfl, hw2⟩
    have B2 : Hid (Below w.heap.size w w2) := Bel.call B1.out (Nat.le_refl _) hw2
    clear hw2
    go_wp2
    go_ret
    exact ⟨rfl, B2.out⟩
  · go_enter Tryz.func5, Tryz.ntmps5
    go_wp2_with fail
    refine (HF2.out _ (Below.refl _ _)).mono ?_
    rintro e w1 ⟨rfl, hw1⟩
    have B1 : Hid (Below w.heap.size w w1) := hw1
    clear hw1
    go_wp2_with fail
    go_loopw [7, 8] (fun sk sn wr => ∃ k n : Nat, k ≤ t.length ∧ n ≤ k ∧ sk = .int .i64 k ∧ sn = .int .i64 n ∧ Hid (k = 0 ∨ t.getD (k - 1) 0 = 10 ∨ (n : Int) < m) ∧ wr = w1) (fun sk _ _ => t.length - (intOf sk).toNat)
    case atStart => exact ⟨0, 0, by omega, by omega, rfl, rfl, .inl rfl, rfl⟩
    case round =>
      obtain ⟨k, n, hk, hn, rfl, rfl, hJ, rfl⟩ := hrel
      by_cases hlt : k < t.length
      · by_cases hm : (n : Int) < m
        · have hsz : k < (⟨t.toArray⟩ : ByteArray).size := by rw [txt_size]; exact hlt
          obtain ⟨b, hb⟩ : ∃ b, t.getD k 0 = b := ⟨_, rfl⟩
          have hby : (⟨t.toArray⟩ : ByteArray)[k]'hsz = b := by rw [txt_at]; exact hb
          have HGet : Hid (t.getD k 0 = b) := hb
          clear hb
          by_cases h10 : b = 10
          · subst h10
            go_wp2
            go_roundw
            case rel => exact ⟨k + 1, n + 1, by omega, by omega, by go_num, by go_num, .inr (.inl HGet.out), trivial⟩
            case measure => simp [intOf]; omega
          · have hq : ((b.toNat : Int) == 10) = false := by
              rw [beq_eq_false_iff_ne]
              intro e
              exact h10 (UInt8.toNat_inj.1 (by have : b.toNat = 10 := by omega
                                               rw [this]; rfl))
            go_wp2
            go_roundw
            case rel => exact ⟨k + 1, n, by omega, by omega, by go_num, rfl, .inr (.inr hm), trivial⟩
            case measure => simp [intOf]; omega
        · obtain ⟨r, hr⟩ := HB.out (by omega) k hk (hJ.out.elim (fun h => .inr (.inl h)) (fun h => h.elim (fun h => .inr (.inr h)) (fun h => absurd h hm)))
          have HP1 : Hid (∀ u : World, Below w.heap.size w u → Calls Tryz.prog 21 #[.string ((⟨t.toArray⟩ : ByteArray).extract 0 k)] u fun e w' => e = .returned (.string ⟨(runT (t.take k)).toArray⟩) ∧ Below u.heap.size u w') := fun u hu => HP.out k u hu
          rw [hr] at HR
          clear HP HB hr
          generalize runT (t.take k) = A at *
          have hx : ((⟨(A ++ r).toArray⟩ : ByteArray).extract 0 A.length).toList = A := by rw [ByteArray.extract_mk, ByteArray.toList_mk]; simp
          have hle : ((A.length : Int) ≤ ((A ++ r).length : Int)) := by simp; omega
          go_wp2_with fail
          refine (HP1.out _ B1.out).mono ?_
          rintro e w2 ⟨rfl, hw2⟩
          have B2 : Hid (Below w.heap.size w w2) := Bel.call B1.out (Nat.le_refl _) hw2
          clear hw2
          go_wp2_with fail
          refine (HR.out _ B2.out).mono ?_
          rintro e w3 ⟨rfl, hw3⟩
          have B3 : Hid (Below w.heap.size w w3) := Bel.call B2.out (Nat.le_refl _) hw3
          clear hw3
          go_wp2
          go_ret
          exact ⟨rfl, B3.out⟩
      · obtain ⟨r, hr⟩ := HB.out (by omega) k hk (by omega)
        have HP1 : Hid (∀ u : World, Below w.heap.size w u → Calls Tryz.prog 21 #[.string ((⟨t.toArray⟩ : ByteArray).extract 0 k)] u fun e w' => e = .returned (.string ⟨(runT (t.take k)).toArray⟩) ∧ Below u.heap.size u w') := fun u hu => HP.out k u hu
        rw [hr] at HR
        clear HP HB hr
        generalize runT (t.take k) = A at *
        have hx : ((⟨(A ++ r).toArray⟩ : ByteArray).extract 0 A.length).toList = A := by rw [ByteArray.extract_mk, ByteArray.toList_mk]; simp
        have hle : ((A.length : Int) ≤ ((A ++ r).length : Int)) := by simp; omega
        go_wp2_with fail
        refine (HP1.out _ B1.out).mono ?_
        rintro e w2 ⟨rfl, hw2⟩
        have B2 : Hid (Below w.heap.size w w2) := Bel.call B1.out (Nat.le_refl _) hw2
        clear hw2
        go_wp2_with fail
        refine (HR.out _ B2.out).mono ?_
        rintro e w3 ⟨rfl, hw3⟩
        have B3 : Hid (Below w.heap.size w w3) := Bel.call B2.out (Nat.le_refl _) hw3
        clear hw3
        go_wp2
        go_ret
        exact ⟨rfl, B3.out⟩
end Ev
end Go.Proofs.YtpnmmmlckdkcdakGreatDoor
