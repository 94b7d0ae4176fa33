/- Package mark's List does what is asked of it. -/
import Derived.Test.YtedplgkohppakagDoorMkA
import Derived.Test.YtedplgkohppakagDoorPlains
namespace Go.Proofs.YtedplgkohppakagDoor
namespace Ev
open Go.RowKit Fr Ns Ld Fl
set_option linter.unusedSimpArgs false
set_option linter.unusedVariables false

theorem mk_set {f : Int} {n k : Nat} (hk : k < n) : (markL f k ++ List.replicate (n - k) false).set k (markB f k) = markL f (k + 1) ++ List.replicate (n - (k + 1)) false := by
  obtain ⟨m, hm⟩ : ∃ m, n - k = m + 1 := ⟨n - k - 1, by omega⟩
  have e : n - (k + 1) = m := by omega
  have e2 : markL f (k + 1) = markL f k ++ [markB f k] := by simp [markL, List.range_succ]
  have hl : (markL f k).length = k := markL_length f k
  rw [hm, e, e2, List.replicate_succ]
  generalize markL f k = a at *
  subst hl
  simp
theorem boolsRowA {Q : Nat → Prop} {w : World} {g : Nat} {l : List Bool} (h : RowAt w g 4 (l.map Value.bool)) (hl : l.length ≤ 9223372036854775807) (hQ : Q g) : BoolsAt Q w (.slice (some ⟨g, 0, none⟩) l.length l.length) l :=
  ⟨_, _, rfl, ⟨Nat.le_refl _, hl⟩, .inr ⟨g, 0, rfl, fun i hi => by rw [Nat.zero_add]; exact h.cell (boolsCell hi), hQ⟩⟩

set_option maxHeartbeats 2000000 in
theorem mlist_said : MListSaid := by
  intro f m w
  cases h1 : inR f 0 1000 with
  | false =>
    have hE : mlstE f m = 1 := by have := inR_0.1 h1; rw [mlstE, if_pos (by omega)]
    rw [hE]
    have H1 : Hid (∀ u : World, Calls Tryd.prog 9 #[.int .i64 f] u fun e w' => e = .returned (.bool false) ∧ w' = u) := fun u => mmay_is h1 u
    clear h1 hE
    rw [okL_ne (by decide)]
    go_enter Tryd.func8, Tryd.ntmps8
    go_wp2_with fail
    refine (H1.out _).mono ?_
    rintro e w1 ⟨rfl, rfl⟩
    go_wp2
    exact bodyPost_ret (v := .tuple #[.slice none 0 0, .iface 36 (.int .i64 1)]) (by simp [results, Tryd.results8, go_sem]) rfl ⟨_, rfl, bools_nil _ _, Below.refl _ _⟩
  | true =>
    have H1 : Hid (∀ u : World, Calls Tryd.prog 9 #[.int .i64 f] u fun e w' => e = .returned (.bool true) ∧ w' = u) := fun u => mmay_is h1 u
    cases h2 : inR m 0 60 with
    | false =>
      have hE : mlstE f m = 1 := by have := inR_0.1 h2; rw [mlstE, if_pos (by omega)]
      rw [hE]
      have H2 : Hid (∀ u : World, Calls Tryd.prog 10 #[.int .i64 m, .int .i64 0, .int .i64 60] u fun e w' => e = .returned (.bool false) ∧ w' = u) := fun u => mwithin_is h2 u
      clear h1 h2 hE
      rw [okL_ne (by decide)]
      go_enter Tryd.func8, Tryd.ntmps8
      go_wp2_with fail
      refine (H1.out _).mono ?_
      rintro e w1 ⟨rfl, rfl⟩
      go_wp2_with fail
      refine (H2.out _).mono ?_
      rintro e w1 ⟨rfl, rfl⟩
      go_wp2
      exact bodyPost_ret (v := .tuple #[.slice none 0 0, .iface 36 (.int .i64 1)]) (by simp [results, Tryd.results8, go_sem]) rfl ⟨_, rfl, bools_nil _ _, Below.refl _ _⟩
    | true =>
      have H2 : Hid (∀ u : World, Calls Tryd.prog 10 #[.int .i64 m, .int .i64 0, .int .i64 60] u fun e w' => e = .returned (.bool true) ∧ w' = u) := fun u => mwithin_is h2 u
      have a1 := inR_1.1 h1
      have a2 := inR_1.1 h2
      have hE : mlstE f m = 0 := by rw [mlstE, if_neg (by omega)]
      rw [hE]
      obtain ⟨n, rfl⟩ : ∃ n : Nat, m = n := ⟨m.toNat, by omega⟩
      have hn : n ≤ 60 := by omega
      have HM : Hid (∀ (k : Nat), k < n → ∀ u : World, Calls Tryd.prog 11 #[.int .i64 f, .int .i64 k] u fun e w' => e = .returned (.bool (markB f k)) ∧ w' = u) := fun k hk u => marked_any f k u a1.1 a1.2 (by omega) (by omega)
      have HS : Hid (∀ k : Nat, k < n → (markL f k ++ List.replicate (n - k) false).set k (markB f k) = markL f (k + 1) ++ List.replicate (n - (k + 1)) false) := fun k hk => mk_set hk
      have HLn : Hid (∀ k : Nat, (markL f k).length = k) := fun k => markL_length f k
      have H0 : Hid (markL f 0 = []) := rfl
      show Calls _ _ _ _ fun e w' => ∃ y, e = .returned (.tuple #[y, .nilIface]) ∧ BoolsAt (fun b => w.heap.size ≤ b) w' y (markL f n) ∧ _
      obtain ⟨L, hL⟩ : ∃ L : Nat → List Bool, ∀ k, markL f k = L k := ⟨_, fun _ => rfl⟩
      simp only [hL] at HS HLn H0 ⊢
      obtain ⟨i0, hi, hz0, hz1, hz2⟩ := info_parts infoB
      obtain ⟨A, hA, hmk⟩ : ∃ A : Array Value, A.toList = (List.replicate n false).map Value.bool ∧ ∀ u : World, (Instr.makeSlice 30 (.int .i64 n) (.int .i64 n)).run Tryd.prog u = .ok (.slice (some ⟨u.heap.size, 0, none⟩) n n) (u.alloc (.cells A 4)) := by
        refine ⟨madeCells #[.bool false] n, madeB _, fun u => ?_⟩
        have hr := run_make (P := Tryd.prog) u 30 4 i0 (.bool false) Tryd.underlying30 hi hz0 .i64 .i64 n n (by omega) (Int.le_refl _) (by rw [hz2]; omega) (by omega)
        simpa [hz1, Value.cells] using hr
      have S3 : Hid (RowAt (w.alloc (.cells A 4)) w.heap.size 4 ((L 0 ++ List.replicate (n - 0) false).map Value.bool)) := by
        rw [H0.out]
        exact row_made _ _ _ _ _ rfl hA
      have B3 : Hid (Below w.heap.size w (w.alloc (.cells A 4))) := (Below.refl _ _).alloc (Nat.le_refl _) _
      clear h1 h2 a1 a2 hE hL hA
      go_enter Tryd.func8, Tryd.ntmps8
      go_wp2_with fail
      refine (H1.out _).mono ?_
      rintro e w1 ⟨rfl, rfl⟩
      go_wp2_with fail
      refine (H2.out _).mono ?_
      rintro e w1 ⟨rfl, rfl⟩
      go_wp2
      go_loopw [7, 20] (fun _ i wr => ∃ k : Nat, k ≤ n ∧ i = .int .i64 k ∧ Hid (RowAt wr w1.heap.size 4 ((L k ++ List.replicate (n - k) false).map Value.bool)) ∧ Hid (Below w1.heap.size w1 wr)) (fun _ i _ => n - (intOf i).toNat)
      case atStart => exact ⟨0, by omega, rfl, S3, B3⟩
      case round =>
        clear S3 B3
        obtain ⟨k, hk, rfl, hro, hbel⟩ := hrel
        by_cases hlt : k < n
        · have HM1 : Hid (∀ u : World, Calls Tryd.prog 11 #[.int .i64 f, .int .i64 k] u fun e w' => e = .returned (.bool (markB f k)) ∧ w' = u) := HM.out k hlt
          have hs := HS.out k hlt
          have HN : Hid (RowAt (wr.setCell ⟨w1.heap.size, k, none⟩ (.bool (markB f k))) w1.heap.size 4 ((L (k + 1) ++ List.replicate (n - (k + 1)) false).map Value.bool)) := by
            have := hro.out.set k (.bool (markB f k))
            rw [← List.map_set, hs] at this
            exact this
          have hcell : ∃ z, wr.cell? ⟨w1.heap.size, k, none⟩ = some z := by
            have hlen : k < ((L k ++ List.replicate (n - k) false).map Value.bool).length := by have := HLn.out k; simp; omega
            exact ⟨_, hro.out.cell (List.getElem?_eq_getElem hlen)⟩
          obtain ⟨z, cz⟩ := hcell
          have fz := hro.out.frozen k
          have gz := hro.out.lt
          have HBn : Hid (Below w1.heap.size w1 (wr.setCell ⟨w1.heap.size, k, none⟩ (.bool (markB f k)))) := hbel.out.setCell (Nat.le_refl _) _
          clear hs
          generalize markB f k = mb at *
          go_wp2_with fail
          refine (HM1.out _).mono ?_
          rintro e w2 ⟨rfl, rfl⟩
          go_wp2
          go_roundw
          case rel => exact ⟨k + 1, by omega, by go_num, HN, HBn⟩
          case measure => simp [intOf]; omega
        · obtain rfl : k = n := by omega
          have HI : Hid (BoolsAt (fun b => w1.heap.size ≤ b) wr (.slice (some ⟨w1.heap.size, 0, none⟩) k k) (L k)) := by
            have hln := HLn.out k
            have := hro.out
            rw [Nat.sub_self] at this
            have h2 := boolsRowA (Q := fun b => w1.heap.size ≤ b) (l := L k) (g := w1.heap.size) (w := wr) (by simpa using this) (by omega) (Nat.le_refl _)
            rw [hln] at h2
            exact h2
          go_wp2
          exact bodyPost_ret (v := .tuple #[.slice (some ⟨w1.heap.size, 0, none⟩) k k, .nilIface]) (by simp [results, Tryd.results8, go_sem]) rfl ⟨_, rfl, HI.out, hbel.out⟩
end Ev
end Go.Proofs.YtedplgkohppakagDoor
