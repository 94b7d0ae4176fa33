/- Pieces of one walk, one text behind the other. -/
import Derived.Test.YtpnmmmlckdkcdakGreatDoorChecked
import Derived.Test.YtpnmmmlckdkcdakGreatDoorPlains
import Derived.WalkKit
import Derived.WalkSpells
import Derived.WalkLawsBesides
import Derived.Deep.QuietTactic
import Derived.BigQuiet
import Derived.Deep.RegionHeld3
/- Contracts of the small functions of package frac: the bounds, the divisor, lowest terms. -/
namespace Go.Proofs.YtpnmmmlckdkcdakGreatDoor
namespace Fr
open Go.RowKit

theorem ret_int {k : IntKind} {a b : Int} (h : a = b) : Ending.returned (.int k a) = .returned (.int k b) := by rw [h]
theorem ret_boolF {a b : Bool} (h : a = b) : Ending.returned (.bool a) = .returned (.bool b) := by rw [h]

set_option maxRecDepth 100000 in
set_option maxHeartbeats 400000 in
theorem mayBe_any (t b : Int) (w : World) :
    Calls Tryz.prog 102 #[.int .i64 t, .int .i64 b] w fun e w' => e = .returned (.bool (mayB t b)) ∧ w' = w := by
  go_enter Tryz.func102, Tryz.ntmps102
  go_wp2
  all_goals
    go_ret
    refine ⟨ret_boolF ?_, rfl⟩
    simp only [mayB]
    first | (apply decide_eq_decide.2; omega) | (symm; apply decide_eq_false; omega)

set_option maxRecDepth 100000 in
set_option maxHeartbeats 400000 in
theorem isNaN_any (x : Int) (w : World) :
    Calls Tryz.prog 104 #[.int .i64 x] w fun e w' => e = .returned (.bool false) ∧ w' = w := by
  go_enter Tryz.func104, Tryz.ntmps104
  go_wp2
  go_ret
  exact ⟨by simp, rfl⟩

set_option maxRecDepth 100000 in
set_option maxHeartbeats 400000 in
theorem divisor_any (a b : Nat) (w : World) (ha : a ≤ 9223372036854775807) (hb : b ≤ 9223372036854775807) :
    Calls Tryz.prog 128 #[.int .i64 a, .int .i64 b] w fun e w' => e = .returned (.int .i64 (Nat.gcd a b)) ∧ ∃ n, w' = w.drewN n := by
  go_enter Tryz.func128, Tryz.ntmps128
  go_wp2
  go_loopw [0, 1] (fun x y wr => ∃ p q n : Nat, x = .int .i64 p ∧ y = .int .i64 q ∧ p ≤ 9223372036854775807 ∧ q ≤ 9223372036854775807 ∧ Hid (Nat.gcd p q = Nat.gcd a b) ∧ wr = w.drewN n) (fun _ y _ => (intOf y).toNat)
  case atStart => exact ⟨a, b, 0, rfl, rfl, ha, hb, rfl, rfl⟩
  case round =>
    obtain ⟨p, q, n, rfl, rfl, hp, hq, hg, rfl⟩ := hrel
    by_cases hz : q = 0
    · subst hz
      go_wp2
      go_ret
      refine ⟨ret_int ?_, n, rfl⟩
      have := hg.out
      rw [Nat.gcd_zero_right] at this
      rw [this]
    · have hq1 : (1 : Int) ≤ (q : Int) := by omega
      have hne : ((q : Int) == 0) = false := by simp; omega
      go_wp2
      go_quiet (fail)
      go_wp2
      go_roundw
      case rel =>
        refine ⟨q, p % q, n + nq, rfl, by go_num, hq, ?_, ?_, by simp⟩
        · have := Nat.mod_lt p (show q > 0 by omega); omega
        · have := hg.out; show Nat.gcd q (p % q) = Nat.gcd a b; rw [← this, Nat.gcd_comm, ← Nat.gcd_rec, Nat.gcd_comm]
      case measure =>
        have := Nat.mod_lt p (show q > 0 by omega)
        show ((p : Int) % (q : Int)).toNat < ((q : Int)).toNat
        omega

theorem divisor_int (x y : Int) (w : World) (hx : 0 ≤ x) (hx' : x ≤ 9223372036854775807) (hy : 0 ≤ y) (hy' : y ≤ 9223372036854775807) :
    Calls Tryz.prog 128 #[.int .i64 x, .int .i64 y] w fun e w' => e = .returned (.int .i64 (gd x y)) ∧ ∃ n, w' = w.drewN n := by
  obtain ⟨a, rfl⟩ := Int.eq_ofNat_of_zero_le hx
  obtain ⟨b, rfl⟩ := Int.eq_ofNat_of_zero_le hy
  exact divisor_any a b w (by omega) (by omega)

/-- the call of the built-in max, then the divisor -/
theorem max_abs (t : Int) : max t (-t) = (t.natAbs : Int) := by omega

set_option maxRecDepth 100000 in
set_option maxHeartbeats 400000 in
theorem lowest_any (t b : Int) (w : World) (h1 : -1000000000000000000 ≤ t) (h2 : t ≤ 1000000000000000000) (h3 : 1 ≤ b) (h4 : b ≤ 1000000000000000000) :
    Calls Tryz.prog 103 #[.int .i64 t, .int .i64 b] w fun e w' => e = .returned (.agg #[.int .i64 (lowT t b), .int .i64 (lowB t b)]) ∧ Below w.heap.size w w' := by
  have hg1 := gd_pos (t := t) h3
  by_cases h0 : 0 ≤ t
  · go_enter Tryz.func103, Tryz.ntmps103
    go_wp2_with fail
    refine (divisor_int t b _ (by omega) (by omega) (by omega) (by omega)).mono ?_
    rintro e w1 ⟨rfl, n, rfl⟩
    go_wp2
    go_region
    go_wp2
    exact bodyPost_ret (v := .agg #[.int .i64 (lowT t b), .int .i64 (lowB t b)]) (by simp [results, Tryz.results103, go_sem, lowT, lowB]) rfl ⟨rfl, ((below_drewN ((Below.refl _ _).alloc (Nat.le_refl _) _) _).setCell (Nat.le_refl _) _).setCell (Nat.le_refl _) _⟩
  · have h0' : t < 0 := by omega
    go_enter Tryz.func103, Tryz.ntmps103
    go_wp2_with fail
    refine (divisor_int (-t) b _ (by omega) (by omega) (by omega) (by omega)).mono ?_
    rintro e w1 ⟨rfl, n, rfl⟩
    rw [gd_neg]
    go_wp2
    go_region
    go_wp2
    exact bodyPost_ret (v := .agg #[.int .i64 (lowT t b), .int .i64 (lowB t b)]) (by simp [results, Tryz.results103, go_sem, lowT, lowB, tdiv_gd]) rfl ⟨rfl, ((below_drewN ((Below.refl _ _).alloc (Nat.le_refl _) _) _).setCell (Nat.le_refl _) _).setCell (Nat.le_refl _) _⟩
end Fr
end Go.Proofs.YtpnmmmlckdkcdakGreatDoor

/- Contracts of package frac's checkAll over one fraction and over two. -/
namespace Go.Proofs.YtpnmmmlckdkcdakGreatDoor
namespace Fr
open Go.RowKit

theorem lowest_at (t b x y : Int) (w : World) (hx : Hid (lowT t b = x)) (hy : Hid (lowB t b = y)) (h1 : -1000000000000000000 ≤ t) (h2 : t ≤ 1000000000000000000) (h3 : 1 ≤ b) (h4 : b ≤ 1000000000000000000) :
    Calls Tryz.prog 103 #[.int .i64 t, .int .i64 b] w fun e w' => e = .returned (.agg #[.int .i64 x, .int .i64 y]) ∧ Below w.heap.size w w' := by
  have := lowest_any t b w h1 h2 h3 h4
  rw [hx.out, hy.out] at this
  exact this

/-- three cases: in lowest terms; not, by the top; not, by the bottom -/
theorem low_cases (t b : Int) : (isLow t b = true ∧ Hid (lowT t b = t) ∧ Hid (lowB t b = b)) ∨ (isLow t b = false ∧ ∃ x y, Hid (lowT t b = x) ∧ Hid (lowB t b = y) ∧ ¬ t = x) ∨ (isLow t b = false ∧ ∃ y, Hid (lowT t b = t) ∧ Hid (lowB t b = y) ∧ ¬ b = y) := by
  by_cases ht : t = lowT t b
  · by_cases hb : b = lowB t b
    · exact .inl ⟨by simp only [isLow]; exact decide_eq_true ⟨ht, hb⟩, ht.symm, hb.symm⟩
    · exact .inr (.inr ⟨by simp only [isLow]; exact decide_eq_false (fun h => hb h.2), _, ht.symm, rfl, hb⟩)
  · exact .inr (.inl ⟨by simp only [isLow]; exact decide_eq_false (fun h => ht h.1), _, _, rfl, rfl, ht⟩)

theorem below_round {w wr w1 : World} {o : Obj} (hbw : Below w.heap.size w wr) (hb1 : Below (wr.alloc o).drew.heap.size (wr.alloc o).drew w1) : Below w.heap.size w w1 :=
  ((hbw.alloc hbw.size o).drew).trans (hb1.mono (by have := hbw.size; simp; omega))

set_option maxRecDepth 100000 in
set_option maxHeartbeats 1000000 in
theorem checkAll1 (B : Nat) (t b : Int) (w : World) (hB : B < w.heap.size)
    (c0 : w.cell? ⟨B, 0, none⟩ = some (.int .i64 t)) (c1 : w.cell? ⟨B, 1, none⟩ = some (.int .i64 b)) :
    Calls Tryz.prog 73 #[.slice (some ⟨B, 0, none⟩) 1 1] w fun e w' => e = .returned (errV (fault t b)) ∧ Below w.heap.size w w' := by
  have R1 : ∀ k : Int, k ≠ 0 → fault t b = k → Ending.returned (.iface 65 (.int .i64 k)) = .returned (errV (fault t b)) := fun k h0 h => by rw [h, errV_ne h0]
  have H1 : Hid (∀ k : Int, k ≠ 0 → fault t b = k → Ending.returned (.iface 65 (.int .i64 k)) = .returned (errV (fault t b))) := R1
  clear R1
  go_enter Tryz.func73, Tryz.ntmps73
  go_wp2
  go_loopw [7] (fun i wr => Below w.heap.size w wr ∧ (i = .int .i64 0 ∨ i = .int .i64 1 ∧ Hid (fault t b = 0))) (fun i _ => 1 - (intOf i).toNat)
  case atStart => exact ⟨Below.refl _ _, Or.inl rfl⟩
  case round =>
    obtain ⟨hbw, hk⟩ := hrel
    rcases hk with rfl | ⟨rfl, hf⟩
    · have d0 : wr.cell? ⟨B, 0, none⟩ = some (.int .i64 t) := (hbw.cell (p := ⟨B, 0, none⟩) hB).trans c0
      have d1 : wr.cell? ⟨B, 1, none⟩ = some (.int .i64 b) := (hbw.cell (p := ⟨B, 1, none⟩) hB).trans c1
      clear c0 c1
      by_cases hm : mayB t b = true
      · obtain ⟨m1, m2, m3, m4⟩ := mayB_iff.1 hm
        have Hm : Hid (mayB t b = true) := hm
        clear hm
        rcases low_cases t b with ⟨l0, lx, ly⟩ | ⟨l0, x, y, lx, ly, ln⟩ | ⟨l0, y, lx, ly, ln⟩
        · have L0 : Hid (isLow t b = true) := l0
          clear l0
          go_wp2_with (go_at_call 102; refine (mayBe_any t b _).mono ?_; rintro e w' ⟨rfl, rfl⟩; rw [Hm.out])
          go_region_held3 (fun w' => w'.cell? ⟨wr.heap.size, 0, none⟩ = some (.int .i64 t) ∧ w'.cell? ⟨wr.heap.size, 1, none⟩ = some (.int .i64 b))
              (first | exact ⟨by simp, by simp⟩ | exact ⟨(hb1.cell (p := ⟨wr.heap.size, 0, none⟩) (by simp)).trans (by simp), (hb1.cell (p := ⟨wr.heap.size, 1, none⟩) (by simp)).trans (by simp)⟩)
              (first | (go_at_call 103; refine (lowest_at t b t b _ lx ly (by omega) (by omega) (by omega) (by omega)).mono ?_; rintro e w1 ⟨rfl, hb1⟩))
          go_wp2
          go_roundw
          case rel => exact ⟨below_round hbw hb1, Or.inr <| And.intro rfl <| (show fault t b = 0 by rw [fault, Hm.out, L0.out]; rfl)⟩
          case measure => decide
        · have L0 : Hid (isLow t b = false) := l0
          clear l0
          go_wp2_with (go_at_call 102; refine (mayBe_any t b _).mono ?_; rintro e w' ⟨rfl, rfl⟩; rw [Hm.out])
          go_region_held3 (fun w' => w'.cell? ⟨wr.heap.size, 0, none⟩ = some (.int .i64 t) ∧ w'.cell? ⟨wr.heap.size, 1, none⟩ = some (.int .i64 b))
              (first | exact ⟨by simp, by simp⟩ | exact ⟨(hb1.cell (p := ⟨wr.heap.size, 0, none⟩) (by simp)).trans (by simp), (hb1.cell (p := ⟨wr.heap.size, 1, none⟩) (by simp)).trans (by simp)⟩)
              (first | (go_at_call 103; refine (lowest_at t b x y _ lx ly (by omega) (by omega) (by omega) (by omega)).mono ?_; rintro e w1 ⟨rfl, hb1⟩))
          go_wp2
          go_ret
          exact ⟨H1.out 3 (by decide) (by rw [fault, Hm.out, L0.out]; rfl), below_round hbw hb1⟩
        · have L0 : Hid (isLow t b = false) := l0
          clear l0
          go_wp2_with (go_at_call 102; refine (mayBe_any t b _).mono ?_; rintro e w' ⟨rfl, rfl⟩; rw [Hm.out])
          go_region_held3 (fun w' => w'.cell? ⟨wr.heap.size, 0, none⟩ = some (.int .i64 t) ∧ w'.cell? ⟨wr.heap.size, 1, none⟩ = some (.int .i64 b))
              (first | exact ⟨by simp, by simp⟩ | exact ⟨(hb1.cell (p := ⟨wr.heap.size, 0, none⟩) (by simp)).trans (by simp), (hb1.cell (p := ⟨wr.heap.size, 1, none⟩) (by simp)).trans (by simp)⟩)
              (first | (go_at_call 103; refine (lowest_at t b t y _ lx ly (by omega) (by omega) (by omega) (by omega)).mono ?_; rintro e w1 ⟨rfl, hb1⟩))
          go_wp2
          go_ret
          exact ⟨H1.out 3 (by decide) (by rw [fault, Hm.out, L0.out]; rfl), below_round hbw hb1⟩
      · have Hm : Hid (mayB t b = false) := show mayB t b = false by simpa using hm
        clear hm
        go_wp2_with (go_at_call 102; refine (mayBe_any t b _).mono ?_; rintro e w' ⟨rfl, rfl⟩; rw [Hm.out])
        go_ret
        exact ⟨H1.out 1 (by decide) (by rw [fault, Hm.out]; rfl), hbw.alloc hbw.size _⟩
    · go_wp2
      go_ret
      refine ⟨?_, hbw⟩
      rw [hf.out, errV_0]
      rfl

set_option maxRecDepth 100000 in
set_option maxHeartbeats 1000000 in
theorem checkAll2 (B : Nat) (t b u c : Int) (w : World) (hB : B < w.heap.size)
    (c0 : w.cell? ⟨B, 0, none⟩ = some (.int .i64 t)) (c1 : w.cell? ⟨B, 1, none⟩ = some (.int .i64 b))
    (c2 : w.cell? ⟨B, 2, none⟩ = some (.int .i64 u)) (c3 : w.cell? ⟨B, 3, none⟩ = some (.int .i64 c)) :
    Calls Tryz.prog 73 #[.slice (some ⟨B, 0, none⟩) 2 2] w fun e w' => e = .returned (errV (fault2 t b u c)) ∧ Below w.heap.size w w' := by
  have H1 : Hid (∀ k : Int, k ≠ 0 → fault t b = k → Ending.returned (.iface 65 (.int .i64 k)) = .returned (errV (fault2 t b u c))) := fun k h0 h => by rw [fault2, h, if_neg h0, errV_ne h0]
  have H2 : Hid (fault t b = 0 → ∀ k : Int, k ≠ 0 → fault u c = k → Ending.returned (.iface 65 (.int .i64 k)) = .returned (errV (fault2 t b u c))) := fun hf k h0 h => by rw [fault2, hf, if_pos rfl, h, errV_ne h0]
  go_enter Tryz.func73, Tryz.ntmps73
  go_wp2
  go_loopw [7] (fun i wr => Below w.heap.size w wr ∧ (i = .int .i64 0 ∨ i = .int .i64 1 ∧ Hid (fault t b = 0) ∨ i = .int .i64 2 ∧ Hid (fault t b = 0) ∧ Hid (fault u c = 0))) (fun i _ => 2 - (intOf i).toNat)
  case atStart => exact ⟨Below.refl _ _, Or.inl rfl⟩
  case round =>
    obtain ⟨hbw, hk⟩ := hrel
    rcases hk with rfl | ⟨rfl, hf⟩ | ⟨rfl, hf, hf2⟩
    · have d0 : wr.cell? ⟨B, 0, none⟩ = some (.int .i64 t) := (hbw.cell (p := ⟨B, 0, none⟩) hB).trans c0
      have d1 : wr.cell? ⟨B, 1, none⟩ = some (.int .i64 b) := (hbw.cell (p := ⟨B, 1, none⟩) hB).trans c1
      clear c0 c1 c2 c3
      by_cases hm : mayB t b = true
      · obtain ⟨m1, m2, m3, m4⟩ := mayB_iff.1 hm
        have Hm : Hid (mayB t b = true) := hm
        clear hm
        rcases low_cases t b with ⟨l0, lx, ly⟩ | ⟨l0, x, y, lx, ly, ln⟩ | ⟨l0, y, lx, ly, ln⟩
        · have L0 : Hid (isLow t b = true) := l0
          clear l0
          go_wp2_with (go_at_call 102; refine (mayBe_any t b _).mono ?_; rintro e w' ⟨rfl, rfl⟩; rw [Hm.out])
          go_region_held3 (fun w' => w'.cell? ⟨wr.heap.size, 0, none⟩ = some (.int .i64 t) ∧ w'.cell? ⟨wr.heap.size, 1, none⟩ = some (.int .i64 b))
              (first | exact ⟨by simp, by simp⟩ | exact ⟨(hb1.cell (p := ⟨wr.heap.size, 0, none⟩) (by simp)).trans (by simp), (hb1.cell (p := ⟨wr.heap.size, 1, none⟩) (by simp)).trans (by simp)⟩)
              (first | (go_at_call 103; refine (lowest_at t b t b _ lx ly (by omega) (by omega) (by omega) (by omega)).mono ?_; rintro e w1 ⟨rfl, hb1⟩))
          go_wp2
          go_roundw
          case rel => exact ⟨below_round hbw hb1, Or.inr <| Or.inl <| And.intro rfl <| (show fault t b = 0 by rw [fault, Hm.out, L0.out]; rfl)⟩
          case measure => decide
        · have L0 : Hid (isLow t b = false) := l0
          clear l0
          go_wp2_with (go_at_call 102; refine (mayBe_any t b _).mono ?_; rintro e w' ⟨rfl, rfl⟩; rw [Hm.out])
          go_region_held3 (fun w' => w'.cell? ⟨wr.heap.size, 0, none⟩ = some (.int .i64 t) ∧ w'.cell? ⟨wr.heap.size, 1, none⟩ = some (.int .i64 b))
              (first | exact ⟨by simp, by simp⟩ | exact ⟨(hb1.cell (p := ⟨wr.heap.size, 0, none⟩) (by simp)).trans (by simp), (hb1.cell (p := ⟨wr.heap.size, 1, none⟩) (by simp)).trans (by simp)⟩)
              (first | (go_at_call 103; refine (lowest_at t b x y _ lx ly (by omega) (by omega) (by omega) (by omega)).mono ?_; rintro e w1 ⟨rfl, hb1⟩))
          go_wp2
          go_ret
          exact ⟨H1.out 3 (by decide) (by rw [fault, Hm.out, L0.out]; rfl), below_round hbw hb1⟩
        · have L0 : Hid (isLow t b = false) := l0
          clear l0
          go_wp2_with (go_at_call 102; refine (mayBe_any t b _).mono ?_; rintro e w' ⟨rfl, rfl⟩; rw [Hm.out])
          go_region_held3 (fun w' => w'.cell? ⟨wr.heap.size, 0, none⟩ = some (.int .i64 t) ∧ w'.cell? ⟨wr.heap.size, 1, none⟩ = some (.int .i64 b))
              (first | exact ⟨by simp, by simp⟩ | exact ⟨(hb1.cell (p := ⟨wr.heap.size, 0, none⟩) (by simp)).trans (by simp), (hb1.cell (p := ⟨wr.heap.size, 1, none⟩) (by simp)).trans (by simp)⟩)
              (first | (go_at_call 103; refine (lowest_at t b t y _ lx ly (by omega) (by omega) (by omega) (by omega)).mono ?_; rintro e w1 ⟨rfl, hb1⟩))
          go_wp2
          go_ret
          exact ⟨H1.out 3 (by decide) (by rw [fault, Hm.out, L0.out]; rfl), below_round hbw hb1⟩
      · have Hm : Hid (mayB t b = false) := show mayB t b = false by simpa using hm
        clear hm
        go_wp2_with (go_at_call 102; refine (mayBe_any t b _).mono ?_; rintro e w' ⟨rfl, rfl⟩; rw [Hm.out])
        go_ret
        exact ⟨H1.out 1 (by decide) (by rw [fault, Hm.out]; rfl), hbw.alloc hbw.size _⟩
    · have d0 : wr.cell? ⟨B, 2, none⟩ = some (.int .i64 u) := (hbw.cell (p := ⟨B, 2, none⟩) hB).trans c2
      have d1 : wr.cell? ⟨B, 3, none⟩ = some (.int .i64 c) := (hbw.cell (p := ⟨B, 3, none⟩) hB).trans c3
      clear c0 c1 c2 c3
      by_cases hm : mayB u c = true
      · obtain ⟨m1, m2, m3, m4⟩ := mayB_iff.1 hm
        have Hm : Hid (mayB u c = true) := hm
        clear hm
        rcases low_cases u c with ⟨l0, lx, ly⟩ | ⟨l0, x, y, lx, ly, ln⟩ | ⟨l0, y, lx, ly, ln⟩
        · have L0 : Hid (isLow u c = true) := l0
          clear l0
          go_wp2_with (go_at_call 102; refine (mayBe_any u c _).mono ?_; rintro e w' ⟨rfl, rfl⟩; rw [Hm.out])
          go_region_held3 (fun w' => w'.cell? ⟨wr.heap.size, 0, none⟩ = some (.int .i64 u) ∧ w'.cell? ⟨wr.heap.size, 1, none⟩ = some (.int .i64 c))
              (first | exact ⟨by simp, by simp⟩ | exact ⟨(hb1.cell (p := ⟨wr.heap.size, 0, none⟩) (by simp)).trans (by simp), (hb1.cell (p := ⟨wr.heap.size, 1, none⟩) (by simp)).trans (by simp)⟩)
              (first | (go_at_call 103; refine (lowest_at u c u c _ lx ly (by omega) (by omega) (by omega) (by omega)).mono ?_; rintro e w1 ⟨rfl, hb1⟩))
          go_wp2
          go_roundw
          case rel => exact ⟨below_round hbw hb1, Or.inr <| Or.inr <| And.intro rfl <| And.intro hf <| (show fault u c = 0 by rw [fault, Hm.out, L0.out]; rfl)⟩
          case measure => decide
        · have L0 : Hid (isLow u c = false) := l0
          clear l0
          go_wp2_with (go_at_call 102; refine (mayBe_any u c _).mono ?_; rintro e w' ⟨rfl, rfl⟩; rw [Hm.out])
          go_region_held3 (fun w' => w'.cell? ⟨wr.heap.size, 0, none⟩ = some (.int .i64 u) ∧ w'.cell? ⟨wr.heap.size, 1, none⟩ = some (.int .i64 c))
              (first | exact ⟨by simp, by simp⟩ | exact ⟨(hb1.cell (p := ⟨wr.heap.size, 0, none⟩) (by simp)).trans (by simp), (hb1.cell (p := ⟨wr.heap.size, 1, none⟩) (by simp)).trans (by simp)⟩)
              (first | (go_at_call 103; refine (lowest_at u c x y _ lx ly (by omega) (by omega) (by omega) (by omega)).mono ?_; rintro e w1 ⟨rfl, hb1⟩))
          go_wp2
          go_ret
          exact ⟨H2.out hf.out 3 (by decide) (by rw [fault, Hm.out, L0.out]; rfl), below_round hbw hb1⟩
        · have L0 : Hid (isLow u c = false) := l0
          clear l0
          go_wp2_with (go_at_call 102; refine (mayBe_any u c _).mono ?_; rintro e w' ⟨rfl, rfl⟩; rw [Hm.out])
          go_region_held3 (fun w' => w'.cell? ⟨wr.heap.size, 0, none⟩ = some (.int .i64 u) ∧ w'.cell? ⟨wr.heap.size, 1, none⟩ = some (.int .i64 c))
              (first | exact ⟨by simp, by simp⟩ | exact ⟨(hb1.cell (p := ⟨wr.heap.size, 0, none⟩) (by simp)).trans (by simp), (hb1.cell (p := ⟨wr.heap.size, 1, none⟩) (by simp)).trans (by simp)⟩)
              (first | (go_at_call 103; refine (lowest_at u c u y _ lx ly (by omega) (by omega) (by omega) (by omega)).mono ?_; rintro e w1 ⟨rfl, hb1⟩))
          go_wp2
          go_ret
          exact ⟨H2.out hf.out 3 (by decide) (by rw [fault, Hm.out, L0.out]; rfl), below_round hbw hb1⟩
      · have Hm : Hid (mayB u c = false) := show mayB u c = false by simpa using hm
        clear hm
        go_wp2_with (go_at_call 102; refine (mayBe_any u c _).mono ?_; rintro e w' ⟨rfl, rfl⟩; rw [Hm.out])
        go_ret
        exact ⟨H2.out hf.out 1 (by decide) (by rw [fault, Hm.out]; rfl), hbw.alloc hbw.size _⟩
    · go_wp2
      go_ret
      refine ⟨?_, hbw⟩
      rw [fault2, hf.out, if_pos rfl, hf2.out, errV_0]
      rfl
end Fr
end Go.Proofs.YtpnmmmlckdkcdakGreatDoor

/- What package frac's calls answer, as values. -/
namespace Go.Proofs.YtpnmmmlckdkcdakGreatDoor
namespace Fr
open Go.RowKit
set_option linter.unusedSimpArgs false
set_option linter.unusedVariables false

/-- a fraction, as a value -/
def frV (t b : Int) : Value := .agg #[.int .i64 t, .int .i64 b]
/-- a fraction and an error, as a call gives them back -/
def pairV (t b k : Int) : Value := .tuple #[.agg #[.int .i64 t, .int .i64 b], errV k]
/-- what 'made' answers: the lowest terms, or that it is too much -/
def madeT (t b : Int) : Int := if mayB (lowT t b) (lowB t b) then lowT t b else 0
def madeB (t b : Int) : Int := if mayB (lowT t b) (lowB t b) then lowB t b else 0
def madeE (t b : Int) : Int := if mayB (lowT t b) (lowB t b) then 0 else 4
end Fr
end Go.Proofs.YtpnmmmlckdkcdakGreatDoor

/- What package frac's calls make: lowest terms within the bounds, or that it is too much. -/
namespace Go.Proofs.YtpnmmmlckdkcdakGreatDoor
namespace Fr
open Go.RowKit
set_option linter.unusedSimpArgs false
set_option linter.unusedVariables false

set_option maxHeartbeats 400000 in
theorem made_any (t b : Int) (w : World) (h1 : -1000000000000000000 ≤ t) (h2 : t ≤ 1000000000000000000) (h3 : 1 ≤ b) (h4 : b ≤ 1000000000000000000) :
    Calls Tryz.prog 127 #[.int .i64 t, .int .i64 b] w fun e w' => e = .returned (pairV (madeT t b) (madeB t b) (madeE t b)) ∧ Below w.heap.size w w' := by
  obtain ⟨x, hx⟩ : ∃ x, Hid (lowT t b = x) := ⟨_, rfl⟩
  obtain ⟨y, hy⟩ : ∃ y, Hid (lowB t b = y) := ⟨_, rfl⟩
  cases hm : mayB x y with
  | true =>
    have Hm : Hid (mayB x y = true) := hm
    have HR : Hid (pairV (madeT t b) (madeB t b) (madeE t b) = .tuple #[.agg #[.int .i64 x, .int .i64 y], .nilIface]) := by
      show pairV (madeT t b) (madeB t b) (madeE t b) = .tuple #[.agg #[.int .i64 x, .int .i64 y], .nilIface]
      rw [madeT, madeB, madeE, hx.out, hy.out, hm]; rfl
    clear hm
    go_enter Tryz.func127, Tryz.ntmps127
    go_wp2_with fail
    refine (lowest_at t b x y _ hx hy h1 h2 h3 h4).mono ?_
    rintro e w1 ⟨rfl, hb1⟩
    obtain ⟨hc, hf⟩ := bcell hb1
    have hz : w.heap.size < w1.heap.size := by have := hb1.size; simp at this; omega
    go_wp2_with fail
    refine (mayBe_any x y _).mono ?_
    rintro e w2 ⟨rfl, rfl⟩
    rw [Hm.out]
    go_wp2
    refine bodyPost_ret (v := .tuple #[.agg #[.int .i64 x, .int .i64 y], .nilIface]) (by simp [results, Tryz.results127, go_sem, hc, hz]) rfl ⟨by rw [HR.out], ?_⟩
    have hb0 : Below w.heap.size w w1 := ((Below.refl _ _).alloc (Nat.le_refl _) _).trans (hb1.mono (by simp))
    repeat (first | exact hb0 | refine Below.setCell ?_ (by simp) _ | refine Below.alloc ?_ (by simp; omega) _ | refine Below.drew ?_)
  | false =>
    have Hm : Hid (mayB x y = false) := hm
    have HR : Hid (pairV (madeT t b) (madeB t b) (madeE t b) = .tuple #[.agg #[.int .i64 0, .int .i64 0], .iface 65 (.int .i64 4)]) := by
      show pairV (madeT t b) (madeB t b) (madeE t b) = .tuple #[.agg #[.int .i64 0, .int .i64 0], .iface 65 (.int .i64 4)]
      rw [madeT, madeB, madeE, hx.out, hy.out, hm]; rfl
    clear hm
    go_enter Tryz.func127, Tryz.ntmps127
    go_wp2_with fail
    refine (lowest_at t b x y _ hx hy h1 h2 h3 h4).mono ?_
    rintro e w1 ⟨rfl, hb1⟩
    obtain ⟨hc, hf⟩ := bcell hb1
    have hz : w.heap.size < w1.heap.size := by have := hb1.size; simp at this; omega
    go_wp2_with fail
    refine (mayBe_any x y _).mono ?_
    rintro e w2 ⟨rfl, rfl⟩
    rw [Hm.out]
    go_wp2
    refine bodyPost_ret (v := .tuple #[.agg #[.int .i64 0, .int .i64 0], .iface 65 (.int .i64 4)]) (by simp [results, Tryz.results127, go_sem, hc, hz]) rfl ⟨by rw [HR.out], ?_⟩
    have hb0 : Below w.heap.size w w1 := ((Below.refl _ _).alloc (Nat.le_refl _) _).trans (hb1.mono (by simp))
    repeat (first | exact hb0 | refine Below.setCell ?_ (by simp) _ | refine Below.alloc ?_ (by simp; omega) _ | refine Below.drew ?_)
end Fr
end Go.Proofs.YtpnmmmlckdkcdakGreatDoor

/- Contract of package frac's Add. -/
namespace Go.Proofs.YtpnmmmlckdkcdakGreatDoor
namespace Fr
open Go.RowKit
set_option linter.unusedSimpArgs false
set_option linter.unusedVariables false

theorem made_at (t b x y k : Int) (w : World) (hx : Hid (madeT t b = x)) (hy : Hid (madeB t b = y)) (hk : Hid (madeE t b = k)) (h1 : -1000000000000000000 ≤ t) (h2 : t ≤ 1000000000000000000) (h3 : 1 ≤ b) (h4 : b ≤ 1000000000000000000) :
    Calls Tryz.prog 127 #[.int .i64 t, .int .i64 b] w fun e w' => e = .returned (.tuple #[.agg #[.int .i64 x, .int .i64 y], errV k]) ∧ Below w.heap.size w w' := by
  have := made_any t b w h1 h2 h3 h4
  rw [hx.out, hy.out, hk.out] at this
  exact this

def addE (t b u c : Int) : Int := if fault2 t b u c = 0 then madeE (t * c + u * b) (b * c) else fault2 t b u c
def addT (t b u c : Int) : Int := if fault2 t b u c = 0 then madeT (t * c + u * b) (b * c) else 0
def addB (t b u c : Int) : Int := if fault2 t b u c = 0 then madeB (t * c + u * b) (b * c) else 0

set_option maxHeartbeats 1000000 in
theorem Add_any (t b u c : Int) (w : World) :
    Calls Tryz.prog 101 #[.agg #[.int .i64 t, .int .i64 b], .agg #[.int .i64 u, .int .i64 c]] w fun e w' => e = .returned (pairV (addT t b u c) (addB t b u c) (addE t b u c)) ∧ Below w.heap.size w w' := by
  by_cases hk : fault2 t b u c = 0
  · obtain ⟨f1, f2⟩ := fault2_0 hk
    obtain ⟨m1, m2, m3, m4⟩ := fault_0 f1
    obtain ⟨n1, n2, n3, n4⟩ := fault_0 f2
    have p1 := mul_bd (t := t) (c := c) (A := 1000000000) (C := 100000000) (by omega) (by omega) (by omega) (by omega)
    have p2 := mul_bd (t := u) (c := b) (A := 1000000000) (C := 100000000) (by omega) (by omega) (by omega) (by omega)
    have p3 := mul_bd (t := b) (c := c) (A := 100000000) (C := 100000000) (by omega) (by omega) (by omega) (by omega)
    have p4 : 1 ≤ b * c := Int.mul_pos (show 0 < b by omega) (show 0 < c by omega)
    obtain ⟨q1, q2⟩ := p1
    obtain ⟨q3, q4⟩ := p2
    obtain ⟨_, q6⟩ := p3
    clear f1 f2
    obtain ⟨x, hx⟩ : ∃ x, Hid (madeT (t * c + u * b) (b * c) = x) := ⟨_, rfl⟩
    obtain ⟨y, hy⟩ : ∃ y, Hid (madeB (t * c + u * b) (b * c) = y) := ⟨_, rfl⟩
    obtain ⟨k, hkk⟩ : ∃ k, Hid (madeE (t * c + u * b) (b * c) = k) := ⟨_, rfl⟩
    have HR : Hid (pairV (addT t b u c) (addB t b u c) (addE t b u c) = .tuple #[.agg #[.int .i64 x, .int .i64 y], errV k]) := by
      show pairV (addT t b u c) (addB t b u c) (addE t b u c) = .tuple #[.agg #[.int .i64 x, .int .i64 y], errV k]
      rw [addT, addB, addE, if_pos hk, if_pos hk, if_pos hk, hx.out, hy.out, hkk.out]; rfl
    have Hk : Hid (fault2 t b u c = 0) := hk
    clear hk
    go_enter Tryz.func101, Tryz.ntmps101
    go_wp2_with fail
    refine (checkAll2 (w.heap.size + 1 + 1 + 1) t b u c _ (by simp) (by go_simp) (by go_simp) (by go_simp) (by go_simp)).mono ?_
    rintro e w1 ⟨rfl, hb1⟩
    rw [Hk.out, errV_0]
    obtain ⟨hc, hf⟩ := bcell hb1
    have hz0 : w.heap.size < w1.heap.size := by have := hb1.size; simp at this; omega
    have hz1 : w.heap.size + 1 < w1.heap.size := by have := hb1.size; simp at this; omega
    have hz2 : w.heap.size + 1 + 1 < w1.heap.size := by have := hb1.size; simp at this; omega
    have hb0 : Below w.heap.size w w1 := (((((Below.refl _ _).alloc (Nat.le_refl _) _).alloc (by simp; try omega) _).alloc (by simp; try omega) _).alloc (by simp; try omega) _).trans (hb1.mono (by simp; omega))
    go_wp2_with fail
    refine (made_at (t * c + u * b) (b * c) x y k _ hx hy hkk (by omega) (by omega) (by omega) (by omega)).mono ?_
    rintro e w2 ⟨rfl, hb2⟩
    obtain ⟨hc2, hf2⟩ := bcell hb2
    have hb3 : Below w.heap.size w w2 := hb0.trans (hb2.mono (by omega))
    clear hb0
    go_wp2
    refine bodyPost_ret (v := .tuple #[.agg #[.int .i64 x, .int .i64 y], errV k]) (by simp [results, Tryz.results101, go_sem, hc2, hc, hz0, hz1, hz2]) rfl ⟨by rw [HR.out], ?_⟩
    repeat (first | exact hb3 | refine Below.setCell ?_ (by simp; try omega) _ | refine Below.alloc ?_ (by simp; omega) _ | refine Below.drew ?_)
  · obtain ⟨k, Hk0⟩ : ∃ k, Hid (fault2 t b u c = k) := ⟨_, rfl⟩
    have k0 : k ≠ 0 := by rw [← Hk0.out]; exact hk
    have Hk : Hid (errV (fault2 t b u c) = .iface 65 (.int .i64 k)) := show errV (fault2 t b u c) = .iface 65 (.int .i64 k) by rw [Hk0.out, errV_ne k0]
    have HR : Hid (pairV (addT t b u c) (addB t b u c) (addE t b u c) = .tuple #[.agg #[.int .i64 0, .int .i64 0], .iface 65 (.int .i64 (k))]) := by
      show pairV (addT t b u c) (addB t b u c) (addE t b u c) = .tuple #[.agg #[.int .i64 0, .int .i64 0], .iface 65 (.int .i64 (k))]
      rw [addT, addB, addE, if_neg hk, if_neg hk, if_neg hk, Hk0.out, pairV, errV_ne k0]
    clear hk k0
    go_enter Tryz.func101, Tryz.ntmps101
    go_wp2_with fail
    refine (checkAll2 (w.heap.size + 1 + 1 + 1) t b u c _ (by simp) (by go_simp) (by go_simp) (by go_simp) (by go_simp)).mono ?_
    rintro e w1 ⟨rfl, hb1⟩
    rw [Hk.out]
    obtain ⟨hc, hf⟩ := bcell hb1
    have hz0 : w.heap.size < w1.heap.size := by have := hb1.size; simp at this; omega
    have hz1 : w.heap.size + 1 < w1.heap.size := by have := hb1.size; simp at this; omega
    have hz2 : w.heap.size + 1 + 1 < w1.heap.size := by have := hb1.size; simp at this; omega
    have hb0 : Below w.heap.size w w1 := (((((Below.refl _ _).alloc (Nat.le_refl _) _).alloc (by simp; try omega) _).alloc (by simp; try omega) _).alloc (by simp; try omega) _).trans (hb1.mono (by simp; omega))
    go_wp2
    refine bodyPost_ret (v := .tuple #[.agg #[.int .i64 0, .int .i64 0], .iface 65 (.int .i64 (k))]) (by simp [results, Tryz.results101, go_sem, hc, hz0, hz1, hz2]) rfl ⟨by rw [HR.out], ?_⟩
    repeat (first | exact hb0 | refine Below.setCell ?_ (by simp; try omega) _ | refine Below.alloc ?_ (by simp; omega) _ | refine Below.drew ?_)
end Fr
end Go.Proofs.YtpnmmmlckdkcdakGreatDoor

/- Contract of package frac's By. -/
namespace Go.Proofs.YtpnmmmlckdkcdakGreatDoor
namespace Fr
open Go.RowKit
set_option linter.unusedSimpArgs false
set_option linter.unusedVariables false

def byE (t b n : Int) : Int := if fault t b = 0 then (if (1 ≤ n ∧ n ≤ 1000) then madeE (t) (b * n) else 1) else fault t b
def byT (t b n : Int) : Int := if fault t b = 0 then (if (1 ≤ n ∧ n ≤ 1000) then madeT (t) (b * n) else 0) else 0
def byB (t b n : Int) : Int := if fault t b = 0 then (if (1 ≤ n ∧ n ≤ 1000) then madeB (t) (b * n) else 0) else 0

set_option maxHeartbeats 1000000 in
theorem By_any (t b n : Int) (w : World) :
    Calls Tryz.prog 175 #[.agg #[.int .i64 t, .int .i64 b], .int .i64 n] w fun e w' => e = .returned (pairV (byT t b n) (byB t b n) (byE t b n)) ∧ Below w.heap.size w w' := by
  by_cases hk : fault t b = 0
  · by_cases hn : (1 ≤ n ∧ n ≤ 1000)
    · obtain ⟨r1, r2⟩ := hn
      have hn : (1 ≤ n ∧ n ≤ 1000) := ⟨r1, r2⟩
      obtain ⟨m1, m2, m3, m4⟩ := fault_0 hk
      have p1 := mul_bd (t := b) (c := n) (A := 100000000) (C := 1000) (by omega) (by omega) (by omega) (by omega)
      have p4 : 1 ≤ b * n := Int.mul_pos (show 0 < b by omega) (show 0 < n by omega)
      obtain ⟨q1, q2⟩ := p1
      obtain ⟨x, hx⟩ : ∃ x, Hid (madeT (t) (b * n) = x) := ⟨_, rfl⟩
      obtain ⟨y, hy⟩ : ∃ y, Hid (madeB (t) (b * n) = y) := ⟨_, rfl⟩
      obtain ⟨k, hkk⟩ : ∃ k, Hid (madeE (t) (b * n) = k) := ⟨_, rfl⟩
      have HR : Hid (pairV (byT t b n) (byB t b n) (byE t b n) = .tuple #[.agg #[.int .i64 x, .int .i64 y], errV k]) := by
        show pairV (byT t b n) (byB t b n) (byE t b n) = .tuple #[.agg #[.int .i64 x, .int .i64 y], errV k]
        rw [byT, byB, byE, if_pos hk, if_pos hk, if_pos hk, if_pos hn, if_pos hn, if_pos hn, hx.out, hy.out, hkk.out]; rfl
      have Hk : Hid (fault t b = 0) := hk
      clear hk hn
      go_enter Tryz.func175, Tryz.ntmps175
      go_wp2_with fail
      refine (checkAll1 (w.heap.size + 1 + 1) t b _ (by simp) (by go_simp) (by go_simp)).mono ?_
      rintro e w1 ⟨rfl, hb1⟩
      rw [Hk.out, errV_0]
      obtain ⟨hc, hf⟩ := bcell hb1
      have hz0 : w.heap.size < w1.heap.size := by have := hb1.size; simp at this; omega
      have hz1 : w.heap.size + 1 < w1.heap.size := by have := hb1.size; simp at this; omega
      have hz2 : w.heap.size + 1 + 1 < w1.heap.size := by have := hb1.size; simp at this; omega
      have hb0 : Below w.heap.size w w1 := ((((Below.refl _ _).alloc (Nat.le_refl _) _).alloc (by simp; try omega) _).alloc (by simp; try omega) _).trans (hb1.mono (by simp; omega))
      go_wp2_with fail
      refine (made_at (t) (b * n) x y k _ hx hy hkk (by omega) (by omega) (by omega) (by omega)).mono ?_
      rintro e w2 ⟨rfl, hb2⟩
      obtain ⟨hc2, hf2⟩ := bcell hb2
      have hb3 : Below w.heap.size w w2 := hb0.trans (hb2.mono (by omega))
      clear hb0
      go_wp2
      refine bodyPost_ret (v := .tuple #[.agg #[.int .i64 x, .int .i64 y], errV k]) (by simp [results, Tryz.results175, go_sem, hc2, hc, hz0, hz1, hz2]) rfl ⟨by rw [HR.out], ?_⟩
      repeat (first | exact hb3 | refine Below.setCell ?_ (by simp; try omega) _ | refine Below.alloc ?_ (by simp; omega) _ | refine Below.drew ?_)
    · have HN : Hid (¬ (1 ≤ n ∧ n ≤ 1000)) := hn
      have hn2 : n < 1 ∨ 1000 < n := by omega
      have HR : Hid (pairV (byT t b n) (byB t b n) (byE t b n) = .tuple #[.agg #[.int .i64 0, .int .i64 0], .iface 65 (.int .i64 (1))]) := by
        show pairV (byT t b n) (byB t b n) (byE t b n) = .tuple #[.agg #[.int .i64 0, .int .i64 0], .iface 65 (.int .i64 (1))]
        rw [byT, byB, byE, if_pos hk, if_pos hk, if_pos hk, if_neg hn, if_neg hn, if_neg hn, pairV, errV_ne (by decide)]
      have Hk : Hid (fault t b = 0) := hk
      clear hk hn
      rcases hn2 with hl | hl
      · go_enter Tryz.func175, Tryz.ntmps175
        go_wp2_with fail
        refine (checkAll1 (w.heap.size + 1 + 1) t b _ (by simp) (by go_simp) (by go_simp)).mono ?_
        rintro e w1 ⟨rfl, hb1⟩
        rw [Hk.out, errV_0]
        obtain ⟨hc, hf⟩ := bcell hb1
        have hz0 : w.heap.size < w1.heap.size := by have := hb1.size; simp at this; omega
        have hz1 : w.heap.size + 1 < w1.heap.size := by have := hb1.size; simp at this; omega
        have hz2 : w.heap.size + 1 + 1 < w1.heap.size := by have := hb1.size; simp at this; omega
        have hb0 : Below w.heap.size w w1 := ((((Below.refl _ _).alloc (Nat.le_refl _) _).alloc (by simp; try omega) _).alloc (by simp; try omega) _).trans (hb1.mono (by simp; omega))
        go_wp2
        refine bodyPost_ret (v := .tuple #[.agg #[.int .i64 0, .int .i64 0], .iface 65 (.int .i64 (1))]) (by simp [results, Tryz.results175, go_sem, hc, hz0, hz1, hz2]) rfl ⟨by rw [HR.out], ?_⟩
        repeat (first | exact hb0 | refine Below.setCell ?_ (by simp; try omega) _ | refine Below.alloc ?_ (by simp; omega) _ | refine Below.drew ?_)
      · have hl' : ¬ n < 1 := by omega
        go_enter Tryz.func175, Tryz.ntmps175
        go_wp2_with fail
        refine (checkAll1 (w.heap.size + 1 + 1) t b _ (by simp) (by go_simp) (by go_simp)).mono ?_
        rintro e w1 ⟨rfl, hb1⟩
        rw [Hk.out, errV_0]
        obtain ⟨hc, hf⟩ := bcell hb1
        have hz0 : w.heap.size < w1.heap.size := by have := hb1.size; simp at this; omega
        have hz1 : w.heap.size + 1 < w1.heap.size := by have := hb1.size; simp at this; omega
        have hz2 : w.heap.size + 1 + 1 < w1.heap.size := by have := hb1.size; simp at this; omega
        have hb0 : Below w.heap.size w w1 := ((((Below.refl _ _).alloc (Nat.le_refl _) _).alloc (by simp; try omega) _).alloc (by simp; try omega) _).trans (hb1.mono (by simp; omega))
        go_wp2
        refine bodyPost_ret (v := .tuple #[.agg #[.int .i64 0, .int .i64 0], .iface 65 (.int .i64 (1))]) (by simp [results, Tryz.results175, go_sem, hc, hz0, hz1, hz2]) rfl ⟨by rw [HR.out], ?_⟩
        repeat (first | exact hb0 | refine Below.setCell ?_ (by simp; try omega) _ | refine Below.alloc ?_ (by simp; omega) _ | refine Below.drew ?_)
  · obtain ⟨k, Hk0⟩ : ∃ k, Hid (fault t b = k) := ⟨_, rfl⟩
    have k0 : k ≠ 0 := by rw [← Hk0.out]; exact hk
    have Hk : Hid (errV (fault t b) = .iface 65 (.int .i64 k)) := show errV (fault t b) = .iface 65 (.int .i64 k) by rw [Hk0.out, errV_ne k0]
    have HR : Hid (pairV (byT t b n) (byB t b n) (byE t b n) = .tuple #[.agg #[.int .i64 0, .int .i64 0], .iface 65 (.int .i64 (k))]) := by
      show pairV (byT t b n) (byB t b n) (byE t b n) = .tuple #[.agg #[.int .i64 0, .int .i64 0], .iface 65 (.int .i64 (k))]
      rw [byT, byB, byE, if_neg hk, if_neg hk, if_neg hk, Hk0.out, pairV, errV_ne k0]
    clear hk k0
    go_enter Tryz.func175, Tryz.ntmps175
    go_wp2_with fail
    refine (checkAll1 (w.heap.size + 1 + 1) t b _ (by simp) (by go_simp) (by go_simp)).mono ?_
    rintro e w1 ⟨rfl, hb1⟩
    rw [Hk.out]
    obtain ⟨hc, hf⟩ := bcell hb1
    have hz0 : w.heap.size < w1.heap.size := by have := hb1.size; simp at this; omega
    have hz1 : w.heap.size + 1 < w1.heap.size := by have := hb1.size; simp at this; omega
    have hz2 : w.heap.size + 1 + 1 < w1.heap.size := by have := hb1.size; simp at this; omega
    have hb0 : Below w.heap.size w w1 := ((((Below.refl _ _).alloc (Nat.le_refl _) _).alloc (by simp; try omega) _).alloc (by simp; try omega) _).trans (hb1.mono (by simp; omega))
    go_wp2
    refine bodyPost_ret (v := .tuple #[.agg #[.int .i64 0, .int .i64 0], .iface 65 (.int .i64 (k))]) (by simp [results, Tryz.results175, go_sem, hc, hz0, hz1, hz2]) rfl ⟨by rw [HR.out], ?_⟩
    repeat (first | exact hb0 | refine Below.setCell ?_ (by simp; try omega) _ | refine Below.alloc ?_ (by simp; omega) _ | refine Below.drew ?_)
end Fr
end Go.Proofs.YtpnmmmlckdkcdakGreatDoor

/- Contracts of cmp.Compare over int and of package frac's Compare. -/
namespace Go.Proofs.YtpnmmmlckdkcdakGreatDoor
namespace Fr
open Go.RowKit
set_option linter.unusedSimpArgs false
set_option linter.unusedVariables false

set_option maxHeartbeats 400000 in
theorem cmp_any (x y : Int) (w : World) :
    Calls Tryz.prog 74 #[.int .i64 x, .int .i64 y] w fun e w' => e = .returned (.int .i64 (cmpI x y)) ∧ w' = w := by
  by_cases h1 : x < y
  · have HR : Hid (cmpI x y = -1) := show cmpI x y = -1 by simp [cmpI, h1]
    go_enter Tryz.func74, Tryz.ntmps74
    go_wp2_with (go_at_call 104; refine (isNaN_any _ _).mono ?_; rintro e w' ⟨rfl, rfl⟩)
    go_ret
    exact ⟨ret_int HR.out.symm, rfl⟩
  · by_cases h2 : y < x
    · have HR : Hid (cmpI x y = 1) := show cmpI x y = 1 by simp [cmpI, h1, h2]
      go_enter Tryz.func74, Tryz.ntmps74
      go_wp2_with (go_at_call 104; refine (isNaN_any _ _).mono ?_; rintro e w' ⟨rfl, rfl⟩)
      go_ret
      exact ⟨ret_int HR.out.symm, rfl⟩
    · have HR : Hid (cmpI x y = 0) := show cmpI x y = 0 by simp [cmpI, h1, h2]
      go_enter Tryz.func74, Tryz.ntmps74
      go_wp2_with (go_at_call 104; refine (isNaN_any _ _).mono ?_; rintro e w' ⟨rfl, rfl⟩)
      go_ret
      exact ⟨ret_int HR.out.symm, rfl⟩

def cmpV (t b u c : Int) : Int := if fault2 t b u c = 0 then cmpI (t * c) (u * b) else 0

set_option maxHeartbeats 1000000 in
theorem Compare_any (t b u c : Int) (w : World) :
    Calls Tryz.prog 40 #[.agg #[.int .i64 t, .int .i64 b], .agg #[.int .i64 u, .int .i64 c]] w fun e w' => e = .returned (.tuple #[.int .i64 (cmpV t b u c), errV (fault2 t b u c)]) ∧ Below w.heap.size w w' := by
  by_cases hk : fault2 t b u c = 0
  · obtain ⟨f1, f2⟩ := fault2_0 hk
    obtain ⟨m1, m2, m3, m4⟩ := fault_0 f1
    obtain ⟨n1, n2, n3, n4⟩ := fault_0 f2
    have p1 := mul_bd (t := t) (c := c) (A := 1000000000) (C := 100000000) (by omega) (by omega) (by omega) (by omega)
    have p2 := mul_bd (t := u) (c := b) (A := 1000000000) (C := 100000000) (by omega) (by omega) (by omega) (by omega)
    obtain ⟨q1, q2⟩ := p1
    obtain ⟨q3, q4⟩ := p2
    clear f1 f2
    obtain ⟨k, hkk⟩ : ∃ k, Hid (cmpI (t * c) (u * b) = k) := ⟨_, rfl⟩
    have HR : Hid (Value.tuple #[.int .i64 (cmpV t b u c), errV (fault2 t b u c)] = .tuple #[.int .i64 k, .nilIface]) := by
      show Value.tuple #[.int .i64 (cmpV t b u c), errV (fault2 t b u c)] = .tuple #[.int .i64 k, .nilIface]
      rw [cmpV, if_pos hk, hk, hkk.out, errV_0]
    have Hk : Hid (fault2 t b u c = 0) := hk
    clear hk
    go_enter Tryz.func40, Tryz.ntmps40
    go_wp2_with fail
    refine (checkAll2 (w.heap.size + 1 + 1) t b u c _ (by simp) (by go_simp) (by go_simp) (by go_simp) (by go_simp)).mono ?_
    rintro e w1 ⟨rfl, hb1⟩
    rw [Hk.out, errV_0]
    obtain ⟨hc, hf⟩ := bcell hb1
    have hz0 : w.heap.size < w1.heap.size := by have := hb1.size; simp at this; omega
    have hz1 : w.heap.size + 1 < w1.heap.size := by have := hb1.size; simp at this; omega
    have hb0 : Below w.heap.size w w1 := ((((Below.refl _ _).alloc (Nat.le_refl _) _).alloc (by simp; try omega) _).alloc (by simp; try omega) _).trans (hb1.mono (by simp; omega))
    go_wp2_with fail
    refine (cmp_any _ _ _).mono ?_
    rintro e w2 ⟨rfl, rfl⟩
    rw [hkk.out]
    go_wp2
    go_ret2
    exact ⟨by rw [HR.out]; rfl, hb0⟩
  · obtain ⟨k, Hk0⟩ : ∃ k, Hid (fault2 t b u c = k) := ⟨_, rfl⟩
    have k0 : k ≠ 0 := by rw [← Hk0.out]; exact hk
    have Hk : Hid (errV (fault2 t b u c) = .iface 65 (.int .i64 k)) := show errV (fault2 t b u c) = .iface 65 (.int .i64 k) by rw [Hk0.out, errV_ne k0]
    have HR : Hid (Value.tuple #[.int .i64 (cmpV t b u c), errV (fault2 t b u c)] = .tuple #[.int .i64 0, .iface 65 (.int .i64 k)]) := by
      show Value.tuple #[.int .i64 (cmpV t b u c), errV (fault2 t b u c)] = .tuple #[.int .i64 0, .iface 65 (.int .i64 k)]
      rw [cmpV, if_neg hk, Hk.out]
    clear hk k0
    go_enter Tryz.func40, Tryz.ntmps40
    go_wp2_with fail
    refine (checkAll2 (w.heap.size + 1 + 1) t b u c _ (by simp) (by go_simp) (by go_simp) (by go_simp) (by go_simp)).mono ?_
    rintro e w1 ⟨rfl, hb1⟩
    rw [Hk.out]
    have hb0 : Below w.heap.size w w1 := ((((Below.refl _ _).alloc (Nat.le_refl _) _).alloc (by simp; try omega) _).alloc (by simp; try omega) _).trans (hb1.mono (by simp; omega))
    go_wp2
    go_ret2
    exact ⟨by rw [HR.out]; rfl, hb0⟩
end Fr
end Go.Proofs.YtpnmmmlckdkcdakGreatDoor

/- frac.Add and frac.By of what is right, where the answer may be: no error is told. -/
namespace Go.Proofs.YtpnmmmlckdkcdakGreatDoor
namespace Fl
open Go.RowKit Fr Ns Ld
set_option linter.unusedSimpArgs false
set_option linter.unusedVariables false

theorem f2_mk {t b u c : Int} (h1 : fault t b = 0) (h2 : fault u c = 0) : fault2 t b u c = 0 := by rw [fault2, if_pos h1, h2]
theorem may_of_fault {a : Int × Int} (h : faultP a = 0) : mayB a.1 a.2 = true := (fault_iff.1 h).1
/-- the sum of two that are right, where it is right too -/
theorem FAdd_may {s a : Int × Int} (hs : faultP s = 0) (ha : faultP a = 0) (h : faultP (sumP s a) = 0) (w : World) :
    Calls Tryz.prog 101 #[.agg #[.int .i64 s.1, .int .i64 s.2], .agg #[.int .i64 a.1, .int .i64 a.2]] w fun e w' => e = .returned (.tuple #[.agg #[.int .i64 (sumP s a).1, .int .i64 (sumP s a).2], .nilIface]) ∧ Below w.heap.size w w' := by
  have := Add_any s.1 s.2 a.1 a.2 w
  have hf := f2_mk hs ha
  have hm : mayB (lowT (s.1 * a.2 + a.1 * s.2) (s.2 * a.2)) (lowB (s.1 * a.2 + a.1 * s.2) (s.2 * a.2)) = true := may_of_fault h
  rw [addT, addB, Fr.addE, if_pos hf, if_pos hf, if_pos hf, madeT, madeB, madeE, if_pos hm, if_pos hm, if_pos hm] at this
  exact this
/-- a part of one that is right, where it is right too -/
theorem FBy_may {s : Int × Int} {k : Int} (hs : faultP s = 0) (h1 : 1 ≤ k) (h2 : k ≤ 1000) (h : faultP (partP s k) = 0) (w : World) :
    Calls Tryz.prog 175 #[.agg #[.int .i64 s.1, .int .i64 s.2], .int .i64 k] w fun e w' => e = .returned (.tuple #[.agg #[.int .i64 (partP s k).1, .int .i64 (partP s k).2], .nilIface]) ∧ Below w.heap.size w w' := by
  have := By_any s.1 s.2 k w
  have hf : fault s.1 s.2 = 0 := hs
  have hm : mayB (lowT s.1 (s.2 * k)) (lowB s.1 (s.2 * k)) = true := may_of_fault h
  have hk : 1 ≤ k ∧ k ≤ 1000 := ⟨h1, h2⟩
  rw [byT, byB, byE, if_pos hf, if_pos hf, if_pos hf, if_pos hk, if_pos hk, if_pos hk, madeT, madeB, madeE, if_pos hm, if_pos hm, if_pos hm] at this
  exact this
/-- two that are right, compared -/
theorem FCmp_right {s a : Int × Int} (hs : faultP s = 0) (ha : faultP a = 0) (w : World) :
    Calls Tryz.prog 40 #[.agg #[.int .i64 s.1, .int .i64 s.2], .agg #[.int .i64 a.1, .int .i64 a.2]] w fun e w' => e = .returned (.tuple #[.int .i64 (cmpI (s.1 * a.2) (a.1 * s.2)), .nilIface]) ∧ Below w.heap.size w w' := by
  have := Compare_any s.1 s.2 a.1 a.2 w
  have hf := f2_mk hs ha
  rw [cmpV, if_pos hf, hf, errV_0] at this
  exact this
theorem neg_right {a : Int × Int} (h : faultP a = 0) : faultP (negP a) = 0 := fault_iff.2 ⟨mayB_iff.2 (by have := fault_0 h; show _ ∧ _; simp only [negP]; omega), by show gd (-a.1) a.2 = 1; rw [gd_neg]; exact (fault_iff.1 h).2⟩
end Fl
end Go.Proofs.YtpnmmmlckdkcdakGreatDoor

/- Contract of package frac's Check. -/
namespace Go.Proofs.YtpnmmmlckdkcdakGreatDoor
namespace Fr
open Go.RowKit
set_option linter.unusedSimpArgs false
set_option linter.unusedVariables false

set_option maxHeartbeats 400000 in
theorem Check_any (t b : Int) (w : World) :
    Calls Tryz.prog 99 #[.agg #[.int .i64 t, .int .i64 b]] w fun e w' => e = .returned (errV (fault t b)) ∧ Below w.heap.size w w' := by
  go_enter Tryz.func99, Tryz.ntmps99
  go_wp2_with fail
  refine (checkAll1 (w.heap.size + 1) t b _ (by simp) (by simp) (by simp)).mono ?_
  rintro e w1 ⟨rfl, hb1⟩
  go_wp2
  go_ret
  refine ⟨rfl, ?_⟩
  have hb0 : Below w.heap.size w w1 := (((Below.refl _ _).alloc (Nat.le_refl _) _).alloc (by simp) _).trans (hb1.mono (by simp; omega))
  exact hb0
end Fr
end Go.Proofs.YtpnmmmlckdkcdakGreatDoor

/- Contract of package frac's Of. -/
namespace Go.Proofs.YtpnmmmlckdkcdakGreatDoor
namespace Fr
open Go.RowKit
set_option linter.unusedSimpArgs false
set_option linter.unusedVariables false

/-- what Of answers -/
def ofT (t b : Int) : Int := if mayB t b then lowT t b else 0
def ofB (t b : Int) : Int := if mayB t b then lowB t b else 0
def ofE (t b : Int) : Int := if mayB t b then 0 else 1

set_option maxHeartbeats 400000 in
theorem Of_any (t b : Int) (w : World) :
    Calls Tryz.prog 145 #[.int .i64 t, .int .i64 b] w fun e w' => e = .returned (pairV (ofT t b) (ofB t b) (ofE t b)) ∧ Below w.heap.size w w' := by
  cases hm : mayB t b with
  | true =>
    obtain ⟨m1, m2, m3, m4⟩ := mayB_iff.1 hm
    have Hm : Hid (mayB t b = true) := hm
    have HR : Hid (pairV (ofT t b) (ofB t b) (ofE t b) = .tuple #[.agg #[.int .i64 (lowT t b), .int .i64 (lowB t b)], .nilIface]) := by
      show pairV (ofT t b) (ofB t b) (ofE t b) = .tuple #[.agg #[.int .i64 (lowT t b), .int .i64 (lowB t b)], .nilIface]
      rw [ofT, ofB, ofE, hm]; rfl
    clear hm
    go_enter Tryz.func145, Tryz.ntmps145
    go_wp2_with fail
    refine (mayBe_any t b _).mono ?_
    rintro e w2 ⟨rfl, rfl⟩
    rw [Hm.out]
    go_wp2_with fail
    refine (lowest_any t b _ (by omega) (by omega) (by omega) (by omega)).mono ?_
    rintro e w1 ⟨rfl, hb1⟩
    obtain ⟨hc, hf⟩ := bcell hb1
    have hz : w.heap.size < w1.heap.size := by have := hb1.size; simp at this; omega
    go_wp2
    refine bodyPost_ret (v := .tuple #[.agg #[.int .i64 (lowT t b), .int .i64 (lowB t b)], .nilIface]) (by simp [results, Tryz.results145, go_sem, hc, hz]) rfl ⟨by rw [HR.out], ?_⟩
    have hb0 : Below w.heap.size w w1 := ((Below.refl _ _).alloc (Nat.le_refl _) _).trans (hb1.mono (by simp))
    repeat (first | exact hb0 | refine Below.setCell ?_ (by simp) _ | refine Below.alloc ?_ (by simp; omega) _ | refine Below.drew ?_)
  | false =>
    have Hm : Hid (mayB t b = false) := hm
    have HR : Hid (pairV (ofT t b) (ofB t b) (ofE t b) = .tuple #[.agg #[.int .i64 0, .int .i64 0], .iface 65 (.int .i64 1)]) := by
      show pairV (ofT t b) (ofB t b) (ofE t b) = .tuple #[.agg #[.int .i64 0, .int .i64 0], .iface 65 (.int .i64 1)]
      rw [ofT, ofB, ofE, hm]; rfl
    clear hm
    go_enter Tryz.func145, Tryz.ntmps145
    go_wp2_with fail
    refine (mayBe_any t b _).mono ?_
    rintro e w2 ⟨rfl, rfl⟩
    rw [Hm.out]
    go_wp2
    refine bodyPost_ret (v := .tuple #[.agg #[.int .i64 0, .int .i64 0], .iface 65 (.int .i64 1)]) (by simp [results, Tryz.results145, go_sem]) rfl ⟨by rw [HR.out], ?_⟩
    repeat (first | exact Below.refl _ _ | refine Below.setCell ?_ (by simp) _ | refine Below.alloc ?_ (by simp) _ | refine Below.drew ?_)
end Fr
end Go.Proofs.YtpnmmmlckdkcdakGreatDoor
