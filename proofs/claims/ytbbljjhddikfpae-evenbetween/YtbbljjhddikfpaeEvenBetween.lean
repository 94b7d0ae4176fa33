/- The law EvenBetween returns true for every input, from what is asked of even's and frac's calls: from all for one to all alike. -/
import Derived.Test.YtbbljjhddikfpaePlains
import Derived.Test.YtbbljjhddikfpaeFracOf
import Derived.Test.YtbbljjhddikfpaeFracE
import Derived.BigQuiet
namespace Go.Proofs.Ytbbljjhddikfpae
namespace Ev
open Go.RowKit Fr Ns Ld Fl
set_option linter.unusedSimpArgs false
set_option linter.unusedVariables false

theorem ECmp_right {a b : Int × Int} (ha : faultP a = 0) (hb : faultP b = 0) (w : World) :
    Calls Try.prog 6 #[.agg #[.int .i64 a.1, .int .i64 a.2], .agg #[.int .i64 b.1, .int .i64 b.2]] w fun e w' => e = .returned (.tuple #[.int .i64 (cmpI (a.1 * b.2) (b.1 * a.2)), .nilIface]) ∧ Below w.heap.size w w' := by
  have := Compare_any a.1 a.2 b.1 b.2 w
  have h1 : fault a.1 a.2 = 0 := ha
  have hf : fault2 a.1 a.2 b.1 b.2 = 0 := by rw [fault2, if_pos h1]; exact hb
  rw [cmpV, if_pos hf, hf, errV_0] at this
  exact this
theorem EOf_one {n : Int} (h1 : 1 ≤ n) (h2 : n ≤ 6) (w : World) :
    Calls Try.prog 5 #[.int .i64 1, .int .i64 n] w fun e w' => e = .returned (.tuple #[.agg #[.int .i64 1, .int .i64 n], .nilIface]) ∧ Below w.heap.size w w' := by
  have := Of_any 1 n w
  have hm : mayB 1 n = true := mayB_iff.2 (by omega)
  rw [ofT, ofB, ofE, if_pos hm, if_pos hm, if_pos hm, (low_one h1).1, (low_one h1).2] at this
  exact this
theorem one_right {n : Int} (h1 : 1 ≤ n) (h2 : n ≤ 6) : faultP (1, n) = 0 := fault_of (mayB_iff.2 (by omega)) (low_one h1).1 (low_one h1).2
theorem ev_two (w : World) (g : Nat) (x y : Int) (h0 : w.cell? ⟨g, 0, none⟩ = some (.int .i64 x)) (h1 : w.cell? ⟨g, 1, none⟩ = some (.int .i64 y)) : IntsAt (fun _ => True) w (.slice (some ⟨g, 0, none⟩) 2 2) [x, y] :=
  ⟨_, 2, rfl, ⟨Nat.le_refl _, by simp⟩, .inr ⟨g, 0, rfl, fun i hi => by
    match i, hi with
    | 0, _ => simpa using h0
    | 1, _ => simpa using h1, trivial⟩⟩

set_option maxRecDepth 100000 in
set_option maxHeartbeats 8000000 in
theorem evenBetween_walk (hI : EIndexSaid) (hG : EGapSaid) (hV : EGiveSaid) (l : List Int) (f t m : Int) (v : Value) (w : World) (hv : IntsAt (fun b => b < w.heap.size) w v l) :
    Calls Try.prog 3 #[v, .int .i64 f, .int .i64 t, .int .i64 m] w fun e w' => e = .returned (.bool true) ∧ Below w.heap.size w w' := by
  have HI : Hid (∀ u : World, Below w.heap.size w u → Calls Try.prog 4 #[v] u fun e w' => e = .returned (.tuple #[.agg #[.int .i64 (okF (idxE l) (idx l)).1, .int .i64 (okF (idxE l) (idx l)).2], errV (idxE l)]) ∧ Below u.heap.size u w') := fun u hu => hI _ l v u (hv.later hu)
  have HG : Hid (∀ u : World, Below w.heap.size w u → Calls Try.prog 7 #[v] u fun e w' => e = .returned (.tuple #[.int .i64 (okI (few l 1000) (gapL l)), errV (few l 1000)]) ∧ Below u.heap.size u w') := fun u hu => hG _ l v u (hv.later hu)
  have HV : Hid (∀ u : World, Below w.heap.size w u → Calls Try.prog 8 #[v, .int .i64 f, .int .i64 t, .int .i64 m] u fun e w' => ∃ y, e = .returned (.tuple #[y, errV (giveE l f t m)]) ∧ IntsAt (fun b => u.heap.size ≤ b) w' y (okL (giveE l f t m) (giveL l f.toNat t.toNat m)) ∧ Below u.heap.size u w') := fun u hu => hV _ l f t m v u (hv.later hu)
  obtain ⟨a, cap, rfl, ⟨hm1, hm2⟩, hc⟩ := hv
  have HC : Hid (∀ i, i < l.length → ∃ b off, a = some ⟨b, off, none⟩ ∧ ∀ u, Below w.heap.size w u → u.cell? ⟨b, off + i, none⟩ = some (.int .i64 (l.getD i 0))) := by
    intro i hi
    rcases hc with h | ⟨b, off, rfl, h, _⟩
    · rw [h] at hi; simp at hi
    · exact ⟨b, off, rfl, fun u hu => cell_later hu (h i hi)⟩
  have B0 : Hid (Below w.heap.size w (w.alloc (.cells #[.int .i64 1, .int .i64 0] 3))) := (Below.refl _ _).alloc (Nat.le_refl _) _
  have HL1 : Hid (Calls Try.prog 4 #[.slice (some ⟨w.heap.size, 0, none⟩) 2 2] (w.alloc (.cells #[.int .i64 1, .int .i64 0] 3)) fun e w' => e = .returned (.tuple #[.agg #[.int .i64 1, .int .i64 2], .nilIface]) ∧ Below (w.alloc (.cells #[.int .i64 1, .int .i64 0] 3)).heap.size (w.alloc (.cells #[.int .i64 1, .int .i64 0] 3)) w') := by
    have := hI (fun _ => True) [1, 0] (.slice (some ⟨w.heap.size, 0, none⟩) 2 2) (w.alloc (.cells #[.int .i64 1, .int .i64 0] 3)) (ev_two _ w.heap.size 1 0 (by go_simp) (by go_simp))
    rw [fact10E, okF_0, fact10I, errV_0] at this
    exact this
  clear hc
  by_cases he : idxE l = 0
  · obtain ⟨hf0, ht0⟩ := idxE_0.1 he
    obtain ⟨n1, n6, hb⟩ := few_0.1 hf0
    have hir := idx_right he
    obtain ⟨bt1, bt2, bt3⟩ := idx_between he
    rw [he, okF_0, errV_0] at HI
    rw [hf0, okI_0, errV_0] at HG
    have HOf : Hid (∀ u : World, Calls Try.prog 5 #[.int .i64 1, .int .i64 l.length] u fun e w' => e = .returned (.tuple #[.agg #[.int .i64 1, .int .i64 l.length], .nilIface]) ∧ Below u.heap.size u w') := fun u => EOf_one (by omega) (by omega) u
    have HC1 : Hid (∀ u : World, Calls Try.prog 6 #[.agg #[.int .i64 1, .int .i64 l.length], .agg #[.int .i64 (idx l).1, .int .i64 (idx l).2]] u fun e w' => e = .returned (.tuple #[.int .i64 (cmpI (1 * (idx l).2) ((idx l).1 * (l.length : Int))), .nilIface]) ∧ Below u.heap.size u w') := fun u => ECmp_right (a := (1, (l.length : Int))) (one_right (by omega) (by omega)) hir u
    have HC2 : Hid (∀ u : World, Calls Try.prog 6 #[.agg #[.int .i64 (idx l).1, .int .i64 (idx l).2], .agg #[.int .i64 1, .int .i64 1]] u fun e w' => e = .returned (.tuple #[.int .i64 (cmpI ((idx l).1 * 1) (1 * (idx l).2)), .nilIface]) ∧ Below u.heap.size u w') := fun u => ECmp_right (b := (1, 1)) hir (one_right (by decide) (by decide)) u
    have HGv : Hid (giveE l f t m = 0 → 0 ≤ f ∧ f < l.length ∧ 0 ≤ t ∧ t < l.length ∧ 0 ≤ m ∧ m ≤ 1000 ∧ 0 ≤ l.getD f.toNat 0 ∧ l.getD f.toNat 0 ≤ 1000 ∧ 0 ≤ l.getD t.toNat 0 ∧ l.getD t.toNat 0 ≤ 1000) := fun hg => by
      obtain ⟨_, f0, f1, t0, t1, m0, m1, _, _⟩ := giveE_0 hg
      have bf := hb _ (getD_mem l f.toNat (by omega) 0)
      have bt := hb _ (getD_mem l t.toNat (by omega) 0)
      exact ⟨f0, f1, t0, t1, m0, m1, bf.1, bf.2, bt.1, bt.2⟩
    have HGi : Hid (giveE l f t m = 0 → 2 * m ≤ l.getD f.toNat 0 - l.getD t.toNat 0 → idxE (giveL l f.toNat t.toNat m) = 0 ∧ few (giveL l f.toNat t.toNat m) 1000 = 0 ∧ cmpI ((idx l).1 * (idx (giveL l f.toNat t.toNat m)).2) ((idx (giveL l f.toNat t.toNat m)).1 * (idx l).2) ≤ 0 ∧ gapL (giveL l f.toNat t.toNat m) ≤ gapL l ∧ faultP (idx (giveL l f.toNat t.toNat m)) = 0) := fun hg h2 => by
      obtain ⟨_, f0, f1, t0, t1, m0, m1, _, _⟩ := giveE_0 hg
      have hy := give_few hg
      obtain ⟨g1, g2⟩ := give_idx he hy (by omega) (by omega) m0 h2
      exact ⟨g1, hy, g2, give_gap l _ _ m (by omega) (by omega) m0 h2, idx_right g1⟩
    have HC3 : Hid (∀ (b : Int × Int) (u : World), faultP b = 0 → Calls Try.prog 6 #[.agg #[.int .i64 (idx l).1, .int .i64 (idx l).2], .agg #[.int .i64 b.1, .int .i64 b.2]] u fun e w' => e = .returned (.tuple #[.int .i64 (cmpI ((idx l).1 * b.2) (b.1 * (idx l).2)), .nilIface]) ∧ Below u.heap.size u w') := fun b u hb => ECmp_right hir hb u
    have HI2 : Hid (∀ (y : Value) (l2 : List Int) (R : Nat → Prop) (u : World), idxE l2 = 0 → IntsAt R u y l2 → Calls Try.prog 4 #[y] u fun e w' => e = .returned (.tuple #[.agg #[.int .i64 (idx l2).1, .int .i64 (idx l2).2], .nilIface]) ∧ Below u.heap.size u w') := fun y l2 R u h2 hy => by
      have := hI _ l2 y u hy
      rw [h2, okF_0, errV_0] at this
      exact this
    have HG2 : Hid (∀ (y : Value) (l2 : List Int) (R : Nat → Prop) (u : World), few l2 1000 = 0 → IntsAt R u y l2 → Calls Try.prog 7 #[y] u fun e w' => e = .returned (.tuple #[.int .i64 (gapL l2), .nilIface]) ∧ Below u.heap.size u w') := fun y l2 R u h2 hy => by
      have := hG _ l2 y u hy
      rw [h2, okI_0, errV_0] at this
      exact this
    have hq : Hid (∀ (b : Int), b ≤ 0 → (b = 0 ↔ gapL l = 0) → ((b == 0) = (gapL l == 0))) := fun b _ h => by
      by_cases hb0 : b = 0
      · rw [beq_iff_eq.2 hb0, beq_iff_eq.2 (h.1 hb0)]
      · rw [beq_eq_false_iff_ne.2 hb0, beq_eq_false_iff_ne.2 (fun e => hb0 (h.2 e))]
    generalize cmpI (1 * (idx l).2) ((idx l).1 * (l.length : Int)) = ca at *
    generalize cmpI ((idx l).1 * 1) (1 * (idx l).2) = cb at *
    have qb : (cb == 0) = (gapL l == 0) := hq.out cb bt2 bt3
    clear he hf0 ht0 hb hir bt3 hq hI hG hV
    go_enter Try.func3, Try.ntmps3
    go_wp2_with fail
    refine HL1.out.mono ?_
    rintro e w1 ⟨rfl, hw1⟩
    have B1 : Hid (Below w.heap.size w w1) := B0.out.trans (hw1.mono (by simp))
    have z1 : w.heap.size ≤ w1.heap.size := B1.out.size
    have B1' : Hid (Below w.heap.size w (w1.alloc (.cells #[.int .i64 1, .int .i64 2] 24))) := B1.out.alloc z1 _
    clear hw1 HL1 B0
    go_wp2_with fail
    refine (HI.out _ B1'.out).mono ?_
    rintro e w2 ⟨rfl, hw2⟩
    have B2 : Hid (Below w.heap.size w w2) := Bel.call B1'.out (Nat.le_refl _) hw2
    have z2 : w.heap.size ≤ w2.heap.size := B2.out.size
    have B2' : Hid (Below w.heap.size w (w2.alloc (.cells #[.int .i64 (idx l).1, .int .i64 (idx l).2] 24))) := B2.out.alloc z2 _
    have G2 : Hid (∀ u, Below (w2.heap.size + 1) (w2.alloc (.cells #[.int .i64 (idx l).1, .int .i64 (idx l).2] 24)) u → u.cell? ⟨w2.heap.size, 0, none⟩ = some (.int .i64 (idx l).1) ∧ u.cell? ⟨w2.heap.size, 1, none⟩ = some (.int .i64 (idx l).2) ∧ Below w.heap.size w u) := fun u hu => ⟨(hu.cell (p := ⟨w2.heap.size, 0, none⟩) (by simp)).trans (by simp), (hu.cell (p := ⟨w2.heap.size, 1, none⟩) (by simp)).trans (by simp), B2'.out.trans (hu.mono (by omega))⟩
    have N2 : Hid (w2.heap.size + 1 ≤ (w2.alloc (.cells #[.int .i64 (idx l).1, .int .i64 (idx l).2] 24)).heap.size) := by simp [Hid]
    have hlp : ¬ (l.length : Int) < 1 := by omega
    have hl6 : ¬ (6 : Int) < (l.length : Int) := by omega
    clear hw2
    go_wp2_with fail
    refine (HOf.out _).mono ?_
    rintro e w3 ⟨rfl, hw3⟩
    have B3 : Hid (Below (w2.heap.size + 1) (w2.alloc (.cells #[.int .i64 (idx l).1, .int .i64 (idx l).2] 24)) w3) := Bel.call (Below.refl _ _) N2.out hw3
    have z3 : w2.heap.size + 1 ≤ w3.heap.size := Nat.le_trans N2.out B3.out.size
    have B3' : Hid (Below (w2.heap.size + 1) (w2.alloc (.cells #[.int .i64 (idx l).1, .int .i64 (idx l).2] 24)) (w3.alloc (.cells #[.int .i64 1, .int .i64 l.length] 24))) := B3.out.alloc z3 _
    obtain ⟨g0, g1, _⟩ := G2.out _ B3'.out
    clear hw3
    go_wp2_with fail
    refine (HC1.out _).mono ?_
    rintro e w4 ⟨rfl, hw4⟩
    have B4 : Hid (Below (w2.heap.size + 1) (w2.alloc (.cells #[.int .i64 (idx l).1, .int .i64 (idx l).2] 24)) w4) := Bel.call B3'.out N2.out hw4
    clear hw4 g0 g1
    obtain ⟨g0, g1, W4⟩ := G2.out _ B4.out
    go_wp2_with fail
    refine (HC2.out _).mono ?_
    rintro e w5 ⟨rfl, hw5⟩
    have B5 : Hid (Below (w2.heap.size + 1) (w2.alloc (.cells #[.int .i64 (idx l).1, .int .i64 (idx l).2] 24)) w5) := Bel.call B4.out N2.out hw5
    clear hw5 g0 g1 W4
    have W5 := (show Hid _ from (G2.out _ B5.out).2.2)
    go_wp2_with fail
    refine (HG.out _ W5.out).mono ?_
    rintro e w6 ⟨rfl, hw6⟩
    have B6 : Hid (Below (w2.heap.size + 1) (w2.alloc (.cells #[.int .i64 (idx l).1, .int .i64 (idx l).2] 24)) w6) := Bel.call B5.out N2.out hw6
    have W6 : Hid (Below w.heap.size w w6) := (G2.out _ B6.out).2.2
    have hca : ¬ 0 < ca := by omega
    have hcb : ¬ 0 < cb := by omega
    clear hw6 W5
    by_cases hg : giveE l f t m = 0
    · obtain ⟨f0, f1, t0, t1, m0, m1, v1, v2, v3, v4⟩ := HGv.out hg
      rw [hg, errV_0, okL_0] at HV
      obtain ⟨bl, ol, rfl, hcl⟩ := HC.out f.toNat (by omega)
      obtain ⟨bl', ol', e', hct⟩ := HC.out t.toNat (by omega)
      simp only [Option.some.injEq, Addr.mk.injEq, and_true] at e'
      obtain ⟨rfl, rfl⟩ := e'
      obtain ⟨fn, rfl⟩ : ∃ n : Nat, f = n := ⟨f.toNat, by omega⟩
      obtain ⟨tn, rfl⟩ : ∃ n : Nat, t = n := ⟨t.toNat, by omega⟩
      rw [Int.toNat_natCast] at hcl HV HGi
      rw [Int.toNat_natCast] at hct HV HGi
      rw [Int.toNat_natCast] at v1 v2
      rw [Int.toNat_natCast] at v3 v4
      have HGi' := (show Hid _ from HGi.out hg)
      clear HGv HGi hg
      generalize giveL l fn tn m = GL at *
      generalize l.getD fn 0 = lf at *
      generalize l.getD tn 0 = lt at *
      have hfn : ¬ (fn : Int) < 0 := by omega
      have htn : ¬ (tn : Int) < 0 := by omega
      have hfl : ¬ (l.length : Int) ≤ (fn : Int) := by omega
      have htl : ¬ (l.length : Int) ≤ (tn : Int) := by omega
      have bfn : decide ((fn : Int) < 0) = false := decide_eq_false hfn
      have btn : decide ((tn : Int) < 0) = false := decide_eq_false htn
      have bfl : decide ((l.length : Int) ≤ (fn : Int)) = false := decide_eq_false hfl
      have btl : decide ((l.length : Int) ≤ (tn : Int)) = false := decide_eq_false htl
      have bfm : decide ((fn : Int) < (l.length : Int)) = true := decide_eq_true (by omega)
      have btm : decide ((tn : Int) < (l.length : Int)) = true := decide_eq_true (by omega)
      have bfk : decide ((fn : Int) ≥ (l.length : Int)) = false := decide_eq_false (by omega)
      have btk : decide ((tn : Int) ≥ (l.length : Int)) = false := decide_eq_false (by omega)
      have bfj : (!decide ((fn : Int) < (l.length : Int))) = false := by rw [bfm]; rfl
      have btj : (!decide ((tn : Int) < (l.length : Int))) = false := by rw [btm]; rfl
      have bfi : decide (l.length ≤ fn) = false := decide_eq_false (by omega)
      have bti : decide (l.length ≤ tn) = false := decide_eq_false (by omega)
      go_wp2_with fail
      refine (HV.out _ W6.out).mono ?_
      rintro e w7 ⟨y7, rfl, hy7, hw7⟩
      have B7 : Hid (Below (w2.heap.size + 1) (w2.alloc (.cells #[.int .i64 (idx l).1, .int .i64 (idx l).2] 24)) w7) := Bel.call B6.out N2.out hw7
      have W7 : Hid (Below w.heap.size w w7) := (G2.out _ B7.out).2.2
      have Y7 : Hid (IntsAt (fun _ => True) w7 y7 GL) := hy7.keep (fun _ _ _ => rfl) (fun _ _ _ => trivial)
      have cf := hcl _ W7.out
      have ct := hct _ W7.out
      obtain ⟨a7, n7, c7, rfl⟩ : ∃ a n c, y7 = .slice a n c := by obtain ⟨a, c, e, _⟩ := hy7; exact ⟨_, _, _, e⟩
      clear hw7 hy7 hcl hct
      by_cases h2 : lf - lt < 2 * m
      · go_wp2_with fail
        go_quiet (fail)
        have W8 : Hid (Below w.heap.size w (w7.drewN nq)) := below_drewN W7.out _
        generalize w7.drewN nq = w8 at *
        go_wp2
        go_ret
        exact ⟨Ns.ret_bool rfl, W8.out⟩
      · obtain ⟨j1, j2, j3, j4, j5⟩ := HGi'.out (by omega)
        go_wp2_with fail
        go_quiet (fail)
        have B8 : Hid (Below (w2.heap.size + 1) (w2.alloc (.cells #[.int .i64 (idx l).1, .int .i64 (idx l).2] 24)) (w7.drewN nq)) := below_drewN B7.out _
        have Y8 : Hid (IntsAt (fun _ => True) (w7.drewN nq) (.slice a7 n7 c7) GL) := Y7.out.later (below_drewN (Below.refl _ _) _)
        generalize w7.drewN nq = w8 at *
        have HIy : Hid (Calls Try.prog 4 #[.slice a7 n7 c7] w8 fun e w' => e = .returned (.tuple #[.agg #[.int .i64 (idx GL).1, .int .i64 (idx GL).2], .nilIface]) ∧ Below w8.heap.size w8 w') := HI2.out _ GL _ w8 j1 Y8.out
        have HCy : Hid (∀ u : World, Calls Try.prog 6 #[.agg #[.int .i64 (idx l).1, .int .i64 (idx l).2], .agg #[.int .i64 (idx GL).1, .int .i64 (idx GL).2]] u fun e w' => e = .returned (.tuple #[.int .i64 (cmpI ((idx l).1 * (idx GL).2) ((idx GL).1 * (idx l).2)), .nilIface]) ∧ Below u.heap.size u w') := fun u => HC3.out (idx GL) u j5
        have HGy : Hid (∀ u : World, IntsAt (fun _ => True) u (.slice a7 n7 c7) GL → Calls Try.prog 7 #[.slice a7 n7 c7] u fun e w' => e = .returned (.tuple #[.int .i64 (gapL GL), .nilIface]) ∧ Below u.heap.size u w') := fun u hy => HG2.out _ GL _ u j2 hy
        generalize cmpI ((idx l).1 * (idx GL).2) ((idx GL).1 * (idx l).2) = co at *
        clear cf ct j1 j2 j5 HGi' Y7
        go_wp2_with fail
        refine HIy.out.mono ?_
        rintro e w9 ⟨rfl, hw9⟩
        have B9 : Hid (Below (w2.heap.size + 1) (w2.alloc (.cells #[.int .i64 (idx l).1, .int .i64 (idx l).2] 24)) w9) := Bel.call B8.out N2.out hw9
        have z9 : w2.heap.size + 1 ≤ w9.heap.size := Nat.le_trans N2.out B9.out.size
        have B9' : Hid (Below (w2.heap.size + 1) (w2.alloc (.cells #[.int .i64 (idx l).1, .int .i64 (idx l).2] 24)) (w9.alloc (.cells #[.int .i64 (idx GL).1, .int .i64 (idx GL).2] 24))) := B9.out.alloc z9 _
        have Y9 : Hid (IntsAt (fun _ => True) (w9.alloc (.cells #[.int .i64 (idx GL).1, .int .i64 (idx GL).2] 24)) (.slice a7 n7 c7) GL) := (Y8.out.later hw9).later ((Below.refl _ _).alloc (Nat.le_refl _) _)
        obtain ⟨g0, g1, _⟩ := G2.out _ B9'.out
        clear hw9
        go_wp2_with fail
        refine (HCy.out _).mono ?_
        rintro e w10 ⟨rfl, hw10⟩
        have B10 : Hid (Below (w2.heap.size + 1) (w2.alloc (.cells #[.int .i64 (idx l).1, .int .i64 (idx l).2] 24)) w10) := Bel.call B9'.out N2.out hw10
        have Y10 : Hid (IntsAt (fun _ => True) w10 (.slice a7 n7 c7) GL) := Y9.out.later hw10
        clear hw10 g0 g1
        go_wp2_with fail
        refine (HGy.out _ Y10.out).mono ?_
        rintro e w11 ⟨rfl, hw11⟩
        have B11 : Hid (Below (w2.heap.size + 1) (w2.alloc (.cells #[.int .i64 (idx l).1, .int .i64 (idx l).2] 24)) w11) := Bel.call B10.out N2.out hw11
        have W11 : Hid (Below w.heap.size w w11) := (G2.out _ B11.out).2.2
        clear hw11
        go_wp2
        go_ret
        exact ⟨Ns.ret_bool rfl, W11.out⟩
    · have HE : Hid (errV (giveE l f t m) = .iface 39 (.int .i64 (giveE l f t m))) := errV_ne hg
      rw [HE.out, okL_ne hg] at HV
      generalize giveE l f t m = ek at *
      clear hg HGv HGi
      go_wp2_with fail
      refine (HV.out _ W6.out).mono ?_
      rintro e w7 ⟨y7, rfl, hy7, hw7⟩
      have W7 : Hid (Below w.heap.size w w7) := Bel.call W6.out (Nat.le_refl _) hw7
      obtain ⟨a7, n7, c7, rfl⟩ : ∃ a n c, y7 = .slice a n c := by obtain ⟨a, c, e, _⟩ := hy7; exact ⟨_, _, _, e⟩
      clear hw7 hy7
      go_wp2_with fail
      go_quiet (fail)
      have W8 : Hid (Below w.heap.size w (w7.drewN nq)) := below_drewN W7.out _
      generalize w7.drewN nq = w8 at *
      go_wp2
      go_ret
      exact ⟨Ns.ret_bool rfl, W8.out⟩
  · have HE : Hid (errV (idxE l) = .iface 39 (.int .i64 (idxE l))) := errV_ne he
    rw [HE.out, okF_ne he] at HI
    generalize idxE l = ek at *
    clear he hI hG hV
    go_enter Try.func3, Try.ntmps3
    go_wp2_with fail
    refine HL1.out.mono ?_
    rintro e w1 ⟨rfl, hw1⟩
    have B1 : Hid (Below w.heap.size w w1) := B0.out.trans (hw1.mono (by simp))
    have z1 : w.heap.size ≤ w1.heap.size := B1.out.size
    have B1' : Hid (Below w.heap.size w (w1.alloc (.cells #[.int .i64 1, .int .i64 2] 24))) := B1.out.alloc z1 _
    clear hw1 HL1 B0
    go_wp2_with fail
    refine (HI.out _ B1'.out).mono ?_
    rintro e w2 ⟨rfl, hw2⟩
    have B2 : Hid (Below w.heap.size w w2) := Bel.call B1'.out (Nat.le_refl _) hw2
    have z2 : w.heap.size ≤ w2.heap.size := B2.out.size
    clear hw2
    go_wp2
    go_ret
    exact ⟨Ns.ret_bool rfl, B2.out.alloc z2 _⟩
end Ev
end Go.Proofs.Ytbbljjhddikfpae
