/- The law RankTells returns true for any two lists of rates, from what is asked of package rank's calls. -/
import Derived.Test.YtcleeepbpibcfacDoorRRates
import Derived.Test.YtcleeepbpibcfacDoorPlains
import Derived.Test.YtcleeepbpibcfacDoorLdSame
import Derived.Test.YtcleeepbpibcfacDoorToldB
namespace Go.Proofs.YtcleeepbpibcfacDoor
namespace Fl
open Go.RowKit Fr Ns Ld
set_option linter.unusedSimpArgs false
set_option linter.unusedVariables false

theorem eqF_self' (l : List (Int × Int)) : eqF l l = true := by simp [eqF]
theorem cmpL_step {s z : List (Int × Int)} {i : Nat} (hs : i < s.length) (hz : i < z.length) : cmpL (s.drop i) (z.drop i) = if ordP (s.getD i (0, 0)) (z.getD i (0, 0)) = 0 then cmpL (s.drop (i + 1)) (z.drop (i + 1)) else ordP (s.getD i (0, 0)) (z.getD i (0, 0)) := by
  rw [drop_cons s i hs (0, 0), drop_cons z i hz (0, 0)]
  rfl
theorem cmpL_end {s z : List (Int × Int)} {i : Nat} (hs : s.length ≤ i) : cmpL (s.drop i) (z.drop i) = 0 := by
  rw [List.drop_of_length_le hs]
  cases z.drop i <;> rfl

set_option maxRecDepth 100000 in
set_option maxHeartbeats 16000000 in
theorem rankTells_walk (hSo : SortedSaid) (hCm : RCompareSaid) (hLe : LeastSaid) (a b : List (Int × Int)) (x y : Value) (w : World)
    (hg : w.cell? ⟨0, 0, none⟩ = some handleV) (hx : FracsAt (fun b => b < w.heap.size) w x a) (hy : FracsAt (fun b => b < w.heap.size) w y b) :
    Calls Tryd.prog 4 #[x, y] w fun e w' => e = .returned (.bool true) ∧ Below w.heap.size w w' := by
  have HRa : Hid (∀ u : World, Below w.heap.size w u → Calls Tryd.prog 15 #[x] u fun e w' => ∃ y, e = .returned (.tuple #[y, .int .i64 (sortE a)]) ∧ FracsAt (fun b => u.heap.size ≤ b) w' y (okL (sortE a) (sortP a)) ∧ Below u.heap.size u w') := fun u hu => RRates_any a x u (hx.later hu)
  have HRb : Hid (∀ u : World, Below w.heap.size w u → Calls Tryd.prog 15 #[y] u fun e w' => ∃ z, e = .returned (.tuple #[z, .int .i64 (sortE b)]) ∧ FracsAt (fun b => u.heap.size ≤ b) w' z (okL (sortE b) (sortP b)) ∧ Below u.heap.size u w') := fun u hu => RRates_any b y u (hy.later hu)
  have HSo : Hid (∀ u : World, Below w.heap.size w u → Calls Tryd.prog 16 #[x] u fun e w' => ∃ y, e = .returned (.tuple #[y, errV (sortE a)]) ∧ FracsAt (fun b => u.heap.size ≤ b) w' y (okL (sortE a) (sortP a)) ∧ Below u.heap.size u w') := fun u hu => hSo _ a x u (hx.later hu)
  have HLe : Hid (∀ u : World, Below w.heap.size w u → Calls Tryd.prog 18 #[x] u fun e w' => e = .returned (.tuple #[.agg #[.int .i64 (leastV a).1, .int .i64 (leastV a).2], errV (leastE a)]) ∧ Below u.heap.size u w') := fun u hu => hLe _ a x u (hx.later hu)
  have HCm : Hid (∀ u : World, Below w.heap.size w u → Calls Tryd.prog 20 #[x, y] u fun e w' => e = .returned (.tuple #[.int .i64 (rankV a b), errV (rankE a b)]) ∧ Below u.heap.size u w') := fun u hu => hCm _ _ a b x y u (hx.later hu) (hy.later hu)
  have HEr : Hid (∀ (k : Int) (u : World), Below w.heap.size w u → Calls Tryd.prog 8 #[errV k, .int .i64 k] u fun e w' => e = .returned (.bool true) ∧ Below u.heap.size u w') := fun k u hu => by
    have := Error_any k k u (cell_later hu hg)
    rw [beq_self_eq_true] at this
    exact this
  obtain ⟨ar, capa, rfl, ⟨hm1, hn1⟩, _⟩ := hx
  obtain ⟨br, capb, rfl, ⟨hm2, hn2⟩, _⟩ := hy
  clear hg
  by_cases he : sortE a = 0
  · by_cases hn0 : a.length = 0
    · as_aux_lemma =>
      obtain rfl : a = [] := List.eq_nil_of_length_eq_zero hn0
      simp only [List.length_nil] at HRa HSo HLe HCm ⊢
      have hl : leastE [] = 5 ∧ leastV [] = (0, 0) := by
        have h1 : leastE [] = 5 := by rw [leastE, if_pos he, if_pos hn0]
        exact ⟨h1, by rw [leastV, h1]; rfl⟩
      obtain ⟨l1, l2⟩ := hl
      rw [l1, l2] at HLe
      obtain ⟨K0, hK0⟩ : ∃ K : Int, Hid (K = 0) := ⟨0, rfl⟩
      have HE0 : Hid (∀ u : World, Below w.heap.size w u → Calls Tryd.prog 8 #[errV K0, .int .i64 0] u fun e w' => e = .returned (.bool true) ∧ Below u.heap.size u w') := fun u hu => by
        have := HEr.out K0 u hu
        rw [hK0.out] at this ⊢
        exact this
      obtain ⟨K5, hK5⟩ : ∃ K : Int, Hid (K = 5) := ⟨5, rfl⟩
      have HE5 : Hid (∀ u : World, Below w.heap.size w u → Calls Tryd.prog 8 #[errV K5, .int .i64 5] u fun e w' => e = .returned (.bool true) ∧ Below u.heap.size u w') := fun u hu => by
        have := HEr.out K5 u hu
        rw [hK5.out] at this ⊢
        exact this
      rw [show errV 5 = errV K5 by rw [hK5.out]] at HLe
      rw [he, okL_0] at HRa HSo
      rw [show errV 0 = errV K0 by rw [hK0.out]] at HSo
      have hSl : Hid ((sortP ([] : List (Int × Int))).length = 0) := by show _ = _; rw [sortP_length]; rfl
      clear l1 l2 hm1 hm2 hn0
      by_cases hb : sortE b = 0
      · by_cases hlen : ([] : List (Int × Int)).length = b.length
        · obtain ⟨r1, r2⟩ := rank_mk he hb hlen
          rw [r1, r2] at HCm
          rw [show errV 0 = errV K0 by rw [hK0.out]] at HCm
          rw [hb, okL_0] at HRb
          obtain rfl : b = [] := List.eq_nil_of_length_eq_zero hlen.symm
          simp only [List.length_nil] at HRb HCm ⊢
          rw [show cmpL (sortP ([] : List (Int × Int))) (sortP []) = 0 from rfl] at HCm
          generalize hZe : sortP ([] : List (Int × Int)) = Z at HRb
          clear hZe r1 r2 hb HEr hlen
          generalize sortP ([] : List (Int × Int)) = S at *
          clear he
          go_enter Tryd.func4, Tryd.ntmps4
          go_wp2_with fail
          refine (HRa.out _ (Below.refl _ _)).mono ?_
          rintro e w1 ⟨y1, rfl, hy1, hw1⟩
          have B1 : Hid (Below w.heap.size w w1) := hw1
          have Y1 : Hid (FracsAt (fun _ => True) w1 y1 S) := hy1.keep (fun _ _ _ => rfl) (fun _ _ _ => trivial)
          obtain ⟨a1, c1, rfl, ⟨hmS, hnS⟩, _⟩ := hy1
          clear hw1
          go_wp2_with fail
          refine (HSo.out _ B1.out).mono ?_
          rintro e w2 ⟨y2, rfl, hy2, hw2⟩
          have B2 : Hid (Below w.heap.size w w2) := Bel.call B1.out (Nat.le_refl _) hw2
          have C2 : Hid (Below w1.heap.size w1 w2) := hw2
          have Y2 : Hid (FracsAt (fun _ => True) w2 y2 S) := hy2.keep (fun _ _ _ => rfl) (fun _ _ _ => trivial)
          obtain ⟨a2, c2, rfl, _⟩ := hy2
          clear hw2
          go_wp2_with fail
          refine (HE0.out _ B2.out).mono ?_
          rintro e w3 ⟨rfl, hw3⟩
          have B3 : Hid (Below w.heap.size w w3) := Bel.call B2.out (Nat.le_refl _) hw3
          have C3 : Hid (Below w1.heap.size w1 w3) := Bel.call C2.out (Nat.le_refl _) hw3
          have HS3 : Hid (Calls Tryd.prog 17 #[.slice a1 S.length c1, .slice a2 S.length c2] w3 fun e w' => e = .returned (.bool true) ∧ ∃ n, w' = w3.drewN n) := by
            have := SFracs_any S S _ _ w3 (Y1.out.later C3.out) (Y2.out.later hw3)
            rw [eqF_self'] at this
            exact this
          clear hw3 Y2
          go_wp2_with fail
          refine HS3.out.mono ?_
          rintro e w4 ⟨rfl, m4, rfl⟩
          have B4 : Hid (Below w.heap.size w (w3.drewN m4)) := below_drewN B3.out _
          have C4 : Hid (Below w1.heap.size w1 (w3.drewN m4)) := below_drewN C3.out _
          clear HS3 B3 C3
          generalize w3.drewN m4 = w4 at *
          have B5 : Hid (Below w.heap.size w (w4.alloc (.cells #[.int .i64 0, .int .i64 0] 49))) := Bel.more B4.out (Nat.le_refl _) _
          have C5 : Hid (Below w1.heap.size w1 (w4.alloc (.cells #[.int .i64 0, .int .i64 0] 49))) := Bel.more C4.out (Nat.le_refl _) _
          rw [hSl.out]
          go_wp2_with fail
          refine (HLe.out _ B5.out).mono ?_
          rintro e w6 ⟨rfl, hw6⟩
          have B6 : Hid (Below w.heap.size w (w6.alloc (.cells #[.int .i64 0, .int .i64 0] 49))) := Bel.more (Bel.call B5.out (Nat.le_refl _) hw6) (Nat.le_refl _) _
          have C6 : Hid (Below w1.heap.size w1 (w6.alloc (.cells #[.int .i64 0, .int .i64 0] 49))) := Bel.more (Bel.call C5.out (Nat.le_refl _) hw6) (Nat.le_refl _) _
          have l0 : w6.cell? ⟨w4.heap.size, 0, none⟩ = some (.int .i64 0) := cell_later hw6 (by go_simp)
          have l1 : w6.cell? ⟨w4.heap.size, 1, none⟩ = some (.int .i64 0) := cell_later hw6 (by go_simp)
          have hz6 : w4.heap.size < w6.heap.size := by have := hw6.size; simp at this; omega
          clear hw6
          go_wp2_with fail
          refine (HE5.out _ B6.out).mono ?_
          rintro e w7 ⟨rfl, hw7⟩
          have B7 : Hid (Below w.heap.size w w7) := Bel.call B6.out (Nat.le_refl _) hw7
          have C7 : Hid (Below w1.heap.size w1 w7) := Bel.call C6.out (Nat.le_refl _) hw7
          have k0 : w7.cell? ⟨w4.heap.size, 0, none⟩ = some (.int .i64 0) := cell_later hw7 (by go_simp)
          have k1 : w7.cell? ⟨w4.heap.size, 1, none⟩ = some (.int .i64 0) := cell_later hw7 (by go_simp)
          have k2 : w7.cell? ⟨w6.heap.size, 0, none⟩ = some (.int .i64 0) := cell_later hw7 (by go_simp)
          have k3 : w7.cell? ⟨w6.heap.size, 1, none⟩ = some (.int .i64 0) := cell_later hw7 (by go_simp)
          clear hw7 l0 l1
          go_wp2_with fail
          refine (HRb.out _ B7.out).mono ?_
          rintro e w8 ⟨y8, rfl, hy8, hw8⟩
          have B8 : Hid (Below w.heap.size w w8) := Bel.call B7.out (Nat.le_refl _) hw8
          have C8 : Hid (Below w1.heap.size w1 w8) := Bel.call C7.out (Nat.le_refl _) hw8
          have Y8 : Hid (FracsAt (fun _ => True) w8 y8 Z) := hy8.keep (fun _ _ _ => rfl) (fun _ _ _ => trivial)
          obtain ⟨a8, c8, rfl, ⟨hmZ, hnZ⟩, _⟩ := hy8
          clear hw8 k0 k1 k2 k3
          go_wp2
          go_loop [16, 17] (fun s16 s17 => s16 = .int .i64 0 ∧ s17 = .int .i64 0) (fun _ _ => 0)
          case atStart => exact ⟨rfl, rfl⟩
          case round =>
            obtain ⟨rfl, rfl⟩ := hrel
            go_wp2_with fail
            refine (HCm.out _ B8.out).mono ?_
            rintro e w9 ⟨rfl, hw9⟩
            have B9 : Hid (Below w.heap.size w w9) := Bel.call B8.out (Nat.le_refl _) hw9
            clear hw9
            go_wp2_with fail
            refine (HE0.out _ B9.out).mono ?_
            rintro e w10 ⟨rfl, hw10⟩
            have B10 : Hid (Below w.heap.size w w10) := Bel.call B9.out (Nat.le_refl _) hw10
            clear hw10
            go_wp2
            go_ret
            exact ⟨Ns.ret_bool (by simp), B10.out⟩
        · have r1 : rankE [] b = 3 := by rw [rankE, if_pos he, if_pos hb, if_neg hlen]
          have r2 : rankV [] b = 0 := by rw [rankV, r1]; rfl
          rw [r1, r2] at HCm
          obtain ⟨K3, hK3⟩ : ∃ K : Int, Hid (K = 3) := ⟨3, rfl⟩
          have HE3 : Hid (∀ u : World, Below w.heap.size w u → Calls Tryd.prog 8 #[errV K3, .int .i64 3] u fun e w' => e = .returned (.bool true) ∧ Below u.heap.size u w') := fun u hu => by
            have := HEr.out K3 u hu
            rw [hK3.out] at this ⊢
            exact this
          rw [show errV 3 = errV K3 by rw [hK3.out]] at HCm
          rw [hb, okL_0] at HRb
          generalize sortP b = Z at *
          have qn : ((0 : Int) != (b.length : Int)) = true := by simp at hlen ⊢; omega
          clear r1 r2 hb HEr hlen
          generalize sortP ([] : List (Int × Int)) = S at *
          clear he
          go_enter Tryd.func4, Tryd.ntmps4
          go_wp2_with fail
          refine (HRa.out _ (Below.refl _ _)).mono ?_
          rintro e w1 ⟨y1, rfl, hy1, hw1⟩
          have B1 : Hid (Below w.heap.size w w1) := hw1
          have Y1 : Hid (FracsAt (fun _ => True) w1 y1 S) := hy1.keep (fun _ _ _ => rfl) (fun _ _ _ => trivial)
          obtain ⟨a1, c1, rfl, ⟨hmS, hnS⟩, _⟩ := hy1
          clear hw1
          go_wp2_with fail
          refine (HSo.out _ B1.out).mono ?_
          rintro e w2 ⟨y2, rfl, hy2, hw2⟩
          have B2 : Hid (Below w.heap.size w w2) := Bel.call B1.out (Nat.le_refl _) hw2
          have C2 : Hid (Below w1.heap.size w1 w2) := hw2
          have Y2 : Hid (FracsAt (fun _ => True) w2 y2 S) := hy2.keep (fun _ _ _ => rfl) (fun _ _ _ => trivial)
          obtain ⟨a2, c2, rfl, _⟩ := hy2
          clear hw2
          go_wp2_with fail
          refine (HE0.out _ B2.out).mono ?_
          rintro e w3 ⟨rfl, hw3⟩
          have B3 : Hid (Below w.heap.size w w3) := Bel.call B2.out (Nat.le_refl _) hw3
          have C3 : Hid (Below w1.heap.size w1 w3) := Bel.call C2.out (Nat.le_refl _) hw3
          have HS3 : Hid (Calls Tryd.prog 17 #[.slice a1 S.length c1, .slice a2 S.length c2] w3 fun e w' => e = .returned (.bool true) ∧ ∃ n, w' = w3.drewN n) := by
            have := SFracs_any S S _ _ w3 (Y1.out.later C3.out) (Y2.out.later hw3)
            rw [eqF_self'] at this
            exact this
          clear hw3 Y2
          go_wp2_with fail
          refine HS3.out.mono ?_
          rintro e w4 ⟨rfl, m4, rfl⟩
          have B4 : Hid (Below w.heap.size w (w3.drewN m4)) := below_drewN B3.out _
          have C4 : Hid (Below w1.heap.size w1 (w3.drewN m4)) := below_drewN C3.out _
          clear HS3 B3 C3
          generalize w3.drewN m4 = w4 at *
          have B5 : Hid (Below w.heap.size w (w4.alloc (.cells #[.int .i64 0, .int .i64 0] 49))) := Bel.more B4.out (Nat.le_refl _) _
          have C5 : Hid (Below w1.heap.size w1 (w4.alloc (.cells #[.int .i64 0, .int .i64 0] 49))) := Bel.more C4.out (Nat.le_refl _) _
          rw [hSl.out]
          go_wp2_with fail
          refine (HLe.out _ B5.out).mono ?_
          rintro e w6 ⟨rfl, hw6⟩
          have B6 : Hid (Below w.heap.size w (w6.alloc (.cells #[.int .i64 0, .int .i64 0] 49))) := Bel.more (Bel.call B5.out (Nat.le_refl _) hw6) (Nat.le_refl _) _
          have C6 : Hid (Below w1.heap.size w1 (w6.alloc (.cells #[.int .i64 0, .int .i64 0] 49))) := Bel.more (Bel.call C5.out (Nat.le_refl _) hw6) (Nat.le_refl _) _
          have l0 : w6.cell? ⟨w4.heap.size, 0, none⟩ = some (.int .i64 0) := cell_later hw6 (by go_simp)
          have l1 : w6.cell? ⟨w4.heap.size, 1, none⟩ = some (.int .i64 0) := cell_later hw6 (by go_simp)
          have hz6 : w4.heap.size < w6.heap.size := by have := hw6.size; simp at this; omega
          clear hw6
          go_wp2_with fail
          refine (HE5.out _ B6.out).mono ?_
          rintro e w7 ⟨rfl, hw7⟩
          have B7 : Hid (Below w.heap.size w w7) := Bel.call B6.out (Nat.le_refl _) hw7
          have C7 : Hid (Below w1.heap.size w1 w7) := Bel.call C6.out (Nat.le_refl _) hw7
          have k0 : w7.cell? ⟨w4.heap.size, 0, none⟩ = some (.int .i64 0) := cell_later hw7 (by go_simp)
          have k1 : w7.cell? ⟨w4.heap.size, 1, none⟩ = some (.int .i64 0) := cell_later hw7 (by go_simp)
          have k2 : w7.cell? ⟨w6.heap.size, 0, none⟩ = some (.int .i64 0) := cell_later hw7 (by go_simp)
          have k3 : w7.cell? ⟨w6.heap.size, 1, none⟩ = some (.int .i64 0) := cell_later hw7 (by go_simp)
          clear hw7 l0 l1
          go_wp2_with fail
          refine (HRb.out _ B7.out).mono ?_
          rintro e w8 ⟨y8, rfl, hy8, hw8⟩
          have B8 : Hid (Below w.heap.size w w8) := Bel.call B7.out (Nat.le_refl _) hw8
          have C8 : Hid (Below w1.heap.size w1 w8) := Bel.call C7.out (Nat.le_refl _) hw8
          have Y8 : Hid (FracsAt (fun _ => True) w8 y8 Z) := hy8.keep (fun _ _ _ => rfl) (fun _ _ _ => trivial)
          obtain ⟨a8, c8, rfl, ⟨hmZ, hnZ⟩, _⟩ := hy8
          clear hw8 k0 k1 k2 k3
          go_wp2
          go_loop [16, 17] (fun s16 s17 => s16 = .int .i64 0 ∧ s17 = .int .i64 0) (fun _ _ => 0)
          case atStart => exact ⟨rfl, rfl⟩
          case round =>
            obtain ⟨rfl, rfl⟩ := hrel
            go_wp2_with fail
            refine (HCm.out _ B8.out).mono ?_
            rintro e w9 ⟨rfl, hw9⟩
            have B9 : Hid (Below w.heap.size w w9) := Bel.call B8.out (Nat.le_refl _) hw9
            clear hw9
            go_wp2_with fail
            refine (HE3.out _ B9.out).mono ?_
            rintro e w10 ⟨rfl, hw10⟩
            have B10 : Hid (Below w.heap.size w w10) := Bel.call B9.out (Nat.le_refl _) hw10
            clear hw10
            go_wp2
            go_ret
            exact ⟨Ns.ret_bool (by simp), B10.out⟩
      · have r1 : rankE [] b = sortE b := by rw [rankE, if_pos he, if_neg hb]
        have r2 : rankV [] b = 0 := by rw [rankV, if_neg (by rw [r1]; exact hb)]
        rw [r1, r2] at HCm
        have HEb : Hid (∀ u : World, Below w.heap.size w u → Calls Tryd.prog 8 #[errV (sortE b), .int .i64 (sortE b)] u fun e w' => e = .returned (.bool true) ∧ Below u.heap.size u w') := fun u hu => HEr.out _ u hu
        have qb : (sortE b == 0) = false := beq_eq_false_iff_ne.2 hb
        generalize okL (sortE b) (sortP b) = Z at *
        generalize sortE b = eb at *
        clear r1 r2 HEr
        generalize sortP ([] : List (Int × Int)) = S at *
        clear he
        go_enter Tryd.func4, Tryd.ntmps4
        go_wp2_with fail
        refine (HRa.out _ (Below.refl _ _)).mono ?_
        rintro e w1 ⟨y1, rfl, hy1, hw1⟩
        have B1 : Hid (Below w.heap.size w w1) := hw1
        have Y1 : Hid (FracsAt (fun _ => True) w1 y1 S) := hy1.keep (fun _ _ _ => rfl) (fun _ _ _ => trivial)
        obtain ⟨a1, c1, rfl, ⟨hmS, hnS⟩, _⟩ := hy1
        clear hw1
        go_wp2_with fail
        refine (HSo.out _ B1.out).mono ?_
        rintro e w2 ⟨y2, rfl, hy2, hw2⟩
        have B2 : Hid (Below w.heap.size w w2) := Bel.call B1.out (Nat.le_refl _) hw2
        have C2 : Hid (Below w1.heap.size w1 w2) := hw2
        have Y2 : Hid (FracsAt (fun _ => True) w2 y2 S) := hy2.keep (fun _ _ _ => rfl) (fun _ _ _ => trivial)
        obtain ⟨a2, c2, rfl, _⟩ := hy2
        clear hw2
        go_wp2_with fail
        refine (HE0.out _ B2.out).mono ?_
        rintro e w3 ⟨rfl, hw3⟩
        have B3 : Hid (Below w.heap.size w w3) := Bel.call B2.out (Nat.le_refl _) hw3
        have C3 : Hid (Below w1.heap.size w1 w3) := Bel.call C2.out (Nat.le_refl _) hw3
        have HS3 : Hid (Calls Tryd.prog 17 #[.slice a1 S.length c1, .slice a2 S.length c2] w3 fun e w' => e = .returned (.bool true) ∧ ∃ n, w' = w3.drewN n) := by
          have := SFracs_any S S _ _ w3 (Y1.out.later C3.out) (Y2.out.later hw3)
          rw [eqF_self'] at this
          exact this
        clear hw3 Y2
        go_wp2_with fail
        refine HS3.out.mono ?_
        rintro e w4 ⟨rfl, m4, rfl⟩
        have B4 : Hid (Below w.heap.size w (w3.drewN m4)) := below_drewN B3.out _
        have C4 : Hid (Below w1.heap.size w1 (w3.drewN m4)) := below_drewN C3.out _
        clear HS3 B3 C3
        generalize w3.drewN m4 = w4 at *
        have B5 : Hid (Below w.heap.size w (w4.alloc (.cells #[.int .i64 0, .int .i64 0] 49))) := Bel.more B4.out (Nat.le_refl _) _
        have C5 : Hid (Below w1.heap.size w1 (w4.alloc (.cells #[.int .i64 0, .int .i64 0] 49))) := Bel.more C4.out (Nat.le_refl _) _
        rw [hSl.out]
        go_wp2_with fail
        refine (HLe.out _ B5.out).mono ?_
        rintro e w6 ⟨rfl, hw6⟩
        have B6 : Hid (Below w.heap.size w (w6.alloc (.cells #[.int .i64 0, .int .i64 0] 49))) := Bel.more (Bel.call B5.out (Nat.le_refl _) hw6) (Nat.le_refl _) _
        have C6 : Hid (Below w1.heap.size w1 (w6.alloc (.cells #[.int .i64 0, .int .i64 0] 49))) := Bel.more (Bel.call C5.out (Nat.le_refl _) hw6) (Nat.le_refl _) _
        have l0 : w6.cell? ⟨w4.heap.size, 0, none⟩ = some (.int .i64 0) := cell_later hw6 (by go_simp)
        have l1 : w6.cell? ⟨w4.heap.size, 1, none⟩ = some (.int .i64 0) := cell_later hw6 (by go_simp)
        have hz6 : w4.heap.size < w6.heap.size := by have := hw6.size; simp at this; omega
        clear hw6
        go_wp2_with fail
        refine (HE5.out _ B6.out).mono ?_
        rintro e w7 ⟨rfl, hw7⟩
        have B7 : Hid (Below w.heap.size w w7) := Bel.call B6.out (Nat.le_refl _) hw7
        have C7 : Hid (Below w1.heap.size w1 w7) := Bel.call C6.out (Nat.le_refl _) hw7
        have k0 : w7.cell? ⟨w4.heap.size, 0, none⟩ = some (.int .i64 0) := cell_later hw7 (by go_simp)
        have k1 : w7.cell? ⟨w4.heap.size, 1, none⟩ = some (.int .i64 0) := cell_later hw7 (by go_simp)
        have k2 : w7.cell? ⟨w6.heap.size, 0, none⟩ = some (.int .i64 0) := cell_later hw7 (by go_simp)
        have k3 : w7.cell? ⟨w6.heap.size, 1, none⟩ = some (.int .i64 0) := cell_later hw7 (by go_simp)
        clear hw7 l0 l1
        go_wp2_with fail
        refine (HRb.out _ B7.out).mono ?_
        rintro e w8 ⟨y8, rfl, hy8, hw8⟩
        have B8 : Hid (Below w.heap.size w w8) := Bel.call B7.out (Nat.le_refl _) hw8
        have C8 : Hid (Below w1.heap.size w1 w8) := Bel.call C7.out (Nat.le_refl _) hw8
        have Y8 : Hid (FracsAt (fun _ => True) w8 y8 Z) := hy8.keep (fun _ _ _ => rfl) (fun _ _ _ => trivial)
        obtain ⟨a8, c8, rfl, ⟨hmZ, hnZ⟩, _⟩ := hy8
        clear hw8 k0 k1 k2 k3
        go_wp2
        go_loop [16, 17] (fun s16 s17 => s16 = .int .i64 0 ∧ s17 = .int .i64 0) (fun _ _ => 0)
        case atStart => exact ⟨rfl, rfl⟩
        case round =>
          obtain ⟨rfl, rfl⟩ := hrel
          go_wp2_with fail
          refine (HCm.out _ B8.out).mono ?_
          rintro e w9 ⟨rfl, hw9⟩
          have B9 : Hid (Below w.heap.size w w9) := Bel.call B8.out (Nat.le_refl _) hw9
          clear hw9
          go_wp2_with fail
          refine (HEb.out _ B9.out).mono ?_
          rintro e w10 ⟨rfl, hw10⟩
          have B10 : Hid (Below w.heap.size w w10) := Bel.call B9.out (Nat.le_refl _) hw10
          clear hw10
          go_wp2
          go_ret
          exact ⟨Ns.ret_bool (by simp), B10.out⟩
    · as_aux_lemma =>
      obtain ⟨l1, l2, l3⟩ := least_mk he hn0
      rw [l1, l2] at HLe
      obtain ⟨K0, hK0⟩ : ∃ K : Int, Hid (K = 0) := ⟨0, rfl⟩
      have HE0 : Hid (∀ u : World, Below w.heap.size w u → Calls Tryd.prog 8 #[errV K0, .int .i64 0] u fun e w' => e = .returned (.bool true) ∧ Below u.heap.size u w') := fun u hu => by
        have := HEr.out K0 u hu
        rw [hK0.out] at this ⊢
        exact this
      rw [show errV 0 = errV K0 by rw [hK0.out]] at HLe
      rw [he, okL_0] at HRa HSo
      rw [show errV 0 = errV K0 by rw [hK0.out]] at HSo
      have hSl : Hid ((sortP a).length = a.length) := sortP_length a
      have hSn : 0 < (sortP a).length := by rw [hSl.out]; omega
      have hS6 : (sortP a).length ≤ 6 := by rw [hSl.out]; exact (sortE_0 he).1
      obtain ⟨p1, p2, HLv⟩ : ∃ p1 p2, Hid (((sortP a).getD 0 (0, 0)).1 = p1 ∧ ((sortP a).getD 0 (0, 0)).2 = p2) := ⟨_, _, rfl, rfl⟩
      rw [HLv.out.1, HLv.out.2] at HLe
      have qa : ((a.length : Int) == 0) = false := beq_eq_false_iff_ne.2 (by omega)
      clear l1 l2 l3 hm1 hm2
      by_cases hb : sortE b = 0
      · by_cases hlen : (a : List (Int × Int)).length = b.length
        · obtain ⟨r1, r2⟩ := rank_mk he hb hlen
          rw [r1, r2] at HCm
          rw [show errV 0 = errV K0 by rw [hK0.out]] at HCm
          rw [hb, okL_0] at HRb
          have HfS : Hid (∀ p ∈ sortP a, faultP p = 0) := fun p hp => (sortE_0 he).2 p (sortP_mem.1 hp)
          have HfZ : Hid (∀ p ∈ sortP b, faultP p = 0) := fun p hp => (sortE_0 hb).2 p (sortP_mem.1 hp)
          have hZS : (sortP a).length ≤ (sortP b).length := by rw [sortP_length, sortP_length, hlen]; exact Nat.le_refl _
          have hZn : 0 < (sortP b).length := by omega
          generalize sortP b = Z at *
          have qn : ((a.length : Int) != (b.length : Int)) = false := by simp; omega
          clear r1 r2 hb HEr hlen
          generalize sortP a = S at *
          clear he
          go_enter Tryd.func4, Tryd.ntmps4
          go_wp2_with fail
          refine (HRa.out _ (Below.refl _ _)).mono ?_
          rintro e w1 ⟨y1, rfl, hy1, hw1⟩
          have B1 : Hid (Below w.heap.size w w1) := hw1
          have Y1 : Hid (FracsAt (fun _ => True) w1 y1 S) := hy1.keep (fun _ _ _ => rfl) (fun _ _ _ => trivial)
          obtain ⟨a1, c1, rfl, ⟨hmS, hnS⟩, _⟩ := hy1
          clear hw1
          go_wp2_with fail
          refine (HSo.out _ B1.out).mono ?_
          rintro e w2 ⟨y2, rfl, hy2, hw2⟩
          have B2 : Hid (Below w.heap.size w w2) := Bel.call B1.out (Nat.le_refl _) hw2
          have C2 : Hid (Below w1.heap.size w1 w2) := hw2
          have Y2 : Hid (FracsAt (fun _ => True) w2 y2 S) := hy2.keep (fun _ _ _ => rfl) (fun _ _ _ => trivial)
          obtain ⟨a2, c2, rfl, _⟩ := hy2
          clear hw2
          go_wp2_with fail
          refine (HE0.out _ B2.out).mono ?_
          rintro e w3 ⟨rfl, hw3⟩
          have B3 : Hid (Below w.heap.size w w3) := Bel.call B2.out (Nat.le_refl _) hw3
          have C3 : Hid (Below w1.heap.size w1 w3) := Bel.call C2.out (Nat.le_refl _) hw3
          have HS3 : Hid (Calls Tryd.prog 17 #[.slice a1 S.length c1, .slice a2 S.length c2] w3 fun e w' => e = .returned (.bool true) ∧ ∃ n, w' = w3.drewN n) := by
            have := SFracs_any S S _ _ w3 (Y1.out.later C3.out) (Y2.out.later hw3)
            rw [eqF_self'] at this
            exact this
          clear hw3 Y2
          go_wp2_with fail
          refine HS3.out.mono ?_
          rintro e w4 ⟨rfl, m4, rfl⟩
          have B4 : Hid (Below w.heap.size w (w3.drewN m4)) := below_drewN B3.out _
          have C4 : Hid (Below w1.heap.size w1 (w3.drewN m4)) := below_drewN C3.out _
          clear HS3 B3 C3
          generalize w3.drewN m4 = w4 at *
          have B5 : Hid (Below w.heap.size w (w4.alloc (.cells #[.int .i64 0, .int .i64 0] 49))) := Bel.more B4.out (Nat.le_refl _) _
          have C5 : Hid (Below w1.heap.size w1 (w4.alloc (.cells #[.int .i64 0, .int .i64 0] 49))) := Bel.more C4.out (Nat.le_refl _) _
          have hc1 : S.length ≤ c1 := hmS
          obtain ⟨bS, oS, hae, hcS⟩ : ∃ bS oS, a1 = some ⟨bS, oS, none⟩ ∧ ∀ i, i < S.length → w1.cell? ⟨bS, oS + i * 2, none⟩ = some (.int .i64 (S.getD i (0, 0)).1) ∧ w1.cell? ⟨bS, oS + i * 2 + 1, none⟩ = some (.int .i64 (S.getD i (0, 0)).2) := by
            obtain ⟨_, _, e, _, hc⟩ := Y1.out
            simp only [Value.slice.injEq] at e
            obtain ⟨rfl, _, rfl⟩ := e
            rcases hc with hc | ⟨b', o', rfl, hc, _⟩
            · rw [hc] at hSn; simp at hSn
            · exact ⟨b', o', rfl, hc⟩
          subst hae
          have HcS : Hid (∀ u, Below w1.heap.size w1 u → ∀ i, i < S.length → u.cell? ⟨bS, oS + i * 2, none⟩ = some (.int .i64 (S.getD i (0, 0)).1) ∧ u.cell? ⟨bS, oS + i * 2 + 1, none⟩ = some (.int .i64 (S.getD i (0, 0)).2)) := fun u hu i hi => ⟨cell_later hu (hcS i hi).1, cell_later hu (hcS i hi).2⟩
          obtain ⟨s0, s1⟩ := HcS.out _ C5.out 0 hSn
          rw [HLv.out.1] at s0
          rw [HLv.out.2] at s1
          simp only [Nat.zero_mul, Nat.add_zero] at s0 s1
          have B5' : Hid (Below w.heap.size w (w4.alloc (.cells #[.int .i64 p1, .int .i64 p2] 49))) := Bel.more B4.out (Nat.le_refl _) _
          have C5' : Hid (Below w1.heap.size w1 (w4.alloc (.cells #[.int .i64 p1, .int .i64 p2] 49))) := Bel.more C4.out (Nat.le_refl _) _
          clear hcS
          go_wp2_with fail
          refine (HLe.out _ B5'.out).mono ?_
          rintro e w6 ⟨rfl, hw6⟩
          have B6 : Hid (Below w.heap.size w (w6.alloc (.cells #[.int .i64 p1, .int .i64 p2] 49))) := Bel.more (Bel.call B5'.out (Nat.le_refl _) hw6) (Nat.le_refl _) _
          have C6 : Hid (Below w1.heap.size w1 (w6.alloc (.cells #[.int .i64 p1, .int .i64 p2] 49))) := Bel.more (Bel.call C5'.out (Nat.le_refl _) hw6) (Nat.le_refl _) _
          have l0 : w6.cell? ⟨w4.heap.size, 0, none⟩ = some (.int .i64 p1) := cell_later hw6 (by go_simp)
          have l1 : w6.cell? ⟨w4.heap.size, 1, none⟩ = some (.int .i64 p2) := cell_later hw6 (by go_simp)
          have hz6 : w4.heap.size < w6.heap.size := by have := hw6.size; simp at this; omega
          clear hw6
          go_wp2_with fail
          refine (HE0.out _ B6.out).mono ?_
          rintro e w7 ⟨rfl, hw7⟩
          have B7 : Hid (Below w.heap.size w w7) := Bel.call B6.out (Nat.le_refl _) hw7
          have C7 : Hid (Below w1.heap.size w1 w7) := Bel.call C6.out (Nat.le_refl _) hw7
          have k0 : w7.cell? ⟨w4.heap.size, 0, none⟩ = some (.int .i64 p1) := cell_later hw7 (by go_simp)
          have k1 : w7.cell? ⟨w4.heap.size, 1, none⟩ = some (.int .i64 p2) := cell_later hw7 (by go_simp)
          have k2 : w7.cell? ⟨w6.heap.size, 0, none⟩ = some (.int .i64 p1) := cell_later hw7 (by go_simp)
          have k3 : w7.cell? ⟨w6.heap.size, 1, none⟩ = some (.int .i64 p2) := cell_later hw7 (by go_simp)
          clear hw7 l0 l1
          go_wp2_with fail
          refine (HRb.out _ B7.out).mono ?_
          rintro e w8 ⟨y8, rfl, hy8, hw8⟩
          have B8 : Hid (Below w.heap.size w w8) := Bel.call B7.out (Nat.le_refl _) hw8
          have C8 : Hid (Below w1.heap.size w1 w8) := Bel.call C7.out (Nat.le_refl _) hw8
          have Y8 : Hid (FracsAt (fun _ => True) w8 y8 Z) := hy8.keep (fun _ _ _ => rfl) (fun _ _ _ => trivial)
          obtain ⟨a8, c8, rfl, ⟨hmZ, hnZ⟩, _⟩ := hy8
          clear hw8 k0 k1 k2 k3
          obtain ⟨bZ, oZ, hae, hcZ⟩ : ∃ bZ oZ, a8 = some ⟨bZ, oZ, none⟩ ∧ ∀ i, i < Z.length → w8.cell? ⟨bZ, oZ + i * 2, none⟩ = some (.int .i64 (Z.getD i (0, 0)).1) ∧ w8.cell? ⟨bZ, oZ + i * 2 + 1, none⟩ = some (.int .i64 (Z.getD i (0, 0)).2) := by
            obtain ⟨_, _, e, _, hc⟩ := Y8.out
            simp only [Value.slice.injEq] at e
            obtain ⟨rfl, _, rfl⟩ := e
            rcases hc with hc | ⟨b', o', rfl, hc, _⟩
            · rw [hc] at hZn; simp at hZn
            · exact ⟨b', o', rfl, hc⟩
          subst hae
          have HcZ : Hid (∀ u, Below w8.heap.size w8 u → ∀ i, i < Z.length → u.cell? ⟨bZ, oZ + i * 2, none⟩ = some (.int .i64 (Z.getD i (0, 0)).1) ∧ u.cell? ⟨bZ, oZ + i * 2 + 1, none⟩ = some (.int .i64 (Z.getD i (0, 0)).2)) := fun u hu i hi => ⟨cell_later hu (hcZ i hi).1, cell_later hu (hcZ i hi).2⟩
          clear hcZ
          go_wp2
          go_loopw [16, 17] (fun s16 s17 wq => ∃ (i : Nat) (ws : Int), i ≤ S.length ∧ s17 = .int .i64 i ∧ s16 = .int .i64 ws ∧ Hid ((ws = 0 ∧ cmpL S Z = cmpL (S.drop i) (Z.drop i)) ∨ (ws ≠ 0 ∧ cmpL S Z = ws)) ∧ Hid (Below w8.heap.size w8 wq)) (fun _ s17 _ => S.length - (intOf s17).toNat)
          case atStart => exact ⟨0, 0, by omega, rfl, rfl, .inl ⟨rfl, rfl⟩, Below.refl _ _⟩
          case round =>
            obtain ⟨i, ws, hi, rfl, rfl, hws, hb⟩ := hrel
            have BQ : Hid (Below w.heap.size w wr) := Bel.call B8.out (Nat.le_refl _) hb.out
            by_cases hex : i < S.length ∧ ws = 0
            · obtain ⟨hil, rfl⟩ := hex
              have hiZ : i < Z.length := by omega
              obtain ⟨s0, s1⟩ := HcS.out _ (Bel.call C8.out (Nat.le_refl _) hb.out) i hil
              obtain ⟨z0, z1⟩ := HcZ.out _ hb.out i hiZ
              have hstep := cmpL_step hil hiZ
              have hcur : cmpL S Z = cmpL (S.drop i) (Z.drop i) := by
                rcases hws.out with h | h
                · exact h.2
                · exact absurd rfl h.1
              have HOr : Hid (∀ u : World, Calls Tryd.prog 19 #[.agg #[.int .i64 (S.getD i (0, 0)).1, .int .i64 (S.getD i (0, 0)).2], .agg #[.int .i64 (Z.getD i (0, 0)).1, .int .i64 (Z.getD i (0, 0)).2]] u fun e w' => e = .returned (.int .i64 (ordP (S.getD i (0, 0)) (Z.getD i (0, 0)))) ∧ Below u.heap.size u w') := fun u => Order_any _ _ _ _ u (HfS.out _ (getD_mem S i hil _)) (HfZ.out _ (getD_mem Z i hiZ _))
              have HNw : Hid ((ordP (S.getD i (0, 0)) (Z.getD i (0, 0)) = 0 ∧ cmpL S Z = cmpL (S.drop (i + 1)) (Z.drop (i + 1))) ∨ (ordP (S.getD i (0, 0)) (Z.getD i (0, 0)) ≠ 0 ∧ cmpL S Z = ordP (S.getD i (0, 0)) (Z.getD i (0, 0)))) := by
                by_cases h0 : ordP (S.getD i (0, 0)) (Z.getD i (0, 0)) = 0
                · exact .inl ⟨h0, by rw [hcur, hstep, if_pos h0]⟩
                · exact .inr ⟨h0, by rw [hcur, hstep, if_neg h0]⟩
              generalize ordP (S.getD i (0, 0)) (Z.getD i (0, 0)) = od at *
              generalize (S.getD i (0, 0)).1 = u1 at *
              generalize (S.getD i (0, 0)).2 = u2 at *
              generalize (Z.getD i (0, 0)).1 = u3 at *
              generalize (Z.getD i (0, 0)).2 = u4 at *
              have P1 : Hid (Below wr.heap.size wr wr.drew) := (Below.refl _ _).drew
              have HSA : Hid (∀ u : World, Below wr.heap.size wr u → u.cell? ⟨bS, oS + i * 2, none⟩ = some (.int .i64 u1) ∧ u.cell? ⟨bS, oS + i * 2 + 1, none⟩ = some (.int .i64 u2) ∧ u.cell? ⟨bZ, oZ + i * 2, none⟩ = some (.int .i64 u3) ∧ u.cell? ⟨bZ, oZ + i * 2 + 1, none⟩ = some (.int .i64 u4)) := fun u hu => ⟨cell_later hu s0, cell_later hu s1, cell_later hu z0, cell_later hu z1⟩
              clear hstep hcur hws
              go_wp2_with fail
              go_region_held3 (fun u => u.cell? ⟨bS, oS + i * 2, none⟩ = some (.int .i64 u1) ∧ u.cell? ⟨bS, oS + i * 2 + 1, none⟩ = some (.int .i64 u2) ∧ u.cell? ⟨bZ, oZ + i * 2, none⟩ = some (.int .i64 u3) ∧ u.cell? ⟨bZ, oZ + i * 2 + 1, none⟩ = some (.int .i64 u4))
                ((refine HSA.out _ ?_; first | exact P1.out | exact Hbo.out))
                (first | (go_at_call 19; refine (HOr.out _).mono ?_; rintro e wo ⟨rfl, hwo⟩; have Hbo : Hid (Below wr.heap.size wr wo) := Bel.call P1.out (Nat.le_refl _) hwo))
              all_goals
                have HBo : Hid (Below w8.heap.size w8 wo) := Bel.call hb.out (Nat.le_refl _) Hbo.out
                clear hwo P1 HSA Hbo s0 s1 z0 z1
                go_wp2
                go_roundw
                case rel => exact ⟨i + 1, od, by omega, by go_num, rfl, HNw, HBo⟩
                case measure => simp [intOf]; omega
            · have HV : Hid (cmpL S Z = ws) := by
                show _ = _
                rcases hws.out with h | h
                · have hil : S.length ≤ i := by omega
                  rw [h.2, cmpL_end hil, h.1]
                · exact h.2
              rw [HV.out] at HCm
              by_cases hil : i < S.length
              · have hw0 : ws ≠ 0 := fun e => hex ⟨hil, e⟩
                have qw : (ws == 0) = false := beq_eq_false_iff_ne.2 hw0
                clear hex hw0 hws
                go_wp2_with fail
                refine (HCm.out _ BQ.out).mono ?_
                rintro e w9 ⟨rfl, hw9⟩
                have B9 : Hid (Below w.heap.size w w9) := Bel.call BQ.out (Nat.le_refl _) hw9
                clear hw9
                go_wp2_with fail
                refine (HE0.out _ B9.out).mono ?_
                rintro e w10 ⟨rfl, hw10⟩
                have B10 : Hid (Below w.heap.size w w10) := Bel.call B9.out (Nat.le_refl _) hw10
                clear hw10
                go_wp2
                go_ret
                exact ⟨Ns.ret_bool (by simp), B10.out⟩
              · clear hex hws
                go_wp2_with fail
                refine (HCm.out _ BQ.out).mono ?_
                rintro e w9 ⟨rfl, hw9⟩
                have B9 : Hid (Below w.heap.size w w9) := Bel.call BQ.out (Nat.le_refl _) hw9
                clear hw9
                go_wp2_with fail
                refine (HE0.out _ B9.out).mono ?_
                rintro e w10 ⟨rfl, hw10⟩
                have B10 : Hid (Below w.heap.size w w10) := Bel.call B9.out (Nat.le_refl _) hw10
                clear hw10
                go_wp2
                go_ret
                exact ⟨Ns.ret_bool (by simp), B10.out⟩
        · have r1 : rankE a b = 3 := by rw [rankE, if_pos he, if_pos hb, if_neg hlen]
          have r2 : rankV a b = 0 := by rw [rankV, r1]; rfl
          rw [r1, r2] at HCm
          obtain ⟨K3, hK3⟩ : ∃ K : Int, Hid (K = 3) := ⟨3, rfl⟩
          have HE3 : Hid (∀ u : World, Below w.heap.size w u → Calls Tryd.prog 8 #[errV K3, .int .i64 3] u fun e w' => e = .returned (.bool true) ∧ Below u.heap.size u w') := fun u hu => by
            have := HEr.out K3 u hu
            rw [hK3.out] at this ⊢
            exact this
          rw [show errV 3 = errV K3 by rw [hK3.out]] at HCm
          rw [hb, okL_0] at HRb
          generalize sortP b = Z at *
          have qn : (((a.length : Nat) : Int) != (b.length : Int)) = true := by simp at hlen ⊢; omega
          clear r1 r2 hb HEr hlen
          generalize sortP a = S at *
          clear he
          go_enter Tryd.func4, Tryd.ntmps4
          go_wp2_with fail
          refine (HRa.out _ (Below.refl _ _)).mono ?_
          rintro e w1 ⟨y1, rfl, hy1, hw1⟩
          have B1 : Hid (Below w.heap.size w w1) := hw1
          have Y1 : Hid (FracsAt (fun _ => True) w1 y1 S) := hy1.keep (fun _ _ _ => rfl) (fun _ _ _ => trivial)
          obtain ⟨a1, c1, rfl, ⟨hmS, hnS⟩, _⟩ := hy1
          clear hw1
          go_wp2_with fail
          refine (HSo.out _ B1.out).mono ?_
          rintro e w2 ⟨y2, rfl, hy2, hw2⟩
          have B2 : Hid (Below w.heap.size w w2) := Bel.call B1.out (Nat.le_refl _) hw2
          have C2 : Hid (Below w1.heap.size w1 w2) := hw2
          have Y2 : Hid (FracsAt (fun _ => True) w2 y2 S) := hy2.keep (fun _ _ _ => rfl) (fun _ _ _ => trivial)
          obtain ⟨a2, c2, rfl, _⟩ := hy2
          clear hw2
          go_wp2_with fail
          refine (HE0.out _ B2.out).mono ?_
          rintro e w3 ⟨rfl, hw3⟩
          have B3 : Hid (Below w.heap.size w w3) := Bel.call B2.out (Nat.le_refl _) hw3
          have C3 : Hid (Below w1.heap.size w1 w3) := Bel.call C2.out (Nat.le_refl _) hw3
          have HS3 : Hid (Calls Tryd.prog 17 #[.slice a1 S.length c1, .slice a2 S.length c2] w3 fun e w' => e = .returned (.bool true) ∧ ∃ n, w' = w3.drewN n) := by
            have := SFracs_any S S _ _ w3 (Y1.out.later C3.out) (Y2.out.later hw3)
            rw [eqF_self'] at this
            exact this
          clear hw3 Y2
          go_wp2_with fail
          refine HS3.out.mono ?_
          rintro e w4 ⟨rfl, m4, rfl⟩
          have B4 : Hid (Below w.heap.size w (w3.drewN m4)) := below_drewN B3.out _
          have C4 : Hid (Below w1.heap.size w1 (w3.drewN m4)) := below_drewN C3.out _
          clear HS3 B3 C3
          generalize w3.drewN m4 = w4 at *
          have B5 : Hid (Below w.heap.size w (w4.alloc (.cells #[.int .i64 0, .int .i64 0] 49))) := Bel.more B4.out (Nat.le_refl _) _
          have C5 : Hid (Below w1.heap.size w1 (w4.alloc (.cells #[.int .i64 0, .int .i64 0] 49))) := Bel.more C4.out (Nat.le_refl _) _
          have hc1 : S.length ≤ c1 := hmS
          obtain ⟨bS, oS, hae, hcS⟩ : ∃ bS oS, a1 = some ⟨bS, oS, none⟩ ∧ ∀ i, i < S.length → w1.cell? ⟨bS, oS + i * 2, none⟩ = some (.int .i64 (S.getD i (0, 0)).1) ∧ w1.cell? ⟨bS, oS + i * 2 + 1, none⟩ = some (.int .i64 (S.getD i (0, 0)).2) := by
            obtain ⟨_, _, e, _, hc⟩ := Y1.out
            simp only [Value.slice.injEq] at e
            obtain ⟨rfl, _, rfl⟩ := e
            rcases hc with hc | ⟨b', o', rfl, hc, _⟩
            · rw [hc] at hSn; simp at hSn
            · exact ⟨b', o', rfl, hc⟩
          subst hae
          have HcS : Hid (∀ u, Below w1.heap.size w1 u → ∀ i, i < S.length → u.cell? ⟨bS, oS + i * 2, none⟩ = some (.int .i64 (S.getD i (0, 0)).1) ∧ u.cell? ⟨bS, oS + i * 2 + 1, none⟩ = some (.int .i64 (S.getD i (0, 0)).2)) := fun u hu i hi => ⟨cell_later hu (hcS i hi).1, cell_later hu (hcS i hi).2⟩
          obtain ⟨s0, s1⟩ := HcS.out _ C5.out 0 hSn
          rw [HLv.out.1] at s0
          rw [HLv.out.2] at s1
          simp only [Nat.zero_mul, Nat.add_zero] at s0 s1
          have B5' : Hid (Below w.heap.size w (w4.alloc (.cells #[.int .i64 p1, .int .i64 p2] 49))) := Bel.more B4.out (Nat.le_refl _) _
          have C5' : Hid (Below w1.heap.size w1 (w4.alloc (.cells #[.int .i64 p1, .int .i64 p2] 49))) := Bel.more C4.out (Nat.le_refl _) _
          clear hcS
          go_wp2_with fail
          refine (HLe.out _ B5'.out).mono ?_
          rintro e w6 ⟨rfl, hw6⟩
          have B6 : Hid (Below w.heap.size w (w6.alloc (.cells #[.int .i64 p1, .int .i64 p2] 49))) := Bel.more (Bel.call B5'.out (Nat.le_refl _) hw6) (Nat.le_refl _) _
          have C6 : Hid (Below w1.heap.size w1 (w6.alloc (.cells #[.int .i64 p1, .int .i64 p2] 49))) := Bel.more (Bel.call C5'.out (Nat.le_refl _) hw6) (Nat.le_refl _) _
          have l0 : w6.cell? ⟨w4.heap.size, 0, none⟩ = some (.int .i64 p1) := cell_later hw6 (by go_simp)
          have l1 : w6.cell? ⟨w4.heap.size, 1, none⟩ = some (.int .i64 p2) := cell_later hw6 (by go_simp)
          have hz6 : w4.heap.size < w6.heap.size := by have := hw6.size; simp at this; omega
          clear hw6
          go_wp2_with fail
          refine (HE0.out _ B6.out).mono ?_
          rintro e w7 ⟨rfl, hw7⟩
          have B7 : Hid (Below w.heap.size w w7) := Bel.call B6.out (Nat.le_refl _) hw7
          have C7 : Hid (Below w1.heap.size w1 w7) := Bel.call C6.out (Nat.le_refl _) hw7
          have k0 : w7.cell? ⟨w4.heap.size, 0, none⟩ = some (.int .i64 p1) := cell_later hw7 (by go_simp)
          have k1 : w7.cell? ⟨w4.heap.size, 1, none⟩ = some (.int .i64 p2) := cell_later hw7 (by go_simp)
          have k2 : w7.cell? ⟨w6.heap.size, 0, none⟩ = some (.int .i64 p1) := cell_later hw7 (by go_simp)
          have k3 : w7.cell? ⟨w6.heap.size, 1, none⟩ = some (.int .i64 p2) := cell_later hw7 (by go_simp)
          clear hw7 l0 l1
          go_wp2_with fail
          refine (HRb.out _ B7.out).mono ?_
          rintro e w8 ⟨y8, rfl, hy8, hw8⟩
          have B8 : Hid (Below w.heap.size w w8) := Bel.call B7.out (Nat.le_refl _) hw8
          have C8 : Hid (Below w1.heap.size w1 w8) := Bel.call C7.out (Nat.le_refl _) hw8
          have Y8 : Hid (FracsAt (fun _ => True) w8 y8 Z) := hy8.keep (fun _ _ _ => rfl) (fun _ _ _ => trivial)
          obtain ⟨a8, c8, rfl, ⟨hmZ, hnZ⟩, _⟩ := hy8
          clear hw8 k0 k1 k2 k3
          go_wp2
          go_loop [16, 17] (fun s16 s17 => s16 = .int .i64 0 ∧ s17 = .int .i64 0) (fun _ _ => 0)
          case atStart => exact ⟨rfl, rfl⟩
          case round =>
            obtain ⟨rfl, rfl⟩ := hrel
            go_wp2_with fail
            refine (HCm.out _ B8.out).mono ?_
            rintro e w9 ⟨rfl, hw9⟩
            have B9 : Hid (Below w.heap.size w w9) := Bel.call B8.out (Nat.le_refl _) hw9
            clear hw9
            go_wp2_with fail
            refine (HE3.out _ B9.out).mono ?_
            rintro e w10 ⟨rfl, hw10⟩
            have B10 : Hid (Below w.heap.size w w10) := Bel.call B9.out (Nat.le_refl _) hw10
            clear hw10
            go_wp2
            go_ret
            exact ⟨Ns.ret_bool (by simp), B10.out⟩
      · have r1 : rankE a b = sortE b := by rw [rankE, if_pos he, if_neg hb]
        have r2 : rankV a b = 0 := by rw [rankV, if_neg (by rw [r1]; exact hb)]
        rw [r1, r2] at HCm
        have HEb : Hid (∀ u : World, Below w.heap.size w u → Calls Tryd.prog 8 #[errV (sortE b), .int .i64 (sortE b)] u fun e w' => e = .returned (.bool true) ∧ Below u.heap.size u w') := fun u hu => HEr.out _ u hu
        have qb : (sortE b == 0) = false := beq_eq_false_iff_ne.2 hb
        generalize okL (sortE b) (sortP b) = Z at *
        generalize sortE b = eb at *
        clear r1 r2 HEr
        generalize sortP a = S at *
        clear he
        go_enter Tryd.func4, Tryd.ntmps4
        go_wp2_with fail
        refine (HRa.out _ (Below.refl _ _)).mono ?_
        rintro e w1 ⟨y1, rfl, hy1, hw1⟩
        have B1 : Hid (Below w.heap.size w w1) := hw1
        have Y1 : Hid (FracsAt (fun _ => True) w1 y1 S) := hy1.keep (fun _ _ _ => rfl) (fun _ _ _ => trivial)
        obtain ⟨a1, c1, rfl, ⟨hmS, hnS⟩, _⟩ := hy1
        clear hw1
        go_wp2_with fail
        refine (HSo.out _ B1.out).mono ?_
        rintro e w2 ⟨y2, rfl, hy2, hw2⟩
        have B2 : Hid (Below w.heap.size w w2) := Bel.call B1.out (Nat.le_refl _) hw2
        have C2 : Hid (Below w1.heap.size w1 w2) := hw2
        have Y2 : Hid (FracsAt (fun _ => True) w2 y2 S) := hy2.keep (fun _ _ _ => rfl) (fun _ _ _ => trivial)
        obtain ⟨a2, c2, rfl, _⟩ := hy2
        clear hw2
        go_wp2_with fail
        refine (HE0.out _ B2.out).mono ?_
        rintro e w3 ⟨rfl, hw3⟩
        have B3 : Hid (Below w.heap.size w w3) := Bel.call B2.out (Nat.le_refl _) hw3
        have C3 : Hid (Below w1.heap.size w1 w3) := Bel.call C2.out (Nat.le_refl _) hw3
        have HS3 : Hid (Calls Tryd.prog 17 #[.slice a1 S.length c1, .slice a2 S.length c2] w3 fun e w' => e = .returned (.bool true) ∧ ∃ n, w' = w3.drewN n) := by
          have := SFracs_any S S _ _ w3 (Y1.out.later C3.out) (Y2.out.later hw3)
          rw [eqF_self'] at this
          exact this
        clear hw3 Y2
        go_wp2_with fail
        refine HS3.out.mono ?_
        rintro e w4 ⟨rfl, m4, rfl⟩
        have B4 : Hid (Below w.heap.size w (w3.drewN m4)) := below_drewN B3.out _
        have C4 : Hid (Below w1.heap.size w1 (w3.drewN m4)) := below_drewN C3.out _
        clear HS3 B3 C3
        generalize w3.drewN m4 = w4 at *
        have B5 : Hid (Below w.heap.size w (w4.alloc (.cells #[.int .i64 0, .int .i64 0] 49))) := Bel.more B4.out (Nat.le_refl _) _
        have C5 : Hid (Below w1.heap.size w1 (w4.alloc (.cells #[.int .i64 0, .int .i64 0] 49))) := Bel.more C4.out (Nat.le_refl _) _
        have hc1 : S.length ≤ c1 := hmS
        obtain ⟨bS, oS, hae, hcS⟩ : ∃ bS oS, a1 = some ⟨bS, oS, none⟩ ∧ ∀ i, i < S.length → w1.cell? ⟨bS, oS + i * 2, none⟩ = some (.int .i64 (S.getD i (0, 0)).1) ∧ w1.cell? ⟨bS, oS + i * 2 + 1, none⟩ = some (.int .i64 (S.getD i (0, 0)).2) := by
          obtain ⟨_, _, e, _, hc⟩ := Y1.out
          simp only [Value.slice.injEq] at e
          obtain ⟨rfl, _, rfl⟩ := e
          rcases hc with hc | ⟨b', o', rfl, hc, _⟩
          · rw [hc] at hSn; simp at hSn
          · exact ⟨b', o', rfl, hc⟩
        subst hae
        have HcS : Hid (∀ u, Below w1.heap.size w1 u → ∀ i, i < S.length → u.cell? ⟨bS, oS + i * 2, none⟩ = some (.int .i64 (S.getD i (0, 0)).1) ∧ u.cell? ⟨bS, oS + i * 2 + 1, none⟩ = some (.int .i64 (S.getD i (0, 0)).2)) := fun u hu i hi => ⟨cell_later hu (hcS i hi).1, cell_later hu (hcS i hi).2⟩
        obtain ⟨s0, s1⟩ := HcS.out _ C5.out 0 hSn
        rw [HLv.out.1] at s0
        rw [HLv.out.2] at s1
        simp only [Nat.zero_mul, Nat.add_zero] at s0 s1
        have B5' : Hid (Below w.heap.size w (w4.alloc (.cells #[.int .i64 p1, .int .i64 p2] 49))) := Bel.more B4.out (Nat.le_refl _) _
        have C5' : Hid (Below w1.heap.size w1 (w4.alloc (.cells #[.int .i64 p1, .int .i64 p2] 49))) := Bel.more C4.out (Nat.le_refl _) _
        clear hcS
        go_wp2_with fail
        refine (HLe.out _ B5'.out).mono ?_
        rintro e w6 ⟨rfl, hw6⟩
        have B6 : Hid (Below w.heap.size w (w6.alloc (.cells #[.int .i64 p1, .int .i64 p2] 49))) := Bel.more (Bel.call B5'.out (Nat.le_refl _) hw6) (Nat.le_refl _) _
        have C6 : Hid (Below w1.heap.size w1 (w6.alloc (.cells #[.int .i64 p1, .int .i64 p2] 49))) := Bel.more (Bel.call C5'.out (Nat.le_refl _) hw6) (Nat.le_refl _) _
        have l0 : w6.cell? ⟨w4.heap.size, 0, none⟩ = some (.int .i64 p1) := cell_later hw6 (by go_simp)
        have l1 : w6.cell? ⟨w4.heap.size, 1, none⟩ = some (.int .i64 p2) := cell_later hw6 (by go_simp)
        have hz6 : w4.heap.size < w6.heap.size := by have := hw6.size; simp at this; omega
        clear hw6
        go_wp2_with fail
        refine (HE0.out _ B6.out).mono ?_
        rintro e w7 ⟨rfl, hw7⟩
        have B7 : Hid (Below w.heap.size w w7) := Bel.call B6.out (Nat.le_refl _) hw7
        have C7 : Hid (Below w1.heap.size w1 w7) := Bel.call C6.out (Nat.le_refl _) hw7
        have k0 : w7.cell? ⟨w4.heap.size, 0, none⟩ = some (.int .i64 p1) := cell_later hw7 (by go_simp)
        have k1 : w7.cell? ⟨w4.heap.size, 1, none⟩ = some (.int .i64 p2) := cell_later hw7 (by go_simp)
        have k2 : w7.cell? ⟨w6.heap.size, 0, none⟩ = some (.int .i64 p1) := cell_later hw7 (by go_simp)
        have k3 : w7.cell? ⟨w6.heap.size, 1, none⟩ = some (.int .i64 p2) := cell_later hw7 (by go_simp)
        clear hw7 l0 l1
        go_wp2_with fail
        refine (HRb.out _ B7.out).mono ?_
        rintro e w8 ⟨y8, rfl, hy8, hw8⟩
        have B8 : Hid (Below w.heap.size w w8) := Bel.call B7.out (Nat.le_refl _) hw8
        have C8 : Hid (Below w1.heap.size w1 w8) := Bel.call C7.out (Nat.le_refl _) hw8
        have Y8 : Hid (FracsAt (fun _ => True) w8 y8 Z) := hy8.keep (fun _ _ _ => rfl) (fun _ _ _ => trivial)
        obtain ⟨a8, c8, rfl, ⟨hmZ, hnZ⟩, _⟩ := hy8
        clear hw8 k0 k1 k2 k3
        go_wp2
        go_loop [16, 17] (fun s16 s17 => s16 = .int .i64 0 ∧ s17 = .int .i64 0) (fun _ _ => 0)
        case atStart => exact ⟨rfl, rfl⟩
        case round =>
          obtain ⟨rfl, rfl⟩ := hrel
          go_wp2_with fail
          refine (HCm.out _ B8.out).mono ?_
          rintro e w9 ⟨rfl, hw9⟩
          have B9 : Hid (Below w.heap.size w w9) := Bel.call B8.out (Nat.le_refl _) hw9
          clear hw9
          go_wp2_with fail
          refine (HEb.out _ B9.out).mono ?_
          rintro e w10 ⟨rfl, hw10⟩
          have B10 : Hid (Below w.heap.size w w10) := Bel.call B9.out (Nat.le_refl _) hw10
          clear hw10
          go_wp2
          go_ret
          exact ⟨Ns.ret_bool (by simp), B10.out⟩
  · as_aux_lemma =>
    have hl : leastE a = sortE a ∧ leastV a = (0, 0) ∧ rankE a b = sortE a ∧ rankV a b = 0 := by
      have h1 : leastE a = sortE a := by rw [leastE, if_neg he]
      have h2 : rankE a b = sortE a := by rw [rankE, if_neg he]
      exact ⟨h1, by rw [leastV, if_neg (by rw [h1]; exact he)], h2, by rw [rankV, if_neg (by rw [h2]; exact he)]⟩
    obtain ⟨l1, l2, l3, l4⟩ := hl
    rw [l1, l2] at HLe
    rw [l3, l4] at HCm
    rw [okL_ne he] at HRa HSo
    obtain ⟨S, hS⟩ : ∃ S : List (Int × Int), Hid (S = []) := ⟨_, rfl⟩
    have hS0 : Hid (S.length = 0) := by show _ = _; rw [hS.out]; rfl
    rw [← hS.out] at HRa HSo
    generalize okL (sortE b) (sortP b) = Z at *
    generalize sortE b = eb at *
    have HEk : Hid (∀ u : World, Below w.heap.size w u → Calls Tryd.prog 8 #[errV (sortE a), .int .i64 (sortE a)] u fun e w' => e = .returned (.bool true) ∧ Below u.heap.size u w') := fun u hu => HEr.out _ u hu
    have q : (sortE a == 0) = false := beq_eq_false_iff_ne.2 he
    generalize sortE a = ea at *
    clear l1 l2 l3 l4 HEr hm1 hm2
    go_enter Tryd.func4, Tryd.ntmps4
    go_wp2_with fail
    refine (HRa.out _ (Below.refl _ _)).mono ?_
    rintro e w1 ⟨y1, rfl, hy1, hw1⟩
    have B1 : Hid (Below w.heap.size w w1) := hw1
    have Y1 : Hid (FracsAt (fun _ => True) w1 y1 S) := hy1.keep (fun _ _ _ => rfl) (fun _ _ _ => trivial)
    obtain ⟨a1, c1, rfl, ⟨hmS, hnS⟩, _⟩ := hy1
    clear hw1
    go_wp2_with fail
    refine (HSo.out _ B1.out).mono ?_
    rintro e w2 ⟨y2, rfl, hy2, hw2⟩
    have B2 : Hid (Below w.heap.size w w2) := Bel.call B1.out (Nat.le_refl _) hw2
    have C2 : Hid (Below w1.heap.size w1 w2) := hw2
    have Y2 : Hid (FracsAt (fun _ => True) w2 y2 S) := hy2.keep (fun _ _ _ => rfl) (fun _ _ _ => trivial)
    obtain ⟨a2, c2, rfl, _⟩ := hy2
    clear hw2
    go_wp2_with fail
    refine (HEk.out _ B2.out).mono ?_
    rintro e w3 ⟨rfl, hw3⟩
    have B3 : Hid (Below w.heap.size w w3) := Bel.call B2.out (Nat.le_refl _) hw3
    have C3 : Hid (Below w1.heap.size w1 w3) := Bel.call C2.out (Nat.le_refl _) hw3
    have HS3 : Hid (Calls Tryd.prog 17 #[.slice a1 S.length c1, .slice a2 S.length c2] w3 fun e w' => e = .returned (.bool true) ∧ ∃ n, w' = w3.drewN n) := by
      have := SFracs_any S S _ _ w3 (Y1.out.later C3.out) (Y2.out.later hw3)
      rw [eqF_self'] at this
      exact this
    clear hw3 Y2
    go_wp2_with fail
    refine HS3.out.mono ?_
    rintro e w4 ⟨rfl, m4, rfl⟩
    have B4 : Hid (Below w.heap.size w (w3.drewN m4)) := below_drewN B3.out _
    have C4 : Hid (Below w1.heap.size w1 (w3.drewN m4)) := below_drewN C3.out _
    clear HS3 B3 C3
    generalize w3.drewN m4 = w4 at *
    have B5 : Hid (Below w.heap.size w (w4.alloc (.cells #[.int .i64 0, .int .i64 0] 49))) := Bel.more B4.out (Nat.le_refl _) _
    have C5 : Hid (Below w1.heap.size w1 (w4.alloc (.cells #[.int .i64 0, .int .i64 0] 49))) := Bel.more C4.out (Nat.le_refl _) _
    rw [hS0.out]
    go_wp2_with fail
    refine (HLe.out _ B5.out).mono ?_
    rintro e w6 ⟨rfl, hw6⟩
    have B6 : Hid (Below w.heap.size w (w6.alloc (.cells #[.int .i64 0, .int .i64 0] 49))) := Bel.more (Bel.call B5.out (Nat.le_refl _) hw6) (Nat.le_refl _) _
    have C6 : Hid (Below w1.heap.size w1 (w6.alloc (.cells #[.int .i64 0, .int .i64 0] 49))) := Bel.more (Bel.call C5.out (Nat.le_refl _) hw6) (Nat.le_refl _) _
    have l0 : w6.cell? ⟨w4.heap.size, 0, none⟩ = some (.int .i64 0) := cell_later hw6 (by go_simp)
    have l1 : w6.cell? ⟨w4.heap.size, 1, none⟩ = some (.int .i64 0) := cell_later hw6 (by go_simp)
    have hz6 : w4.heap.size < w6.heap.size := by have := hw6.size; simp at this; omega
    clear hw6
    go_wp2_with fail
    refine (HEk.out _ B6.out).mono ?_
    rintro e w7 ⟨rfl, hw7⟩
    have B7 : Hid (Below w.heap.size w w7) := Bel.call B6.out (Nat.le_refl _) hw7
    have C7 : Hid (Below w1.heap.size w1 w7) := Bel.call C6.out (Nat.le_refl _) hw7
    have k0 : w7.cell? ⟨w4.heap.size, 0, none⟩ = some (.int .i64 0) := cell_later hw7 (by go_simp)
    have k1 : w7.cell? ⟨w4.heap.size, 1, none⟩ = some (.int .i64 0) := cell_later hw7 (by go_simp)
    have k2 : w7.cell? ⟨w6.heap.size, 0, none⟩ = some (.int .i64 0) := cell_later hw7 (by go_simp)
    have k3 : w7.cell? ⟨w6.heap.size, 1, none⟩ = some (.int .i64 0) := cell_later hw7 (by go_simp)
    clear hw7 l0 l1
    go_wp2_with fail
    refine (HRb.out _ B7.out).mono ?_
    rintro e w8 ⟨y8, rfl, hy8, hw8⟩
    have B8 : Hid (Below w.heap.size w w8) := Bel.call B7.out (Nat.le_refl _) hw8
    have C8 : Hid (Below w1.heap.size w1 w8) := Bel.call C7.out (Nat.le_refl _) hw8
    have Y8 : Hid (FracsAt (fun _ => True) w8 y8 Z) := hy8.keep (fun _ _ _ => rfl) (fun _ _ _ => trivial)
    obtain ⟨a8, c8, rfl, ⟨hmZ, hnZ⟩, _⟩ := hy8
    clear hw8 k0 k1 k2 k3
    go_wp2
    go_loop [16, 17] (fun s16 s17 => s16 = .int .i64 0 ∧ s17 = .int .i64 0) (fun _ _ => 0)
    case atStart => exact ⟨rfl, rfl⟩
    case round =>
      obtain ⟨rfl, rfl⟩ := hrel
      go_wp2_with fail
      refine (HCm.out _ B8.out).mono ?_
      rintro e w9 ⟨rfl, hw9⟩
      have B9 : Hid (Below w.heap.size w w9) := Bel.call B8.out (Nat.le_refl _) hw9
      clear hw9
      go_wp2_with fail
      refine (HEk.out _ B9.out).mono ?_
      rintro e w10 ⟨rfl, hw10⟩
      have B10 : Hid (Below w.heap.size w w10) := Bel.call B9.out (Nat.le_refl _) hw10
      clear hw10
      go_wp2
      go_ret
      exact ⟨Ns.ret_bool (by simp), B10.out⟩
end Fl
end Go.Proofs.YtcleeepbpibcfacDoor
