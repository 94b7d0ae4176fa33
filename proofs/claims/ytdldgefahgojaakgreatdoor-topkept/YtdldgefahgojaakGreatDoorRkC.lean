/- slices.CompareFunc over fractions by package rank's order; package rank's Compare keeps what the document says. -/
import Derived.Test.YtdldgefahgojaakGreatDoorRkS
import Derived.Test.YtdldgefahgojaakGreatDoorPlains
namespace Go.Proofs.YtdldgefahgojaakGreatDoor
namespace Fl
open Go.RowKit Fr Ns Ld
set_option linter.unusedSimpArgs false
set_option linter.unusedVariables false

theorem cmpL_drop (a b : List (Int × Int)) (k : Nat) (ha : k < a.length) (hb : k < b.length) : cmpL (a.drop k) (b.drop k) = if ordP (a.getD k (0, 0)) (b.getD k (0, 0)) = 0 then cmpL (a.drop (k + 1)) (b.drop (k + 1)) else ordP (a.getD k (0, 0)) (b.getD k (0, 0)) := by
  rw [drop_cons a k ha (0, 0), drop_cons b k hb (0, 0)]
  rfl

set_option maxHeartbeats 2000000 in
theorem CompareFunc_any {Q R : Nat → Prop} (a b : List (Int × Int)) (x y : Value) (w : World) (hx : FracsAt Q w x a) (hy : FracsAt R w y b) (hl : b.length = a.length) (h6 : a.length ≤ 6) (ha : ∀ p ∈ a, faultP p = 0) (hb : ∀ p ∈ b, faultP p = 0) :
    Calls Tryz.prog 35 #[x, y, .func (.func 36) #[] #[]] w fun e w' => e = .returned (.int .i64 (cmpL a b)) ∧ Below w.heap.size w w' := by
  have HO : Hid (∀ k, k < a.length → ∀ u : World, Calls Tryz.prog 36 #[.agg #[.int .i64 (a.getD k (0, 0)).1, .int .i64 (a.getD k (0, 0)).2], .agg #[.int .i64 (b.getD k (0, 0)).1, .int .i64 (b.getD k (0, 0)).2]] u fun e w' => e = .returned (.int .i64 (ordP (a.getD k (0, 0)) (b.getD k (0, 0)))) ∧ Below u.heap.size u w') := fun k hk u => order_any (ha _ (getD_mem a k hk _)) (hb _ (getD_mem b k (by omega) _)) u
  have HD : Hid (∀ k, k < a.length → cmpL (a.drop k) (b.drop k) = if ordP (a.getD k (0, 0)) (b.getD k (0, 0)) = 0 then cmpL (a.drop (k + 1)) (b.drop (k + 1)) else ordP (a.getD k (0, 0)) (b.getD k (0, 0))) := fun k hk => cmpL_drop a b k hk (by omega)
  have HE : Hid (cmpL (a.drop a.length) (b.drop a.length) = 0) := by show _ = _; rw [List.drop_of_length_le (Nat.le_refl _)]; rfl
  obtain ⟨a1, cap1, rfl, ⟨hm1, hn1⟩, hc1⟩ := hx
  obtain ⟨a2, cap2, rfl, ⟨hm2, hn2⟩, hc2⟩ := hy
  have H1 : Hid (∀ k, k < a.length → ∃ b off, a1 = some ⟨b, off, none⟩ ∧ ∀ u, Below w.heap.size w u → u.cell? ⟨b, off + k * 2, none⟩ = some (.int .i64 (a.getD k (0, 0)).1) ∧ u.cell? ⟨b, off + k * 2 + 1, none⟩ = some (.int .i64 (a.getD k (0, 0)).2)) := by
    intro k hk
    rcases hc1 with h0 | ⟨b, off, rfl, hc, _⟩
    · rw [h0] at hk; simp at hk
    · exact ⟨b, off, rfl, fun u hu => ⟨cell_later hu (hc k hk).1, cell_later hu (hc k hk).2⟩⟩
  have H2 : Hid (∀ k, k < a.length → ∃ c off, a2 = some ⟨c, off, none⟩ ∧ ∀ u, Below w.heap.size w u → u.cell? ⟨c, off + k * 2, none⟩ = some (.int .i64 (b.getD k (0, 0)).1) ∧ u.cell? ⟨c, off + k * 2 + 1, none⟩ = some (.int .i64 (b.getD k (0, 0)).2)) := by
    intro k hk
    rcases hc2 with h0 | ⟨b, off, rfl, hc, _⟩
    · rw [h0] at hl; simp at hl; omega
    · exact ⟨b, off, rfl, fun u hu => ⟨cell_later hu (hc k (by omega)).1, cell_later hu (hc k (by omega)).2⟩⟩
  rw [hl] at hm2 hn2 ⊢
  clear hc1 hc2 ha hb hl
  go_enter Tryz.func35, Tryz.ntmps35
  go_wp2
  go_loopw [7, 8, 9, 10, 13] (fun _ _ _ _ i wr => ∃ k : Nat, k ≤ a.length ∧ i = .int .i64 k ∧ Hid (Below w.heap.size w wr) ∧ Hid (cmpL a b = cmpL (a.drop k) (b.drop k))) (fun _ _ _ _ i _ => a.length - (intOf i).toNat)
  case atStart => exact ⟨0, by omega, rfl, Below.refl _ _, rfl⟩
  case round =>
    obtain ⟨k, hk, rfl, hbel, hn⟩ := hrel
    have hz : w.heap.size ≤ wr.heap.size := hbel.out.size
    by_cases hlt : k < a.length
    · obtain ⟨b1, off1, rfl, hc1⟩ := H1.out k hlt
      obtain ⟨b2, off2, rfl, hc2⟩ := H2.out k hlt
      obtain ⟨c1, c2⟩ := hc1 _ hbel.out
      have HP2 : Hid (Below w.heap.size w (wr.alloc (.cells #[.int .i64 (a.getD k (0, 0)).1, .int .i64 (a.getD k (0, 0)).2] 50))) := hbel.out.alloc hz _
      obtain ⟨c3, c4⟩ := hc2 _ HP2.out
      have hs := HD.out k hlt
      have hO := HO.out k hlt
      have HO' : Hid (∀ u : World, Calls Tryz.prog 36 #[.agg #[.int .i64 (a.getD k (0, 0)).1, .int .i64 (a.getD k (0, 0)).2], .agg #[.int .i64 (b.getD k (0, 0)).1, .int .i64 (b.getD k (0, 0)).2]] u fun e w' => e = .returned (.int .i64 (ordP (a.getD k (0, 0)) (b.getD k (0, 0)))) ∧ Below u.heap.size u w') := hO
      clear hO hc1 hc2
      by_cases h0 : ordP (a.getD k (0, 0)) (b.getD k (0, 0)) = 0
      · have HN2 : Hid (cmpL a b = cmpL (a.drop (k + 1)) (b.drop (k + 1))) := by show _ = _; rw [hn.out, hs, if_pos h0]
        rw [h0] at HO'
        generalize (a.getD k (0, 0)).1 = t1 at *
        generalize (a.getD k (0, 0)).2 = t2 at *
        generalize (b.getD k (0, 0)).1 = s1 at *
        generalize (b.getD k (0, 0)).2 = s2 at *
        clear hs h0
        go_wp2_with fail
        refine (HO'.out _).mono ?_
        rintro e w2 ⟨rfl, hw2⟩
        have HB2 : Hid (Below w.heap.size w w2) := (HP2.out.alloc (by simp; omega) _).trans (hw2.mono (by simp; omega))
        clear hw2
        go_wp2
        go_roundw
        case rel => exact ⟨k + 1, by omega, by go_num, HB2, HN2⟩
        case measure => simp [intOf]; omega
      · have HN2 : Hid (cmpL a b = ordP (a.getD k (0, 0)) (b.getD k (0, 0))) := by show _ = _; rw [hn.out, hs, if_neg h0]
        generalize ordP (a.getD k (0, 0)) (b.getD k (0, 0)) = od at *
        generalize (a.getD k (0, 0)).1 = t1 at *
        generalize (a.getD k (0, 0)).2 = t2 at *
        generalize (b.getD k (0, 0)).1 = s1 at *
        generalize (b.getD k (0, 0)).2 = s2 at *
        clear hs
        go_wp2_with fail
        refine (HO'.out _).mono ?_
        rintro e w2 ⟨rfl, hw2⟩
        have HB2 : Hid (Below w.heap.size w w2) := (HP2.out.alloc (by simp; omega) _).trans (hw2.mono (by simp; omega))
        clear hw2
        go_wp2
        go_ret
        exact ⟨by rw [HN2.out]; rfl, HB2.out⟩
    · obtain rfl : k = a.length := by omega
      have HN2 : Hid (cmpL a b = 0) := by show _ = _; rw [hn.out, HE.out]
      go_wp2
      go_ret
      exact ⟨by rw [HN2.out]; rfl, hbel.out⟩

set_option maxRecDepth 100000 in
set_option maxHeartbeats 2000000 in
theorem rcompare_said : RCompareSaid := by
  intro Q R a b x y w hx hy
  have HA : Hid (Calls Tryz.prog 34 #[x] w fun e w' => ∃ z, e = .returned (.tuple #[z, errV (sortE a)]) ∧ FracsAt (fun b => w.heap.size ≤ b) w' z (okL (sortE a) (sortP a)) ∧ Below w.heap.size w w') := sorted_said Q a x w hx
  have HB : Hid (∀ u, Below w.heap.size w u → Calls Tryz.prog 34 #[y] u fun e w' => ∃ z, e = .returned (.tuple #[z, errV (sortE b)]) ∧ FracsAt (fun b => u.heap.size ≤ b) w' z (okL (sortE b) (sortP b)) ∧ Below u.heap.size u w') := fun u hu => sorted_said R b y u (hy.later hu)
  obtain ⟨ax, cx, nx, rfl⟩ := hx.shape
  obtain ⟨ay, cy, ny, rfl⟩ := hy.shape
  by_cases he : sortE a = 0
  · by_cases hf : sortE b = 0
    · obtain ⟨h6a, ha⟩ := sortE_0 he
      obtain ⟨h6b, hb⟩ := sortE_0 hf
      have HCF : Hid (∀ z1 z2 u, FracsAt (fun b => w.heap.size ≤ b) u z1 (sortP a) → FracsAt (fun _ => True) u z2 (sortP b) → a.length = b.length → Calls Tryz.prog 35 #[z1, z2, .func (.func 36) #[] #[]] u fun e w' => e = .returned (.int .i64 (cmpL (sortP a) (sortP b))) ∧ Below u.heap.size u w') := fun z1 z2 u h1 h2 hl =>
        CompareFunc_any (sortP a) (sortP b) z1 z2 u h1 h2 (by rw [sortP_length, sortP_length, hl]) (by rw [sortP_length]; exact h6a) (fun p hp => ha p (sortP_mem.1 hp)) (fun p hp => hb p (sortP_mem.1 hp))
      rw [he, errV_0, show okL (0 : Int) (sortP a) = sortP a from if_pos rfl] at HA
      rw [hf, errV_0, show okL (0 : Int) (sortP b) = sortP b from if_pos rfl] at HB
      have hla : Hid ((sortP a).length = a.length) := sortP_length a
      have hlb : Hid ((sortP b).length = b.length) := sortP_length b
      by_cases hl : a.length = b.length
      · obtain ⟨r1, r2⟩ := rank_mk he hf hl
        rw [r1, r2, errV_0]
        have HL : Hid (a.length = b.length) := hl
        clear hl
        generalize cmpL (sortP a) (sortP b) = cv at *
        generalize sortP a = sa at *
        generalize sortP b = sb at *
        clear hx hy he hf ha hb r1 r2
        go_enter Tryz.func17, Tryz.ntmps17
        go_wp2_with fail
        refine HA.out.mono ?_
        rintro e w1 ⟨z1, rfl, hz1, hw1⟩
        have HZ1 : Hid (FracsAt (fun b => w.heap.size ≤ b) w1 z1 sa) := hz1
        have HB1 : Hid (Below w.heap.size w w1) := hw1
        obtain ⟨a1, k1, rfl, _⟩ := hz1
        clear hw1
        go_wp2_with fail
        refine (HB.out _ HB1.out).mono ?_
        rintro e w2 ⟨z2, rfl, hz2, hw2⟩
        have HZ2 : Hid (FracsAt (fun _ => True) w2 z2 sb) := hz2.keep (fun _ _ _ => rfl) (fun _ _ _ => trivial)
        obtain ⟨a2, k2, rfl, _⟩ := hz2
        have HB2 : Hid (Below w.heap.size w w2) := Bel.call HB1.out (Nat.le_refl _) hw2
        have HC : Hid (Calls Tryz.prog 35 #[.slice a1 sa.length k1, .slice a2 sb.length k2, .func (.func 36) #[] #[]] w2 fun e w' => e = .returned (.int .i64 cv) ∧ Below w2.heap.size w2 w') := HCF.out _ _ w2 (HZ1.out.later hw2) HZ2.out HL.out
        have q : ((sa.length : Int) != (sb.length : Int)) = false := by rw [hla.out, hlb.out, HL.out]; simp
        clear hw2
        go_wp2_with fail
        refine HC.out.mono ?_
        rintro e w3 ⟨rfl, hw3⟩
        have HB3 : Hid (Below w.heap.size w w3) := Bel.call HB2.out (Nat.le_refl _) hw3
        clear hw3
        go_wp2
        refine bodyPost_ret (v := .tuple #[.int .i64 cv, .nilIface]) (by simp [results, Tryz.results17, go_sem]) rfl ⟨rfl, HB3.out⟩
      · have r1 : rankE a b = 3 := by rw [rankE, if_pos he, if_pos hf, if_neg hl]
        have r2 : rankV a b = 0 := by rw [rankV, if_neg (by rw [r1]; decide)]
        rw [r1, r2, errV_ne (by decide)]
        generalize sortP a = sa at *
        generalize sortP b = sb at *
        clear hx hy he hf ha hb r1 r2 HCF
        go_enter Tryz.func17, Tryz.ntmps17
        go_wp2_with fail
        refine HA.out.mono ?_
        rintro e w1 ⟨z1, rfl, hz1, hw1⟩
        have HB1 : Hid (Below w.heap.size w w1) := hw1
        obtain ⟨a1, k1, rfl, _⟩ := hz1
        clear hw1
        go_wp2_with fail
        refine (HB.out _ HB1.out).mono ?_
        rintro e w2 ⟨z2, rfl, hz2, hw2⟩
        obtain ⟨a2, k2, rfl, _⟩ := hz2
        have HB2 : Hid (Below w.heap.size w w2) := Bel.call HB1.out (Nat.le_refl _) hw2
        have q : ((sa.length : Int) != (sb.length : Int)) = true := by rw [hla.out, hlb.out]; simp; omega
        clear hw2
        go_wp2
        refine bodyPost_ret (v := .tuple #[.int .i64 0, .iface 55 (.int .i64 3)]) (by simp [results, Tryz.results17, go_sem]) rfl ⟨rfl, HB2.out⟩
    · have r1 : rankE a b = sortE b := by rw [rankE, if_pos he, if_neg hf]
      have r2 : rankV a b = 0 := by rw [rankV, if_neg (by rw [r1]; exact hf)]
      have HV : Hid (errV (sortE b) = .iface 55 (.int .i64 (sortE b))) := errV_ne hf
      rw [r1, r2, HV.out]
      rw [he, errV_0, show okL (0 : Int) (sortP a) = sortP a from if_pos rfl] at HA
      rw [HV.out] at HB
      generalize okL (sortE b) (sortP b) = ob at *
      generalize sortE b = eb at *
      generalize sortP a = sa at *
      clear hx hy he hf r1 r2
      go_enter Tryz.func17, Tryz.ntmps17
      go_wp2_with fail
      refine HA.out.mono ?_
      rintro e w1 ⟨z1, rfl, hz1, hw1⟩
      have HB1 : Hid (Below w.heap.size w w1) := hw1
      obtain ⟨a1, k1, rfl, _⟩ := hz1
      clear hw1
      go_wp2_with fail
      refine (HB.out _ HB1.out).mono ?_
      rintro e w2 ⟨z2, rfl, hz2, hw2⟩
      obtain ⟨a2, k2, rfl, _⟩ := hz2
      have HB2 : Hid (Below w.heap.size w w2) := Bel.call HB1.out (Nat.le_refl _) hw2
      clear hw2
      go_wp2
      refine bodyPost_ret (v := .tuple #[.int .i64 0, .iface 55 (.int .i64 eb)]) (by simp [results, Tryz.results17, go_sem]) rfl ⟨rfl, HB2.out⟩
  · have r1 : rankE a b = sortE a := by rw [rankE, if_neg he]
    have r2 : rankV a b = 0 := by rw [rankV, if_neg (by rw [r1]; exact he)]
    have HV : Hid (errV (sortE a) = .iface 55 (.int .i64 (sortE a))) := errV_ne he
    rw [r1, r2, HV.out]
    rw [HV.out] at HA
    generalize okL (sortE a) (sortP a) = oa at *
    generalize sortE a = ea at *
    clear hx hy he r1 r2 HB
    go_enter Tryz.func17, Tryz.ntmps17
    go_wp2_with fail
    refine HA.out.mono ?_
    rintro e w1 ⟨z1, rfl, hz1, hw1⟩
    have HB1 : Hid (Below w.heap.size w w1) := hw1
    obtain ⟨a1, k1, rfl, _⟩ := hz1
    clear hw1
    go_wp2
    refine bodyPost_ret (v := .tuple #[.int .i64 0, .iface 55 (.int .i64 ea)]) (by simp [results, Tryz.results17, go_sem]) rfl ⟨rfl, HB1.out⟩
end Fl
end Go.Proofs.YtdldgefahgojaakGreatDoor
