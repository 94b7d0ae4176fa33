/- Package load's Of: what goes over each link. -/
import Derived.Test.YtdldgefahgojaakGreatDoorLoadB
import Derived.Test.YtdldgefahgojaakGreatDoorPlains
namespace Go.Proofs.YtdldgefahgojaakGreatDoor
namespace Ld
open Go.RowKit Fr Ns
set_option linter.unusedSimpArgs false
set_option linter.unusedVariables false

theorem checkE_0 {caps : List Int} {paths : List (List Int)} {r : List (Int × Int)} (h : checkE caps paths r = 0) : netE caps paths = 0 ∧ r.length = paths.length ∧ ratesE r = 0 := by
  unfold checkE at h
  split at h
  · split at h
    · exact ⟨by assumption, by assumption, h⟩
    · omega
  · contradiction
theorem loadE_check {caps : List Int} {paths : List (List Int)} {r : List (Int × Int)} (h : checkE caps paths r ≠ 0) : loadE caps paths r = checkE caps paths r := by
  unfold checkE at h ⊢
  unfold loadE
  split
  · rw [if_pos (by assumption)] at h
    split
    · rw [if_pos (by assumption)] at h
      rw [if_neg h]
    · rfl
  · rfl
theorem load_big {caps : List Int} {paths : List (List Int)} {r : List (Int × Int)} (h1 : netE caps paths = 0) (h2 : r.length = paths.length) (h3 : ratesE r = 0) {l : Nat} (hl : l < caps.length) (h : loadOf paths r l = none) : loadE caps paths r = 4 := by
  rw [loadE, if_pos h1, if_pos h2, if_pos h3, if_neg]
  intro ha
  obtain ⟨s, hs⟩ := allOk_at ha hl
  rw [h] at hs
  cases hs
/-- two cells more of a row -/
theorem take_set2 {xs : List Value} {k n : Nat} {x y : Value} (hl : xs.length = n * 2) (hk : k < n) : ((xs.set (k * 2) x).set (k * 2 + 1) y).take ((k + 1) * 2) = xs.take (k * 2) ++ [x, y] := by
  apply List.ext_getElem?
  intro i
  rw [List.getElem?_take]
  by_cases h1 : i < k * 2
  · rw [if_pos (by omega), List.getElem?_append_left (by rw [List.length_take]; omega), List.getElem?_take, if_pos h1, List.getElem?_set_ne (by omega), List.getElem?_set_ne (by omega)]
  · have hlen : (xs.take (k * 2)).length = k * 2 := by rw [List.length_take]; omega
    rw [List.getElem?_append_right (by omega), hlen]
    by_cases h2 : i = k * 2
    · subst h2
      rw [if_pos (by omega), List.getElem?_set_ne (by omega), List.getElem?_set_self (by omega)]
      simp
    · by_cases h3 : i = k * 2 + 1
      · subst h3
        rw [if_pos (by omega), List.getElem?_set_self (by simp; omega)]
        simp [show k * 2 + 1 - k * 2 = 1 by omega]
      · rw [if_neg (by omega), List.getElem?_eq_none]
        simp; omega

set_option maxRecDepth 100000 in
set_option maxHeartbeats 4000000 in
theorem of_said : OfSaid := by
  intro Q caps paths r v x w h hx
  have HCk : Hid (∀ u : World, Below w.heap.size w u → Calls Tryz.prog 44 #[v, x] u fun e w' => e = .returned (errV (checkE caps paths r)) ∧ Below u.heap.size u w') := fun u hu => LCheck_any caps paths r v x u (h.later hu) (hx.later hu)
  by_cases hk : checkE caps paths r = 0
  · obtain ⟨e1, e2, e3⟩ := checkE_0 hk
    have HOv : Hid (∀ (l : Nat) (u : World), l < caps.length → Below w.heap.size w u → Calls Tryz.prog 45 #[v, x, .int .i64 l] u fun e w' => e = .returned (overV (loadOf paths r l)) ∧ Below u.heap.size u w') := fun l u hl hu => over_any caps paths r l v x u (h.later hu) (hx.later hu) e1 e2 e3 hl
    have HE : Hid (netE caps paths = 0 ∧ r.length = paths.length ∧ ratesE r = 0) := ⟨e1, e2, e3⟩
    have hc6 : caps.length ≤ 6 := (netE_0 e1).2.1
    rw [hk, errV_0] at HCk
    clear e1 e2 e3 hk
    obtain ⟨v1, v2, rfl, h1, h2⟩ := h
    obtain ⟨a1, cap1, rfl, ⟨hm1, hn1⟩, _⟩ := h1
    obtain ⟨a2, cap2, rfl, ⟨hm2, hn2⟩, _⟩ := h2
    obtain ⟨ar, capr, rfl, ⟨hm3, hn3⟩, _⟩ := hx
    obtain ⟨i0, hi, hz0, hz1, hz2⟩ := info_parts infoFrac
    go_enter Tryz.func29, Tryz.ntmps29
    go_wp2_with fail
    refine (HCk.out _ ((Below.refl _ _).alloc (Nat.le_refl _) _)).mono ?_
    rintro e w1 ⟨rfl, hw1⟩
    have g0 : w1.cell? ⟨w.heap.size, 0, none⟩ = some (.slice a1 caps.length cap1) := cell_later hw1 (by simp)
    have g1 : w1.cell? ⟨w.heap.size, 1, none⟩ = some (.slice a2 paths.length cap2) := cell_later hw1 (by simp)
    have hs1 : w.heap.size < w1.heap.size := by have := hw1.size; simp at this; omega
    have HB1 : Hid (Below w.heap.size w w1) := ((Below.refl _ _).alloc (Nat.le_refl _) _).trans (hw1.mono (by simp))
    clear hw1
    go_wp2_with (at_make; go_must (refine wpList_make_full _ rfl _ _ 24 rfl w1.heap.size 50 i0 (.agg #[.int .i64 0, .int .i64 0]) 2 Tryz.underlying24 hi hz0 hz1 .i64 .i64 _ _ caps.length rfl rfl rfl rfl ?b2 ?b3 ?b4 ?_))
    case b2 => rw [hz2]; omega
    case b3 => unfold maxLen; omega
    case b4 => simp
    intro w2 hown hgrow
    have HB2 : Hid (Below w1.heap.size w1 w2) := (Below.refl _ _).grown hgrow (by simp) (by intro k hk; cases hk)
    have HO2 : Hid (w2.ownsRow w1.heap.size 50 2 (.slice (some ⟨w1.heap.size, 0, none⟩) caps.length caps.length) caps.length (madeCells #[.int .i64 0, .int .i64 0] (caps.length * 2)).toList) := hown
    generalize (madeCells #[Value.int .i64 0, Value.int .i64 0] (caps.length * 2)).toList = xs0 at HO2
    clear hown hgrow
    go_wp2
    go_loopw [8, 10, 23] (fun _ _ i wr => ∃ (k : Nat) (xs : List Value), k ≤ caps.length ∧ i = .int .i64 k ∧ Hid (wr.ownsRow w1.heap.size 50 2 (.slice (some ⟨w1.heap.size, 0, none⟩) caps.length caps.length) caps.length xs) ∧ Hid (Below w1.heap.size w1 wr) ∧ Hid (xs.take (k * 2) = flat (loadL paths r k)) ∧ Hid (allOk paths r k = true)) (fun _ _ i _ => caps.length - (intOf i).toNat)
    case atStart => exact ⟨0, xs0, by omega, rfl, HO2, HB2, by simp [loadL, flat, Hid], rfl⟩
    case round =>
      obtain ⟨k, xs, hk, rfl, ho, hb, ht, hok⟩ := hrel
      have HBw : Hid (Below w.heap.size w wr) := HB1.out.trans (hb.out.mono (by omega))
      have d0 : wr.cell? ⟨w.heap.size, 0, none⟩ = some (.slice a1 caps.length cap1) := cell_later hb.out g0
      have d1 : wr.cell? ⟨w.heap.size, 1, none⟩ = some (.slice a2 paths.length cap2) := cell_later hb.out g1
      have hsr : w1.heap.size < wr.heap.size := (ho.out.lt _ rfl).2
      have hxl : xs.length = caps.length * 2 := ho.out.1
      by_cases hlt : k < caps.length
      · have HO := (show Hid (∀ u : World, Below w.heap.size w u → _) from fun u hu => HOv.out k u hlt hu)
        cases hlo : loadOf paths r k with
        | some s =>
          have HOk : Hid (allOk paths r (k + 1) = true) := by show _ = _; rw [allOk_snoc, hok.out, hlo]; rfl
          have HLs : Hid (loadL paths r (k + 1) = loadL paths r k ++ [s]) := by show _ = _; rw [loadL_snoc, hlo]; rfl
          rw [hlo] at HO
          obtain ⟨s1, s2⟩ := s
          replace HO : Hid (∀ u : World, Below w.heap.size w u → Calls Tryz.prog 45 #[.agg #[.slice a1 caps.length cap1, .slice a2 paths.length cap2], .slice ar r.length capr, .int .i64 k] u fun e w' => e = .returned (.tuple #[.agg #[.int .i64 s1, .int .i64 s2], .nilIface]) ∧ Below u.heap.size u w') := HO
          clear hlo
          go_wp2_with fail
          refine (HO.out _ HBw.out).mono ?_
          rintro e w3 ⟨rfl, hw3⟩
          have ho3 := ownsRow_later hw3 hsr ho.out
          have p0 : ∃ z, w3.cell? ⟨w1.heap.size, k * 2, none⟩ = some z := ⟨xs[k * 2]'(by omega), by rw [ho3.cellAt (k * 2) (by omega)]; simp [List.getElem?_eq_getElem (show k * 2 < xs.length by omega)]⟩
          have p1 : ∃ z, w3.cell? ⟨w1.heap.size, k * 2 + 1, none⟩ = some z := ⟨xs[k * 2 + 1]'(by omega), by rw [ho3.cellAt (k * 2 + 1) (by omega)]; simp [List.getElem?_eq_getElem (show k * 2 + 1 < xs.length by omega)]⟩
          obtain ⟨z0, p0⟩ := p0
          obtain ⟨z1, p1⟩ := p1
          have q0 : w3.frozen? ⟨w1.heap.size, k * 2, none⟩ = false := ho3.frozenAt _
          have q1 : w3.frozen? ⟨w1.heap.size, k * 2 + 1, none⟩ = false := ho3.frozenAt _
          have hs3 : w1.heap.size < w3.heap.size := by have := hw3.size; omega
          have HO3 : Hid ((((w3.setCell ⟨w1.heap.size, k * 2, none⟩ (.int .i64 s1)).setCell ⟨w1.heap.size, k * 2 + 1, none⟩ (.int .i64 s2)).alloc (.cells #[.int .i64 s1, .int .i64 s2] 50)).ownsRow w1.heap.size 50 2 (.slice (some ⟨w1.heap.size, 0, none⟩) caps.length caps.length) caps.length ((xs.set (k * 2) (.int .i64 s1)).set (k * 2 + 1) (.int .i64 s2))) := ((ho3.stored (k * 2) (.int .i64 s1)).1.stored (k * 2 + 1) (.int .i64 s2)).1.alloc _
          have HB3 : Hid (Below w1.heap.size w1 (((w3.setCell ⟨w1.heap.size, k * 2, none⟩ (.int .i64 s1)).setCell ⟨w1.heap.size, k * 2 + 1, none⟩ (.int .i64 s2)).alloc (.cells #[.int .i64 s1, .int .i64 s2] 50))) := (((hb.out.trans (hw3.mono (by omega))).setCell (by simp) _).setCell (by simp) _).alloc (by simp; omega) _
          have HT3 : Hid (((xs.set (k * 2) (.int .i64 s1)).set (k * 2 + 1) (.int .i64 s2)).take ((k + 1) * 2) = flat (loadL paths r (k + 1))) := by
            show _ = _
            rw [take_set2 hxl hlt, ht.out, HLs.out, flat_append]
            rfl
          clear ho3 hw3 d0 d1
          go_wp2
          go_roundw
          case rel => exact ⟨k + 1, _, by omega, by go_num, HO3, HB3, HT3, HOk⟩
          case measure => simp [intOf]; omega
        | none =>
          have HL4 : Hid (loadE caps paths r = 4) := load_big HE.out.1 HE.out.2.1 HE.out.2.2 hlt hlo
          rw [hlo] at HO
          replace HO : Hid (∀ u : World, Below w.heap.size w u → Calls Tryz.prog 45 #[.agg #[.slice a1 caps.length cap1, .slice a2 paths.length cap2], .slice ar r.length capr, .int .i64 k] u fun e w' => e = .returned (.tuple #[.agg #[.int .i64 0, .int .i64 0], .iface 55 (.int .i64 4)]) ∧ Below u.heap.size u w') := HO
          clear hlo
          go_wp2_with fail
          refine (HO.out _ HBw.out).mono ?_
          rintro e w3 ⟨rfl, hw3⟩
          have HB3 : Hid (Below w.heap.size w w3) := HBw.out.trans (hw3.mono (by omega))
          have hs3 : w.heap.size ≤ w3.heap.size := HB3.out.size
          clear hw3 d0 d1
          go_wp2
          refine bodyPost_ret (v := .tuple #[.slice none 0 0, .iface 55 (.int .i64 4)]) (by simp [results, Tryz.results29, go_sem]) rfl ?_
          rw [HL4.out]
          exact ⟨_, rfl, fracs_nil _ _, HB3.out.alloc hs3 _⟩
      · obtain rfl : k = caps.length := by omega
        have HL0 : Hid (loadE caps paths r = 0) := loadE_mk HE.out.1 HE.out.2.1 HE.out.2.2 hok.out
        have hxs : xs = flat (loadL paths r caps.length) := by have := ht.out; rwa [List.take_of_length_le (by omega)] at this
        have HX : Hid (FracsAt (fun b => w.heap.size ≤ b) wr (.slice (some ⟨w1.heap.size, 0, none⟩) caps.length caps.length) (loadL paths r caps.length)) := fracs_of_owns (base := w1.heap.size) (by rw [loadL_length]; omega) (by rw [loadL_length, ← hxs]; exact ho.out) (fun g hg => by omega)
        clear hxs
        go_wp2
        refine bodyPost_ret (v := .tuple #[.slice (some ⟨w1.heap.size, 0, none⟩) caps.length caps.length, .nilIface]) (by simp [results, Tryz.results29, go_sem]) rfl ?_
        rw [HL0.out]
        exact ⟨_, rfl, HX.out, HBw.out⟩
  · have HE : Hid (loadE caps paths r = checkE caps paths r) := loadE_check hk
    have HV : Hid (errV (checkE caps paths r) = .iface 55 (.int .i64 (checkE caps paths r))) := errV_ne hk
    have HK : Hid (okL (checkE caps paths r) (loadL paths r caps.length) = []) := okL_ne hk _
    rw [HV.out] at HCk
    generalize checkE caps paths r = ek at *
    clear hk
    obtain ⟨v1, v2, rfl, h1, h2⟩ := h
    obtain ⟨a1, cap1, rfl, _⟩ := h1
    obtain ⟨a2, cap2, rfl, _⟩ := h2
    obtain ⟨ar, capr, rfl, _⟩ := hx
    go_enter Tryz.func29, Tryz.ntmps29
    go_wp2_with fail
    refine (HCk.out _ ((Below.refl _ _).alloc (Nat.le_refl _) _)).mono ?_
    rintro e w1 ⟨rfl, hw1⟩
    have HB1 : Hid (Below w.heap.size w w1) := ((Below.refl _ _).alloc (Nat.le_refl _) _).trans (hw1.mono (by simp))
    clear hw1
    go_wp2
    refine bodyPost_ret (v := .tuple #[.slice none 0 0, .iface 55 (.int .i64 ek)]) (by simp [results, Tryz.results29, go_sem]) rfl ?_
    rw [HE.out, HK.out, HV.out]
    exact ⟨_, rfl, fracs_nil _ _, HB1.out⟩
end Ld
end Go.Proofs.YtdldgefahgojaakGreatDoor
