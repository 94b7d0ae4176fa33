/- The document's Cut (package fairref2): a text cut at each byte c. -/
import Derived.Test.YtpnmmmlckdkcdakGreatDoorPlains
namespace Go.Proofs.YtpnmmmlckdkcdakGreatDoor
namespace Ev
open Go.RowKit Fr Ns Ld Fl
set_option linter.unusedSimpArgs false
set_option linter.unusedVariables false

theorem cutTo_len (c : UInt8) (s : Txt) (i : Nat) : (cutTo c s i).1.length ≤ i := by
  induction i with
  | zero => simp [cutTo]
  | succ i ih =>
    simp only [cutTo]
    split
    · simp; omega
    · omega

set_option maxRecDepth 100000 in
set_option maxHeartbeats 2000000 in
theorem RCut_any (s : Txt) (c : UInt8) (w : World) (hs : s.length ≤ 1000000) :
    Calls Tryz.prog 22 #[.string ⟨s.toArray⟩, .int .u8 c.toNat] w fun e w' => ∃ v, e = .returned v ∧ StrsAt (fun b => w.heap.size ≤ b) w' v (cutB c s) ∧ Below w.heap.size w w' := by
  have HS : Hid (∀ k, k < s.length → s.getD k 0 = c → cutTo c s (k + 1) = ((cutTo c s k).1 ++ [(s.take k).drop (cutTo c s k).2], k + 1)) := fun k _ h => by simp [cutTo, ← List.getD_eq_getElem?_getD, h]
  have HN : Hid (∀ k, k < s.length → s.getD k 0 ≠ c → cutTo c s (k + 1) = cutTo c s k) := fun k _ h => by simp [cutTo, ← List.getD_eq_getElem?_getD, h]
  have HL : Hid (∀ k, (cutTo c s k).2 ≤ k ∧ (cutTo c s k).1.length ≤ k) := fun k => ⟨cutTo_le c s k, cutTo_len c s k⟩
  have HA : Hid (cutB c s = (cutTo c s s.length).1 ++ [(s.take s.length).drop (cutTo c s s.length).2]) := by show _ = _; rw [List.take_length]; exact cutTo_all c s
  have HP : Hid (∀ a b, (⟨s.toArray⟩ : ByteArray).extract a b = ⟨((s.take b).drop a).toArray⟩) := txt_part s
  have H0 : Hid (cutTo c s 0 = ([], 0)) := rfl
  have HE : Hid (∀ x : UInt8, ((x.toNat : Int) == (c.toNat : Int)) = decide (x = c)) := fun x => byte_eq
  generalize cutB c s = R at *
  obtain ⟨T, hT⟩ : ∃ T : Nat → List Txt × Nat, ∀ k, cutTo c s k = T k := ⟨_, fun _ => rfl⟩
  simp only [hT] at HS HN HL HA H0
  clear hT
  obtain ⟨k0, hKI, hx0, hx1, hx2⟩ := info_parts infoStr
  have hsz0 : (⟨s.toArray⟩ : ByteArray).size = s.length := txt_len s
  go_enter Tryz.func22, Tryz.ntmps22
  go_wp2
  go_loopw [5, 6, 7] (fun so sf si wr => ∃ k : Nat, k ≤ s.length ∧ si = .int .i64 k ∧ sf = .int .i64 ((T k).2 : Nat) ∧ Hid (wr.ownsRow w.heap.size 9 1 so (T k).1.length ((T k).1.map txtV)) ∧ Hid (Below w.heap.size w wr)) (fun _ _ si _ => s.length - (intOf si).toNat)
  case atStart => exact ⟨0, by omega, rfl, by rw [H0.out]; rfl, by rw [H0.out]; exact ⟨rfl, .inl ⟨rfl, rfl⟩⟩, Below.refl _ _⟩
  case round =>
    obtain ⟨k, hk, rfl, rfl, ho, hbl⟩ := hrel
    obtain ⟨a6, c6, rfl⟩ := own_slice ho.out
    obtain ⟨l1, l2⟩ := HL.out k
    have hwz : w.heap.size ≤ wr.heap.size := hbl.out.size
    by_cases hlt : k < s.length
    · have hsz : k < (⟨s.toArray⟩ : ByteArray).size := by rw [hsz0]; exact hlt
      obtain ⟨b, hb⟩ : ∃ b, s.getD k 0 = b := ⟨_, rfl⟩
      have hby : (⟨s.toArray⟩ : ByteArray)[k]'hsz = b := by rw [txt_byte]; exact hb
      have hq := HE.out b
      by_cases hc : b = c
      · have hst := HS.out k hlt (hb.trans hc)
        rw [decide_eq_true hc] at hq
        have HX : Hid ((T (k + 1)).1.map txtV = (T k).1.map txtV ++ [.string ((⟨s.toArray⟩ : ByteArray).extract (T k).2 k)]) := by
          show _ = _
          rw [hst, HP.out, List.map_append]; rfl
        have HX1 : Hid ((T (k + 1)).1.length = (T k).1.length + 1) := by show _ = _; rw [hst]; simp
        have HX2 : Hid ((T (k + 1)).2 = k + 1) := by show _ = _; rw [hst]
        have HON : Hid (wr.ownsRow w.heap.size 9 1 (.slice a6 (T k).1.length c6) (T k).1.length ((T k).1.map txtV)) := ho
        clear hst hb hc ho
        generalize (T k).1.map txtV = ys at *
        generalize (T k).1.length = n at *
        generalize (T k).2 = f at *
        go_wp2_with (at_builtin; go_must (refine wpList_append_own _ rfl _ _ 50 rfl w.heap.size 9 k0 (.string ByteArray.empty) 1 16 Tryz.underlying50 hKI hx0 hx1 hx2 rfl (by decide) _ _ _ rfl (HON.out.alloc _) ⟨_, 0, none⟩ 1 1 [.string ((⟨s.toArray⟩ : ByteArray).extract f k)] rfl rfl (new1 _ _ _ _ ?c1) (by intro u hu; simp at hu; subst hu; rfl) (by unfold maxLen; omega) (by omega) ?c2 ?_))
        case c1 => simp
        case c2 => simp; omega
        intro v' wg hown hgrow _
        have HO2 : Hid (wg.ownsRow w.heap.size 9 1 v' (T (k + 1)).1.length ((T (k + 1)).1.map txtV)) := by rw [HX.out, HX1.out]; exact hown
        have HB2 : Hid (Below w.heap.size w wg) := hbl.out.trans (grew1 hwz hgrow (fun k hk => (HON.out.lt k hk).1))
        clear hown hgrow
        go_wp2
        go_roundw
        case rel => exact ⟨k + 1, by omega, by go_num, by rw [HX2.out]; go_num, HO2, HB2⟩
        case measure => simp [intOf]; omega
      · have hst := HN.out k hlt (by rw [hb]; exact hc)
        rw [decide_eq_false hc] at hq
        have HO2 : Hid (wr.ownsRow w.heap.size 9 1 (.slice a6 (T k).1.length c6) (T (k + 1)).1.length ((T (k + 1)).1.map txtV)) := by rw [hst]; exact ho
        have HX2 : Hid ((T (k + 1)).2 = (T k).2) := by show _ = _; rw [hst]
        clear hst hb hc ho
        go_wp2
        go_roundw
        case rel => exact ⟨k + 1, by omega, by go_num, by rw [HX2.out], HO2, hbl⟩
        case measure => simp [intOf]; omega
    · obtain rfl : k = s.length := by omega
      have HX : Hid (R.map txtV = (T s.length).1.map txtV ++ [.string ((⟨s.toArray⟩ : ByteArray).extract (T s.length).2 s.length)]) := by
        show _ = _
        rw [HA.out, HP.out, List.map_append]; rfl
      have HX1 : Hid (R.length = (T s.length).1.length + 1) := by show _ = _; rw [HA.out]; simp
      have HON : Hid (wr.ownsRow w.heap.size 9 1 (.slice a6 (T s.length).1.length c6) (T s.length).1.length ((T s.length).1.map txtV)) := ho
      clear ho
      generalize (T s.length).1.map txtV = ys at *
      generalize (T s.length).1.length = n at *
      generalize (T s.length).2 = f at *
      go_wp2_with (at_builtin; go_must (refine wpList_append_own _ rfl _ _ 50 rfl w.heap.size 9 k0 (.string ByteArray.empty) 1 16 Tryz.underlying50 hKI hx0 hx1 hx2 rfl (by decide) _ _ _ rfl (HON.out.alloc _) ⟨_, 0, none⟩ 1 1 [.string ((⟨s.toArray⟩ : ByteArray).extract f s.length)] rfl rfl (new1 _ _ _ _ ?c1) (by intro u hu; simp at hu; subst hu; rfl) (by unfold maxLen; omega) (by omega) ?c2 ?_))
      case c1 => simp
      case c2 => simp; omega
      intro v' wg hown hgrow _
      have HO2 : Hid (StrsAt (fun b => w.heap.size ≤ b) wg v' R) := strs_of_owns (base := w.heap.size) (by rw [HX1.out]; omega) (by rw [HX.out, HX1.out]; exact hown) (fun g hg => hg)
      have HB2 : Hid (Below w.heap.size w wg) := hbl.out.trans (grew1 hwz hgrow (fun k hk => (HON.out.lt k hk).1))
      clear hown hgrow
      go_wp2
      go_ret
      exact ⟨_, rfl, HO2.out, HB2.out⟩
end Ev
end Go.Proofs.YtpnmmmlckdkcdakGreatDoor
