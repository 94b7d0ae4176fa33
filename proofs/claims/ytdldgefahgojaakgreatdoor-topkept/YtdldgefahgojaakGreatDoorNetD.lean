/- Package net's Users: which flows go over a link. -/
import Derived.Test.YtdldgefahgojaakGreatDoorNetC0
import Derived.Test.YtdldgefahgojaakGreatDoorPlains
namespace Go.Proofs.YtdldgefahgojaakGreatDoor
namespace Ns
open Go.RowKit Fr
set_option linter.unusedSimpArgs false
set_option linter.unusedVariables false

set_option maxHeartbeats 2000000 in
theorem users_said : UsersSaid := by
  intro Q caps paths link v w h
  have HN : Hid (NetAt Q w v caps paths) := h
  have HCk : Hid (∀ u, Below w.heap.size w u → Calls Tryz.prog 15 #[v] u fun e w' => e = .returned (errV (netE caps paths)) ∧ Below u.heap.size u w') := fun u hu => check_said Q caps paths v u (h.later hu)
  have HLk : Hid (∀ u, Below w.heap.size w u → Calls Tryz.prog 42 #[v, .int .i64 link] u fun e w' => e = .returned (.bool (linkB caps.length link)) ∧ Below u.heap.size u w') := fun u hu => hasLink_any caps paths link v u (h.later hu)
  obtain ⟨v1, v2, rfl, h1, h2⟩ := h
  obtain ⟨a1, cap1, rfl, ⟨hm1, hn1⟩, _⟩ := h1
  obtain ⟨a2, cap2, rfl, ⟨hm2, hn2⟩, h2⟩ := h2
  by_cases he : netE caps paths = 0
  · rw [he, errV_0] at HCk
    cases hx : linkB caps.length link with
    | false =>
      have HE : Hid (usersE caps paths link = 1) := by
        have : link < 0 ∨ (caps.length : Int) ≤ link := by simp only [linkB, Bool.and_eq_false_iff, decide_eq_false_iff_not] at hx; omega
        show _ = _
        rw [usersE, if_pos he, if_pos this]
      rw [hx] at HLk
      clear he hx h2
      go_enter Tryz.func61, Tryz.ntmps61
      go_wp2_with fail
      refine (HCk.out _ ((Below.refl _ _).alloc (Nat.le_refl _) _)).mono ?_
      rintro e w1 ⟨rfl, hw1⟩
      have g0 : w1.cell? ⟨w.heap.size, 0, none⟩ = some (.slice a1 caps.length cap1) := cell_later hw1 (by simp)
      have g1 : w1.cell? ⟨w.heap.size, 1, none⟩ = some (.slice a2 paths.length cap2) := cell_later hw1 (by simp)
      have HB1 : Hid (Below w.heap.size w w1) := ((Below.refl _ _).alloc (Nat.le_refl _) _).trans (hw1.mono (by simp))
      clear hw1
      go_wp2_with fail
      refine (HLk.out _ HB1.out).mono ?_
      rintro e w2 ⟨rfl, hw2⟩
      have HB2 : Hid (Below w.heap.size w w2) := HB1.out.trans (hw2.mono HB1.out.size)
      clear hw2
      go_wp2
      refine bodyPost_ret (v := .tuple #[.slice none 0 0, .iface 55 (.int .i64 1)]) (by simp [results, Tryz.results61, go_sem]) rfl ?_
      rw [HE.out]
      exact ⟨_, rfl, ints_nil _ _, HB2.out⟩
    | true =>
      have HE : Hid (usersE caps paths link = 0) := by
        have : ¬ (link < 0 ∨ (caps.length : Int) ≤ link) := by simp only [linkB, Bool.and_eq_true, decide_eq_true_eq] at hx; omega
        show _ = _
        rw [usersE, if_pos he, if_neg this]
      have hp6 : paths.length ≤ 6 := (netE_0 he).2.2.2.1
      rw [hx] at HLk
      have H : Hid (∀ i, i < paths.length → ∃ b off x, a2 = some ⟨b, off, none⟩ ∧ w.cell? ⟨b, off + i, none⟩ = some x ∧ IntsAt Q w x (paths.getD i [])) := by
        intro i hi
        rcases h2 with rfl | ⟨b, off, rfl, h2, hQ⟩
        · simp at hi
        · obtain ⟨x, hx, hxi⟩ := h2 i hi
          exact ⟨b, off, x, rfl, hx, hxi⟩
      clear h2 he hx
      obtain ⟨i0, hi, hz0, hz1, hz2⟩ := info_parts infoInt
      go_enter Tryz.func61, Tryz.ntmps61
      go_wp2_with fail
      refine (HCk.out _ ((Below.refl _ _).alloc (Nat.le_refl _) _)).mono ?_
      rintro e w1 ⟨rfl, hw1⟩
      have g0 : w1.cell? ⟨w.heap.size, 0, none⟩ = some (.slice a1 caps.length cap1) := cell_later hw1 (by simp)
      have g1 : w1.cell? ⟨w.heap.size, 1, none⟩ = some (.slice a2 paths.length cap2) := cell_later hw1 (by simp)
      have HB1 : Hid (Below w.heap.size w w1) := ((Below.refl _ _).alloc (Nat.le_refl _) _).trans (hw1.mono (by simp))
      have HC1 : Hid (Below (w.heap.size + 1) (w.alloc (.cells #[.slice a1 caps.length cap1, .slice a2 paths.length cap2] 37)) w1) := hw1.mono (by simp)
      clear hw1
      go_wp2_with fail
      refine (HLk.out _ HB1.out).mono ?_
      rintro e w2 ⟨rfl, hw2⟩
      have HC2 : Hid (Below (w.heap.size + 1) (w.alloc (.cells #[.slice a1 caps.length cap1, .slice a2 paths.length cap2] 37)) w2) := HC1.out.trans (hw2.mono (by have := HC1.out.size; simpa using this))
      have g2 : w2.cell? ⟨w.heap.size, 1, none⟩ = some (.slice a2 paths.length cap2) := (HC2.out.cell (p := ⟨w.heap.size, 1, none⟩) (by simp)).trans (by simp)
      clear hw2
      go_wp2
      go_loopw [7, 8, 9, 23] (fun o _ _ i wr => ∃ k : Nat, k ≤ paths.length ∧ i = .int .i64 k ∧ wr.ownsRow (w.heap.size + 1) 3 1 o (users (paths.take k) link).length ((users (paths.take k) link).map (Value.int .i64)) ∧ Below (w.heap.size + 1) (w.alloc (.cells #[.slice a1 caps.length cap1, .slice a2 paths.length cap2] 37)) wr) (fun _ _ _ i _ => paths.length - (intOf i).toNat)
      case atStart => exact ⟨0, by omega, rfl, World.ownsRow_nil _ _ _ _, HC2.out⟩
      case round =>
        obtain ⟨k, hk, rfl, hown, hbel⟩ := hrel
        have hlen := users_length link 0 (paths.take k)
        have hlen' : (users (paths.take k) link).length ≤ 6 := by
          unfold users
          rw [List.length_take] at hlen
          omega
        have HB : Hid (Below w.heap.size w wr) := ((Below.refl _ _).alloc (Nat.le_refl _) _).trans (hbel.mono (by omega))
        have hsz : w.heap.size + 1 ≤ wr.heap.size := by have := hbel.size; simpa using this
        clear hlen
        by_cases hlt : k < paths.length
        · obtain ⟨b, off, x, rfl, hx, hxi⟩ := H.out k hlt
          have hx' : wr.cell? ⟨b, off + k, none⟩ = some x := cell_later HB.out hx
          have hs := users_step paths link k hlt
          have HI := Contains_any (paths.getD k []) link x wr (hxi.later HB.out)
          generalize paths.getD k [] = pk at *
          generalize users (paths.take k) link = us at *
          obtain ⟨ai, capi, rfl, _⟩ := hxi
          cases hin : inB pk link with
          | true =>
            rw [hin] at HI hs
            have HS : Hid (users (paths.take (k + 1)) link = us ++ [(k : Int)]) := hs
            have HJ := (show Hid (Calls Tryz.prog 43 #[.slice ai pk.length capi, .int .i64 link] wr fun e w'' => e = .returned (.bool true) ∧ w'' = wr) from HI)
            have HO := (show Hid (wr.ownsRow (w.heap.size + 1) 3 1 _ us.length (us.map (Value.int .i64))) from hown)
            clear hs HI hin hx hown
            go_wp2_with fail
            refine HJ.out.mono ?_
            rintro e wr ⟨rfl, rfl⟩
            go_wp2_with (at_builtin; go_must (refine wpList_append_own _ rfl (.tmp 31) (.tmp 33) 22 rfl (w.heap.size + 1) 3 i0 (.int .i64 0) 1 8 Tryz.underlying22 hi hz0 hz1 hz2 rfl (by decide) _ _ _ rfl (HO.out.alloc _) ⟨wr.heap.size, 0, none⟩ 1 1 [.int .i64 k] rfl rfl ?c1 ?c2 ?c3 ?c4 ?c5 ?_))
            case c1 =>
              intro j u hj
              match j, hj with
              | 0, hj => simp at hj; subst hj; simp [Addr.add]
            case c2 => intro u hu; simp at hu; subst hu; rfl
            case c3 => unfold maxLen; omega
            case c4 => omega
            case c5 => simp; omega
            intro v' w3 hown' hgrow _
            have R1 := rel_append hbel hsz HO.out hgrow
            have R2 : Hid (w3.ownsRow (w.heap.size + 1) 3 1 v' (users (paths.take (k + 1)) link).length ((users (paths.take (k + 1)) link).map (Value.int .i64))) := by
              show World.ownsRow _ _ _ _ _ _ _
              rw [HS.out]
              simpa using hown'
            clear hown' hgrow
            go_wp2
            go_roundw
            case rel => exact ⟨k + 1, by omega, by go_num, R2, R1⟩
            case measure => simp [intOf]; omega
          | false =>
            rw [hin] at HI hs
            have HS : Hid (users (paths.take (k + 1)) link = us) := by rw [hs]; simp [Hid]
            have HJ := (show Hid (Calls Tryz.prog 43 #[.slice ai pk.length capi, .int .i64 link] wr fun e w'' => e = .returned (.bool false) ∧ w'' = wr) from HI)
            have HO := (show Hid (wr.ownsRow (w.heap.size + 1) 3 1 _ us.length (us.map (Value.int .i64))) from hown)
            clear hs HI hin hx hown
            go_wp2_with fail
            refine HJ.out.mono ?_
            rintro e wr ⟨rfl, rfl⟩
            go_wp2
            go_roundw
            case rel => exact ⟨k + 1, by omega, by go_num, by rw [HS.out]; exact HO.out, hbel⟩
            case measure => simp [intOf]; omega
        · rw [List.take_of_length_le (by omega)] at hown hlen'
          have HX := ints_of_owns (Q := fun b => w.heap.size ≤ b) (by omega) hown (fun g hg => by omega)
          go_wp2
          refine bodyPost_ret (v := .tuple #[u7, .nilIface]) (by simp [results, Tryz.results61, go_sem]) rfl ?_
          rw [HE.out]
          exact ⟨_, rfl, HX, HB.out⟩
  · have HE : Hid (usersE caps paths link = netE caps paths) := by show _ = _; rw [usersE, if_neg he]
    have HV : Hid (errV (netE caps paths) = .iface 55 (.int .i64 (netE caps paths))) := errV_ne he
    have HK : Hid (okL (netE caps paths) (users paths link) = []) := okL_ne he _
    rw [HV.out] at HCk
    generalize netE caps paths = ek at *
    clear he h2
    go_enter Tryz.func61, Tryz.ntmps61
    go_wp2_with fail
    refine (HCk.out _ ((Below.refl _ _).alloc (Nat.le_refl _) _)).mono ?_
    rintro e w1 ⟨rfl, hw1⟩
    have HB1 : Hid (Below w.heap.size w w1) := ((Below.refl _ _).alloc (Nat.le_refl _) _).trans (hw1.mono (by simp))
    clear hw1
    go_wp2
    refine bodyPost_ret (v := .tuple #[.slice none 0 0, .iface 55 (.int .i64 ek)]) (by simp [results, Tryz.results61, go_sem]) rfl ?_
    rw [HE.out, HK.out, HV.out]
    exact ⟨_, rfl, ints_nil _ _, HB1.out⟩
end Ns
end Go.Proofs.YtdldgefahgojaakGreatDoor
