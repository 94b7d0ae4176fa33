/- The law RunAnswers returns true for every input, from what is asked of package run's Run: any session is answered, line by line, as the document says. -/
import Derived.Test.YtpnmmmlckdkcdakGreatDoorPlains
import Derived.Test.YtpnmmmlckdkcdakGreatDoorRLine
namespace Go.Proofs.YtpnmmmlckdkcdakGreatDoor
namespace Ev
open Go.RowKit Fr Ns Ld Fl
set_option linter.unusedSimpArgs false
set_option linter.unusedVariables false

theorem nameT_len (k : Int) : (nameT k).length ≤ 9 := by
  unfold nameT
  repeat' split
  all_goals decide
theorem join_six {l : List Txt} (h6 : l.length ≤ 6) (hx : ∀ x ∈ l, x.length ≤ 41) : (joinT l).length ≤ 252 := by
  have h1 := joinT_len (l := l) (M := 41) hx
  have h3 := Nat.mul_le_mul_right (41 + 1) h6
  omega
theorem lineT_len {f : Flows} (s : Txt) (hf : RightF f) : (lineT f s).length ≤ 252 := by
  unfold lineT
  have n1 := nameT_len
  split
  · split
    · split
      · decide
      · exact Nat.le_trans (n1 _) (by decide)
    · split
      · split
        · decide
        · exact Nat.le_trans (n1 _) (by decide)
      · split
        · split
          · decide
          · rename_i hne
            refine join_six (by rw [List.length_map, (rates_R hf hne).1]; exact hf.1) (fun x hx => ?_)
            obtain ⟨a, _, rfl⟩ := List.mem_map.1 hx
            exact toldT_len a
        · split
          · split
            · exact Nat.le_trans (n1 _) (by decide)
            · exact Nat.le_trans (toldT_len _) (by decide)
          · split
            · split
              · exact Nat.le_trans (toldT_len _) (by decide)
              · exact Nat.le_trans (n1 _) (by decide)
            · split
              · rename_i hi
                refine join_six (by rw [List.length_map, splitL_length]; exact (idx_tot hi).2.2.1) (fun x hx => ?_)
                obtain ⟨a, _, rfl⟩ := List.mem_map.1 hx
                exact Nat.le_trans (digT_len a) (by decide)
              · exact Nat.le_trans (n1 _) (by decide)
  · decide
theorem play_right (l : List Txt) : RightF (playR l).2 := by
  suffices H : ∀ (l : List Txt) (p : Txt × Flows), RightF p.2 → RightF (l.foldl stepR p).2 from H l ([], []) right_nil
  intro l
  induction l with
  | nil => intro p hp; exact hp
  | cons a r ih => intro p hp; exact ih _ (right_line a hp)
theorem play_len (l : List Txt) : ∀ k, k ≤ l.length → (playR (l.take k)).1.length ≤ 253 * k := by
  intro k
  induction k with
  | zero => intro _; simp [playR]
  | succ k ih =>
    intro hk
    have h := ih (by omega)
    have e : l.take (k + 1) = l.take k ++ [l.getD k []] := by rw [List.take_add_one, List.getD, List.getElem?_eq_getElem hk]; rfl
    have h2 := lineT_len (l.getD k []) (play_right (l.take k))
    rw [e, play_snoc]
    simp only [stepR, List.length_append, List.length_cons, List.length_nil]
    omega
theorem play_step (l : List Txt) (k : Nat) (hk : k < l.length) : playR (l.take (k + 1)) = stepR (playR (l.take k)) (l.getD k []) := by
  have e : l.take (k + 1) = l.take k ++ [l.getD k []] := by rw [List.take_add_one, List.getD, List.getElem?_eq_getElem hk]; rfl
  rw [e, play_snoc]
/-- the lines are the pieces, or all but the last -/
theorem lines_take (t : Txt) : ∃ n, n ≤ (cutB 10 t).length ∧ linesT t = (cutB 10 t).take n ∧ (if (cutB 10 t).getD ((cutB 10 t).length - 1) [] = [] then n = (cutB 10 t).length - 1 else n = (cutB 10 t).length) := by
  have hne := cutB_ne 10 t
  have hl : 0 < (cutB 10 t).length := List.length_pos_iff.2 hne
  have e : (cutB 10 t).getLast hne = (cutB 10 t).getD ((cutB 10 t).length - 1) [] := by
    rw [List.getLast_eq_getElem, List.getD, List.getElem?_eq_getElem (by omega)]; rfl
  unfold linesT
  rw [e]
  split
  · exact ⟨_, by omega, List.dropLast_eq_take, rfl⟩
  · exact ⟨_, Nat.le_refl _, (List.take_length).symm, rfl⟩

theorem lists_none (Q : Nat → Prop) (w : World) : ListsAt Q w (.slice none 0 0) [] := ⟨none, 0, rfl, ⟨Nat.le_refl _, by simp⟩, .inl rfl⟩

set_option maxRecDepth 100000 in
set_option maxHeartbeats 8000000 in
theorem runAnswers_walk (t : Txt) (w : World) (hR : RunAt w) (ht : t.length ≤ 9223372036854775807) :
    Calls Tryz.prog 4 #[.string ⟨t.toArray⟩] w fun e w' => e = .returned (.bool true) ∧ Below w.heap.size w w' := by
  have HR : Hid (∀ u : World, Below w.heap.size w u → Calls Tryz.prog 21 #[.string ⟨t.toArray⟩] u fun e w' => e = .returned (.string ⟨(runT t).toArray⟩) ∧ Below u.heap.size u w') := fun u hu => hR t u hu ht
  clear hR
  by_cases hL : 3000 < t.length
  · have e1 : runT t = tLong := by rw [runT, if_pos hL]
    rw [e1] at HR
    have HR2 : Hid (∀ u : World, Below w.heap.size w u → Calls Tryz.prog 21 #[.string ⟨t.toArray⟩] u fun e w' => e = .returned (.string ⟨#[116, 111, 111, 32, 108, 111, 110, 103, 10]⟩) ∧ Below u.heap.size u w') := HR
    clear HR e1
    go_enter Tryz.func4, Tryz.ntmps4
    go_wp2_with fail
    refine (HR2.out _ (Below.refl _ _)).mono ?_
    rintro e w1 ⟨rfl, hw1⟩
    have B1 : Hid (Below w.heap.size w w1) := hw1
    clear hw1
    go_wp2
    go_ret
    exact ⟨rfl, B1.out⟩
  · have e1 : runT t = (playR (linesT t)).1 := by rw [runT, if_neg hL]
    obtain ⟨n, hn, hln, hnn⟩ := lines_take t
    have hcl := cutB_length 10 t
    have hc0 : 0 < (cutB 10 t).length := List.length_pos_iff.2 (cutB_ne 10 t)
    have hps : ∀ x ∈ cutB 10 t, x.length ≤ 3000 := fun x hx => Nat.le_trans (cutB_small hx) (by omega)
    rw [e1, hln] at HR
    have HC : Hid (∀ u : World, Calls Tryz.prog 22 #[.string ⟨t.toArray⟩, .int .u8 10] u fun e w' => ∃ v, e = .returned v ∧ StrsAt (fun b => u.heap.size ≤ b) w' v (cutB 10 t) ∧ Below u.heap.size u w') := fun u => RCut_any t 10 u (by omega)
    generalize cutB 10 t = W at *
    have HPr : Hid (∀ k, RightF (playR ((W.take n).take k)).2) := fun k => play_right _
    have HPl : Hid (∀ k, k ≤ n → (playR ((W.take n).take k)).1.length ≤ 253 * k) := fun k hk => play_len _ k (by rw [List.length_take]; omega)
    have HPs : Hid (∀ k, k < n → playR ((W.take n).take (k + 1)) = stepR (playR ((W.take n).take k)) (W.getD k [])) := fun k hk => by
      rw [play_step _ k (by rw [List.length_take]; omega)]
      congr 1
      simp [List.getD, List.getElem?_take, hk]
    have HPe : Hid ((playR (W.take n)).1 = (playR ((W.take n).take n)).1) := by show _ = _; rw [List.take_take, Nat.min_self]
    have HP0 : Hid (playR ((W.take n).take 0) = ([], [])) := rfl
    rw [HPe.out] at HR
    obtain ⟨P, hP⟩ : ∃ P : Nat → Txt × Flows, ∀ k, playR ((W.take n).take k) = P k := ⟨_, fun _ => rfl⟩
    simp only [hP] at HR HPr HPl HPs HP0
    clear hP e1 hln HPe
    go_enter Tryz.func4, Tryz.ntmps4
    go_wp2_with fail
    refine (HR.out _ (Below.refl _ _)).mono ?_
    rintro e w1 ⟨rfl, hw1⟩
    have B1 : Hid (Below w.heap.size w w1) := hw1
    clear hw1
    go_wp2_with fail
    refine (HC.out _).mono ?_
    rintro e w2 ⟨vw, rfl, hvw, hw2⟩
    have B2 : Hid (Below w.heap.size w w2) := Bel.call B1.out (Nat.le_refl _) hw2
    obtain ⟨aw, cw, rfl, hmw, _⟩ := id hvw
    have HWc : Hid (∀ i, i < W.length → ∃ b off, aw = some ⟨b, off, none⟩ ∧ ∀ u, Below w2.heap.size w2 u → u.cell? ⟨b, off + i, none⟩ = some (.string ⟨(W.getD i []).toArray⟩)) := strs_cells hvw
    have HWs : Hid (∀ x ∈ W, x.length ≤ 3000) := hps
    obtain ⟨bw, ow, rfl, hcl0⟩ := strs_cells hvw (W.length - 1) (by omega)
    have cl := hcl0 _ (Below.refl _ _)
    have hmw1 := hmw.1
    clear hw2 hvw hps hcl0 hmw
    have g1 : IntKind.i64.wrap ((W.length : Int) - 1) = (W.length : Int) - 1 := by rw [IntKind.wrap_i64]; omega
    have g2 : ((W.length : Int) - 1).toNat = W.length - 1 := by omega
    have g3 : 0 ≤ (W.length : Int) - 1 := by omega
    have g4 : (W.length : Int) - 1 < (W.length : Int) := by omega
    have g5 : (W.length : Int) - 1 ≤ (cw : Int) := by omega
    obtain ⟨lx, hlx⟩ : ∃ lx, W.getD (W.length - 1) [] = lx := ⟨_, rfl⟩
    rw [hlx] at hnn cl
    have HNz : Hid (if lx = [] then n = W.length - 1 else n = W.length) := hnn
    clear hlx hnn
    go_upto_if 24 with fail
    go_cut [4] (fun s4 wc => s4 = .slice (some ⟨bw, ow, none⟩) n cw ∧ Hid (wc = w2))
    case first =>
      cases lx with
      | nil =>
        have hnz := HNz.out
        rw [if_pos rfl] at hnz
        have HNn : Hid (W.length - 1 = n) := hnz.symm
        clear hnz HNz
        go_wp2
        go_meet
        case rel => exact ⟨by rw [← HNn.out], rfl⟩
      | cons q lr =>
        have hnz := HNz.out
        rw [if_neg (by simp)] at hnz
        have HNn : Hid (W.length = n) := hnz.symm
        clear hnz HNz
        go_wp2
        go_meet
        case rel => exact ⟨by rw [← HNn.out], rfl⟩
    case rest =>
      obtain ⟨rfl, hwc⟩ := hcut
      obtain rfl : w2 = wc := hwc.out.symm
      clear HNz cl g1 g2 g3 g4 g5
      have HLn : Hid (∀ k, k < n → ∀ (Q : Nat → Prop) (v : Value) (u : World), NetAt Q u v capsR (P k).2 → Calls Tryz.prog 23 #[v, .string ⟨(W.getD k []).toArray⟩] u fun e w' => ∃ x, e = .returned (.tuple #[.string ⟨(lineT (P k).2 (W.getD k [])).toArray⟩, x]) ∧ NetAt (fun b => Q b ∨ u.heap.size ≤ b) w' x capsR (lineF (P k).2 (W.getD k [])) ∧ Below u.heap.size u w') := fun k hk Q v u h => RLine_any _ _ v u h (HPr.out k) (HWs.out _ (getD_mem W k (by omega) []))
      have HLl : Hid (∀ k, (lineT (P k).2 (W.getD k [])).length ≤ 252) := fun k => lineT_len _ (HPr.out k)
      have HS1 : Hid (∀ k, k < n → (P (k + 1)).2 = lineF (P k).2 (W.getD k [])) := fun k hk => by rw [HPs.out k hk]; rfl
      have HS2 : Hid (∀ k, k < n → (⟨(P k).1.toArray⟩ : ByteArray) ++ ⟨(lineT (P k).2 (W.getD k [])).toArray⟩ ++ ⟨#[10]⟩ = ⟨(P (k + 1)).1.toArray⟩) := fun k hk => by
        rw [HPs.out k hk]
        apply ByteArray.ext
        simp [stepR]
      have R0 : Hid (RowAt ((w2.alloc (.cells #[.int .i64 12, .int .i64 6, .int .i64 4, .int .i64 10] 3)).alloc (.cells #[.slice (some ⟨w2.heap.size, 0, none⟩) 4 4, .slice none 0 0] 37)) (w2.heap.size + 1) 37 [.slice (some ⟨w2.heap.size, 0, none⟩) 4 4, .slice none 0 0]) := row_made _ _ _ _ _ (by simp) rfl
      have N0 : Hid (NetAt (fun b => w2.heap.size ≤ b ∧ b ≠ w2.heap.size + 1) ((w2.alloc (.cells #[.int .i64 12, .int .i64 6, .int .i64 4, .int .i64 10] 3)).alloc (.cells #[.slice (some ⟨w2.heap.size, 0, none⟩) 4 4, .slice none 0 0] 37)) (.agg #[.slice (some ⟨w2.heap.size, 0, none⟩) 4 4, .slice none 0 0]) capsR (P 0).2) := by
        rw [HP0.out]
        refine ⟨_, _, rfl, ?_, ?_⟩
        · have h1 : RowAt ((w2.alloc (.cells #[.int .i64 12, .int .i64 6, .int .i64 4, .int .i64 10] 3)).alloc (.cells #[.slice (some ⟨w2.heap.size, 0, none⟩) 4 4, .slice none 0 0] 37)) w2.heap.size 3 (capsR.map (Value.int .i64) ++ []) := (row_made w2 _ _ _ _ rfl rfl).alloc _
          exact intsRow (c := 4) (l := capsR) h1 (by decide) (by decide) ⟨Nat.le_refl _, by omega⟩
        · exact lists_none _ _
      have B0 : Hid (Below w2.heap.size w2 ((w2.alloc (.cells #[.int .i64 12, .int .i64 6, .int .i64 4, .int .i64 10] 3)).alloc (.cells #[.slice (some ⟨w2.heap.size, 0, none⟩) 4 4, .slice none 0 0] 37))) := ((Below.refl _ _).alloc (Nat.le_refl _) _).alloc (by simp) _
      clear HPs
      go_wp2_with fail
      go_loopw [6, 7, 8] (fun s6 s7 _ wr => ∃ k : Nat, k ≤ n ∧ s7 = .int .i64 k ∧ s6 = .string ⟨(P k).1.toArray⟩ ∧ (∃ a1 n1 c1 a2 n2 c2, Hid (RowAt wr (w2.heap.size + 1) 37 [.slice a1 n1 c1, .slice a2 n2 c2]) ∧ Hid (NetAt (fun b => w2.heap.size ≤ b ∧ b ≠ w2.heap.size + 1) wr (.agg #[.slice a1 n1 c1, .slice a2 n2 c2]) capsR (P k).2)) ∧ Hid (Below w2.heap.size w2 wr)) (fun _ s7 _ _ => n - (intOf s7).toNat)
      case atStart => exact ⟨0, by omega, rfl, by rw [HP0.out], ⟨_, _, _, _, _, _, R0, N0⟩, B0⟩
      case round =>
        clear R0 N0 B0
        obtain ⟨k, hk, rfl, rfl, ⟨a1, n1, c1, a2, n2, c2, hro, hnt⟩, hbr⟩ := hrel
        have hpl := HPl.out k hk
        by_cases hlt : k < n
        · obtain ⟨b', off', e', hcc⟩ := HWc.out k (by omega)
          simp only [Option.some.injEq, Addr.mk.injEq, and_true] at e'
          obtain ⟨rfl, rfl⟩ := e'
          have d0 := hcc _ hbr.out
          have hll := HLl.out k
          have HE1 : Hid ((P (k + 1)).2 = lineF (P k).2 (W.getD k [])) := HS1.out k hlt
          have HE2 : Hid ((⟨(P k).1.toArray⟩ : ByteArray) ++ ⟨(lineT (P k).2 (W.getD k [])).toArray⟩ ++ ⟨#[10]⟩ = ⟨(P (k + 1)).1.toArray⟩) := HS2.out k hlt
          obtain ⟨m0, m1, f0, f1, zg⟩ := RowTwo hro.out
          have HL1 : Hid (∀ u : World, Below wr.heap.size wr u → Calls Tryz.prog 23 #[.agg #[.slice a1 n1 c1, .slice a2 n2 c2], .string ⟨(W.getD k []).toArray⟩] u fun e w' => ∃ x, e = .returned (.tuple #[.string ⟨(lineT (P k).2 (W.getD k [])).toArray⟩, x]) ∧ NetAt (fun b => w2.heap.size ≤ b ∧ b ≠ w2.heap.size + 1) w' x capsR (P (k + 1)).2 ∧ Below u.heap.size u w') := fun u hu => by
            refine (HLn.out k hlt _ _ u (hnt.out.later hu)).mono ?_
            rintro e w' ⟨x, rfl, hx, hb⟩
            rw [HE1.out]
            have hu1 := hu.size
            exact ⟨x, rfl, hx.keep (fun _ _ _ => rfl) (fun b h _ => h.elim id (fun h => ⟨by omega, by omega⟩)), hb⟩
          clear hcc HE1
          generalize lineT (P k).2 (W.getD k []) = lt at *
          generalize W.getD k [] = ln at *
          have P1 : Hid (Below wr.heap.size wr wr.drew) := (Below.refl _ _).drew
          have zs : w2.heap.size + 1 < wr.heap.size := zg
          have hpl2 : (P k).1.length ≤ 800000 := by omega
          have hkn : (k : Int) < (n : Int) := by omega
          clear hpl
          go_wp2_with fail
          go_region_law (first | (go_simp; refine (HL1.out _ ?_).mono ?_; (exact P1.out); rintro e w4 ⟨x, rfl, hx, hw4⟩; obtain ⟨ax1, nx1, kx1, ax2, nx2, kx2, rfl⟩ := hx.shape; have Hb4 : Hid (Below wr.heap.size wr w4) := Bel.call P1.out (Nat.le_refl _) hw4; obtain ⟨m0', m1', f0', f1', zg'⟩ := RowTwo (hro.out.later Hb4.out zg)))
          all_goals
            have HR4 : Hid (RowAt w4 (w2.heap.size + 1) 37 [.slice a1 n1 c1, .slice a2 n2 c2]) := hro.out.later Hb4.out zg
            have HX : Hid (NetAt (fun b => w2.heap.size ≤ b ∧ b ≠ w2.heap.size + 1) w4 (.agg #[.slice ax1 nx1 kx1, .slice ax2 nx2 kx2]) capsR (P (k + 1)).2) := hx
            have HB4 : Hid (Below w2.heap.size w2 w4) := Bel.call hbr.out (Nat.le_refl _) Hb4.out
            clear hw4 hx m0 m1 f0 f1 d0
            have HRn : Hid (RowAt ((w4.setCell ⟨w2.heap.size + 1, 0, none⟩ (.slice ax1 nx1 kx1)).setCell ⟨w2.heap.size + 1, 1, none⟩ (.slice ax2 nx2 kx2)) (w2.heap.size + 1) 37 [.slice ax1 nx1 kx1, .slice ax2 nx2 kx2]) := (HR4.out.set 0 _).set 1 _
            have HNn : Hid (NetAt (fun b => w2.heap.size ≤ b ∧ b ≠ w2.heap.size + 1) ((w4.setCell ⟨w2.heap.size + 1, 0, none⟩ (.slice ax1 nx1 kx1)).setCell ⟨w2.heap.size + 1, 1, none⟩ (.slice ax2 nx2 kx2)) (.agg #[.slice ax1 nx1 kx1, .slice ax2 nx2 kx2]) capsR (P (k + 1)).2) := (HX.out.setCell (fun h => h.2 rfl) _).setCell (fun h => h.2 rfl) _
            have HBn : Hid (Below w2.heap.size w2 ((w4.setCell ⟨w2.heap.size + 1, 0, none⟩ (.slice ax1 nx1 kx1)).setCell ⟨w2.heap.size + 1, 1, none⟩ (.slice ax2 nx2 kx2))) := (HB4.out.setCell (by simp) _).setCell (by simp) _
            go_wp2
            go_roundw
            case rel => exact ⟨k + 1, by omega, by go_num, by rw [HE2.out], ⟨_, _, _, _, _, _, HRn, HNn⟩, HBn⟩
            case measure => simp [intOf]; omega
        · obtain rfl : k = n := by omega
          go_wp2
          go_ret
          exact ⟨rfl, Bel.call B2.out (Nat.le_refl _) hbr.out⟩
end Ev
end Go.Proofs.YtpnmmmlckdkcdakGreatDoor
