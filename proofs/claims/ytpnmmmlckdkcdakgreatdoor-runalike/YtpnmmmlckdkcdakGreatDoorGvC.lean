/- Package give's places, the greatest rest first. -/
import Derived.Test.YtpnmmmlckdkcdakGreatDoorGvB
namespace Go.Proofs.YtpnmmmlckdkcdakGreatDoor
namespace Ev
open Go.RowKit Fr Ns Ld Fl
set_option linter.unusedSimpArgs false
set_option linter.unusedVariables false

set_option maxRecDepth 100000 in
set_option maxHeartbeats 2000000 in
theorem gstable_any (rs l : List Int) (c g cap B : Nat) (sp : List Value) (w : World) (hl : ∀ x ∈ l, 0 ≤ x)
    (hO : ∀ x y : Nat, (x : Int) ∈ l → (y : Int) ∈ l → ∀ u, Below B w u → Calls Tryz.prog 183 #[.int .i64 x, .int .i64 y, .pointer (some ⟨c, 0, none⟩)] u fun e w' => e = .returned (.int .i64 (cmpI (rs.getD y 0) (rs.getD x 0))) ∧ Below u.heap.size u w')
    (h6 : l.length ≤ 6) (h1 : 1 ≤ l.length) (hB : B ≤ g) (hr : RowAt w g 3 (l.map (Value.int .i64) ++ sp)) :
    Calls Tryz.prog 190 #[.slice (some ⟨g, 0, none⟩) l.length cap, .int .i64 l.length, .func (.func 183) #[] #[.pointer (some ⟨c, 0, none⟩)]] w fun e w' => e = .returned (.tuple #[]) ∧ RowAt w' g 3 ((sortS (keyZ rs) l).map (Value.int .i64) ++ sp) ∧ Below B w w' := by
  have HI : Hid (Calls Tryz.prog 196 #[.slice (some ⟨g, 0, none⟩) l.length cap, .int .i64 0, .int .i64 l.length, .func (.func 183) #[] #[.pointer (some ⟨c, 0, none⟩)]] w fun e w' => e = .returned (.tuple #[]) ∧ RowAt w' g 3 ((sortS (keyZ rs) l).map (Value.int .i64) ++ sp) ∧ Below B w w') := ginsertion_any rs l c g cap B sp w hl hO h6 h1 hB hr
  have h20 : ¬ (20 : Int) ≤ (l.length : Int) := by omega
  have h21 : ¬ (20 : Int) < (l.length : Int) := by omega
  generalize sortS (keyZ rs) l = sl at *
  clear hr hl hO
  go_enter Tryz.func190, Tryz.ntmps190
  go_wp2
  go_loopw [7, 8] (fun s7 s8 wr => s7 = .int .i64 0 ∧ s8 = .int .i64 20 ∧ wr = w) (fun _ _ _ => 0)
  case atStart => exact ⟨rfl, rfl, rfl⟩
  case round =>
    obtain ⟨rfl, rfl, rfl⟩ := hrel
    go_wp2_with fail
    refine HI.out.mono ?_
    rintro e w1 ⟨rfl, hs, hb⟩
    have HS : Hid (RowAt w1 g 3 (sl.map (Value.int .i64) ++ sp) ∧ Below B wr w1) := ⟨hs, hb⟩
    clear hs hb
    go_wp2
    go_loopw [6, 7, 8, 9] (fun s6 _ _ _ wz => s6 = .int .i64 20 ∧ wz = w1) (fun _ _ _ _ _ => 0)
    case atStart => exact ⟨rfl, rfl⟩
    case round =>
      obtain ⟨rfl, rfl⟩ := hrel
      go_wp2
      go_end0
      exact ⟨rfl, HS.out.1, HS.out.2⟩

set_option maxHeartbeats 1000000 in
theorem gsort_any (rs l : List Int) (c g cap B : Nat) (sp : List Value) (w : World) (hl : ∀ x ∈ l, 0 ≤ x)
    (hO : ∀ x y : Nat, (x : Int) ∈ l → (y : Int) ∈ l → ∀ u, Below B w u → Calls Tryz.prog 183 #[.int .i64 x, .int .i64 y, .pointer (some ⟨c, 0, none⟩)] u fun e w' => e = .returned (.int .i64 (cmpI (rs.getD y 0) (rs.getD x 0))) ∧ Below u.heap.size u w')
    (h6 : l.length ≤ 6) (h1 : 1 ≤ l.length) (hB : B ≤ g) (hr : RowAt w g 3 (l.map (Value.int .i64) ++ sp)) :
    Calls Tryz.prog 182 #[.slice (some ⟨g, 0, none⟩) l.length cap, .func (.func 183) #[] #[.pointer (some ⟨c, 0, none⟩)]] w fun e w' => e = .returned (.tuple #[]) ∧ RowAt w' g 3 ((sortS (keyZ rs) l).map (Value.int .i64) ++ sp) ∧ Below B w w' := by
  have HI : Hid (Calls Tryz.prog 190 #[.slice (some ⟨g, 0, none⟩) l.length cap, .int .i64 l.length, .func (.func 183) #[] #[.pointer (some ⟨c, 0, none⟩)]] w fun e w' => e = .returned (.tuple #[]) ∧ RowAt w' g 3 ((sortS (keyZ rs) l).map (Value.int .i64) ++ sp) ∧ Below B w w') := gstable_any rs l c g cap B sp w hl hO h6 h1 hB hr
  generalize sortS (keyZ rs) l = sl at *
  clear hr hl hO
  go_enter Tryz.func182, Tryz.ntmps182
  go_wp2_with fail
  refine HI.out.mono ?_
  rintro e w1 ⟨rfl, hs, hb⟩
  have HS : Hid (RowAt w1 g 3 (sl.map (Value.int .i64) ++ sp) ∧ Below B w w1) := ⟨hs, hb⟩
  clear hs hb
  go_wp2
  go_end0
  exact ⟨rfl, HS.out.1, HS.out.2⟩

set_option maxRecDepth 100000 in
set_option maxHeartbeats 4000000 in
theorem gfirst_any {Q : Nat → Prop} (rs : List Int) (v : Value) (w : World) (h : IntsAt Q w v rs) (n1 : 0 < rs.length) (n6 : rs.length ≤ 6) :
    Calls Tryz.prog 171 #[v] w fun e w' => ∃ y, e = .returned y ∧ OwnInts w.heap.size w' y (sortS (keyZ rs) (upTo rs.length)) ∧ Below w.heap.size w w' := by
  obtain ⟨n, hn⟩ : ∃ n, n = rs.length := ⟨_, rfl⟩
  have HUl : Hid ((upTo n).length = n) := upTo_length n
  have HUa : Hid (∀ k, k < n → (upTo n).getD k 0 = k) := fun k hk => upTo_at hk
  have HS : Hid (∀ B g W u, B ≤ g → w.heap.size + 1 ≤ B → Below w.heap.size w W → W.cell? ⟨w.heap.size, 0, none⟩ = some v → RowAt u g 3 ((upTo n).map (Value.int .i64) ++ []) → W.heap.size = w.heap.size + 1 → Below B W u → Calls Tryz.prog 182 #[.slice (some ⟨g, 0, none⟩) n n, .func (.func 183) #[] #[.pointer (some ⟨w.heap.size, 0, none⟩)]] u fun e w' => e = .returned (.tuple #[]) ∧ RowAt w' g 3 ((sortS (keyZ rs) (upTo n)).map (Value.int .i64) ++ []) ∧ Below B u w') := fun B g W u hg hB hW hv hr hz hu => by
    have := gsort_any rs (upTo n) w.heap.size g n B [] u (fun x hx => (upTo_mem hx).1) (fun x y hx hy u' hu' => ?_) (by rw [HUl.out]; omega) (by rw [HUl.out]; omega) hg hr
    · rw [HUl.out] at this; exact this
    · have hx' := (upTo_mem hx).2
      have hy' := (upTo_mem hy).2
      have hb : Below (w.heap.size + 1) W u' := (hu.trans hu').mono hB
      refine gorder_any rs v w.heap.size x y u' (h.later (hW.trans (hb.mono (by omega)))) (by omega) (by omega) ?_
      exact cell_later (by rw [hz]; exact hb) hv
  have HSl : Hid ((sortS (keyZ rs) (upTo n)).length = n) := by show _ = _; rw [sortS_length, HUl.out]
  obtain ⟨k0, hKI, hx0, hx1, hx2⟩ := info_parts infoZ
  obtain ⟨a, cap, rfl, ⟨hm, hm2⟩, h'⟩ := id h
  rw [← hn] at hm hm2 n1 n6 HS ⊢
  clear h h'
  have HV : Hid (Below w.heap.size w (w.alloc (.cells #[.slice a n cap] 22)) ∧ (w.alloc (.cells #[.slice a n cap] 22)).cell? ⟨w.heap.size, 0, none⟩ = some (.slice a n cap) ∧ (w.alloc (.cells #[.slice a n cap] 22)).heap.size = w.heap.size + 1) := ⟨(Below.refl _ _).alloc (Nat.le_refl _) _, by simp, by simp⟩
  have Hn : Hid (n = rs.length) := hn
  clear hn
  generalize sortS (keyZ rs) (upTo n) = sl at *
  generalize upTo n = up at *
  go_enter Tryz.func171, Tryz.ntmps171
  go_wp2_with (at_make; go_must (refine wpList_make_full _ rfl _ _ 22 rfl (w.heap.size + 1) 3 k0 (.int .i64 0) 1 Tryz.underlying22 hKI hx0 hx1 .i64 .i64 _ _ n rfl rfl rfl rfl ?b2 ?b3 ?b4 ?_))
  case b2 => rw [hx2]; omega
  case b3 => unfold maxLen; omega
  case b4 => simp
  intro w2 hown hgrow
  obtain ⟨W, hW⟩ : ∃ W, W = w.alloc (.cells #[.slice a n cap] 22) := ⟨_, rfl⟩
  rw [← hW] at HV hgrow
  obtain ⟨v1, v2, v3⟩ := HV.out
  have hown' : w2.ownsRow (w.heap.size + 1) 3 1 (.slice (some ⟨w.heap.size + 1, 0, none⟩) n n) n (madeCells #[.int .i64 0] n).toList := by simpa using hown
  rw [madeZ] at hown'
  have R2 : Hid (RowAt w2 (w.heap.size + 1) 3 ((begL up 0 n).map (Value.int .i64))) := by rw [begL_0]; exact RowAt.of_owns hown'
  have B2 : Hid (Below (w.heap.size + 1) W w2) := (Below.refl _ _).grown hgrow (by omega) (by intro k hk; cases hk)
  have c0 : w2.cell? ⟨w.heap.size, 0, none⟩ = some (.slice a n cap) := cell_later (by rw [v3]; exact B2.out) v2
  clear hown hgrow hown' hW v1 v2 v3
  go_wp2
  go_loopw [4, 10] (fun _ i wr => ∃ k : Nat, k ≤ n ∧ i = .int .i64 k ∧ Hid (RowAt wr (w.heap.size + 1) 3 ((begL up k n).map (Value.int .i64))) ∧ Hid (Below (w.heap.size + 1) W wr)) (fun _ i _ => n - (intOf i).toNat)
  case atStart => exact ⟨0, by omega, rfl, R2, B2⟩
  case round =>
    obtain ⟨k, hk, rfl, hro, hbl⟩ := hrel
    by_cases hlt : k < n
    · have f0 := hro.out.frozen k
      have c1 := hro.out.cell (i := k) (v := .int .i64 ((begL up k n).getD k 0)) (by have := intsCell (l := begL up k n) (sp := []) (i := k) (by rw [begL_length HUl.out hk]; exact hlt); rwa [List.append_nil] at this)
      have z0 := hro.out.lt
      have HN : Hid (RowAt (wr.setCell ⟨w.heap.size + 1, k, none⟩ (.int .i64 k)) (w.heap.size + 1) 3 ((begL up (k + 1) n).map (Value.int .i64))) := by
        have := hro.out.set k (.int .i64 (k : Int))
        rw [← List.map_set, ← HUa.out k hlt, begL_set HUl.out hlt] at this
        rw [← HUa.out k hlt]
        exact this
      have HBn : Hid (Below (w.heap.size + 1) W (wr.setCell ⟨w.heap.size + 1, k, none⟩ (.int .i64 k))) := hbl.out.setCell (Nat.le_refl _) _
      generalize (begL up k n).getD k 0 = y0 at *
      go_wp2
      go_roundw
      case rel => exact ⟨k + 1, by omega, by go_num, HN, HBn⟩
      case measure => simp [intOf]; omega
    · obtain rfl : k = n := by omega
      have hr := hro.out
      rw [begL_all HUl.out] at hr
      have HS1 : Hid (Calls Tryz.prog 182 #[.slice (some ⟨w.heap.size + 1, 0, none⟩) k k, .func (.func 183) #[] #[.pointer (some ⟨w.heap.size, 0, none⟩)]] wr fun e w' => e = .returned (.tuple #[]) ∧ RowAt w' (w.heap.size + 1) 3 (sl.map (Value.int .i64) ++ []) ∧ Below (w.heap.size + 1) wr w') :=
        HS.out (w.heap.size + 1) (w.heap.size + 1) W wr (Nat.le_refl _) (Nat.le_refl _) HV.out.1 HV.out.2.1 (by rw [List.append_nil]; exact hr) HV.out.2.2 hbl.out
      clear hr
      go_wp2_with fail
      refine HS1.out.mono ?_
      rintro e w3 ⟨rfl, hr3, hb3⟩
      have HE : Hid (OwnInts w.heap.size w3 (.slice (some ⟨w.heap.size + 1, 0, none⟩) k k) sl) := ⟨w.heap.size + 1, k, [], by rw [HSl.out], by rw [HSl.out]; exact Nat.le_refl _, by omega, hr3⟩
      have HB3 : Hid (Below w.heap.size w w3) := HV.out.1.trans ((hbl.out.trans hb3).mono (by omega))
      clear hr3 hb3
      go_wp2
      go_ret
      exact ⟨_, rfl, HE.out, HB3.out⟩
end Ev
end Go.Proofs.YtpnmmmlckdkcdakGreatDoor
