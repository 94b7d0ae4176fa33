/- Pieces of one walk, one text behind the other. -/
import Derived.Test.YtpnmmmlckdkcdakGreatDoorPlains
import Derived.Test.YtpnmmmlckdkcdakGreatDoorNetB
import Derived.Test.YtpnmmmlckdkcdakGreatDoorNetC0
import Derived.Test.YtpnmmmlckdkcdakGreatDoorCloneI
import Derived.Maps.AppendAt
import Derived.Test.YtpnmmmlckdkcdakGreatDoorNetF
import Derived.Deep.RegionLaw
import Derived.Test.YtpnmmmlckdkcdakGreatDoorFiAll
/- Package log's New does what is asked of it. -/
namespace Go.Proofs.YtpnmmmlckdkcdakGreatDoor
namespace Ev
open Go.RowKit Fr Ns Fl
set_option linter.unusedSimpArgs false
set_option linter.unusedVariables false

theorem links_len {caps : List Int} (h : linksE caps = 0) : 1 ≤ caps.length ∧ caps.length ≤ 6 := by
  unfold linksE at h
  split at h
  · omega
  · split at h
    · omega
    · omega
theorem netE_first (caps : List Int) : netE caps [[0]] = linksE caps := by
  unfold netE
  by_cases h0 : caps.length = 0
  · rw [if_pos (.inl h0), linksE, if_pos h0]
  · rw [if_neg (by simp; intro e; exact h0 (by simp [e]))]
    by_cases h6 : 6 < caps.length
    · rw [if_pos (.inl h6), linksE, if_neg h0, if_pos h6]
    · rw [if_neg (by simp; omega)]
      by_cases hl : linksE caps = 0
      · rw [if_pos hl, hl]
        have : pathE (caps.length : Int) [0] = 0 := by
          simp only [pathE, pathFrom, List.length_singleton]
          rw [if_neg (by omega), if_neg (by omega)]
          rfl
        simp only [pathsFrom]
        rw [if_pos this]
      · rw [if_neg hl]
theorem netE_one {caps : List Int} (h : linksE caps = 0) (p : List Int) : netE caps [p] = pathE caps.length p := by
  obtain ⟨h1, h6⟩ := links_len h
  unfold netE
  rw [if_neg (by simp; intro e; simp [e] at h1), if_neg (by simp; omega), if_pos h]
  simp only [pathsFrom]
  split
  · rename_i e; rw [e]
  · rfl
/-- one list in a box of its own -/
theorem one_list {Q : Nat → Prop} {w : World} {v : Value} {l : List Int} (h : IntsAt Q w v l) : ListsAt (fun _ => True) (w.alloc (.cells #[v] 22)) (.slice (some ⟨w.heap.size, 0, none⟩) 1 1) [l] := by
  refine ⟨_, 1, rfl, ⟨Nat.le_refl _, by simp⟩, .inr ⟨w.heap.size, 0, rfl, fun i hi => ?_, trivial⟩⟩
  obtain rfl : i = 0 := by simpa using hi
  exact ⟨v, by go_simp, (h.later ((Below.refl _ _).alloc (Nat.le_refl _) _)).keep (fun _ _ _ => rfl) (fun _ _ _ => trivial)⟩
set_option maxRecDepth 100000 in
set_option maxHeartbeats 2000000 in
theorem lnew_said : LNewSaid logX := by
  intro Q caps v w hv
  obtain ⟨W0, hW0⟩ : ∃ W0, Hid (W0 = (w.alloc (.cells #[.int .i64 0] 3)).alloc (.cells #[.slice (some ⟨w.heap.size, 0, none⟩) 1 1] 22)) := ⟨_, rfl⟩
  have B0 : Hid (Below w.heap.size w W0) := by rw [hW0.out]; exact ((Below.refl _ _).alloc (Nat.le_refl _) _).alloc (by simp) _
  have HCk : Hid (Calls Tryz.prog 18 #[.agg #[v, .slice (some ⟨w.heap.size + 1, 0, none⟩) 1 1]] W0 fun e w' => e = .returned (errV (linksE caps)) ∧ Below W0.heap.size W0 w') := by
    rw [← netE_first]
    refine check_said (fun _ => True) caps [[0]] _ W0 ⟨_, _, rfl, (hv.later B0.out).keep (fun _ _ _ => rfl) (fun _ _ _ => trivial), ?_⟩
    have := one_list (Q := fun _ => True) (w := w.alloc (.cells #[.int .i64 0] 3)) (v := .slice (some ⟨w.heap.size, 0, none⟩) 1 1) (l := [0]) ⟨_, 1, rfl, ⟨Nat.le_refl _, by simp⟩, .inr ⟨w.heap.size, 0, rfl, fun i hi => by obtain rfl : i = 0 := (by simpa using hi); go_simp, trivial⟩⟩
    rw [hW0.out]
    simpa using this
  obtain ⟨va, vc, hvv, hvm, _⟩ := id hv
  by_cases hl : linksE caps = 0
  · obtain ⟨h1, h6⟩ := links_len hl
    have HCl : Hid (∀ u, Below w.heap.size w u → Calls Tryz.prog 26 #[v] u fun e w' => ∃ x, e = .returned x ∧ w'.ownsRow u.heap.size 3 1 x caps.length (caps.map (Value.int .i64)) ∧ Below u.heap.size u w') := fun u hu => CloneE_own caps v u (hv.later hu) (by omega)
    have HEnd : Hid (∀ (u : World) (x : Value), Below w.heap.size w u → IntsAt (fun b => w.heap.size ≤ b) u x caps → MadeL logX caps w (u.alloc (.cells #[x, .slice none 0 0, .int .i64 0, .slice none 0 0, .int .i64 (-1), .bool false] 64)) (.returned (.tuple #[.pointer (some ⟨u.heap.size, 0, none⟩), .nilIface]))) := fun u x hu hx => by
      have hz := hu.size
      refine ⟨_, by rw [hl, errV_0], ⟨_, rfl⟩, fun _ => ⟨fun b => w.heap.size ≤ b ∧ b < u.heap.size + 1, ⟨u.heap.size, x, .slice none 0 0, .slice none 0 0, [], [], rfl, ⟨⟨row_made _ _ _ _ _ rfl rfl, ⟨hz, by omega⟩, fun b hb => by simp; exact hb.2, ?_, World.ownsRow_nil _ _ _ _, OwnLs.nil _ _, fun b hb => by simp [Value.ownBlock] at hb⟩, rfl, ⟨[], [], ⟨trivial, rfl, rfl, rfl, .inl rfl, fun x hx => by simp at hx⟩, fun _ => rfl⟩, by simp [log0]⟩⟩, fun b hb => hb.1⟩, hu.alloc hz _⟩
      refine hx.keep (fun b _ hl => Below.heap_alloc u _ b hl) (fun b hb hl => ⟨⟨⟨hb, by omega⟩, by omega, by simp [Value.ownBlock]⟩, by simp [Value.ownBlock]⟩)
    rw [hl, errV_0] at HCk
    clear hl hv
    subst hvv
    go_enter Tryz.func8, Tryz.ntmps8
    go_wp2_with fail
    rw [← hW0.out]
    refine HCk.out.mono ?_
    rintro e w1 ⟨rfl, hw1⟩
    have B1 : Hid (Below w.heap.size w w1) := Bel.call B0.out (Nat.le_refl _) hw1
    clear hw1
    go_wp2_with fail
    refine (HCl.out _ B1.out).mono ?_
    rintro e w2 ⟨x, rfl, hx, hw2⟩
    have hs1 := B1.out.size
    have X2 : Hid _ := HEnd.out w2 x (Bel.call B1.out (Nat.le_refl _) hw2) ((ints_of_owns (Q := fun b => w1.heap.size ≤ b) (by omega) hx (fun _ h => h)).keep (fun _ _ _ => rfl) (fun b hb _ => by omega))
    obtain ⟨xa, xc, rfl⟩ := owns_shape hx
    clear hx hw2 hs1
    go_wp2
    refine bodyPost_ret (v := .tuple #[.pointer (some ⟨w2.heap.size, 0, none⟩), .nilIface]) (by simp [results, Tryz.results8, go_sem]) rfl X2.out
  · have HEnd : Hid (∀ u, Below w.heap.size w u → MadeL logX caps w u (.returned (.tuple #[.pointer none, .iface 65 (.int .i64 (linksE caps))]))) := fun u hu => ⟨_, by rw [errV_ne hl], ⟨_, rfl⟩, fun h => absurd h hl, hu⟩
    rw [errV_ne hl] at HCk
    clear hl hv
    subst hvv
    generalize linksE caps = ek at *
    go_enter Tryz.func8, Tryz.ntmps8
    go_wp2_with fail
    rw [← hW0.out]
    refine HCk.out.mono ?_
    rintro e w1 ⟨rfl, hw1⟩
    have X1 : Hid _ := HEnd.out w1 (Bel.call B0.out (Nat.le_refl _) hw1)
    clear hw1
    go_wp2
    refine bodyPost_ret (v := .tuple #[.pointer none, .iface 65 (.int .i64 ek)]) (by simp [results, Tryz.results8, go_sem]) rfl X1.out
end Ev
end Go.Proofs.YtpnmmmlckdkcdakGreatDoor

/- Package log's addRecord: a path as a record. -/
namespace Go.Proofs.YtpnmmmlckdkcdakGreatDoor
namespace Ev
open Go.RowKit Fr Ns Fl
set_option linter.unusedSimpArgs false
set_option linter.unusedVariables false

set_option maxHeartbeats 2000000 in
theorem laddRecord_any {Q : Nat → Prop} (p : List Int) (v : Value) (w : World) (h : IntsAt Q w v p) (h6 : p.length ≤ 6) (hb : ∀ x ∈ p, 0 ≤ x ∧ x < 6) :
    Calls Tryz.prog 28 #[v] w fun e w' => ∃ y, e = .returned y ∧ w'.ownsRow w.heap.size 5 1 y (p.length + 1) (u8s (recAdd p)) ∧ Below w.heap.size w w' := by
  obtain ⟨a, cap, rfl, ⟨hm, hm2⟩, h'⟩ := id h
  have HC : Hid (∀ i, i < p.length → ∃ b off, a = some ⟨b, off, none⟩ ∧ ∀ u, Below w.heap.size w u → u.cell? ⟨b, off + i, none⟩ = some (.int .i64 (p.getD i 0))) := ints_cells h
  have HB : Hid (∀ k, k < p.length → 0 ≤ p.getD k 0 ∧ p.getD k 0 < 6) := fun k hk => hb _ (getD_mem p k hk 0)
  have HS : Hid (∀ k, k < p.length → u8s (p.length :: (p.take (k + 1)).map Int.toNat) = u8s (p.length :: (p.take k).map Int.toNat) ++ [.int .u8 (p.getD k 0)]) := fun k hk => by
    have e : p.take (k + 1) = p.take k ++ [p.getD k 0] := take_snoc p k hk 0
    have := hb _ (getD_mem p k hk 0)
    rw [e, List.map_append, List.map_singleton, ← List.cons_append, u8s_append]
    congr 1
    show [Value.int .u8 (((p.getD k 0).toNat : Nat) : Int)] = _
    rw [Int.toNat_of_nonneg this.1]
  obtain ⟨i0, hi, hz0, hz1, hz2⟩ := info_parts infoByte
  have q0 : IntKind.u8.wrap (p.length : Int) = p.length := by rw [IntKind.wrap_u8]; omega
  have O0 : Hid ((w.alloc (.cells #[.int .u8 p.length] 5)).ownsRow w.heap.size 5 1 (.slice (some ⟨w.heap.size, 0, none⟩) 1 1) 1 (u8s (p.length :: (p.take 0).map Int.toNat))) := by
    refine RowAt.owns (row_made w _ _ _ _ rfl ?_) (Nat.le_refl _) rfl (by decide)
    simp [u8s]
  clear h h' hb
  go_enter Tryz.func28, Tryz.ntmps28
  go_wp2
  go_loopw [3, 5, 12] (fun s3 _ i wr => ∃ k : Nat, k ≤ p.length ∧ i = .int .i64 k ∧ Hid (wr.ownsRow w.heap.size 5 1 s3 (k + 1) (u8s (p.length :: (p.take k).map Int.toNat))) ∧ Hid (Below w.heap.size w wr)) (fun _ _ i _ => p.length - (intOf i).toNat)
  case atStart => exact ⟨0, by omega, rfl, O0, (Below.refl _ _).alloc (Nat.le_refl _) _⟩
  case round =>
    obtain ⟨k, hk, rfl, ho, hbl⟩ := hrel
    by_cases hlt : k < p.length
    · obtain ⟨b, off, rfl, hc⟩ := HC.out k hlt
      have c0 := hc _ hbl.out
      obtain ⟨b1, b2⟩ := HB.out k hlt
      have HN := HS.out k hlt
      have q1 : IntKind.u8.wrap (p.getD k 0) = p.getD k 0 := by rw [IntKind.wrap_u8]; omega
      have hsz : w.heap.size ≤ wr.heap.size := hbl.out.size
      have O2 : Hid ((wr.alloc (.cells #[.int .u8 (p.getD k 0)] 5)).ownsRow w.heap.size 5 1 u3 (k + 1) (u8s (p.length :: (p.take k).map Int.toNat))) := ho.out.alloc _
      obtain ⟨sa, cs, rfl⟩ := owns_shape ho.out
      generalize u8s (p.length :: (p.take k).map Int.toNat) = xs at *
      have HN' : Hid (u8s (p.length :: (p.take (k + 1)).map Int.toNat) = xs ++ [.int .u8 (p.getD k 0)]) := HN
      clear hc HN
      generalize p.getD k 0 = y at *
      have HNews : Hid (∀ j u, [Value.int .u8 y][j]? = some u → (wr.alloc (.cells #[.int .u8 y] 5)).cell? ((⟨wr.heap.size, 0, none⟩ : Addr).add j) = some u) := new1 _ _ _ _ rfl
      go_wp2_with (at_builtin; go_must (refine wpList_append_own_at _ rfl (.tmp 16) (.tmp 19) 62 rfl w.heap.size 5 i0 (.int .u8 0) 1 1 Tryz.underlying62 hi hz0 hz1 hz2 rfl (by decide) (.slice sa (k + 1) cs) (k + 1) xs rfl O2.out ⟨wr.heap.size, 0, none⟩ 1 1 [.int .u8 y] rfl rfl HNews.out (by intro u hu; simp at hu; subst hu; rfl) (by unfold maxLen; omega) (by omega) (by simp; omega) ?_))
      intro v' wg hown' hgrow _ _
      have HBg : Hid (Below w.heap.size w wg) := rel_append hbl.out hsz ho.out hgrow
      obtain ⟨av, cv, rfl⟩ := owns_shape hown'
      have HO : Hid (wg.ownsRow w.heap.size 5 1 (.slice av (k + 1 + 1) cv) (k + 1 + 1) (u8s (p.length :: (p.take (k + 1)).map Int.toNat))) := by rw [HN'.out]; exact hown'
      clear hown' hgrow
      go_wp2
      go_roundw
      case rel => exact ⟨k + 1, by omega, by go_num, HO, HBg⟩
      case measure => simp [intOf]; omega
    · have HO : Hid (wr.ownsRow w.heap.size 5 1 u3 (p.length + 1) (u8s (recAdd p))) := by
        have := ho.out
        rw [show k = p.length by omega, List.take_length] at this
        exact this
      obtain ⟨sa, cs, rfl⟩ := owns_shape ho.out
      go_wp2
      go_ret
      exact ⟨_, rfl, HO.out, hbl.out⟩
end Ev
end Go.Proofs.YtpnmmmlckdkcdakGreatDoor

/- Package log's stops, Sync, Fail, Bytes and Safe do what is asked of them. -/
namespace Go.Proofs.YtpnmmmlckdkcdakGreatDoor
namespace Ev
open Go.RowKit Fr Ns Fl
set_option linter.unusedSimpArgs false
set_option linter.unusedVariables false

theorem only_set {w : World} {g i : Nat} (v : Value) : Only g w (w.setCell ⟨g, i, none⟩ v) := ⟨(Below.refl 0 w).setCell (Nat.zero_le _) _, fun b hb => stay_set _ _ _ _ _ hb⟩
theorem Only.trans {w w1 w2 : World} {g : Nat} (h : Only g w w1) (k : Only g w1 w2) : Only g w w2 := ⟨h.1.trans k.1, fun b hb => (k.2 b hb).trans (h.2 b hb)⟩

/-- how many steps are left -/
def nextL (l : Int) : Int := if 0 < l then l - 1 else l
set_option maxRecDepth 100000 in
theorem lstops_any (g : Nat) (cv bv x fv : Value) (lf : Int) (st : Bool) (w : World) (h : RowAt w g 64 [cv, bv, x, fv, .int .i64 lf, .bool st]) (hl : lf ≤ 9223372036854775807) :
    Calls Tryz.prog 29 #[.pointer (some ⟨g, 0, none⟩)] w fun e w' => e = .returned (.bool (decide (lf = 0))) ∧ RowAt w' g 64 [cv, bv, x, fv, .int .i64 (nextL lf), .bool (decide (lf = 0))] ∧ Only g w w' := by
  have c4 := h.cell (i := 4) rfl
  have c5 := h.cell (i := 5) rfl
  have f0 := h.frozen
  have gl := h.lt
  by_cases h0 : 0 < lf
  · have e0 : decide (lf = 0) = false := decide_eq_false (by omega)
    have e1 : (lf == 0) = false := beq_eq_false_iff_ne.2 (by omega)
    have e2 : nextL lf = lf - 1 := if_pos h0
    have q1 : IntKind.i64.wrap (lf - 1) = lf - 1 := by rw [IntKind.wrap_i64]; omega
    have M : Hid (RowAt ((w.setCell ⟨g, 5, none⟩ (.bool false)).setCell ⟨g, 4, none⟩ (.int .i64 (lf - 1))) g 64 [cv, bv, x, fv, .int .i64 (lf - 1), .bool false]) := (h.set 5 _).set 4 _
    rw [e0, e2]
    clear h e0 e2
    go_enter Tryz.func29, Tryz.ntmps29
    go_wp2
    go_ret
    exact ⟨rfl, M.out, (only_set _).trans (only_set _)⟩
  · have e2 : nextL lf = lf := if_neg h0
    have M : Hid (RowAt (w.setCell ⟨g, 5, none⟩ (.bool (decide (lf = 0)))) g 64 [cv, bv, x, fv, .int .i64 lf, .bool (decide (lf = 0))]) := h.set 5 _
    have e1 : (lf == 0) = decide (lf = 0) := by by_cases e : lf = 0 <;> simp [e]
    rw [e2]
    clear h e2
    generalize decide (lf = 0) = dd at *
    go_enter Tryz.func29, Tryz.ntmps29
    go_wp2
    go_ret
    exact ⟨rfl, M.out, only_set _⟩
set_option maxRecDepth 100000 in
theorem lsync_said : LSyncSaid logX := by
  rintro p F s w ⟨g, cv, bv, fv, B, ws, rfl, h⟩ hf
  obtain ⟨-, ⟨a, c, rfl⟩, -⟩ := h.mem.shape
  have hlen := h.len
  by_cases hs : s.stopped = true
  · have M : Hid (MovedL logX (.pointer (some ⟨g, 0, none⟩)) F (syncS s) w w) := by
      have : syncS s = s := by unfold syncS; rw [if_pos hs]
      rw [this]; exact moved_none h (Below.refl _ _)
    have e : syncE s = 6 := by unfold syncE; rw [if_pos hs]
    obtain ⟨-, -, -, -, -, c5, f0, gl⟩ := h.mem.six
    rw [hs] at c5
    rw [e, errV_ne (by decide)]
    clear h hf hs e
    go_enter Tryz.func11, Tryz.ntmps11
    go_wp2
    go_ret
    exact ⟨rfl, M.out⟩
  · have hs' : s.stopped = false := by simpa using hs
    have HSt : Hid (Calls Tryz.prog 29 #[.pointer (some ⟨g, 0, none⟩)] w fun e w' => e = .returned (.bool (decide (s.left = 0))) ∧ RowAt w' g 64 [cv, .slice a B.length c, .int .i64 s.safe, fv, .int .i64 (nextL s.left), .bool (decide (s.left = 0))] ∧ Only g w w') := lstops_any g cv _ _ fv s.left s.stopped w h.mem.cells h.far
    obtain ⟨-, -, -, -, -, c5, f0, gl⟩ := h.mem.six
    rw [hs'] at c5
    by_cases hl : s.left = 0
    · have e : syncE s = 6 := by unfold syncE; rw [if_neg hs, if_pos hl]
      have M : Hid (∀ w', RowAt w' g 64 [cv, .slice a B.length c, .int .i64 s.safe, fv, .int .i64 (nextL s.left), .bool true] → Only g w w' → MovedL logX (.pointer (some ⟨g, 0, none⟩)) F (syncS s) w w') := fun w' hr ho => by
        have e2 : syncS s = { s with safe := s.safe, left := s.left, stopped := true } := by unfold syncS; rw [if_neg hs, if_pos hl]
        have e3 : nextL s.left = s.left := if_neg (by omega)
        rw [e3] at hr
        rw [e2]
        exact moved_put (h.put hr ho.2 (fun e => by cases e) h.far) h.mem.own ho
      rw [e, errV_ne (by decide)]
      rw [decide_eq_true hl] at HSt
      clear h hf hs hs' e hl
      go_enter Tryz.func11, Tryz.ntmps11
      go_wp2_with fail
      refine HSt.out.mono ?_
      rintro e w1 ⟨rfl, hr, ho⟩
      have M1 : Hid _ := M.out w1 hr ho
      clear hr ho c5 f0
      go_wp2
      go_ret
      exact ⟨rfl, M1.out⟩
    · have e : syncE s = 0 := by unfold syncE; rw [if_neg hs, if_neg hl]
      have M : Hid (∀ w', RowAt w' g 64 [cv, .slice a B.length c, .int .i64 s.safe, fv, .int .i64 (nextL s.left), .bool false] → Only g w w' → MovedL logX (.pointer (some ⟨g, 0, none⟩)) F (syncS s) w (w'.setCell ⟨g, 2, none⟩ (.int .i64 B.length))) := fun w' hr ho => by
        have e2 : syncS s = { s with safe := B.length, left := nextL s.left, stopped := false } := by unfold syncS; rw [if_neg hs, if_neg hl, ← hlen]; show LogS.mk _ _ _ _ _ _ _ = LogS.mk _ _ _ _ _ _ _; rw [hs']; rfl
        rw [e2]
        have ho' : Only g w (w'.setCell ⟨g, 2, none⟩ (.int .i64 B.length)) := ho.trans (only_set _)
        exact moved_put (h.put (hr.set 2 _) ho'.2 (fun _ => hs') (by have := h.far; unfold nextL; split <;> omega)) h.mem.own ho'
      rw [e, errV_0]
      rw [decide_eq_false hl] at HSt
      clear h hf hs hs' e hl hlen
      generalize nextL s.left = nl at *
      generalize B.length = nb at *
      generalize s.safe = ns at *
      go_enter Tryz.func11, Tryz.ntmps11
      go_wp2_with fail
      refine HSt.out.mono ?_
      rintro e w1 ⟨rfl, hr, ho⟩
      have M1 : Hid _ := M.out w1 hr ho
      have d1 := hr.cell (i := 1) rfl
      have d2 := hr.cell (i := 2) rfl
      have df := hr.frozen
      have dl := hr.lt
      clear hr ho c5 f0 gl
      go_wp2
      go_ret
      exact ⟨rfl, M1.out⟩
end Ev
end Go.Proofs.YtpnmmmlckdkcdakGreatDoor

/- Package log's behind: the flows as a record leaves them, in a row of the log's own. -/
namespace Go.Proofs.YtpnmmmlckdkcdakGreatDoor
namespace Ev
open Go.RowKit Fr Ns Fl
set_option linter.unusedSimpArgs false
set_option linter.unusedVariables false

theorem row_setCells {g : Nat} {T : TypeId} : ∀ (vs : List Value) (o : Nat) (w : World) (xs : List Value), RowAt w g T xs → o + vs.length ≤ xs.length → RowAt (w.setCells g o vs) g T (xs.take o ++ (vs ++ xs.drop (o + vs.length))) := by
  intro vs
  induction vs with
  | nil => intro o w xs h _; simpa [World.setCells] using h
  | cons v r ih =>
    intro o w xs h hl
    simp only [List.length_cons] at hl
    have := ih (o + 1) _ _ (h.set o v) (by simp; omega)
    have e : (xs.set o v).take (o + 1) ++ (r ++ (xs.set o v).drop (o + 1 + r.length)) = xs.take o ++ (v :: r ++ xs.drop (o + (v :: r).length)) := by
      rw [List.drop_set_of_lt (by omega), List.take_set, List.take_add_one, List.getElem?_eq_getElem (show o < xs.length by omega)]
      simp only [Option.toList_some, List.length_cons]
      rw [List.set_append_right _ _ (by simp; omega)]
      simp [show o - min o xs.length = 0 by omega, show o + 1 + r.length = o + (r.length + 1) by omega]
    rw [e] at this
    exact this
/-- one is taken out of a row -/
theorem own_without {w : World} {R n c k : Nat} {T : TypeId} {vs : List Value} {z : Value} (h : w.ownsRow 0 T 1 (.slice (some ⟨R, 0, none⟩) n c) n vs) (hk : k < n) :
    ((w.drew.setCells R (0 + k * 1) (vs.drop (k + 1))).setCells R (0 + (k + (n - (k + 1)))) [z]).ownsRow 0 T 1 (.slice (some ⟨R, 0, none⟩) (n - 1) c) (n - 1) (vs.take k ++ vs.drop (k + 1)) := by
  have hl : vs.length = n := by have := h.1; omega
  rcases h.2 with ⟨e, _⟩ | ⟨g, cap, cur, e, hb, hg, hc, hm, hs, ht⟩
  · simp at e
  · simp only [Value.slice.injEq, Option.some.injEq, Addr.mk.injEq, and_true, true_and] at e
    obtain ⟨rfl, rfl⟩ := e
    have hr : RowAt w.drew R T cur.toList := by show w.heap[R]? = _; rw [hg]
    have hcl : cur.toList.length = c := by simp [hs]
    have hdl : (vs.drop (k + 1)).length = n - (k + 1) := by rw [List.length_drop, hl]
    have r1 := row_setCells (vs.drop (k + 1)) (0 + k * 1) _ _ hr (by rw [hdl, hcl]; omega)
    have r2 := row_setCells [z] (0 + (k + (n - (k + 1)))) _ _ r1 (by simp [hcl, hdl]; omega)
    have ht' : cur.toList.take k = vs.take k := by rw [← ht, List.take_take, Nat.min_eq_left (by omega)]
    have e1 : 0 + k * 1 = k := by omega
    have e2 : 0 + (k + (n - (k + 1))) = n - 1 := by omega
    rw [e1, e2] at r2 ⊢
    rw [ht'] at r2
    have htl : (vs.take k).length = k := by rw [List.length_take]; omega
    have hxl : (vs.take k ++ vs.drop (k + 1)).length = n - 1 := by rw [List.length_append, htl, hdl]; omega
    have e3 : (vs.take k ++ (vs.drop (k + 1) ++ cur.toList.drop (k + (vs.drop (k + 1)).length))).take (n - 1) = vs.take k ++ vs.drop (k + 1) := by
      rw [← List.append_assoc]
      exact List.take_left' hxl
    rw [e3] at r2
    unfold RowAt at r2
    refine ⟨by omega, .inr ⟨R, c, _, rfl, Nat.zero_le _, r2, by omega, hm, ?_, ?_⟩⟩
    · simp only [List.size_toArray, List.length_append, hxl, List.length_drop, hcl, List.length_singleton, htl, hdl]
      omega
    · rw [Nat.mul_one]
      exact List.take_left' hxl
theorem drew_butIn {F : Nat → Prop} {w w' : World} (h : Below 0 w w') (hk : ∀ b, b < w.heap.size → ¬ F b → w'.heap[b]? = w.heap[b]?) : ButIn F w w' := ⟨h, hk⟩
theorem ones_of {w : World} {Q : Nat → Prop} {v : Value} {f : Flows} {ws : List Value} (h : OwnLs w Q v f ws) : ∀ u ∈ ws, u.oneCell' = true :=
  ones (by have := h.row.1; omega) h.each

set_option maxRecDepth 100000 in
set_option maxHeartbeats 2000000 in
theorem lbehind_drop {Q : Nat → Prop} (v : Value) (f : Flows) (ws : List Value) (r : List Nat) (gr og cr : Nat) (w : World) (h : OwnLs w Q v f ws) (hr : ∀ k, k < r.length → w.cell? ⟨gr, og + k, none⟩ = some (.int .u8 (r.getD k 0 : Nat))) (hm : MayR f r) (hcr : r.length ≤ cr) (h0 : r.getD 0 0 = 0) (hf : f.length ≤ 6) :
    Calls Tryz.prog 31 #[v, .slice (some ⟨gr, og, none⟩) r.length cr] w fun e w' => ∃ v' ws', e = .returned v' ∧ OwnLs w' (newQ Q w w') v' (recStep f r) ws' ∧ ButIn (fun b => v.ownBlock = some b) w w' ∧ (∀ b, v'.ownBlock = some b → v.ownBlock = some b ∨ w.heap.size ≤ b) := by
  have hk := hm.2.1 h0
  have h2 := hm.1.1
  have h1 := hm.1.2.2.2
  have b1 : r.getD 1 0 ≤ 255 := h1 _ (by rw [List.getD, List.getElem?_eq_getElem (by omega)]; exact List.getElem_mem _)
  have c0 := hr 0 (by omega)
  have c1 := hr 1 (by omega)
  have hst : recStep f r = f.take (r.getD 1 0) ++ f.drop (r.getD 1 0 + 1) := by unfold recStep lessF; rw [if_pos h0]; simp
  rw [hst]
  rw [Nat.add_zero, h0] at c0
  obtain ⟨a, c, rfl⟩ := owns_shape h.row
  rcases own_cellL h.row with ⟨e, _⟩ | ⟨R, rfl, hnc, hcm, hfz, hcell⟩
  · omega
  have hwl : ws.length = f.length := by have := h.row.1; omega
  have HD : Hid (Calls Tryz.prog 64 #[.slice (some ⟨R, 0, none⟩) f.length c, .int .i64 (r.getD 1 0 : Nat), .int .i64 ((r.getD 1 0 : Nat) + 1)] w fun e w' => e = .returned (.slice (some ⟨R, 0, none⟩) (f.length - 1) c) ∧
      ∃ z, w' = (w.drew.setCells R (0 + r.getD 1 0 * 1) (ws.drop (r.getD 1 0 + 1))).setCells R (0 + (r.getD 1 0 + (f.length - (r.getD 1 0 + 1)))) [z]) :=
    Delete_at R 0 f.length c (r.getD 1 0) (r.getD 1 0 + 1) ws w hwl (fun i hi => by
      rw [Nat.zero_add]
      exact hcell i _ (by simp [List.getD, List.getElem?_eq_getElem (show i < ws.length by omega)])) (fun i _ => by rw [Nat.zero_add]; exact hfz i) (ones_of h) rfl hk hnc (by simpa [maxLen] using hcm)
  have HE : Hid (∀ z w', w' = (w.drew.setCells R (0 + r.getD 1 0 * 1) (ws.drop (r.getD 1 0 + 1))).setCells R (0 + (r.getD 1 0 + (f.length - (r.getD 1 0 + 1)))) [z] → ∃ ws', OwnLs w' (newQ Q w w') (.slice (some ⟨R, 0, none⟩) (f.length - 1) c) (f.take (r.getD 1 0) ++ f.drop (r.getD 1 0 + 1)) ws' ∧ ButIn (fun b => Value.ownBlock (.slice (some ⟨R, 0, none⟩) f.length c) = some b) w w' ∧ (∀ b, Value.ownBlock (.slice (some ⟨R, 0, none⟩) (f.length - 1) c) = some b → Value.ownBlock (.slice (some ⟨R, 0, none⟩) f.length c) = some b ∨ w.heap.size ≤ b)) := by
    rintro z w' rfl
    generalize r.getD 1 0 = k at *
    have hll : (f.take k ++ f.drop (k + 1)).length = f.length - 1 := by rw [List.length_append, List.length_take, List.length_drop]; omega
    have hB : Below 0 w ((w.drew.setCells R (0 + k * 1) (ws.drop (k + 1))).setCells R (0 + (k + (f.length - (k + 1)))) [z]) :=
      (((Below.refl 0 w).drew).trans (Lib.below_setCells_w (Nat.zero_le _) _ _ _)).trans (Lib.below_setCells_w (Nat.zero_le _) _ _ _)
    have e0 : w.heap.size ≤ (w.drew.setCells R (0 + k * 1) (ws.drop (k + 1))).heap.size := (Lib.below_setCells_w (B := R) (Nat.le_refl _) (ws.drop (k + 1)) (0 + k * 1) w.drew).size
    have hK : ∀ b, b < w.heap.size → b ≠ R → ((w.drew.setCells R (0 + k * 1) (ws.drop (k + 1))).setCells R (0 + (k + (f.length - (k + 1)))) [z]).heap[b]? = w.heap[b]? := fun b hlt hb => by
      rw [World.heap_setCells_other _ R _ _ (by omega) hb, World.heap_setCells_other _ R _ _ (by exact hlt) hb]
      rfl
    refine ⟨ws.take k ++ ws.drop (k + 1), ⟨?_, fun i hi => ?_, fun b hb => .inl (h.own b hb)⟩, ⟨hB, fun b hlt hb => hK b hlt (fun e => hb (by rw [e]; rfl))⟩, fun b hb => .inl hb⟩
    · rw [hll]; exact own_without h.row hk
    · rw [hll] at hi
      rw [getD_without f k i hk, getD_without ws k i (by omega)]
      refine (h.each _ (by split <;> omega)).keep (fun b hb hlt => hK b hlt (fun e => hb.2 (by rw [e]; rfl))) (fun b hb _ => ⟨.inl hb.1, hb.2⟩)
  have q1 : IntKind.i64.wrap ((r.getD 1 0 : Nat) : Int) = (r.getD 1 0 : Nat) := by rw [IntKind.wrap_i64]; omega
  have q2 : IntKind.i64.wrap (((r.getD 1 0 : Nat) : Int) + 1) = ((r.getD 1 0 : Nat) : Int) + 1 := by rw [IntKind.wrap_i64]; omega
  clear h hr hm h0 hf hk h1 hst hcell hwl hfz
  generalize r.getD 1 0 = k at *
  go_enter Tryz.func31, Tryz.ntmps31
  go_wp2_with fail
  refine HD.out.mono ?_
  rintro e w1 ⟨rfl, z, hw1⟩
  obtain ⟨ws', hE⟩ := HE.out z w1 hw1
  have HE1 : Hid _ := hE
  clear hw1 hE c0 c1
  go_wp2
  go_ret
  exact ⟨_, ws', rfl, HE1.out⟩

theorem add_path {w w1 w2 : World} {Q : Nat → Prop} {v v' : Value} {f : Flows} {ws : List Value} {p : List Int} {o : Obj} (h : OwnLs w Q v f ws) (hB : Below w.heap.size w w1) (hr : RowAt w1 w.heap.size 3 (p.map (Value.int .i64))) (hp : p.length ≤ 6)
    (ho : w2.ownsRow 0 22 1 v' (f.length + 1) (ws ++ [.slice (some ⟨w.heap.size, 0, none⟩) p.length p.length])) (hg : (w1.alloc o).grownBy w2 v.ownBlock) (hat : v'.ownBlock = v.ownBlock ∨ v'.ownBlock = some (w1.heap.size + 1)) :
    OwnLs w2 (newQ Q w w2) v' (f ++ [p]) (ws ++ [.slice (some ⟨w.heap.size, 0, none⟩) p.length p.length]) ∧ ButIn (fun b => v.ownBlock = some b) w w2 ∧ (∀ b, v'.ownBlock = some b → v.ownBlock = some b ∨ w.heap.size ≤ b) := by
  have hz := hB.size
  have hlt := hr.lt
  have hwl : ws.length = f.length := by have := h.row.1; omega
  have hs2 : w1.heap.size + 1 ≤ w2.heap.size := by have := hg.size; simpa using this
  have hvo : ∀ b, v.ownBlock = some b → b < w.heap.size := fun b hb => (own_lt h.row hb).2.1
  have K1 : ∀ b, b < w1.heap.size → v.ownBlock ≠ some b → w2.heap[b]? = w1.heap[b]? := fun b hb hne => by
    rw [hg.block b (by simp; omega) (fun e => hne e.symm), Below.heap_alloc w1 o b hb]
  have K : ∀ b, b < w.heap.size → v.ownBlock ≠ some b → w2.heap[b]? = w.heap[b]? := fun b hb hne => (K1 b (by omega) hne).trans (hB.block b hb)
  have hb0 : Below 0 w w2 := ((hB.mono (Nat.zero_le _)).alloc (Nat.zero_le _) o).grown hg (Nat.zero_le _) (fun k _ => Nat.zero_le _)
  have hne' : ∀ b, v.ownBlock ≠ some b → b ≠ w1.heap.size + 1 → v'.ownBlock ≠ some b := fun b h1 h2 e => by
    rcases hat with hat | hat
    · exact h1 (hat ▸ e)
    · rw [hat] at e; simp at e; omega
  refine ⟨⟨by simpa using ho, ?_, fun b hb => ?_⟩, ⟨hb0, fun b hb hne => K b hb hne⟩, fun b hb => ?_⟩
  · refine ints_snoc hwl (fun i hi => ?_) ?_
    · have hlt' := (h.each i hi)
      refine hlt'.keep (fun b hb hl => K b hl hb.2) (fun b hb hl => ⟨.inl hb.1, hne' b hb.2 (by omega)⟩)
    · have hne : v.ownBlock ≠ some w.heap.size := fun e => by have := hvo _ e; omega
      have hr2 : RowAt w2 w.heap.size 3 (p.map (Value.int .i64)) := by unfold RowAt at hr ⊢; rw [K1 _ hlt hne]; exact hr
      have := intsRow (Q := fun b => newQ Q w w2 b ∧ v'.ownBlock ≠ some b) (sp := []) (by rw [List.append_nil]; exact hr2) (Nat.le_refl _) (by omega) ⟨.inr ⟨Nat.le_refl _, by omega⟩, hne' _ hne (by omega)⟩
      exact this
  · rcases hat with hat | hat
    · exact .inl (h.own b (hat ▸ hb))
    · have := (own_lt ho hb).2.1
      rw [hat] at hb
      simp at hb
      exact .inr ⟨by omega, this⟩
  · rcases hat with hat | hat
    · exact .inl (hat ▸ hb)
    · rw [hat] at hb
      simp at hb
      exact .inr (by omega)
set_option maxRecDepth 100000 in
set_option maxHeartbeats 2000000 in
theorem lbehind_add {Q : Nat → Prop} (v : Value) (f : Flows) (ws : List Value) (r : List Nat) (gr og cr : Nat) (w : World) (h : OwnLs w Q v f ws) (hr : ∀ k, k < r.length → w.cell? ⟨gr, og + k, none⟩ = some (.int .u8 (r.getD k 0 : Nat))) (hm : MayR f r) (hcr : r.length ≤ cr) (hcm : cr ≤ 9223372036854775807) (h0 : r.getD 0 0 ≠ 0) (hf : f.length ≤ 6) :
    Calls Tryz.prog 31 #[v, .slice (some ⟨gr, og, none⟩) r.length cr] w fun e w' => ∃ v' ws', e = .returned v' ∧ OwnLs w' (newQ Q w w') v' (recStep f r) ws' ∧ ButIn (fun b => v.ownBlock = some b) w w' ∧ (∀ b, v'.ownBlock = some b → v.ownBlock = some b ∨ w.heap.size ≤ b) := by
  have h2 := hm.1.1
  have h7 := hm.1.2.2.1
  have h1 := hm.1.2.2.2
  have c0 := hr 0 (by omega)
  rw [Nat.add_zero] at c0
  have q0 : (((r.getD 0 0 : Nat) : Int) == 0) = false := beq_eq_false_iff_ne.2 (by omega)
  obtain ⟨p, hp⟩ : ∃ p : List Int, p = (r.drop 1).map fun (x : Nat) => (x : Int) := ⟨_, rfl⟩
  have hpl : p.length = r.length - 1 := by rw [hp]; simp
  have hst : recStep f r = f ++ [p] := by unfold recStep; rw [if_neg h0, hp]
  have HC : Hid (∀ k, k < p.length → ∀ u, Below w.heap.size w u → u.cell? ⟨gr, og + 1 + k, none⟩ = some (.int .u8 (p.getD k 0))) := fun k hk u hu => by
    have e : p.getD k 0 = ((r.getD (k + 1) 0 : Nat) : Int) := by
      rw [hp]
      simp [List.getD, List.getElem?_eq_getElem (show k + 1 < r.length by omega), show 1 + k = k + 1 by omega]
    rw [e, show og + 1 + k = og + (k + 1) by omega]
    exact cell_later hu (hr (k + 1) (by omega))
  have HB : Hid (∀ k, k < p.length → 0 ≤ p.getD k 0 ∧ p.getD k 0 ≤ 255) := fun k hk => by
    have e : p.getD k 0 = ((r.getD (k + 1) 0 : Nat) : Int) := by
      rw [hp]
      simp [List.getD, List.getElem?_eq_getElem (show k + 1 < r.length by omega), show 1 + k = k + 1 by omega]
    have := h1 (r.getD (k + 1) 0) (by rw [List.getD, List.getElem?_eq_getElem (by omega)]; exact List.getElem_mem _)
    omega
  have HTk : Hid (∀ k, k < p.length → p.take (k + 1) = p.take k ++ [p.getD k 0]) := fun k hk => take_snoc p k hk 0
  obtain ⟨a, c, rfl⟩ := owns_shape h.row
  have HF : Hid (OwnLs w Q (.slice a f.length c) f ws) := h
  obtain ⟨i0, hi, hz0, hz1, hz2⟩ := info_parts infoInt
  obtain ⟨j0, hj, hy0, hy1, hy2⟩ := info_parts infoInts
  have q2 : IntKind.i64.wrap ((r.length : Int) - 1) = (p.length : Int) := by rw [IntKind.wrap_i64]; omega
  have q3 : r.length - 1 = p.length := by omega
  have q4 : ¬ cr = 1 := by omega
  have p6 : p.length ≤ 6 := by omega
  rw [hst]
  clear hr hm h0 h1 hst hp h
  generalize r.getD 0 0 = r0 at *
  obtain ⟨n, hn⟩ : ∃ n, n = r.length := ⟨_, rfl⟩
  rw [← hn] at q2 q3 hcr h2 h7 hpl ⊢
  clear hn hpl
  go_enter Tryz.func31, Tryz.ntmps31
  go_wp2_with (at_make; go_must (refine wpList_make_full _ rfl _ _ 22 rfl w.heap.size 3 i0 (.int .i64 0) 1 Tryz.underlying22 hi hz0 hz1 .i64 .i64 _ _ p.length rfl rfl rfl rfl ?b2 ?b3 ?b4 ?_))
  case b2 => rw [hz2]; omega
  case b3 => unfold maxLen; omega
  case b4 => simp
  intro w2 hown hgrow
  have hown' : w2.ownsRow w.heap.size 3 1 (.slice (some ⟨w.heap.size, 0, none⟩) p.length p.length) p.length (madeCells #[.int .i64 0] p.length).toList := by simpa using hown
  rw [madeI] at hown'
  have R2 : Hid (RowAt w2 w.heap.size 3 ((p.take 0 ++ List.replicate (p.length - 0) 0).map (Value.int .i64))) := by
    show RowAt _ _ _ _
    simpa using RowAt.of_owns hown'
  have B2 : Hid (Below w.heap.size w w2) := (Below.refl _ _).grown hgrow (Nat.le_refl _) (by intro k hk; cases hk)
  clear hown hgrow hown'
  go_wp2
  go_loopw [7, 8, 29] (fun _ _ i wr => ∃ k : Nat, k ≤ p.length ∧ i = .int .i64 k ∧ Hid (RowAt wr w.heap.size 3 ((p.take k ++ List.replicate (p.length - k) 0).map (Value.int .i64))) ∧ Hid (Below w.heap.size w wr)) (fun _ _ i _ => p.length - (intOf i).toNat)
  case atStart => exact ⟨0, by omega, rfl, R2, B2⟩
  case round =>
    obtain ⟨k, hk, rfl, hro, hbl⟩ := hrel
    by_cases hlt : k < p.length
    · have c1 := HC.out k hlt _ hbl.out
      obtain ⟨b1, b2⟩ := HB.out k hlt
      have f0 := hro.out.frozen k
      have hkl : (p.take k).length = k := by rw [List.length_take]; omega
      have z0 := hro.out.lt
      have c2 : ∃ y0, wr.cell? ⟨w.heap.size, k, none⟩ = some y0 := ⟨_, hro.out.cell (List.getElem?_eq_getElem (show k < ((p.take k ++ List.replicate (p.length - k) 0).map (Value.int .i64)).length by rw [List.length_map, List.length_append, hkl, List.length_replicate]; omega))⟩
      obtain ⟨y0, c2⟩ := c2
      have hw1 : IntKind.i64.wrap (p.getD k 0) = p.getD k 0 := by rw [IntKind.wrap_i64]; omega
      have HN : Hid (RowAt (wr.setCell ⟨w.heap.size, k, none⟩ (.int .i64 (p.getD k 0))) w.heap.size 3 ((p.take (k + 1) ++ List.replicate (p.length - (k + 1)) 0).map (Value.int .i64))) := row_set hro.out hkl hlt (HTk.out k hlt)
      have HBn : Hid (Below w.heap.size w (wr.setCell ⟨w.heap.size, k, none⟩ (.int .i64 (p.getD k 0)))) := hbl.out.setCell (Nat.le_refl _) _
      clear hkl
      generalize p.getD k 0 = y at *
      go_wp2
      go_roundw
      case rel => exact ⟨k + 1, by omega, by go_num, HN, HBn⟩
      case measure => simp [intOf]; omega
    · have HR : Hid (RowAt wr w.heap.size 3 (p.map (Value.int .i64))) := by
        have := hro.out
        rw [show k = p.length by omega, List.take_length, Nat.sub_self, List.replicate_zero, List.append_nil] at this
        exact this
      have hsz : w.heap.size < wr.heap.size := hro.out.lt
      have O2 : Hid ((wr.alloc (.cells #[.slice (some ⟨w.heap.size, 0, none⟩) p.length p.length] 22)).ownsRow 0 22 1 (.slice a f.length c) f.length ws) :=
        (own_keep (fun b hb => hbl.out.block b (own_lt HF.out.row hb).2.1) HF.out.row).alloc _
      have HNews : Hid (∀ j u, [Value.slice (some ⟨w.heap.size, 0, none⟩) p.length p.length][j]? = some u → (wr.alloc (.cells #[.slice (some ⟨w.heap.size, 0, none⟩) p.length p.length] 22)).cell? ((⟨wr.heap.size, 0, none⟩ : Addr).add j) = some u) := new1 _ _ _ _ rfl
      go_wp2_with (at_builtin; go_must (refine wpList_append_own_at _ rfl (.tmp 40) (.tmp 42) 23 rfl 0 22 j0 (.slice none 0 0) 1 24 Tryz.underlying23 hj hy0 hy1 hy2 rfl (by decide) (.slice a f.length c) f.length ws rfl O2.out ⟨wr.heap.size, 0, none⟩ 1 1 [.slice (some ⟨w.heap.size, 0, none⟩) p.length p.length] rfl rfl HNews.out (by intro u hu; simp at hu; subst hu; rfl) (by unfold maxLen; omega) (by omega) (Nat.zero_le _) ?_))
      intro v' wg hown' hgrow _ hat
      have HE : Hid _ := add_path HF.out hbl.out HR.out p6 hown' hgrow hat
      obtain ⟨av, cv, rfl⟩ := owns_shape hown'
      clear hown' hgrow hat
      go_wp2
      go_ret
      exact ⟨_, _, rfl, HE.out⟩
/-- the flows as a record leaves them -/
theorem lbehind_any {Q : Nat → Prop} (v : Value) (f : Flows) (ws : List Value) (r : List Nat) (gr og cr : Nat) (w : World) (h : OwnLs w Q v f ws) (hr : ∀ k, k < r.length → w.cell? ⟨gr, og + k, none⟩ = some (.int .u8 (r.getD k 0 : Nat))) (hm : MayR f r) (hcr : r.length ≤ cr) (hcm : cr ≤ 9223372036854775807) (hf : f.length ≤ 6) :
    Calls Tryz.prog 31 #[v, .slice (some ⟨gr, og, none⟩) r.length cr] w fun e w' => ∃ v' ws', e = .returned v' ∧ OwnLs w' (newQ Q w w') v' (recStep f r) ws' ∧ ButIn (fun b => v.ownBlock = some b) w w' ∧ (∀ b, v'.ownBlock = some b → v.ownBlock = some b ∨ w.heap.size ≤ b) := by
  by_cases h0 : r.getD 0 0 = 0
  · exact lbehind_drop v f ws r gr og cr w h hr hm hcr h0 hf
  · exact lbehind_add v f ws r gr og cr w h hr hm hcr hcm h0 hf
end Ev
end Go.Proofs.YtpnmmmlckdkcdakGreatDoor

/- Package log's write: a record whole, or half of it. -/
namespace Go.Proofs.YtpnmmmlckdkcdakGreatDoor
namespace Ev
open Go.RowKit Fr Ns Fl
set_option linter.unusedSimpArgs false
set_option linter.unusedVariables false

/-- an append to a row of the thing's own, as a step of a region that draws its order; and where the new row lies -/
theorem step_append_at {P : Program} {ops : Array Oper} {o : Oper} {a : Act} {w : World} {K : Act → World → Prop} {Q : Exit → Act → World → Prop} {E : Prop} (hgd : o.guard = none) (s x : Operand) (t : TypeId)
    (ho : o.op = .call { callee := .builtin .append, args := #[s, x], argTypes := #[t, t] })
    (base : Nat) (e : TypeId) (i : TypeInfo) (z : Value) (size bytes : Nat) (ht : P.underlying t = some (.slice e)) (hi : P.info? e = some i) (hz : i.zero = some z)
    (hsize : i.size = size) (hby : i.bytes = bytes) (hzs : z.cells.size = size) (hsz : 0 < size)
    (v : Value) (n : Nat) (xs : List Value) (hs : a.eval s = v) (hown : w.ownsRow base e size v n xs)
    (ad : Addr) (m c : Nat) (news : List Value) (hx : a.eval x = .slice (some ad) m c) (hl : news.length = m * size) (hnews : ∀ j u, news[j]? = some u → w.cell? (ad.add j) = some u) (h1 : ∀ u ∈ news, u.oneCell' = true)
    (h63 : n + m ≤ maxLen) (hbytes : (n + m) * bytes ≤ 140737488355328) (hbase : base ≤ w.heap.size)
    (h : ∀ a' c' w', w'.ownsRow base e size (.slice a' (n + m) c') (n + m) (xs ++ news) → w.grownBy w' v.ownBlock → (Value.ownBlock (.slice a' (n + m) c') = v.ownBlock ∨ Value.ownBlock (.slice a' (n + m) c') = some w.heap.size) → K (a.put o.dst (.slice a' (n + m) c')) w') :
    if Region.wanted o (yielded ops a.tmps) = true then Oper.wp P o a w K Q else E := by
  have hw : Region.wanted o (yielded ops a.tmps) = true := by simp [Region.wanted, hgd]
  rw [if_pos hw]
  obtain ⟨v', w', hrun, h2, h3, _, h4⟩ := run_append_own_at (P := P) w base t o.type e i z size bytes ht hi hz hsize hby hzs hsz v n xs hown ad m c news hl hnews h1 h63 hbytes hbase
  obtain ⟨a', c', rfl⟩ := owns_shape h2
  unfold Oper.wp
  simp [execOp, ho, resolve, invoke, builtin, hs, hx, hrun, Result.andThen]
  exact h a' c' w' h2 h3 h4

theorem butIn_seq {F : Nat → Prop} {w w1 w2 : World} (h : ButIn F w w1) (h2 : Below 0 w1 w2) (hk : ∀ b, b < w.heap.size → ¬ F b → w2.heap[b]? = w1.heap[b]?) : ButIn F w w2 :=
  ⟨h.1.trans h2, fun b hb hF => (hk b hb hF).trans (h.2 b hb hF)⟩
/-- what there is behind an append to the bytes and the store of it -/
theorem lw_bytes {w w1 : World} {g : Nat} {F : Nat → Prop} {cv bv fv : Value} {caps : List Int} {sf : Nat} {lf : Int} {st : Bool} {B C : List Nat} {f : Flows} {ws : List Value} {a' : Option Addr} {c' n : Nat} (h : LgMem w g F cv bv fv caps sf lf st B f ws)
    (ho : w1.ownsRow 0 5 1 (.slice a' n c') n (u8s B ++ u8s C)) (hg : w.grownBy w1 bv.ownBlock) (hat : Value.ownBlock (.slice a' n c') = bv.ownBlock ∨ Value.ownBlock (.slice a' n c') = some w.heap.size) :
    RowAt w1 g 64 [cv, bv, .int .i64 sf, fv, .int .i64 lf, .bool st] ∧
    LgMem (w1.setCell ⟨g, 1, none⟩ (.slice a' n c')) g (Fn F w (w1.setCell ⟨g, 1, none⟩ (.slice a' n c'))) cv (.slice a' n c') fv caps sf lf st (B ++ C) f ws ∧ ButIn F w (w1.setCell ⟨g, 1, none⟩ (.slice a' n c')) := by
  obtain ⟨n1, n2, n3⟩ := h.apart
  have gl := h.cells.lt
  have K : ∀ b, b < w.heap.size → bv.ownBlock ≠ some b → w1.heap[b]? = w.heap[b]? := fun b hb hne => hg.block b hb (fun e => hne e.symm)
  have hz : w.heap.size ≤ w1.heap.size := hg.size
  have hR : RowAt w1 g 64 [cv, bv, .int .i64 sf, fv, .int .i64 lf, .bool st] := by have := h.cells; unfold RowAt at this ⊢; rw [K g gl n1]; exact this
  have hzs : (w1.setCell ⟨g, 1, none⟩ (.slice a' n c')).heap.size = w1.heap.size := by simp
  have hb0 : Below 0 w (w1.setCell ⟨g, 1, none⟩ (.slice a' n c')) := ((Below.refl 0 w).grown hg (Nat.zero_le _) (fun k _ => Nat.zero_le _)).setCell (Nat.zero_le _) _
  have hn : n = (B ++ C).length := by have := ho.1; rw [← u8s_append, u8s_length] at this; omega
  have hog : Value.ownBlock (.slice a' n c') ≠ some g := fun e => by
    rcases hat with hat | hat
    · exact n1 (hat ▸ e)
    · rw [hat] at e; simp at e; omega
  refine ⟨hR, h.newB (hR.set 1 _) (fun b hb hbg hbb => (stay_set _ _ _ _ _ hbg).trans (K b hb hbb)) (by rw [hzs]; exact hz) ?_ (fun b hb => ?_), hb0, fun b hb hF => ?_⟩
  · rw [← u8s_append, hn] at ho
    rw [hn]
    exact own_keep (fun b hb => stay_set _ _ _ _ _ (fun e => hog (by rw [← e, hn]; exact hb))) ho
  · rcases hat with hat | hat
    · exact .inl (hat ▸ hb)
    · rw [hat] at hb; simp at hb; exact .inr (by omega)
  · exact (stay_set w1 g 1 b _ (fun e => hF (by rw [e]; exact h.own))).trans (K b hb (fun e => hF (h.fb b e)))
/-- the flows behind it -/
theorem lw_flows {w w1 : World} {g : Nat} {F : Nat → Prop} {cv bv fv fv' : Value} {caps : List Int} {sf : Nat} {lf : Int} {st : Bool} {B : List Nat} {f f' : Flows} {ws ws' : List Value} (h : LgMem w g F cv bv fv caps sf lf st B f ws)
    (ho : OwnLs w1 (newQ (Qo F g bv) w w1) fv' f' ws') (hb : ButIn (fun b => fv.ownBlock = some b) w w1) (hat : ∀ b, fv'.ownBlock = some b → fv.ownBlock = some b ∨ w.heap.size ≤ b) :
    RowAt w1 g 64 [cv, bv, .int .i64 sf, fv, .int .i64 lf, .bool st] ∧
    LgMem (w1.setCell ⟨g, 3, none⟩ fv') g (Fn F w (w1.setCell ⟨g, 3, none⟩ fv')) cv bv fv' caps sf lf st B f' ws' ∧ ButIn F w (w1.setCell ⟨g, 3, none⟩ fv') := by
  obtain ⟨n1, n2, n3⟩ := h.apart
  have gl := h.cells.lt
  have K : ∀ b, b < w.heap.size → fv.ownBlock ≠ some b → w1.heap[b]? = w.heap[b]? := fun b hb' hne => hb.2 b hb' hne
  have hz : w.heap.size ≤ w1.heap.size := hb.1.size
  have hR : RowAt w1 g 64 [cv, bv, .int .i64 sf, fv, .int .i64 lf, .bool st] := by have := h.cells; unfold RowAt at this ⊢; rw [K g gl n2]; exact this
  have hzs : (w1.setCell ⟨g, 3, none⟩ fv').heap.size = w1.heap.size := by simp
  have hb0 : Below 0 w (w1.setCell ⟨g, 3, none⟩ fv') := hb.1.setCell (Nat.zero_le _) _
  refine ⟨hR, h.newF (hR.set 3 _) (fun b hb' hbg hbf => (stay_set _ _ _ _ _ hbg).trans (K b hb' hbf)) (by rw [hzs]; exact hz) ?_ (fun b hb => hb) ?_ hat, hb0, fun b hb' hF => ?_⟩
  · refine own_keep (fun b hb' => ?_) h.bytes
    have hl := (own_lt h.bytes hb').2.1
    exact (stay_set w1 g 3 b _ (fun e => n1 (by rw [← e]; exact hb'))).trans (K b hl (n3 b hb'))
  · refine ho.keep (fun b hb' hl => stay_set _ _ _ _ _ (fun e => ?_)) (fun b hb' hl => ?_)
    · rcases hb' with hb' | hb'
      · exact hb'.2.1 e
      · omega
    · rcases hb' with hb' | hb'
      · exact .inl hb'
      · exact .inr ⟨hb'.1, by rw [hzs]; exact hb'.2⟩
  · exact (stay_set w1 g 3 b _ (fun e => hF (by rw [e]; exact h.own))).trans (K b hb' (fun e => hF (h.flows.own b e).1))

set_option maxRecDepth 100000 in
set_option maxHeartbeats 2000000 in
theorem lwrite_any {w : World} {g : Nat} {F : Nat → Prop} {cv bv fv : Value} {s : LogS} {B : List Nat} {ws : List Value} (h : LgAt w g F cv bv fv s B ws) (hf : FewL s) (hs : s.stopped = false) (r : List Nat) (gr og cr : Nat)
    (hr : ∀ k, k < r.length → w.cell? ⟨gr, og + k, none⟩ = some (.int .u8 (r.getD k 0 : Nat))) (hcr : r.length ≤ cr) (hcm : cr ≤ 9223372036854775807) (hm : MayR s.flows r) (hgr : ¬ F gr) :
    Calls Tryz.prog 27 #[.pointer (some ⟨g, 0, none⟩), .slice (some ⟨gr, og, none⟩) r.length cr] w fun e w' => e = .returned (errV (if s.left = 0 then 6 else 0)) ∧ MovedL logX (.pointer (some ⟨g, 0, none⟩)) F (putS s r.length (recStep s.flows r)) w w' := by
  obtain ⟨-, ⟨a, c, rfl⟩, ⟨af, cf, rfl⟩⟩ := h.mem.shape
  have h2 := hm.1.1
  have h7 := hm.1.2.2.1
  have hlen := h.len
  have hB : B.length ≤ 1000000 := by have := hf.1.bytes_le; have := hf.2; omega
  have f6 := hf.1.flows_right.1
  obtain ⟨rs, half, hbr, hz⟩ := h.recs
  obtain rfl : half = [] := hz hs
  have hmem := h.mem
  rw [hs] at hmem
  have HSt : Hid (Calls Tryz.prog 29 #[.pointer (some ⟨g, 0, none⟩)] w fun e w' => e = .returned (.bool (decide (s.left = 0))) ∧ RowAt w' g 64 [cv, .slice a B.length c, .int .i64 s.safe, .slice af s.flows.length cf, .int .i64 (nextL s.left), .bool (decide (s.left = 0))] ∧ Only g w w') := lstops_any g cv _ _ _ s.left false w hmem.cells h.far
  obtain ⟨i0, hi, hz0, hz1, hz2⟩ := info_parts infoByte
  have hgl : gr < w.heap.size := World.block_lt_of_cell? _ _ (hr 0 (by omega))
  have hgg : gr ≠ g := fun e => hgr (e ▸ h.mem.own)
  by_cases hl : s.left = 0
  · obtain ⟨m, hmm⟩ : ∃ m, m = r.length / 2 := ⟨_, rfl⟩
    have q1 : (r.length : Int).tdiv 2 = (m : Int) := by rw [Int.tdiv_eq_ediv_of_nonneg (by omega)]; omega
    have m1 : m ≤ cr := by omega
    have q2 : IntKind.i64.wrap (m : Int) = m := by rw [IntKind.wrap_i64]; omega
    have m2 : m ≤ 3 := by omega
    have M : Hid (∀ w1, RowAt w1 g 64 [cv, .slice a B.length c, .int .i64 s.safe, .slice af s.flows.length cf, .int .i64 (nextL s.left), .bool true] → Only g w w1 →
        LgMem w1 g F cv (.slice a B.length c) (.slice af s.flows.length cf) s.caps s.safe s.left true B s.flows ws ∧ w1.ownsRow 0 5 1 (.slice a B.length c) B.length (u8s B) ∧
        (∀ j u, (u8s (r.take m))[j]? = some u → w1.cell? ((⟨gr, og, none⟩ : Addr).add j) = some u)) := fun w1 hr1 ho => by
      have e3 : nextL s.left = s.left := if_neg (by omega)
      rw [e3] at hr1
      have hm1 := hmem.put hr1 ho.2
      refine ⟨hm1, hm1.bytes, fun j u hj => ?_⟩
      have hjl : j < m := by have := (List.getElem?_eq_some_iff.1 hj).1; rw [u8s_length, List.length_take] at this; omega
      rw [u8s_at (by rw [List.length_take]; omega), getD_take _ _ _ _ hjl] at hj
      rw [add_addr, World.cell?_of_block (w := w) (a := ⟨gr, og + j, none⟩) (ho.2 gr hgg), hr j (by omega)]
      exact hj
    have HEnd : Hid (∀ w1 w2 a' c', Only g w w1 → LgMem w1 g F cv (.slice a B.length c) (.slice af s.flows.length cf) s.caps s.safe s.left true B s.flows ws → w2.ownsRow 0 5 1 (.slice a' (B.length + m) c') (B.length + m) (u8s B ++ u8s (r.take m)) → w1.grownBy w2 (Value.ownBlock (.slice a B.length c)) →
        (Value.ownBlock (.slice a' (B.length + m) c') = Value.ownBlock (.slice a B.length c) ∨ Value.ownBlock (.slice a' (B.length + m) c') = some w1.heap.size) →
        RowAt w2 g 64 [cv, .slice a B.length c, .int .i64 s.safe, .slice af s.flows.length cf, .int .i64 s.left, .bool true] ∧ MovedL logX (.pointer (some ⟨g, 0, none⟩)) F (putS s r.length (recStep s.flows r)) w (w2.setCell ⟨g, 1, none⟩ (.slice a' (B.length + m) c'))) := fun w1 w2 a' c' ho1 hm1 ho hg hat => by
      obtain ⟨k1, k2, k3⟩ := lw_bytes hm1 ho hg hat
      refine ⟨k1, ?_⟩
      have hput : putS s r.length (recStep s.flows r) = { s with bytes := s.bytes + r.length / 2, stopped := true } := by unfold putS; rw [if_pos hl]
      have hhalf := hbr.half hm.1 (recStep s.flows r) hl
      rw [hput] at hhalf ⊢
      refine ⟨_, ⟨g, _, _, _, _, _, rfl, ⟨k2, ?_, ⟨rs, r.take (r.length / 2), by rw [hmm]; exact hhalf, fun e => by simp at e⟩, h.far⟩⟩, fun b hb => ?_, butIn_seq ⟨ho1.1, fun b _ hF => ho1.2 b (fun e => hF (e ▸ hmem.own))⟩ k3.1 (fun b hb hF => k3.2 b (by have := ho1.1.size; omega) hF)⟩
      · show s.bytes + r.length / 2 = (B ++ r.take m).length
        rw [List.length_append, List.length_take]; omega
      · rcases hb with hb | hb
        · exact .inl hb
        · exact .inr (by have := ho1.1.size; omega)
    have OU : Hid (∀ u ∈ u8s (r.take m), u.oneCell' = true) := ones_u8 _
    have LU : Hid ((u8s (r.take m)).length = m * 1) := by show _ = _; rw [u8s_length, List.length_take]; omega
    rw [if_pos hl, errV_ne (by decide)]
    rw [decide_eq_true hl] at HSt
    clear h hf hs hr hm hlen hbr hz hmem hgr hl hmm h2 h7
    generalize u8s (r.take m) = us at *
    generalize u8s B = bs at *
    generalize B.length = nb at *
    generalize r.length = nr at *
    generalize s.flows.length = nf at *
    generalize s.safe = sf at *
    generalize s.left = lf at *
    go_enter Tryz.func27, Tryz.ntmps27
    go_wp2_with fail
    refine HSt.out.mono ?_
    rintro e w1 ⟨rfl, hr1, ho1⟩
    obtain ⟨k1, k2, k3⟩ := M.out w1 hr1 ho1
    have d0 := hr1.cell (i := 1) rfl
    have f0 := hr1.frozen
    have gl := hr1.lt
    have HO1 : Hid (Only g w w1) := ho1
    have HO1d : Hid (Only g w w1.drew) := ⟨ho1.1.drew, ho1.2⟩
    have HM1d : Hid (LgMem w1.drew g F cv (.slice a nb c) (.slice af nf cf) s.caps sf lf true B s.flows ws) := k1.keep (fun _ _ => rfl)
    have HM1 : Hid _ := k1
    have K2 : Hid _ := k2
    have K3 : Hid _ := k3
    clear hr1 ho1 k1 k2 k3 M
    go_wp2_with fail
    go_region_law (refine step_append_at rfl (.tmp 11) (.tmp 16) 62 rfl 0 5 i0 (.int .u8 0) 1 1 Tryz.underlying62 hi hz0 hz1 hz2 rfl (by decide) (.slice a nb c) nb bs (by simp [Act.eval, Act.put]) K2.out ⟨gr, og, none⟩ m cr us (by simp [Act.eval, Act.put]) LU.out K3.out OU.out (by unfold maxLen; omega) (by omega) (Nat.zero_le _) ?_; intro a' c' w2 hown hgrow hat; obtain ⟨e1, e2⟩ := HEnd.out w1.drew w2 a' c' HO1d.out HM1d.out hown hgrow hat; have D1 := e1.cell (i := 1) rfl; have F1 := e1.frozen; have G1 := e1.lt; have E2 : Hid _ := e2; clear e1 e2 hown hgrow hat)
    all_goals
      go_wp2
      go_ret
      exact ⟨rfl, E2.out⟩
  · have M : Hid (∀ w1, RowAt w1 g 64 [cv, .slice a B.length c, .int .i64 s.safe, .slice af s.flows.length cf, .int .i64 (nextL s.left), .bool false] → Only g w w1 →
        LgMem w1 g F cv (.slice a B.length c) (.slice af s.flows.length cf) s.caps s.safe (nextL s.left) false B s.flows ws ∧ w1.ownsRow 0 5 1 (.slice a B.length c) B.length (u8s B) ∧
        (∀ j u, (u8s r)[j]? = some u → w1.cell? ((⟨gr, og, none⟩ : Addr).add j) = some u)) := fun w1 hr1 ho => by
      have hm1 := hmem.put hr1 ho.2
      refine ⟨hm1, hm1.bytes, fun j u hj => ?_⟩
      have hjl : j < r.length := by have := (List.getElem?_eq_some_iff.1 hj).1; rwa [u8s_length] at this
      rw [u8s_at hjl] at hj
      rw [add_addr, World.cell?_of_block (w := w) (a := ⟨gr, og + j, none⟩) (ho.2 gr hgg), hr j hjl]
      exact hj
    have HEnd : Hid (∀ w1 w2 a' c', Only g w w1 → LgMem w1 g F cv (.slice a B.length c) (.slice af s.flows.length cf) s.caps s.safe (nextL s.left) false B s.flows ws → w2.ownsRow 0 5 1 (.slice a' (B.length + r.length) c') (B.length + r.length) (u8s B ++ u8s r) → w1.grownBy w2 (Value.ownBlock (.slice a B.length c)) →
        (Value.ownBlock (.slice a' (B.length + r.length) c') = Value.ownBlock (.slice a B.length c) ∨ Value.ownBlock (.slice a' (B.length + r.length) c') = some w1.heap.size) →
        RowAt w2 g 64 [cv, .slice a B.length c, .int .i64 s.safe, .slice af s.flows.length cf, .int .i64 (nextL s.left), .bool false] ∧ LgMem (w2.setCell ⟨g, 1, none⟩ (.slice a' (B.length + r.length) c')) g (Fn F w1 (w2.setCell ⟨g, 1, none⟩ (.slice a' (B.length + r.length) c'))) cv (.slice a' (B.length + r.length) c') (.slice af s.flows.length cf) s.caps s.safe (nextL s.left) false (B ++ r) s.flows ws ∧
        ButIn F w (w2.setCell ⟨g, 1, none⟩ (.slice a' (B.length + r.length) c')) ∧
        Hid (Calls Tryz.prog 31 #[.slice af s.flows.length cf, .slice (some ⟨gr, og, none⟩) r.length cr] (w2.setCell ⟨g, 1, none⟩ (.slice a' (B.length + r.length) c')) fun e w' => ∃ v' ws', e = .returned v' ∧ OwnLs w' (newQ (Qo (Fn F w1 (w2.setCell ⟨g, 1, none⟩ (.slice a' (B.length + r.length) c'))) g (.slice a' (B.length + r.length) c')) (w2.setCell ⟨g, 1, none⟩ (.slice a' (B.length + r.length) c')) w') v' (recStep s.flows r) ws' ∧
          ButIn (fun b => Value.ownBlock (.slice af s.flows.length cf) = some b) (w2.setCell ⟨g, 1, none⟩ (.slice a' (B.length + r.length) c')) w' ∧ (∀ b, v'.ownBlock = some b → Value.ownBlock (.slice af s.flows.length cf) = some b ∨ (w2.setCell ⟨g, 1, none⟩ (.slice a' (B.length + r.length) c')).heap.size ≤ b))) := fun w1 w2 a' c' ho1 hm1 ho hg hat => by
      obtain ⟨k1, k2, k3⟩ := lw_bytes hm1 ho hg hat
      have hbt : ButIn F w (w2.setCell ⟨g, 1, none⟩ (.slice a' (B.length + r.length) c')) := butIn_seq ⟨ho1.1, fun b _ hF => ho1.2 b (fun e => hF (e ▸ hmem.own))⟩ k3.1 (fun b hb hF => k3.2 b (by have := ho1.1.size; omega) hF)
      refine ⟨k1, k2, hbt, lbehind_any _ _ ws r gr og cr _ k2.flows (fun k hk => ?_) hm hcr hcm f6⟩
      rw [World.cell?_of_block (w := w) (a := ⟨gr, og + k, none⟩) (hbt.2 gr hgl hgr)]
      exact hr k hk
    have HFin : Hid (∀ (W1 w3 : World) (bv' v' : Value) (F1 : Nat → Prop) (ws' : List Value), LgMem W1 g F1 cv bv' (.slice af s.flows.length cf) s.caps s.safe (nextL s.left) false (B ++ r) s.flows ws → ButIn F w W1 → (∀ b, F1 b → F b ∨ w.heap.size ≤ b) → OwnLs w3 (newQ (Qo F1 g bv') W1 w3) v' (recStep s.flows r) ws' → ButIn (fun b => Value.ownBlock (.slice af s.flows.length cf) = some b) W1 w3 → (∀ b, v'.ownBlock = some b → Value.ownBlock (.slice af s.flows.length cf) = some b ∨ W1.heap.size ≤ b) →
        RowAt w3 g 64 [cv, bv', .int .i64 s.safe, .slice af s.flows.length cf, .int .i64 (nextL s.left), .bool false] ∧ MovedL logX (.pointer (some ⟨g, 0, none⟩)) F (putS s r.length (recStep s.flows r)) w (w3.setCell ⟨g, 3, none⟩ v')) := fun W1 w3 bv' v' F1 ws' hM hbt hF1 ho hb hat => by
      obtain ⟨k1, k2, k3⟩ := lw_flows hM ho hb hat
      refine ⟨k1, ?_⟩
      have hnew := hbr.put hm hlen hl
      have hput : putS s r.length (recStep s.flows r) = { s with done := s.done ++ [recStep s.flows r], marks := s.marks ++ [s.bytes + r.length], bytes := s.bytes + r.length, left := if 0 < s.left then s.left - 1 else s.left } := by unfold putS; rw [if_neg hl]
      have hfl : (putS s r.length (recStep s.flows r)).flows = recStep s.flows r := by rw [hput]; exact flowsL_snoc _ _
      have hst : (putS s r.length (recStep s.flows r)).stopped = false := by rw [hput]; exact hs
      have hle : (putS s r.length (recStep s.flows r)).left = nextL s.left := by rw [hput]; rfl
      have hzw := hbt.1.size
      refine ⟨Fn F1 W1 (w3.setCell ⟨g, 3, none⟩ v'), ⟨g, cv, bv', v', B ++ r, ws', rfl, ⟨?_, ?_, ⟨_, [], hnew, fun _ => rfl⟩, ?_⟩⟩, fun b hb => ?_, butIn_seq hbt k3.1 (fun b hb hF => k3.2 b (by omega) (fun h => ?_))⟩
      · rw [hfl, hst, hle]
        have e1 : (putS s r.length (recStep s.flows r)).caps = s.caps := by rw [hput]
        have e2 : (putS s r.length (recStep s.flows r)).safe = s.safe := by rw [hput]
        rw [e1, e2]
        exact k2
      · rw [hput]
        show s.bytes + r.length = _
        rw [List.length_append, hlen]
      · rw [hle]
        have := h.far
        unfold nextL
        split <;> omega
      · rcases hb with hb | hb
        · exact hF1 b hb
        · exact .inr (by omega)
      · rcases hF1 b h with h | h
        · exact hF h
        · omega
    have OU : Hid (∀ u ∈ u8s r, u.oneCell' = true) := ones_u8 _
    have LU : Hid ((u8s r).length = r.length * 1) := by show _ = _; rw [u8s_length]; omega
    rw [if_neg hl, errV_0]
    rw [decide_eq_false hl] at HSt
    clear h hf hs hr hm hlen hbr hz hmem hgr hl h2
    generalize u8s r = us at *
    generalize u8s B = bs at *
    generalize B.length = nb at *
    generalize r.length = nr at *
    generalize s.flows.length = nf at *
    generalize s.safe = sf at *
    generalize nextL s.left = lf at *
    go_enter Tryz.func27, Tryz.ntmps27
    go_wp2_with fail
    refine HSt.out.mono ?_
    rintro e w1 ⟨rfl, hr1, ho1⟩
    obtain ⟨k1, k2, k3⟩ := M.out w1 hr1 ho1
    have d0 := hr1.cell (i := 1) rfl
    have f0 := hr1.frozen
    have gl := hr1.lt
    have HO1 : Hid (Only g w w1) := ho1
    have HM1 : Hid _ := k1
    have K2 : Hid _ := k2
    have K3 : Hid _ := k3
    clear hr1 ho1 k1 k2 k3 M
    go_wp2_with (at_builtin; go_must (refine wpList_append_own_at _ rfl (.tmp 25) (.tmp 26) 62 rfl 0 5 i0 (.int .u8 0) 1 1 Tryz.underlying62 hi hz0 hz1 hz2 rfl (by decide) (.slice a nb c) nb bs rfl K2.out ⟨gr, og, none⟩ nr cr us rfl LU.out K3.out OU.out (by unfold maxLen; omega) (by omega) (Nat.zero_le _) ?_))
    intro v1 w2 hown hgrow _ hat
    obtain ⟨a', c', rfl⟩ := owns_shape hown
    obtain ⟨e1, e2, e3, E4⟩ := HEnd.out w1 w2 a' c' HO1.out HM1.out hown hgrow hat
    have D1 := e1.cell (i := 1) rfl
    have F1 := e1.frozen
    have G1 := e1.lt
    have E2 : Hid _ := e2
    have E3 : Hid _ := e3
    have X3 := e2.cells.cell (i := 3) rfl
    have HO1z : Hid (w.heap.size ≤ w1.heap.size) := HO1.out.1.size
    clear e1 e2 e3 hown hgrow hat d0 f0 gl
    go_wp2_with fail
    refine E4.out.mono ?_
    rintro e w3 ⟨v', ws', rfl, ho3, hb3, hat3⟩
    obtain ⟨g1, g2⟩ := HFin.out _ w3 _ v' _ ws' E2.out E3.out (fun b hb => hb.elim .inl (fun h => .inr (by have := HO1z.out; omega))) ho3 hb3 hat3
    have Y3 := g1.cell (i := 3) rfl
    have YF := g1.frozen
    have YL := g1.lt
    have G2 : Hid _ := g2
    obtain ⟨va, vc, rfl⟩ := owns_shape ho3.row
    clear g1 g2 ho3 hb3 hat3 X3 D1 F1 G1
    go_wp2
    go_ret
    exact ⟨rfl, G2.out⟩
end Ev
end Go.Proofs.YtpnmmmlckdkcdakGreatDoor

/- Package log's Add and Drop do what is asked of them. -/
namespace Go.Proofs.YtpnmmmlckdkcdakGreatDoor
namespace Ev
open Go.RowKit Fr Ns Fl
set_option linter.unusedSimpArgs false
set_option linter.unusedVariables false

theorem moved_later {p : Value} {F : Nat → Prop} {s : LogS} {w w1 w2 : World} (hb : Below w.heap.size w w1) (h : MovedL logX p F s w1 w2) : MovedL logX p F s w w2 := by
  obtain ⟨F', h1, h2, h3⟩ := h
  have hz := hb.size
  refine ⟨F', h1, fun b hb' => ?_, (hb.mono (Nat.zero_le _)).trans h3.1, fun b hb' hF => (h3.2 b (by omega) hF).trans (hb.block b hb')⟩
  rcases h2 b hb' with h | h
  · exact .inl h
  · exact .inr (by omega)
theorem path_right {L : Nat} {p : List Int} (h : pathE L p = 0) : 1 ≤ p.length ∧ p.length ≤ L ∧ ∀ x ∈ p, 0 ≤ x ∧ x < L := by
  have hl := pathE_len h
  unfold pathE at h
  split at h
  · omega
  · have := pathFrom_nodup L p [] h (by simp) (by simp)
    exact ⟨by omega, hl, by simpa using this.2⟩
theorem rec_cells {w : World} {base gr n c : Nat} {r : List Nat} (h : w.ownsRow base 5 1 (.slice (some ⟨gr, 0, none⟩) n c) n (u8s r)) : ∀ k, k < r.length → w.cell? ⟨gr, 0 + k, none⟩ = some (.int .u8 (r.getD k 0 : Nat)) := by
  intro k hk
  rcases own_cellL h with ⟨_, _, e⟩ | ⟨g, e, _, _, _, hc⟩
  · cases e
  · simp at e
    subst e
    rw [Nat.zero_add]
    exact hc k _ (u8s_at hk)
/-- how an Add or a Drop ends -/
def LgOut (g : Nat) (F : Nat → Prop) (k : Int) (S : Nat → LogS) (w : World) (e : Ending) (w' : World) : Prop := ∃ n, e = .returned (errV k) ∧ 2 ≤ n ∧ n ≤ 1000 ∧ MovedL logX (.pointer (some ⟨g, 0, none⟩)) F (S n) w w'
set_option maxRecDepth 100000 in
set_option maxHeartbeats 2000000 in
theorem ladd_said : LAddSaid logX := by
  rintro Q p F s path v w ⟨g, cv, bv, fv, B, ws, rfl, h⟩ hf hv hQ
  show Calls _ _ _ _ (LgOut g F (addLE s path) (addLS s path) w)
  obtain ⟨⟨ac, cc, rfl, _⟩, -, ⟨af, cf, rfl⟩⟩ := h.mem.shape
  obtain ⟨c0, -, -, c3, -, c5, f0, gl⟩ := h.mem.six
  obtain ⟨va, vc, hvv, hvm, _⟩ := id hv
  have hcp := hf.1.caps
  obtain ⟨h1, h6⟩ := links_len hcp
  have N : Hid (∀ k u, addF s path = k → k ≠ 0 → Below w.heap.size w u → LgOut g F (addLE s path) (addLS s path) w (.returned (.iface 65 (.int .i64 k))) u) := fun k u hk h0 hu => by
    have e1 : addLE s path = k := by unfold addLE lastE; rw [hk, if_neg h0]
    have e2 : addLS s path 2 = s := by unfold addLS; rw [hk, if_neg h0]
    exact ⟨2, by rw [e1, errV_ne h0], by omega, by omega, by rw [e2]; exact moved_none h hu⟩
  by_cases hs : s.stopped = true
  · have N1 : Hid _ := N.out 6 w (by unfold addF; rw [if_pos hs]) (by decide) (Below.refl _ _)
    rw [hs] at c5
    clear h hf hv hcp hs
    subst hvv
    go_enter Tryz.func10, Tryz.ntmps10
    go_wp2
    go_ret
    exact N1.out
  · have hs' : s.stopped = false := by simpa using hs
    rw [hs'] at c5
    by_cases h66 : s.flows.length = 6
    · have N1 : Hid _ := N.out 4 w (by unfold addF; rw [if_neg hs, if_pos h66]) (by decide) (Below.refl _ _)
      have q : ((s.flows.length : Int) == 6) = true := by simp [h66]
      clear h hf hv hcp hs hs' h66
      subst hvv
      generalize s.flows.length = nf at *
      go_enter Tryz.func10, Tryz.ntmps10
      go_wp2
      go_ret
      exact N1.out
    · have q : ((s.flows.length : Int) == 6) = false := beq_eq_false_iff_ne.2 (by omega)
      have HCk : Hid (Calls Tryz.prog 18 #[.agg #[.slice ac s.caps.length cc, .slice (some ⟨w.heap.size, 0, none⟩) 1 1]] (w.alloc (.cells #[v] 22)) fun e w' => e = .returned (errV (pathE s.caps.length path)) ∧ Below (w.alloc (.cells #[v] 22)).heap.size (w.alloc (.cells #[v] 22)) w') := by
        rw [← netE_one hcp]
        exact check_said (fun _ => True) s.caps [path] _ _ ⟨_, _, rfl, (h.mem.caps.later ((Below.refl _ _).alloc (Nat.le_refl _) _)).keep (fun _ _ _ => rfl) (fun _ _ _ => trivial), one_list hv⟩
      have hF : addF s path = pathE s.caps.length path := by unfold addF; rw [if_neg hs, if_neg h66]
      by_cases hp : pathE s.caps.length path = 0
      · obtain ⟨p1, p2, p3⟩ := path_right hp
        have hrec : RecR (recAdd path) := recR_add h6 hp p1 (by omega) p3
        have hmay : MayR s.flows (recAdd path) := ⟨hrec, fun e => by rw [show (recAdd path).getD 0 0 = path.length from rfl] at e; omega, fun _ => by have := hf.1.flows_right.1; omega⟩
        have HRec : Hid (∀ u, Below w.heap.size w u → Calls Tryz.prog 28 #[v] u fun e w' => ∃ y, e = .returned y ∧ w'.ownsRow u.heap.size 5 1 y (path.length + 1) (u8s (recAdd path)) ∧ Below u.heap.size u w') := fun u hu => laddRecord_any path v u (hv.later hu) (by omega) (fun x hx => by have := p3 x hx; omega)
        have HWr : Hid (∀ u gr cr, Below w.heap.size w u → w.heap.size ≤ gr → u.ownsRow w.heap.size 5 1 (.slice (some ⟨gr, 0, none⟩) (path.length + 1) cr) (path.length + 1) (u8s (recAdd path)) →
            Calls Tryz.prog 27 #[.pointer (some ⟨g, 0, none⟩), .slice (some ⟨gr, 0, none⟩) (path.length + 1) cr] u fun e w' => ∃ n, e = .returned (errV (addLE s path)) ∧ 2 ≤ n ∧ n ≤ 1000 ∧ MovedL logX (.pointer (some ⟨g, 0, none⟩)) F (addLS s path n) w w') := fun u gr cr hu hgr ho => by
          have hlen : (recAdd path).length = path.length + 1 := by simp [recAdd]
          have hb : path.length + 1 ≤ cr ∧ cr ≤ maxLen := by
            rcases own_cellL ho with ⟨e, _⟩ | ⟨_, _, e1, e2, _⟩
            · omega
            · exact ⟨e1, e2⟩
          have := lwrite_any (h.keep (fun b hb => hu.block b (h.mem.lt b hb))) hf hs' (recAdd path) gr 0 cr (rec_cells ho) (by omega) (by have := hb.2; unfold maxLen at this; omega) hmay (fun e => by have := h.mem.lt _ e; omega)
          rw [hlen] at this
          refine this.mono ?_
          rintro e w' ⟨rfl, hM⟩
          refine ⟨path.length + 1, ?_, by omega, by omega, ?_⟩
          · unfold addLE lastE; rw [hF, hp, if_pos rfl]
          · have e2 : addLS s path (path.length + 1) = putS s (path.length + 1) (recStep s.flows (recAdd path)) := by unfold addLS; rw [hF, hp, if_pos rfl, recStep_add p1 (fun x hx => (p3 x hx).1)]
            rw [e2]
            exact moved_later hu hM
        rw [hp, errV_0] at HCk
        have B0 : Hid (Below w.heap.size w (w.alloc (.cells #[v] 22))) := (Below.refl _ _).alloc (Nat.le_refl _) _
        clear h hf hv hcp hs hs' h66 hF hp p1 p2 p3 hrec hmay
        subst hvv
        generalize s.flows.length = nf at *
        generalize s.caps.length = nc at *
        go_enter Tryz.func10, Tryz.ntmps10
        go_wp2_with fail
        refine HCk.out.mono ?_
        rintro e w1 ⟨rfl, hw1⟩
        have B1 : Hid (Below w.heap.size w w1) := Bel.call B0.out (Nat.le_refl _) hw1
        clear hw1
        go_wp2_with fail
        refine (HRec.out _ B1.out).mono ?_
        rintro e w2 ⟨y, rfl, hy, hw2⟩
        have B2 : Hid (Below w.heap.size w w2) := Bel.call B1.out (Nat.le_refl _) hw2
        have hz1 := B1.out.size
        obtain ⟨ya, yc, rfl⟩ := owns_shape hy
        rcases own_cellL hy with ⟨e, _⟩ | ⟨gr, rfl, _⟩
        · omega
        have hgr := (own_lt hy (g := gr) rfl).1
        have HW : Hid (Calls Tryz.prog 27 #[.pointer (some ⟨g, 0, none⟩), .slice (some ⟨gr, 0, none⟩) (path.length + 1) yc] w2 fun e w' => ∃ n, e = .returned (errV (addLE s path)) ∧ 2 ≤ n ∧ n ≤ 1000 ∧ MovedL logX (.pointer (some ⟨g, 0, none⟩)) F (addLS s path n) w w') := HWr.out w2 gr yc B2.out (by omega) (own_base (fun b hb => by simp [Value.ownBlock] at hb; omega) hy)
        clear hw2 hy hz1 hgr
        go_wp2_with fail
        refine HW.out.mono ?_
        rintro e w3 ⟨n, rfl, hn⟩
        have HN : Hid _ := hn
        clear hn
        go_wp2
        go_ret
        exact ⟨n, rfl, HN.out⟩
      · have N1 : Hid (∀ u, Below w.heap.size w u → LgOut g F (addLE s path) (addLS s path) w (.returned (.iface 65 (.int .i64 (pathE s.caps.length path)))) u) := fun u hu => N.out _ u hF hp hu
        have B0 : Hid (Below w.heap.size w (w.alloc (.cells #[v] 22))) := (Below.refl _ _).alloc (Nat.le_refl _) _
        rw [errV_ne hp] at HCk
        clear h hf hv hcp hs hs' h66 hF hp N
        subst hvv
        generalize pathE s.caps.length path = ek at *
        generalize s.flows.length = nf at *
        generalize s.caps.length = nc at *
        go_enter Tryz.func10, Tryz.ntmps10
        go_wp2_with fail
        refine HCk.out.mono ?_
        rintro e w1 ⟨rfl, hw1⟩
        have X1 : Hid _ := N1.out w1 (Bel.call B0.out (Nat.le_refl _) hw1)
        clear hw1
        go_wp2
        go_ret
        exact X1.out

set_option maxRecDepth 100000 in
set_option maxHeartbeats 2000000 in
theorem ldrop_said : LDropSaid logX := by
  rintro p F s i w ⟨g, cv, bv, fv, B, ws, rfl, h⟩ hf
  show Calls _ _ _ _ (LgOut g F (dropLE s i) (dropLS s i) w)
  obtain ⟨-, -, ⟨af, cf, rfl⟩⟩ := h.mem.shape
  obtain ⟨-, -, -, c3, -, c5, f0, gl⟩ := h.mem.six
  have N : Hid (∀ k, dropF s i = k → k ≠ 0 → LgOut g F (dropLE s i) (dropLS s i) w (.returned (.iface 65 (.int .i64 k))) w) := fun k hk h0 => by
    have e1 : dropLE s i = k := by unfold dropLE lastE; rw [hk, if_neg h0]
    have e2 : dropLS s i 2 = s := by unfold dropLS; rw [hk, if_neg h0]
    exact ⟨2, by rw [e1, errV_ne h0], by omega, by omega, by rw [e2]; exact moved_none h (Below.refl _ _)⟩
  by_cases hs : s.stopped = true
  · have N1 : Hid _ := N.out 6 (by unfold dropF; rw [if_pos hs]) (by decide)
    rw [hs] at c5
    clear h hf hs
    go_enter Tryz.func9, Tryz.ntmps9
    go_wp2
    go_ret
    exact N1.out
  · have hs' : s.stopped = false := by simpa using hs
    rw [hs'] at c5
    by_cases hi : i < 0 ∨ (s.flows.length : Int) ≤ i
    · have N1 : Hid _ := N.out 1 (by unfold dropF; rw [if_neg hs, if_pos hi]) (by decide)
      by_cases hn : i < 0
      · clear h hf hs hs' hi
        generalize s.flows.length = nf at *
        go_enter Tryz.func9, Tryz.ntmps9
        go_wp2
        go_ret
        exact N1.out
      · have hm : (s.flows.length : Int) ≤ i := by omega
        clear h hf hs hs' hi
        generalize s.flows.length = nf at *
        go_enter Tryz.func9, Tryz.ntmps9
        go_wp2
        go_ret
        exact N1.out
    · have i0 : 0 ≤ i := by omega
      have i1 : i < s.flows.length := by omega
      have f6 := hf.1.flows_right.1
      have hF : dropF s i = 0 := by unfold dropF; rw [if_neg hs, if_neg hi]
      have q1 : IntKind.u8.wrap i = i := by rw [IntKind.wrap_u8]; omega
      have ho : (w.alloc (.cells #[.int .u8 0, .int .u8 i] 5)).ownsRow w.heap.size 5 1 (.slice (some ⟨w.heap.size, 0, none⟩) 2 2) 2 (u8s (recDrop i)) := by
        refine RowAt.owns (row_made w _ _ _ _ rfl ?_) (Nat.le_refl _) rfl (by decide)
        have : ((i.toNat : Nat) : Int) = i := Int.toNat_of_nonneg i0
        simp [u8s, recDrop, this]
      have hu : Below w.heap.size w (w.alloc (.cells #[.int .u8 0, .int .u8 i] 5)) := (Below.refl _ _).alloc (Nat.le_refl _) _
      have HW : Hid (Calls Tryz.prog 27 #[.pointer (some ⟨g, 0, none⟩), .slice (some ⟨w.heap.size, 0, none⟩) 2 2] (w.alloc (.cells #[.int .u8 0, .int .u8 i] 5)) fun e w' => ∃ n, e = .returned (errV (dropLE s i)) ∧ 2 ≤ n ∧ n ≤ 1000 ∧ MovedL logX (.pointer (some ⟨g, 0, none⟩)) F (dropLS s i n) w w') := by
        have hmay : MayR s.flows (recDrop i) := ⟨recR_drop (by omega), fun _ => by show i.toNat < _; omega, fun e => absurd rfl e⟩
        have := lwrite_any (h.keep (fun b hb => hu.block b (h.mem.lt b hb))) hf hs' (recDrop i) w.heap.size 0 2 (rec_cells ho) (Nat.le_refl _) (by omega) hmay (fun e => by have := h.mem.lt _ e; omega)
        refine this.mono ?_
        rintro e w' ⟨rfl, hM⟩
        refine ⟨2, ?_, by omega, by omega, ?_⟩
        · unfold dropLE lastE; rw [hF, if_pos rfl]
        · have e2 : dropLS s i 2 = putS s 2 (recStep s.flows (recDrop i)) := by unfold dropLS; rw [hF, if_pos rfl, recStep_drop i0]
          rw [e2]
          exact moved_later hu hM
      clear h hf hs hs' hi hF ho hu N f6
      generalize s.flows.length = nf at *
      go_enter Tryz.func9, Tryz.ntmps9
      go_wp2_with fail
      refine HW.out.mono ?_
      rintro e w3 ⟨n, rfl, hn⟩
      have HN : Hid _ := hn
      clear hn
      go_wp2
      go_ret
      exact ⟨n, rfl, HN.out⟩
end Ev
end Go.Proofs.YtpnmmmlckdkcdakGreatDoor

/- Package log's Paths and Rates do what is asked of them. -/
namespace Go.Proofs.YtpnmmmlckdkcdakGreatDoor
namespace Ev
open Go.RowKit Fr Ns Ld Fl
set_option linter.unusedSimpArgs false
set_option linter.unusedVariables false

theorem set_getDL {vs : List Value} {n k : Nat} {x : Value} (hl : vs.length = n) (hk : k < n) (i : Nat) : (vs.set k x).getD i undef = if i = k then x else vs.getD i undef := by
  by_cases h : i = k
  · subst h
    rw [if_pos rfl]
    simp [List.getD, List.getElem?_set, hl, hk]
  · rw [if_neg h]
    simp [List.getD, List.getElem?_set, Ne.symm h]
theorem own_laterL {w w' : World} {B base : Nat} {e : TypeId} {size g n cap : Nat} {xs : List Value} (hb : Below B w w') (hg : g < B) (h : w.ownsRow base e size (.slice (some ⟨g, 0, none⟩) n cap) n xs) : w'.ownsRow base e size (.slice (some ⟨g, 0, none⟩) n cap) n xs :=
  own_keep (fun b hb' => by simp [Value.ownBlock] at hb'; subst hb'; exact hb.block _ hg) h
set_option maxRecDepth 100000 in
set_option maxHeartbeats 2000000 in
theorem lpaths_said : LPathsSaid logX := by
  rintro p F s w ⟨g, cv, bv, fv, B, ws, rfl, h⟩ hf
  obtain ⟨f6, fr⟩ := hf.1.flows_right
  obtain ⟨h1, h6⟩ := links_len hf.1.caps
  obtain ⟨-, -, ⟨af, cf, rfl⟩⟩ := h.mem.shape
  obtain ⟨-, -, -, c3, -, -, f0, gl⟩ := h.mem.six
  have hwl : ws.length = s.flows.length := by have := h.mem.flows.row.1; omega
  have HEa : Hid (∀ i, i < s.flows.length → ∃ b x, af = some ⟨b, 0, none⟩ ∧ w.cell? ⟨b, i, none⟩ = some x ∧ IntsAt (fun _ => True) w x (s.flows.getD i []) ∧ (s.flows.getD i []).length ≤ 6) := fun i hi => by
    rcases own_cellL h.mem.flows.row with ⟨e, _⟩ | ⟨b, e, _, _, _, hc⟩
    · omega
    · refine ⟨b, ws.getD i undef, e, hc i _ (by simp [List.getD, List.getElem?_eq_getElem (show i < ws.length by omega)]), (h.mem.flows.each i hi).keep (fun _ _ _ => rfl) (fun _ _ _ => trivial), ?_⟩
      have := pathE_len (fr _ (getD_mem s.flows i hi []))
      omega
  obtain ⟨i0, hi, hz0, hz1, hz2⟩ := info_parts infoInts
  clear h hf fr h1 h6 hwl
  generalize s.flows = f at *
  go_enter Tryz.func13, Tryz.ntmps13
  go_wp2_with (at_make; go_must (refine wpList_make_full _ rfl _ _ 23 rfl w.heap.size 22 i0 (.slice none 0 0) 1 Tryz.underlying23 hi hz0 hz1 .i64 .i64 _ _ f.length rfl rfl rfl rfl ?b2 ?b3 ?b4 ?_))
  case b2 => rw [hz2]; omega
  case b3 => unfold maxLen; omega
  case b4 => simp
  intro w1 hown hgrow
  have Bel1 : Hid (Below w.heap.size w w1) := (Below.refl _ _).grown hgrow (Nat.le_refl _) (by intro k hk; cases hk)
  have HO : Hid (w1.ownsRow w.heap.size 22 1 (.slice (some ⟨w.heap.size, 0, none⟩) f.length f.length) f.length (madeCells #[.slice none 0 0] f.length).toList) := hown
  generalize (madeCells #[Value.slice none 0 0] f.length).toList = vs0 at HO
  have g1 : w1.cell? ⟨g, 3, none⟩ = some (.slice af f.length cf) := cell_later Bel1.out c3
  have g2 : g < w1.heap.size := by have := Bel1.out.size; omega
  clear hown hgrow
  go_wp2
  go_loopw [4, 5, 17] (fun _ _ i wr => ∃ (k : Nat) (vs : List Value), k ≤ f.length ∧ i = .int .i64 k ∧ Hid (Below w.heap.size w wr) ∧
      Hid (wr.ownsRow w.heap.size 22 1 (.slice (some ⟨w.heap.size, 0, none⟩) f.length f.length) f.length vs) ∧
      Hid (∀ i, i < k → IntsAt (fun b => w.heap.size < b) wr (vs.getD i undef) (f.getD i []))) (fun _ _ i _ => f.length - (intOf i).toNat)
  case atStart => exact ⟨0, vs0, by omega, rfl, Bel1, HO, fun i hi => by omega⟩
  case round =>
    obtain ⟨k, vs, hk, rfl, hb, ho, hv⟩ := hrel
    have hvl : vs.length = f.length := by have := ho.out.1; omega
    have hsz : w.heap.size < wr.heap.size := (own_lt ho.out (g := w.heap.size) rfl).2.1
    by_cases hlt : k < f.length
    · obtain ⟨b, x, rfl, hx, hxi, hxl⟩ := HEa.out k hlt
      have hx' : wr.cell? ⟨b, k, none⟩ = some x := cell_later hb.out hx
      have HC : Hid (Calls Tryz.prog 26 #[x] wr fun e w' => ∃ y, e = .returned y ∧ IntsAt (fun b => wr.heap.size ≤ b) w' y (f.getD k []) ∧ Below wr.heap.size wr w') := by
        refine (CloneE_own _ x wr (hxi.later hb.out) (by omega)).mono ?_
        rintro e w' ⟨y, rfl, hy, hw⟩
        exact ⟨y, rfl, ints_of_owns (by omega) hy (fun _ h => h), hw⟩
      obtain ⟨ai, capi, rfl, _⟩ := hxi
      generalize hpk : f.getD k [] = pk at *
      clear hx
      go_wp2_with fail
      refine HC.out.mono ?_
      rintro e w2 ⟨y, rfl, hy, hw2⟩
      have ho2 := own_laterL hw2 hsz ho.out
      have d1 : w2.cell? ⟨w.heap.size, k, none⟩ = some (vs.getD k undef) := by
        rw [ho2.cellAt k (by omega)]; simp [List.getD, List.getElem?_eq_getElem (show k < vs.length by omega)]
      have d2 : w2.frozen? ⟨w.heap.size, k, none⟩ = false := ho2.frozenAt k
      have HO2 : Hid ((w2.setCell ⟨w.heap.size, k, none⟩ y).ownsRow w.heap.size 22 1 (.slice (some ⟨w.heap.size, 0, none⟩) f.length f.length) f.length (vs.set k y)) := (ho2.stored k y).1
      have HB2 : Hid (Below w.heap.size w (w2.setCell ⟨w.heap.size, k, none⟩ y)) := (Bel.call hb.out (Nat.le_refl _) hw2).setCell (Nat.le_refl _) _
      have HV2 : Hid (∀ i, i < k + 1 → IntsAt (fun b => w.heap.size < b) (w2.setCell ⟨w.heap.size, k, none⟩ y) ((vs.set k y).getD i undef) (f.getD i [])) := by
        intro i hi
        rw [set_getDL hvl hlt]
        by_cases hik : i = k
        · rw [if_pos hik, hik, hpk]
          exact hy.keep (fun b hb _ => Below.heap_setCell _ _ _ _ (by simp; omega)) (fun b hb _ => by omega)
        · rw [if_neg hik]
          exact ((hv.out i (by omega)).later hw2).keep (fun b hb _ => Below.heap_setCell _ _ _ _ (by simp; omega)) (fun b hb _ => hb)
      obtain ⟨ay, capy, rfl, _⟩ := hy
      clear ho2 hw2 ho hv hb
      go_wp2
      go_roundw
      case rel => exact ⟨k + 1, _, by omega, by go_num, HB2, HO2, HV2⟩
      case measure => simp [intOf]; omega
    · have hkk : k = f.length := by omega
      subst hkk
      have HL : Hid (ListsAt (fun b => w.heap.size ≤ b) wr (.slice (some ⟨w.heap.size, 0, none⟩) f.length f.length) f) := lists_of_owns (by omega) hvl ho.out (fun i hi => (hv.out i hi).keep (fun _ _ _ => rfl) (fun b hb _ => by omega)) (fun _ h => h)
      go_wp2
      go_ret
      exact ⟨_, rfl, HL.out, hb.out⟩

theorem netE_flows {caps : List Int} {f : Flows} (h : linksE caps = 0) (h6 : f.length ≤ 6) (hr : ∀ p ∈ f, pathE caps.length p = 0) : netE caps f = ratesLE f := by
  obtain ⟨c1, c6⟩ := links_len h
  unfold netE ratesLE
  by_cases h0 : f.length = 0
  · rw [if_pos (.inr h0), if_pos h0]
  · rw [if_neg (by omega), if_neg (by omega), if_pos h, if_neg h0]
    exact (pathsFrom_iff caps.length f).2 hr
set_option maxRecDepth 100000 in
set_option maxHeartbeats 2000000 in
theorem lrates_said : LRatesSaid logX := by
  rintro p F s w ⟨g, cv, bv, fv, B, ws, rfl, h⟩ hf
  obtain ⟨f6, fr⟩ := hf.1.flows_right
  have HR : Hid (∀ u, Below w.heap.size w u → Calls Tryz.prog 16 #[.agg #[cv, fv]] u fun e w' => ∃ y, e = .returned (.tuple #[y, errV (ratesLE s.flows)]) ∧ FracsAt (fun b => u.heap.size ≤ b) w' y (okL (ratesLE s.flows) (fill s.caps s.flows).1) ∧ Below u.heap.size u w') := fun u hu => by
    rw [← netE_flows hf.1.caps f6 fr]
    exact rates_said (fun _ => True) s.caps s.flows _ u (NetAt.later hu ⟨_, _, rfl, h.mem.caps.keep (fun _ _ _ => rfl) (fun _ _ _ => trivial), h.mem.flows.lists (by omega)⟩)
  obtain ⟨⟨ac, cc, rfl, _⟩, -, ⟨af, cf, rfl⟩⟩ := h.mem.shape
  obtain ⟨c0, -, -, c3, -, -, f0, gl⟩ := h.mem.six
  clear h hf fr f6
  generalize okL (ratesLE s.flows) (fill s.caps s.flows).1 = lr at *
  generalize errV (ratesLE s.flows) = ev at *
  generalize s.flows.length = nf at *
  generalize s.caps.length = nc at *
  have P1 : Hid (Below w.heap.size w w.drew) := (Below.refl _ _).drew
  go_enter Tryz.func14, Tryz.ntmps14
  go_wp2_with fail
  go_region_law (first | (go_simp; refine (HR.out _ P1.out).mono ?_; rintro e w1 ⟨y, rfl, hy, hw1⟩; have HY : Hid (FracsAt (fun b => w.heap.size ≤ b) w1 y lr) := hy; have HB : Hid (Below w.heap.size w w1) := Bel.call P1.out (Nat.le_refl _) hw1; obtain ⟨ya, yc, rfl, _⟩ := hy; clear hw1))
  all_goals
    go_wp2
    refine bodyPost_ret (v := .tuple #[.slice ya lr.length yc, ev]) (by simp [results, Tryz.results14, go_sem]) rfl ⟨_, rfl, HY.out, HB.out⟩
end Ev
end Go.Proofs.YtpnmmmlckdkcdakGreatDoor
