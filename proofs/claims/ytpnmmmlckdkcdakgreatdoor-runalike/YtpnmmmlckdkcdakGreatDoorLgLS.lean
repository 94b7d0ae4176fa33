/- Package log's stops, Sync, Fail, Bytes and Safe do what is asked of them. -/
import Derived.Test.YtpnmmmlckdkcdakGreatDoorPlains
namespace Go.Proofs.YtpnmmmlckdkcdakGreatDoor
namespace Ev
open Go.RowKit Fr Ns Fl
set_option linter.unusedSimpArgs false
set_option linter.unusedVariables false

theorem only_set {w : World} {g i : Nat} (v : Value) : Only g w (w.setCell ⟨g, i, none⟩ v) := ⟨(Below.refl 0 w).setCell (Nat.zero_le _) _, fun b hb => stay_set _ _ _ _ _ hb⟩
theorem Only.trans {w w1 w2 : World} {g : Nat} (h : Only g w w1) (k : Only g w1 w2) : Only g w w2 := ⟨h.1.trans k.1, fun b hb => (k.2 b hb).trans (h.2 b hb)⟩

/-- how many steps are left -/
def nextL (l : Int) : Int := if 0 < l then l - 1 else l
set_option maxRecDepth 100000 in
theorem lstops_any (g : Nat) (cv bv x fv : Value) (lf : Int) (st : Bool) (w : World) (h : RowAt w g 64 [cv, bv, x, fv, .int .i64 lf, .bool st]) (hl : lf ≤ 9223372036854775807) :
    Calls Tryz.prog 29 #[.pointer (some ⟨g, 0, none⟩)] w fun e w' => e = .returned (.bool (decide (lf = 0))) ∧ RowAt w' g 64 [cv, bv, x, fv, .int .i64 (nextL lf), .bool (decide (lf = 0))] ∧ Only g w w' := by
  have c4 := h.cell (i := 4) rfl
  have c5 := h.cell (i := 5) rfl
  have f0 := h.frozen
  have gl := h.lt
  by_cases h0 : 0 < lf
  · have e0 : decide (lf = 0) = false := decide_eq_false (by omega)
    have e1 : (lf == 0) = false := beq_eq_false_iff_ne.2 (by omega)
    have e2 : nextL lf = lf - 1 := if_pos h0
    have q1 : IntKind.i64.wrap (lf - 1) = lf - 1 := by rw [IntKind.wrap_i64]; omega
    have M : Hid (RowAt ((w.setCell ⟨g, 5, none⟩ (.bool false)).setCell ⟨g, 4, none⟩ (.int .i64 (lf - 1))) g 64 [cv, bv, x, fv, .int .i64 (lf - 1), .bool false]) := (h.set 5 _).set 4 _
    rw [e0, e2]
    clear h e0 e2
    go_enter Tryz.func29, Tryz.ntmps29
    go_wp2
    go_ret
    exact ⟨rfl, M.out, (only_set _).trans (only_set _)⟩
  · have e2 : nextL lf = lf := if_neg h0
    have M : Hid (RowAt (w.setCell ⟨g, 5, none⟩ (.bool (decide (lf = 0)))) g 64 [cv, bv, x, fv, .int .i64 lf, .bool (decide (lf = 0))]) := h.set 5 _
    have e1 : (lf == 0) = decide (lf = 0) := by by_cases e : lf = 0 <;> simp [e]
    rw [e2]
    clear h e2
    generalize decide (lf = 0) = dd at *
    go_enter Tryz.func29, Tryz.ntmps29
    go_wp2
    go_ret
    exact ⟨rfl, M.out, only_set _⟩
set_option maxRecDepth 100000 in
theorem lsync_said : LSyncSaid logX := by
  rintro p F s w ⟨g, cv, bv, fv, B, ws, rfl, h⟩ hf
  obtain ⟨-, ⟨a, c, rfl⟩, -⟩ := h.mem.shape
  have hlen := h.len
  by_cases hs : s.stopped = true
  · have M : Hid (MovedL logX (.pointer (some ⟨g, 0, none⟩)) F (syncS s) w w) := by
      have : syncS s = s := by unfold syncS; rw [if_pos hs]
      rw [this]; exact moved_none h (Below.refl _ _)
    have e : syncE s = 6 := by unfold syncE; rw [if_pos hs]
    obtain ⟨-, -, -, -, -, c5, f0, gl⟩ := h.mem.six
    rw [hs] at c5
    rw [e, errV_ne (by decide)]
    clear h hf hs e
    go_enter Tryz.func11, Tryz.ntmps11
    go_wp2
    go_ret
    exact ⟨rfl, M.out⟩
  · have hs' : s.stopped = false := by simpa using hs
    have HSt : Hid (Calls Tryz.prog 29 #[.pointer (some ⟨g, 0, none⟩)] w fun e w' => e = .returned (.bool (decide (s.left = 0))) ∧ RowAt w' g 64 [cv, .slice a B.length c, .int .i64 s.safe, fv, .int .i64 (nextL s.left), .bool (decide (s.left = 0))] ∧ Only g w w') := lstops_any g cv _ _ fv s.left s.stopped w h.mem.cells h.far
    obtain ⟨-, -, -, -, -, c5, f0, gl⟩ := h.mem.six
    rw [hs'] at c5
    by_cases hl : s.left = 0
    · have e : syncE s = 6 := by unfold syncE; rw [if_neg hs, if_pos hl]
      have M : Hid (∀ w', RowAt w' g 64 [cv, .slice a B.length c, .int .i64 s.safe, fv, .int .i64 (nextL s.left), .bool true] → Only g w w' → MovedL logX (.pointer (some ⟨g, 0, none⟩)) F (syncS s) w w') := fun w' hr ho => by
        have e2 : syncS s = { s with safe := s.safe, left := s.left, stopped := true } := by unfold syncS; rw [if_neg hs, if_pos hl]
        have e3 : nextL s.left = s.left := if_neg (by omega)
        rw [e3] at hr
        rw [e2]
        exact moved_put (h.put hr ho.2 (fun e => by cases e) h.far) h.mem.own ho
      rw [e, errV_ne (by decide)]
      rw [decide_eq_true hl] at HSt
      clear h hf hs hs' e hl
      go_enter Tryz.func11, Tryz.ntmps11
      go_wp2_with fail
      refine HSt.out.mono ?_
      rintro e w1 ⟨rfl, hr, ho⟩
      have M1 : Hid _ := M.out w1 hr ho
      clear hr ho c5 f0
      go_wp2
      go_ret
      exact ⟨rfl, M1.out⟩
    · have e : syncE s = 0 := by unfold syncE; rw [if_neg hs, if_neg hl]
      have M : Hid (∀ w', RowAt w' g 64 [cv, .slice a B.length c, .int .i64 s.safe, fv, .int .i64 (nextL s.left), .bool false] → Only g w w' → MovedL logX (.pointer (some ⟨g, 0, none⟩)) F (syncS s) w (w'.setCell ⟨g, 2, none⟩ (.int .i64 B.length))) := fun w' hr ho => by
        have e2 : syncS s = { s with safe := B.length, left := nextL s.left, stopped := false } := by unfold syncS; rw [if_neg hs, if_neg hl, ← hlen]; show LogS.mk _ _ _ _ _ _ _ = LogS.mk _ _ _ _ _ _ _; rw [hs']; rfl
        rw [e2]
        have ho' : Only g w (w'.setCell ⟨g, 2, none⟩ (.int .i64 B.length)) := ho.trans (only_set _)
        exact moved_put (h.put (hr.set 2 _) ho'.2 (fun _ => hs') (by have := h.far; unfold nextL; split <;> omega)) h.mem.own ho'
      rw [e, errV_0]
      rw [decide_eq_false hl] at HSt
      clear h hf hs hs' e hl hlen
      generalize nextL s.left = nl at *
      generalize B.length = nb at *
      generalize s.safe = ns at *
      go_enter Tryz.func11, Tryz.ntmps11
      go_wp2_with fail
      refine HSt.out.mono ?_
      rintro e w1 ⟨rfl, hr, ho⟩
      have M1 : Hid _ := M.out w1 hr ho
      have d1 := hr.cell (i := 1) rfl
      have d2 := hr.cell (i := 2) rfl
      have df := hr.frozen
      have dl := hr.lt
      clear hr ho c5 f0 gl
      go_wp2
      go_ret
      exact ⟨rfl, M1.out⟩
end Ev
end Go.Proofs.YtpnmmmlckdkcdakGreatDoor
