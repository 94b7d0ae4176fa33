/- Package give's Split keeps what the document says. -/
import Derived.Test.YtpnmmmlckdkcdakGreatDoorGvE
import Derived.Test.YtpnmmmlckdkcdakGreatDoorPlains
namespace Go.Proofs.YtpnmmmlckdkcdakGreatDoor
namespace Ev
open Go.RowKit Fr Ns Ld Fl
set_option linter.unusedSimpArgs false
set_option linter.unusedVariables false

theorem nil_intsG {Q : Nat → Prop} (w : World) : IntsAt Q w (.slice none 0 0) [] := ⟨none, 0, rfl, ⟨Nat.le_refl _, by simp⟩, .inl rfl⟩
set_option maxRecDepth 100000 in
set_option maxHeartbeats 2000000 in
theorem gsplit_said : GSplitSaid := by
  intro Q many l v w h
  have HK : Hid (Calls Tryz.prog 146 #[.int .i64 many, v] w fun e w' => e = .returned (errV (splitE many l)) ∧ Below w.heap.size w w') := gcheck_any many l v w h
  obtain ⟨a, cap, hv, ⟨hm, hm2⟩, _⟩ := id h
  by_cases hE : splitE many l = 0
  · obtain ⟨e1, e2, e3⟩ := splitE_0 hE
    obtain ⟨t1, n1, n6, hb⟩ := idx_tot e1
    have HS : Hid (∀ N, 0 ≤ N → N ≤ 10000 → ∀ u, Below w.heap.size w u → Calls Tryz.prog 148 #[.int .i64 N, v] u fun e w' => ∃ y, e = .returned y ∧ IntsAt (fun b => u.heap.size ≤ b) w' y (splitL N l) ∧ Below u.heap.size u w') := fun N a b u hu => gsplit_row N l v u (h.later hu) e1 a b
    rw [hE, errV_0] at HK ⊢
    have HOk : Hid (okL (0 : Int) (splitS many l) = splitS many l) := if_pos rfl
    rw [HOk.out]
    clear HOk
    by_cases hneg : many < 0
    · have HR : Hid (splitS many l = (splitL (-many) l).map (fun x => -x)) := if_pos hneg
      rw [HR.out]
      have HS1 : Hid (∀ u, Below w.heap.size w u → Calls Tryz.prog 148 #[.int .i64 (-many), v] u fun e w' => ∃ y, e = .returned y ∧ IntsAt (fun b => u.heap.size ≤ b) w' y (splitL (-many) l) ∧ Below u.heap.size u w') := HS.out (-many) (by omega) (by omega)
      have hl : (splitL (-many) l).length = l.length := splitL_length _ _
      have HN : Hid (∀ (Q : Nat → Prop) y u, IntsAt Q u y (splitL (-many) l) → Calls Tryz.prog 147 #[y] u fun e w' => ∃ z, e = .returned z ∧ IntsAt (fun b => u.heap.size ≤ b) w' z ((splitL (-many) l).map (fun x => -x)) ∧ Below u.heap.size u w') := fun Q y u hy => by
        refine gnegated_any (splitL (-many) l) y u hy (by omega) (by omega) (fun x hx => ?_)
        obtain ⟨i, hi, rfl⟩ := List.mem_iff_getElem.1 hx
        obtain ⟨B, p, q1, q2, q3, q4, q5, q6, _⟩ := part_at hE (i := i) (by omega)
        have e : absM many = -many := if_pos hneg
        rw [e, List.getD_eq_getElem?_getD, List.getElem?_eq_getElem hi] at q2
        have q2' : (splitL (-many) l)[i] = p := q2
        rw [q2']
        omega
      have hw1 : IntKind.i64.wrap (-many) = -many := by rw [IntKind.wrap_i64]; omega
      clear HS HR hl hb
      generalize (splitL (-many) l).map (fun x => -x) = nl at *
      generalize splitL (-many) l = sl at *
      subst hv
      clear h
      go_enter Tryz.func117, Tryz.ntmps117
      go_wp2_with fail
      refine HK.out.mono ?_
      rintro e w1 ⟨rfl, hw1'⟩
      have B1 : Hid (Below w.heap.size w w1) := hw1'
      clear hw1'
      go_wp2_with fail
      refine (HS1.out _ B1.out).mono ?_
      rintro e w2 ⟨y, rfl, hy, hw2⟩
      have B2 : Hid (Below w.heap.size w w2) := B1.out.trans (hw2.mono B1.out.size)
      have HN1 : Hid (Calls Tryz.prog 147 #[y] w2 fun e w' => ∃ z, e = .returned z ∧ IntsAt (fun b => w2.heap.size ≤ b) w' z nl ∧ Below w2.heap.size w2 w') := HN.out _ y w2 hy
      obtain ⟨ay, cy, rfl, _, _⟩ := hy
      clear hw2
      go_wp2_with fail
      refine HN1.out.mono ?_
      rintro e w3 ⟨z, rfl, hz, hw3⟩
      have B3 : Hid (Below w.heap.size w w3) := B2.out.trans (hw3.mono B2.out.size)
      have HZ : Hid (IntsAt (fun b => w.heap.size ≤ b) w3 z nl) := hz.keep (fun _ _ _ => rfl) (fun b hb _ => Nat.le_trans B2.out.size hb)
      obtain ⟨az, cz, rfl, _, _⟩ := hz
      clear hw3
      go_wp2
      refine bodyPost_ret (v := .tuple #[.slice az nl.length cz, .nilIface]) (by simp [results, Tryz.results117, go_sem]) rfl ⟨_, rfl, HZ.out, B3.out⟩
    · have HR : Hid (splitS many l = splitL many l) := if_neg hneg
      rw [HR.out]
      have HS1 : Hid (∀ u, Below w.heap.size w u → Calls Tryz.prog 148 #[.int .i64 many, v] u fun e w' => ∃ y, e = .returned y ∧ IntsAt (fun b => u.heap.size ≤ b) w' y (splitL many l) ∧ Below u.heap.size u w') := HS.out many (by omega) (by omega)
      clear HS HR hb
      generalize splitL many l = sl at *
      subst hv
      clear h
      go_enter Tryz.func117, Tryz.ntmps117
      go_wp2_with fail
      refine HK.out.mono ?_
      rintro e w1 ⟨rfl, hw1'⟩
      have B1 : Hid (Below w.heap.size w w1) := hw1'
      clear hw1'
      go_wp2_with fail
      refine (HS1.out _ B1.out).mono ?_
      rintro e w2 ⟨y, rfl, hy, hw2⟩
      have B2 : Hid (Below w.heap.size w w2) := B1.out.trans (hw2.mono B1.out.size)
      have HZ : Hid (IntsAt (fun b => w.heap.size ≤ b) w2 y sl) := hy.keep (fun _ _ _ => rfl) (fun b hb _ => Nat.le_trans B1.out.size hb)
      obtain ⟨ay, cy, rfl, _, _⟩ := hy
      clear hw2
      go_wp2
      refine bodyPost_ret (v := .tuple #[.slice ay sl.length cy, .nilIface]) (by simp [results, Tryz.results117, go_sem]) rfl ⟨_, rfl, HZ.out, B2.out⟩
  · have HV : Hid (errV (splitE many l) = .iface 65 (.int .i64 (splitE many l))) := errV_ne hE
    have HOk : Hid (okL (splitE many l) (splitS many l) = []) := if_neg hE
    rw [HOk.out]
    rw [HV.out] at HK ⊢
    generalize splitE many l = er at *
    subst hv
    clear h
    go_enter Tryz.func117, Tryz.ntmps117
    go_wp2_with fail
    refine HK.out.mono ?_
    rintro e w1 ⟨rfl, hw1⟩
    have HB1 : Hid (Below w.heap.size w w1) := hw1
    clear hw1
    go_wp2
    refine bodyPost_ret (v := .tuple #[.slice none 0 0, .iface 65 (.int .i64 er)]) (by simp [results, Tryz.results117, go_sem]) rfl ⟨_, rfl, nil_intsG _, HB1.out⟩
end Ev
end Go.Proofs.YtpnmmmlckdkcdakGreatDoor
