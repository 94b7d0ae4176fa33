/- Package give's Part keeps what the document says. -/
import Derived.Test.YtdlckfffpdjbcahDoorGvS
import Derived.Test.YtdlckfffpdjbcahDoorPlains
namespace Go.Proofs.YtdlckfffpdjbcahDoor
namespace Ev
open Go.RowKit Fr Ns Ld Fl
set_option linter.unusedSimpArgs false
set_option linter.unusedVariables false

set_option maxRecDepth 100000 in
set_option maxHeartbeats 2000000 in
theorem gpart_said : GPartSaid := by
  intro Q many l i v w h
  have HS : Hid (Calls Tryd.prog 7 #[.int .i64 many, v] w fun e w' => ∃ y, e = .returned (.tuple #[y, errV (splitE many l)]) ∧ IntsAt (fun b => w.heap.size ≤ b) w' y (okL (splitE many l) (splitS many l)) ∧ Below w.heap.size w w') := gsplit_said Q many l v w h
  obtain ⟨a, cap, rfl, ⟨hm, hm2⟩, _⟩ := h
  by_cases hE : splitE many l = 0
  · have HOk : Hid (okL (splitE many l) (splitS many l) = splitS many l) := if_pos hE
    have hl : (splitS many l).length = l.length := splitS_length _ _
    rw [HOk.out, hE, errV_0] at HS
    by_cases hi : i < 0 ∨ (l.length : Int) ≤ i
    · have hP : partE many l i = 1 := by rw [partE, if_pos hE, if_pos hi]
      have HO : Hid (okI (partE many l i) ((splitS many l).getD i.toNat 0) = 0) := by show _ = _; rw [hP]; rfl
      rw [HO.out, hP]
      have Hl : Hid ((splitS many l).length = l.length) := hl
      clear hl HOk hE HO hP
      generalize splitS many l = ss at *
      by_cases hneg : i < 0
      · clear hi
        go_enter Tryd.func10, Tryd.ntmps10
        go_wp2_with fail
        refine HS.out.mono ?_
        rintro e w1 ⟨y, rfl, hy, hw1⟩
        have B1 : Hid (Below w.heap.size w w1) := hw1
        obtain ⟨ay, cy, rfl, _, _⟩ := hy
        clear hw1
        go_wp2
        refine bodyPost_ret (v := .tuple #[.int .i64 0, .iface 39 (.int .i64 1)]) (by simp [results, Tryd.results10, go_sem]) rfl ⟨rfl, B1.out⟩
      · have hge : (l.length : Int) ≤ i := by omega
        clear hi
        go_enter Tryd.func10, Tryd.ntmps10
        go_wp2_with fail
        refine HS.out.mono ?_
        rintro e w1 ⟨y, rfl, hy, hw1⟩
        have B1 : Hid (Below w.heap.size w w1) := hw1
        obtain ⟨ay, cy, rfl, _, _⟩ := hy
        rw [Hl.out]
        clear hw1
        go_wp2
        refine bodyPost_ret (v := .tuple #[.int .i64 0, .iface 39 (.int .i64 1)]) (by simp [results, Tryd.results10, go_sem]) rfl ⟨rfl, B1.out⟩
    · have hP : partE many l i = 0 := by rw [partE, if_pos hE, if_neg hi]
      have HO : Hid (okI (partE many l i) ((splitS many l).getD i.toNat 0) = (splitS many l).getD i.toNat 0) := by show _ = _; rw [hP]; rfl
      rw [HO.out, hP]
      have Hl : Hid ((splitS many l).length = l.length) := hl
      obtain ⟨I, rfl⟩ : ∃ I : Nat, i = I := ⟨i.toNat, by omega⟩
      have hI : I < l.length := by omega
      rw [Int.toNat_natCast]
      clear hl HOk hE HO hP hi
      generalize splitS many l = ss at *
      obtain ⟨x, Hx⟩ : ∃ x, Hid (ss.getD I 0 = x) := ⟨_, rfl⟩
      rw [Hx.out]
      have hI' : ¬ (l.length : Int) ≤ (I : Int) := by omega
      have hI2 : (I : Int) < (l.length : Int) := by omega
      go_enter Tryd.func10, Tryd.ntmps10
      go_wp2_with fail
      refine HS.out.mono ?_
      rintro e w1 ⟨y, rfl, hy, hw1⟩
      have B1 : Hid (Below w.heap.size w w1) := hw1
      obtain ⟨ay, cy, rfl, _, _⟩ := id hy
      obtain ⟨b, off, rfl, hc⟩ := ints_cells hy I (by rw [Hl.out]; exact hI)
      have c0 := hc _ (Below.refl _ _)
      rw [Hx.out] at c0
      rw [Hl.out]
      clear hw1 hy hc
      go_wp2
      refine bodyPost_ret (v := .tuple #[.int .i64 x, .nilIface]) (by simp [results, Tryd.results10, go_sem]) rfl ⟨rfl, B1.out⟩
  · have hP : partE many l i = splitE many l := by rw [partE, if_neg hE]
    have HO : Hid (okI (partE many l i) ((splitS many l).getD i.toNat 0) = 0) := by show _ = _; rw [hP]; exact if_neg hE
    have HOk : Hid (okL (splitE many l) (splitS many l) = []) := if_neg hE
    rw [HOk.out] at HS
    rw [HO.out, hP]
    have HV : Hid (errV (splitE many l) = .iface 39 (.int .i64 (splitE many l))) := errV_ne hE
    rw [HV.out] at HS ⊢
    clear HO hP HV HOk
    generalize splitE many l = er at *
    go_enter Tryd.func10, Tryd.ntmps10
    go_wp2_with fail
    refine HS.out.mono ?_
    rintro e w1 ⟨y, rfl, hy, hw1⟩
    have B1 : Hid (Below w.heap.size w w1) := hw1
    obtain ⟨ay, cy, rfl, _, _⟩ := hy
    clear hw1
    go_wp2
    refine bodyPost_ret (v := .tuple #[.int .i64 0, .iface 39 (.int .i64 er)]) (by simp [results, Tryd.results10, go_sem]) rfl ⟨rfl, B1.out⟩
end Ev
end Go.Proofs.YtdlckfffpdjbcahDoor
