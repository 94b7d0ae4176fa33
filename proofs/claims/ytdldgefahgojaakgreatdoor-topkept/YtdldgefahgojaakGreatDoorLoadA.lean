/- Package load's own helpers: check, whole, takes; frac.Add of two that are right. -/
import Derived.Test.YtdldgefahgojaakGreatDoorPlains
import Derived.Test.YtdldgefahgojaakGreatDoorNetD
import Derived.Test.YtdldgefahgojaakGreatDoorFracD
import Derived.Test.YtdldgefahgojaakGreatDoorFracChk
import Derived.Deep.RegionLaw
import Derived.OwnWalk
namespace Go.Proofs.YtdldgefahgojaakGreatDoor
namespace Ld
open Go.RowKit Fr Ns
set_option linter.unusedSimpArgs false
set_option linter.unusedVariables false

theorem LWhole_any (n : Int) (w : World) :
    Calls Tryz.prog 49 #[.int .i64 n] w fun e w' => e = .returned (.agg #[.int .i64 n, .int .i64 1]) ∧ Below w.heap.size w w' := by
  go_enter Tryz.func49, Tryz.ntmps49
  go_wp2
  refine bodyPost_ret (v := .agg #[.int .i64 n, .int .i64 1]) (by simp [results, Tryz.results49, go_sem]) rfl ⟨rfl, ?_⟩
  repeat (first | exact Below.refl _ _ | refine Below.setCell ?_ (by simp) _ | refine Below.alloc ?_ (by simp) _ | refine Below.drew ?_)

theorem takes_any {Q : Nat → Prop} (caps : List Int) (paths : List (List Int)) (l : Nat) (v : Value) (w : World) (h : NetAt Q w v caps paths) (hl : l < caps.length) :
    Calls Tryz.prog 33 #[v, .int .i64 l] w fun e w' => e = .returned (.agg #[.int .i64 (caps.getD l 0), .int .i64 1]) ∧ Below w.heap.size w w' := by
  obtain ⟨v1, v2, rfl, h1, h2⟩ := h
  obtain ⟨a1, cap1, rfl, ⟨hm1, hn1⟩, h1⟩ := h1
  obtain ⟨a2, cap2, rfl, _⟩ := h2
  rcases h1 with rfl | ⟨b, off, rfl, hc, _⟩
  · simp at hl
  have c1 := hc l hl
  have hb : b < w.heap.size := World.block_lt_of_cell? _ _ c1
  generalize caps.getD l 0 = c at *
  have HW : Hid (∀ u : World, Calls Tryz.prog 49 #[.int .i64 c] u fun e w' => e = .returned (.agg #[.int .i64 c, .int .i64 1]) ∧ Below u.heap.size u w') := fun u => LWhole_any c u
  clear hc
  go_enter Tryz.func33, Tryz.ntmps33
  go_wp2_with fail
  refine (HW.out _).mono ?_
  rintro e w1 ⟨rfl, hb1⟩
  obtain ⟨hc, hf⟩ := bcell hb1
  have hz0 : w.heap.size < w1.heap.size := by have := hb1.size; simp at this; omega
  have hz1 : w.heap.size + 1 < w1.heap.size := by have := hb1.size; simp at this; omega
  have hb0 : Below w.heap.size w w1 := (((Below.refl _ _).alloc (Nat.le_refl _) _).alloc (by simp) _).trans (hb1.mono (by simp; omega))
  go_wp2
  refine bodyPost_ret (v := .agg #[.int .i64 c, .int .i64 1]) (by simp [results, Tryz.results33, go_sem, hc, hz0, hz1]) rfl ⟨rfl, ?_⟩
  repeat (first | exact hb0 | refine Below.setCell ?_ (by simp) _ | refine Below.alloc ?_ (by simp; omega) _ | refine Below.drew ?_)

theorem fault2_mk {t b u c : Int} (h1 : fault t b = 0) (h2 : fault u c = 0) : fault2 t b u c = 0 := by rw [fault2, if_pos h1, h2]
/-- the sum of two that are right, where it may be -/
theorem Add_may {s a : Int × Int} (hs : faultP s = 0) (ha : faultP a = 0) (h : mayP (sumP s a) = true) (w : World) :
    Calls Tryz.prog 62 #[.agg #[.int .i64 s.1, .int .i64 s.2], .agg #[.int .i64 a.1, .int .i64 a.2]] w fun e w' => e = .returned (.tuple #[.agg #[.int .i64 (sumP s a).1, .int .i64 (sumP s a).2], .nilIface]) ∧ Below w.heap.size w w' := by
  have := Add_any s.1 s.2 a.1 a.2 w
  have hf := fault2_mk hs ha
  have hm : mayB (lowT (s.1 * a.2 + a.1 * s.2) (s.2 * a.2)) (lowB (s.1 * a.2 + a.1 * s.2) (s.2 * a.2)) = true := h
  rw [addT, addB, Fr.addE, if_pos hf, if_pos hf, if_pos hf, madeT, madeB, madeE, if_pos hm, if_pos hm, if_pos hm] at this
  exact this
/-- and where it is too much -/
theorem Add_big {s a : Int × Int} (hs : faultP s = 0) (ha : faultP a = 0) (h : mayP (sumP s a) = false) (w : World) :
    Calls Tryz.prog 62 #[.agg #[.int .i64 s.1, .int .i64 s.2], .agg #[.int .i64 a.1, .int .i64 a.2]] w fun e w' => e = .returned (.tuple #[.agg #[.int .i64 0, .int .i64 0], .iface 55 (.int .i64 4)]) ∧ Below w.heap.size w w' := by
  have := Add_any s.1 s.2 a.1 a.2 w
  have hf := fault2_mk hs ha
  have hm : ¬ mayB (lowT (s.1 * a.2 + a.1 * s.2) (s.2 * a.2)) (lowB (s.1 * a.2 + a.1 * s.2) (s.2 * a.2)) = true := by
    have h' : mayB (lowT (s.1 * a.2 + a.1 * s.2) (s.2 * a.2)) (lowB (s.1 * a.2 + a.1 * s.2) (s.2 * a.2)) = false := h
    rw [h']; decide
  rw [addT, addB, Fr.addE, if_pos hf, if_pos hf, if_pos hf, madeT, madeB, madeE, if_neg hm, if_neg hm, if_neg hm] at this
  exact this

/-- what load.check tells -/
def checkE (caps : List Int) (paths : List (List Int)) (r : List (Int × Int)) : Int :=
  if netE caps paths = 0 then if r.length = paths.length then ratesE r else 3 else netE caps paths

set_option maxHeartbeats 2000000 in
theorem LCheck_any {Q : Nat → Prop} (caps : List Int) (paths : List (List Int)) (r : List (Int × Int)) (v x : Value) (w : World) (h : NetAt Q w v caps paths) (hx : FracsAt Q w x r) :
    Calls Tryz.prog 44 #[v, x] w fun e w' => e = .returned (errV (checkE caps paths r)) ∧ Below w.heap.size w w' := by
  have HN : Hid (∀ u, Below w.heap.size w u → Calls Tryz.prog 15 #[v] u fun e w' => e = .returned (errV (netE caps paths)) ∧ Below u.heap.size u w') := fun u hu => check_said Q caps paths v u (h.later hu)
  have HR : Hid (∀ i, i < r.length → ∃ b off, ∃ cap, x = .slice (some ⟨b, off, none⟩) r.length cap ∧ ∀ u, Below w.heap.size w u → u.cell? ⟨b, off + i * 2, none⟩ = some (.int .i64 (r.getD i (0, 0)).1) ∧ u.cell? ⟨b, off + i * 2 + 1, none⟩ = some (.int .i64 (r.getD i (0, 0)).2)) := by
    intro i hi
    obtain ⟨a, cap, e, _, hc⟩ := hx
    rcases hc with rfl | ⟨b, off, rfl, hc, _⟩
    · simp at hi
    · exact ⟨b, off, cap, e, fun u hu => ⟨cell_later hu (hc i hi).1, cell_later hu (hc i hi).2⟩⟩
  obtain ⟨v1, v2, rfl, h1, h2⟩ := h
  obtain ⟨a1, cap1, rfl, ⟨hm1, hn1⟩, _⟩ := h1
  obtain ⟨a2, cap2, rfl, ⟨hm2, hn2⟩, _⟩ := h2
  obtain ⟨ar, capr, rfl, ⟨hm3, hn3⟩, _⟩ := hx
  by_cases he : netE caps paths = 0
  · rw [he, errV_0] at HN
    by_cases hl : r.length = paths.length
    · have HE : Hid (checkE caps paths r = ratesE r) := by show _ = _; rw [checkE, if_pos he, if_pos hl]
      have q : ((r.length : Int) != (paths.length : Int)) = false := by rw [hl]; simp
      clear he hl
      go_enter Tryz.func44, Tryz.ntmps44
      go_wp2_with fail
      refine (HN.out _ ((Below.refl _ _).alloc (Nat.le_refl _) _)).mono ?_
      rintro e w1 ⟨rfl, hw1⟩
      have g1 : w1.cell? ⟨w.heap.size, 1, none⟩ = some (.slice a2 paths.length cap2) := cell_later hw1 (by simp)
      have HB1 : Hid (Below w.heap.size w w1) := ((Below.refl _ _).alloc (Nat.le_refl _) _).trans (hw1.mono (by simp))
      clear hw1
      go_wp2
      go_loopw [8, 23] (fun _ i wr => ∃ k : Nat, k ≤ r.length ∧ i = .int .i64 k ∧ Hid (Below w.heap.size w wr) ∧ Hid (ratesE r = ratesE (r.drop k))) (fun _ i _ => r.length - (intOf i).toNat)
      case atStart => exact ⟨0, by omega, rfl, HB1, rfl⟩
      case round =>
        obtain ⟨k, hk, rfl, hbel, hn⟩ := hrel
        have hz : w.heap.size ≤ wr.heap.size := hbel.out.size
        by_cases hlt : k < r.length
        · obtain ⟨b, off, cap, e, hc⟩ := HR.out k hlt
          simp only [Value.slice.injEq] at e
          obtain ⟨rfl, _, rfl⟩ := e
          obtain ⟨c1, c2⟩ := hc _ hbel.out
          have hs := ratesE_cons r k hlt
          have HF : Hid (∀ u, Calls Tryz.prog 60 #[.agg #[.int .i64 (r.getD k (0, 0)).1, .int .i64 (r.getD k (0, 0)).2]] u fun e w' => e = .returned (errV (faultP (r.getD k (0, 0)))) ∧ Below u.heap.size u w') := fun u => Check_any _ _ u
          by_cases hf : faultP (r.getD k (0, 0)) = 0
          · have HN2 : Hid (ratesE r = ratesE (r.drop (k + 1))) := by show _ = _; rw [hn.out, hs, if_pos hf]
            rw [hf, errV_0] at HF
            generalize (r.getD k (0, 0)).1 = t at *
            generalize (r.getD k (0, 0)).2 = bo at *
            clear hs hc hf
            go_wp2_with fail
            refine (HF.out _).mono ?_
            rintro e w2 ⟨rfl, hw2⟩
            have HB2 : Hid (Below w.heap.size w w2) := (hbel.out.alloc hz _).trans (hw2.mono (by simp; omega))
            clear hw2
            go_wp2
            go_roundw
            case rel => exact ⟨k + 1, by omega, by go_num, HB2, HN2⟩
            case measure => simp [intOf]; omega
          · have HN2 : Hid (ratesE r = faultP (r.getD k (0, 0))) := by show _ = _; rw [hn.out, hs, if_neg hf]
            have HV : Hid (errV (faultP (r.getD k (0, 0))) = .iface 55 (.int .i64 (faultP (r.getD k (0, 0))))) := errV_ne hf
            rw [HV.out] at HF
            generalize faultP (r.getD k (0, 0)) = fk at *
            generalize (r.getD k (0, 0)).1 = t at *
            generalize (r.getD k (0, 0)).2 = bo at *
            clear hs hc hf
            go_wp2_with fail
            refine (HF.out _).mono ?_
            rintro e w2 ⟨rfl, hw2⟩
            have HB2 : Hid (Below w.heap.size w w2) := (hbel.out.alloc hz _).trans (hw2.mono (by simp; omega))
            clear hw2
            go_wp2
            go_ret
            exact ⟨by rw [HE.out, HN2.out, HV.out]; rfl, HB2.out⟩
        · have HN2 : Hid (ratesE r = 0) := by show _ = _; rw [hn.out, List.drop_of_length_le (by omega)]; rfl
          go_wp2
          go_ret
          exact ⟨by rw [HE.out, HN2.out, errV_0]; rfl, hbel.out⟩
    · have HE : Hid (checkE caps paths r = 3) := by show _ = _; rw [checkE, if_pos he, if_neg hl]
      have q : ((r.length : Int) != (paths.length : Int)) = true := by simp; omega
      clear he hl
      go_enter Tryz.func44, Tryz.ntmps44
      go_wp2_with fail
      refine (HN.out _ ((Below.refl _ _).alloc (Nat.le_refl _) _)).mono ?_
      rintro e w1 ⟨rfl, hw1⟩
      have g1 : w1.cell? ⟨w.heap.size, 1, none⟩ = some (.slice a2 paths.length cap2) := cell_later hw1 (by simp)
      have HB1 : Hid (Below w.heap.size w w1) := ((Below.refl _ _).alloc (Nat.le_refl _) _).trans (hw1.mono (by simp))
      clear hw1
      go_wp2
      go_ret
      exact ⟨by rw [HE.out]; rfl, HB1.out⟩
  · have HE : Hid (checkE caps paths r = netE caps paths) := by show _ = _; rw [checkE, if_neg he]
    have HV : Hid (errV (netE caps paths) = .iface 55 (.int .i64 (netE caps paths))) := errV_ne he
    rw [HV.out] at HN
    generalize netE caps paths = ek at *
    clear he
    go_enter Tryz.func44, Tryz.ntmps44
    go_wp2_with fail
    refine (HN.out _ ((Below.refl _ _).alloc (Nat.le_refl _) _)).mono ?_
    rintro e w1 ⟨rfl, hw1⟩
    have HB1 : Hid (Below w.heap.size w w1) := ((Below.refl _ _).alloc (Nat.le_refl _) _).trans (hw1.mono (by simp))
    clear hw1
    go_wp2
    go_ret
    exact ⟨by rw [HE.out, HV.out]; rfl, HB1.out⟩
end Ld
end Go.Proofs.YtdldgefahgojaakGreatDoor
