/- The law LoadTells where nothing is wrong with the net and the rates, from what is asked of package load's calls. -/
import Derived.Test.YtmoeaaocpnoibabDoorLoadTellsA
import Derived.Deep.DeepCutAuto
namespace Go.Proofs.YtmoeaaocpnoibabDoor
namespace Ld
open Go.RowKit Fr Ns
set_option linter.unusedSimpArgs false
set_option linter.unusedVariables false

theorem fault_neg {t b : Int} (h : fault t b = 0) : fault (-t) b = 0 := by
  have hb := fault_0 h
  have hg := (fault_iff.1 h).2
  exact fault_iff.2 ⟨mayB_iff.2 (by omega), by rw [gd_neg]; exact hg⟩
theorem leftL_at {caps : List Int} {paths : List (List Int)} {r : List (Int × Int)} {i : Nat} (hi : i < caps.length) : (leftL caps paths r).getD i (0, 0) = leftOf (caps.getD i 0) ((loadL paths r caps.length).getD i (0, 0)) := by
  have hd : (loadL paths r caps.length).getD i (0, 1) = (loadL paths r caps.length).getD i (0, 0) := by rw [loadL_getD _ _ _ _ hi, loadL_getD _ _ _ _ hi]
  rw [← hd]
  simp only [leftL, List.getD, List.getElem?_map, List.getElem?_range hi]
  rfl
theorem left_bad {caps : List Int} {paths : List (List Int)} {r : List (Int × Int)} {i : Nat} (h : loadE caps paths r = 0) (hi : i < caps.length) (hb : mayP ((leftL caps paths r).getD i (0, 0)) = false) : leftE caps paths r = 4 := by
  rw [leftE, if_pos h, if_neg]
  intro ha
  rw [List.all_eq_true] at ha
  have := ha _ (getD_mem (leftL caps paths r) i (by rw [leftL_length]; exact hi) (0, 0))
  rw [hb] at this
  cases this
theorem left_good {caps : List Int} {paths : List (List Int)} {r : List (Int × Int)} (h : loadE caps paths r = 0) (hb : ∀ i, i < caps.length → mayP ((leftL caps paths r).getD i (0, 0)) = true) : leftE caps paths r = 0 := by
  rw [leftE, if_pos h, if_pos]
  rw [List.all_eq_true]
  intro a ha
  obtain ⟨i, hi, rfl⟩ := List.mem_iff_getElem.1 ha
  have := hb i (by rw [leftL_length] at hi; exact hi)
  simpa [List.getD, List.getElem?_eq_getElem hi] using this
theorem keep_call {wr u u' : World} (hb : Below wr.heap.size wr u) (h : Below u.heap.size u u') : Below wr.heap.size wr u' := hb.trans (h.mono hb.size)

set_option maxRecDepth 100000 in
set_option maxHeartbeats 8000000 in
theorem loadTells_right (hOf : OfSaid) (hFits : FitsSaid) (hLeft : LeftSaid) (caps : List Int) (paths : List (List Int)) (r : List (Int × Int)) (v x : Value) (w : World)
    (hg : w.cell? ⟨0, 0, none⟩ = some handleV)
    (hv : NetAt (fun b => b < w.heap.size) w v caps paths) (hx : FracsAt (fun b => b < w.heap.size) w x r) (he : loadE caps paths r = 0) :
    Calls Tryd.prog 4 #[v, x] w fun e w' => e = .returned (.bool true) ∧ Below w.heap.size w w' := by
  have hd : (decide (loadE caps paths r = 0) && fitsB caps paths r) = fitsB caps paths r := by simp [he]
  have HRL := fun (u : World) (hu : Below w.heap.size w u) => RLoad_any caps paths r v x u (hv.later hu) (hx.later hu)
  have HRF := fun (u : World) (hu : Below w.heap.size w u) => RFits_any caps paths r v x u (hv.later hu) (hx.later hu)
  have HOf := fun (u : World) (hu : Below w.heap.size w u) => hOf _ caps paths r v x u (hv.later hu) (hx.later hu)
  have HFi := fun (u : World) (hu : Below w.heap.size w u) => hFits _ caps paths r v x u (hv.later hu) (hx.later hu)
  have HLe := fun (u : World) (hu : Below w.heap.size w u) => hLeft _ caps paths r v x u (hv.later hu) (hx.later hu)
  have HEr : Hid (∀ (k : Int) (u : World), Below w.heap.size w u → Calls Tryd.prog 8 #[errV k, .int .i64 k] u fun e w' => e = .returned (.bool true) ∧ Below u.heap.size u w') := fun k u hu => by
    have := Error_any k k u (cell_later hu hg)
    rw [beq_self_eq_true] at this
    exact this
  obtain ⟨K0, hK0⟩ : ∃ K : Int, Hid (K = 0) := ⟨0, rfl⟩
  have HE0 : Hid (∀ u : World, Below w.heap.size w u → Calls Tryd.prog 8 #[errV K0, .int .i64 0] u fun e w' => e = .returned (.bool true) ∧ Below u.heap.size u w') := fun u hu => by
    have := HEr.out K0 u hu
    rw [hK0.out] at this ⊢
    exact this
  rw [hd] at HRF HFi
  rw [he, okL_0] at HRL HOf
  rw [he] at HRF HFi
  rw [show errV 0 = errV K0 by rw [hK0.out]] at HOf HFi
  have HRt : Hid (∀ i, i < caps.length → faultP ((loadL paths r caps.length).getD i (0, 0)) = 0 ∧ fault (caps.getD i 0) 1 = 0 ∧ 1 ≤ caps.getD i 0 ∧ caps.getD i 0 ≤ 1000) := fun i hi => load_right he hi
  have HLa : Hid (∀ i, i < caps.length → (leftL caps paths r).getD i (0, 0) = leftOf (caps.getD i 0) ((loadL paths r caps.length).getD i (0, 0))) := fun i hi => leftL_at hi
  have HLb : Hid (∀ i, i < caps.length → mayP ((leftL caps paths r).getD i (0, 0)) = false → leftE caps paths r = 4) := fun i hi h => left_bad he hi h
  have HLg : Hid ((∀ i, i < caps.length → mayP ((leftL caps paths r).getD i (0, 0)) = true) → leftE caps paths r = 0) := left_good he
  have hcl : caps.length ≤ 6 := (netE_0 (loadE_0 he).1).2.1
  have HLS : Hid ((loadL paths r caps.length).length = caps.length) := loadL_length paths r caps.length
  have HLF : Hid ((leftL caps paths r).length = caps.length) := leftL_length caps paths r
  generalize fitsB caps paths r = fb at *
  generalize loadL paths r caps.length = ls at *
  generalize leftL caps paths r = lf at *
  generalize leftE caps paths r = E4 at *
  clear hd he
  have l1 : ls.length ≤ caps.length := Nat.le_of_eq HLS.out
  have l2 : caps.length ≤ ls.length := Nat.le_of_eq HLS.out.symm
  have l3 : lf.length ≤ caps.length := Nat.le_of_eq HLF.out
  have l4 : caps.length ≤ lf.length := Nat.le_of_eq HLF.out.symm
  replace HRL : Hid (∀ u : World, Below w.heap.size w u → Calls Tryd.prog 10 #[v, x] u fun e w' => ∃ y, e = .returned (.tuple #[y, .int .i64 0]) ∧ FracsAt (fun b => u.heap.size ≤ b) w' y ls ∧ Below u.heap.size u w') := HRL
  replace HRF : Hid (∀ u : World, Below w.heap.size w u → Calls Tryd.prog 13 #[v, x] u fun e w' => e = .returned (.tuple #[.bool fb, .int .i64 0]) ∧ Below u.heap.size u w') := HRF
  replace HOf : Hid (∀ u : World, Below w.heap.size w u → Calls Tryd.prog 11 #[v, x] u fun e w' => ∃ y, e = .returned (.tuple #[y, errV K0]) ∧ FracsAt (fun b => u.heap.size ≤ b) w' y ls ∧ Below u.heap.size u w') := HOf
  replace HFi : Hid (∀ u : World, Below w.heap.size w u → Calls Tryd.prog 14 #[v, x] u fun e w' => e = .returned (.tuple #[.bool fb, errV K0]) ∧ Below u.heap.size u w') := HFi
  replace HLe : Hid (∀ u : World, Below w.heap.size w u → Calls Tryd.prog 19 #[v, x] u fun e w' => ∃ y, e = .returned (.tuple #[y, errV E4]) ∧ FracsAt (fun b => u.heap.size ≤ b) w' y (okL E4 lf) ∧ Below u.heap.size u w') := HLe
  obtain ⟨v1, v2, rfl, h1, h2⟩ := hv
  have HCp : Hid (∀ i, i < caps.length → ∃ b off, ∃ cap, v1 = .slice (some ⟨b, off, none⟩) caps.length cap ∧ ∀ u, Below w.heap.size w u → u.cell? ⟨b, off + i, none⟩ = some (.int .i64 (caps.getD i 0))) := by
    intro i hi
    obtain ⟨a, cap, e, _, hc⟩ := h1
    rcases hc with rfl | ⟨b, off, rfl, hc, _⟩
    · simp at hi
    · exact ⟨b, off, cap, e, fun u hu => cell_later hu (hc i hi)⟩
  obtain ⟨a1, cap1, rfl, ⟨hm1, hn1⟩, _⟩ := h1
  obtain ⟨a2, cap2, rfl, ⟨hm2, hn2⟩, _⟩ := h2
  obtain ⟨ar, capr, rfl, ⟨hm3, hn3⟩, _⟩ := hx
  have HBW : Hid (∀ u, Below (w.heap.size + 1) (w.alloc (.cells #[.slice a1 caps.length cap1, .slice a2 paths.length cap2] 25)) u → Below w.heap.size w u) := fun u hu => ((Below.refl _ _).alloc (Nat.le_refl _) _).trans (hu.mono (by omega))
  have HCW : Hid (∀ u, Below (w.heap.size + 1) (w.alloc (.cells #[.slice a1 caps.length cap1, .slice a2 paths.length cap2] 25)) u → u.cell? ⟨w.heap.size, 0, none⟩ = some (.slice a1 caps.length cap1) ∧ u.cell? ⟨w.heap.size, 1, none⟩ = some (.slice a2 paths.length cap2) ∧ w.heap.size + 1 ≤ u.heap.size) := fun u hu =>
    ⟨(hu.cell (p := ⟨w.heap.size, 0, none⟩) (by simp)).trans (by simp), (hu.cell (p := ⟨w.heap.size, 1, none⟩) (by simp)).trans (by simp), by have := hu.size; simpa using this⟩
  have HN : Hid (∀ u u' : World, Below (w.heap.size + 1) (w.alloc (.cells #[.slice a1 caps.length cap1, .slice a2 paths.length cap2] 25)) u → Below u.heap.size u u' → Below (w.heap.size + 1) (w.alloc (.cells #[.slice a1 caps.length cap1, .slice a2 paths.length cap2] 25)) u') := fun u u' hu hu' => hu.trans (hu'.mono (HCW.out _ hu).2.2)
  obtain ⟨i0, hi, hz0, hz1, hz2⟩ := info_parts infoFrac
  clear hg
  go_enter Tryd.func4, Tryd.ntmps4
  go_wp2_with fail
  refine (HRL.out _ ((Below.refl _ _).alloc (Nat.le_refl _) _)).mono ?_
  rintro e w1 ⟨y1, rfl, hy1, hw1⟩
  have C1 : Hid (Below (w.heap.size + 1) (w.alloc (.cells #[.slice a1 caps.length cap1, .slice a2 paths.length cap2] 25)) w1) := hw1.mono (by simp)
  obtain ⟨g0, g1, z1⟩ := HCW.out _ C1.out
  have Y1 : Hid (FracsAt (fun _ => True) w1 y1 ls) := hy1.keep (fun _ _ _ => rfl) (fun _ _ _ => trivial)
  obtain ⟨b1, c1, rfl, ⟨hmy, hny⟩, _⟩ := hy1
  clear hw1
  go_wp2_with fail
  refine (HOf.out _ (HBW.out _ C1.out)).mono ?_
  rintro e w2 ⟨y2, rfl, hy2, hw2⟩
  have C2 : Hid (Below (w.heap.size + 1) (w.alloc (.cells #[.slice a1 caps.length cap1, .slice a2 paths.length cap2] 25)) w2) := HN.out _ _ C1.out hw2
  obtain ⟨g0, g1, z2⟩ := HCW.out _ C2.out
  have Y2 : Hid (FracsAt (fun _ => True) w2 (.slice b1 ls.length c1) ls) := Y1.out.later hw2
  have X2 : Hid (FracsAt (fun _ => True) w2 y2 ls) := hy2.keep (fun _ _ _ => rfl) (fun _ _ _ => trivial)
  obtain ⟨b2, c2, rfl, _⟩ := hy2
  clear hw2
  go_wp2_with fail
  refine (HE0.out _ (HBW.out _ C2.out)).mono ?_
  rintro e w3 ⟨rfl, hw3⟩
  have C3 : Hid (Below (w.heap.size + 1) (w.alloc (.cells #[.slice a1 caps.length cap1, .slice a2 paths.length cap2] 25)) w3) := HN.out _ _ C2.out hw3
  have Y3 : Hid (FracsAt (fun _ => True) w3 (.slice b1 ls.length c1) ls) := Y2.out.later hw3
  have HS3 : Hid (Calls Tryd.prog 12 #[.slice b2 ls.length c2, .slice b1 ls.length c1] w3 fun e w' => e = .returned (.bool true) ∧ ∃ n, w' = w3.drewN n) := by
    have := SFracs_any ls ls _ _ w3 (X2.out.later hw3) Y3.out
    rw [eqF_self] at this
    exact this
  clear hw3
  go_wp2_with fail
  refine HS3.out.mono ?_
  rintro e w4 ⟨rfl, n4, rfl⟩
  have C4 : Hid (Below (w.heap.size + 1) (w.alloc (.cells #[.slice a1 caps.length cap1, .slice a2 paths.length cap2] 25)) (w3.drewN n4)) := below_drewN C3.out _
  have Y4 : Hid (FracsAt (fun _ => True) (w3.drewN n4) (.slice b1 ls.length c1) ls) := Y3.out.later (below_drewN (Below.refl _ _) _)
  clear HS3 Y3 C3 X2
  generalize w3.drewN n4 = w4 at *
  obtain ⟨g0, g1, z4⟩ := HCW.out _ C4.out
  go_wp2_with fail
  refine (HRF.out _ (HBW.out _ C4.out)).mono ?_
  rintro e w5 ⟨rfl, hw5⟩
  have C5 : Hid (Below (w.heap.size + 1) (w.alloc (.cells #[.slice a1 caps.length cap1, .slice a2 paths.length cap2] 25)) w5) := HN.out _ _ C4.out hw5
  obtain ⟨g0, g1, z5⟩ := HCW.out _ C5.out
  have Y5 : Hid (FracsAt (fun _ => True) w5 (.slice b1 ls.length c1) ls) := Y4.out.later hw5
  clear hw5
  go_wp2_with fail
  refine (HFi.out _ (HBW.out _ C5.out)).mono ?_
  rintro e w6 ⟨rfl, hw6⟩
  have C6 : Hid (Below (w.heap.size + 1) (w.alloc (.cells #[.slice a1 caps.length cap1, .slice a2 paths.length cap2] 25)) w6) := HN.out _ _ C5.out hw6
  have Y6 : Hid (FracsAt (fun _ => True) w6 (.slice b1 ls.length c1) ls) := Y5.out.later hw6
  clear hw6
  go_wp2_with fail
  refine (HE0.out _ (HBW.out _ C6.out)).mono ?_
  rintro e w7 ⟨rfl, hw7⟩
  have C7 : Hid (Below (w.heap.size + 1) (w.alloc (.cells #[.slice a1 caps.length cap1, .slice a2 paths.length cap2] 25)) w7) := HN.out _ _ C6.out hw7
  have Y7 : Hid (∀ i, i < caps.length → ∃ b off, b1 = some ⟨b, off, none⟩ ∧ ∀ u, Below w7.heap.size w7 u → u.cell? ⟨b, off + i * 2, none⟩ = some (.int .i64 (ls.getD i (0, 0)).1) ∧ u.cell? ⟨b, off + i * 2 + 1, none⟩ = some (.int .i64 (ls.getD i (0, 0)).2)) := by
    intro i hi
    obtain ⟨a, cap, e, _, hc⟩ := Y6.out.later hw7
    simp only [Value.slice.injEq] at e
    obtain ⟨rfl, _, rfl⟩ := e
    rcases hc with hc | ⟨b, off, rfl, hc, _⟩
    · have l5 := l2; rw [hc] at l5; simp only [List.length_nil] at l5; omega
    · exact ⟨b, off, rfl, fun u hu => ⟨cell_later hu (hc i (by omega)).1, cell_later hu (hc i (by omega)).2⟩⟩
  obtain ⟨g0, g1, z7⟩ := HCW.out _ C7.out
  clear hw7 Y1 Y2 Y4 Y5 Y6 C1 C2 C4 C5 C6 HRL HRF HOf HFi
  have qf : (fb == fb) = true := by simp
  go_wp2
  go_loopw [6, 13, 14, 16] (fun e o i _ wr => ∃ (k : Nat) (ev : Int), k ≤ caps.length ∧ i = .int .i64 k ∧ e = .int .i64 ev ∧ Hid (Below w7.heap.size w7 wr) ∧
      Hid ((ev = 0 ∧ wr.ownsRow w7.heap.size 46 2 o k (flat (lf.take k)) ∧ ∀ i, i < k → mayP (lf.getD i (0, 0)) = true) ∨ (ev = 4 ∧ o = .slice none 0 0 ∧ E4 = 4))) (fun _ _ i _ _ => caps.length - (intOf i).toNat)
  case atStart => exact ⟨0, 0, by omega, rfl, rfl, Below.refl _ _, .inl ⟨rfl, World.ownsRow_nil _ _ _ _, fun i hi => by omega⟩⟩
  case round =>
    obtain ⟨k, ev, hk, rfl, rfl, hbel, hn⟩ := hrel
    have C8 : Hid (Below (w.heap.size + 1) (w.alloc (.cells #[.slice a1 caps.length cap1, .slice a2 paths.length cap2] 25)) wr) := HN.out _ _ C7.out hbel.out
    clear g0 g1
    obtain ⟨g0, g1, z8⟩ := HCW.out _ C8.out
    by_cases hev : ev = 0
    · subst hev
      obtain ⟨hown, hall⟩ : wr.ownsRow w7.heap.size 46 2 u13 k (flat (lf.take k)) ∧ ∀ i, i < k → mayP (lf.getD i (0, 0)) = true := by
        rcases hn.out with h | h
        · exact h.2
        · exact absurd h.1 (by decide)
      have HOw : Hid (wr.ownsRow w7.heap.size 46 2 u13 k (flat (lf.take k))) := hown
      have HAl : Hid (∀ i, i < k → mayP (lf.getD i (0, 0)) = true) := hall
      clear hown hall hn
      by_cases hlt : k < caps.length
      · have hltl : (k : Int) < (ls.length : Int) := by omega
        have hltn : k < ls.length := by omega
        obtain ⟨b, off, rfl, hc⟩ := Y7.out k hlt
        obtain ⟨c1, c2⟩ := hc _ hbel.out
        obtain ⟨b', off', cap', e, hc'⟩ := HCp.out k hlt
        simp only [Value.slice.injEq] at e
        obtain ⟨rfl, _, rfl⟩ := e
        have c3 := hc' _ (HBW.out _ C8.out)
        obtain ⟨f1, f2, b1, b2⟩ := HRt.out k hlt
        have hneg := fault_neg f1
        have hbd := fault_0 f1
        have HWh : Hid (∀ u : World, Calls Tryd.prog 16 #[.int .i64 (caps.getD k 0)] u fun e w' => e = .returned (.agg #[.int .i64 (caps.getD k 0), .int .i64 1]) ∧ Below u.heap.size u w') := fun u => Whole_any _ u
        have HMi : Hid (∀ u : World, Calls Tryd.prog 17 #[.agg #[.int .i64 (ls.getD k (0, 0)).1, .int .i64 (ls.getD k (0, 0)).2]] u fun e w' => e = .returned (.agg #[.int .i64 (-(ls.getD k (0, 0)).1), .int .i64 (ls.getD k (0, 0)).2]) ∧ Below u.heap.size u w') := fun u => Minus_any _ _ u hbd.2.2.1 hbd.2.2.2
        have hla := HLa.out k hlt
        have HSu : Hid (∀ u : World, Calls Tryd.prog 15 #[.agg #[.int .i64 (caps.getD k 0), .int .i64 1], .agg #[.int .i64 (-(ls.getD k (0, 0)).1), .int .i64 (ls.getD k (0, 0)).2]] u fun e w' => e = .returned (.agg #[.int .i64 (lf.getD k (0, 0)).1, .int .i64 (lf.getD k (0, 0)).2]) ∧ Below u.heap.size u w') := fun u => by
          rw [hla]
          exact Sum_any _ _ _ _ u f2 hneg
        have HBg : Hid (∀ u : World, Calls Tryd.prog 18 #[.agg #[.int .i64 (lf.getD k (0, 0)).1, .int .i64 (lf.getD k (0, 0)).2]] u fun e w' => e = .returned (.bool (!mayP (lf.getD k (0, 0)))) ∧ Below u.heap.size u w') := fun u => by
          have := Big_any (lf.getD k (0, 0)).1 (lf.getD k (0, 0)).2 u
          have hp : 1 ≤ (1 : Int) * (ls.getD k (0, 0)).2 := by omega
          have e : bigB (lf.getD k (0, 0)).1 (lf.getD k (0, 0)).2 = !mayP (lf.getD k (0, 0)) := by rw [hla]; exact bigB_low hp
          rw [e] at this
          exact this
        have hnb : b < wr.heap.size := World.block_lt_of_cell? _ _ c1
        have hnb' : b' < wr.heap.size := World.block_lt_of_cell? _ _ c3
        have hnw : w.heap.size < wr.heap.size := by omega
        have HLB : Hid (mayP (lf.getD k (0, 0)) = false → E4 = 4) := fun h => HLb.out k hlt h
        have HFT : Hid (flat (lf.take (k + 1)) = flat (lf.take k) ++ [.int .i64 (lf.getD k (0, 0)).1, .int .i64 (lf.getD k (0, 0)).2]) := by
          show _ = _
          rw [take_snoc lf k (by omega) (0, 0), flat_append]; rfl
        have HAl' : Hid (mayP (lf.getD k (0, 0)) = true → ∀ i, i < k + 1 → mayP (lf.getD i (0, 0)) = true) := by
          intro h i hi
          by_cases hik : i = k
          · rw [hik]; exact h
          · exact HAl.out i (by omega)
        have P1 : Hid (Below wr.heap.size wr wr.drew) := (Below.refl _ _).drew
        have HSA : Hid (∀ u : World, Below wr.heap.size wr u → u.cell? ⟨w.heap.size, 0, none⟩ = some (.slice (some ⟨b', off', none⟩) caps.length cap1) ∧ u.cell? ⟨b', off' + k, none⟩ = some (.int .i64 (caps.getD k 0)) ∧ u.cell? ⟨b, off + k * 2, none⟩ = some (.int .i64 (ls.getD k (0, 0)).1) ∧ u.cell? ⟨b, off + k * 2 + 1, none⟩ = some (.int .i64 (ls.getD k (0, 0)).2)) := fun u hu => ⟨cell_later hu g0, cell_later hu c3, cell_later hu c1, cell_later hu c2⟩
        generalize mayP (lf.getD k (0, 0)) = mb at *
        generalize (lf.getD k (0, 0)).1 = x' at *
        generalize (lf.getD k (0, 0)).2 = y' at *
        generalize (ls.getD k (0, 0)).1 = t at *
        generalize (ls.getD k (0, 0)).2 = bo at *
        generalize caps.getD k 0 = c at *
        clear f1 f2 hneg hbd hla hc hc' b1 b2
        go_upto_region 13 with fail
        go_cut [15] (fun s15 wc => ∃ g, s15 = .pointer (some ⟨g, 0, none⟩) ∧ wc.cell? ⟨g, 0, none⟩ = some (.int .i64 x') ∧ wc.cell? ⟨g, 1, none⟩ = some (.int .i64 y') ∧ Hid (Below wr.heap.size wr wc))
        case first =>
          go_region_held3 (fun u => u.cell? ⟨w.heap.size, 0, none⟩ = some (.slice (some ⟨b', off', none⟩) caps.length cap1) ∧ u.cell? ⟨b', off' + k, none⟩ = some (.int .i64 c) ∧ u.cell? ⟨b, off + k * 2, none⟩ = some (.int .i64 t) ∧ u.cell? ⟨b, off + k * 2 + 1, none⟩ = some (.int .i64 bo))
            ((refine HSA.out _ ?_; first
              | exact P1.out | exact Hbt.out | exact Hbn.out | exact Hba.out
              | exact P1.out.alloc P1.out.size _ | exact Hbt.out.alloc Hbt.out.size _ | exact Hbn.out.alloc Hbn.out.size _ | exact Hba.out.alloc Hba.out.size _
              | (refine (Hba.out.setCell ?_ _).setCell ?_ _ <;> (simp; try omega))))
            (first
              | (go_at_call 16; refine (HWh.out _).mono ?_; rintro e wt ⟨rfl, hwt⟩; obtain ⟨hct, hft⟩ := bcell hwt; have hzt : ∀ n, n < _ → n < wt.heap.size := fun n h => Nat.lt_of_lt_of_le h hwt.size; (first | (have zz := fun (n : Nat) h => Nat.lt_of_lt_of_le (hzn n h) (Nat.le_trans (by simp) hwt.size)) | skip); have Hbt : Hid (Below wr.heap.size wr wt) := (by first | exact P1.out.trans (hwt.mono P1.out.size) | exact (P1.out.alloc P1.out.size _).trans (hwt.mono (P1.out.alloc P1.out.size _).size) | exact Hbn.out.trans (hwt.mono Hbn.out.size) | exact (Hbn.out.alloc Hbn.out.size _).trans (hwt.mono (Hbn.out.alloc Hbn.out.size _).size)); have yt := Hbt.out.size)
              | (go_at_call 17; refine (HMi.out _).mono ?_; rintro e wn ⟨rfl, hwn⟩; obtain ⟨hcn, hfn⟩ := bcell hwn; have hzn : ∀ n, n < _ → n < wn.heap.size := fun n h => Nat.lt_of_lt_of_le h hwn.size; (first | (have zz := fun (n : Nat) h => Nat.lt_of_lt_of_le (hzt n h) (Nat.le_trans (by simp) hwn.size)) | skip); have Hbn : Hid (Below wr.heap.size wr wn) := (by first | exact P1.out.trans (hwn.mono P1.out.size) | exact (P1.out.alloc P1.out.size _).trans (hwn.mono (P1.out.alloc P1.out.size _).size) | exact Hbt.out.trans (hwn.mono Hbt.out.size) | exact (Hbt.out.alloc Hbt.out.size _).trans (hwn.mono (Hbt.out.alloc Hbt.out.size _).size)); have yn := Hbn.out.size)
              | (go_at_call 15; refine (HSu.out _).mono ?_; rintro e wa ⟨rfl, hwa⟩; obtain ⟨hca, hfa⟩ := bcell hwa; have hza : ∀ n, n < _ → n < wa.heap.size := fun n h => Nat.lt_of_lt_of_le h hwa.size; have Hba : Hid (Below wr.heap.size wr wa) := (by first | exact Hbt.out.trans (hwa.mono Hbt.out.size) | exact (Hbt.out.alloc Hbt.out.size _).trans (hwa.mono (Hbt.out.alloc Hbt.out.size _).size) | exact Hbn.out.trans (hwa.mono Hbn.out.size) | exact (Hbn.out.alloc Hbn.out.size _).trans (hwa.mono (Hbn.out.alloc Hbn.out.size _).size)); have ya := Hba.out.size))
          all_goals
            go_wp2_with fail
            go_meet
            case rel =>
              refine ⟨_, rfl, ?_, ?_, ?_⟩
              · first | (go_simp; done) | (refine (cell_set2 (z := .int .i64 0) (z' := .int .i64 0) ?_ ?_).1 <;> (go_simp; done))
              · first | (go_simp; done) | (refine (cell_set2 (z := .int .i64 0) (z' := .int .i64 0) ?_ ?_).2 <;> (go_simp; done))
              · first | exact Hba.out.alloc ya _ | exact Hba.out | (refine (Hba.out.setCell ?_ _).setCell ?_ _ <;> (simp; try omega))
        case rest =>
          obtain ⟨g, rfl, m0, m1, hba⟩ := hcut
          have hsg := hba.out.size
          cases mb with
          | true =>
            have HAl2 : Hid (∀ i, i < k + 1 → mayP (lf.getD i (0, 0)) = true) := HAl'.out rfl
            go_wp2_with fail
            refine (HBg.out _).mono ?_
            rintro e w9 ⟨rfl, hw9⟩
            have n0 := cell_later hw9 m0
            have n1 := cell_later hw9 m1
            have HB9 : Hid (Below wr.heap.size wr w9) := hba.out.trans (hw9.mono hba.out.size)
            have HO9 : Hid (w9.ownsRow w7.heap.size 46 2 u13 k (flat (lf.take k))) := ownsRow_below HB9.out (Nat.le_refl _) HOw.out
            have C9 : Hid (Below w7.heap.size w7 w9) := hbel.out.trans (HB9.out.mono hbel.out.size)
            have s9 : w7.heap.size ≤ w9.heap.size := C9.out.size
            clear hw9
            go_wp2_with (at_builtin; go_must (refine wpList_append_own _ rfl (.tmp 85) (.tmp 87) 35 rfl w7.heap.size 46 i0 (.agg #[.int .i64 0, .int .i64 0]) 2 16 Tryd.underlying35 hi hz0 hz1 hz2 rfl (by decide) _ _ _ rfl (HO9.out.alloc _) ⟨w9.heap.size, 0, none⟩ 1 1 [.int .i64 x', .int .i64 y'] rfl rfl (news_two w9 _ _ _) (ones_two x' y') (by unfold maxLen; omega) (by omega) (by simp; omega) ?_))
            intro v' w10 hown' hgrow _
            have R1 : Hid (Below w7.heap.size w7 w10) := rel_append C9.out s9 HO9.out hgrow
            have R2 : Hid (w10.ownsRow w7.heap.size 46 2 v' (k + 1) (flat (lf.take (k + 1)))) := by
              show World.ownsRow _ _ _ _ _ _ _
              rw [HFT.out]
              exact hown'
            clear hown' hgrow
            go_wp2
            go_roundw
            case rel =>
              exact ⟨k + 1, 0, by omega, by go_num, rfl, R1, .inl ⟨rfl, R2.out, HAl2.out⟩⟩
            case measure => simp [intOf]; omega
          | false =>
            have HE4 : Hid (E4 = 4) := HLB.out rfl
            go_wp2_with fail
            refine (HBg.out _).mono ?_
            rintro e w9 ⟨rfl, hw9⟩
            have HB9 : Hid (Below wr.heap.size wr w9) := hba.out.trans (hw9.mono hba.out.size)
            have C9 : Hid (Below w7.heap.size w7 w9) := hbel.out.trans (HB9.out.mono hbel.out.size)
            clear hw9
            go_wp2
            go_roundw
            case rel =>
              exact ⟨k + 1, 4, by omega, by go_num, rfl, C9, .inr ⟨rfl, rfl, HE4.out⟩⟩
            case measure => simp [intOf]; omega
      · obtain rfl : k = caps.length := by omega
        have hE : Hid (E4 = 0) := HLg.out HAl.out
        have HE9 : Hid (∀ u : World, Below w.heap.size w u → Calls Tryd.prog 8 #[errV E4, .int .i64 0] u fun e w' => e = .returned (.bool true) ∧ Below u.heap.size u w') := fun u hu => by
          have := HEr.out E4 u hu
          rw [hE.out] at this ⊢
          exact this
        have HLe0 : Hid (∀ u : World, Below w.heap.size w u → Calls Tryd.prog 19 #[.agg #[.slice a1 caps.length cap1, .slice a2 paths.length cap2], .slice ar r.length capr] u fun e w' => ∃ y, e = .returned (.tuple #[y, errV E4]) ∧ FracsAt (fun b => u.heap.size ≤ b) w' y lf ∧ Below u.heap.size u w') := fun u hu => by
          have := HLe.out u hu
          rw [show okL E4 lf = lf by rw [hE.out]; rfl] at this
          exact this
        have hF : FracsAt (fun _ => True) wr u13 lf := fracs_of_owns (base := w7.heap.size) (by omega) (by have := HOw.out; rw [List.take_of_length_le (by omega)] at this; rw [HLF.out]; exact this) (fun _ _ => trivial)
        have HF : Hid (FracsAt (fun _ => True) wr u13 lf) := hF
        obtain ⟨bo, co, rfl, _⟩ := hF
        clear HOw HAl
        go_wp2_with fail
        refine (HLe0.out _ (HBW.out _ C8.out)).mono ?_
        rintro e w9 ⟨y9, rfl, hy9, hw9⟩
        have C9 : Hid (Below (w.heap.size + 1) (w.alloc (.cells #[.slice a1 caps.length cap1, .slice a2 paths.length cap2] 25)) w9) := HN.out _ _ C8.out hw9
        have HF9 : Hid (FracsAt (fun _ => True) w9 (.slice bo lf.length co) lf) := HF.out.later hw9
        have HY9 : Hid (FracsAt (fun _ => True) w9 y9 lf) := hy9.keep (fun _ _ _ => rfl) (fun _ _ _ => trivial)
        obtain ⟨b9, c9, rfl, _⟩ := hy9
        clear hw9
        go_wp2_with fail
        refine (HE9.out _ (HBW.out _ C9.out)).mono ?_
        rintro e w10 ⟨rfl, hw10⟩
        have C10 : Hid (Below (w.heap.size + 1) (w.alloc (.cells #[.slice a1 caps.length cap1, .slice a2 paths.length cap2] 25)) w10) := HN.out _ _ C9.out hw10
        have HS : Hid (Calls Tryd.prog 12 #[.slice b9 lf.length c9, .slice bo lf.length co] w10 fun e w' => e = .returned (.bool true) ∧ ∃ n, w' = w10.drewN n) := by
          have := SFracs_any lf lf _ _ w10 (HY9.out.later hw10) (HF9.out.later hw10)
          rw [eqF_self] at this
          exact this
        clear hw10
        go_wp2_with fail
        refine HS.out.mono ?_
        rintro e w11 ⟨rfl, n11, rfl⟩
        go_wp2
        go_ret
        exact ⟨Ns.ret_bool rfl, below_drewN (HBW.out _ C10.out) _⟩
    · obtain ⟨rfl, rfl, hE⟩ : ev = 4 ∧ u13 = .slice none 0 0 ∧ E4 = 4 := by
        rcases hn.out with h | h
        · exact absurd h.1 hev
        · exact h
      have HE9 : Hid (∀ u : World, Below w.heap.size w u → Calls Tryd.prog 8 #[errV E4, .int .i64 4] u fun e w' => e = .returned (.bool true) ∧ Below u.heap.size u w') := fun u hu => by
        have := HEr.out E4 u hu
        rw [hE] at this ⊢
        exact this
      have HLe4 : Hid (∀ u : World, Below w.heap.size w u → Calls Tryd.prog 19 #[.agg #[.slice a1 caps.length cap1, .slice a2 paths.length cap2], .slice ar r.length capr] u fun e w' => ∃ y, e = .returned (.tuple #[y, errV E4]) ∧ FracsAt (fun b => u.heap.size ≤ b) w' y [] ∧ Below u.heap.size u w') := fun u hu => by
        have := HLe.out u hu
        rw [show okL E4 lf = [] by rw [hE]; rfl] at this
        exact this
      clear hE
      have HSF : Hid (∀ (a : Option Addr) (c : Nat) (u : World), Calls Tryd.prog 12 #[.slice a 0 c, .slice none 0 0] u fun e w' => e = .returned (.bool true) ∧ ∃ n, w' = u.drewN n) := fun a c u =>
        SFracs_any (Q := fun _ => True) (R := fun _ => True) [] [] _ _ u ⟨a, c, rfl, ⟨Nat.zero_le _, by simp⟩, .inl rfl⟩ (fracs_nil _ _)
      clear hn hev
      by_cases hlt : k < caps.length
      · have hlt' : (k : Int) < (ls.length : Int) := by omega
        go_wp2_with fail
        refine (HLe4.out _ (HBW.out _ C8.out)).mono ?_
        rintro e w9 ⟨y9, rfl, hy9, hw9⟩
        have C9 : Hid (Below (w.heap.size + 1) (w.alloc (.cells #[.slice a1 caps.length cap1, .slice a2 paths.length cap2] 25)) w9) := HN.out _ _ C8.out hw9
        obtain ⟨b9, c9, rfl, _⟩ := hy9
        simp only [List.length_nil]
        clear hw9
        go_wp2_with fail
        refine (HE9.out _ (HBW.out _ C9.out)).mono ?_
        rintro e w10 ⟨rfl, hw10⟩
        have C10 : Hid (Below (w.heap.size + 1) (w.alloc (.cells #[.slice a1 caps.length cap1, .slice a2 paths.length cap2] 25)) w10) := HN.out _ _ C9.out hw10
        clear hw10
        go_wp2_with fail
        refine (HSF.out _ _ _).mono ?_
        rintro e w11 ⟨rfl, n11, rfl⟩
        go_wp2
        go_ret
        exact ⟨Ns.ret_bool rfl, below_drewN (HBW.out _ C10.out) _⟩
      · have hlt' : ¬ (k : Int) < (ls.length : Int) := by omega
        go_wp2_with fail
        refine (HLe4.out _ (HBW.out _ C8.out)).mono ?_
        rintro e w9 ⟨y9, rfl, hy9, hw9⟩
        have C9 : Hid (Below (w.heap.size + 1) (w.alloc (.cells #[.slice a1 caps.length cap1, .slice a2 paths.length cap2] 25)) w9) := HN.out _ _ C8.out hw9
        obtain ⟨b9, c9, rfl, _⟩ := hy9
        simp only [List.length_nil]
        clear hw9
        go_wp2_with fail
        refine (HE9.out _ (HBW.out _ C9.out)).mono ?_
        rintro e w10 ⟨rfl, hw10⟩
        have C10 : Hid (Below (w.heap.size + 1) (w.alloc (.cells #[.slice a1 caps.length cap1, .slice a2 paths.length cap2] 25)) w10) := HN.out _ _ C9.out hw10
        clear hw10
        go_wp2_with fail
        refine (HSF.out _ _ _).mono ?_
        rintro e w11 ⟨rfl, n11, rfl⟩
        go_wp2
        go_ret
        exact ⟨Ns.ret_bool rfl, below_drewN (HBW.out _ C10.out) _⟩
end Ld
end Go.Proofs.YtmoeaaocpnoibabDoor
