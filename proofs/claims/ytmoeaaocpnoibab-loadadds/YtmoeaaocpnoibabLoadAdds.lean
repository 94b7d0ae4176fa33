/- The law LoadAdds returns true for every net, rates and path: what goes over and what is left is all; with a flow of rate 0 more the loads are the same. -/
import Derived.Test.YtmoeaaocpnoibabLoadD
import Derived.Test.YtmoeaaocpnoibabLoadE
import Derived.Test.YtmoeaaocpnoibabLdSame
import Derived.Test.YtmoeaaocpnoibabNetE
import Derived.Test.YtmoeaaocpnoibabLits
import Derived.Deep.DeepCutAuto
namespace Go.Proofs.Ytmoeaaocpnoibab
namespace Ld
open Go.RowKit Fr Ns
set_option linter.unusedSimpArgs false
set_option linter.unusedVariables false

theorem ones_flat : ∀ (l : List (Int × Int)) (y : Value), y ∈ flat l → y.oneCell' = true := by
  intro l
  induction l with
  | nil => intro y h; simp [flat] at h
  | cons a r ih =>
    intro y h
    simp only [flat, List.mem_cons] at h
    rcases h with rfl | rfl | h
    · rfl
    · rfl
    · exact ih y h
theorem fact_E : loadE [5] [[0], [0]] [(1, 2), (1, 2)] = 0 := by decide +kernel
theorem fact_L : loadL [[0], [0]] [(1, 2), (1, 2)] 1 = [(1, 1)] := by decide +kernel
/-- what is left of a load that is right, where it may be: right; and both together are all -/
theorem left_all {c : Int} {x : Int × Int} (hx : faultP x = 0) (h1 : 1 ≤ c) (h2 : c ≤ 1000) (hm : mayP (leftOf c x) = true) : faultP (leftOf c x) = 0 ∧ sumP x (leftOf c x) = (c, 1) := by
  have hb := fault_0 hx
  have hs := left_sum (c := c) hx
  refine ⟨?_, Prod.ext hs.1 hs.2⟩
  exact fault_low (show 1 ≤ (1 : Int) * x.2 by omega) hm

set_option maxRecDepth 100000 in
set_option maxHeartbeats 8000000 in
theorem loadAdds_walk (caps path : List Int) (paths : List (List Int)) (r : List (Int × Int)) (v x p : Value) (w : World)
    (hv : NetAt (fun b => b < w.heap.size) w v caps paths) (hx : FracsAt (fun b => b < w.heap.size) w x r) (hp : IntsAt (fun b => b < w.heap.size) w p path) :
    Calls Try.prog 3 #[v, x, p] w fun e w' => e = .returned (.bool true) ∧ Below w.heap.size w w' := by
  have HOf0 : Hid (∀ u : World, Below w.heap.size w u → Calls Try.prog 5 #[v, x] u fun e w' => ∃ y, e = .returned (.tuple #[y, errV (loadE caps paths r)]) ∧ FracsAt (fun b => u.heap.size ≤ b) w' y (okL (loadE caps paths r) (loadL paths r caps.length)) ∧ Below u.heap.size u w') := fun u hu => of_said _ caps paths r v x u (hv.later hu) (hx.later hu)
  have HFi0 : Hid (∀ u : World, Below w.heap.size w u → Calls Try.prog 7 #[v, x] u fun e w' => e = .returned (.tuple #[.bool (decide (loadE caps paths r = 0) && fitsB caps paths r), errV (loadE caps paths r)]) ∧ Below u.heap.size u w') := fun u hu => fits_said _ caps paths r v x u (hv.later hu) (hx.later hu)
  have HLe0 : Hid (∀ u : World, Below w.heap.size w u → Calls Try.prog 6 #[v, x] u fun e w' => ∃ y, e = .returned (.tuple #[y, errV (leftE caps paths r)]) ∧ FracsAt (fun b => u.heap.size ≤ b) w' y (okL (leftE caps paths r) (leftL caps paths r)) ∧ Below u.heap.size u w') := fun u hu => left_said _ caps paths r v x u (hv.later hu) (hx.later hu)
  have HAd0 : Hid (∀ u : World, Below w.heap.size w u → Calls Try.prog 9 #[v, p] u fun e w' => ∃ x, e = .returned (.tuple #[x, errV (Ns.addE caps paths path)]) ∧ NetAt (fun b => u.heap.size ≤ b) w' x (okL (Ns.addE caps paths path) caps) (okL (Ns.addE caps paths path) (paths ++ [path])) ∧ Below u.heap.size u w') := fun u hu => add_said _ caps paths path v p u (hv.later hu) (hp.later hu)
  have HRx : Hid (FracsAt (fun b => b < w.heap.size) w x r) := hx
  obtain ⟨v1, v2, rfl, h1, h2⟩ := hv
  have HCp : Hid (∀ i, i < caps.length → ∃ b off, ∃ cap, v1 = .slice (some ⟨b, off, none⟩) caps.length cap ∧ ∀ u, Below w.heap.size w u → u.cell? ⟨b, off + i, none⟩ = some (.int .i64 (caps.getD i 0))) := by
    intro i hi
    obtain ⟨a, cap, e, _, hc⟩ := h1
    rcases hc with rfl | ⟨b, off, rfl, hc, _⟩
    · simp at hi
    · exact ⟨b, off, cap, e, fun u hu => cell_later hu (hc i hi)⟩
  obtain ⟨a1, cap1, rfl, ⟨hm1, hn1⟩, _⟩ := h1
  obtain ⟨a2, cap2, rfl, ⟨hm2, hn2⟩, _⟩ := h2
  obtain ⟨ar, capr, rfl, ⟨hm3, hn3⟩, _⟩ := hx
  obtain ⟨ap, capp, rfl, ⟨hm4, hn4⟩, _⟩ := hp
  obtain ⟨i0, hi, hz0, hz1, hz2⟩ := info_parts infoFrac
  have HBW : Hid (∀ u, Below (w.heap.size + 1) (w.alloc (.cells #[.slice a1 caps.length cap1, .slice a2 paths.length cap2] 25)) u → Below w.heap.size w u) := fun u hu => ((Below.refl _ _).alloc (Nat.le_refl _) _).trans (hu.mono (by omega))
  have HCW : Hid (∀ u, Below (w.heap.size + 1) (w.alloc (.cells #[.slice a1 caps.length cap1, .slice a2 paths.length cap2] 25)) u → u.cell? ⟨w.heap.size, 0, none⟩ = some (.slice a1 caps.length cap1) ∧ u.cell? ⟨w.heap.size, 1, none⟩ = some (.slice a2 paths.length cap2) ∧ w.heap.size + 1 ≤ u.heap.size) := fun u hu =>
    ⟨(hu.cell (p := ⟨w.heap.size, 0, none⟩) (by simp)).trans (by simp), (hu.cell (p := ⟨w.heap.size, 1, none⟩) (by simp)).trans (by simp), by have := hu.size; simpa using this⟩
  have hNB : Hid (w.heap.size + 1 ≤ (w.alloc (.cells #[.slice a1 caps.length cap1, .slice a2 paths.length cap2] 25)).heap.size) := by simp [Hid]
  go_enter Try.func3, Try.ntmps3
  go_wp2_with fail
  refine (of_said (fun _ => True) [5] [[0], [0]] [(1, 2), (1, 2)] _ _ _ ?lit1 ?lit2).mono ?_
  case lit1 => exact ⟨_, _, rfl, lit_int1 _ (w.heap.size + 1 + 1) 5 (by go_simp), lit_lists2 _ (w.heap.size + 1 + 1 + 1 + 1 + 1) _ _ [0] [0] (by go_simp) (by go_simp) (lit_int1 _ (w.heap.size + 1 + 1 + 1) 0 (by go_simp)) (lit_int1 _ (w.heap.size + 1 + 1 + 1 + 1) 0 (by go_simp))⟩
  case lit2 => exact lit_fracs2 _ (w.heap.size + 1 + 1 + 1 + 1 + 1 + 1) 1 2 1 2 (by go_simp) (by go_simp) (by go_simp) (by go_simp)
  rintro e w1 ⟨x1, rfl, hx1, hw1⟩
  rw [fact_E, okL_0, show ([5] : List Int).length = 1 from rfl, fact_L] at hx1
  rw [fact_E, errV_0]
  obtain ⟨ax, cx, rfl, ⟨hmx, _⟩, hx1⟩ := hx1
  rcases hx1 with h | ⟨bx, ox, rfl, hcx, _⟩
  · cases h
  have x0 : w1.cell? ⟨bx, ox, none⟩ = some (.int .i64 1) := by simpa using (hcx 0 (by decide)).1
  have x1 : w1.cell? ⟨bx, ox + 1, none⟩ = some (.int .i64 1) := by simpa using (hcx 0 (by decide)).2
  have HC1 : Hid (Below (w.heap.size + 1) (w.alloc (.cells #[.slice a1 caps.length cap1, .slice a2 paths.length cap2] 25)) w1) := (((((((Below.refl _ _).alloc (by simp) _).alloc (by simp) _).alloc (by simp) _).alloc (by simp) _).alloc (by simp) _).alloc (by simp) _).trans (hw1.mono (by simp))
  obtain ⟨g0, g1, z1⟩ := HCW.out _ HC1.out
  simp only [List.length_cons, List.length_nil] at hmx ⊢
  clear hw1 hcx
  by_cases he : loadE caps paths r = 0
  · have HE0 : Hid (loadE caps paths r = 0) := he
    rw [he, errV_0, okL_0] at HOf0
    rw [he, errV_0, show (decide ((0 : Int) = 0) && fitsB caps paths r) = fitsB caps paths r by simp] at HFi0
    obtain ⟨e1, e2, e3, e4⟩ := loadE_0 he
    have h0 := netE_0 e1
    have HRt : Hid (∀ i, i < caps.length → faultP ((loadL paths r caps.length).getD i (0, 0)) = 0 ∧ fault (caps.getD i 0) 1 = 0 ∧ 1 ≤ caps.getD i 0 ∧ caps.getD i 0 ≤ 1000) := fun i hi => load_right' he hi
    have HLa : Hid (∀ i, i < caps.length → (leftL caps paths r).getD i (0, 0) = leftOf (caps.getD i 0) ((loadL paths r caps.length).getD i (0, 0))) := fun i hi => leftL_at' hi
    have HLg : Hid (leftE caps paths r = 0 → ∀ i, i < caps.length → mayP ((leftL caps paths r).getD i (0, 0)) = true) := by
      intro h4 i hi
      cases hm : mayP ((leftL caps paths r).getD i (0, 0)) with
      | true => rfl
      | false => have := left_bad' he hi hm; omega
    have HFg : Hid (fitsB caps paths r = true → ∀ i, i < caps.length → ((loadL paths r caps.length).getD i (0, 0)).1 ≤ caps.getD i 0 * ((loadL paths r caps.length).getD i (0, 0)).2) := by
      intro h4 i hi
      by_cases ho : caps.getD i 0 * ((loadL paths r caps.length).getD i (0, 0)).2 < ((loadL paths r caps.length).getD i (0, 0)).1
      · rw [fits_over' hi ho] at h4; cases h4
      · omega
    have hlsE : (loadL paths r caps.length).length = caps.length := loadL_length _ _ _
    have hlfE : (leftL caps paths r).length = caps.length := leftL_length _ _ _
    have HLd : Hid (loadL paths r caps.length = loadL paths r caps.length) := rfl
    have HFb : Hid (fitsB caps paths r = fitsB caps paths r) := rfl
    have hr6 : r.length ≤ 6 := by omega
    have hr1 : 0 < r.length := by omega
    have hc1 : 0 < caps.length := h0.1
    have hc6 : caps.length ≤ 6 := h0.2.1
    have hp6 : paths.length ≤ 6 := h0.2.2.2.1
    generalize hlse : loadL paths r caps.length = ls at HOf0 HRt HLa HFg hlsE HLd
    generalize hfbe : fitsB caps paths r = fb at HFi0 HFg HFb
    generalize leftL caps paths r = lf at *
    generalize leftE caps paths r = E4 at *
    replace HLd : Hid (loadL paths r caps.length = ls) := hlse
    replace HFb : Hid (fitsB caps paths r = fb) := hfbe
    have q : ((ls.length : Int) != (caps.length : Int)) = false := by rw [hlsE]; simp
    have HLS : Hid (ls.length = caps.length) := hlsE
    have HLF : Hid (lf.length = caps.length) := hlfE
    have l1 : ls.length ≤ caps.length := Nat.le_of_eq HLS.out
    have l2 : caps.length ≤ ls.length := Nat.le_of_eq HLS.out.symm
    have HRc : Hid (∃ br off, ar = some ⟨br, off, none⟩ ∧ ∀ u : World, Below w.heap.size w u → ∀ j y, (flat r)[j]? = some y → u.cell? ((⟨br, off, none⟩ : Addr).add j) = some y) := by
      obtain ⟨_, _, e, _, hc⟩ := HRx.out
      simp only [Value.slice.injEq] at e
      obtain ⟨rfl, _, rfl⟩ := e
      rcases hc with hc | ⟨b, off, rfl, hc, _⟩
      · rw [hc] at hr1; simp at hr1
      · exact ⟨b, off, rfl, fun u hu => cells_flat (fun i hi => ⟨cell_later hu (hc i hi).1, cell_later hu (hc i hi).2⟩)⟩
    obtain ⟨br, off, rfl, hrc⟩ := HRc.out
    replace HRc : Hid (∀ u : World, Below w.heap.size w u → ∀ j y, (flat r)[j]? = some y → u.cell? ((⟨br, off, none⟩ : Addr).add j) = some y) := hrc
    clear he e1 e2 e3 e4 h0 hlsE hlfE hlse hfbe hrc HRx
    go_wp2_with fail
    refine (HOf0.out _ (HBW.out _ HC1.out)).mono ?_
    rintro e w2 ⟨y2, rfl, hy2, hw2⟩
    have HC2 : Hid (Below (w.heap.size + 1) (w.alloc (.cells #[.slice a1 caps.length cap1, .slice a2 paths.length cap2] 25)) w2) := Bel.call HC1.out hNB.out hw2
    have HX2 : Hid (FracsAt (fun _ => True) w2 y2 ls) := hy2.keep (fun _ _ _ => rfl) (fun _ _ _ => trivial)
    obtain ⟨ay, cy, rfl, ⟨hmy, hny⟩, _⟩ := hy2
    obtain ⟨g0, g1, z2⟩ := HCW.out _ HC2.out
    clear hw2 x0 x1
    go_wp2_with fail
    refine (HLe0.out _ (HBW.out _ HC2.out)).mono ?_
    rintro e w3 ⟨y3, rfl, hy3, hw3⟩
    have HC3 : Hid (Below (w.heap.size + 1) (w.alloc (.cells #[.slice a1 caps.length cap1, .slice a2 paths.length cap2] 25)) w3) := Bel.call HC2.out hNB.out hw3
    have HX3 : Hid (FracsAt (fun _ => True) w3 (.slice ay ls.length cy) ls) := HX2.out.later hw3
    have HY3 : Hid (FracsAt (fun _ => True) w3 y3 (okL E4 lf)) := hy3.keep (fun _ _ _ => rfl) (fun _ _ _ => trivial)
    obtain ⟨a5, n5, c5, rfl⟩ := hy3.shape
    obtain ⟨g0, g1, z3⟩ := HCW.out _ HC3.out
    clear hw3 hy3
    go_wp2_with fail
    refine (HFi0.out _ (HBW.out _ HC3.out)).mono ?_
    rintro e w4 ⟨rfl, hw4⟩
    have HC4 : Hid (Below (w.heap.size + 1) (w.alloc (.cells #[.slice a1 caps.length cap1, .slice a2 paths.length cap2] 25)) w4) := Bel.call HC3.out hNB.out hw4
    have HX4 : Hid (FracsAt (fun _ => True) w4 (.slice ay ls.length cy) ls) := HX3.out.later hw4
    have HY4 : Hid (FracsAt (fun _ => True) w4 (.slice a5 n5 c5) (okL E4 lf)) := HY3.out.later hw4
    obtain ⟨g0, g1, z4⟩ := HCW.out _ HC4.out
    clear hw4 HX2 HX3 HY3
    by_cases hE : E4 = 0
    · subst hE
      rw [errV_0]
      rw [okL_0] at HY4
      have HMy : Hid (∀ i, i < caps.length → mayP (lf.getD i (0, 0)) = true) := HLg.out rfl
      have HXc : Hid (∀ i, i < caps.length → ∃ b off, ay = some ⟨b, off, none⟩ ∧ ∀ u, Below w4.heap.size w4 u → u.cell? ⟨b, off + i * 2, none⟩ = some (.int .i64 (ls.getD i (0, 0)).1) ∧ u.cell? ⟨b, off + i * 2 + 1, none⟩ = some (.int .i64 (ls.getD i (0, 0)).2)) := by
        intro i hi
        obtain ⟨a, cap, e, _, hc⟩ := HX4.out
        simp only [Value.slice.injEq] at e
        obtain ⟨rfl, _, rfl⟩ := e
        rcases hc with hc | ⟨b, off, rfl, hc, _⟩
        · have := HLS.out; rw [hc] at this; simp only [List.length_nil] at this; omega
        · exact ⟨b, off, rfl, fun u hu => ⟨cell_later hu (hc i (by omega)).1, cell_later hu (hc i (by omega)).2⟩⟩
      have HYc : Hid (∀ i, i < caps.length → ∃ b off, a5 = some ⟨b, off, none⟩ ∧ ∀ u, Below w4.heap.size w4 u → u.cell? ⟨b, off + i * 2, none⟩ = some (.int .i64 (lf.getD i (0, 0)).1) ∧ u.cell? ⟨b, off + i * 2 + 1, none⟩ = some (.int .i64 (lf.getD i (0, 0)).2)) := by
        intro i hi
        obtain ⟨a, cap, e, _, hc⟩ := HY4.out
        simp only [Value.slice.injEq] at e
        obtain ⟨rfl, _, rfl⟩ := e
        have := HLF.out
        rcases hc with hc | ⟨b, off, rfl, hc, _⟩
        · rw [hc] at this; simp only [List.length_nil] at this; omega
        · exact ⟨b, off, rfl, fun u hu => ⟨cell_later hu (hc i (by omega)).1, cell_later hu (hc i (by omega)).2⟩⟩
      have hn5 : caps.length ≤ n5 := by
        obtain ⟨_, _, e, _⟩ := HY4.out
        simp only [Value.slice.injEq] at e
        have := HLF.out
        omega
      go_wp2
      go_loopw [15, 17] (fun i _ wr => ∃ k : Nat, k ≤ caps.length ∧ i = .int .i64 k ∧ Hid (Below w4.heap.size w4 wr)) (fun i _ _ => caps.length - (intOf i).toNat)
      case atStart => exact ⟨0, by omega, rfl, Below.refl _ _⟩
      case round =>
        obtain ⟨k, hk, rfl, hbel⟩ := hrel
        have HCr : Hid (Below (w.heap.size + 1) (w.alloc (.cells #[.slice a1 caps.length cap1, .slice a2 paths.length cap2] 25)) wr) := Bel.call HC4.out hNB.out hbel.out
        have HXr : Hid (FracsAt (fun _ => True) wr (.slice ay ls.length cy) ls) := HX4.out.later hbel.out
        clear g0 g1
        obtain ⟨g0, g1, zr⟩ := HCW.out _ HCr.out
        by_cases hlt : k < caps.length
        · have hltl : (k : Int) < (ls.length : Int) := by omega
          have hltn : k < ls.length := by omega
          have hlt5 : k < n5 := by omega
          obtain ⟨b, off1, rfl, hc⟩ := HXc.out k hlt
          obtain ⟨c1, c2⟩ := hc _ hbel.out
          obtain ⟨b', off', rfl, hc'⟩ := HYc.out k hlt
          obtain ⟨c3, c4⟩ := hc' _ hbel.out
          obtain ⟨b'', off'', cap'', e, hc''⟩ := HCp.out k hlt
          simp only [Value.slice.injEq] at e
          obtain ⟨rfl, _, rfl⟩ := e
          have c5' := hc'' _ (HBW.out _ HCr.out)
          obtain ⟨f1, f2, b1, b2⟩ := HRt.out k hlt
          have hla := HLa.out k hlt
          have hmy := HMy.out k hlt
          rw [hla] at hmy
          obtain ⟨q1, q2⟩ := left_all f1 b1 b2 hmy
          rw [← hla] at q1 q2
          have HSg : Hid (fb = true → 0 ≤ (lf.getD k (0, 0)).1) := fun h => by rw [hla]; exact left_sign f1 (HFg.out h k hlt)
          have HAdd := (show Hid (∀ u : World, _) from fun u => Add_may f1 q1 (by rw [q2]; exact mayB_iff.2 (by omega)) u)
          rw [q2] at HAdd
          have P1 : Hid (Below wr.heap.size wr wr.drew) := (Below.refl _ _).drew
          have HSA : Hid (∀ u : World, Below wr.heap.size wr u → u.cell? ⟨b, off1 + k * 2, none⟩ = some (.int .i64 (ls.getD k (0, 0)).1) ∧ u.cell? ⟨b, off1 + k * 2 + 1, none⟩ = some (.int .i64 (ls.getD k (0, 0)).2) ∧ u.cell? ⟨b', off' + k * 2, none⟩ = some (.int .i64 (lf.getD k (0, 0)).1) ∧ u.cell? ⟨b', off' + k * 2 + 1, none⟩ = some (.int .i64 (lf.getD k (0, 0)).2)) := fun u hu => ⟨cell_later hu c1, cell_later hu c2, cell_later hu c3, cell_later hu c4⟩
          generalize (ls.getD k (0, 0)).1 = t at *
          generalize (ls.getD k (0, 0)).2 = bo at *
          generalize (lf.getD k (0, 0)).1 = t' at *
          generalize (lf.getD k (0, 0)).2 = bo' at *
          generalize caps.getD k 0 = c at *
          replace HAdd : Hid (∀ u : World, Calls Try.prog 8 #[.agg #[.int .i64 t, .int .i64 bo], .agg #[.int .i64 t', .int .i64 bo']] u fun e w' => e = .returned (.tuple #[.agg #[.int .i64 c, .int .i64 1], .nilIface]) ∧ Below u.heap.size u w') := HAdd
          clear f1 f2 hla hmy q1 q2 hc hc' hc''
          go_upto_region 17 with fail
          go_cut [16, 17] (fun s16 s17 wc => ∃ g, s16 = .pointer (some ⟨g, 0, none⟩) ∧ s17 = .nilIface ∧ wc.cell? ⟨g, 0, none⟩ = some (.int .i64 c) ∧ wc.cell? ⟨g, 1, none⟩ = some (.int .i64 1) ∧ Hid (Below wr.heap.size wr wc))
          case first =>
            go_region_held3 (fun u => u.cell? ⟨b, off1 + k * 2, none⟩ = some (.int .i64 t) ∧ u.cell? ⟨b, off1 + k * 2 + 1, none⟩ = some (.int .i64 bo) ∧ u.cell? ⟨b', off' + k * 2, none⟩ = some (.int .i64 t') ∧ u.cell? ⟨b', off' + k * 2 + 1, none⟩ = some (.int .i64 bo'))
              ((refine HSA.out _ ?_; first
                | exact P1.out | exact Hba.out
                | exact Bel.more P1.out (Nat.le_refl _) _ | exact Bel.more Hba.out (Nat.le_refl _) _
                | (refine (Hba.out.setCell ?_ _).setCell ?_ _ <;> (simp; try omega))))
              (first
                | (go_at_call 8; refine (HAdd.out _).mono ?_; rintro e wa ⟨rfl, hwa⟩; obtain ⟨hca, hfa⟩ := bcell hwa; have Hba : Hid (Below wr.heap.size wr wa) := (by first | exact Bel.call P1.out (Nat.le_refl _) hwa | exact Bel.call (Bel.more P1.out (Nat.le_refl _) _) (Nat.le_refl _) hwa); have ya := Hba.out.size))
            all_goals
              go_wp2_with fail
              go_meet
              case rel =>
                refine ⟨_, rfl, rfl, ?_, ?_, ?_⟩
                · first | (go_simp; done) | (refine (cell_set2 (z := .int .i64 0) (z' := .int .i64 0) ?_ ?_).1 <;> (go_simp; done))
                · first | (go_simp; done) | (refine (cell_set2 (z := .int .i64 0) (z' := .int .i64 0) ?_ ?_).2 <;> (go_simp; done))
                · first | exact Hba.out.alloc ya _ | exact Hba.out | (refine (Hba.out.setCell ?_ _).setCell ?_ _ <;> (simp; try omega))
          case rest =>
            obtain ⟨g, rfl, rfl, m0, m1, hba⟩ := hcut
            have d0 := cell_later hba.out g0
            have d3 := cell_later hba.out c3
            have d5 := cell_later hba.out c5'
            have HBc : Hid (Below w4.heap.size w4 wc) := Bel.call hbel.out (Nat.le_refl _) hba.out
            have qc : (c != c) = false := by simp
            clear g0 g1 c1 c2 c3 c4 c5' HSA P1
            cases fb with
            | false =>
              go_wp2_with fail
              go_quiet (fail)
              go_wp2
              go_roundw
              case rel => exact ⟨k + 1, by omega, by go_num, below_drewN HBc.out _⟩
              case measure => simp [intOf]; omega
            | true =>
              have hs : 0 ≤ t' := HSg.out rfl
              have hs' : decide (t' < 0) = false := decide_eq_false (by omega)
              go_wp2_with fail
              go_quiet (fail)
              go_wp2
              go_roundw
              case rel => exact ⟨k + 1, by omega, by go_num, below_drewN HBc.out _⟩
              case measure => simp [intOf]; omega
        · have hltl : ¬ (k : Int) < (ls.length : Int) := by omega
          clear HXc HYc HCp HMy
          by_cases hA : Ns.addE caps paths path = 0
          · obtain ⟨lm1, lm2, lm3⟩ := load_more HE0.out hA
            have HAd : Hid (∀ u : World, Below w.heap.size w u → Calls Try.prog 9 #[.agg #[.slice a1 caps.length cap1, .slice a2 paths.length cap2], .slice ap path.length capp] u fun e w' => ∃ x, e = .returned (.tuple #[x, .nilIface]) ∧ NetAt (fun b => u.heap.size ≤ b) w' x caps (paths ++ [path]) ∧ Below u.heap.size u w') := fun u hu => by
              have := HAd0.out u hu
              rw [hA, errV_0, okL_0, okL_0] at this
              exact this
            have HLM : Hid (loadE caps (paths ++ [path]) (r ++ [(0, 1)]) = 0 ∧ loadL (paths ++ [path]) (r ++ [(0, 1)]) caps.length = ls ∧ fitsB caps (paths ++ [path]) (r ++ [(0, 1)]) = fb) := ⟨lm1, (lm2 _).trans HLd.out, lm3.trans HFb.out⟩
            clear hA lm1 lm2 lm3
            go_wp2_with fail
            refine (HAd.out _ (HBW.out _ HCr.out)).mono ?_
            rintro e w8 ⟨x8, rfl, hx8, hw8⟩
            have HC8 : Hid (Below (w.heap.size + 1) (w.alloc (.cells #[.slice a1 caps.length cap1, .slice a2 paths.length cap2] 25)) w8) := Bel.call HCr.out hNB.out hw8
            have HX8 : Hid (FracsAt (fun _ => True) w8 (.slice ay ls.length cy) ls) := HXr.out.later hw8
            have HM8 : Hid (NetAt (fun _ => True) w8 x8 caps (paths ++ [path])) := hx8.keep (fun _ _ _ => rfl) (fun _ _ _ => trivial)
            obtain ⟨_, _, rfl, ⟨a3, cap3, rfl, ⟨hm5, hn5⟩, _⟩, ⟨a4, cap4, rfl, ⟨hm6, hn6⟩, _⟩⟩ := hx8
            have hl4 : (paths ++ [path]).length = paths.length + 1 := by simp
            rw [hl4] at HM8 hm6 hn6 ⊢
            obtain ⟨g08, g18, z8⟩ := HCW.out _ HC8.out
            have HSr : Hid (∀ u : World, Below w.heap.size w u → ∀ j y, (flat r)[j]? = some y → u.cell? ((⟨br, off, none⟩ : Addr).add j) = some y) := fun u hu j y hj => HRc.out u hu j y hj
            have B8 : Hid (Below (w8.heap.size + 1) (w8.alloc (.cells #[.slice a3 caps.length cap3, .slice a4 (paths.length + 1) cap4] 25)) (w8.alloc (.cells #[.slice a3 caps.length cap3, .slice a4 (paths.length + 1) cap4] 25))) := Below.refl _ _
            have HW8 : Hid (∀ u : World, Below (w8.heap.size + 1) (w8.alloc (.cells #[.slice a3 caps.length cap3, .slice a4 (paths.length + 1) cap4] 25)) u → Below w8.heap.size w8 u) := fun u hu => ((Below.refl _ _).alloc (Nat.le_refl _) _).trans (hu.mono (by omega))
            have hN8 : Hid (w8.heap.size + 1 ≤ (w8.alloc (.cells #[.slice a3 caps.length cap3, .slice a4 (paths.length + 1) cap4] 25)).heap.size) := by simp [Hid]
            have hr0 : 0 + r.length ≤ maxLen := by unfold maxLen; omega
            have hrs : Hid (∀ j y, (flat r)[j]? = some y → (w8.alloc (.cells #[.slice a3 caps.length cap3, .slice a4 (paths.length + 1) cap4] 25)).cell? ((⟨br, off, none⟩ : Addr).add j) = some y) := HSr.out _ ((HBW.out _ HC8.out).trans ((HW8.out _ B8.out).mono (HBW.out _ HC8.out).size))
            have hfl : (flat r).length = r.length * 2 := flat_length r
            have hone : ∀ y ∈ flat r, y.oneCell' = true := ones_flat r
            clear hw8 hl4
            go_wp2_with (at_builtin; go_must (refine wpList_append_own _ rfl (.tmp 144) (.tmp 145) 26 rfl (w8.heap.size + 1) 28 i0 (.agg #[.int .i64 0, .int .i64 0]) 2 16 Try.underlying26 hi hz0 hz1 hz2 rfl (by decide) (.slice none 0 0) 0 [] rfl (World.ownsRow_nil _ _ _ _) ⟨br, off, none⟩ r.length capr (flat r) rfl hfl hrs.out hone hr0 (by omega) (by simp) ?_))
            intro v9 w9 hown9 hgrow9 _
            have B9 : Hid (Below (w8.heap.size + 1) (w8.alloc (.cells #[.slice a3 caps.length cap3, .slice a4 (paths.length + 1) cap4] 25)) w9) := (Below.refl _ _).grown hgrow9 (by simp) (by intro k hk; simp [Value.ownBlock] at hk)
            have HO9 : Hid (w9.ownsRow (w8.heap.size + 1) 28 2 v9 r.length (flat r)) := by simpa [Hid] using hown9
            have s9 : w8.heap.size + 1 ≤ w9.heap.size := Nat.le_trans hN8.out B9.out.size
            clear hown9 hgrow9 hfl hone hr0
            go_wp2_with (at_builtin; go_must (refine wpList_append_own _ rfl (.tmp 147) (.tmp 149) 26 rfl (w8.heap.size + 1) 28 i0 (.agg #[.int .i64 0, .int .i64 0]) 2 16 Try.underlying26 hi hz0 hz1 hz2 rfl (by decide) _ _ _ rfl (HO9.out.alloc _) ⟨w9.heap.size, 0, none⟩ 1 1 [.int .i64 0, .int .i64 1] rfl rfl (news_two w9 _ _ _) (ones_two 0 1) (by unfold maxLen; omega) (by omega) (by simp; omega) ?_))
            intro v10 w10 hown10 hgrow10 _
            have B10 : Hid (Below (w8.heap.size + 1) (w8.alloc (.cells #[.slice a3 caps.length cap3, .slice a4 (paths.length + 1) cap4] 25)) w10) := rel_append B9.out s9 HO9.out hgrow10
            have hF10 : FracsAt (fun b => w8.heap.size ≤ b) w10 v10 (r ++ [(0, 1)]) := fracs_of_owns (base := w8.heap.size + 1) (by simp; omega) (by rw [flat_append]; simpa [flat] using hown10) (fun g hg => by omega)
            have HF10 : Hid (FracsAt (fun _ => True) w10 v10 (r ++ [(0, 1)])) := hF10.keep (fun _ _ _ => rfl) (fun _ _ _ => trivial)
            obtain ⟨ar', cr', rfl, _⟩ := hF10
            have b80 : ∀ u : World, Below (w8.heap.size + 1) (w8.alloc (.cells #[.slice a3 caps.length cap3, .slice a4 (paths.length + 1) cap4] 25)) u → u.cell? ⟨w8.heap.size, 0, none⟩ = some (.slice a3 caps.length cap3) ∧ u.cell? ⟨w8.heap.size, 1, none⟩ = some (.slice a4 (paths.length + 1) cap4) := fun u hu => ⟨(hu.cell (p := ⟨w8.heap.size, 0, none⟩) (by simp)).trans (by simp), (hu.cell (p := ⟨w8.heap.size, 1, none⟩) (by simp)).trans (by simp)⟩
            have HB80 : Hid (∀ u : World, Below (w8.heap.size + 1) (w8.alloc (.cells #[.slice a3 caps.length cap3, .slice a4 (paths.length + 1) cap4] 25)) u → u.cell? ⟨w8.heap.size, 0, none⟩ = some (.slice a3 caps.length cap3) ∧ u.cell? ⟨w8.heap.size, 1, none⟩ = some (.slice a4 (paths.length + 1) cap4)) := b80
            obtain ⟨k0, k1⟩ := b80 _ B10.out
            have HOm : Hid (∀ u : World, Below w10.heap.size w10 u → Calls Try.prog 5 #[.agg #[.slice a3 caps.length cap3, .slice a4 (paths.length + 1) cap4], .slice ar' (r ++ [(0, 1)]).length cr'] u fun e w' => ∃ y, e = .returned (.tuple #[y, .nilIface]) ∧ FracsAt (fun b => u.heap.size ≤ b) w' y ls ∧ Below u.heap.size u w') := fun u hu => by
              have := of_said (fun _ => True) caps (paths ++ [path]) (r ++ [(0, 1)]) _ _ u (HM8.out.later ((HW8.out _ B10.out).trans (hu.mono (HW8.out _ B10.out).size))) (HF10.out.later hu)
              rw [HLM.out.1, HLM.out.2.1, errV_0, okL_0] at this
              exact this
            have HFm : Hid (∀ u : World, Below w10.heap.size w10 u → Calls Try.prog 7 #[.agg #[.slice a3 caps.length cap3, .slice a4 (paths.length + 1) cap4], .slice ar' (r ++ [(0, 1)]).length cr'] u fun e w' => e = .returned (.tuple #[.bool fb, .nilIface]) ∧ Below u.heap.size u w') := fun u hu => by
              have := fits_said (fun _ => True) caps (paths ++ [path]) (r ++ [(0, 1)]) _ _ u (HM8.out.later ((HW8.out _ B10.out).trans (hu.mono (HW8.out _ B10.out).size))) (HF10.out.later hu)
              rw [HLM.out.1, HLM.out.2.2, errV_0, show (decide ((0 : Int) = 0) && fb) = fb by simp] at this
              exact this
            generalize (r ++ [(0, 1)]).length = nr at *
            have HX10 : Hid (FracsAt (fun _ => True) w10 (.slice ay ls.length cy) ls) := HX8.out.later (HW8.out _ B10.out)
            have HC10 : Hid (Below w.heap.size w w10) := (HBW.out _ HC8.out).trans ((HW8.out _ B10.out).mono (HBW.out _ HC8.out).size)
            clear b80 hown10 hgrow10
            go_wp2_with fail
            refine (HOm.out _ (Below.refl _ _)).mono ?_
            rintro e w11 ⟨y11, rfl, hy11, hw11⟩
            have B11 : Hid (Below (w8.heap.size + 1) (w8.alloc (.cells #[.slice a3 caps.length cap3, .slice a4 (paths.length + 1) cap4] 25)) w11) := Bel.call B10.out hN8.out hw11
            have B11' : Hid (Below w10.heap.size w10 w11) := hw11
            have HY11 : Hid (FracsAt (fun _ => True) w11 y11 ls) := hy11.keep (fun _ _ _ => rfl) (fun _ _ _ => trivial)
            obtain ⟨a11, c11, rfl, _⟩ := hy11
            obtain ⟨k0', k1'⟩ := HB80.out _ B11.out
            clear hw11 k0 k1
            go_wp2_with fail
            refine (HFm.out _ B11'.out).mono ?_
            rintro e w12 ⟨rfl, hw12⟩
            have B12 : Hid (Below w10.heap.size w10 w12) := Bel.call B11'.out (Nat.le_refl _) hw12
            have HS : Hid (Calls Try.prog 10 #[.slice a11 ls.length c11, .slice ay ls.length cy] w12 fun e w' => e = .returned (.bool true) ∧ ∃ n, w' = w12.drewN n) := by
              have := SFracs_any ls ls _ _ w12 (HY11.out.later hw12) (HX10.out.later B12.out)
              rw [eqF_self] at this
              exact this
            have qf : (fb == fb) = true := by simp
            clear hw12 k0' k1'
            go_wp2_with fail
            refine HS.out.mono ?_
            rintro e w13 ⟨rfl, n13, rfl⟩
            go_wp2
            go_ret
            exact ⟨Ns.ret_bool rfl, below_drewN (HC10.out.trans (B12.out.mono HC10.out.size)) _⟩
          · have HV : Hid (errV (Ns.addE caps paths path) = .iface 53 (.int .i64 (Ns.addE caps paths path))) := errV_ne hA
            have HAd : Hid (∀ u : World, Below w.heap.size w u → Calls Try.prog 9 #[.agg #[.slice a1 caps.length cap1, .slice a2 paths.length cap2], .slice ap path.length capp] u fun e w' => ∃ x, e = .returned (.tuple #[x, .iface 53 (.int .i64 (Ns.addE caps paths path))]) ∧ NetAt (fun b => u.heap.size ≤ b) w' x [] [] ∧ Below u.heap.size u w') := fun u hu => by
              have := HAd0.out u hu
              rw [HV.out, okL_ne hA, okL_ne hA] at this
              exact this
            clear HV hA HAd0
            generalize Ns.addE caps paths path = ek at *
            go_wp2_with fail
            refine (HAd.out _ (HBW.out _ HCr.out)).mono ?_
            rintro e w8 ⟨x8, rfl, hx8, hw8⟩
            have HC8 : Hid (Below (w.heap.size + 1) (w.alloc (.cells #[.slice a1 caps.length cap1, .slice a2 paths.length cap2] 25)) w8) := Bel.call HCr.out hNB.out hw8
            obtain ⟨_, _, _, _, _, _, rfl⟩ := hx8.shape
            clear hw8 hx8
            go_wp2
            go_ret
            exact ⟨Ns.ret_bool rfl, (HBW.out _ HC8.out).alloc (HBW.out _ HC8.out).size _⟩
    · have HV : Hid (errV E4 = .iface 53 (.int .i64 E4)) := errV_ne hE
      rw [HV.out]
      have hl0 : (0 : Int) < (ls.length : Int) := by omega
      have HCr := HC4
      have HXr := HX4
      clear hE HV HY4
      go_wp2
      go_loop [15, 17] (fun i _ => i = .int .i64 0) (fun _ _ => 0)
      case atStart => rfl
      case round =>
        subst hrel
        by_cases hA : Ns.addE caps paths path = 0
        · obtain ⟨lm1, lm2, lm3⟩ := load_more HE0.out hA
          have HAd : Hid (∀ u : World, Below w.heap.size w u → Calls Try.prog 9 #[.agg #[.slice a1 caps.length cap1, .slice a2 paths.length cap2], .slice ap path.length capp] u fun e w' => ∃ x, e = .returned (.tuple #[x, .nilIface]) ∧ NetAt (fun b => u.heap.size ≤ b) w' x caps (paths ++ [path]) ∧ Below u.heap.size u w') := fun u hu => by
            have := HAd0.out u hu
            rw [hA, errV_0, okL_0, okL_0] at this
            exact this
          have HLM : Hid (loadE caps (paths ++ [path]) (r ++ [(0, 1)]) = 0 ∧ loadL (paths ++ [path]) (r ++ [(0, 1)]) caps.length = ls ∧ fitsB caps (paths ++ [path]) (r ++ [(0, 1)]) = fb) := ⟨lm1, (lm2 _).trans HLd.out, lm3.trans HFb.out⟩
          clear hA lm1 lm2 lm3
          go_wp2_with fail
          refine (HAd.out _ (HBW.out _ HCr.out)).mono ?_
          rintro e w8 ⟨x8, rfl, hx8, hw8⟩
          have HC8 : Hid (Below (w.heap.size + 1) (w.alloc (.cells #[.slice a1 caps.length cap1, .slice a2 paths.length cap2] 25)) w8) := Bel.call HCr.out hNB.out hw8
          have HX8 : Hid (FracsAt (fun _ => True) w8 (.slice ay ls.length cy) ls) := HXr.out.later hw8
          have HM8 : Hid (NetAt (fun _ => True) w8 x8 caps (paths ++ [path])) := hx8.keep (fun _ _ _ => rfl) (fun _ _ _ => trivial)
          obtain ⟨_, _, rfl, ⟨a3, cap3, rfl, ⟨hm5, hn5⟩, _⟩, ⟨a4, cap4, rfl, ⟨hm6, hn6⟩, _⟩⟩ := hx8
          have hl4 : (paths ++ [path]).length = paths.length + 1 := by simp
          rw [hl4] at HM8 hm6 hn6 ⊢
          obtain ⟨g08, g18, z8⟩ := HCW.out _ HC8.out
          have HSr : Hid (∀ u : World, Below w.heap.size w u → ∀ j y, (flat r)[j]? = some y → u.cell? ((⟨br, off, none⟩ : Addr).add j) = some y) := fun u hu j y hj => HRc.out u hu j y hj
          have B8 : Hid (Below (w8.heap.size + 1) (w8.alloc (.cells #[.slice a3 caps.length cap3, .slice a4 (paths.length + 1) cap4] 25)) (w8.alloc (.cells #[.slice a3 caps.length cap3, .slice a4 (paths.length + 1) cap4] 25))) := Below.refl _ _
          have HW8 : Hid (∀ u : World, Below (w8.heap.size + 1) (w8.alloc (.cells #[.slice a3 caps.length cap3, .slice a4 (paths.length + 1) cap4] 25)) u → Below w8.heap.size w8 u) := fun u hu => ((Below.refl _ _).alloc (Nat.le_refl _) _).trans (hu.mono (by omega))
          have hN8 : Hid (w8.heap.size + 1 ≤ (w8.alloc (.cells #[.slice a3 caps.length cap3, .slice a4 (paths.length + 1) cap4] 25)).heap.size) := by simp [Hid]
          have hr0 : 0 + r.length ≤ maxLen := by unfold maxLen; omega
          have hrs : Hid (∀ j y, (flat r)[j]? = some y → (w8.alloc (.cells #[.slice a3 caps.length cap3, .slice a4 (paths.length + 1) cap4] 25)).cell? ((⟨br, off, none⟩ : Addr).add j) = some y) := HSr.out _ ((HBW.out _ HC8.out).trans ((HW8.out _ B8.out).mono (HBW.out _ HC8.out).size))
          have hfl : (flat r).length = r.length * 2 := flat_length r
          have hone : ∀ y ∈ flat r, y.oneCell' = true := ones_flat r
          clear hw8 hl4
          go_wp2_with (at_builtin; go_must (refine wpList_append_own _ rfl (.tmp 144) (.tmp 145) 26 rfl (w8.heap.size + 1) 28 i0 (.agg #[.int .i64 0, .int .i64 0]) 2 16 Try.underlying26 hi hz0 hz1 hz2 rfl (by decide) (.slice none 0 0) 0 [] rfl (World.ownsRow_nil _ _ _ _) ⟨br, off, none⟩ r.length capr (flat r) rfl hfl hrs.out hone hr0 (by omega) (by simp) ?_))
          intro v9 w9 hown9 hgrow9 _
          have B9 : Hid (Below (w8.heap.size + 1) (w8.alloc (.cells #[.slice a3 caps.length cap3, .slice a4 (paths.length + 1) cap4] 25)) w9) := (Below.refl _ _).grown hgrow9 (by simp) (by intro k hk; simp [Value.ownBlock] at hk)
          have HO9 : Hid (w9.ownsRow (w8.heap.size + 1) 28 2 v9 r.length (flat r)) := by simpa [Hid] using hown9
          have s9 : w8.heap.size + 1 ≤ w9.heap.size := Nat.le_trans hN8.out B9.out.size
          clear hown9 hgrow9 hfl hone hr0
          go_wp2_with (at_builtin; go_must (refine wpList_append_own _ rfl (.tmp 147) (.tmp 149) 26 rfl (w8.heap.size + 1) 28 i0 (.agg #[.int .i64 0, .int .i64 0]) 2 16 Try.underlying26 hi hz0 hz1 hz2 rfl (by decide) _ _ _ rfl (HO9.out.alloc _) ⟨w9.heap.size, 0, none⟩ 1 1 [.int .i64 0, .int .i64 1] rfl rfl (news_two w9 _ _ _) (ones_two 0 1) (by unfold maxLen; omega) (by omega) (by simp; omega) ?_))
          intro v10 w10 hown10 hgrow10 _
          have B10 : Hid (Below (w8.heap.size + 1) (w8.alloc (.cells #[.slice a3 caps.length cap3, .slice a4 (paths.length + 1) cap4] 25)) w10) := rel_append B9.out s9 HO9.out hgrow10
          have hF10 : FracsAt (fun b => w8.heap.size ≤ b) w10 v10 (r ++ [(0, 1)]) := fracs_of_owns (base := w8.heap.size + 1) (by simp; omega) (by rw [flat_append]; simpa [flat] using hown10) (fun g hg => by omega)
          have HF10 : Hid (FracsAt (fun _ => True) w10 v10 (r ++ [(0, 1)])) := hF10.keep (fun _ _ _ => rfl) (fun _ _ _ => trivial)
          obtain ⟨ar', cr', rfl, _⟩ := hF10
          have b80 : ∀ u : World, Below (w8.heap.size + 1) (w8.alloc (.cells #[.slice a3 caps.length cap3, .slice a4 (paths.length + 1) cap4] 25)) u → u.cell? ⟨w8.heap.size, 0, none⟩ = some (.slice a3 caps.length cap3) ∧ u.cell? ⟨w8.heap.size, 1, none⟩ = some (.slice a4 (paths.length + 1) cap4) := fun u hu => ⟨(hu.cell (p := ⟨w8.heap.size, 0, none⟩) (by simp)).trans (by simp), (hu.cell (p := ⟨w8.heap.size, 1, none⟩) (by simp)).trans (by simp)⟩
          have HB80 : Hid (∀ u : World, Below (w8.heap.size + 1) (w8.alloc (.cells #[.slice a3 caps.length cap3, .slice a4 (paths.length + 1) cap4] 25)) u → u.cell? ⟨w8.heap.size, 0, none⟩ = some (.slice a3 caps.length cap3) ∧ u.cell? ⟨w8.heap.size, 1, none⟩ = some (.slice a4 (paths.length + 1) cap4)) := b80
          obtain ⟨k0, k1⟩ := b80 _ B10.out
          have HOm : Hid (∀ u : World, Below w10.heap.size w10 u → Calls Try.prog 5 #[.agg #[.slice a3 caps.length cap3, .slice a4 (paths.length + 1) cap4], .slice ar' (r ++ [(0, 1)]).length cr'] u fun e w' => ∃ y, e = .returned (.tuple #[y, .nilIface]) ∧ FracsAt (fun b => u.heap.size ≤ b) w' y ls ∧ Below u.heap.size u w') := fun u hu => by
            have := of_said (fun _ => True) caps (paths ++ [path]) (r ++ [(0, 1)]) _ _ u (HM8.out.later ((HW8.out _ B10.out).trans (hu.mono (HW8.out _ B10.out).size))) (HF10.out.later hu)
            rw [HLM.out.1, HLM.out.2.1, errV_0, okL_0] at this
            exact this
          have HFm : Hid (∀ u : World, Below w10.heap.size w10 u → Calls Try.prog 7 #[.agg #[.slice a3 caps.length cap3, .slice a4 (paths.length + 1) cap4], .slice ar' (r ++ [(0, 1)]).length cr'] u fun e w' => e = .returned (.tuple #[.bool fb, .nilIface]) ∧ Below u.heap.size u w') := fun u hu => by
            have := fits_said (fun _ => True) caps (paths ++ [path]) (r ++ [(0, 1)]) _ _ u (HM8.out.later ((HW8.out _ B10.out).trans (hu.mono (HW8.out _ B10.out).size))) (HF10.out.later hu)
            rw [HLM.out.1, HLM.out.2.2, errV_0, show (decide ((0 : Int) = 0) && fb) = fb by simp] at this
            exact this
          generalize (r ++ [(0, 1)]).length = nr at *
          have HX10 : Hid (FracsAt (fun _ => True) w10 (.slice ay ls.length cy) ls) := HX8.out.later (HW8.out _ B10.out)
          have HC10 : Hid (Below w.heap.size w w10) := (HBW.out _ HC8.out).trans ((HW8.out _ B10.out).mono (HBW.out _ HC8.out).size)
          clear b80 hown10 hgrow10
          go_wp2_with fail
          refine (HOm.out _ (Below.refl _ _)).mono ?_
          rintro e w11 ⟨y11, rfl, hy11, hw11⟩
          have B11 : Hid (Below (w8.heap.size + 1) (w8.alloc (.cells #[.slice a3 caps.length cap3, .slice a4 (paths.length + 1) cap4] 25)) w11) := Bel.call B10.out hN8.out hw11
          have B11' : Hid (Below w10.heap.size w10 w11) := hw11
          have HY11 : Hid (FracsAt (fun _ => True) w11 y11 ls) := hy11.keep (fun _ _ _ => rfl) (fun _ _ _ => trivial)
          obtain ⟨a11, c11, rfl, _⟩ := hy11
          obtain ⟨k0', k1'⟩ := HB80.out _ B11.out
          clear hw11 k0 k1
          go_wp2_with fail
          refine (HFm.out _ B11'.out).mono ?_
          rintro e w12 ⟨rfl, hw12⟩
          have B12 : Hid (Below w10.heap.size w10 w12) := Bel.call B11'.out (Nat.le_refl _) hw12
          have HS : Hid (Calls Try.prog 10 #[.slice a11 ls.length c11, .slice ay ls.length cy] w12 fun e w' => e = .returned (.bool true) ∧ ∃ n, w' = w12.drewN n) := by
            have := SFracs_any ls ls _ _ w12 (HY11.out.later hw12) (HX10.out.later B12.out)
            rw [eqF_self] at this
            exact this
          have qf : (fb == fb) = true := by simp
          clear hw12 k0' k1'
          go_wp2_with fail
          refine HS.out.mono ?_
          rintro e w13 ⟨rfl, n13, rfl⟩
          go_wp2
          go_ret
          exact ⟨Ns.ret_bool rfl, below_drewN (HC10.out.trans (B12.out.mono HC10.out.size)) _⟩
        · have HV : Hid (errV (Ns.addE caps paths path) = .iface 53 (.int .i64 (Ns.addE caps paths path))) := errV_ne hA
          have HAd : Hid (∀ u : World, Below w.heap.size w u → Calls Try.prog 9 #[.agg #[.slice a1 caps.length cap1, .slice a2 paths.length cap2], .slice ap path.length capp] u fun e w' => ∃ x, e = .returned (.tuple #[x, .iface 53 (.int .i64 (Ns.addE caps paths path))]) ∧ NetAt (fun b => u.heap.size ≤ b) w' x [] [] ∧ Below u.heap.size u w') := fun u hu => by
            have := HAd0.out u hu
            rw [HV.out, okL_ne hA, okL_ne hA] at this
            exact this
          clear HV hA HAd0
          generalize Ns.addE caps paths path = ek at *
          go_wp2_with fail
          refine (HAd.out _ (HBW.out _ HCr.out)).mono ?_
          rintro e w8 ⟨x8, rfl, hx8, hw8⟩
          have HC8 : Hid (Below (w.heap.size + 1) (w.alloc (.cells #[.slice a1 caps.length cap1, .slice a2 paths.length cap2] 25)) w8) := Bel.call HCr.out hNB.out hw8
          obtain ⟨_, _, _, _, _, _, rfl⟩ := hx8.shape
          clear hw8 hx8
          go_wp2
          go_ret
          exact ⟨Ns.ret_bool rfl, (HBW.out _ HC8.out).alloc (HBW.out _ HC8.out).size _⟩
  · have HV : Hid (errV (loadE caps paths r) = .iface 53 (.int .i64 (loadE caps paths r))) := errV_ne he
    rw [HV.out, okL_ne he] at HOf0
    generalize loadE caps paths r = ek at *
    clear he
    go_wp2_with fail
    refine (HOf0.out _ (HBW.out _ HC1.out)).mono ?_
    rintro e w2 ⟨y2, rfl, hy2, hw2⟩
    have HC2 : Hid (Below (w.heap.size + 1) (w.alloc (.cells #[.slice a1 caps.length cap1, .slice a2 paths.length cap2] 25)) w2) := Bel.call HC1.out hNB.out hw2
    obtain ⟨ay, ny, cy, rfl⟩ := hy2.shape
    clear hw2 hy2
    go_wp2
    go_ret
    exact ⟨Ns.ret_bool rfl, HBW.out _ HC2.out⟩
end Ld
end Go.Proofs.Ytmoeaaocpnoibab
