/- The law TopWeak returns true for every net, flow and rates, from what is asked of fill.Rates and load.Fits: giving one more takes of one who has no more. -/
import Derived.Test.YtmimfcmpealemacPlains
import Derived.Test.YtmimfcmpealemacFracE
import Derived.Test.YtmimfcmpealemacTopOne
import Derived.Deep.RegionLaw
namespace Go.Proofs.Ytmimfcmpealemac
namespace Fl
open Go.RowKit Fr Ns Ld
set_option linter.unusedSimpArgs false
set_option linter.unusedVariables false

/-- of two that are right -/
theorem Cmp_right {a b : Int × Int} (ha : faultP a = 0) (hb : faultP b = 0) (w : World) :
    Calls Try.prog 10 #[.agg #[.int .i64 a.1, .int .i64 a.2], .agg #[.int .i64 b.1, .int .i64 b.2]] w fun e w' => e = .returned (.tuple #[.int .i64 (cmpI (a.1 * b.2) (b.1 * a.2)), .nilIface]) ∧ Below w.heap.size w w' := by
  have := Compare_any a.1 a.2 b.1 b.2 w
  have hf : fault2 a.1 a.2 b.1 b.2 = 0 := by rw [fault2, if_pos (show fault a.1 a.2 = 0 from ha)]; exact hb
  rw [cmpV, if_pos hf, hf, errV_0] at this
  exact this
theorem cmp_lt0 {a b : Int × Int} (ha : 1 ≤ a.2) (hb : 1 ≤ b.2) : cmpI (a.1 * b.2) (b.1 * a.2) < 0 ↔ val a < val b := by
  rw [cross_lt ha hb]; unfold cmpI
  split
  · constructor <;> intro <;> omega
  · split
    · constructor <;> intro <;> omega
    · constructor <;> intro <;> omega
/-- one that has as little, or less, has less -/
theorem weak_plain {caps : List Int} {paths : List (List Int)} {r : List (Int × Int)} (hl : loadE caps paths r = 0) (hf : fitsB caps paths r = true) {fl : Nat} (hfl : fl < paths.length)
    (ho : 0 < cmpI ((rP r fl).1 * (rP (fill caps paths).1 fl).2) ((rP (fill caps paths).1 fl).1 * (rP r fl).2)) :
    ∃ g, g < paths.length ∧ g ≠ fl ∧ cmpI ((rP (fill caps paths).1 g).1 * (rP (fill caps paths).1 fl).2) ((rP (fill caps paths).1 fl).1 * (rP (fill caps paths).1 g).2) ≤ 0 ∧ cmpI ((rP r g).1 * (rP (fill caps paths).1 g).2) ((rP (fill caps paths).1 g).1 * (rP r g).2) < 0 := by
  obtain ⟨h1, h2, h3, h4⟩ := loadE_0 hl
  have hx := (fill_fair (good_of_net h1)).1
  have hp : ∀ f, f < paths.length → 1 ≤ (rP r f).2 := fun f hf => fault_pos ((ratesE_iff r).1 h3 _ (getD_mem r f (by omega) (0, 0)))
  have hq : ∀ f, f < paths.length → 1 ≤ (rP (fill caps paths).1 f).2 := fun f hf => fault_pos (hx.right f hf).1
  have hlt : xQ (fill caps paths).1 fl < xQ r fl := by
    have : ¬ val (rP r fl) ≤ val (rP (fill caps paths).1 fl) := fun h => by have := (cmp_le (hp fl hfl) (hq fl hfl)).2 h; omega
    unfold xQ
    grind
  obtain ⟨l, g, _, hg, hne, h5, h6⟩ := weak ((fits_iff hl).1 hf) (hx.neck fl hfl) hlt
  have hgn := usN_lt hg
  exact ⟨g, hgn, hne, (cmp_le (hq g hgn) (hq fl hfl)).2 h5, (cmp_lt0 (hp g hgn) (hq g hgn)).2 h6⟩

set_option maxRecDepth 100000 in
set_option maxHeartbeats 8000000 in
theorem topWeak_walk (hRa : RatesSaid) (hFi : FitsSaid) (caps : List Int) (paths : List (List Int)) (r : List (Int × Int)) (flow : Int) (v x : Value) (w : World)
    (hv : NetAt (fun b => b < w.heap.size) w v caps paths) (hx : FracsAt (fun b => b < w.heap.size) w x r) :
    Calls Try.prog 3 #[v, .int .i64 flow, x] w fun e w' => e = .returned (.bool true) ∧ Below w.heap.size w w' := by
  have HOn : Hid (∀ u : World, Calls Try.prog 7 #[] u fun e w' => e = .returned (.bool true) ∧ Below u.heap.size u w') := fun u => one_any hRa u
  have HRa : Hid (∀ u : World, Below w.heap.size w u → Calls Try.prog 8 #[v] u fun e w' => ∃ y, e = .returned (.tuple #[y, errV (netE caps paths)]) ∧ FracsAt (fun b => u.heap.size ≤ b) w' y (okL (netE caps paths) (fill caps paths).1) ∧ Below u.heap.size u w') := fun u hu => hRa _ caps paths v u (hv.later hu)
  have HFi : Hid (∀ u : World, Below w.heap.size w u → Calls Try.prog 9 #[v, x] u fun e w' => e = .returned (.tuple #[.bool (decide (loadE caps paths r = 0) && fitsB caps paths r), errV (loadE caps paths r)]) ∧ Below u.heap.size u w') := fun u hu => hFi _ caps paths r v x u (hv.later hu) (hx.later hu)
  have HRx : Hid (FracsAt (fun b => b < w.heap.size) w x r) := hx
  obtain ⟨v1, v2, rfl, h1, h2⟩ := hv
  obtain ⟨a1, cap1, rfl, ⟨hm1, hn1⟩, _⟩ := h1
  obtain ⟨a2, cap2, rfl, ⟨hm2, hn2⟩, _⟩ := h2
  obtain ⟨ar, capr, rfl, ⟨hm3, hn3⟩, _⟩ := hx
  have HBW : Hid (∀ u, Below (w.heap.size + 1) (w.alloc (.cells #[.slice a1 caps.length cap1, .slice a2 paths.length cap2] 25)) u → Below w.heap.size w u) := fun u hu => ((Below.refl _ _).alloc (Nat.le_refl _) _).trans (hu.mono (by omega))
  have HCW : Hid (∀ u, Below (w.heap.size + 1) (w.alloc (.cells #[.slice a1 caps.length cap1, .slice a2 paths.length cap2] 25)) u → u.cell? ⟨w.heap.size, 0, none⟩ = some (.slice a1 caps.length cap1) ∧ u.cell? ⟨w.heap.size, 1, none⟩ = some (.slice a2 paths.length cap2)) := fun u hu =>
    ⟨(hu.cell (p := ⟨w.heap.size, 0, none⟩) (by simp)).trans (by simp), (hu.cell (p := ⟨w.heap.size, 1, none⟩) (by simp)).trans (by simp)⟩
  have hNB : Hid (w.heap.size + 1 ≤ (w.alloc (.cells #[.slice a1 caps.length cap1, .slice a2 paths.length cap2] 25)).heap.size) := by simp [Hid]
  go_enter Try.func3, Try.ntmps3
  go_wp2_with fail
  refine (HOn.out _).mono ?_
  rintro e w1 ⟨rfl, hw1⟩
  have B1 : Hid (Below (w.heap.size + 1) (w.alloc (.cells #[.slice a1 caps.length cap1, .slice a2 paths.length cap2] 25)) w1) := Bel.call (Below.refl _ _) hNB.out hw1
  obtain ⟨g0, g1⟩ := HCW.out _ B1.out
  clear hw1
  by_cases he : netE caps paths = 0
  · have hx := (fill_fair (good_of_net he)).1
    have hlx : (fill caps paths).1.length = paths.length := hx.len
    have hp6 : paths.length ≤ 6 := (netE_0 he).2.2.2.1
    have HXf : Hid (∀ f, f < paths.length → faultP (rP (fill caps paths).1 f) = 0) := fun f hf => (hx.right f hf).1
    rw [he, errV_0, okL_0] at HRa
    have HWk : Hid (loadE caps paths r = 0 → fitsB caps paths r = true → ∀ fl, fl < paths.length → 0 < cmpI ((rP r fl).1 * (rP (fill caps paths).1 fl).2) ((rP (fill caps paths).1 fl).1 * (rP r fl).2) → ∃ g, g < paths.length ∧ g ≠ fl ∧ cmpI ((rP (fill caps paths).1 g).1 * (rP (fill caps paths).1 fl).2) ((rP (fill caps paths).1 fl).1 * (rP (fill caps paths).1 g).2) ≤ 0 ∧ cmpI ((rP r g).1 * (rP (fill caps paths).1 g).2) ((rP (fill caps paths).1 g).1 * (rP r g).2) < 0) := fun a b fl c d => weak_plain a b c d
    generalize (fill caps paths).1 = xs at *
    have HLX : Hid (xs.length = paths.length) := hlx
    have l1 : xs.length ≤ paths.length := Nat.le_of_eq hlx
    have l2 : paths.length ≤ xs.length := Nat.le_of_eq hlx.symm
    clear hx hlx he
    go_wp2_with fail
    refine (HRa.out _ (HBW.out _ B1.out)).mono ?_
    rintro e w2 ⟨y2, rfl, hy2, hw2⟩
    have B2 : Hid (Below (w.heap.size + 1) (w.alloc (.cells #[.slice a1 caps.length cap1, .slice a2 paths.length cap2] 25)) w2) := Bel.call B1.out hNB.out hw2
    have Y2 : Hid (FracsAt (fun _ => True) w2 y2 xs) := hy2.keep (fun _ _ _ => rfl) (fun _ _ _ => trivial)
    obtain ⟨ay, cy, rfl, ⟨hmy, hny⟩, _⟩ := hy2
    clear g0 g1
    obtain ⟨g0, g1⟩ := HCW.out _ B2.out
    clear hw2
    by_cases hf0 : flow < 0
    · go_wp2
      go_ret
      exact ⟨Ns.ret_bool rfl, HBW.out _ B2.out⟩
    · by_cases hf1 : (xs.length : Int) ≤ flow
      · go_wp2
        go_ret
        exact ⟨Ns.ret_bool rfl, HBW.out _ B2.out⟩
      · obtain ⟨fl, rfl⟩ : ∃ fl : Nat, flow = fl := ⟨flow.toNat, by omega⟩
        have hfl : fl < xs.length := by omega
        by_cases hle : loadE caps paths r = 0
        · obtain ⟨q1, q2, q3, q4⟩ := loadE_0 hle
          have hrl : r.length = paths.length := q2
          rw [hle, errV_0, show (decide ((0 : Int) = 0) && fitsB caps paths r) = fitsB caps paths r by simp] at HFi
          have HWl := HWk.out hle
          have HRf : Hid (∀ f, f < paths.length → faultP (rP r f) = 0) := fun f hf => (ratesE_iff r).1 q3 _ (getD_mem r f (by omega) (0, 0))
          have HLR : Hid (r.length = paths.length) := hrl
          have l3 : r.length ≤ paths.length := Nat.le_of_eq hrl
          have l4 : paths.length ≤ r.length := Nat.le_of_eq hrl.symm
          have qn : ((r.length : Int) != (xs.length : Int)) = false := by rw [HLX.out, hrl]; simp
          clear q1 q2 q3 q4 hrl hle
          cases hfb : fitsB caps paths r with
          | false =>
            rw [hfb] at HFi
            clear hfb HWl
            go_wp2_with fail
            refine (HFi.out _ (HBW.out _ B2.out)).mono ?_
            rintro e w3 ⟨rfl, hw3⟩
            have B3 : Hid (Below (w.heap.size + 1) (w.alloc (.cells #[.slice a1 caps.length cap1, .slice a2 paths.length cap2] 25)) w3) := Bel.call B2.out hNB.out hw3
            clear hw3
            go_wp2
            go_ret
            exact ⟨Ns.ret_bool rfl, HBW.out _ B3.out⟩
          | true =>
            rw [hfb] at HFi
            have HWf := HWl hfb fl (by omega)
            replace HWf := (show Hid (0 < cmpI ((rP r fl).1 * (rP xs fl).2) ((rP xs fl).1 * (rP r fl).2) → ∃ g, g < paths.length ∧ g ≠ fl ∧ cmpI ((rP xs g).1 * (rP xs fl).2) ((rP xs fl).1 * (rP xs g).2) ≤ 0 ∧ cmpI ((rP r g).1 * (rP xs g).2) ((rP xs g).1 * (rP r g).2) < 0) from HWf)
            clear hfb HWl
            go_wp2_with fail
            refine (HFi.out _ (HBW.out _ B2.out)).mono ?_
            rintro e w3 ⟨rfl, hw3⟩
            have B3 : Hid (Below (w.heap.size + 1) (w.alloc (.cells #[.slice a1 caps.length cap1, .slice a2 paths.length cap2] 25)) w3) := Bel.call B2.out hNB.out hw3
            have HXc : Hid (∀ i, i < paths.length → ∃ b off, ay = some ⟨b, off, none⟩ ∧ ∀ u, Below w3.heap.size w3 u → u.cell? ⟨b, off + i * 2, none⟩ = some (.int .i64 (rP xs i).1) ∧ u.cell? ⟨b, off + i * 2 + 1, none⟩ = some (.int .i64 (rP xs i).2)) := by
              intro i hi
              obtain ⟨_, _, e, _, hc⟩ := Y2.out.later hw3
              simp only [Value.slice.injEq] at e
              obtain ⟨rfl, _, rfl⟩ := e
              rcases hc with hc | ⟨b, off, rfl, hc, _⟩
              · have l5 := l2; rw [hc] at l5; simp only [List.length_nil] at l5; omega
              · exact ⟨b, off, rfl, fun u hu => ⟨cell_later hu (hc i (by omega)).1, cell_later hu (hc i (by omega)).2⟩⟩
            have HRc : Hid (∀ i, i < paths.length → ∃ b off, ar = some ⟨b, off, none⟩ ∧ ∀ u, Below w3.heap.size w3 u → u.cell? ⟨b, off + i * 2, none⟩ = some (.int .i64 (rP r i).1) ∧ u.cell? ⟨b, off + i * 2 + 1, none⟩ = some (.int .i64 (rP r i).2)) := by
              intro i hi
              obtain ⟨_, _, e, _, hc⟩ := HRx.out.later (HBW.out _ B3.out)
              simp only [Value.slice.injEq] at e
              obtain ⟨rfl, _, rfl⟩ := e
              rcases hc with hc | ⟨b, off, rfl, hc, _⟩
              · have l5 := l4; rw [hc] at l5; simp only [List.length_nil] at l5; omega
              · exact ⟨b, off, rfl, fun u hu => ⟨cell_later hu (hc i (by omega)).1, cell_later hu (hc i (by omega)).2⟩⟩
            clear hw3 g0 g1
            obtain ⟨bx, ox, rfl, hcx⟩ := HXc.out fl (by omega)
            obtain ⟨br, orr, rfl, hcr⟩ := HRc.out fl (by omega)
            obtain ⟨x1, x2⟩ := hcx _ (Below.refl _ _)
            obtain ⟨r1, r2⟩ := hcr _ (Below.refl _ _)
            have HCm := (show Hid (∀ u : World, _) from fun u => Cmp_right (HRf.out fl (by omega)) (HXf.out fl (by omega)) u)
            have hflr : fl < r.length := by omega
            obtain ⟨o, ho⟩ : ∃ o, cmpI ((rP r fl).1 * (rP xs fl).2) ((rP xs fl).1 * (rP r fl).2) = o := ⟨_, rfl⟩
            rw [ho] at HCm HWf
            clear ho
            go_wp2_with fail
            go_region_law (go_simp; refine (HCm.out _).mono ?_; rintro e w4 ⟨rfl, hw4⟩)
            all_goals
              have D4 : Hid (Below w3.heap.size w3 w4) := Bel.call (Below.refl _ w3).drew (Nat.le_refl _) hw4
              have B4 : Hid (Below (w.heap.size + 1) (w.alloc (.cells #[.slice a1 caps.length cap1, .slice a2 paths.length cap2] 25)) w4) := Bel.call B3.out hNB.out D4.out
              clear hw4 x1 x2 r1 r2 hcx hcr HCm
              by_cases ho : o ≤ 0
              · go_wp2
                go_ret
                exact ⟨Ns.ret_bool rfl, HBW.out _ B4.out⟩
              · obtain ⟨gw, hgw, hgne, hga, hgb⟩ := HWf.out (by omega)
                have HGw : Hid (gw < paths.length ∧ gw ≠ fl ∧ cmpI ((rP xs gw).1 * (rP xs fl).2) ((rP xs fl).1 * (rP xs gw).2) ≤ 0 ∧ cmpI ((rP r gw).1 * (rP xs gw).2) ((rP xs gw).1 * (rP r gw).2) < 0) := ⟨hgw, hgne, hga, hgb⟩
                clear hgw hgne hga hgb HWf
                go_wp2
                go_loopw [13] (fun s13 wq => ∃ k : Nat, k ≤ paths.length ∧ s13 = .int .i64 k ∧ Hid (k ≤ gw) ∧ Hid (Below w4.heap.size w4 wq)) (fun s13 _ => paths.length - (intOf s13).toNat)
                case atStart => exact ⟨0, by omega, rfl, Nat.zero_le _, Below.refl _ _⟩
                case round =>
                  obtain ⟨k, hk, rfl, hkg, hbk⟩ := hrel
                  have hkn : k < paths.length := by have := hkg.out; have := HGw.out.1; omega
                  have hkr : (k : Int) < (r.length : Int) := by omega
                  have hkr' : k < r.length := by omega
                  have hkx : k < xs.length := by omega
                  have D5 : Hid (Below w3.heap.size w3 wr) := Bel.call D4.out (Nat.le_refl _) hbk.out
                  obtain ⟨_, _, e, hcx⟩ := HXc.out k hkn
                  simp only [Option.some.injEq, Addr.mk.injEq, and_true] at e
                  obtain ⟨rfl, rfl⟩ := e
                  obtain ⟨_, _, e, hcf⟩ := HXc.out fl (by omega)
                  simp only [Option.some.injEq, Addr.mk.injEq, and_true] at e
                  obtain ⟨rfl, rfl⟩ := e
                  obtain ⟨_, _, e, hcr⟩ := HRc.out k hkn
                  simp only [Option.some.injEq, Addr.mk.injEq, and_true] at e
                  obtain ⟨rfl, rfl⟩ := e
                  obtain ⟨x1, x2⟩ := hcx _ D5.out
                  obtain ⟨f1, f2⟩ := hcf _ D5.out
                  have HX6 : Hid (∀ u, Below wr.heap.size wr u → u.cell? ⟨bx, ox + k * 2, none⟩ = some (.int .i64 (rP xs k).1) ∧ u.cell? ⟨bx, ox + k * 2 + 1, none⟩ = some (.int .i64 (rP xs k).2) ∧ u.cell? ⟨br, orr + k * 2, none⟩ = some (.int .i64 (rP r k).1) ∧ u.cell? ⟨br, orr + k * 2 + 1, none⟩ = some (.int .i64 (rP r k).2)) := fun u hu => by
                    have hu' := Bel.call D5.out (Nat.le_refl _) hu
                    exact ⟨(hcx _ hu').1, (hcx _ hu').2, (hcr _ hu').1, (hcr _ hu').2⟩
                  have HC1 := (show Hid (∀ u : World, _) from fun u => Cmp_right (HXf.out k hkn) (HXf.out fl (by omega)) u)
                  have HC2 := (show Hid (∀ u : World, _) from fun u => Cmp_right (HRf.out k hkn) (HXf.out k hkn) u)
                  have HGk : Hid (k = gw → k ≠ fl ∧ cmpI ((rP xs k).1 * (rP xs fl).2) ((rP xs fl).1 * (rP xs k).2) ≤ 0 ∧ cmpI ((rP r k).1 * (rP xs k).2) ((rP xs k).1 * (rP r k).2) < 0) := fun e => by rw [e]; exact HGw.out.2
                  generalize cmpI ((rP xs k).1 * (rP xs fl).2) ((rP xs fl).1 * (rP xs k).2) = ca at *
                  generalize cmpI ((rP r k).1 * (rP xs k).2) ((rP xs k).1 * (rP r k).2) = cb at *
                  generalize (rP xs k).1 = t1 at *
                  generalize (rP xs k).2 = t2 at *
                  generalize (rP r k).1 = u1 at *
                  generalize (rP r k).2 = u2 at *
                  clear hcx hcf hcr
                  go_wp2_with fail
                  go_region_law (go_simp; refine (HC1.out _).mono ?_; rintro e w5 ⟨rfl, hw5⟩)
                  all_goals
                    have E5 : Hid (Below wr.heap.size wr w5) := Bel.call (Below.refl _ wr).drew (Nat.le_refl _) hw5
                    obtain ⟨y1, y2, y3, y4⟩ := HX6.out _ E5.out
                    clear hw5
                    go_wp2_with fail
                    go_region_law (go_simp; refine (HC2.out _).mono ?_; rintro e w6 ⟨rfl, hw6⟩)
                    all_goals
                      have E6 : Hid (Below wr.heap.size wr w6) := Bel.call (Bel.call E5.out (Nat.le_refl _) (Below.refl _ w5).drew) (Nat.le_refl _) hw6
                      have E7 : Hid (Below w4.heap.size w4 w6) := Bel.call hbk.out (Nat.le_refl _) E6.out
                      have B7 : Hid (Below w.heap.size w w6) := HBW.out _ (Bel.call B4.out hNB.out E7.out)
                      clear hw6 y1 y2 y3 y4 x1 x2 f1 f2
                      by_cases hkf : k = fl
                      · subst hkf
                        have HK2 : Hid (k + 1 ≤ gw) := by
                          have h1 := hkg.out
                          have h2 : k ≠ gw := fun e => (HGk.out e).1 rfl
                          show _ ≤ _
                          omega
                        go_wp2
                        go_roundw
                        case rel => exact ⟨k + 1, by omega, by go_num, HK2, E7⟩
                        case measure => simp [intOf]; omega
                      · have qkf : ((k : Int) != (fl : Int)) = true := by simp; omega
                        by_cases hca : ca ≤ 0
                        · by_cases hcb : cb < 0
                          · go_wp2
                            go_ret
                            exact ⟨Ns.ret_bool rfl, B7.out⟩
                          · have HK2 : Hid (k + 1 ≤ gw) := by
                              have h1 := hkg.out
                              have h2 : k ≠ gw := fun e => hcb (HGk.out e).2.2
                              show _ ≤ _
                              omega
                            go_wp2
                            go_roundw
                            case rel => exact ⟨k + 1, by omega, by go_num, HK2, E7⟩
                            case measure => simp [intOf]; omega
                        · have HK2 : Hid (k + 1 ≤ gw) := by
                            have h1 := hkg.out
                            have h2 : k ≠ gw := fun e => hca (HGk.out e).2.1
                            show _ ≤ _
                            omega
                          go_wp2
                          go_roundw
                          case rel => exact ⟨k + 1, by omega, by go_num, HK2, E7⟩
                          case measure => simp [intOf]; omega
        · have HVl : Hid (errV (loadE caps paths r) = .iface 57 (.int .i64 (loadE caps paths r))) := errV_ne hle
          rw [HVl.out, show (decide (loadE caps paths r = 0) && fitsB caps paths r) = false by simp [hle]] at HFi
          generalize loadE caps paths r = ek at *
          clear hle HWk
          go_wp2_with fail
          refine (HFi.out _ (HBW.out _ B2.out)).mono ?_
          rintro e w3 ⟨rfl, hw3⟩
          have B3 : Hid (Below (w.heap.size + 1) (w.alloc (.cells #[.slice a1 caps.length cap1, .slice a2 paths.length cap2] 25)) w3) := Bel.call B2.out hNB.out hw3
          clear hw3
          go_wp2
          go_ret
          exact ⟨Ns.ret_bool rfl, HBW.out _ B3.out⟩
  · have HVl : Hid (errV (netE caps paths) = .iface 57 (.int .i64 (netE caps paths))) := errV_ne he
    rw [HVl.out, okL_ne he] at HRa
    generalize netE caps paths = ek at *
    clear he
    go_wp2_with fail
    refine (HRa.out _ (HBW.out _ B1.out)).mono ?_
    rintro e w2 ⟨y2, rfl, hy2, hw2⟩
    have B2 : Hid (Below (w.heap.size + 1) (w.alloc (.cells #[.slice a1 caps.length cap1, .slice a2 paths.length cap2] 25)) w2) := Bel.call B1.out hNB.out hw2
    obtain ⟨ay, ny, cy, rfl⟩ := hy2.shape
    clear hw2 hy2
    go_wp2
    go_ret
    exact ⟨Ns.ret_bool rfl, HBW.out _ B2.out⟩
end Fl
end Go.Proofs.Ytmimfcmpealemac
