/- The law NeckOnly returns true for every net and rates, from what is asked of package neck's calls and of fill.Rates: only one is fair. -/
import Derived.Test.YtmimfcmpealemacPlains
import Derived.Test.YtmimfcmpealemacLdSame
import Derived.Test.YtmimfcmpealemacIntsIn
namespace Go.Proofs.Ytmimfcmpealemac
namespace Fl
open Go.RowKit Fr Ns Ld
set_option linter.unusedSimpArgs false
set_option linter.unusedVariables false

theorem fact6E : loadE [6] [[0], [0]] [(3, 1), (3, 1)] = 0 := by decide +kernel
theorem fact6 : fairB [6] [[0], [0]] [(3, 1), (3, 1)] = true := by decide +kernel
theorem fact6E' : loadE [6] [[0], [0]] [(2, 1), (4, 1)] = 0 := by decide +kernel
theorem fact6' : fairB [6] [[0], [0]] [(2, 1), (4, 1)] = false := by decide +kernel
theorem only_eq {caps : List Int} {paths : List (List Int)} {r : List (Int × Int)} (h : loadE caps paths r = 0) : fairB caps paths r = eqF (fill caps paths).1 r := by
  rw [Bool.eq_iff_iff, only_one h]
  simp [eqF]
theorem neck_on {caps : List Int} {paths : List (List Int)} {r : List (Int × Int)} (h : loadE caps paths r = 0) {f : Nat} (hf : f < paths.length) (hn : neckOf caps paths r f ≠ -1) : inB (paths.getD f []) (neckOf caps paths r f) = true ∧ inB (fullTo caps (loadL paths r caps.length) caps.length) (neckOf caps paths r f) = true := by
  have hp := ((good_of_net (loadE_0 h).1).2.1 _ (getD_mem paths f hf [])).2
  unfold neckOf at hn ⊢
  cases hfi : (paths.getD f []).find? fun x => fullB caps paths r x.toNat && mostB paths r f x with
  | none => rw [hfi] at hn; simp at hn
  | some x =>
    have hx := List.mem_of_find?_eq_some hfi
    have hpx := List.find?_some hfi
    rw [Bool.and_eq_true] at hpx
    simp only [Option.getD_some]
    exact ⟨inB_of_mem hx, by rw [in_full (hp x hx).1 (hp x hx).2]; exact hpx.1⟩

set_option maxRecDepth 100000 in
set_option maxHeartbeats 8000000 in
theorem neckOnly_walk (hFu : NFullSaid) (hOf : NOfSaid) (hFa : NFairSaid) (hRa : RatesSaid) (caps : List Int) (paths : List (List Int)) (r : List (Int × Int)) (v x : Value) (w : World)
    (hv : NetAt (fun b => b < w.heap.size) w v caps paths) (hx : FracsAt (fun b => b < w.heap.size) w x r) :
    Calls Try.prog 5 #[v, x] w fun e w' => e = .returned (.bool true) ∧ Below w.heap.size w w' := by
  have HNF : Hid (∀ u : World, Below w.heap.size w u → Calls Try.prog 16 #[v, x] u fun e w' => ∃ y, e = .returned (.tuple #[y, errV (loadE caps paths r)]) ∧ IntsAt (fun b => u.heap.size ≤ b) w' y (okL (loadE caps paths r) (fullTo caps (loadL paths r caps.length) caps.length)) ∧ Below u.heap.size u w') := fun u hu => hFu _ caps paths r v x u (hv.later hu) (hx.later hu)
  have HNO : Hid (∀ u : World, Below w.heap.size w u → Calls Try.prog 12 #[v, x] u fun e w' => ∃ y, e = .returned (.tuple #[y, errV (loadE caps paths r)]) ∧ IntsAt (fun b => u.heap.size ≤ b) w' y (okL (loadE caps paths r) (necksL caps paths r)) ∧ Below u.heap.size u w') := fun u hu => hOf _ caps paths r v x u (hv.later hu) (hx.later hu)
  have HNA : Hid (∀ u : World, Below w.heap.size w u → Calls Try.prog 13 #[v, x] u fun e w' => e = .returned (.tuple #[.bool (decide (loadE caps paths r = 0) && fairB caps paths r), errV (loadE caps paths r)]) ∧ Below u.heap.size u w') := fun u hu => hFa _ caps paths r v x u (hv.later hu) (hx.later hu)
  have HRa : Hid (∀ u : World, Below w.heap.size w u → Calls Try.prog 8 #[v] u fun e w' => ∃ y, e = .returned (.tuple #[y, errV (netE caps paths)]) ∧ FracsAt (fun b => u.heap.size ≤ b) w' y (okL (netE caps paths) (fill caps paths).1) ∧ Below u.heap.size u w') := fun u hu => hRa _ caps paths v u (hv.later hu)
  have HRx : Hid (FracsAt (fun b => b < w.heap.size) w x r) := hx
  obtain ⟨v1, v2, rfl, h1, h2⟩ := hv
  have HPp : Hid (∀ i, i < paths.length → ∃ b off, ∃ cap, ∃ x, v2 = .slice (some ⟨b, off, none⟩) paths.length cap ∧ ∀ u, Below w.heap.size w u → u.cell? ⟨b, off + i, none⟩ = some x ∧ IntsAt (fun b => b < w.heap.size) u x (paths.getD i [])) := by
    intro i hi
    obtain ⟨a, cap, e, _, hc⟩ := h2
    rcases hc with rfl | ⟨b, off, rfl, hc, _⟩
    · simp at hi
    · obtain ⟨x, hx, hxi⟩ := hc i hi
      exact ⟨b, off, cap, x, e, fun u hu => ⟨cell_later hu hx, hxi.later hu⟩⟩
  obtain ⟨a1, cap1, rfl, ⟨hm1, hn1⟩, _⟩ := h1
  obtain ⟨a2, cap2, rfl, ⟨hm2, hn2⟩, _⟩ := h2
  obtain ⟨ar, capr, rfl, ⟨hm3, hn3⟩, _⟩ := hx
  have HBW : Hid (∀ u, Below (w.heap.size + 1) (w.alloc (.cells #[.slice a1 caps.length cap1, .slice a2 paths.length cap2] 25)) u → Below w.heap.size w u) := fun u hu => ((Below.refl _ _).alloc (Nat.le_refl _) _).trans (hu.mono (by omega))
  have HCW : Hid (∀ u, Below (w.heap.size + 1) (w.alloc (.cells #[.slice a1 caps.length cap1, .slice a2 paths.length cap2] 25)) u → u.cell? ⟨w.heap.size, 0, none⟩ = some (.slice a1 caps.length cap1) ∧ u.cell? ⟨w.heap.size, 1, none⟩ = some (.slice a2 paths.length cap2)) := fun u hu =>
    ⟨(hu.cell (p := ⟨w.heap.size, 0, none⟩) (by simp)).trans (by simp), (hu.cell (p := ⟨w.heap.size, 1, none⟩) (by simp)).trans (by simp)⟩
  have hNB : Hid (w.heap.size + 1 ≤ (w.alloc (.cells #[.slice a1 caps.length cap1, .slice a2 paths.length cap2] 25)).heap.size) := by simp [Hid]
  have N0 : Hid (NetAt (fun _ => True) (((((((w.alloc (.cells #[.slice a1 caps.length cap1, .slice a2 paths.length cap2] 25)).alloc (.cells #[.int .i64 6] 3)).alloc (.cells #[.int .i64 0] 3)).alloc (.cells #[.int .i64 0] 3)).alloc (.cells #[.slice (some ⟨w.heap.size + 1 + 1, 0, none⟩) 1 1, .slice (some ⟨w.heap.size + 1 + 1 + 1, 0, none⟩) 1 1] 22)).alloc (.cells #[.slice (some ⟨w.heap.size + 1, 0, none⟩) 1 1, .slice (some ⟨w.heap.size + 1 + 1 + 1 + 1, 0, none⟩) 2 2] 25)).alloc (.cells #[.int .i64 3, .int .i64 1, .int .i64 3, .int .i64 1] 37)) (.agg #[.slice (some ⟨w.heap.size + 1, 0, none⟩) 1 1, .slice (some ⟨w.heap.size + 1 + 1 + 1 + 1, 0, none⟩) 2 2]) [6] [[0], [0]]) := ⟨_, _, rfl, lit_int1 _ (w.heap.size + 1) 6 (by go_simp), lit_lists2 _ (w.heap.size + 1 + 1 + 1 + 1) _ _ [0] [0] (by go_simp) (by go_simp) (lit_int1 _ (w.heap.size + 1 + 1) 0 (by go_simp)) (lit_int1 _ (w.heap.size + 1 + 1 + 1) 0 (by go_simp))⟩
  have R0 : Hid (FracsAt (fun _ => True) (((((((w.alloc (.cells #[.slice a1 caps.length cap1, .slice a2 paths.length cap2] 25)).alloc (.cells #[.int .i64 6] 3)).alloc (.cells #[.int .i64 0] 3)).alloc (.cells #[.int .i64 0] 3)).alloc (.cells #[.slice (some ⟨w.heap.size + 1 + 1, 0, none⟩) 1 1, .slice (some ⟨w.heap.size + 1 + 1 + 1, 0, none⟩) 1 1] 22)).alloc (.cells #[.slice (some ⟨w.heap.size + 1, 0, none⟩) 1 1, .slice (some ⟨w.heap.size + 1 + 1 + 1 + 1, 0, none⟩) 2 2] 25)).alloc (.cells #[.int .i64 3, .int .i64 1, .int .i64 3, .int .i64 1] 37)) (.slice (some ⟨w.heap.size + 1 + 1 + 1 + 1 + 1 + 1, 0, none⟩) 2 2) [(3, 1), (3, 1)]) := lit_fracs2 _ (w.heap.size + 1 + 1 + 1 + 1 + 1 + 1) 3 1 3 1 (by go_simp) (by go_simp) (by go_simp) (by go_simp)
  have b50 : Hid ((((((((w.alloc (.cells #[.slice a1 caps.length cap1, .slice a2 paths.length cap2] 25)).alloc (.cells #[.int .i64 6] 3)).alloc (.cells #[.int .i64 0] 3)).alloc (.cells #[.int .i64 0] 3)).alloc (.cells #[.slice (some ⟨w.heap.size + 1 + 1, 0, none⟩) 1 1, .slice (some ⟨w.heap.size + 1 + 1 + 1, 0, none⟩) 1 1] 22)).alloc (.cells #[.slice (some ⟨w.heap.size + 1, 0, none⟩) 1 1, .slice (some ⟨w.heap.size + 1 + 1 + 1 + 1, 0, none⟩) 2 2] 25)).alloc (.cells #[.int .i64 3, .int .i64 1, .int .i64 3, .int .i64 1] 37)).cell? ⟨w.heap.size + 1 + 1 + 1 + 1 + 1, 0, none⟩ = some (.slice (some ⟨w.heap.size + 1, 0, none⟩) 1 1)) := by show _ = _; go_simp
  have b51 : Hid ((((((((w.alloc (.cells #[.slice a1 caps.length cap1, .slice a2 paths.length cap2] 25)).alloc (.cells #[.int .i64 6] 3)).alloc (.cells #[.int .i64 0] 3)).alloc (.cells #[.int .i64 0] 3)).alloc (.cells #[.slice (some ⟨w.heap.size + 1 + 1, 0, none⟩) 1 1, .slice (some ⟨w.heap.size + 1 + 1 + 1, 0, none⟩) 1 1] 22)).alloc (.cells #[.slice (some ⟨w.heap.size + 1, 0, none⟩) 1 1, .slice (some ⟨w.heap.size + 1 + 1 + 1 + 1, 0, none⟩) 2 2] 25)).alloc (.cells #[.int .i64 3, .int .i64 1, .int .i64 3, .int .i64 1] 37)).cell? ⟨w.heap.size + 1 + 1 + 1 + 1 + 1, 1, none⟩ = some (.slice (some ⟨w.heap.size + 1 + 1 + 1 + 1, 0, none⟩) 2 2)) := by show _ = _; go_simp
  have B0 : Hid (Below (w.heap.size + 1) (w.alloc (.cells #[.slice a1 caps.length cap1, .slice a2 paths.length cap2] 25)) (((((((w.alloc (.cells #[.slice a1 caps.length cap1, .slice a2 paths.length cap2] 25)).alloc (.cells #[.int .i64 6] 3)).alloc (.cells #[.int .i64 0] 3)).alloc (.cells #[.int .i64 0] 3)).alloc (.cells #[.slice (some ⟨w.heap.size + 1 + 1, 0, none⟩) 1 1, .slice (some ⟨w.heap.size + 1 + 1 + 1, 0, none⟩) 1 1] 22)).alloc (.cells #[.slice (some ⟨w.heap.size + 1, 0, none⟩) 1 1, .slice (some ⟨w.heap.size + 1 + 1 + 1 + 1, 0, none⟩) 2 2] 25)).alloc (.cells #[.int .i64 3, .int .i64 1, .int .i64 3, .int .i64 1] 37))) := ((((((Below.refl _ _).alloc (by simp) _).alloc (by simp) _).alloc (by simp) _).alloc (by simp) _).alloc (by simp) _).alloc (by simp) _
  go_enter Try.func5, Try.ntmps5
  go_wp2_with fail
  have HL1 : Hid (Calls Try.prog 13 #[.agg #[.slice (some ⟨w.heap.size + 1, 0, none⟩) 1 1, .slice (some ⟨w.heap.size + 1 + 1 + 1 + 1, 0, none⟩) 2 2], .slice (some ⟨w.heap.size + 1 + 1 + 1 + 1 + 1 + 1, 0, none⟩) 2 2] (((((((w.alloc (.cells #[.slice a1 caps.length cap1, .slice a2 paths.length cap2] 25)).alloc (.cells #[.int .i64 6] 3)).alloc (.cells #[.int .i64 0] 3)).alloc (.cells #[.int .i64 0] 3)).alloc (.cells #[.slice (some ⟨w.heap.size + 1 + 1, 0, none⟩) 1 1, .slice (some ⟨w.heap.size + 1 + 1 + 1, 0, none⟩) 1 1] 22)).alloc (.cells #[.slice (some ⟨w.heap.size + 1, 0, none⟩) 1 1, .slice (some ⟨w.heap.size + 1 + 1 + 1 + 1, 0, none⟩) 2 2] 25)).alloc (.cells #[.int .i64 3, .int .i64 1, .int .i64 3, .int .i64 1] 37)) fun e w' => e = .returned (.tuple #[.bool true, .nilIface]) ∧ Below (((((((w.alloc (.cells #[.slice a1 caps.length cap1, .slice a2 paths.length cap2] 25)).alloc (.cells #[.int .i64 6] 3)).alloc (.cells #[.int .i64 0] 3)).alloc (.cells #[.int .i64 0] 3)).alloc (.cells #[.slice (some ⟨w.heap.size + 1 + 1, 0, none⟩) 1 1, .slice (some ⟨w.heap.size + 1 + 1 + 1, 0, none⟩) 1 1] 22)).alloc (.cells #[.slice (some ⟨w.heap.size + 1, 0, none⟩) 1 1, .slice (some ⟨w.heap.size + 1 + 1 + 1 + 1, 0, none⟩) 2 2] 25)).alloc (.cells #[.int .i64 3, .int .i64 1, .int .i64 3, .int .i64 1] 37)).heap.size (((((((w.alloc (.cells #[.slice a1 caps.length cap1, .slice a2 paths.length cap2] 25)).alloc (.cells #[.int .i64 6] 3)).alloc (.cells #[.int .i64 0] 3)).alloc (.cells #[.int .i64 0] 3)).alloc (.cells #[.slice (some ⟨w.heap.size + 1 + 1, 0, none⟩) 1 1, .slice (some ⟨w.heap.size + 1 + 1 + 1, 0, none⟩) 1 1] 22)).alloc (.cells #[.slice (some ⟨w.heap.size + 1, 0, none⟩) 1 1, .slice (some ⟨w.heap.size + 1 + 1 + 1 + 1, 0, none⟩) 2 2] 25)).alloc (.cells #[.int .i64 3, .int .i64 1, .int .i64 3, .int .i64 1] 37)) w') := by
    have := hFa _ [6] [[0], [0]] [(3, 1), (3, 1)] _ _ _ N0.out R0.out
    rw [fact6E, fact6, errV_0] at this
    exact this
  generalize (((((((w.alloc (.cells #[.slice a1 caps.length cap1, .slice a2 paths.length cap2] 25)).alloc (.cells #[.int .i64 6] 3)).alloc (.cells #[.int .i64 0] 3)).alloc (.cells #[.int .i64 0] 3)).alloc (.cells #[.slice (some ⟨w.heap.size + 1 + 1, 0, none⟩) 1 1, .slice (some ⟨w.heap.size + 1 + 1 + 1, 0, none⟩) 1 1] 22)).alloc (.cells #[.slice (some ⟨w.heap.size + 1, 0, none⟩) 1 1, .slice (some ⟨w.heap.size + 1 + 1 + 1 + 1, 0, none⟩) 2 2] 25)).alloc (.cells #[.int .i64 3, .int .i64 1, .int .i64 3, .int .i64 1] 37)) = w0 at *
  refine HL1.out.mono ?_
  rintro e w1 ⟨rfl, hw1⟩
  have N1 : Hid (NetAt (fun _ => True) (w1.alloc (.cells #[.int .i64 2, .int .i64 1, .int .i64 4, .int .i64 1] 37)) (.agg #[.slice (some ⟨w.heap.size + 1, 0, none⟩) 1 1, .slice (some ⟨w.heap.size + 1 + 1 + 1 + 1, 0, none⟩) 2 2]) [6] [[0], [0]]) := (N0.out.later hw1).later ((Below.refl _ _).alloc (Nat.le_refl _) _)
  have HL2 : Hid (Calls Try.prog 13 #[.agg #[.slice (some ⟨w.heap.size + 1, 0, none⟩) 1 1, .slice (some ⟨w.heap.size + 1 + 1 + 1 + 1, 0, none⟩) 2 2], .slice (some ⟨w1.heap.size, 0, none⟩) 2 2] (w1.alloc (.cells #[.int .i64 2, .int .i64 1, .int .i64 4, .int .i64 1] 37)) fun e w' => e = .returned (.tuple #[.bool false, .nilIface]) ∧ Below (w1.alloc (.cells #[.int .i64 2, .int .i64 1, .int .i64 4, .int .i64 1] 37)).heap.size (w1.alloc (.cells #[.int .i64 2, .int .i64 1, .int .i64 4, .int .i64 1] 37)) w') := by
    have := hFa _ [6] [[0], [0]] [(2, 1), (4, 1)] _ _ _ N1.out (lit_fracs2 _ w1.heap.size 2 1 4 1 (by go_simp) (by go_simp) (by go_simp) (by go_simp))
    rw [fact6E', fact6', errV_0] at this
    exact this
  have B1 : Hid (Below (w.heap.size + 1) (w.alloc (.cells #[.slice a1 caps.length cap1, .slice a2 paths.length cap2] 25)) w1) := Bel.call B0.out hNB.out hw1
  have d50 := cell_later hw1 b50.out
  have d51 := cell_later hw1 b51.out
  clear hw1 HL1 N0 R0 b50 b51
  go_wp2_with fail
  refine HL2.out.mono ?_
  rintro e w2 ⟨rfl, hw2⟩
  have B2 : Hid (Below (w.heap.size + 1) (w.alloc (.cells #[.slice a1 caps.length cap1, .slice a2 paths.length cap2] 25)) w2) := Bel.call (Bel.more B1.out hNB.out _) hNB.out hw2
  obtain ⟨g0, g1⟩ := HCW.out _ B2.out
  clear hw2 HL2 N1 d50 d51 B0
  by_cases he : loadE caps paths r = 0
  · obtain ⟨e1, e2, e3, e4⟩ := loadE_0 he
    have h0 := netE_0 e1
    have HEq := only_eq he
    rw [show (decide (loadE caps paths r = 0) && fairB caps paths r) = eqF (fill caps paths).1 r by rw [he, HEq]; simp, he, errV_0] at HNA
    rw [he, errV_0, okL_0] at HNF HNO
    rw [e1, errV_0, okL_0] at HRa
    have HOn : Hid (∀ f, f < paths.length → (necksL caps paths r).getD f 0 = -1 ∨ (inB (paths.getD f []) ((necksL caps paths r).getD f 0) = true ∧ inB (fullTo caps (loadL paths r caps.length) caps.length) ((necksL caps paths r).getD f 0) = true)) := by
      intro f hf
      rw [necksL_at hf]
      by_cases hn : neckOf caps paths r f = -1
      · exact .inl hn
      · exact .inr (neck_on he hf hn)
    have HNl : Hid ((necksL caps paths r).length = paths.length) := necksL_length _ _ _
    have hp6 : paths.length ≤ 6 := h0.2.2.2.1
    generalize necksL caps paths r = NL at *
    generalize fullTo caps (loadL paths r caps.length) caps.length = FL at *
    generalize (fill caps paths).1 = xs at *
    have HSF : Hid (∀ (y : Value) (u : World), Below w.heap.size w u → FracsAt (fun _ => True) u y xs → Calls Try.prog 15 #[y, .slice ar r.length capr] u fun e w' => e = .returned (.bool (eqF xs r)) ∧ ∃ n, w' = u.drewN n) := fun y u hu hy => SFracs_any xs r y _ u hy (HRx.out.later hu)
    generalize eqF xs r = eb at *
    have ql : ((NL.length : Int) != (paths.length : Int)) = false := by rw [HNl.out]; simp
    have l1 : NL.length ≤ paths.length := Nat.le_of_eq HNl.out
    have l2 : paths.length ≤ NL.length := Nat.le_of_eq HNl.out.symm
    clear e1 e2 e3 e4 h0 HEq he
    go_wp2_with fail
    refine (HNA.out _ (HBW.out _ B2.out)).mono ?_
    rintro e w3 ⟨rfl, hw3⟩
    have B3 : Hid (Below (w.heap.size + 1) (w.alloc (.cells #[.slice a1 caps.length cap1, .slice a2 paths.length cap2] 25)) w3) := Bel.call B2.out hNB.out hw3
    clear g0 g1
    obtain ⟨g0, g1⟩ := HCW.out _ B3.out
    clear hw3
    go_wp2_with fail
    refine (HRa.out _ (HBW.out _ B3.out)).mono ?_
    rintro e w4 ⟨y4, rfl, hy4, hw4⟩
    have B4 : Hid (Below (w.heap.size + 1) (w.alloc (.cells #[.slice a1 caps.length cap1, .slice a2 paths.length cap2] 25)) w4) := Bel.call B3.out hNB.out hw4
    have HS4 : Hid (Calls Try.prog 15 #[y4, .slice ar r.length capr] w4 fun e w' => e = .returned (.bool eb) ∧ ∃ n, w' = w4.drewN n) := HSF.out y4 w4 (HBW.out _ B4.out) (hy4.keep (fun _ _ _ => rfl) (fun _ _ _ => trivial))
    obtain ⟨a4, n4, c4, rfl⟩ := hy4.shape
    have qe : (eb != eb) = false := by simp
    clear hw4 hy4
    go_wp2_with fail
    refine HS4.out.mono ?_
    rintro e w5 ⟨rfl, m5, rfl⟩
    have B5 : Hid (Below (w.heap.size + 1) (w.alloc (.cells #[.slice a1 caps.length cap1, .slice a2 paths.length cap2] 25)) (w4.drewN m5)) := below_drewN B4.out _
    clear HS4 B4
    generalize w4.drewN m5 = w5 at *
    clear g0 g1
    obtain ⟨g0, g1⟩ := HCW.out _ B5.out
    go_wp2_with fail
    refine (HNO.out _ (HBW.out _ B5.out)).mono ?_
    rintro e w6 ⟨y6, rfl, hy6, hw6⟩
    have B6 : Hid (Below (w.heap.size + 1) (w.alloc (.cells #[.slice a1 caps.length cap1, .slice a2 paths.length cap2] 25)) w6) := Bel.call B5.out hNB.out hw6
    have Y6 : Hid (IntsAt (fun _ => True) w6 y6 NL) := hy6.keep (fun _ _ _ => rfl) (fun _ _ _ => trivial)
    obtain ⟨a6, c6, rfl, _⟩ := hy6
    clear g0 g1
    obtain ⟨g0, g1⟩ := HCW.out _ B6.out
    clear hw6
    go_wp2_with fail
    refine (HNF.out _ (HBW.out _ B6.out)).mono ?_
    rintro e w7 ⟨y7, rfl, hy7, hw7⟩
    have B7 : Hid (Below (w.heap.size + 1) (w.alloc (.cells #[.slice a1 caps.length cap1, .slice a2 paths.length cap2] 25)) w7) := Bel.call B6.out hNB.out hw7
    have Y7 : Hid (∀ i, i < paths.length → ∃ b off, a6 = some ⟨b, off, none⟩ ∧ ∀ u, Below w7.heap.size w7 u → u.cell? ⟨b, off + i, none⟩ = some (.int .i64 (NL.getD i 0))) := by
      intro i hi
      obtain ⟨_, _, e, _, hc⟩ := Y6.out.later hw7
      simp only [Value.slice.injEq] at e
      obtain ⟨rfl, _, rfl⟩ := e
      rcases hc with hc | ⟨b, off, rfl, hc, _⟩
      · have l5 := l2; rw [hc] at l5; simp only [List.length_nil] at l5; omega
      · exact ⟨b, off, rfl, fun u hu => cell_later hu (hc i (by omega))⟩
    have Z7 : Hid (IntsAt (fun _ => True) w7 y7 FL) := hy7.keep (fun _ _ _ => rfl) (fun _ _ _ => trivial)
    obtain ⟨a7, c7, rfl, _⟩ := hy7
    clear g0 g1
    obtain ⟨g0, g1⟩ := HCW.out _ B7.out
    clear hw7
    go_wp2
    go_loopw [18] (fun s18 wq => ∃ f : Nat, f ≤ paths.length ∧ s18 = .int .i64 f ∧ Hid (Below w7.heap.size w7 wq)) (fun s18 _ => paths.length - (intOf s18).toNat)
    case atStart => exact ⟨0, by omega, rfl, Below.refl _ _⟩
    case round =>
      obtain ⟨f, hf, rfl, hb⟩ := hrel
      have BF : Hid (Below (w.heap.size + 1) (w.alloc (.cells #[.slice a1 caps.length cap1, .slice a2 paths.length cap2] 25)) wr) := Bel.call B7.out hNB.out hb.out
      clear g0 g1
      obtain ⟨g0, g1⟩ := HCW.out _ BF.out
      by_cases hfl : f < paths.length
      · have hfn : (f : Int) < (NL.length : Int) := by omega
        have hfn' : f < NL.length := by omega
        obtain ⟨bl, ol, rfl, hcl⟩ := Y7.out f hfl
        have c0 := hcl _ hb.out
        have hon := HOn.out f hfl
        obtain ⟨bp, op, capp, xp, e, hcp⟩ := HPp.out f hfl
        simp only [Value.slice.injEq] at e
        obtain ⟨rfl, _, rfl⟩ := e
        obtain ⟨cp, hxp⟩ := hcp _ (HBW.out _ BF.out)
        have HI1 := (show Hid (∀ u : World, Below wr.heap.size wr u → _) from fun u hu => In_any (paths.getD f []) (NL.getD f 0) _ u (hxp.later hu))
        have HI2 := (show Hid (∀ u : World, Below wr.heap.size wr u → _) from fun u hu => In_any FL (NL.getD f 0) _ u ((Z7.out.later hb.out).later hu))
        generalize NL.getD f 0 = z at *
        by_cases hz : z = -1
        · subst hz
          clear hon HI1 HI2
          go_wp2
          go_roundw
          case rel => exact ⟨f + 1, by omega, by go_num, hb⟩
          case measure => simp [intOf]; omega
        · obtain ⟨o1, o2⟩ := hon.resolve_left hz
          rw [o1] at HI1
          rw [o2] at HI2
          have qz : (z == -1) = false := beq_eq_false_iff_ne.2 hz
          obtain ⟨axp, capxp, rfl, _⟩ := hxp
          have P1 : Hid (Below wr.heap.size wr wr.drew) := (Below.refl _ _).drew
          have HSA : Hid (∀ u : World, Below wr.heap.size wr u → u.cell? ⟨w.heap.size, 1, none⟩ = some (.slice (some ⟨bp, op, none⟩) paths.length cap2) ∧ u.cell? ⟨bp, op + f, none⟩ = some (.slice axp (paths.getD f []).length capxp) ∧ u.cell? ⟨bl, ol + f, none⟩ = some (.int .i64 z)) := fun u hu => ⟨cell_later hu g1, cell_later hu cp, cell_later hu c0⟩
          generalize (paths.getD f []).length = np at *
          clear o1 o2 hon hcl hcp
          go_wp2_with fail
          go_region_held3 (fun u => u.cell? ⟨w.heap.size, 1, none⟩ = some (.slice (some ⟨bp, op, none⟩) paths.length cap2) ∧ u.cell? ⟨bp, op + f, none⟩ = some (.slice axp np capxp) ∧ u.cell? ⟨bl, ol + f, none⟩ = some (.int .i64 z))
            ((refine HSA.out _ ?_; exact P1.out))
            (first | (go_at_call 17; refine (HI1.out _ P1.out).mono ?_; rintro e wt ⟨rfl, rfl⟩))
          have P2 : Hid (wr.drew.cell? ⟨bl, ol + f, none⟩ = some (.int .i64 z)) := (HSA.out _ P1.out).2.2
          have c0' := P2.out
          go_wp2_with fail
          refine (HI2.out _ P1.out).mono ?_
          rintro e wt ⟨rfl, rfl⟩
          have E1 : Hid (Below w7.heap.size w7 wr.drew) := hb.out.drew
          go_wp2
          go_roundw
          case rel => exact ⟨f + 1, by omega, by go_num, E1⟩
          case measure => simp [intOf]; omega
      · have hfn : ¬ (f : Int) < (NL.length : Int) := by omega
        go_wp2
        go_ret
        exact ⟨Ns.ret_bool rfl, HBW.out _ BF.out⟩
  · have HV : Hid (errV (loadE caps paths r) = .iface 57 (.int .i64 (loadE caps paths r))) := errV_ne he
    rw [HV.out] at HNA
    generalize loadE caps paths r = ek at *
    generalize (decide (ek = 0) && fairB caps paths r) = bb at *
    clear he
    go_wp2_with fail
    refine (HNA.out _ (HBW.out _ B2.out)).mono ?_
    rintro e w3 ⟨rfl, hw3⟩
    have B3 : Hid (Below (w.heap.size + 1) (w.alloc (.cells #[.slice a1 caps.length cap1, .slice a2 paths.length cap2] 25)) w3) := Bel.call B2.out hNB.out hw3
    clear hw3
    go_wp2
    go_ret
    exact ⟨Ns.ret_bool rfl, HBW.out _ B3.out⟩
end Fl
end Go.Proofs.Ytmimfcmpealemac
