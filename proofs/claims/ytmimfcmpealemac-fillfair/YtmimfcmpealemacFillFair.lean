/- The law FillFair returns true for every net, from what is asked of fill's, load's and neck's calls: it fits, and each has its narrow place. -/
import Derived.Test.YtmimfcmpealemacPlains
import Derived.Test.YtmimfcmpealemacFracE
import Derived.Deep.RegionLaw
namespace Go.Proofs.Ytmimfcmpealemac
namespace Fl
open Go.RowKit Fr Ns Ld
set_option linter.unusedSimpArgs false
set_option linter.unusedVariables false

theorem CmpF_right {a b : Int × Int} (ha : faultP a = 0) (hb : faultP b = 0) (w : World) :
    Calls Try.prog 10 #[.agg #[.int .i64 a.1, .int .i64 a.2], .agg #[.int .i64 b.1, .int .i64 b.2]] w fun e w' => e = .returned (.tuple #[.int .i64 (cmpI (a.1 * b.2) (b.1 * a.2)), .nilIface]) ∧ Below w.heap.size w w' := by
  have := Compare_any a.1 a.2 b.1 b.2 w
  have h1 : fault a.1 a.2 = 0 := ha
  have hf : fault2 a.1 a.2 b.1 b.2 = 0 := by rw [fault2, if_pos h1]; exact hb
  rw [cmpV, if_pos hf, hf, errV_0] at this
  exact this
theorem lit_int2 (w : World) (g : Nat) (x y : Int) (h0 : w.cell? ⟨g, 0, none⟩ = some (.int .i64 x)) (h1 : w.cell? ⟨g, 1, none⟩ = some (.int .i64 y)) : IntsAt (fun _ => True) w (.slice (some ⟨g, 0, none⟩) 2 2) [x, y] :=
  ⟨_, 2, rfl, ⟨Nat.le_refl _, by simp⟩, .inr ⟨g, 0, rfl, fun i hi => by
    match i, hi with
    | 0, _ => simpa using h0
    | 1, _ => simpa using h1, trivial⟩⟩
theorem lit_lists3 (w : World) (g : Nat) (x y z : Value) (l m n : List Int) (h0 : w.cell? ⟨g, 0, none⟩ = some x) (h1 : w.cell? ⟨g, 1, none⟩ = some y) (h2 : w.cell? ⟨g, 2, none⟩ = some z) (hx : IntsAt (fun _ => True) w x l) (hy : IntsAt (fun _ => True) w y m) (hz : IntsAt (fun _ => True) w z n) : ListsAt (fun _ => True) w (.slice (some ⟨g, 0, none⟩) 3 3) [l, m, n] :=
  ⟨_, 3, rfl, ⟨Nat.le_refl _, by simp⟩, .inr ⟨g, 0, rfl, fun i hi => by
    match i, hi with
    | 0, _ => exact ⟨x, by simpa using h0, hx⟩
    | 1, _ => exact ⟨y, by simpa using h1, hy⟩
    | 2, _ => exact ⟨z, by simpa using h2, hz⟩, trivial⟩⟩
theorem fact10E : netE [10, 4] [[0], [0, 1], [1]] = 0 := by decide +kernel
theorem fact10L : loadE [10, 4] [[0], [0, 1], [1]] [(8, 1), (2, 1), (2, 1)] = 0 := by decide +kernel
theorem fact10F : fairB [10, 4] [[0], [0, 1], [1]] [(8, 1), (2, 1), (2, 1)] = true := by decide +kernel
theorem fact10 : (fill [10, 4] [[0], [0, 1], [1]]).1 = [(8, 1), (2, 1), (2, 1)] := (only_one fact10L).1 fact10F

set_option maxRecDepth 100000 in
set_option maxHeartbeats 8000000 in
theorem fillFair_walk (hRa : RatesSaid) (hRo : RoundsSaid) (hCk : CheckSaid) (hFi : FitsSaid) (hOf : NOfSaid) (hFa : NFairSaid) (caps : List Int) (paths : List (List Int)) (v : Value) (w : World)
    (hv : NetAt (fun b => b < w.heap.size) w v caps paths) :
    Calls Try.prog 4 #[v] w fun e w' => e = .returned (.bool true) ∧ Below w.heap.size w w' := by
  have HRa : Hid (∀ u : World, Below w.heap.size w u → Calls Try.prog 8 #[v] u fun e w' => ∃ y, e = .returned (.tuple #[y, errV (netE caps paths)]) ∧ FracsAt (fun b => u.heap.size ≤ b) w' y (okL (netE caps paths) (fill caps paths).1) ∧ Below u.heap.size u w') := fun u hu => hRa _ caps paths v u (hv.later hu)
  have HRo : Hid (∀ u : World, Below w.heap.size w u → Calls Try.prog 14 #[v] u fun e w' => ∃ y, e = .returned (.tuple #[y, errV (netE caps paths)]) ∧ ListsAt (fun b => u.heap.size ≤ b) w' y (okL (netE caps paths) (fill caps paths).2) ∧ Below u.heap.size u w') := fun u hu => hRo _ caps paths v u (hv.later hu)
  have HCk : Hid (∀ u : World, Below w.heap.size w u → Calls Try.prog 11 #[v] u fun e w' => e = .returned (errV (netE caps paths)) ∧ Below u.heap.size u w') := fun u hu => hCk _ caps paths v u (hv.later hu)
  have HFi : Hid (∀ (u : World) (x : Value) (r : List (Int × Int)), Below w.heap.size w u → FracsAt (fun _ => True) u x r → Calls Try.prog 9 #[v, x] u fun e w' => e = .returned (.tuple #[.bool (decide (loadE caps paths r = 0) && fitsB caps paths r), errV (loadE caps paths r)]) ∧ Below u.heap.size u w') := fun u x r hu hx => hFi _ caps paths r v x u ((hv.later hu).keep (fun _ _ _ => rfl) (fun _ _ _ => trivial)) hx
  have HOf : Hid (∀ (u : World) (x : Value) (r : List (Int × Int)), Below w.heap.size w u → FracsAt (fun _ => True) u x r → Calls Try.prog 12 #[v, x] u fun e w' => ∃ y, e = .returned (.tuple #[y, errV (loadE caps paths r)]) ∧ IntsAt (fun b => u.heap.size ≤ b) w' y (okL (loadE caps paths r) (necksL caps paths r)) ∧ Below u.heap.size u w') := fun u x r hu hx => hOf _ caps paths r v x u ((hv.later hu).keep (fun _ _ _ => rfl) (fun _ _ _ => trivial)) hx
  have HFa : Hid (∀ (u : World) (x : Value) (r : List (Int × Int)), Below w.heap.size w u → FracsAt (fun _ => True) u x r → Calls Try.prog 13 #[v, x] u fun e w' => e = .returned (.tuple #[.bool (decide (loadE caps paths r = 0) && fairB caps paths r), errV (loadE caps paths r)]) ∧ Below u.heap.size u w') := fun u x r hu hx => hFa _ caps paths r v x u ((hv.later hu).keep (fun _ _ _ => rfl) (fun _ _ _ => trivial)) hx
  obtain ⟨v1, v2, rfl, h1, h2⟩ := hv
  obtain ⟨a1, cap1, rfl, ⟨hm1, hn1⟩, _⟩ := h1
  obtain ⟨a2, cap2, rfl, ⟨hm2, hn2⟩, _⟩ := h2
  have HBW : Hid (∀ u, Below (w.heap.size + 1) (w.alloc (.cells #[.slice a1 caps.length cap1, .slice a2 paths.length cap2] 25)) u → Below w.heap.size w u) := fun u hu => ((Below.refl _ _).alloc (Nat.le_refl _) _).trans (hu.mono (by omega))
  have HCW : Hid (∀ u, Below (w.heap.size + 1) (w.alloc (.cells #[.slice a1 caps.length cap1, .slice a2 paths.length cap2] 25)) u → u.cell? ⟨w.heap.size, 0, none⟩ = some (.slice a1 caps.length cap1) ∧ u.cell? ⟨w.heap.size, 1, none⟩ = some (.slice a2 paths.length cap2)) := fun u hu =>
    ⟨(hu.cell (p := ⟨w.heap.size, 0, none⟩) (by simp)).trans (by simp), (hu.cell (p := ⟨w.heap.size, 1, none⟩) (by simp)).trans (by simp)⟩
  have hNB : Hid (w.heap.size + 1 ≤ (w.alloc (.cells #[.slice a1 caps.length cap1, .slice a2 paths.length cap2] 25)).heap.size) := by simp [Hid]
  go_enter Try.func4, Try.ntmps4
  go_wp2_with fail
  refine (hRa (fun _ => True) [10, 4] [[0], [0, 1], [1]] _ _ ?lit).mono ?_
  case lit => exact ⟨_, _, rfl, lit_int2 _ (w.heap.size + 1) 10 4 (by go_simp) (by go_simp), lit_lists3 _ (w.heap.size + 1 + 1 + 1 + 1 + 1) _ _ _ [0] [0, 1] [1] (by go_simp) (by go_simp) (by go_simp) (lit_int1 _ (w.heap.size + 1 + 1) 0 (by go_simp)) (lit_int2 _ (w.heap.size + 1 + 1 + 1) 0 1 (by go_simp) (by go_simp)) (lit_int1 _ (w.heap.size + 1 + 1 + 1 + 1) 1 (by go_simp))⟩
  rintro e w1 ⟨x1, rfl, hx1, hw1⟩
  rw [fact10E, okL_0, fact10] at hx1
  rw [fact10E, errV_0]
  have B1 : Hid (Below (w.heap.size + 1) (w.alloc (.cells #[.slice a1 caps.length cap1, .slice a2 paths.length cap2] 25)) w1) := Bel.call (Bel.more (Bel.more (Bel.more (Bel.more (Bel.more (Below.refl _ _) hNB.out _) hNB.out _) hNB.out _) hNB.out _) hNB.out _) hNB.out hw1
  obtain ⟨ax, cx, rfl, ⟨hmx, _⟩, hx1⟩ := hx1
  rcases hx1 with h | ⟨bx, ox, rfl, hcx, _⟩
  · cases h
  have x0 : w1.cell? ⟨bx, ox, none⟩ = some (.int .i64 8) := by simpa using (hcx 0 (by decide)).1
  have x2 : w1.cell? ⟨bx, ox + 2, none⟩ = some (.int .i64 2) := by simpa using (hcx 1 (by decide)).1
  have x4 : w1.cell? ⟨bx, ox + 4, none⟩ = some (.int .i64 2) := by simpa using (hcx 2 (by decide)).1
  simp only [List.length_cons, List.length_nil] at hmx ⊢
  obtain ⟨g0, g1⟩ := HCW.out _ B1.out
  clear hw1 hcx
  by_cases he : netE caps paths = 0
  · obtain ⟨hlE, hfits, hfair, hxl, hneck⟩ := fill_right he
    have HRr : Hid (∀ i k, i < (fill caps paths).2.length → k < ((fill caps paths).2.getD i []).length → _) := fun i k hi hk => round_right he hi hk
    have hcnt := rounds_count he
    have hp6 : paths.length ≤ 6 := (netE_0 he).2.2.2.1
    have hRl : (fill caps paths).2.length ≤ paths.length := fill_rounds_le (good_of_net he)
    have HNk : Hid (∀ f, f < paths.length → 0 ≤ (necksL caps paths (fill caps paths).1).getD f 0) := fun f hf => by rw [necksL_at hf]; exact hneck f hf
    have hNl : (necksL caps paths (fill caps paths).1).length = paths.length := necksL_length _ _ _
    have HFi1 : Hid (∀ (u : World) (x : Value), Below w.heap.size w u → FracsAt (fun _ => True) u x (fill caps paths).1 → Calls Try.prog 9 #[.agg #[.slice a1 caps.length cap1, .slice a2 paths.length cap2], x] u fun e w' => e = .returned (.tuple #[.bool true, .nilIface]) ∧ Below u.heap.size u w') := fun u x hu hx => by
      have := HFi.out u x _ hu hx
      rw [hlE, hfits, errV_0] at this
      exact this
    have HFa1 : Hid (∀ (u : World) (x : Value), Below w.heap.size w u → FracsAt (fun _ => True) u x (fill caps paths).1 → Calls Try.prog 13 #[.agg #[.slice a1 caps.length cap1, .slice a2 paths.length cap2], x] u fun e w' => e = .returned (.tuple #[.bool true, .nilIface]) ∧ Below u.heap.size u w') := fun u x hu hx => by
      have := HFa.out u x _ hu hx
      rw [hlE, hfair, errV_0] at this
      exact this
    have HOf1 : Hid (∀ (u : World) (x : Value), Below w.heap.size w u → FracsAt (fun _ => True) u x (fill caps paths).1 → Calls Try.prog 12 #[.agg #[.slice a1 caps.length cap1, .slice a2 paths.length cap2], x] u fun e w' => ∃ y, e = .returned (.tuple #[y, .nilIface]) ∧ IntsAt (fun b => u.heap.size ≤ b) w' y (necksL caps paths (fill caps paths).1) ∧ Below u.heap.size u w') := fun u x hu hx => by
      have := HOf.out u x _ hu hx
      rw [hlE, okL_0, errV_0] at this
      exact this
    rw [he, errV_0, okL_0] at HRa HRo
    generalize necksL caps paths (fill caps paths).1 = NL at *
    generalize (fill caps paths).2 = R at *
    generalize (fill caps paths).1 = xs at *
    have HSl : Hid (∀ i k, i < R.length → (seenTo R i k).length ≤ paths.length ∧ (R.getD i []).length ≤ paths.length) := fun i k hi => by
      obtain ⟨rest, e⟩ := seen_split (k := k) hi
      obtain ⟨rest', e'⟩ := seen_split (k := 0) hi
      have e1 := congrArg List.length e
      have e2 := congrArg List.length e'
      simp only [List.length_append, List.drop_zero] at e1 e2
      omega
    have HSa : Hid ((seenTo R R.length 0).length = paths.length) := by show _ = _; rw [seen_all]; exact hcnt
    clear hlE hfits hfair hneck HFi HOf HFa HCk he hcnt
    obtain ⟨j0, hJ, hy0, hy1, hy2⟩ := info_parts infoBool
    go_wp2_with fail
    refine (HRa.out _ (HBW.out _ B1.out)).mono ?_
    rintro e w2 ⟨y, rfl, hy, hw2⟩
    have B2 : Hid (Below (w.heap.size + 1) (w.alloc (.cells #[.slice a1 caps.length cap1, .slice a2 paths.length cap2] 25)) w2) := Bel.call B1.out hNB.out hw2
    have Y2 : Hid (FracsAt (fun _ => True) w2 y xs) := hy.keep (fun _ _ _ => rfl) (fun _ _ _ => trivial)
    obtain ⟨ay, cy, e, ⟨hmy, hny⟩, hcy⟩ := hy
    rw [hxl] at e hmy hny
    subst e
    have HXc : Hid (∀ i, i < paths.length → ∃ b off, ay = some ⟨b, off, none⟩ ∧ ∀ u, Below w2.heap.size w2 u → u.cell? ⟨b, off + i * 2, none⟩ = some (.int .i64 (rP xs i).1) ∧ u.cell? ⟨b, off + i * 2 + 1, none⟩ = some (.int .i64 (rP xs i).2)) := by
      intro i hi
      rcases hcy with hc | ⟨b, off, rfl, hc, _⟩
      · rw [hc] at hxl; simp only [List.length_nil] at hxl; omega
      · exact ⟨b, off, rfl, fun u hu => ⟨cell_later hu (hc i (by omega)).1, cell_later hu (hc i (by omega)).2⟩⟩
    clear g0 g1 x0 x2 x4
    obtain ⟨g0, g1⟩ := HCW.out _ B2.out
    clear hw2 hcy hxl
    go_wp2_with fail
    refine (HFi1.out _ _ (HBW.out _ B2.out) Y2.out).mono ?_
    rintro e w3 ⟨rfl, hw3⟩
    have B3 : Hid (Below (w.heap.size + 1) (w.alloc (.cells #[.slice a1 caps.length cap1, .slice a2 paths.length cap2] 25)) w3) := Bel.call B2.out hNB.out hw3
    have Y3 : Hid (FracsAt (fun _ => True) w3 (.slice ay paths.length cy) xs) := Y2.out.later hw3
    have C3 : Hid (Below w2.heap.size w2 w3) := hw3
    clear g0 g1
    obtain ⟨g0, g1⟩ := HCW.out _ B3.out
    clear hw3
    go_wp2_with fail
    refine (HOf1.out _ _ (HBW.out _ B3.out) Y3.out).mono ?_
    rintro e w4 ⟨y4, rfl, hy4, hw4⟩
    have B4 : Hid (Below (w.heap.size + 1) (w.alloc (.cells #[.slice a1 caps.length cap1, .slice a2 paths.length cap2] 25)) w4) := Bel.call B3.out hNB.out hw4
    have Y4 : Hid (FracsAt (fun _ => True) w4 (.slice ay paths.length cy) xs) := Y3.out.later hw4
    have C4 : Hid (Below w2.heap.size w2 w4) := Bel.call C3.out (Nat.le_refl _) hw4
    obtain ⟨a4, c4, e, ⟨hm4, hn4⟩, hc4⟩ := hy4
    rw [hNl] at e hm4 hn4
    subst e
    have HNc : Hid (∀ i, i < paths.length → ∃ b off, a4 = some ⟨b, off, none⟩ ∧ ∀ u, Below w4.heap.size w4 u → u.cell? ⟨b, off + i, none⟩ = some (.int .i64 (NL.getD i 0))) := by
      intro i hi
      rcases hc4 with hc | ⟨b, off, rfl, hc, _⟩
      · rw [hc] at hNl; simp only [List.length_nil] at hNl; omega
      · exact ⟨b, off, rfl, fun u hu => cell_later hu (hc i (by omega))⟩
    clear g0 g1
    obtain ⟨g0, g1⟩ := HCW.out _ B4.out
    clear hw4 hc4 hNl
    go_wp2_with fail
    refine (HFa1.out _ _ (HBW.out _ B4.out) Y4.out).mono ?_
    rintro e w5 ⟨rfl, hw5⟩
    have B5 : Hid (Below (w.heap.size + 1) (w.alloc (.cells #[.slice a1 caps.length cap1, .slice a2 paths.length cap2] 25)) w5) := Bel.call B4.out hNB.out hw5
    have C5 : Hid (Below w2.heap.size w2 w5) := Bel.call C4.out (Nat.le_refl _) hw5
    have D5 : Hid (Below w4.heap.size w4 w5) := hw5
    clear g0 g1
    obtain ⟨g0, g1⟩ := HCW.out _ B5.out
    clear hw5
    go_wp2_with fail
    refine (HRo.out _ (HBW.out _ B5.out)).mono ?_
    rintro e w6 ⟨y6, rfl, hy6, hw6⟩
    have B6 : Hid (Below (w.heap.size + 1) (w.alloc (.cells #[.slice a1 caps.length cap1, .slice a2 paths.length cap2] 25)) w6) := Bel.call B5.out hNB.out hw6
    have C6 : Hid (Below w2.heap.size w2 w6) := Bel.call C5.out (Nat.le_refl _) hw6
    have D6 : Hid (Below w4.heap.size w4 w6) := Bel.call D5.out (Nat.le_refl _) hw6
    obtain ⟨a6, c6, rfl, ⟨hm6, hn6⟩, hc6⟩ := hy6
    have HRc : Hid (∀ i, i < R.length → ∃ b off x, a6 = some ⟨b, off, none⟩ ∧ ∀ u, Below w6.heap.size w6 u → u.cell? ⟨b, off + i, none⟩ = some x ∧ IntsAt (fun _ => True) u x (R.getD i [])) := by
      intro i hi
      rcases hc6 with rfl | ⟨b, off, rfl, hc, _⟩
      · simp at hi
      · obtain ⟨x, hx, hxi⟩ := hc i hi
        exact ⟨b, off, x, rfl, fun u hu => ⟨cell_later hu hx, (hxi.later hu).keep (fun _ _ _ => rfl) (fun _ _ _ => trivial)⟩⟩
    clear g0 g1
    obtain ⟨g0, g1⟩ := HCW.out _ B6.out
    clear hw6 hc6
    go_wp2_with (at_make; go_must (refine wpList_make_full _ rfl _ _ 44 rfl w6.heap.size 4 j0 (.bool false) 1 Try.underlying44 hJ hy0 hy1 .i64 .i64 _ _ paths.length rfl rfl rfl rfl ?b2 ?b3 ?b4 ?_))
    case b2 => rw [hy2]; omega
    case b3 => unfold maxLen; omega
    case b4 => simp
    intro w7 hown hgrow
    have hown' : w7.ownsRow w6.heap.size 4 1 (.slice (some ⟨w6.heap.size, 0, none⟩) paths.length paths.length) paths.length (madeCells #[.bool false] paths.length).toList := by simpa using hown
    rw [made_bools] at hown'
    have B67 : Below w6.heap.size w6 w7 := (Below.refl _ _).grown hgrow (by simp) (by intro k hk; cases hk)
    have R7 : RowAt w7 w6.heap.size 4 (boolsV (setDone (List.replicate paths.length false) (seenTo R 0 0))) := by rw [seen_zero, setDone_nil]; exact RowAt.of_owns hown'
    have h67 : w6.heap.size < w7.heap.size := R7.lt
    have RS : Hid (RowAt (w7.alloc (.cells #[.int .i64 0, .int .i64 1] 37)) w6.heap.size 4 (boolsV (setDone (List.replicate paths.length false) (seenTo R 0 0)))) := R7.alloc _
    have RL : Hid (RowAt (w7.alloc (.cells #[.int .i64 0, .int .i64 1] 37)) w7.heap.size 37 [.int .i64 (lastP xs (seenTo R 0 0)).1, .int .i64 (lastP xs (seenTo R 0 0)).2]) := by rw [seen_zero]; exact RowAt.new w7 #[.int .i64 0, .int .i64 1] 37
    have B7 : Hid (Below w6.heap.size w6 (w7.alloc (.cells #[.int .i64 0, .int .i64 1] 37))) := B67.alloc (by omega) _
    have HS0 : Hid (Value.int .i64 0 = .int .i64 ((seenTo R 0 0).length : Nat)) := by show _ = _; rw [seen_zero]; rfl
    clear hown hgrow hown' B67 R7 g0 g1
    go_wp2
    go_loopw [16, 18] (fun s16 s18 wq => ∃ i : Nat, i ≤ R.length ∧ s18 = .int .i64 i ∧ s16 = .int .i64 ((seenTo R i 0).length : Nat) ∧ Hid (RowAt wq w6.heap.size 4 (boolsV (setDone (List.replicate paths.length false) (seenTo R i 0)))) ∧ Hid (RowAt wq w7.heap.size 37 [.int .i64 (lastP xs (seenTo R i 0)).1, .int .i64 (lastP xs (seenTo R i 0)).2]) ∧ Hid (Below w6.heap.size w6 wq)) (fun _ s18 _ => R.length - (intOf s18).toNat)
    case atStart => exact ⟨0, by omega, rfl, HS0.out, RS, RL, B7⟩
    case round =>
      obtain ⟨i, hi, rfl, rfl, hrs, hrl, hb⟩ := hrel
      by_cases hil : i < R.length
      · obtain ⟨bR, oR, xR, rfl, hcR⟩ := HRc.out i hil
        obtain ⟨_, hxR⟩ := hcR _ hb.out
        have HRi : Hid (∀ k, k < (R.getD i []).length → _) := fun k hk => HRr.out i k hil hk
        have HSe : Hid (∀ k, k < (R.getD i []).length → seenTo R i (k + 1) = seenTo R i k ++ [(R.getD i []).getD k 0]) := fun k hk => seen_step hk
        have HSn : Hid (seenTo R (i + 1) 0 = seenTo R i (R.getD i []).length) := seen_next hil
        have HSi : Hid (∀ k, (seenTo R i k).length ≤ paths.length) := fun k => (HSl.out i k hil).1
        have hpi := (HSl.out i 0 hil).2
        obtain ⟨aR, capR, rfl, ⟨hmR, hnR⟩, hcx⟩ := hxR
        have HCx : Hid (∀ u, Below w6.heap.size w6 u → u.cell? ⟨bR, oR + i, none⟩ = some (.slice aR (R.getD i []).length capR)) := fun u hu => (hcR u hu).1
        have HCk : Hid (∀ k, k < (R.getD i []).length → ∃ b off, aR = some ⟨b, off, none⟩ ∧ ∀ u, Below w6.heap.size w6 u → u.cell? ⟨b, off + k, none⟩ = some (.int .i64 ((R.getD i []).getD k 0))) := by
          intro k hk
          rcases hcx with h0 | ⟨b, off, rfl, hc, _⟩
          · rw [h0] at hk; simp at hk
          · refine ⟨b, off, rfl, fun u hu => ?_⟩
            obtain ⟨_, hz⟩ := hcR u hu
            obtain ⟨_, _, e, _, hcz⟩ := hz
            simp only [Value.slice.injEq, Option.some.injEq] at e
            obtain ⟨rfl, _, rfl⟩ := e
            rcases hcz with h0 | ⟨b', off', e, hc', _⟩
            · rw [h0] at hk; simp at hk
            · simp only [Option.some.injEq, Addr.mk.injEq, and_true] at e
              obtain ⟨rfl, rfl⟩ := e
              exact hc' k hk
        clear hcx hcR
        generalize R.getD i [] = rd at *
        go_wp2
        go_loopw [16, 19, 20, 21, 22] (fun s16 s19 _ _ _ wq => ∃ k : Nat, k ≤ rd.length ∧ s19 = .int .i64 k ∧ s16 = .int .i64 ((seenTo R i k).length : Nat) ∧ Hid (RowAt wq w6.heap.size 4 (boolsV (setDone (List.replicate paths.length false) (seenTo R i k)))) ∧ Hid (RowAt wq w7.heap.size 37 [.int .i64 (lastP xs (seenTo R i k)).1, .int .i64 (lastP xs (seenTo R i k)).2]) ∧ Hid (Below w6.heap.size w6 wq)) (fun _ s19 _ _ _ _ => rd.length - (intOf s19).toNat)
        case atStart => exact ⟨0, by omega, rfl, rfl, hrs, hrl, hb⟩
        case round =>
          obtain ⟨k, hk, rfl, rfl, hrs', hrl', hb'⟩ := hrel
          clear hrs hrl hb
          have cR := HCx.out _ hb'.out
          by_cases hkl : k < rd.length
          · obtain ⟨f, hfe, hfl, hns, hf1, hf2, hc0, hc1⟩ := HRi.out k hkl
            obtain ⟨bk, ok, rfl, hck⟩ := HCk.out k hkl
            have ck := hck _ hb'.out
            rw [hfe] at ck
            have hsk := HSe.out k hkl
            rw [hfe] at hsk
            have HSc : Hid ((seenTo R i (k + 1)).length = (seenTo R i k).length + 1) := by show _ = _; rw [hsk]; simp
            have hsl := HSi.out k
            have hdl : f < (setDone (List.replicate paths.length false) (seenTo R i k)).length := by simp [setDone]; exact hfl
            have cs := hrs'.out.cell (bools_cell hdl)
            have hdf : dB (setDone (List.replicate paths.length false) (seenTo R i k)) f = false := by
              rw [dB_setDone (by simpa using hfl)]
              have : dB (List.replicate paths.length false) f = false := by simp [dB, List.getD, List.getElem?_replicate, hfl]
              simp [hns, this]
            rw [hdf] at cs
            have cs' := hrs'.out.frozen f
            have HD6 : Below w4.heap.size w4 wr := Bel.call D6.out (Nat.le_refl _) hb'.out
            obtain ⟨bn, on, rfl, hcn⟩ := HNc.out f hfl
            have cn := hcn _ HD6
            have hz0 := HNk.out f hfl
            obtain ⟨bx, ox, rfl, hcx⟩ := HXc.out f hfl
            have Hcx : Hid (∀ u, Below w2.heap.size w2 u → u.cell? ⟨bx, ox + f * 2, none⟩ = some (.int .i64 (rP xs f).1) ∧ u.cell? ⟨bx, ox + f * 2 + 1, none⟩ = some (.int .i64 (rP xs f).2)) := hcx
            have hs26 : w2.heap.size ≤ w6.heap.size := C6.out.size
            have hs67 : w6.heap.size < wr.heap.size := hrs'.out.lt
            have hs7 : w7.heap.size < wr.heap.size := hrl'.out.lt
            have RSn : Hid (RowAt (wr.setCell ⟨w6.heap.size, f, none⟩ (.bool true)) w6.heap.size 4 (boolsV (setDone (List.replicate paths.length false) (seenTo R i (k + 1))))) := by
              show RowAt _ _ _ _
              rw [hsk, setDone_snoc (by simpa using hfl), boolsV_set]
              exact hrs'.out.set f (.bool true)
            have RLn : Hid (RowAt (wr.setCell ⟨w6.heap.size, f, none⟩ (.bool true)) w7.heap.size 37 [.int .i64 (lastP xs (seenTo R i k)).1, .int .i64 (lastP xs (seenTo R i k)).2]) := hrl'.out.other (by simp; omega) _
            have Bx : Hid (Below w2.heap.size w2 (wr.setCell ⟨w6.heap.size, f, none⟩ (.bool true))) := (Bel.call C6.out (Nat.le_refl _) hb'.out).setCell (by simp; omega) _
            obtain ⟨e0, e1⟩ := Hcx.out _ Bx.out
            have e2 := RLn.out.cell (i := 0) rfl
            have e3 := RLn.out.cell (i := 1) rfl
            have hLs : lastP xs (seenTo R i (k + 1)) = rP xs f := by rw [hsk, last_append]; simp
            obtain ⟨x1, x2, HXY⟩ : ∃ x1 x2, Hid ((lastP xs (seenTo R i (k + 1))).1 = x1 ∧ (lastP xs (seenTo R i (k + 1))).2 = x2) := ⟨_, _, rfl, rfl⟩
            have HCm0 := (show Hid (∀ u : World, _) from fun u => CmpF_right hf1 hf2 u)
            rw [← hLs] at e0 e1 hc0 hc1 HCm0 Hcx
            rw [HXY.out.1] at e0
            rw [HXY.out.2] at e1
            rw [HXY.out.1, HXY.out.2] at hc0 hc1 HCm0 Hcx
            generalize (lastP xs (seenTo R i k)).1 = q1 at *
            generalize (lastP xs (seenTo R i k)).2 = q2 at *
            generalize NL.getD f 0 = zn at *
            have hzn : ¬ zn < 0 := by omega
            clear hfe hns hf1 hf2 hck hsk hdl hdf HD6 hcn hcx hLs
            by_cases hk0 : k = 0
            · have HCm : Hid (∀ u, Calls Try.prog 10 #[.agg #[.int .i64 x1, .int .i64 x2], .agg #[.int .i64 q1, .int .i64 q2]] u fun e w' => e = .returned (.tuple #[.int .i64 1, .nilIface]) ∧ Below u.heap.size u w') := fun u => by
                have := HCm0.out u
                rw [hc0 hk0] at this
                exact this
              subst hk0
              rw [Nat.add_zero] at ck
              clear hc0 hc1 HCm0
              go_wp2_with fail
              go_region_law (go_simp; refine (HCm.out _).mono ?_; rintro e wc ⟨rfl, hwc⟩)
              all_goals
                have hbc : Below (wr.setCell ⟨w6.heap.size, f, none⟩ (.bool true)).heap.size (wr.setCell ⟨w6.heap.size, f, none⟩ (.bool true)) wc := (Below.refl _ _).drew.trans (hwc.mono (by simp))
                have hsc : wr.heap.size ≤ wc.heap.size := by have := hbc.size; simpa using this
                have rs := RSn.out.later hbc (by simp; omega)
                have rl := RLn.out.later hbc (by simp; omega)
                have l0 := rl.cell (i := 0) rfl
                have l1 := rl.cell (i := 1) rfl
                have l2 := rl.frozen 0
                have l3 := rl.frozen 1
                have hbW : Below w2.heap.size w2 wc := Bx.out.trans (hbc.mono (by have := Bx.out.size; omega))
                obtain ⟨d0, d1⟩ := Hcx.out wc hbW
                have HRS : Hid (RowAt ((wc.setCell ⟨w7.heap.size, 0, none⟩ (.int .i64 x1)).setCell ⟨w7.heap.size, 1, none⟩ (.int .i64 x2)) w6.heap.size 4 (boolsV (setDone (List.replicate paths.length false) (seenTo R i (0 + 1))))) := (rs.other (by simp; omega) _).other (by simp; omega) _
                have HRL : Hid (RowAt ((wc.setCell ⟨w7.heap.size, 0, none⟩ (.int .i64 x1)).setCell ⟨w7.heap.size, 1, none⟩ (.int .i64 x2)) w7.heap.size 37 [.int .i64 (lastP xs (seenTo R i (0 + 1))).1, .int .i64 (lastP xs (seenTo R i (0 + 1))).2]) := by
                  rw [HXY.out.1, HXY.out.2]
                  exact rl.set2 _ _
                have HBB : Hid (Below w6.heap.size w6 ((wc.setCell ⟨w7.heap.size, 0, none⟩ (.int .i64 x1)).setCell ⟨w7.heap.size, 1, none⟩ (.int .i64 x2))) := (((hb'.out.setCell (by simp) _).trans (hbc.mono (by simp; omega))).setCell (by simp; omega) _).setCell (by simp; omega) _
                clear hwc hbc hbW rs rl
                go_wp2
                go_roundw
                case rel => exact ⟨0 + 1, by omega, by go_num, by rw [HSc.out]; go_num, HRS, HRL, HBB⟩
                case measure => simp [intOf]; omega
            · have HCm : Hid (∀ u, Calls Try.prog 10 #[.agg #[.int .i64 x1, .int .i64 x2], .agg #[.int .i64 q1, .int .i64 q2]] u fun e w' => e = .returned (.tuple #[.int .i64 0, .nilIface]) ∧ Below u.heap.size u w') := fun u => by
                have := HCm0.out u
                rw [hc1 hk0] at this
                exact this
              have qk : ((k : Int) == 0) = false := by simp [hk0]
              have qk' : 0 < k := by omega
              clear hc0 hc1 HCm0
              go_wp2_with fail
              go_region_law (go_simp; refine (HCm.out _).mono ?_; rintro e wc ⟨rfl, hwc⟩)
              all_goals
                have hbc : Below (wr.setCell ⟨w6.heap.size, f, none⟩ (.bool true)).heap.size (wr.setCell ⟨w6.heap.size, f, none⟩ (.bool true)) wc := (Below.refl _ _).drew.trans (hwc.mono (by simp))
                have hsc : wr.heap.size ≤ wc.heap.size := by have := hbc.size; simpa using this
                have rs := RSn.out.later hbc (by simp; omega)
                have rl := RLn.out.later hbc (by simp; omega)
                have l0 := rl.cell (i := 0) rfl
                have l1 := rl.cell (i := 1) rfl
                have l2 := rl.frozen 0
                have l3 := rl.frozen 1
                have hbW : Below w2.heap.size w2 wc := Bx.out.trans (hbc.mono (by have := Bx.out.size; omega))
                obtain ⟨d0, d1⟩ := Hcx.out wc hbW
                have HRS : Hid (RowAt ((wc.setCell ⟨w7.heap.size, 0, none⟩ (.int .i64 x1)).setCell ⟨w7.heap.size, 1, none⟩ (.int .i64 x2)) w6.heap.size 4 (boolsV (setDone (List.replicate paths.length false) (seenTo R i (k + 1))))) := (rs.other (by simp; omega) _).other (by simp; omega) _
                have HRL : Hid (RowAt ((wc.setCell ⟨w7.heap.size, 0, none⟩ (.int .i64 x1)).setCell ⟨w7.heap.size, 1, none⟩ (.int .i64 x2)) w7.heap.size 37 [.int .i64 (lastP xs (seenTo R i (k + 1))).1, .int .i64 (lastP xs (seenTo R i (k + 1))).2]) := by
                  rw [HXY.out.1, HXY.out.2]
                  exact rl.set2 _ _
                have HBB : Hid (Below w6.heap.size w6 ((wc.setCell ⟨w7.heap.size, 0, none⟩ (.int .i64 x1)).setCell ⟨w7.heap.size, 1, none⟩ (.int .i64 x2))) := (((hb'.out.setCell (by simp) _).trans (hbc.mono (by simp; omega))).setCell (by simp; omega) _).setCell (by simp; omega) _
                clear hwc hbc hbW rs rl
                go_wp2
                go_roundw
                case rel => exact ⟨k + 1, by omega, by go_num, by rw [HSc.out]; go_num, HRS, HRL, HBB⟩
                case measure => simp [intOf]; omega
          · obtain rfl : k = rd.length := by omega
            go_wp2
            go_roundw
            case rel => exact ⟨i + 1, by omega, by go_num, by rw [HSn.out], by rw [HSn.out]; exact hrs', by rw [HSn.out]; exact hrl', hb'⟩
            case measure => simp [intOf]; omega
      · obtain rfl : i = R.length := by omega
        have B8 : Hid (Below w.heap.size w wr) := HBW.out _ (Bel.call B6.out hNB.out hb.out)
        rw [HSa.out]
        go_wp2
        go_ret
        exact ⟨Ns.ret_bool (by simp), B8.out⟩
  · have HV : Hid (errV (netE caps paths) = .iface 57 (.int .i64 (netE caps paths))) := errV_ne he
    have HK : Hid (okL (netE caps paths) (fill caps paths).1 = []) := okL_ne he _
    rw [HV.out, HK.out] at HRa
    rw [HV.out] at HCk
    generalize netE caps paths = ek at *
    clear he
    go_wp2_with fail
    refine (HRa.out _ (HBW.out _ B1.out)).mono ?_
    rintro e w2 ⟨y, rfl, hy, hw2⟩
    have B2 : Hid (Below (w.heap.size + 1) (w.alloc (.cells #[.slice a1 caps.length cap1, .slice a2 paths.length cap2] 25)) w2) := Bel.call B1.out hNB.out hw2
    clear g0 g1 x0 x2 x4
    obtain ⟨g0, g1⟩ := HCW.out _ B2.out
    obtain ⟨ay, cy, rfl, _⟩ := hy
    clear hw2
    go_wp2_with fail
    refine (HCk.out _ (HBW.out _ B2.out)).mono ?_
    rintro e w3 ⟨rfl, hw3⟩
    have B3 : Hid (Below w.heap.size w w3) := HBW.out _ (Bel.call B2.out hNB.out hw3)
    clear hw3
    go_wp2
    go_ret
    exact ⟨Ns.ret_bool rfl, B3.out⟩
end Fl
end Go.Proofs.Ytmimfcmpealemac
