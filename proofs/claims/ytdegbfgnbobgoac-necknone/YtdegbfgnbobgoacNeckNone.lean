/- The law NeckNone returns true for every net of not too many flows, from what is asked of package neck's calls: at rates of 0 no flow has a narrow place. -/
import Derived.Test.YtdegbfgnbobgoacPlains
import Derived.OwnWalk
namespace Go.Proofs.Ytdegbfgnbobgoac
namespace Fl
open Go.RowKit Fr Ns Ld
set_option linter.unusedSimpArgs false
set_option linter.unusedVariables false

theorem zeros_snoc (k : Nat) : List.replicate (k + 1) ((0 : Int), (1 : Int)) = List.replicate k (0, 1) ++ [(0, 1)] := List.replicate_succ'
theorem fact4E : loadE [4] [[0]] [(4, 1)] = 0 := by decide +kernel
theorem fact4 : necksL [4] [[0]] [(4, 1)] = [0] := by decide +kernel
theorem no_neck {caps : List Int} {paths : List (List Int)} (h : netE caps paths = 0) : necksL caps paths (List.replicate paths.length (0, 1)) = List.replicate paths.length (-1) ∧ fairB caps paths (List.replicate paths.length (0, 1)) = false := by
  have hg := good_of_net h
  have hz := (zeros (caps := caps) (paths := paths)).2.1
  have hf : ∀ l, fullB caps paths (List.replicate paths.length (0, 1)) l = false := by
    intro l
    unfold fullB
    by_cases hl : l < caps.length
    · have h1 := (hg.1 _ (getD_mem caps l hl 0)).1
      rw [hz]
      simp [List.getD, List.getElem?_replicate, hl] at h1 ⊢
      omega
    · simp [hl]
  have hn : ∀ f, neckOf caps paths (List.replicate paths.length (0, 1)) f = -1 := by
    intro f
    unfold neckOf
    rw [List.find?_eq_none.2 (fun x _ => by simp [hf])]
    rfl
  refine ⟨?_, ?_⟩
  · unfold necksL
    apply List.ext_getElem
    · simp
    · intro i h1 h2
      simp [hn]
  · have h0 := netE_0 h
    unfold fairB
    rw [Bool.and_eq_false_iff]
    right
    rw [List.all_eq_false]
    exact ⟨0, by simp; omega, by simp [hn]⟩
theorem lit_lists1 (w : World) (g : Nat) (x : Value) (l : List Int) (h0 : w.cell? ⟨g, 0, none⟩ = some x) (hx : IntsAt (fun _ => True) w x l) : ListsAt (fun _ => True) w (.slice (some ⟨g, 0, none⟩) 1 1) [l] :=
  ⟨_, 1, rfl, ⟨Nat.le_refl _, by simp⟩, .inr ⟨g, 0, rfl, fun i hi => by
    match i, hi with
    | 0, _ => exact ⟨x, by simpa using h0, hx⟩, trivial⟩⟩
theorem lit_fracs1 (w : World) (g : Nat) (a b : Int) (h0 : w.cell? ⟨g, 0, none⟩ = some (.int .i64 a)) (h1 : w.cell? ⟨g, 1, none⟩ = some (.int .i64 b)) : FracsAt (fun _ => True) w (.slice (some ⟨g, 0, none⟩) 1 1) [(a, b)] :=
  ⟨_, 1, rfl, ⟨Nat.le_refl _, by simp⟩, .inr ⟨g, 0, rfl, fun i hi => by
    match i, hi with
    | 0, _ => exact ⟨by simpa using h0, by simpa using h1⟩, trivial⟩⟩

set_option maxRecDepth 100000 in
set_option maxHeartbeats 4000000 in
theorem neckNone_walk (hOf : NOfSaid) (hFa : NFairSaid) (caps : List Int) (paths : List (List Int)) (v : Value) (w : World) (hbig : paths.length * 24 ≤ 140737488355328)
    (hv : NetAt (fun b => b < w.heap.size) w v caps paths) :
    Calls Try.prog 6 #[v] w fun e w' => e = .returned (.bool true) ∧ Below w.heap.size w w' := by
  have HV : Hid (NetAt (fun b => b < w.heap.size) w v caps paths) := hv
  obtain ⟨v1, v2, rfl, h1, h2⟩ := hv
  obtain ⟨a1, cap1, rfl, ⟨hm1, hn1⟩, _⟩ := h1
  obtain ⟨a2, cap2, rfl, ⟨hm2, hn2⟩, _⟩ := h2
  obtain ⟨i0, hi0, hz0, hz1, hz2⟩ := info_parts infoFrac
  have HBW : Hid (∀ u, Below (w.heap.size + 1) (w.alloc (.cells #[.slice a1 caps.length cap1, .slice a2 paths.length cap2] 25)) u → Below w.heap.size w u) := fun u hu => ((Below.refl _ _).alloc (Nat.le_refl _) _).trans (hu.mono (by omega))
  have HCW : Hid (∀ u, Below (w.heap.size + 1) (w.alloc (.cells #[.slice a1 caps.length cap1, .slice a2 paths.length cap2] 25)) u → u.cell? ⟨w.heap.size, 0, none⟩ = some (.slice a1 caps.length cap1) ∧ u.cell? ⟨w.heap.size, 1, none⟩ = some (.slice a2 paths.length cap2) ∧ w.heap.size + 1 ≤ u.heap.size) := fun u hu =>
    ⟨(hu.cell (p := ⟨w.heap.size, 0, none⟩) (by simp)).trans (by simp), (hu.cell (p := ⟨w.heap.size, 1, none⟩) (by simp)).trans (by simp), by have := hu.size; simpa using this⟩
  have hNB : Hid (w.heap.size + 1 ≤ (w.alloc (.cells #[.slice a1 caps.length cap1, .slice a2 paths.length cap2] 25)).heap.size) := by simp [Hid]
  have B0 : Hid (Below (w.heap.size + 1) (w.alloc (.cells #[.slice a1 caps.length cap1, .slice a2 paths.length cap2] 25)) (((((w.alloc (.cells #[.slice a1 caps.length cap1, .slice a2 paths.length cap2] 25)).alloc (.cells #[.int .i64 4] 3)).alloc (.cells #[.int .i64 0] 3)).alloc (.cells #[.slice (some ⟨w.heap.size + 1 + 1, 0, none⟩) 1 1] 22)).alloc (.cells #[.int .i64 4, .int .i64 1] 37))) := ((((Below.refl _ _).alloc (by simp) _).alloc (by simp) _).alloc (by simp) _).alloc (by simp) _
  have HL1 : Hid (Calls Try.prog 12 #[.agg #[.slice (some ⟨w.heap.size + 1, 0, none⟩) 1 1, .slice (some ⟨w.heap.size + 1 + 1 + 1, 0, none⟩) 1 1], .slice (some ⟨w.heap.size + 1 + 1 + 1 + 1, 0, none⟩) 1 1] (((((w.alloc (.cells #[.slice a1 caps.length cap1, .slice a2 paths.length cap2] 25)).alloc (.cells #[.int .i64 4] 3)).alloc (.cells #[.int .i64 0] 3)).alloc (.cells #[.slice (some ⟨w.heap.size + 1 + 1, 0, none⟩) 1 1] 22)).alloc (.cells #[.int .i64 4, .int .i64 1] 37)) fun e w' => ∃ y, e = .returned (.tuple #[y, .nilIface]) ∧ IntsAt (fun b => (((((w.alloc (.cells #[.slice a1 caps.length cap1, .slice a2 paths.length cap2] 25)).alloc (.cells #[.int .i64 4] 3)).alloc (.cells #[.int .i64 0] 3)).alloc (.cells #[.slice (some ⟨w.heap.size + 1 + 1, 0, none⟩) 1 1] 22)).alloc (.cells #[.int .i64 4, .int .i64 1] 37)).heap.size ≤ b) w' y [0] ∧ Below (((((w.alloc (.cells #[.slice a1 caps.length cap1, .slice a2 paths.length cap2] 25)).alloc (.cells #[.int .i64 4] 3)).alloc (.cells #[.int .i64 0] 3)).alloc (.cells #[.slice (some ⟨w.heap.size + 1 + 1, 0, none⟩) 1 1] 22)).alloc (.cells #[.int .i64 4, .int .i64 1] 37)).heap.size (((((w.alloc (.cells #[.slice a1 caps.length cap1, .slice a2 paths.length cap2] 25)).alloc (.cells #[.int .i64 4] 3)).alloc (.cells #[.int .i64 0] 3)).alloc (.cells #[.slice (some ⟨w.heap.size + 1 + 1, 0, none⟩) 1 1] 22)).alloc (.cells #[.int .i64 4, .int .i64 1] 37)) w') := by
    have := hOf (fun _ => True) [4] [[0]] [(4, 1)] (.agg #[.slice (some ⟨w.heap.size + 1, 0, none⟩) 1 1, .slice (some ⟨w.heap.size + 1 + 1 + 1, 0, none⟩) 1 1]) (.slice (some ⟨w.heap.size + 1 + 1 + 1 + 1, 0, none⟩) 1 1) (((((w.alloc (.cells #[.slice a1 caps.length cap1, .slice a2 paths.length cap2] 25)).alloc (.cells #[.int .i64 4] 3)).alloc (.cells #[.int .i64 0] 3)).alloc (.cells #[.slice (some ⟨w.heap.size + 1 + 1, 0, none⟩) 1 1] 22)).alloc (.cells #[.int .i64 4, .int .i64 1] 37)) ⟨_, _, rfl, lit_int1 _ (w.heap.size + 1) 4 (by go_simp), lit_lists1 _ (w.heap.size + 1 + 1 + 1) _ [0] (by go_simp) (lit_int1 _ (w.heap.size + 1 + 1) 0 (by go_simp))⟩ (lit_fracs1 _ (w.heap.size + 1 + 1 + 1 + 1) 4 1 (by go_simp) (by go_simp))
    rw [fact4E, fact4, errV_0] at this
    exact this
  go_enter Try.func6, Try.ntmps6
  go_wp2_with fail
  generalize (((((w.alloc (.cells #[.slice a1 caps.length cap1, .slice a2 paths.length cap2] 25)).alloc (.cells #[.int .i64 4] 3)).alloc (.cells #[.int .i64 0] 3)).alloc (.cells #[.slice (some ⟨w.heap.size + 1 + 1, 0, none⟩) 1 1] 22)).alloc (.cells #[.int .i64 4, .int .i64 1] 37)) = w0 at *
  refine HL1.out.mono ?_
  rintro e w1 ⟨y, rfl, hy, hw1⟩
  have B1 : Hid (Below (w.heap.size + 1) (w.alloc (.cells #[.slice a1 caps.length cap1, .slice a2 paths.length cap2] 25)) w1) := Bel.call B0.out hNB.out hw1
  obtain ⟨ay, cy, rfl, ⟨hmy, hny⟩, hc⟩ := hy
  rcases hc with hc | ⟨b, off, rfl, hc, _⟩
  · simp at hc
  have hc0 := hc 0 (by simp)
  rw [Nat.add_zero, show ([0] : List Int).getD 0 0 = 0 from rfl] at hc0
  clear hw1 HL1 B0 hc
  obtain ⟨g0, g1, hsz⟩ := HCW.out _ B1.out
  go_wp2
  go_loopw [5, 6] (fun o i wr => ∃ k : Nat, k ≤ paths.length ∧ i = .int .i64 k ∧ wr.ownsRow (w.heap.size + 1) 37 2 o k (flat (List.replicate k (0, 1))) ∧ Below (w.heap.size + 1) (w.alloc (.cells #[.slice a1 caps.length cap1, .slice a2 paths.length cap2] 25)) wr) (fun _ i _ => paths.length - (intOf i).toNat)
  case atStart => exact ⟨0, by omega, rfl, World.ownsRow_nil _ _ _ _, B1.out⟩
  case round =>
    obtain ⟨k, hk, rfl, hown, hbel⟩ := hrel
    clear g0 g1 hsz hc0
    obtain ⟨g0, g1, hsz⟩ := HCW.out _ hbel
    by_cases hlt : k < paths.length
    · have HO := (show Hid (wr.ownsRow (w.heap.size + 1) 37 2 u5 k (flat (List.replicate k (0, 1)))) from hown)
      clear hown
      go_wp2_with (at_builtin; go_must (refine wpList_append_own _ rfl (.tmp 42) (.tmp 44) 26 rfl (w.heap.size + 1) 37 i0 (.agg #[.int .i64 0, .int .i64 0]) 2 16 Try.underlying26 hi0 hz0 hz1 hz2 rfl (by decide) _ _ _ rfl (HO.out.alloc _) ⟨wr.heap.size, 0, none⟩ 1 1 [.int .i64 0, .int .i64 1] rfl rfl ?c1 ?c2 ?c3 ?c4 ?c5 ?_))
      case c1 =>
        intro j u hj
        match j, hj with
        | 0, hj => simp at hj; subst hj; simp [Addr.add]
        | 1, hj => simp at hj; subst hj; simp [Addr.add]
      case c2 => intro u hu; simp at hu; rcases hu with rfl | rfl <;> rfl
      case c3 => unfold maxLen; omega
      case c4 => omega
      case c5 => simp; omega
      intro v' w2 hown' hgrow _
      have R1 := rel_append hbel hsz HO.out hgrow
      have R2 : Hid (w2.ownsRow (w.heap.size + 1) 37 2 v' (k + 1) (flat (List.replicate (k + 1) (0, 1)))) := by
        show World.ownsRow _ _ _ _ _ _ _
        rw [zeros_snoc, flat_append]
        exact hown'
      clear hown' hgrow
      go_wp2
      go_roundw
      case rel => exact ⟨k + 1, by omega, by go_num, R2, R1⟩
      case measure => simp [intOf]; omega
    · obtain rfl : k = paths.length := by omega
      have hF : FracsAt (fun b => w.heap.size ≤ b) wr u5 (List.replicate paths.length (0, 1)) := fracs_of_owns (by simp; omega) (by simpa using hown) (fun g hg => by omega)
      have HF : Hid (FracsAt (fun _ => True) wr u5 (List.replicate paths.length (0, 1))) := hF.keep (fun _ _ _ => rfl) (fun _ _ _ => trivial)
      have HC1 : Hid (Below (w.heap.size + 1) (w.alloc (.cells #[.slice a1 caps.length cap1, .slice a2 paths.length cap2] 25)) wr) := hbel
      obtain ⟨ar, nr, cr, rfl⟩ := hF.shape
      have z1 := (zeros (caps := caps) (paths := paths)).1
      have HT : Hid (∀ u, Below w.heap.size w u → NetAt (fun _ => True) u (.agg #[.slice a1 caps.length cap1, .slice a2 paths.length cap2]) caps paths) := fun u hu => (HV.out.later hu).keep (fun _ _ _ => rfl) (fun _ _ _ => trivial)
      have hO := hOf _ caps paths _ _ _ wr (HT.out _ (HBW.out _ hbel)) HF.out
      have hFi := fun (u : World) (hu : Below wr.heap.size wr u) => hFa _ caps paths _ _ _ u (HT.out _ ((HBW.out _ hbel).trans (hu.mono (by omega)))) (HF.out.later hu)
      rw [z1] at hO
      rw [z1] at hFi
      clear hown hbel hF
      by_cases he : netE caps paths = 0
      · obtain ⟨z2, z3⟩ := no_neck he
        rw [he, errV_0, okL_0, z2] at hO
        rw [he, errV_0, z3] at hFi
        have HO : Hid (Calls Try.prog 12 #[.agg #[.slice a1 caps.length cap1, .slice a2 paths.length cap2], .slice ar nr cr] wr fun e w' => ∃ y, e = .returned (.tuple #[y, .nilIface]) ∧ IntsAt (fun b => wr.heap.size ≤ b) w' y (List.replicate paths.length (-1)) ∧ Below wr.heap.size wr w') := hO
        have HFi : Hid (∀ u : World, Below wr.heap.size wr u → Calls Try.prog 13 #[.agg #[.slice a1 caps.length cap1, .slice a2 paths.length cap2], .slice ar nr cr] u fun e w' => e = .returned (.tuple #[.bool false, .nilIface]) ∧ Below u.heap.size u w') := hFi
        clear hO hFi z1 z2 z3 he
        go_wp2_with fail
        refine HO.out.mono ?_
        rintro e w2 ⟨y, rfl, hy, hw1⟩
        have HC2 : Hid (Below (w.heap.size + 1) (w.alloc (.cells #[.slice a1 caps.length cap1, .slice a2 paths.length cap2] 25)) w2) := HC1.out.trans (hw1.mono hsz)
        clear g0 g1
        obtain ⟨g0, g1, hsz1⟩ := HCW.out _ HC2.out
        have HY1 : Hid (IntsAt (fun _ => True) w2 y (List.replicate paths.length (-1))) := hy.keep (fun _ _ _ => rfl) (fun _ _ _ => trivial)
        have HW1 : Hid (Below wr.heap.size wr w2) := hw1
        obtain ⟨ay, cy, rfl, ⟨hmy, hny⟩, _⟩ := hy
        clear hw1
        rw [List.length_replicate] at HY1 hmy ⊢
        go_wp2_with fail
        refine (HFi.out _ HW1.out).mono ?_
        rintro e w3 ⟨rfl, hw2⟩
        have HC3 : Hid (Below (w.heap.size + 1) (w.alloc (.cells #[.slice a1 caps.length cap1, .slice a2 paths.length cap2] 25)) w3) := HC2.out.trans (hw2.mono hsz1)
        have HY2 : Hid (∀ i, i < paths.length → ∃ b off, ay = some ⟨b, off, none⟩ ∧ w3.cell? ⟨b, off + i, none⟩ = some (.int .i64 (-1))) := by
          intro i hi
          obtain ⟨_, _, e, _, h⟩ := HY1.out.later hw2
          simp only [Value.slice.injEq] at e
          obtain ⟨rfl, _, rfl⟩ := e
          rcases h with h | ⟨b, off, rfl, h, _⟩
          · simp at h; rw [h] at hi; simp at hi
          · have hh := h i (by simpa using hi)
            have hg : (List.replicate paths.length (-1 : Int)).getD i 0 = -1 := by simp [List.getD, List.getElem?_replicate, hi]
            rw [hg] at hh
            exact ⟨b, off, rfl, hh⟩
        clear g0 g1
        obtain ⟨g0, g1, hsz2⟩ := HCW.out _ HC3.out
        clear hw2
        go_wp2
        go_loop [11] (fun i => ∃ k : Nat, k ≤ paths.length ∧ i = .int .i64 k) (fun i => paths.length - (intOf i).toNat)
        case atStart => exact ⟨0, by omega, rfl⟩
        case round =>
          obtain ⟨k, hk, rfl⟩ := hrel
          by_cases hlt : k < paths.length
          · obtain ⟨b, off, rfl, hc1⟩ := HY2.out k hlt
            go_wp2
            go_round
            case rel => exact ⟨k + 1, by omega, by go_num⟩
            case measure => simp [intOf]; omega
          · go_wp2
            go_ret
            exact ⟨Ns.ret_bool rfl, HBW.out _ HC3.out⟩
      · have HE : Hid (errV (netE caps paths) = .iface 57 (.int .i64 (netE caps paths))) := errV_ne he
        rw [HE.out, okL_ne he] at hO
        rw [HE.out] at hFi
        have hd : (decide (netE caps paths = 0) && fairB caps paths (List.replicate paths.length (0, 1))) = false := by simp [he]
        rw [hd] at hFi
        generalize netE caps paths = ek at *
        have HO : Hid (Calls Try.prog 12 #[.agg #[.slice a1 caps.length cap1, .slice a2 paths.length cap2], .slice ar nr cr] wr fun e w' => ∃ y, e = .returned (.tuple #[y, .iface 57 (.int .i64 ek)]) ∧ IntsAt (fun b => wr.heap.size ≤ b) w' y [] ∧ Below wr.heap.size wr w') := hO
        have HFi : Hid (∀ u : World, Below wr.heap.size wr u → Calls Try.prog 13 #[.agg #[.slice a1 caps.length cap1, .slice a2 paths.length cap2], .slice ar nr cr] u fun e w' => e = .returned (.tuple #[.bool false, .iface 57 (.int .i64 ek)]) ∧ Below u.heap.size u w') := hFi
        clear hO hFi z1 he hd
        go_wp2_with fail
        refine HO.out.mono ?_
        rintro e w2 ⟨y, rfl, hy, hw1⟩
        have HC2 : Hid (Below (w.heap.size + 1) (w.alloc (.cells #[.slice a1 caps.length cap1, .slice a2 paths.length cap2] 25)) w2) := HC1.out.trans (hw1.mono hsz)
        clear g0 g1
        obtain ⟨g0, g1, hsz1⟩ := HCW.out _ HC2.out
        have HW1 : Hid (Below wr.heap.size wr w2) := hw1
        obtain ⟨ay, cy, rfl, _⟩ := hy
        clear hw1
        go_wp2_with fail
        refine (HFi.out _ HW1.out).mono ?_
        rintro e w3 ⟨rfl, hw2⟩
        have HC3 : Hid (Below (w.heap.size + 1) (w.alloc (.cells #[.slice a1 caps.length cap1, .slice a2 paths.length cap2] 25)) w3) := HC2.out.trans (hw2.mono hsz1)
        clear g0 g1
        obtain ⟨g0, g1, hsz2⟩ := HCW.out _ HC3.out
        clear hw2
        go_wp2
        go_ret
        exact ⟨Ns.ret_bool rfl, HBW.out _ HC3.out⟩
end Fl
end Go.Proofs.Ytdegbfgnbobgoac
