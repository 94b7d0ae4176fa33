/- The law LoadNone returns true for every net of not too many flows, from what is asked of package load's calls: rates of 0 load nothing, and fit. -/
import Derived.Test.YtmoeaaocpnoibabLdSaid
import Derived.Test.YtmoeaaocpnoibabLdMore
import Derived.OwnWalk
namespace Go.Proofs.Ytmoeaaocpnoibab
namespace Ld
open Go.RowKit Fr Ns
set_option linter.unusedSimpArgs false
set_option linter.unusedVariables false

theorem replicate_snoc (k : Nat) : List.replicate (k + 1) ((0 : Int), (1 : Int)) = List.replicate k (0, 1) ++ [(0, 1)] := List.replicate_succ'

set_option maxRecDepth 100000 in
set_option maxHeartbeats 2000000 in
theorem loadNone_walk (hCheck : CheckSaid) (hOf : OfSaid) (hFits : FitsSaid) (caps : List Int) (paths : List (List Int)) (v : Value) (w : World) (hbig : paths.length * 24 ≤ 140737488355328)
    (hv : NetAt (fun b => b < w.heap.size) w v caps paths) :
    Calls Try.prog 4 #[v] w fun e w' => e = .returned (.bool true) ∧ Below w.heap.size w w' := by
  have HV : Hid (NetAt (fun b => b < w.heap.size) w v caps paths) := hv
  obtain ⟨v1, v2, rfl, h1, h2⟩ := hv
  obtain ⟨a1, cap1, rfl, ⟨hm1, hn1⟩, _⟩ := h1
  obtain ⟨a2, cap2, rfl, ⟨hm2, hn2⟩, _⟩ := h2
  obtain ⟨i0, hi, hz0, hz1, hz2⟩ := info_parts infoFrac
  go_enter Try.func4, Try.ntmps4
  go_wp2
  go_loopw [3, 4] (fun o i wr => ∃ k : Nat, k ≤ paths.length ∧ i = .int .i64 k ∧ wr.ownsRow (w.heap.size + 1) 28 2 o k (flat (List.replicate k (0, 1))) ∧ Below (w.heap.size + 1) (w.alloc (.cells #[.slice a1 caps.length cap1, .slice a2 paths.length cap2] 25)) wr) (fun _ i _ => paths.length - (intOf i).toNat)
  case atStart => exact ⟨0, by omega, rfl, World.ownsRow_nil _ _ _ _, Below.refl _ _⟩
  case round =>
    obtain ⟨k, hk, rfl, hown, hbel⟩ := hrel
    have HBW : Hid (∀ u, Below (w.heap.size + 1) (w.alloc (.cells #[.slice a1 caps.length cap1, .slice a2 paths.length cap2] 25)) u → Below w.heap.size w u) := fun u hu => ((Below.refl _ _).alloc (Nat.le_refl _) _).trans (hu.mono (by omega))
    have HCW : Hid (∀ u, Below (w.heap.size + 1) (w.alloc (.cells #[.slice a1 caps.length cap1, .slice a2 paths.length cap2] 25)) u → u.cell? ⟨w.heap.size, 0, none⟩ = some (.slice a1 caps.length cap1) ∧ u.cell? ⟨w.heap.size, 1, none⟩ = some (.slice a2 paths.length cap2) ∧ w.heap.size + 1 ≤ u.heap.size) := fun u hu =>
      ⟨(hu.cell (p := ⟨w.heap.size, 0, none⟩) (by simp)).trans (by simp), (hu.cell (p := ⟨w.heap.size, 1, none⟩) (by simp)).trans (by simp), by have := hu.size; simpa using this⟩
    obtain ⟨g0, g1, hsz⟩ := HCW.out _ hbel
    by_cases hlt : k < paths.length
    · have HO := (show Hid (wr.ownsRow (w.heap.size + 1) 28 2 u3 k (flat (List.replicate k (0, 1)))) from hown)
      clear hown
      go_wp2_with (at_builtin; go_must (refine wpList_append_own _ rfl (.tmp 17) (.tmp 19) 26 rfl (w.heap.size + 1) 28 i0 (.agg #[.int .i64 0, .int .i64 0]) 2 16 Try.underlying26 hi hz0 hz1 hz2 rfl (by decide) _ _ _ rfl (HO.out.alloc _) ⟨wr.heap.size, 0, none⟩ 1 1 [.int .i64 0, .int .i64 1] rfl rfl ?c1 ?c2 ?c3 ?c4 ?c5 ?_))
      case c1 =>
        intro j u hj
        match j, hj with
        | 0, hj => simp at hj; subst hj; simp [Addr.add]
        | 1, hj => simp at hj; subst hj; simp [Addr.add]
      case c2 => intro u hu; simp at hu; rcases hu with rfl | rfl <;> rfl
      case c3 => unfold maxLen; omega
      case c4 => omega
      case c5 => simp; omega
      intro v' w1 hown' hgrow _
      have R1 := rel_append hbel hsz HO.out hgrow
      have R2 : Hid (w1.ownsRow (w.heap.size + 1) 28 2 v' (k + 1) (flat (List.replicate (k + 1) (0, 1)))) := by
        show World.ownsRow _ _ _ _ _ _ _
        rw [replicate_snoc, flat_append]
        exact hown'
      clear hown' hgrow
      go_wp2
      go_roundw
      case rel => exact ⟨k + 1, by omega, by go_num, R2, R1⟩
      case measure => simp [intOf]; omega
    · obtain rfl : k = paths.length := by omega
      have hF : FracsAt (fun b => w.heap.size ≤ b) wr u3 (List.replicate paths.length (0, 1)) := fracs_of_owns (by simp; omega) (by simpa using hown) (fun g hg => by omega)
      have HF : Hid (FracsAt (fun _ => True) wr u3 (List.replicate paths.length (0, 1))) := hF.keep (fun _ _ _ => rfl) (fun _ _ _ => trivial)
      have HC1 : Hid (Below (w.heap.size + 1) (w.alloc (.cells #[.slice a1 caps.length cap1, .slice a2 paths.length cap2] 25)) wr) := hbel
      obtain ⟨ar, nr, cr, rfl⟩ := hF.shape
      obtain ⟨z1, z2, z3⟩ := zeros (caps := caps) (paths := paths)
      have HT : Hid (∀ u, Below w.heap.size w u → NetAt (fun _ => True) u (.agg #[.slice a1 caps.length cap1, .slice a2 paths.length cap2]) caps paths) := fun u hu => (HV.out.later hu).keep (fun _ _ _ => rfl) (fun _ _ _ => trivial)
      have hO := hOf _ caps paths _ _ _ wr (HT.out _ (HBW.out _ hbel)) HF.out
      have hFi := fun (u : World) (hu : Below wr.heap.size wr u) => hFits _ caps paths _ _ _ u (HT.out _ ((HBW.out _ hbel).trans (hu.mono (by omega)))) (HF.out.later hu)
      rw [z1, z2] at hO
      rw [z1] at hFi
      clear hown hbel hF
      by_cases he : netE caps paths = 0
      · rw [he, errV_0, okL_0] at hO
        rw [he, errV_0, z3 he] at hFi
        have HO : Hid (Calls Try.prog 5 #[.agg #[.slice a1 caps.length cap1, .slice a2 paths.length cap2], .slice ar nr cr] wr fun e w' => ∃ y, e = .returned (.tuple #[y, .nilIface]) ∧ FracsAt (fun b => wr.heap.size ≤ b) w' y (List.replicate caps.length (0, 1)) ∧ Below wr.heap.size wr w') := hO
        have HFi : Hid (∀ u : World, Below wr.heap.size wr u → Calls Try.prog 7 #[.agg #[.slice a1 caps.length cap1, .slice a2 paths.length cap2], .slice ar nr cr] u fun e w' => e = .returned (.tuple #[.bool true, .nilIface]) ∧ Below u.heap.size u w') := hFi
        clear hO hFi z1 z2 z3 he
        go_wp2_with fail
        refine HO.out.mono ?_
        rintro e w1 ⟨y, rfl, hy, hw1⟩
        have HC2 : Hid (Below (w.heap.size + 1) (w.alloc (.cells #[.slice a1 caps.length cap1, .slice a2 paths.length cap2] 25)) w1) := HC1.out.trans (hw1.mono hsz)
        obtain ⟨g0, g1, hsz1⟩ := HCW.out _ HC2.out
        have HY1 : Hid (FracsAt (fun _ => True) w1 y (List.replicate caps.length (0, 1))) := hy.keep (fun _ _ _ => rfl) (fun _ _ _ => trivial)
        have HW1 : Hid (Below wr.heap.size wr w1) := hw1
        obtain ⟨ay, cy, rfl, ⟨hmy, hny⟩, _⟩ := hy
        clear hw1
        rw [List.length_replicate] at HY1 hmy ⊢
        go_wp2_with fail
        refine (HFi.out _ HW1.out).mono ?_
        rintro e w2 ⟨rfl, hw2⟩
        have HC3 : Hid (Below (w.heap.size + 1) (w.alloc (.cells #[.slice a1 caps.length cap1, .slice a2 paths.length cap2] 25)) w2) := HC2.out.trans (hw2.mono hsz1)
        have HY2 : Hid (∀ i, i < caps.length → ∃ b off, ay = some ⟨b, off, none⟩ ∧ w2.cell? ⟨b, off + i * 2, none⟩ = some (.int .i64 0) ∧ w2.cell? ⟨b, off + i * 2 + 1, none⟩ = some (.int .i64 1)) := by
          intro i hi
          obtain ⟨_, _, e, _, h⟩ := HY1.out.later hw2
          simp only [Value.slice.injEq] at e
          obtain ⟨rfl, _, rfl⟩ := e
          rcases h with h | ⟨b, off, rfl, h, _⟩
          · simp at h; rw [h] at hi; simp at hi
          · have hh := h i (by simpa using hi)
            have hg : (List.replicate caps.length ((0 : Int), (1 : Int))).getD i (0, 0) = (0, 1) := by simp [List.getD, List.getElem?_replicate, hi]
            rw [hg] at hh
            exact ⟨b, off, rfl, hh⟩
        obtain ⟨g0, g1, hsz2⟩ := HCW.out _ HC3.out
        clear hw2
        go_wp2
        go_loop [9] (fun i => ∃ k : Nat, k ≤ caps.length ∧ i = .int .i64 k) (fun i => caps.length - (intOf i).toNat)
        case atStart => exact ⟨0, by omega, rfl⟩
        case round =>
          obtain ⟨k, hk, rfl⟩ := hrel
          by_cases hlt : k < caps.length
          · obtain ⟨b, off, rfl, hc1, hc2⟩ := HY2.out k hlt
            go_wp2
            go_round
            case rel => exact ⟨k + 1, by omega, by go_num⟩
            case measure => simp [intOf]; omega
          · go_wp2
            go_ret
            exact ⟨Ns.ret_bool rfl, HBW.out _ HC3.out⟩
      · have HE : Hid (errV (netE caps paths) = .iface 53 (.int .i64 (netE caps paths))) := errV_ne he
        have hCk := fun (u : World) (hu : Below w.heap.size w u) => hCheck _ caps paths _ u (HT.out _ hu)
        rw [HE.out, okL_ne he] at hO
        rw [HE.out] at hFi hCk
        have hd : (decide (netE caps paths = 0) && fitsB caps paths (List.replicate paths.length (0, 1))) = false := by simp [he]
        rw [hd] at hFi
        generalize netE caps paths = ek at *
        have HO : Hid (Calls Try.prog 5 #[.agg #[.slice a1 caps.length cap1, .slice a2 paths.length cap2], .slice ar nr cr] wr fun e w' => ∃ y, e = .returned (.tuple #[y, .iface 53 (.int .i64 ek)]) ∧ FracsAt (fun b => wr.heap.size ≤ b) w' y [] ∧ Below wr.heap.size wr w') := hO
        have HFi : Hid (∀ u : World, Below wr.heap.size wr u → Calls Try.prog 7 #[.agg #[.slice a1 caps.length cap1, .slice a2 paths.length cap2], .slice ar nr cr] u fun e w' => e = .returned (.tuple #[.bool false, .iface 53 (.int .i64 ek)]) ∧ Below u.heap.size u w') := hFi
        have HCk : Hid (∀ u : World, Below w.heap.size w u → Calls Try.prog 11 #[.agg #[.slice a1 caps.length cap1, .slice a2 paths.length cap2]] u fun e w' => e = .returned (.iface 53 (.int .i64 ek)) ∧ Below u.heap.size u w') := hCk
        clear hO hFi hCk z1 z2 z3 he hd
        go_wp2_with fail
        refine HO.out.mono ?_
        rintro e w1 ⟨y, rfl, hy, hw1⟩
        have HC2 : Hid (Below (w.heap.size + 1) (w.alloc (.cells #[.slice a1 caps.length cap1, .slice a2 paths.length cap2] 25)) w1) := HC1.out.trans (hw1.mono hsz)
        obtain ⟨g0, g1, hsz1⟩ := HCW.out _ HC2.out
        have HW1 : Hid (Below wr.heap.size wr w1) := hw1
        obtain ⟨ay, ny, cy, rfl⟩ := hy.shape
        clear hw1 hy
        go_wp2_with fail
        refine (HFi.out _ HW1.out).mono ?_
        rintro e w2 ⟨rfl, hw2⟩
        have HC3 : Hid (Below (w.heap.size + 1) (w.alloc (.cells #[.slice a1 caps.length cap1, .slice a2 paths.length cap2] 25)) w2) := HC2.out.trans (hw2.mono hsz1)
        obtain ⟨g0, g1, hsz2⟩ := HCW.out _ HC3.out
        clear hw2
        go_wp2_with fail
        refine (HCk.out _ (HBW.out _ HC3.out)).mono ?_
        rintro e w3 ⟨rfl, hw3⟩
        have HB4 : Hid (Below w.heap.size w w3) := (HBW.out _ HC3.out).trans (hw3.mono (by omega))
        clear hw3
        go_wp2
        go_ret
        exact ⟨Ns.ret_bool rfl, HB4.out⟩
end Ld
end Go.Proofs.Ytmoeaaocpnoibab
