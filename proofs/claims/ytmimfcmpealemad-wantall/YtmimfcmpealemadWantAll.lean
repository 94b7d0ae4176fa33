/- The law WantAll returns true for every net, from what is asked of want's and fill's calls: who wants all gets what it would. -/
import Derived.Test.YtmimfcmpealemadPlains
import Derived.Test.YtmimfcmpealemadLdSame
import Derived.OwnWalk
namespace Go.Proofs.Ytmimfcmpealemad
namespace Fl
open Go.RowKit Fr Ns Ld
set_option linter.unusedSimpArgs false
set_option linter.unusedVariables false

theorem fact43E : wantE [4] [[0]] [3] = 0 := by decide +kernel
theorem fact43L : loadE [4, 3] [[0, 1]] [(3, 1)] = 0 := by decide +kernel
theorem fact43F : fairB [4, 3] [[0, 1]] [(3, 1)] = true := by decide +kernel
theorem fact43 : wantR [4] [[0]] [3] = [(3, 1)] := (only_one fact43L).1 fact43F
theorem all1000 (n : Nat) : (List.replicate n (1000 : Int)).all wantB = true := by
  rw [List.all_eq_true]
  intro x hx
  rw [(List.mem_replicate.1 hx).2]
  decide
theorem wantE_all (caps : List Int) (paths : List (List Int)) : wantE caps paths (List.replicate paths.length 1000) = netE caps paths := by
  unfold wantE
  split
  · rename_i h
    rw [if_pos (by simp), if_pos (all1000 _), h]
  · rfl
theorem wantR_all {caps : List Int} {paths : List (List Int)} (h : netE caps paths = 0) : wantR caps paths (List.replicate paths.length 1000) = (fill caps paths).1 :=
  want_all (by rw [wantE_all]; exact h) (fun x hx => (List.mem_replicate.1 hx).2)
theorem wantS_at {caps : List Int} {paths : List (List Int)} {want : List Int} {f : Nat} (h : f < paths.length) : (wantS caps paths want).getD f false = decide (rP (wantR caps paths want) f = (want.getD f 0, 1)) := by
  simp [wantS, List.getD, List.getElem?_map, List.getElem?_range h]
theorem wantS_length (caps : List Int) (paths : List (List Int)) (want : List Int) : (wantS caps paths want).length = paths.length := by simp [wantS]
theorem lit_one (w : World) (g : Nat) (x : Int) (h0 : w.cell? ⟨g, 0, none⟩ = some (.int .i64 x)) : IntsAt (fun _ => True) w (.slice (some ⟨g, 0, none⟩) 1 1) [x] :=
  ⟨_, 1, rfl, ⟨Nat.le_refl _, by simp⟩, .inr ⟨g, 0, rfl, fun i hi => by
    match i, hi with
    | 0, _ => simpa using h0, trivial⟩⟩
theorem lit_list1 (w : World) (g : Nat) (x : Value) (l : List Int) (h0 : w.cell? ⟨g, 0, none⟩ = some x) (hx : IntsAt (fun _ => True) w x l) : ListsAt (fun _ => True) w (.slice (some ⟨g, 0, none⟩) 1 1) [l] :=
  ⟨_, 1, rfl, ⟨Nat.le_refl _, by simp⟩, .inr ⟨g, 0, rfl, fun i hi => by
    match i, hi with
    | 0, _ => exact ⟨x, by simpa using h0, hx⟩, trivial⟩⟩
theorem lit_frac1 (w : World) (g : Nat) (x y : Int) (h0 : w.cell? ⟨g, 0, none⟩ = some (.int .i64 x)) (h1 : w.cell? ⟨g, 1, none⟩ = some (.int .i64 y)) : FracsAt (fun _ => True) w (.slice (some ⟨g, 0, none⟩) 1 1) [(x, y)] :=
  ⟨_, 1, rfl, ⟨Nat.le_refl _, by simp⟩, .inr ⟨g, 0, rfl, fun i hi => by
    match i, hi with
    | 0, _ => exact ⟨by simpa using h0, by simpa using h1⟩, trivial⟩⟩

set_option maxRecDepth 100000 in
set_option maxHeartbeats 8000000 in
theorem wantAll_walk (hRa : WRatesSaid) (hSa : WSatedSaid) (hFl : RatesSaid) (caps : List Int) (paths : List (List Int)) (v : Value) (w : World) (hbig : paths.length * 24 ≤ 140737488355328)
    (hv : NetAt (fun b => b < w.heap.size) w v caps paths) :
    Calls Try.prog 5 #[v] w fun e w' => e = .returned (.bool true) ∧ Below w.heap.size w w' := by
  have HV : Hid (NetAt (fun b => b < w.heap.size) w v caps paths) := hv
  obtain ⟨v1, v2, rfl, h1, h2⟩ := hv
  obtain ⟨a1, cap1, rfl, ⟨hm1, hn1⟩, _⟩ := h1
  obtain ⟨a2, cap2, rfl, ⟨hm2, hn2⟩, _⟩ := h2
  obtain ⟨i0, hi0, hz0, hz1, hz2⟩ := info_parts infoInt
  have HBW : Hid (∀ u, Below (w.heap.size + 1) (w.alloc (.cells #[.slice a1 caps.length cap1, .slice a2 paths.length cap2] 25)) u → Below w.heap.size w u) := fun u hu => ((Below.refl _ _).alloc (Nat.le_refl _) _).trans (hu.mono (by omega))
  have HCW : Hid (∀ u, Below (w.heap.size + 1) (w.alloc (.cells #[.slice a1 caps.length cap1, .slice a2 paths.length cap2] 25)) u → u.cell? ⟨w.heap.size, 0, none⟩ = some (.slice a1 caps.length cap1) ∧ u.cell? ⟨w.heap.size, 1, none⟩ = some (.slice a2 paths.length cap2) ∧ w.heap.size + 1 ≤ u.heap.size) := fun u hu =>
    ⟨(hu.cell (p := ⟨w.heap.size, 0, none⟩) (by simp)).trans (by simp), (hu.cell (p := ⟨w.heap.size, 1, none⟩) (by simp)).trans (by simp), by have := hu.size; simpa using this⟩
  have hNB : Hid (w.heap.size + 1 ≤ (w.alloc (.cells #[.slice a1 caps.length cap1, .slice a2 paths.length cap2] 25)).heap.size) := by simp [Hid]
  have B0 : Hid (Below (w.heap.size + 1) (w.alloc (.cells #[.slice a1 caps.length cap1, .slice a2 paths.length cap2] 25)) (((((w.alloc (.cells #[.slice a1 caps.length cap1, .slice a2 paths.length cap2] 25)).alloc (.cells #[.int .i64 4] 3)).alloc (.cells #[.int .i64 0] 3)).alloc (.cells #[.slice (some ⟨w.heap.size + 1 + 1, 0, none⟩) 1 1] 22)).alloc (.cells #[.int .i64 3] 3))) := ((((Below.refl _ _).alloc (by simp) _).alloc (by simp) _).alloc (by simp) _).alloc (by simp) _
  have HL1 : Hid (Calls Try.prog 13 #[(.agg #[.slice (some ⟨w.heap.size + 1, 0, none⟩) 1 1, .slice (some ⟨w.heap.size + 1 + 1 + 1, 0, none⟩) 1 1]), (.slice (some ⟨w.heap.size + 1 + 1 + 1 + 1, 0, none⟩) 1 1)] (((((w.alloc (.cells #[.slice a1 caps.length cap1, .slice a2 paths.length cap2] 25)).alloc (.cells #[.int .i64 4] 3)).alloc (.cells #[.int .i64 0] 3)).alloc (.cells #[.slice (some ⟨w.heap.size + 1 + 1, 0, none⟩) 1 1] 22)).alloc (.cells #[.int .i64 3] 3)) fun e w' => ∃ y, e = .returned (.tuple #[y, .nilIface]) ∧ FracsAt (fun b => (((((w.alloc (.cells #[.slice a1 caps.length cap1, .slice a2 paths.length cap2] 25)).alloc (.cells #[.int .i64 4] 3)).alloc (.cells #[.int .i64 0] 3)).alloc (.cells #[.slice (some ⟨w.heap.size + 1 + 1, 0, none⟩) 1 1] 22)).alloc (.cells #[.int .i64 3] 3)).heap.size ≤ b) w' y [(3, 1)] ∧ Below (((((w.alloc (.cells #[.slice a1 caps.length cap1, .slice a2 paths.length cap2] 25)).alloc (.cells #[.int .i64 4] 3)).alloc (.cells #[.int .i64 0] 3)).alloc (.cells #[.slice (some ⟨w.heap.size + 1 + 1, 0, none⟩) 1 1] 22)).alloc (.cells #[.int .i64 3] 3)).heap.size (((((w.alloc (.cells #[.slice a1 caps.length cap1, .slice a2 paths.length cap2] 25)).alloc (.cells #[.int .i64 4] 3)).alloc (.cells #[.int .i64 0] 3)).alloc (.cells #[.slice (some ⟨w.heap.size + 1 + 1, 0, none⟩) 1 1] 22)).alloc (.cells #[.int .i64 3] 3)) w') := by
    have := hRa (fun _ => True) [4] [[0]] [3] (.agg #[.slice (some ⟨w.heap.size + 1, 0, none⟩) 1 1, .slice (some ⟨w.heap.size + 1 + 1 + 1, 0, none⟩) 1 1]) (.slice (some ⟨w.heap.size + 1 + 1 + 1 + 1, 0, none⟩) 1 1) (((((w.alloc (.cells #[.slice a1 caps.length cap1, .slice a2 paths.length cap2] 25)).alloc (.cells #[.int .i64 4] 3)).alloc (.cells #[.int .i64 0] 3)).alloc (.cells #[.slice (some ⟨w.heap.size + 1 + 1, 0, none⟩) 1 1] 22)).alloc (.cells #[.int .i64 3] 3)) ⟨_, _, rfl, lit_one _ (w.heap.size + 1) 4 (by go_simp), lit_list1 _ (w.heap.size + 1 + 1 + 1) (.slice (some ⟨w.heap.size + 1 + 1, 0, none⟩) 1 1) [0] (by go_simp) (lit_one _ (w.heap.size + 1 + 1) 0 (by go_simp))⟩ (lit_one _ (w.heap.size + 1 + 1 + 1 + 1) 3 (by go_simp))
    rw [fact43E, fact43, errV_0, okL_0] at this
    exact this
  go_enter Try.func5, Try.ntmps5
  go_wp2_with fail
  generalize (((((w.alloc (.cells #[.slice a1 caps.length cap1, .slice a2 paths.length cap2] 25)).alloc (.cells #[.int .i64 4] 3)).alloc (.cells #[.int .i64 0] 3)).alloc (.cells #[.slice (some ⟨w.heap.size + 1 + 1, 0, none⟩) 1 1] 22)).alloc (.cells #[.int .i64 3] 3)) = w0 at *
  refine HL1.out.mono ?_
  rintro e w1 ⟨y, rfl, hy, hw1⟩
  have B1 : Hid (Below (w.heap.size + 1) (w.alloc (.cells #[.slice a1 caps.length cap1, .slice a2 paths.length cap2] 25)) w1) := Bel.call B0.out hNB.out hw1
  have hz : w.heap.size + 1 ≤ w1.heap.size := Nat.le_trans hNB.out B1.out.size
  have B1' : Hid (Below (w.heap.size + 1) (w.alloc (.cells #[.slice a1 caps.length cap1, .slice a2 paths.length cap2] 25)) (w1.alloc (.cells #[.int .i64 3, .int .i64 1] 32))) := B1.out.alloc hz _
  have HS1 : Hid (Calls Try.prog 14 #[y, .slice (some ⟨w1.heap.size, 0, none⟩) 1 1] (w1.alloc (.cells #[.int .i64 3, .int .i64 1] 32)) fun e w' => e = .returned (.bool true) ∧ ∃ n, w' = (w1.alloc (.cells #[.int .i64 3, .int .i64 1] 32)).drewN n) := by
    have := SFracs_any [(3, 1)] [(3, 1)] y (.slice (some ⟨w1.heap.size, 0, none⟩) 1 1) (w1.alloc (.cells #[.int .i64 3, .int .i64 1] 32)) (hy.later ((Below.refl _ _).alloc (Nat.le_refl _) _)) (lit_frac1 _ _ _ _ (by go_simp) (by go_simp))
    rw [eqF_self] at this
    exact this
  obtain ⟨ay, ny, cy, rfl⟩ := hy.shape
  clear hw1 HL1 B0 hy
  go_wp2_with fail
  refine HS1.out.mono ?_
  rintro e w2 ⟨rfl, m2, hw2⟩
  have B2 : Hid (Below (w.heap.size + 1) (w.alloc (.cells #[.slice a1 caps.length cap1, .slice a2 paths.length cap2] 25)) w2) := by rw [hw2]; exact below_drewN B1'.out _
  clear hw2 HS1 B1'
  obtain ⟨g0, g1, hsz⟩ := HCW.out _ B2.out
  go_wp2
  go_loopw [5, 6] (fun o i wr => ∃ k : Nat, k ≤ paths.length ∧ i = .int .i64 k ∧ Hid (wr.ownsRow (w.heap.size + 1) 3 1 o k ((List.replicate k (1000 : Int)).map (Value.int .i64))) ∧ Hid (Below (w.heap.size + 1) (w.alloc (.cells #[.slice a1 caps.length cap1, .slice a2 paths.length cap2] 25)) wr)) (fun _ i _ => paths.length - (intOf i).toNat)
  case atStart => exact ⟨0, by omega, rfl, World.ownsRow_nil _ _ _ _, B2⟩
  case round =>
    obtain ⟨k, hk, rfl, hown, hbel⟩ := hrel
    clear g0 g1 hsz
    obtain ⟨g0, g1, hsz⟩ := HCW.out _ hbel.out
    by_cases hlt : k < paths.length
    · go_wp2_with (at_builtin; go_must (refine wpList_append_own _ rfl (.tmp 39) (.tmp 40) 22 rfl (w.heap.size + 1) 3 i0 (.int .i64 0) 1 8 Try.underlying22 hi0 hz0 hz1 hz2 rfl (by decide) _ _ _ rfl (hown.out.alloc _) ⟨wr.heap.size, 0, none⟩ 1 1 [.int .i64 1000] rfl rfl ?c1 ?c2 ?c3 ?c4 ?c5 ?_))
      case c1 =>
        intro j u hj
        match j, hj with
        | 0, hj => simp at hj; subst hj; simp [Addr.add]
      case c2 => intro u hu; simp at hu; subst hu; rfl
      case c3 => unfold maxLen; omega
      case c4 => omega
      case c5 => simp; omega
      intro v' w3 hown' hgrow _
      have R1 : Hid (Below (w.heap.size + 1) (w.alloc (.cells #[.slice a1 caps.length cap1, .slice a2 paths.length cap2] 25)) w3) := rel_append hbel.out hsz hown.out hgrow
      have R2 : Hid (w3.ownsRow (w.heap.size + 1) 3 1 v' (k + 1) ((List.replicate (k + 1) (1000 : Int)).map (Value.int .i64))) := by
        show World.ownsRow _ _ _ _ _ _ _
        simpa [List.replicate_succ'] using hown'
      clear hown' hgrow
      go_wp2
      go_roundw
      case rel => exact ⟨k + 1, by omega, by go_num, R2, R1⟩
      case measure => simp [intOf]; omega
    · obtain rfl : k = paths.length := by omega
      have hI : IntsAt (fun b => w.heap.size ≤ b) wr u5 (List.replicate paths.length 1000) := ints_of_owns (by simp; omega) (by simpa using hown.out) (fun g hg => by omega)
      have HI : Hid (IntsAt (fun _ => True) wr u5 (List.replicate paths.length 1000)) := hI.keep (fun _ _ _ => rfl) (fun _ _ _ => trivial)
      obtain ⟨ar, nr, cr, rfl⟩ : ∃ a n c, u5 = .slice a n c := by obtain ⟨a, c, e, _⟩ := hI; exact ⟨_, _, _, e⟩
      have HT : Hid (∀ u, Below w.heap.size w u → NetAt (fun _ => True) u (.agg #[.slice a1 caps.length cap1, .slice a2 paths.length cap2]) caps paths) := fun u hu => (HV.out.later hu).keep (fun _ _ _ => rfl) (fun _ _ _ => trivial)
      have hBw : Hid (∀ u, Below wr.heap.size wr u → Below w.heap.size w u) := fun u hu => (HBW.out _ hbel.out).trans (hu.mono (by omega))
      have hR := fun (u : World) (hu : Below wr.heap.size wr u) => hRa _ caps paths _ _ _ u (HT.out _ (hBw.out u hu)) (HI.out.later hu)
      have hS := fun (u : World) (hu : Below wr.heap.size wr u) => hSa _ caps paths _ _ _ u (HT.out _ (hBw.out u hu)) (HI.out.later hu)
      have hF := fun (u : World) (hu : Below wr.heap.size wr u) => hFl _ caps paths _ u (HT.out _ (hBw.out u hu))
      rw [wantE_all] at hR hS
      clear hown hI
      by_cases he : netE caps paths = 0
      · have hSt : Hid (∀ f, f < paths.length → (wantS caps paths (List.replicate paths.length 1000)).getD f false = decide (rP (fill caps paths).1 f = (1000, 1))) := fun f hf => by rw [wantS_at hf, wantR_all he]; simp [List.getD, List.getElem?_replicate, hf]
        have hSl := wantS_length caps paths (List.replicate paths.length 1000)
        have hRl : (fill caps paths).1.length = paths.length := (fill_fair (good_of_net he)).1.len
        rw [he, errV_0, okL_0, wantR_all he] at hR
        rw [he, errV_0, okL_0] at hS hF
        generalize wantS caps paths (List.replicate paths.length 1000) = SL at *
        generalize (fill caps paths).1 = RL at *
        have HR : Hid (∀ u : World, Below wr.heap.size wr u → Calls Try.prog 13 #[.agg #[.slice a1 caps.length cap1, .slice a2 paths.length cap2], .slice ar nr cr] u fun e w' => ∃ y, e = .returned (.tuple #[y, .nilIface]) ∧ FracsAt (fun b => u.heap.size ≤ b) w' y RL ∧ Below u.heap.size u w') := hR
        have HS : Hid (∀ u : World, Below wr.heap.size wr u → Calls Try.prog 15 #[.agg #[.slice a1 caps.length cap1, .slice a2 paths.length cap2], .slice ar nr cr] u fun e w' => ∃ y, e = .returned (.tuple #[y, .nilIface]) ∧ BoolsAt (fun b => u.heap.size ≤ b) w' y SL ∧ Below u.heap.size u w') := hS
        have HF : Hid (∀ u : World, Below wr.heap.size wr u → Calls Try.prog 8 #[.agg #[.slice a1 caps.length cap1, .slice a2 paths.length cap2]] u fun e w' => ∃ y, e = .returned (.tuple #[y, .nilIface]) ∧ FracsAt (fun b => u.heap.size ≤ b) w' y RL ∧ Below u.heap.size u w') := hF
        have HSl : Hid (SL.length = paths.length) := hSl
        have HRl : Hid (RL.length = paths.length) := hRl
        clear hR hS hF hSl hRl he
        go_wp2_with fail
        refine (HR.out _ (Below.refl _ _)).mono ?_
        rintro e w3 ⟨y3, rfl, hy3, hw3⟩
        have C3 : Hid (Below wr.heap.size wr w3) := hw3
        have Y3 : Hid (FracsAt (fun _ => True) w3 y3 RL) := hy3.keep (fun _ _ _ => rfl) (fun _ _ _ => trivial)
        have D3 : Hid (Below (w.heap.size + 1) (w.alloc (.cells #[.slice a1 caps.length cap1, .slice a2 paths.length cap2] 25)) w3) := hbel.out.trans (hw3.mono hsz)
        obtain ⟨a3, c3, rfl, ⟨hm3, hn3⟩, _⟩ := hy3
        clear g0 g1 hw3
        obtain ⟨g0, g1, hsz3⟩ := HCW.out _ D3.out
        go_wp2_with fail
        refine (HF.out _ C3.out).mono ?_
        rintro e w4 ⟨y4, rfl, hy4, hw4⟩
        have C4 : Hid (Below wr.heap.size wr w4) := C3.out.trans (hw4.mono C3.out.size)
        have Y4 : Hid (FracsAt (fun _ => True) w4 y4 RL) := hy4.keep (fun _ _ _ => rfl) (fun _ _ _ => trivial)
        have Y3' : Hid (FracsAt (fun _ => True) w4 (.slice a3 RL.length c3) RL) := Y3.out.later hw4
        have D4 : Hid (Below (w.heap.size + 1) (w.alloc (.cells #[.slice a1 caps.length cap1, .slice a2 paths.length cap2] 25)) w4) := D3.out.trans (hw4.mono hsz3)
        obtain ⟨a4, c4, rfl, ⟨hm4, hn4⟩, _⟩ := hy4
        clear g0 g1 hw4 Y3
        obtain ⟨g0, g1, hsz4⟩ := HCW.out _ D4.out
        go_wp2_with fail
        refine (HS.out _ C4.out).mono ?_
        rintro e w5 ⟨y5, rfl, hy5, hw5⟩
        have Y5 : Hid (BoolsAt (fun _ => True) w5 y5 SL) := hy5.weak (fun _ _ => trivial)
        have Y35 : Hid (FracsAt (fun _ => True) w5 (.slice a3 RL.length c3) RL) := Y3'.out.later hw5
        have D5 : Hid (Below (w.heap.size + 1) (w.alloc (.cells #[.slice a1 caps.length cap1, .slice a2 paths.length cap2] 25)) w5) := D4.out.trans (hw5.mono hsz4)
        have HSF : Hid (Calls Try.prog 14 #[.slice a3 RL.length c3, .slice a4 RL.length c4] w5 fun e w' => e = .returned (.bool true) ∧ ∃ n, w' = w5.drewN n) := by
          have := SFracs_any RL RL _ _ w5 Y35.out (Y4.out.later hw5)
          rw [eqF_self] at this
          exact this
        obtain ⟨a5, c5, rfl, ⟨hm5, hn5⟩, _⟩ := hy5
        have q5 : ((SL.length : Int) != (RL.length : Int)) = false := by rw [HSl.out, HRl.out]; simp
        have l5 : SL.length ≤ RL.length := by rw [HSl.out, HRl.out]; exact Nat.le_refl _
        have l6 : RL.length ≤ SL.length := by rw [HSl.out, HRl.out]; exact Nat.le_refl _
        clear hw5 Y3' Y4 g0 g1
        go_wp2_with fail
        refine HSF.out.mono ?_
        rintro e w6 ⟨rfl, m6, hw6⟩
        have D6 : Hid (Below (w.heap.size + 1) (w.alloc (.cells #[.slice a1 caps.length cap1, .slice a2 paths.length cap2] 25)) w6) := by rw [hw6]; exact below_drewN D5.out _
        have HA : Hid (∀ i, i < RL.length → ∃ b off, a3 = some ⟨b, off, none⟩ ∧ ∀ m, (w6.drewN m).cell? ⟨b, off + i * 2, none⟩ = some (.int .i64 (RL.getD i (0, 0)).1) ∧ (w6.drewN m).cell? ⟨b, off + i * 2 + 1, none⟩ = some (.int .i64 (RL.getD i (0, 0)).2)) := by
          intro i hi
          obtain ⟨_, _, e, _, h⟩ := Y35.out
          simp only [Value.slice.injEq] at e
          obtain ⟨rfl, _, rfl⟩ := e
          rcases h with h | ⟨b, off, rfl, h, _⟩
          · rw [h] at hi; simp at hi
          · refine ⟨b, off, rfl, fun m => ?_⟩
            rw [hw6]
            exact h i hi
        have HB : Hid (∀ i, i < RL.length → ∃ b off, a5 = some ⟨b, off, none⟩ ∧ ∀ m, (w6.drewN m).cell? ⟨b, off + i, none⟩ = some (.bool (SL.getD i false))) := by
          intro i hi
          obtain ⟨_, _, e, _, h⟩ := Y5.out
          simp only [Value.slice.injEq] at e
          obtain ⟨rfl, _, rfl⟩ := e
          rcases h with h | ⟨b, off, rfl, h, _⟩
          · rw [h] at l6; simp at l6; rw [l6] at hi; simp at hi
          · refine ⟨b, off, rfl, fun m => ?_⟩
            rw [hw6]
            exact h i (by omega)
        clear hw6
        go_wp2
        go_loopw [13] (fun i wq => ∃ k m : Nat, k ≤ RL.length ∧ i = .int .i64 k ∧ Hid (wq = w6.drewN m)) (fun i _ => RL.length - (intOf i).toNat)
        case atStart => exact ⟨0, 0, by omega, rfl, rfl⟩
        case round =>
          obtain ⟨k, m, hk, rfl, hw⟩ := hrel
          have DQ : Hid (Below (w.heap.size + 1) (w.alloc (.cells #[.slice a1 caps.length cap1, .slice a2 paths.length cap2] 25)) wr) := by rw [hw.out]; exact below_drewN D6.out _
          by_cases hlt : k < RL.length
          · obtain ⟨b3, o3, rfl, hc3⟩ := HA.out k hlt
            obtain ⟨b5, o5, rfl, hc5⟩ := HB.out k hlt
            obtain ⟨d0, d1⟩ := hc3 m
            have d2 := hc5 m
            rw [← hw.out] at d0 d1 d2
            have hs := hSt.out k (by have := HRl.out; omega)
            have hpr : rP RL k = RL.getD k (0, 0) := rfl
            rw [hpr] at hs
            have hlt5 : (k : Int) < (SL.length : Int) := by omega
            clear hc3 hc5 hpr
            by_cases e1 : (RL.getD k (0, 0)).1 = 1000
            · by_cases e2 : (RL.getD k (0, 0)).2 = 1
              · rw [show SL.getD k false = true by rw [hs, decide_eq_true]; exact Prod.ext e1 e2] at d2
                rw [e1] at d0
                rw [e2] at d1
                clear hs e1 e2
                go_wp2
                go_quiet (fail)
                go_wp2
                go_roundw
                case rel => exact ⟨k + 1, m + nq, by omega, by go_num, (show _ = _ by rw [hw.out]; simp)⟩
                case measure => simp [intOf]; omega
              · rw [show SL.getD k false = false by rw [hs, decide_eq_false]; intro h; exact e2 (by rw [h])] at d2
                rw [e1] at d0
                generalize (RL.getD k (0, 0)).2 = t2 at *
                have q2 : (t2 == 1) = false := beq_eq_false_iff_ne.2 e2
                clear hs e1 e2
                go_wp2
                go_quiet (fail)
                go_wp2
                go_roundw
                case rel => exact ⟨k + 1, m + nq, by omega, by go_num, (show _ = _ by rw [hw.out]; simp)⟩
                case measure => simp [intOf]; omega
            · rw [show SL.getD k false = false by rw [hs, decide_eq_false]; intro h; exact e1 (by rw [h])] at d2
              generalize (RL.getD k (0, 0)).1 = t1 at *
              have q1 : (t1 == 1000) = false := beq_eq_false_iff_ne.2 e1
              clear hs e1
              go_wp2
              go_quiet (fail)
              go_wp2
              go_roundw
              case rel => exact ⟨k + 1, m + nq, by omega, by go_num, (show _ = _ by rw [hw.out]; simp)⟩
              case measure => simp [intOf]; omega
          · go_wp2
            go_ret
            exact ⟨Ns.ret_bool rfl, HBW.out _ DQ.out⟩
      · have HE : Hid (errV (netE caps paths) = .iface 50 (.int .i64 (netE caps paths))) := errV_ne he
        rw [HE.out, okL_ne he] at hR hF
        generalize netE caps paths = ek at *
        have HR : Hid (∀ u : World, Below wr.heap.size wr u → Calls Try.prog 13 #[.agg #[.slice a1 caps.length cap1, .slice a2 paths.length cap2], .slice ar nr cr] u fun e w' => ∃ y, e = .returned (.tuple #[y, .iface 50 (.int .i64 ek)]) ∧ FracsAt (fun b => u.heap.size ≤ b) w' y [] ∧ Below u.heap.size u w') := hR
        have HF : Hid (∀ u : World, Below wr.heap.size wr u → Calls Try.prog 8 #[.agg #[.slice a1 caps.length cap1, .slice a2 paths.length cap2]] u fun e w' => ∃ y, e = .returned (.tuple #[y, .iface 50 (.int .i64 ek)]) ∧ FracsAt (fun b => u.heap.size ≤ b) w' y [] ∧ Below u.heap.size u w') := hF
        clear hR hS hF he
        go_wp2_with fail
        refine (HR.out _ (Below.refl _ _)).mono ?_
        rintro e w3 ⟨y3, rfl, hy3, hw3⟩
        have C3 : Hid (Below wr.heap.size wr w3) := hw3
        have D3 : Hid (Below (w.heap.size + 1) (w.alloc (.cells #[.slice a1 caps.length cap1, .slice a2 paths.length cap2] 25)) w3) := hbel.out.trans (hw3.mono hsz)
        obtain ⟨a3, n3, c3, rfl⟩ := hy3.shape
        clear g0 g1 hw3 hy3
        obtain ⟨g0, g1, hsz3⟩ := HCW.out _ D3.out
        go_wp2_with fail
        refine (HF.out _ C3.out).mono ?_
        rintro e w4 ⟨y4, rfl, hy4, hw4⟩
        have D4 : Hid (Below (w.heap.size + 1) (w.alloc (.cells #[.slice a1 caps.length cap1, .slice a2 paths.length cap2] 25)) w4) := D3.out.trans (hw4.mono hsz3)
        obtain ⟨a4, n4, c4, rfl⟩ := hy4.shape
        clear g0 g1 hw4 hy4
        go_wp2
        go_ret
        exact ⟨Ns.ret_bool rfl, HBW.out _ D4.out⟩
end Fl
end Go.Proofs.Ytmimfcmpealemad
