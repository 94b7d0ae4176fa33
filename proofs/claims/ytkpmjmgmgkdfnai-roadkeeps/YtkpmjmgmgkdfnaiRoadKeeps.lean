/- The law RoadKeeps returns true for every input, from what is asked of package road's and source's calls: nothing is lost for good, and at each tick something comes. -/
import Derived.Test.YtkpmjmgmgkdfnaiPlains
import Derived.Deep.RegionHeld3
import Derived.Deep.QuietTactic
import Derived.BigQuiet
namespace Go.Proofs.Ytkpmjmgmgkdfnai
namespace Ev
open Go.RowKit Fr Ns Ld Fl
set_option linter.unusedSimpArgs false
set_option linter.unusedVariables false

theorem fact23E : newE [(2, 0, 3, 0)] 0 1 0 = 0 := by decide +kernel
theorem fact23 : goneK (road0 [(2, 0, 3, 0)] 0 1 0) 0 = (1, 1, 0) := by decide +kernel
theorem src_lit (w : World) (g : Nat) (s : Src) (h : RowAt w g 47 [.int .i64 s.1, .int .i64 s.2.1, .int .i64 s.2.2.1, .int .i64 s.2.2.2]) : SrcsAt (fun _ => True) w (.slice (some ⟨g, 0, none⟩) 1 1) [s] :=
  ⟨_, 1, rfl, ⟨Nat.le_refl _, by simp⟩, .inr ⟨g, 0, rfl, fun i hi => by
    match i, hi with
    | 0, _ => exact ⟨h.cell (i := 0) rfl, h.cell (i := 1) rfl, h.cell (i := 2) rfl, h.cell (i := 3) rfl⟩, trivial⟩⟩
/-- how often x comes up among the first m -/
def cntI (l : List Int) (x : Int) (m : Nat) : Nat := (l.take m).countP (· == x)
theorem cntI_step (l : List Int) (x : Int) (m : Nat) (h : m < l.length) : cntI l x (m + 1) = cntI l x m + if l.getD m 0 = x then 1 else 0 := by
  unfold cntI
  rw [take_snoc l m h 0, List.countP_append]
  congr 1
  simp [List.countP_cons]
theorem cntI_all (row : List Nat) (i : Nat) : cntI (row.map Int.ofNat) i row.length = row.count i := by
  unfold cntI
  rw [List.take_of_length_le (by simp)]
  induction row with
  | nil => rfl
  | cons a r ih =>
    rw [List.map_cons, List.countP_cons, ih, List.count_cons]
    by_cases e : a = i
    · simp [e]
    · have e' : ¬ ((a : Int) = (i : Int)) := by omega
      simp [e, e']
theorem cntI_le (l : List Int) (x : Int) (m : Nat) : cntI l x m ≤ m := by
  unfold cntI
  exact Nat.le_trans (List.countP_le_length) (by rw [List.length_take]; omega)
def rowI (R : Road) (k : Nat) : List Int := (ticksR R k).row.map Int.ofNat
/-- what the law asks of a road behind a tick -/
structure TickF (S : List Src) (cap : Int) (R : Road) (k : Nat) : Prop where
  went0 : 0 ≤ (goneK R k).1
  went1 : (goneK R k).1 ≤ cap
  lost0 : 0 ≤ (goneK R k).2.1
  waits : ((rowI R (k + 1)).length : Int) = (goneK R k).2.2
  wait1 : (ticksR R (k + 1)).wait = (goneK R k).2.2
  came : cameK R (k + 1) = cameK R k + (goneK R k).1
  some : cameK R (k + 1) < sumN (leftN S) S.length → ((k : Int) + 1) ≤ cameK R (k + 1)
  bd : 0 ≤ cameK R k ∧ cameK R k ≤ sumN (leftN S) S.length ∧ cameK R (k + 1) ≤ sumN (leftN S) S.length
  rowb : (rowI R (k + 1)).length ≤ 10000
theorem came_pos {S : List Src} {room cap : Int} {R : Road} (h : RoadAll S room cap R) : ∀ k, 0 ≤ cameK R k := fun k => by
  induction k with
  | zero => rw [h.zero]; exact Int.le_refl _
  | succ k ih => rw [h.step]; have := (h.bound k).1; omega
theorem tickF {S : List Src} {room cap : Int} {R : Road} (h : RoadAll S room cap R) (k : Nat) : TickF S cap R k := by
  obtain ⟨b1, b2, b3, b4⟩ := h.bound k
  have hw := (h.inv (k + 1)).waits
  have hp := poolE_0.1 (h.inv (k + 1)).pool
  have hlen : (rowI R (k + 1)).length = (ticksR R (k + 1)).row.length := by simp [rowI]
  refine ⟨b1, b2, b3, by rw [hlen, ← hw, b4], b4, h.step k, fun hlt => by have := (h.upto (k + 1)).2 hlt; omega, ⟨came_pos h k, (h.upto k).1, (h.upto (k + 1)).1⟩, by rw [hlen]; omega⟩
/-- what the law asks of a source behind a tick -/
theorem srcF {S : List Src} {room cap : Int} {R : Road} (h : RoadAll S room cap R) (k i : Nat) (hi : i < S.length) : (sAt (ticksR R k).S i).2.1 = cntI (rowI R k) i (rowI R k).length ∧ (sAt (ticksR R k).S i).2.1 + (sAt (ticksR R k).S i).2.2.1 + (sAt (ticksR R k).S i).2.2.2 = leftN S i ∧ srcE (sAt (ticksR R k).S i).1 (sAt (ticksR R k).S i).2.1 (sAt (ticksR R k).S i).2.2.1 (sAt (ticksR R k).S i).2.2.2 = 0 := by
  obtain ⟨o1, o2, o3⟩ := (h.inv k).has.2 i hi
  refine ⟨?_, o3, o1⟩
  rw [o2]
  have : (rowI R k).length = (ticksR R k).row.length := by simp [rowI]
  rw [this]
  exact congrArg Int.ofNat (cntI_all _ _).symm

set_option maxRecDepth 100000 in
set_option maxHeartbeats 16000000 in
theorem roadKeeps_walk (X : RoadFace) (hN : RNewSaid X) (hT : RTickSaid X) (hSo : RSourceSaid X) (hP : RPoolSaid X) (hW : RWaitsSaid X) (hCk : SCheckSaid) (S : List Src) (room cap wait ticks : Int) (v : Value) (w : World) (hv : SrcsAt (fun b => b < w.heap.size) w v S) :
    Calls Try.prog 6 #[v, .agg #[.int .i64 room, .int .i64 cap, .int .i64 wait], .int .i64 ticks] w fun e w' => e = .returned (.bool true) ∧ Below w.heap.size w w' := by
  obtain ⟨W, hWd⟩ : ∃ W, W = (w.alloc (.cells #[.int .i64 room, .int .i64 cap, .int .i64 wait] 42)).alloc (.cells #[.int .i64 2, .int .i64 0, .int .i64 3, .int .i64 0] 47) := ⟨_, rfl⟩
  have RP : Hid (RowAt W w.heap.size 42 [.int .i64 room, .int .i64 cap, .int .i64 wait]) := by rw [hWd]; exact (row_made w _ _ _ _ rfl rfl).alloc _
  have SW : Hid (W.heap.size = w.heap.size + 1 + 1) := by show _ = _; rw [hWd]; simp
  have BW : Hid (Below w.heap.size w W) := by rw [hWd]; exact ((Below.refl _ _).alloc (Nat.le_refl _) _).alloc (by simp) _
  have HN1 : Hid (Calls Try.prog 16 #[.slice (some ⟨w.heap.size + 1, 0, none⟩) 1 1, .agg #[.int .i64 0, .int .i64 1, .int .i64 0]] ((w.alloc (.cells #[.int .i64 room, .int .i64 cap, .int .i64 wait] 42)).alloc (.cells #[.int .i64 2, .int .i64 0, .int .i64 3, .int .i64 0] 47)) fun e w' => ∃ a F, e = .returned (.tuple #[.pointer (some a), .nilIface]) ∧ X.Inv w' (.pointer (some a)) F (ticksR (road0 [(2, 0, 3, 0)] 0 1 0) 0) ∧ (∀ b, F b → W.heap.size ≤ b) ∧ Below W.heap.size W w') := by
    have RS : RowAt W (w.heap.size + 1) 47 [.int .i64 2, .int .i64 0, .int .i64 3, .int .i64 0] := by rw [hWd]; exact row_made _ _ _ _ _ (by simp) rfl
    have := (hN (fun _ => True) [(2, 0, 3, 0)] 0 1 0 _ W (src_lit _ _ (2, 0, 3, 0) RS)).mono (fun e w' h => made_good fact23E e w' h)
    rw [hWd] at this
    rw [hWd]
    exact this
  have HT1 : Hid (∀ a F u, X.Inv u (.pointer (some a)) F (ticksR (road0 [(2, 0, 3, 0)] 0 1 0) 0) → (∀ b, F b → W.heap.size ≤ b) → Below W.heap.size W u → Calls Try.prog 17 #[.pointer (some a)] u fun e w' => e = .returned (.agg #[.int .i64 1, .int .i64 1, .int .i64 0]) ∧ Below W.heap.size W w') := fun a F u hi hF hb => by
    refine (ticks_of hT (road_all fact23E).right _ W (Nat.le_refl _) 0 a F u hi hF hb).mono ?_
    rintro e w' ⟨rfl, _, hb'⟩
    rw [fact23]
    exact ⟨rfl, hb'⟩
  have HN : Hid (∀ u, Below w.heap.size w u → Calls Try.prog 16 #[v, .agg #[.int .i64 room, .int .i64 cap, .int .i64 wait]] u fun e w' => Made X S room cap wait u w' e) := fun u hu => hN _ S room cap wait v u (hv.later hu)
  have HKP : Hid (∀ u, Below W.heap.size W u → Hid (RowAt u w.heap.size 42 [.int .i64 room, .int .i64 cap, .int .i64 wait]) ∧ Hid (Below w.heap.size w u)) := fun u hu => by
    have := SW.out
    exact ⟨RP.out.later hu (by omega), BW.out.trans (hu.mono (by omega))⟩
  obtain ⟨ar, caps, rfl, ⟨hm1, hm2⟩, hc⟩ := hv
  have HPo0 : Hid (∀ u : World, Below W.heap.size W u → ∀ o, Below W.heap.size W (u.alloc o)) := fun u hu o => Bel.more hu (Nat.le_refl _) o
  by_cases he : newE S room cap wait = 0
  · have hall := road_all he
    have hlen : ∀ k, (ticksR (road0 S room cap wait) k).S.length = S.length := fun k => (hall.inv k).has.1
    have HMd : Hid (∀ W e w', Made X S room cap wait W w' e → ∃ a F, e = .returned (.tuple #[.pointer (some a), .nilIface]) ∧ X.Inv w' (.pointer (some a)) F (ticksR (road0 S room cap wait) 0) ∧ (∀ b, F b → W.heap.size ≤ b) ∧ Below W.heap.size W w') := fun W => made_good he
    have HC : Hid (∀ i, i < S.length → ∃ b off, ar = some ⟨b, off, none⟩ ∧ b < w.heap.size ∧ ∀ u, Below w.heap.size w u → u.cell? ⟨b, off + i * 4 + 2, none⟩ = some (.int .i64 (leftN S i))) := by
      intro i hi
      rcases hc with h | ⟨b, off, rfl, h, hb⟩
      · rw [h] at hi; simp at hi
      · exact ⟨b, off, rfl, hb, fun u hu => (((h i hi).later hu).2.2.1)⟩
    have HTk : Hid (∀ W, RdTicks X (road0 S room cap wait) W.heap.size W) := fun W => ticks_of hT hall.right _ W (Nat.le_refl _)
    have HSr : Hid (∀ (k : Nat) (a : Addr) (F : Nat → Prop) (i : Nat) (u : World), X.Inv u (.pointer (some a)) F (ticksR (road0 S room cap wait) k) → i < S.length → Calls Try.prog 20 #[.pointer (some a), .int .i64 i] u fun e w' => e = .returned (.tuple #[.agg #[.int .i64 (sAt (ticksR (road0 S room cap wait) k).S i).1, .int .i64 (sAt (ticksR (road0 S room cap wait) k).S i).2.1, .int .i64 (sAt (ticksR (road0 S room cap wait) k).S i).2.2.1, .int .i64 (sAt (ticksR (road0 S room cap wait) k).S i).2.2.2], .nilIface]) ∧ Below u.heap.size u w') := fun k a F i u hi hin => source_of hSo hall.right S.length hlen k a F i u hi hin
    have HPo : Hid (∀ (k : Nat), ∃ x y, ∀ (a : Addr) (F : Nat → Prop) (u : World), X.Inv u (.pointer (some a)) F (ticksR (road0 S room cap wait) (k + 1)) → Calls Try.prog 19 #[.pointer (some a)] u fun e w' => e = .returned (.agg #[.int .i64 x, .int .i64 y, .int .i64 (goneK (road0 S room cap wait) k).2.2]) ∧ Below u.heap.size u w') := fun k => by
      refine ⟨(ticksR (road0 S room cap wait) (k + 1)).room, (ticksR (road0 S room cap wait) (k + 1)).cap, fun a F u hi => ?_⟩
      have := pool_of hP hall.right (k + 1) a F u hi
      rw [(tickF hall k).wait1] at this
      exact this
    have HWa : Hid (∀ (k : Nat) (a : Addr) (F : Nat → Prop) (u : World), X.Inv u (.pointer (some a)) F (ticksR (road0 S room cap wait) k) → Calls Try.prog 18 #[.pointer (some a)] u fun e w' => ∃ y, e = .returned y ∧ IntsAt (fun b => u.heap.size ≤ b) w' y (rowI (road0 S room cap wait) k) ∧ Below u.heap.size u w') := fun k a F u hi => waits_of hW hall.right k a F u hi
    have HI : Hid (∀ k a F u u', X.Inv u (.pointer (some a)) F (ticksR (road0 S room cap wait) k) → Below u.heap.size u u' → X.Inv u' (.pointer (some a)) F (ticksR (road0 S room cap wait) k)) := fun k a F u u' hi hb => X.later hb hi
    have HB : Hid (∀ k, k ≤ S.length → 0 ≤ sumN (leftN S) k ∧ sumN (leftN S) k ≤ 60000) := fun k hk => by
      have := sumN_bd (g := leftN S) (M := 10000) (by decide) (n := k) (fun i hi => hall.lefts i (by omega))
      have := hall.few
      omega
    have HL : Hid (∀ k, k < S.length → sumN (leftN S) (k + 1) = sumN (leftN S) k + leftN S k) := fun k _ => rfl
    have HF : Hid (∀ k, TickF S cap (road0 S room cap wait) k) := fun k => tickF hall k
    have HSF : Hid (∀ k i, i < S.length → (sAt (ticksR (road0 S room cap wait) k).S i).2.1 = cntI (rowI (road0 S room cap wait) k) i (rowI (road0 S room cap wait) k).length ∧ (sAt (ticksR (road0 S room cap wait) k).S i).2.1 + (sAt (ticksR (road0 S room cap wait) k).S i).2.2.1 + (sAt (ticksR (road0 S room cap wait) k).S i).2.2.2 = leftN S i ∧ srcE (sAt (ticksR (road0 S room cap wait) k).S i).1 (sAt (ticksR (road0 S room cap wait) k).S i).2.1 (sAt (ticksR (road0 S room cap wait) k).S i).2.2.1 (sAt (ticksR (road0 S room cap wait) k).S i).2.2.2 = 0) := fun k i hi => srcF hall k i hi
    have HCs : Hid (∀ k i, i ≤ S.length → 0 ≤ sumN (fun j => (sAt (ticksR (road0 S room cap wait) k).S j).2.2.2) i ∧ sumN (fun j => (sAt (ticksR (road0 S room cap wait) k).S j).2.2.2) i ≤ 60000) := fun k i hi => by
      have := sumN_bd (g := fun j => (sAt (ticksR (road0 S room cap wait) k).S j).2.2.2) (M := 10000) (by decide) (n := i) (fun j hj => by
        have := srcE_0.1 (HSF.out k j (by omega)).2.2
        exact ⟨this.2.2.2.2.2.2.1, this.2.2.2.2.2.2.2⟩)
      have := hall.few
      omega
    have HCe : Hid (∀ k, sumN (fun j => (sAt (ticksR (road0 S room cap wait) k).S j).2.2.2) S.length = cameK (road0 S room cap wait) k) := fun k => rfl
    have HCk : Hid (∀ (x y z t : Int) (u : World), srcE x y z t = 0 → Calls Try.prog 21 #[.agg #[.int .i64 x, .int .i64 y, .int .i64 z, .int .i64 t]] u fun e w' => e = .returned .nilIface ∧ Below u.heap.size u w') := fun x y z t u h0 => by
      have := hCk x y z t u
      rw [h0, errV_0] at this
      exact this
    have HZ : Hid (cameK (road0 S room cap wait) 0 = 0) := hall.zero
    have hn6 := hall.few
    have hfd : ∀ (x y z : Int) (u : World), (Instr.field 42 (.agg #[.int .i64 x, .int .i64 y, .int .i64 z]) 2).run Try.prog u = .ok (.int .i64 z) u := fun _ _ _ _ => by kernel_rfl
    clear hN hT hSo hP hW hc he hall hlen hCk hWd RP
    generalize road0 S room cap wait = R0 at *
    go_enter Try.func6, Try.ntmps6
    go_wp2_with fail
    refine HN1.out.mono ?_
    rintro e w2 ⟨a1, F1, rfl, hi1, hF1, hb2⟩
    have B2 : Hid (Below W.heap.size W w2) := hb2
    have HT2 : Hid (Calls Try.prog 17 #[.pointer (some a1)] w2 fun e w' => e = .returned (.agg #[.int .i64 1, .int .i64 1, .int .i64 0]) ∧ Below W.heap.size W w') := HT1.out _ _ _ hi1 hF1 hb2
    clear hi1 hF1 hb2
    go_wp2_with fail
    refine HT2.out.mono ?_
    rintro e w3 ⟨rfl, hb3⟩
    obtain ⟨w4, hw4⟩ : ∃ u : World, u = w3.alloc (.cells #[.int .i64 1, .int .i64 1, .int .i64 0] 49) := ⟨_, rfl⟩
    have B4 : Hid (Below W.heap.size W w4) := by rw [hw4]; exact HPo0.out _ hb3 _
    obtain ⟨RP4, L4⟩ := HKP.out _ B4.out
    obtain ⟨d0, d1, d2, _, _, _, z4⟩ := RP4.out.three
    rw [hw4] at d0 d1 d2 z4
    clear hb3
    go_wp2_with fail
    rw [← hw4]
    clear hw4 d0 d1 d2 z4
    refine (HN.out _ L4.out).mono ?_
    intro e w5 hmade
    obtain ⟨a, F, rfl, hi, hF, hb5⟩ := HMd.out _ _ _ hmade
    have I5 : Hid (X.Inv w5 (.pointer (some a)) F (ticksR R0 0)) := hi
    have F5 : Hid (∀ b, F b → w4.heap.size ≤ b) := hF
    have B5 : Hid (Below w4.heap.size w4 w5) := hb5
    have L5 : Hid (Below w.heap.size w w5) := Bel.call L4.out (Nat.le_refl _) hb5
    have HQ : Hid (∀ u, Below w4.heap.size w4 u → Hid (Below w.heap.size w u) ∧ Hid (RowAt u w.heap.size 42 [.int .i64 room, .int .i64 cap, .int .i64 wait])) := fun u hu => ⟨Bel.call L4.out (Nat.le_refl _) hu, RP4.out.later hu RP4.out.lt⟩
    clear hmade hi hF hb5
    go_wp2
    go_loop [12, 13] (fun s12 s13 => ∃ k : Nat, k ≤ S.length ∧ s13 = .int .i64 k ∧ s12 = .int .i64 (sumN (leftN S) k)) (fun _ s13 => S.length - (intOf s13).toNat)
    case atStart => exact ⟨0, by omega, rfl, rfl⟩
    case round =>
      obtain ⟨k, hk, rfl, rfl⟩ := hrel
      by_cases hlt : k < S.length
      · obtain ⟨b, off, rfl, hbw, hcl⟩ := HC.out k hlt
        have c0 := hcl _ L5.out
        have b1 := HB.out k hk
        have b2 := HB.out (k + 1) hlt
        have e1 := HL.out k hlt
        rw [e1] at b2
        have E1 : Hid (sumN (leftN S) (k + 1) = sumN (leftN S) k + leftN S k) := e1
        clear e1 hcl
        generalize sumN (leftN S) k = t at *
        generalize leftN S k = y at *
        go_wp2
        go_round
        case rel => exact ⟨k + 1, by omega, by go_num, by rw [E1.out]⟩
        case measure => simp [intOf]; omega
      · obtain rfl : k = S.length := by omega
        have b0 := HB.out S.length (Nat.le_refl _)
        generalize hTt : sumN (leftN S) S.length = T at *
        go_wp2
        go_loopw [14, 15, 16, 17, 18, 19, 20, 21, 22, 23] (fun s14 s15 _ _ _ _ _ _ _ _ wr => ∃ (k : Nat) (G : Nat → Prop), k ≤ 60 ∧ s15 = .int .i64 (k + 1 : Nat) ∧ s14 = .int .i64 (cameK R0 k) ∧ Hid (X.Inv wr (.pointer (some a)) G (ticksR R0 k)) ∧ Hid (∀ b, G b → w4.heap.size ≤ b) ∧ Hid (Below w4.heap.size w4 wr)) (fun _ s15 _ _ _ _ _ _ _ _ _ => 61 - (intOf s15).toNat)
        case atStart => exact ⟨0, F, by omega, rfl, by rw [HZ.out], I5, F5, B5⟩
        case round =>
          clear I5 F5 B5 L5
          obtain ⟨k, G, hk, rfl, rfl, hi, hG, hb⟩ := hrel
          by_cases hlt : ((k + 1 : Nat) : Int) ≤ ticks ∧ ((k + 1 : Nat) : Int) ≤ 60
          · obtain ⟨l1, l2⟩ := hlt
            obtain ⟨f1, f2, f3, f4, _, f6, f7, f8, f9⟩ := HF.out k
            rw [hTt] at f7 f8
            have E1 : Hid (cameK R0 (k + 1) = cameK R0 k + (goneK R0 k).1) := f6
            rw [f6] at f7 f8
            have HTT := (show Hid (Calls Try.prog 17 #[.pointer (some a)] wr fun e w' => e = .returned (.agg #[.int .i64 (goneK R0 k).1, .int .i64 (goneK R0 k).2.1, .int .i64 (goneK R0 k).2.2]) ∧ (∃ F', X.Inv w' (.pointer (some a)) F' (ticksR R0 (k + 1)) ∧ ∀ b, F' b → w4.heap.size ≤ b) ∧ Below w4.heap.size w4 w') from HTk.out w4 k a G _ hi.out hG.out hb.out)
            obtain ⟨px, py, hpk⟩ := HPo.out k
            have HPk : Hid (∀ (F : Nat → Prop) (u : World), X.Inv u (.pointer (some a)) F (ticksR R0 (k + 1)) → Calls Try.prog 19 #[.pointer (some a)] u fun e w' => e = .returned (.agg #[.int .i64 px, .int .i64 py, .int .i64 (goneK R0 k).2.2]) ∧ Below u.heap.size u w') := fun F u h => hpk a F u h
            clear hpk
            have HWk : Hid (∀ (F : Nat → Prop) (u : World), X.Inv u (.pointer (some a)) F (ticksR R0 (k + 1)) → Calls Try.prog 18 #[.pointer (some a)] u fun e w' => ∃ y, e = .returned y ∧ IntsAt (fun b => u.heap.size ≤ b) w' y (rowI R0 (k + 1)) ∧ Below u.heap.size u w') := fun F u h => HWa.out (k + 1) a F u h
            have HSk : Hid (∀ (F : Nat → Prop) (i : Nat) (u : World), X.Inv u (.pointer (some a)) F (ticksR R0 (k + 1)) → i < S.length → ∃ x y z t : Int, (y = cntI (rowI R0 (k + 1)) i (rowI R0 (k + 1)).length ∧ y + z + t = leftN S i ∧ srcE x y z t = 0 ∧ sumN (fun j => (sAt (ticksR R0 (k + 1)).S j).2.2.2) (i + 1) = sumN (fun j => (sAt (ticksR R0 (k + 1)).S j).2.2.2) i + t) ∧ Calls Try.prog 20 #[.pointer (some a), .int .i64 i] u fun e w' => e = .returned (.tuple #[.agg #[.int .i64 x, .int .i64 y, .int .i64 z, .int .i64 t], .nilIface]) ∧ Below u.heap.size u w') := fun F i u h hin =>
              ⟨_, _, _, _, ⟨(HSF.out (k + 1) i hin).1, (HSF.out (k + 1) i hin).2.1, (HSF.out (k + 1) i hin).2.2, rfl⟩, HSr.out (k + 1) a F i u h hin⟩
            have HSum : Hid (sumN (fun j => (sAt (ticksR R0 (k + 1)).S j).2.2.2) S.length = cameK R0 k + (goneK R0 k).1) := by rw [← f6]; exact HCe.out (k + 1)
            have HSb : Hid (∀ i, i ≤ S.length → 0 ≤ sumN (fun j => (sAt (ticksR R0 (k + 1)).S j).2.2.2) i ∧ sumN (fun j => (sAt (ticksR R0 (k + 1)).S j).2.2.2) i ≤ 60000) := fun i h => HCs.out (k + 1) i h
            have HS0 : Hid (sumN (fun j => (sAt (ticksR R0 (k + 1)).S j).2.2.2) 0 = 0) := rfl
            clear f6
            generalize sumN (fun j => (sAt (ticksR R0 (k + 1)).S j).2.2.2) = sm at *
            generalize rowI R0 (k + 1) = row at *
            generalize (goneK R0 k).1 = gw at *
            generalize (goneK R0 k).2.1 = gl at *
            generalize (goneK R0 k).2.2 = ga at *
            generalize cameK R0 k = ck at *
            subst f4
            go_wp2_with fail
            refine HTT.out.mono ?_
            rintro e w6 ⟨rfl, ⟨G', hi', hG'⟩, hb'⟩
            obtain ⟨w7, hw7⟩ : ∃ u : World, u = w6.alloc (.cells #[.int .i64 gw, .int .i64 gl, .int .i64 row.length] 49) := ⟨_, rfl⟩
            have P7 : Below w6.heap.size w6 w7 := by rw [hw7]; exact (Below.refl _ _).alloc (Nat.le_refl _) _
            have RG7 : Hid (RowAt w7 w6.heap.size 49 [.int .i64 gw, .int .i64 gl, .int .i64 row.length]) := by rw [hw7]; exact row_made _ _ _ _ _ rfl rfl
            have I7 : Hid (X.Inv w7 (.pointer (some a)) G' (ticksR R0 (k + 1))) := HI.out _ _ _ _ _ hi' P7
            have G7 : Hid (∀ b, G' b → w4.heap.size ≤ b) := hG'
            have B7 : Hid (Below w4.heap.size w4 w7) := Bel.call hb' (Nat.le_refl _) P7
            clear hi' hG' hb' P7
            go_wp2_with fail
            rw [← hw7]
            clear hw7
            refine (HWk.out _ _ I7.out).mono ?_
            rintro e w8 ⟨y, rfl, hy, hw8⟩
            have RG8 := RG7.out.later hw8 RG7.out.lt
            have I8 : Hid (X.Inv w8 (.pointer (some a)) G' (ticksR R0 (k + 1))) := HI.out _ _ _ _ _ I7.out hw8
            have B8 : Hid (Below w4.heap.size w4 w8) := Bel.call B7.out (Nat.le_refl _) hw8
            obtain ⟨ay, cy, rfl, ⟨hy1, hy2⟩, hyc⟩ := hy
            have HY : Hid (∀ m, m < row.length → ∃ b off, ay = some ⟨b, off, none⟩ ∧ b < w8.heap.size ∧ ∀ u, Below w8.heap.size w8 u → u.cell? ⟨b, off + m, none⟩ = some (.int .i64 (row.getD m 0))) := by
              intro m hm
              rcases hyc with h | ⟨b, off, rfl, h, _⟩
              · rw [h] at hm; simp at hm
              · exact ⟨b, off, rfl, World.block_lt_of_cell? _ _ (h m hm), fun u hu => cell_later hu (h m hm)⟩
            obtain ⟨_, RP8⟩ := HQ.out _ B8.out
            have HSA : Hid (∀ u : World, Below w8.heap.size w8 u → (u.cell? ⟨w6.heap.size, 0, none⟩ = some (.int .i64 gw) ∧ u.cell? ⟨w6.heap.size, 1, none⟩ = some (.int .i64 gl) ∧ u.cell? ⟨w6.heap.size, 2, none⟩ = some (.int .i64 row.length)) ∧ u.cell? ⟨w.heap.size, 1, none⟩ = some (.int .i64 cap)) := fun u hu => by
              have r1 := RG8.later hu RG8.lt
              have r2 := RP8.out.later hu RP8.out.lt
              exact ⟨⟨r1.cell (i := 0) rfl, r1.cell (i := 1) rfl, r1.cell (i := 2) rfl⟩, r2.cell (i := 1) rfl⟩
            clear hw8 hyc RG7 RG8 RP8 I7 B7
            have n1 : ¬ gw < 0 := by omega
            have n2 : ¬ gw > cap := by omega
            have n3 : ¬ gl < 0 := by omega
            have hsp : ck + gw < T ∧ ¬ ck + gw < (k : Int) + 1 ∨ ¬ ck + gw < T := by
              by_cases h : ck + gw < T
              · have := f7 h; left; exact ⟨h, by omega⟩
              · right; exact h
            have HPx : Hid (∀ x : Lat w8, Calls Try.prog 19 #[.pointer (some a)] x.u fun e w' => e = .returned (.agg #[.int .i64 px, .int .i64 py, .int .i64 row.length]) ∧ Below x.u.heap.size x.u w') := fun x => HPk.out _ _ (HI.out _ _ _ _ _ I8.out x.b)
            have c0 : ∀ x : Lat w8, x.u.cell? ⟨w6.heap.size, 0, none⟩ = some (.int .i64 gw) := fun x => (HSA.out _ x.b).1.1
            have c1 : ∀ x : Lat w8, x.u.cell? ⟨w6.heap.size, 1, none⟩ = some (.int .i64 gl) := fun x => (HSA.out _ x.b).1.2.1
            have c2 : ∀ x : Lat w8, x.u.cell? ⟨w6.heap.size, 2, none⟩ = some (.int .i64 row.length) := fun x => (HSA.out _ x.b).1.2.2
            have c3 : ∀ x : Lat w8, x.u.cell? ⟨w.heap.size, 1, none⟩ = some (.int .i64 cap) := fun x => (HSA.out _ x.b).2
            have q1 : decide (gw < 0) = false := decide_eq_false n1
            have q2 : decide (gw > cap) = false := decide_eq_false n2
            have q2' : decide (cap < gw) = false := decide_eq_false n2
            have q3 : decide (gl < 0) = false := decide_eq_false n3
            have q4 : ((row.length : Int) == (row.length : Int)) = true := by simp
            have hsq : decide (ck + gw < T) = true ∧ decide (ck + gw < (k : Int) + 1) = false ∨ decide (ck + gw < T) = false := by
              rcases hsp with ⟨s1, s2⟩ | s1
              · exact .inl ⟨decide_eq_true s1, decide_eq_false s2⟩
              · exact .inr (decide_eq_false s1)
            clear hsp
            go_wp2_with fail
            rcases hsq with ⟨s1, s2⟩ | s1
            all_goals
              have hne : Nonempty (Lat w8) := ⟨⟨w8, Below.refl _ _⟩⟩
              refine wp_region_lat (by kernel_rfl) (by kernel_rfl) ?_
              repeat (go_big_quiet_step (first | (go_at_call 19; exact lat_of (HPx.out _))))
              refine wpQuiet_nil ?_
              intro w9 hw'
              have hb9 : Below w8.heap.size w8 w9 := by
                obtain ⟨x, rfl⟩ := hw'
                exact x.b
              clear hw'
              have I9 : Hid (X.Inv w9 (.pointer (some a)) G' (ticksR R0 (k + 1))) := HI.out _ _ _ _ _ I8.out hb9
              have B9 : Hid (Below w4.heap.size w4 w9) := Bel.call B8.out (Nat.le_refl _) hb9
              have P9 : Hid (Below w8.heap.size w8 w9) := hb9
              clear hb9
              clear HSA c0 c1 c2 c3 HPx hne
              go_wp2
              go_loopw [18, 19, 20, 21, 22, 23] (fun s18 s19 _ _ _ _ wq => ∃ i : Nat, i ≤ S.length ∧ s19 = .int .i64 i ∧ s18 = .int .i64 (sm i) ∧ Hid (X.Inv wq (.pointer (some a)) G' (ticksR R0 (k + 1))) ∧ Hid (Below w4.heap.size w4 wq) ∧ Hid (Below w8.heap.size w8 wq)) (fun _ s19 _ _ _ _ _ => S.length - (intOf s19).toNat)
              case atStart => exact ⟨0, by omega, rfl, by rw [HS0.out], I9, B9, P9⟩
              case round =>
                clear I9 B9 P9 I8 B8
                obtain ⟨i, hin, rfl, rfl, hi3, hb3, hp3⟩ := hrel
                by_cases hlt3 : i < S.length
                · obtain ⟨b, off, rfl, hbw, hcl⟩ := HC.out i hlt3
                  obtain ⟨x1, x2, x3, x4, ⟨g1, g2, g3, g4⟩, hsr⟩ := HSk.out _ i _ hi3.out hlt3
                  have HS5 : Hid (Calls Try.prog 20 #[.pointer (some a), .int .i64 i] wr fun e w' => e = .returned (.tuple #[.agg #[.int .i64 x1, .int .i64 x2, .int .i64 x3, .int .i64 x4], .nilIface]) ∧ Below wr.heap.size wr w') := hsr
                  have HCx : Hid (∀ u : World, Calls Try.prog 21 #[.agg #[.int .i64 x1, .int .i64 x2, .int .i64 x3, .int .i64 x4]] u fun e w' => e = .returned .nilIface ∧ Below u.heap.size u w') := fun u => HCk.out _ _ _ _ u g3
                  have hx := srcE_0.1 g3
                  have sb1 := HSb.out i hin
                  have sb2 := HSb.out (i + 1) hlt3
                  rw [g4] at sb2
                  have G4 : Hid (sm (i + 1) = sm i + x4) := g4
                  have G1 : Hid (x2 = (cntI row i row.length : Nat)) := g1
                  clear hsr g1 g3 g4
                  generalize leftN S i = y at *
                  subst g2
                  generalize sm i = si at *
                  obtain ⟨hx1, hx2, hx3, hx4, hx5, hx6, hx7, hx8⟩ := hx
                  go_wp2_with fail
                  refine HS5.out.mono ?_
                  rintro e wa ⟨rfl, hwa⟩
                  obtain ⟨wb, hwb⟩ : ∃ u : World, u = wa.alloc (.cells #[.int .i64 x1, .int .i64 x2, .int .i64 x3, .int .i64 x4] 47) := ⟨_, rfl⟩
                  have Pb : Below wr.heap.size wr wb := by rw [hwb]; exact hwa.alloc hwa.size _
                  have Ib : Hid (X.Inv wb (.pointer (some a)) G' (ticksR R0 (k + 1))) := HI.out _ _ _ _ _ hi3.out Pb
                  have Bb : Hid (Below w4.heap.size w4 wb) := Bel.call hb3.out (Nat.le_refl _) Pb
                  have P8b : Hid (Below w8.heap.size w8 wb) := Bel.call hp3.out (Nat.le_refl _) Pb
                  have RXb : Hid (RowAt wb wa.heap.size 47 [.int .i64 x1, .int .i64 x2, .int .i64 x3, .int .i64 x4]) := by rw [hwb]; exact row_made _ _ _ _ _ rfl rfl
                  have Lb : Hid (Below w.heap.size w wb) := (HQ.out _ Bb.out).1.out
                  have HSB : Hid (∀ u : World, Below wb.heap.size wb u → (u.cell? ⟨wa.heap.size, 0, none⟩ = some (.int .i64 x1) ∧ u.cell? ⟨wa.heap.size, 1, none⟩ = some (.int .i64 x2) ∧ u.cell? ⟨wa.heap.size, 2, none⟩ = some (.int .i64 x3) ∧ u.cell? ⟨wa.heap.size, 3, none⟩ = some (.int .i64 x4)) ∧ u.cell? ⟨b, off + i * 4 + 2, none⟩ = some (.int .i64 (x2 + x3 + x4))) := fun u hu => by
                    have r1 := RXb.out.later hu RXb.out.lt
                    exact ⟨⟨r1.cell (i := 0) rfl, r1.cell (i := 1) rfl, r1.cell (i := 2) rfl, r1.cell (i := 3) rfl⟩, hcl _ (Bel.call Lb.out (Nat.le_refl _) hu)⟩
                  have zb : b < wb.heap.size := Nat.lt_of_lt_of_le hbw Lb.out.size
                  clear Pb hwa hcl
                  go_wp2_with fail
                  rw [← hwb]
                  clear hwb
                  go_loop [22, 23] (fun s22 s23 => ∃ m : Nat, m ≤ row.length ∧ s23 = .int .i64 m ∧ s22 = .int .i64 (cntI row i m : Nat)) (fun _ s23 => row.length - (intOf s23).toNat)
                  case atStart => exact ⟨0, by omega, rfl, rfl⟩
                  case round =>
                    obtain ⟨m, hm, rfl, rfl⟩ := hrel
                    by_cases hlt4 : m < row.length
                    · obtain ⟨b', off', rfl, hbw', hcl'⟩ := HY.out m hlt4
                      have cm := hcl' _ P8b.out
                      have hst := cntI_step row i m hlt4
                      have hle := cntI_le row i m
                      clear hcl'
                      generalize row.getD m 0 = rm at *
                      by_cases heq : rm = (i : Int)
                      · rw [if_pos heq] at hst
                        have HST : Hid (cntI row i (m + 1) = cntI row i m + 1) := hst
                        clear hst
                        generalize cntI row i m = cn at *
                        subst heq
                        go_wp2
                        go_round
                        case rel => exact ⟨m + 1, by omega, by go_num, by rw [HST.out]; go_num⟩
                        case measure => simp [intOf]; omega
                      · rw [if_neg heq, Nat.add_zero] at hst
                        have HST : Hid (cntI row i (m + 1) = cntI row i m) := hst
                        have q8 : (rm == (i : Int)) = false := beq_eq_false_iff_ne.2 heq
                        clear hst heq
                        generalize cntI row i m = cn at *
                        go_wp2
                        go_round
                        case rel => exact ⟨m + 1, by omega, by go_num, by rw [HST.out]⟩
                        case measure => simp [intOf]; omega
                    · obtain rfl : m = row.length := by omega
                      rw [← G1.out]
                      have q9 : (x2 == x2) = true := by simp
                      have qa : IntKind.i64.wrap (x2 + x3) = x2 + x3 := by rw [IntKind.wrap_i64]; omega
                      have qb : IntKind.i64.wrap (x2 + x3 + x4) = x2 + x3 + x4 := by rw [IntKind.wrap_i64]; omega
                      have P1 : Hid (Below wb.heap.size wb wb.drew) := (Below.refl _ _).drew
                      go_wp2_with fail
                      go_region_held3 (fun u => (u.cell? ⟨wa.heap.size, 0, none⟩ = some (.int .i64 x1) ∧ u.cell? ⟨wa.heap.size, 1, none⟩ = some (.int .i64 x2) ∧ u.cell? ⟨wa.heap.size, 2, none⟩ = some (.int .i64 x3) ∧ u.cell? ⟨wa.heap.size, 3, none⟩ = some (.int .i64 x4)) ∧ u.cell? ⟨b, off + i * 4 + 2, none⟩ = some (.int .i64 (x2 + x3 + x4)))
                        ((refine HSB.out _ ?_; first | exact P1.out | exact Hbo.out))
                        (first | (go_at_call 21; refine (HCx.out _).mono ?_; rintro e wo ⟨rfl, hwo⟩; have Hbo : Hid (Below wb.heap.size wb wo) := Bel.call P1.out (Nat.le_refl _) hwo))
                      all_goals
                        obtain ⟨⟨_, _, _, cx⟩, _⟩ := HSB.out _ Hbo.out
                        have Io : Hid (X.Inv wo (.pointer (some a)) G' (ticksR R0 (k + 1))) := HI.out _ _ _ _ _ Ib.out Hbo.out
                        have Bo : Hid (Below w4.heap.size w4 wo) := Bel.call Bb.out (Nat.le_refl _) Hbo.out
                        have Po : Hid (Below w8.heap.size w8 wo) := Bel.call P8b.out (Nat.le_refl _) Hbo.out
                        clear hwo Hbo P1 HSB
                        go_wp2
                        go_roundw
                        case rel => exact ⟨i + 1, by omega, by go_num, by rw [G4.out], Io, Bo, Po⟩
                        case measure => simp [intOf]; omega
                · obtain rfl : i = S.length := by omega
                  rw [HSum.out]
                  have qc : (ck + gw == ck + gw) = true := by simp
                  go_wp2
                  go_roundw
                  case rel => exact ⟨k + 1, G', by omega, by go_num, by rw [E1.out], hi3, G7, hb3⟩
                  case measure => simp [intOf]; omega
          · have hcases : ¬ ((k + 1 : Nat) : Int) ≤ ticks ∨ (((k + 1 : Nat) : Int) ≤ ticks ∧ ¬ ((k + 1 : Nat) : Int) ≤ 60) := by omega
            obtain ⟨LF, _⟩ := HQ.out _ hb.out
            clear hlt
            rcases hcases with c1 | ⟨c1, c2⟩
            · go_wp2
              go_ret
              exact ⟨Ns.ret_bool rfl, LF.out⟩
            · go_wp2
              go_ret
              exact ⟨Ns.ret_bool rfl, LF.out⟩
  · have HMd : Hid (∀ W e w', Made X S room cap wait W w' e → ∃ a, e = .returned (.tuple #[.pointer a, .iface 86 (.int .i64 (newE S room cap wait))]) ∧ Below W.heap.size W w') := fun W => made_bad he
    clear hN hT hSo hP hW hc he hCk hWd RP
    generalize newE S room cap wait = ek at *
    go_enter Try.func6, Try.ntmps6
    go_wp2_with fail
    refine HN1.out.mono ?_
    rintro e w2 ⟨a1, F1, rfl, hi1, hF1, hb2⟩
    have HT2 : Hid (Calls Try.prog 17 #[.pointer (some a1)] w2 fun e w' => e = .returned (.agg #[.int .i64 1, .int .i64 1, .int .i64 0]) ∧ Below W.heap.size W w') := HT1.out _ _ _ hi1 hF1 hb2
    clear hi1 hF1 hb2
    go_wp2_with fail
    refine HT2.out.mono ?_
    rintro e w3 ⟨rfl, hb3⟩
    obtain ⟨w4, hw4⟩ : ∃ u : World, u = w3.alloc (.cells #[.int .i64 1, .int .i64 1, .int .i64 0] 49) := ⟨_, rfl⟩
    have B4 : Hid (Below W.heap.size W w4) := by rw [hw4]; exact HPo0.out _ hb3 _
    obtain ⟨RP4, L4⟩ := HKP.out _ B4.out
    obtain ⟨d0, d1, d2, _, _, _, z4⟩ := RP4.out.three
    rw [hw4] at d0 d1 d2 z4
    clear hb3
    go_wp2_with fail
    rw [← hw4]
    clear hw4 d0 d1 d2 z4
    refine (HN.out _ L4.out).mono ?_
    intro e w5 hmade
    obtain ⟨a, rfl, hb5⟩ := HMd.out _ _ _ hmade
    have L5 : Hid (Below w.heap.size w w5) := Bel.call L4.out (Nat.le_refl _) hb5
    clear hmade hb5
    go_wp2
    go_ret
    exact ⟨Ns.ret_bool rfl, L5.out⟩
end Ev
end Go.Proofs.Ytkpmjmgmgkdfnai
