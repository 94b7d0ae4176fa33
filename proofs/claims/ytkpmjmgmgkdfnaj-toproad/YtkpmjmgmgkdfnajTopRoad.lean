/- The law TopRoad returns true for every input, from what is asked of package road's calls: over a road all comes, though much is lost. -/
import Derived.Test.YtkpmjmgmgkdfnajPlains
import Derived.Test.YtkpmjmgmgkdfnajTopOne
import Derived.Deep.QuietTactic
import Derived.BigQuiet
namespace Go.Proofs.Ytkpmjmgmgkdfnaj
namespace Ev
open Go.RowKit Fr Ns Ld Fl
set_option linter.unusedSimpArgs false
set_option linter.unusedVariables false

set_option maxRecDepth 100000 in
set_option maxHeartbeats 8000000 in
theorem topRoad_walk (X : RoadFace) (hRa : RatesSaid) (hN : RNewSaid X) (hT : RTickSaid X) (hSo : RSourceSaid X) (hP : RPoolSaid X) (hW : RWaitsSaid X) (S : List Src) (room cap wait : Int) (v : Value) (w : World) (hv : SrcsAt (fun b => b < w.heap.size) w v S) :
    Calls Try.prog 3 #[v, .agg #[.int .i64 room, .int .i64 cap, .int .i64 wait]] w fun e w' => e = .returned (.bool true) ∧ Below w.heap.size w w' := by
  have B1 : Hid (Below w.heap.size w (w.alloc (.cells #[.int .i64 room, .int .i64 cap, .int .i64 wait] 24))) := (Below.refl _ _).alloc (Nat.le_refl _) _
  have R1 : Hid (RowAt (w.alloc (.cells #[.int .i64 room, .int .i64 cap, .int .i64 wait] 24)) w.heap.size 24 [.int .i64 room, .int .i64 cap, .int .i64 wait]) := row_made w _ _ _ _ rfl rfl
  have HO : Hid (Calls Try.prog 4 #[] (w.alloc (.cells #[.int .i64 room, .int .i64 cap, .int .i64 wait] 24)) fun e w' => e = .returned (.bool true) ∧ Below (w.alloc (.cells #[.int .i64 room, .int .i64 cap, .int .i64 wait] 24)).heap.size (w.alloc (.cells #[.int .i64 room, .int .i64 cap, .int .i64 wait] 24)) w') := one_any hRa _
  have HN : Hid (∀ u, Below w.heap.size w u → Calls Try.prog 5 #[v, .agg #[.int .i64 room, .int .i64 cap, .int .i64 wait]] u fun e w' => Made X S room cap wait u w' e) := fun u hu => hN _ S room cap wait v u (hv.later hu)
  obtain ⟨ar, caps, rfl, ⟨hm1, hm2⟩, hc⟩ := hv
  by_cases he : newE S room cap wait = 0
  · have hall := road_all he
    have hlen : ∀ k, (ticksR (road0 S room cap wait) k).S.length = S.length := fun k => (hall.inv k).has.1
    have HMd : Hid (∀ W e w', Made X S room cap wait W w' e → ∃ a F, e = .returned (.tuple #[.pointer (some a), .nilIface]) ∧ X.Inv w' (.pointer (some a)) F (ticksR (road0 S room cap wait) 0) ∧ (∀ b, F b → W.heap.size ≤ b) ∧ Below W.heap.size W w') := fun W => made_good he
    have HC : Hid (∀ i, i < S.length → ∃ b off, ar = some ⟨b, off, none⟩ ∧ b < w.heap.size ∧ ∀ u, Below w.heap.size w u → u.cell? ⟨b, off + i * 4 + 2, none⟩ = some (.int .i64 (leftN S i))) := by
      intro i hi
      rcases hc with h | ⟨b, off, rfl, h, hb⟩
      · rw [h] at hi; simp at hi
      · exact ⟨b, off, rfl, hb, fun u hu => (((h i hi).later hu).2.2.1)⟩
    have HTk : Hid (∀ W, RdTicks X (road0 S room cap wait) W.heap.size W) := fun W => ticks_of hT hall.right _ W (Nat.le_refl _)
    have HSr : Hid (∀ (k : Nat) (a : Addr) (F : Nat → Prop) (i : Nat) (u : World), X.Inv u (.pointer (some a)) F (ticksR (road0 S room cap wait) k) → i < S.length → sumN (leftN S) S.length ≤ k → ∃ x, Calls Try.prog 9 #[.pointer (some a), .int .i64 i] u fun e w' => e = .returned (.tuple #[.agg #[.int .i64 x, .int .i64 0, .int .i64 0, .int .i64 (leftN S i)], .nilIface]) ∧ Below u.heap.size u w') := fun k a F i u hi hin hk => by
      obtain ⟨_, hd, _⟩ := hall.done rfl hk
      have := source_of hSo hall.right S.length hlen k a F i u hi hin
      rw [(hd i hin).1, (hd i hin).2.1, (hd i hin).2.2] at this
      exact ⟨_, this⟩
    have HPo : Hid (∀ (k : Nat) (a : Addr) (F : Nat → Prop) (u : World), X.Inv u (.pointer (some a)) F (ticksR (road0 S room cap wait) k) → sumN (leftN S) S.length ≤ k → ∃ x y, Calls Try.prog 8 #[.pointer (some a)] u fun e w' => e = .returned (.agg #[.int .i64 x, .int .i64 y, .int .i64 0]) ∧ Below u.heap.size u w') := fun k a F u hi hk => by
      obtain ⟨_, _, _, hd⟩ := hall.done rfl hk
      have := pool_of hP hall.right k a F u hi
      rw [hd] at this
      exact ⟨_, _, this⟩
    have HWa : Hid (∀ (k : Nat) (a : Addr) (F : Nat → Prop) (u : World), X.Inv u (.pointer (some a)) F (ticksR (road0 S room cap wait) k) → sumN (leftN S) S.length ≤ k → Calls Try.prog 7 #[.pointer (some a)] u fun e w' => (∃ x c, e = .returned (.slice x 0 c)) ∧ Below u.heap.size u w') := fun k a F u hi hk => by
      obtain ⟨_, _, hd, _⟩ := hall.done rfl hk
      refine (waits_of hW hall.right k a F u hi).mono ?_
      rintro e w' ⟨y, rfl, hy, hb⟩
      rw [hd] at hy
      obtain ⟨x, c, rfl, _⟩ := hy
      exact ⟨⟨x, c, rfl⟩, hb⟩
    have HI : Hid (∀ k a F u u', X.Inv u (.pointer (some a)) F (ticksR (road0 S room cap wait) k) → Below u.heap.size u u' → X.Inv u' (.pointer (some a)) F (ticksR (road0 S room cap wait) k)) := fun k a F u u' hi hb => X.later hb hi
    have HB : Hid (∀ k, k ≤ S.length → 0 ≤ sumN (leftN S) k ∧ sumN (leftN S) k ≤ 60000) := fun k hk => by
      have := sumN_bd (g := leftN S) (M := 10000) (by decide) (n := k) (fun i hi => hall.lefts i (by omega))
      have := hall.few
      omega
    have HL : Hid (∀ k, k < S.length → sumN (leftN S) (k + 1) = sumN (leftN S) k + leftN S k) := fun k _ => rfl
    have HSt : Hid (∀ k, cameK (road0 S room cap wait) (k + 1) = cameK (road0 S room cap wait) k + (goneK (road0 S room cap wait) k).1) := hall.step
    have HBd : Hid (∀ k, 0 ≤ (goneK (road0 S room cap wait) k).1 ∧ (goneK (road0 S room cap wait) k).1 ≤ 1000) := fun k => by
      have := hall.bound k
      have hp := poolE_0.1 (newE_0 he).2.2.1
      omega
    have HZ : Hid (cameK (road0 S room cap wait) 0 = 0) := hall.zero
    have HUp : Hid (∀ k, cameK (road0 S room cap wait) k ≤ sumN (leftN S) S.length) := fun k => (hall.upto k).1
    have HDn : Hid (∀ k : Nat, sumN (leftN S) S.length ≤ k → cameK (road0 S room cap wait) k = sumN (leftN S) S.length) := fun k hk => (hall.done rfl hk).1
    have HCp : Hid (∀ k, 0 ≤ cameK (road0 S room cap wait) k) := fun k => by
      induction k with
      | zero => rw [HZ.out]; exact Int.le_refl _
      | succ k ih => rw [HSt.out]; have := HBd.out k; omega
    have hn6 := hall.few
    clear hN hT hSo hP hW hc he hall hlen hRa
    generalize road0 S room cap wait = R0 at *
    have hfd : ∀ (x y z : Int) (u : World), (Instr.field 24 (.agg #[.int .i64 x, .int .i64 y, .int .i64 z]) 2).run Try.prog u = .ok (.int .i64 z) u := fun _ _ _ _ => by kernel_rfl
    go_enter Try.func3, Try.ntmps3
    go_wp2_with fail
    refine HO.out.mono ?_
    rintro e w2 ⟨rfl, hw2⟩
    have B2 : Hid (Below w.heap.size w w2) := Bel.call B1.out (Nat.le_refl _) hw2
    have R2 := R1.out.later hw2 R1.out.lt
    obtain ⟨d0, d1, d2, _, _, _, z2⟩ := R2.three
    clear hw2 R2 HO B1 R1
    go_wp2_with fail
    refine (HN.out _ B2.out).mono ?_
    intro e w3 hmade
    obtain ⟨a, F, rfl, hi, hF, hb3⟩ := HMd.out _ _ _ hmade
    have I3 : Hid (X.Inv w3 (.pointer (some a)) F (ticksR R0 0)) := hi
    have F3 : Hid (∀ b, F b → w2.heap.size ≤ b) := hF
    have B3 : Hid (Below w2.heap.size w2 w3) := hb3
    have L3 : Hid (Below w.heap.size w w3) := Bel.call B2.out (Nat.le_refl _) hb3
    clear hmade hi hF hb3 d0 d1 d2
    go_wp2
    go_loop [8, 9] (fun s8 s9 => ∃ k : Nat, k ≤ S.length ∧ s9 = .int .i64 k ∧ s8 = .int .i64 (sumN (leftN S) k)) (fun _ s9 => S.length - (intOf s9).toNat)
    case atStart => exact ⟨0, by omega, rfl, rfl⟩
    case round =>
      obtain ⟨k, hk, rfl, rfl⟩ := hrel
      by_cases hlt : k < S.length
      · obtain ⟨b, off, rfl, hbw, hcl⟩ := HC.out k hlt
        have c0 := hcl _ L3.out
        have b1 := HB.out k hk
        have b2 := HB.out (k + 1) hlt
        have e1 := HL.out k hlt
        rw [e1] at b2
        have E1 : Hid (sumN (leftN S) (k + 1) = sumN (leftN S) k + leftN S k) := e1
        clear e1 hcl
        generalize sumN (leftN S) k = t at *
        generalize leftN S k = y at *
        go_wp2
        go_round
        case rel => exact ⟨k + 1, by omega, by go_num, by rw [E1.out]⟩
        case measure => simp [intOf]; omega
      · obtain rfl : k = S.length := by omega
        have b0 := HB.out S.length (Nat.le_refl _)
        generalize hTt : sumN (leftN S) S.length = T at *
        by_cases hbig : 300 < T
        · have BF : Hid (Below w.heap.size w w3) := L3
          go_wp2
          go_ret
          exact ⟨Ns.ret_bool rfl, BF.out⟩
        · go_wp2
          go_loopw [10, 11, 12] (fun s10 s11 _ wr => ∃ (k : Nat) (G : Nat → Prop), (k : Int) ≤ T ∧ s11 = .int .i64 k ∧ s10 = .int .i64 (cameK R0 k) ∧ Hid (X.Inv wr (.pointer (some a)) G (ticksR R0 k)) ∧ Hid (∀ b, G b → w2.heap.size ≤ b) ∧ Hid (Below w2.heap.size w2 wr)) (fun _ s11 _ _ => T.toNat - (intOf s11).toNat)
          case atStart => exact ⟨0, F, by omega, rfl, by rw [HZ.out], I3, F3, B3⟩
          case round =>
            clear I3 F3 B3 L3
            obtain ⟨k, G, hk, rfl, rfl, hi, hG, hb⟩ := hrel
            by_cases hlt : (k : Int) < T
            · have b1 := HBd.out k
              have b2 := HUp.out k
              have b3 := HCp.out k
              have E1 : Hid (cameK R0 (k + 1) = cameK R0 k + (goneK R0 k).1) := HSt.out k
              have HTT := (show Hid (Calls Try.prog 6 #[.pointer (some a)] wr fun e w' => e = .returned (.agg #[.int .i64 (goneK R0 k).1, .int .i64 (goneK R0 k).2.1, .int .i64 (goneK R0 k).2.2]) ∧ (∃ F', X.Inv w' (.pointer (some a)) F' (ticksR R0 (k + 1)) ∧ ∀ b, F' b → w2.heap.size ≤ b) ∧ Below w2.heap.size w2 w') from HTk.out w2 k a G _ hi.out hG.out hb.out)
              generalize (goneK R0 k).1 = gw at *
              generalize (goneK R0 k).2.1 = gl at *
              generalize (goneK R0 k).2.2 = ga at *
              generalize cameK R0 k = ck at *
              go_wp2_with fail
              refine HTT.out.mono ?_
              rintro e w4 ⟨rfl, ⟨G', hi', hG'⟩, hb'⟩
              have I4 : Hid (∀ o, X.Inv (w4.alloc o) (.pointer (some a)) G' (ticksR R0 (k + 1))) := fun o => HI.out _ _ _ _ _ hi' ((Below.refl _ _).alloc (Nat.le_refl _) _)
              have G4 : Hid (∀ b, G' b → w2.heap.size ≤ b) := hG'
              have B4 : Hid (∀ o, Below w2.heap.size w2 (w4.alloc o)) := fun o => Bel.more hb' (Nat.le_refl _) o
              clear hi' hG' hb'
              go_wp2
              go_roundw
              case rel => exact ⟨k + 1, G', by omega, by go_num, by rw [E1.out], I4.out _, G4, B4.out _⟩
              case measure => simp [intOf]; omega
            · have hkT : T ≤ (k : Int) := by omega
              have ed := HDn.out k hkT
              rw [ed]
              have HW1 := HWa.out k a G _ hi.out hkT
              have HW2 : Hid (Calls Try.prog 7 #[.pointer (some a)] wr fun e w' => (∃ x c, e = .returned (.slice x 0 c)) ∧ Below wr.heap.size wr w') := HW1
              clear HW1 ed
              go_wp2_with fail
              refine HW2.out.mono ?_
              rintro e w5 ⟨⟨x5, c5, rfl⟩, hw5⟩
              have I5 : Hid (X.Inv w5 (.pointer (some a)) G (ticksR R0 k)) := HI.out _ _ _ _ _ hi.out hw5
              have B5 : Hid (Below w2.heap.size w2 w5) := Bel.call hb.out (Nat.le_refl _) hw5
              clear hw5
              obtain ⟨px, py, hpo⟩ := HPo.out k a G _ I5.out hkT
              have HP5 : Hid (Calls Try.prog 8 #[.pointer (some a)] w5 fun e w' => e = .returned (.agg #[.int .i64 px, .int .i64 py, .int .i64 0]) ∧ Below w5.heap.size w5 w') := hpo
              clear hpo
              go_wp2_with fail
              refine HP5.out.mono ?_
              rintro e w6 ⟨rfl, hw6⟩
              have I6 : Hid (X.Inv w6 (.pointer (some a)) G (ticksR R0 k)) := HI.out _ _ _ _ _ I5.out hw6
              have B6 : Hid (Below w2.heap.size w2 w6) := Bel.call B5.out (Nat.le_refl _) hw6
              clear hw6 I5 B5 HP5 HW2
              go_wp2
              go_loopw [13, 14, 15] (fun s13 _ _ wq => ∃ i : Nat, i ≤ S.length ∧ s13 = .int .i64 i ∧ Hid (X.Inv wq (.pointer (some a)) G (ticksR R0 k)) ∧ Hid (Below w2.heap.size w2 wq)) (fun s13 _ _ _ => S.length - (intOf s13).toNat)
              case atStart => exact ⟨0, by omega, rfl, I6, B6⟩
              case round =>
                clear I6 B6 hi hb
                obtain ⟨i, hin, rfl, hi, hb⟩ := hrel
                have L : Hid (Below w.heap.size w wr) := B2.out.trans (hb.out.mono B2.out.size)
                by_cases hlt : i < S.length
                · obtain ⟨b, off, rfl, hbw, hcl⟩ := HC.out i hlt
                  obtain ⟨xx, hsr⟩ := HSr.out k a G i _ hi.out hlt hkT
                  have HS5 : Hid (Calls Try.prog 9 #[.pointer (some a), .int .i64 i] wr fun e w' => e = .returned (.tuple #[.agg #[.int .i64 xx, .int .i64 0, .int .i64 0, .int .i64 (leftN S i)], .nilIface]) ∧ Below wr.heap.size wr w') := hsr
                  clear hsr
                  generalize leftN S i = y at *
                  go_wp2_with fail
                  refine HS5.out.mono ?_
                  rintro e w7 ⟨rfl, hw7⟩
                  have I7 : Hid (∀ n o, X.Inv ((w7.alloc o).drewN n) (.pointer (some a)) G (ticksR R0 k)) := fun n o => HI.out _ _ _ _ _ (HI.out _ _ _ _ _ hi.out hw7) (below_drewN ((Below.refl _ _).alloc (Nat.le_refl _) _) _)
                  have B7 : Hid (∀ n o, Below w2.heap.size w2 ((w7.alloc o).drewN n)) := fun n o => below_drewN (Bel.more (Bel.call hb.out (Nat.le_refl _) hw7) (Nat.le_refl _) o) n
                  have c7 := hcl _ (Bel.call L.out (Nat.le_refl _) hw7)
                  have z7 : b < w7.heap.size := Nat.lt_of_lt_of_le hbw (Bel.call L.out (Nat.le_refl _) hw7).size
                  clear hw7 hcl
                  go_wp2_with fail
                  go_quiet (fail)
                  have I8 := I7.out nq (.cells #[.int .i64 xx, .int .i64 0, .int .i64 0, .int .i64 y] 32)
                  have B8 := B7.out nq (.cells #[.int .i64 xx, .int .i64 0, .int .i64 0, .int .i64 y] 32)
                  have HI8 : Hid (X.Inv ((w7.alloc (.cells #[.int .i64 xx, .int .i64 0, .int .i64 0, .int .i64 y] 32)).drewN nq) (.pointer (some a)) G (ticksR R0 k)) := I8
                  have HB8 : Hid (Below w2.heap.size w2 ((w7.alloc (.cells #[.int .i64 xx, .int .i64 0, .int .i64 0, .int .i64 y] 32)).drewN nq)) := B8
                  clear I8 B8
                  generalize (w7.alloc (.cells #[.int .i64 xx, .int .i64 0, .int .i64 0, .int .i64 y] 32)).drewN nq = w8 at *
                  go_wp2
                  go_roundw
                  case rel => exact ⟨i + 1, by omega, by go_num, HI8, HB8⟩
                  case measure => simp [intOf]; omega
                · go_wp2
                  go_ret
                  exact ⟨Ns.ret_bool rfl, L.out⟩
  · have HMd : Hid (∀ W e w', Made X S room cap wait W w' e → ∃ a, e = .returned (.tuple #[.pointer a, .iface 59 (.int .i64 (newE S room cap wait))]) ∧ Below W.heap.size W w') := fun W => made_bad he
    clear hN hT hSo hP hW hc he hRa
    generalize newE S room cap wait = ek at *
    go_enter Try.func3, Try.ntmps3
    go_wp2_with fail
    refine HO.out.mono ?_
    rintro e w2 ⟨rfl, hw2⟩
    have B2 : Hid (Below w.heap.size w w2) := Bel.call B1.out (Nat.le_refl _) hw2
    have R2 := R1.out.later hw2 R1.out.lt
    obtain ⟨d0, d1, d2, _, _, _, z2⟩ := R2.three
    clear hw2 R2 HO B1 R1
    go_wp2_with fail
    refine (HN.out _ B2.out).mono ?_
    intro e w3 hmade
    obtain ⟨a, rfl, hb3⟩ := HMd.out _ _ _ hmade
    have L3 : Hid (Below w.heap.size w w3) := Bel.call B2.out (Nat.le_refl _) hb3
    clear hmade hb3 d0 d1 d2
    go_wp2
    go_ret
    exact ⟨Ns.ret_bool rfl, L3.out⟩
end Ev
end Go.Proofs.Ytkpmjmgmgkdfnaj
