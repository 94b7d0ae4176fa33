/- The library's Grow of an empty list of int, and its Concat of two lists. -/
import Derived.Test.YtmimfcmpealemadDoorWtB
import Derived.Test.YtmimfcmpealemadDoorPlains
import Derived.Lib.AppendZeros
namespace Go.Proofs.YtmimfcmpealemadDoor
namespace Fl
open Go.RowKit Fr Ns Ld
set_option linter.unusedSimpArgs false
set_option linter.unusedVariables false

theorem owns_cap {w : World} {g G : Nat} {cur : Array Value} {T : TypeId} (h : w.heap[g]? = some (.cells cur T (0, 0))) (hs : cur.size = G) (hG : G ≤ maxLen) {base : Nat} (hb : base ≤ g) : w.ownsRow base T 1 (.slice (some ⟨g, 0, none⟩) 0 G) 0 [] :=
  ⟨by simp, .inr ⟨g, G, cur, rfl, hb, h, Nat.zero_le _, hG, by omega, by simp⟩⟩

set_option maxRecDepth 100000 in
set_option maxHeartbeats 1000000 in
theorem Grow_own (n : Nat) (w : World) (h1 : 1 ≤ n) (h2 : n ≤ 2000) :
    Calls Tryd.prog 70 #[.slice none 0 0, .int .i64 n] w fun e w' => ∃ x, e = .returned x ∧ w'.ownsRow w.heap.size 3 1 x 0 [] ∧ Below w.heap.size w w' := by
  obtain ⟨i0, hi, hz0, hz1, hz2⟩ := info_parts infoInt
  have hrz : ∀ ty, (Builtin.append_ #[22, 3] ty #[.slice none 0 0, .int .i64 (n : Int)]).run Tryd.prog w =
      .ok (.slice (some ⟨w.heap.size, 0, none⟩) n (grownCap w n 0 3)) (w.drew.alloc (.cells (Builtin.zeroCells (Value.int .i64 0).cells n ++ Builtin.zeroCells (Value.int .i64 0).cells (grownCap w n 0 3 - n)) 3)) := fun ty =>
    Lib.run_append_nil_zeros w 22 3 ty 3 i0 (.int .i64 0) .i64 .i64 Tryd.underlying22 Tryd.underlying3 hi hz0 n h1 (by rw [hz1]; decide) (by omega) (by rw [hz2]; omega)
  have hge : n ≤ grownCap w n 0 3 := grownCap_ge w _ _ _
  have hle : grownCap w n 0 3 ≤ maxLen := grownCap_le_maxLen w n 0 3 (by unfold maxLen; omega)
  generalize grownCap w n 0 3 = G at *
  have hG63 : G ≤ 9223372036854775807 := by unfold maxLen at hle; omega
  have HO : Hid (∀ cur : Array Value, cur.size = G → (w.drew.alloc (.cells cur 3)).ownsRow w.heap.size 3 1 (.slice (some ⟨w.heap.size, 0, none⟩) 0 G) 0 []) := fun cur hc => owns_cap (by have := heap_alloc_new w.drew (.cells cur 3); simpa using this) hc hle (Nat.le_refl _)
  have HS : Hid ((Builtin.zeroCells (Value.int .i64 0).cells n ++ Builtin.zeroCells (Value.int .i64 0).cells (G - n)).size = G) := by
    show _ = _
    simp [Builtin.zeroCells, Value.cells]
    omega
  generalize Builtin.zeroCells (Value.int .i64 0).cells n ++ Builtin.zeroCells (Value.int .i64 0).cells (G - n) = cur at *
  have HB : Hid (Below w.heap.size w (w.drew.alloc (.cells cur 3))) := (Below.refl _ _).drew.alloc (Nat.le_refl _) _
  have hp : ¬ ((n : Int) < 0) := by omega
  have hq : (n : Int) > 0 := by omega
  go_enter Tryd.func70, Tryd.ntmps70
  go_wp2_with (at_builtin; refine Lib.wpList_append_run _ rfl _ _ _ _ rfl _ _ rfl rfl _ _ (hrz _) ?_)
  go_ret
  exact ⟨_, rfl, HO.out _ HS.out, HB.out⟩

/-- the first k of two lists, one behind the other -/
def cat2 (l m : List Int) (k : Nat) : List Int := if k = 0 then [] else if k = 1 then l else l ++ m
theorem cat2_next {l m : List Int} {k : Nat} (h : k < 2) : cat2 l m (k + 1) = cat2 l m k ++ (if k = 0 then l else m) := by
  have : k = 0 ∨ k = 1 := by omega
  rcases this with rfl | rfl <;> simp [cat2]
theorem cat2_len (l m : List Int) (k : Nat) : (cat2 l m k).length ≤ l.length + m.length := by
  unfold cat2
  split
  · simp
  · split <;> simp

set_option maxRecDepth 100000 in
set_option maxHeartbeats 4000000 in
theorem Concat_two {Q : Nat → Prop} (l m : List Int) (x y : Value) (g : Nat) (w : World) (hg : RowAt w g 22 [x, y]) (hx : IntsAt Q w x l) (hy : IntsAt Q w y m) (hl : 1 ≤ l.length ∧ l.length ≤ 1000) (hm : 1 ≤ m.length ∧ m.length ≤ 1000) :
    Calls Tryd.prog 51 #[.slice (some ⟨g, 0, none⟩) 2 2] w fun e w' => ∃ z, e = .returned z ∧ IntsAt (fun b => w.heap.size ≤ b) w' z (l ++ m) ∧ Below w.heap.size w w' := by
  obtain ⟨i0, hi, hz0, hz1, hz2⟩ := info_parts infoInt
  have HG : Hid (∀ n u, 1 ≤ n → n ≤ 2000 → Calls Tryd.prog 70 #[.slice none 0 0, .int .i64 (n : Nat)] u fun e w' => ∃ x, e = .returned x ∧ w'.ownsRow u.heap.size 3 1 x 0 [] ∧ Below u.heap.size u w') := fun n u a b => Grow_own n u a b
  obtain ⟨hl1, hl2⟩ := hl
  obtain ⟨hm1, hm2⟩ := hm
  have HX : Hid (∀ u, Below w.heap.size w u → IntsAt Q u x l) := fun u hu => hx.later hu
  have HY : Hid (∀ u, Below w.heap.size w u → IntsAt Q u y m) := fun u hu => hy.later hu
  have HR : Hid (∀ u, Below w.heap.size w u → RowAt u g 22 [x, y]) := fun u hu => hg.later hu hg.lt
  have HK : Hid (∀ k, k < 2 → ∃ (z : Value) (p : List Int), (1 ≤ p.length ∧ p.length ≤ 1000) ∧ cat2 l m (k + 1) = cat2 l m k ++ p ∧ ∀ u, Below w.heap.size w u → u.cell? ⟨g, k, none⟩ = some z ∧ IntsAt Q u z p) := by
    intro k hk
    have : k = 0 ∨ k = 1 := by omega
    rcases this with rfl | rfl
    · exact ⟨x, l, ⟨hl1, hl2⟩, by simp [cat2], fun u hu => ⟨(HR.out u hu).cell (i := 0) rfl, HX.out u hu⟩⟩
    · exact ⟨y, m, ⟨hm1, hm2⟩, by simp [cat2], fun u hu => ⟨(HR.out u hu).cell (i := 1) rfl, HY.out u hu⟩⟩
  have HC0 : Hid (cat2 l m 0 = []) := rfl
  have HC2 : Hid (cat2 l m 2 = l ++ m) := by show _ = _; simp [cat2]
  have HCl : Hid (∀ k, (cat2 l m k).length ≤ 2000) := fun k => by have := cat2_len l m k; omega
  have HLn : (l ++ m).length = l.length + m.length := by simp
  obtain ⟨N, hN⟩ : ∃ N, N = (l ++ m).length := ⟨_, rfl⟩
  have hN1 : 1 ≤ N := by omega
  have hN2 : N ≤ 2000 := by omega
  have HN : Hid (N = (l ++ m).length) := hN
  clear HLn hN hg hx hy HR HX HY hl1 hl2 hm1 hm2
  generalize l ++ m = lm at *
  generalize cat2 l m = ct at *
  go_enter Tryd.func51, Tryd.ntmps51
  go_wp2
  go_loopw [3, 5, 11] (fun s3 _ i wr => ∃ k : Nat, k ≤ 2 ∧ i = .int .i64 k ∧ s3 = .int .i64 ((ct k).length : Nat) ∧ Hid (wr = w)) (fun _ _ i _ => 2 - (intOf i).toNat)
  case atStart => exact ⟨0, by omega, rfl, by rw [HC0.out]; rfl, rfl⟩
  case round =>
    obtain ⟨k, hk, rfl, rfl, hw⟩ := hrel
    by_cases hlt : k < 2
    · obtain ⟨z, p, ⟨hp1, hp2⟩, hct, hz⟩ := HK.out k hlt
      obtain ⟨hc, hi'⟩ := hz wr (by rw [hw.out]; exact Below.refl _ _)
      have hl' := HCl.out k
      have HNx : Hid ((ct (k + 1)).length = (ct k).length + p.length) := by show _ = _; rw [hct]; simp
      obtain ⟨ai, capi, rfl, ⟨hmi, hni⟩, _⟩ := hi'
      clear hct hz
      generalize (ct k).length = cl at *
      have hpos : ¬ ((cl : Int) + (p.length : Int) < 0) := by omega
      have hwr : wrap64 ((cl : Int) + (p.length : Int)) = (cl : Int) + (p.length : Int) := by unfold wrap64; omega
      go_wp2
      go_roundw
      case rel => exact ⟨k + 1, by omega, by go_num, by rw [HNx.out]; go_num, hw⟩
      case measure => simp [intOf]; omega
    · obtain rfl : k = 2 := by omega
      have HNN : Hid ((ct 2).length = N) := by show _ = _; rw [HC2.out, HN.out]
      rw [HNN.out]
      go_wp2_with fail
      refine (HG.out N _ hN1 hN2).mono ?_
      rintro e w1 ⟨v1, rfl, ho1, hb1⟩
      have HO1 : Hid (w1.ownsRow w.heap.size 3 1 v1 (ct 0).length ((ct 0).map (Value.int .i64))) := by rw [HC0.out, ← hw.out]; exact ho1
      have HB1 : Hid (Below w.heap.size w w1) := by rw [hw.out] at hb1; exact hb1
      clear ho1 hb1
      go_wp2
      go_loopw [6, 8, 27] (fun s6 _ i wr => ∃ k : Nat, k ≤ 2 ∧ i = .int .i64 k ∧ Hid (wr.ownsRow w.heap.size 3 1 s6 (ct k).length ((ct k).map (Value.int .i64))) ∧ Hid (Below w.heap.size w wr)) (fun _ _ i _ => 2 - (intOf i).toNat)
      case atStart => exact ⟨0, by omega, rfl, HO1, HB1⟩
      case round =>
        obtain ⟨k, hk, rfl, ho, hb⟩ := hrel
        obtain ⟨a6, c6, rfl⟩ := owns_shape ho.out
        by_cases hlt : k < 2
        · obtain ⟨z, p, ⟨hp1, hp2⟩, hct, hz⟩ := HK.out k hlt
          obtain ⟨hc, hi'⟩ := hz wr hb.out
          have hl' := HCl.out k
          obtain ⟨ai, capi, rfl, ⟨hmi, hni⟩, hcell⟩ := hi'
          rcases hcell with rfl | ⟨bp, op, rfl, hcp, _⟩
          · simp at hp1
          have HA : Hid (∀ j u, (p.map (Value.int .i64))[j]? = some u → wr.cell? ((⟨bp, op, none⟩ : Addr).add j) = some u) := cells_ints hcp
          have HNx : Hid (ct (k + 1) = ct k ++ p) := hct
          have hsz : w.heap.size ≤ wr.heap.size := hb.out.size
          clear hct hz hcp
          go_wp2_with (at_builtin; go_must (refine wpList_append_own _ rfl _ _ 22 rfl w.heap.size 3 i0 (.int .i64 0) 1 8 Tryd.underlying22 hi hz0 hz1 hz2 rfl (by decide) _ _ _ rfl ho.out ⟨bp, op, none⟩ p.length capi (p.map (Value.int .i64)) rfl (by simp) HA.out (ones_ints p) (by unfold maxLen; omega) (by omega) hsz ?_))
          intro v' wg hown hgrow _
          have HO2 : Hid (wg.ownsRow w.heap.size 3 1 v' (ct (k + 1)).length ((ct (k + 1)).map (Value.int .i64))) := by rw [HNx.out]; simpa [Hid] using hown
          have HB2 : Hid (Below w.heap.size w wg) := hb.out.grown hgrow hsz (fun k hk => (ho.out.lt k hk).1)
          clear hown hgrow
          go_wp2
          go_roundw
          case rel => exact ⟨k + 1, by omega, by go_num, HO2, HB2⟩
          case measure => simp [intOf]; omega
        · obtain rfl : k = 2 := by omega
          have HI : Hid (IntsAt (fun b => w.heap.size ≤ b) wr (.slice a6 (ct 2).length c6) lm) := by rw [← HC2.out]; exact ints_of_owns (by have := HCl.out 2; omega) ho.out (fun g hg => hg)
          go_wp2
          go_ret
          exact ⟨_, rfl, HI.out, hb.out⟩
end Fl
end Go.Proofs.YtmimfcmpealemadDoor
