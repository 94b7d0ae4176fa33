/- The law SourceKeeps returns true for every input, from what is asked of package source's calls. -/
import Derived.Test.YtkmkofnfiiibdagPlains
import Derived.Deep.DeepCutAuto
namespace Go.Proofs.Ytkmkofnfiiibdag
namespace Ev
open Go.RowKit Fr Ns Ld Fl
set_option linter.unusedSimpArgs false
set_option linter.unusedVariables false

theorem sk_fact : srcE 3 1 9 0 = 0 ∧ goN 3 1 9 = 2 := by decide +kernel
theorem sk_go {A B C D : Int} (h : srcE A B C D = 0) : 0 ≤ goN A B C ∧ (0 < goN A B C → B + goN A B C ≤ A) ∧ srcE A (B + goN A B C) (C - goN A B C) D = 0 := by
  have hb := srcE_0.1 h
  have h1 : 0 ≤ goN A B C ∧ (0 < goN A B C → B + goN A B C ≤ A) ∧ goN A B C ≤ C ∧ B + goN A B C ≤ 10000 := by
    unfold goN
    split
    · split <;> omega
    · omega
  exact ⟨h1.1, h1.2.1, srcE_0.2 (by omega)⟩
theorem sk_ack {A B C D : Int} (f : Bool) (h : srcE A B C D = 0) : (ackE A B C D = 0 ∧ srcE (ackW A f) (B - 1) C (D + 1) = 0) ∨ (ackE A B C D ≠ 0 ∧ (B = 0 ∨ D = 10000 ∨ C = 10000)) := by
  have hb := srcE_0.1 h
  unfold ackE
  rw [if_pos h]
  split
  · right; exact ⟨by decide, by omega⟩
  · split
    · right; exact ⟨by decide, by omega⟩
    · left
      refine ⟨rfl, srcE_0.2 ?_⟩
      unfold ackW
      cases f <;> simp <;> split <;> omega
theorem sk_lost {A B C D : Int} (h : srcE A B C D = 0) : (losE A B C D = 0 ∧ srcE (lostW A) (B - 1) (C + 1) D = 0) ∨ (losE A B C D ≠ 0 ∧ (B = 0 ∨ D = 10000 ∨ C = 10000)) := by
  have hb := srcE_0.1 h
  unfold losE
  rw [if_pos h]
  split
  · right; exact ⟨by decide, by omega⟩
  · split
    · right; exact ⟨by decide, by omega⟩
    · left
      refine ⟨rfl, srcE_0.2 ?_⟩
      unfold lostW
      split <;> omega

set_option maxRecDepth 100000 in
set_option maxHeartbeats 8000000 in
theorem sourceKeeps_walk (hC : SCheckSaid) (hS : SSendSaid) (hA : SAckSaid) (hL : SLostSaid) (a b c d : Int) (l : List Int) (v : Value) (w : World) (hv : IntsAt (fun b => b < w.heap.size) w v l) :
    Calls Try.prog 5 #[.agg #[.int .i64 a, .int .i64 b, .int .i64 c, .int .i64 d], v] w fun e w' => e = .returned (.bool true) ∧ Below w.heap.size w w' := by
  have HCl : Hid (∀ i, i < l.length → ∃ a c b off, v = .slice a l.length c ∧ a = some ⟨b, off, none⟩ ∧ ∀ u, Below w.heap.size w u → u.cell? ⟨b, off + i, none⟩ = some (.int .i64 (l.getD i 0))) := fun i hi => by
    obtain ⟨a, cap, rfl, h1, h2⟩ := id hv
    obtain ⟨b, off, e, hc⟩ := ints_cells hv i hi
    exact ⟨a, cap, b, off, rfl, e, hc⟩
  have HF : Hid (∀ u : World, Calls Try.prog 9 #[.agg #[.int .i64 3, .int .i64 1, .int .i64 9, .int .i64 0]] u fun e w' => e = .returned (.tuple #[.agg #[.int .i64 3, .int .i64 3, .int .i64 7, .int .i64 0], .int .i64 2, .nilIface]) ∧ Below u.heap.size u w') := fun u => by
    have := hS 3 1 9 0 u
    rw [sk_fact.1, sk_fact.2, errV_0] at this
    exact this
  have HCh : Hid (∀ (A B C D : Int) (u : World), Calls Try.prog 10 #[.agg #[.int .i64 A, .int .i64 B, .int .i64 C, .int .i64 D]] u fun e w' => e = .returned (errV (srcE A B C D)) ∧ Below u.heap.size u w') := fun A B C D u => hC A B C D u
  have HSe : Hid (∀ (A B C D : Int), srcE A B C D = 0 → ∀ u : World, Calls Try.prog 9 #[.agg #[.int .i64 A, .int .i64 B, .int .i64 C, .int .i64 D]] u fun e w' => e = .returned (.tuple #[.agg #[.int .i64 A, .int .i64 (B + goN A B C), .int .i64 (C - goN A B C), .int .i64 D], .int .i64 (goN A B C), .nilIface]) ∧ Below u.heap.size u w') := fun A B C D h u => by
    have := hS A B C D u
    rw [h, errV_0] at this
    exact this
  have HAc : Hid (∀ (A B C D : Int) (f : Bool) (u : World), Calls Try.prog 11 #[.agg #[.int .i64 A, .int .i64 B, .int .i64 C, .int .i64 D], .bool f] u fun e w' => e = .returned (.tuple #[.agg #[.int .i64 (okN (ackE A B C D) (ackW A f)), .int .i64 (okN (ackE A B C D) (B - 1)), .int .i64 (okN (ackE A B C D) C), .int .i64 (okN (ackE A B C D) (D + 1))], errV (ackE A B C D)]) ∧ Below u.heap.size u w') := fun A B C D f u => hA A B C D f u
  have HLo : Hid (∀ (A B C D : Int) (u : World), Calls Try.prog 12 #[.agg #[.int .i64 A, .int .i64 B, .int .i64 C, .int .i64 D]] u fun e w' => e = .returned (.tuple #[.agg #[.int .i64 (okN (losE A B C D) (lostW A)), .int .i64 (okN (losE A B C D) (B - 1)), .int .i64 (okN (losE A B C D) (C + 1)), .int .i64 (okN (losE A B C D) D)], errV (losE A B C D)]) ∧ Below u.heap.size u w') := fun A B C D u => hL A B C D u
  obtain ⟨av, cap, rfl, ⟨hm1, hm2⟩, _⟩ := hv
  have B0 : Hid (Below w.heap.size w (w.alloc (.cells #[.int .i64 a, .int .i64 b, .int .i64 c, .int .i64 d] 34))) := (Below.refl _ _).alloc (Nat.le_refl _) _
  have R0 : Hid (RowAt (w.alloc (.cells #[.int .i64 a, .int .i64 b, .int .i64 c, .int .i64 d] 34)) w.heap.size 34 [.int .i64 a, .int .i64 b, .int .i64 c, .int .i64 d]) := row_made w _ _ _ _ rfl rfl
  clear hC hS hA hL
  go_enter Try.func5, Try.ntmps5
  go_wp2_with fail
  refine (HF.out _).mono ?_
  rintro e w1 ⟨rfl, hw1⟩
  have B1 : Hid (Below w.heap.size w (w1.alloc (.cells #[.int .i64 3, .int .i64 3, .int .i64 7, .int .i64 0] 34))) := Bel.more (Bel.call B0.out (Nat.le_refl _) hw1) (Nat.le_refl _) _
  have R1 : Hid (RowAt (w1.alloc (.cells #[.int .i64 3, .int .i64 3, .int .i64 7, .int .i64 0] 34)) w.heap.size 34 [.int .i64 a, .int .i64 b, .int .i64 c, .int .i64 d]) := (R0.out.later hw1 R0.out.lt).alloc _
  clear hw1 HF B0 R0
  go_upto_region 4 with fail
  generalize (w1.alloc (.cells #[.int .i64 3, .int .i64 3, .int .i64 7, .int .i64 0] 34)) = w2 at *
  obtain ⟨d0, d1, d2, d3, z0, z1, z2, z3, hgz⟩ := R1.out.four
  go_wp2_with fail
  refine (HCh.out a b c d _).mono ?_
  rintro e w3 ⟨rfl, hw3⟩
  have B3 : Hid (Below w.heap.size w w3) := Bel.call B1.out (Nat.le_refl _) hw3
  have R3 : Hid (RowAt w3 w.heap.size 34 [.int .i64 a, .int .i64 b, .int .i64 c, .int .i64 d]) := R1.out.later hw3 R1.out.lt
  clear hw3 d0 d1 d2 d3 z0 z1 z2 z3 hgz B1 R1
  by_cases he : srcE a b c d = 0
  · rw [he, errV_0]
    have hb := srcE_0.1 he
    have w1' : IntKind.i64.wrap (b + c) = b + c := by rw [IntKind.wrap_i64]; omega
    have w2' : IntKind.i64.wrap (b + c + d) = b + c + d := by rw [IntKind.wrap_i64]; omega
    have HE : Hid (srcE a b c d = 0) := he
    clear he hb
    obtain ⟨d0, d1, d2, d3, z0, z1, z2, z3, hgz⟩ := R3.out.four
    go_wp2
    obtain ⟨al, hal⟩ : ∃ x, Hid (b + c + d = x) := ⟨_, rfl⟩
    rw [hal.out]
    clear d0 d1 d2 d3 z0 z1 z2 z3 hgz
    go_loopw [9, 10, 11, 12] (fun s9 _ _ _ wr => ∃ (k : Nat) (A B C D : Int), k ≤ l.length ∧ k ≤ 60 ∧ s9 = .int .i64 k ∧ Hid (srcE A B C D = 0 ∧ B + C + D = al) ∧ Hid (RowAt wr w.heap.size 34 [.int .i64 A, .int .i64 B, .int .i64 C, .int .i64 D]) ∧ Hid (Below w.heap.size w wr)) (fun s9 _ _ _ _ => l.length - (intOf s9).toNat)
    case atStart => exact ⟨0, a, b, c, d, by omega, by omega, rfl, ⟨HE.out, hal.out⟩, R3, B3⟩
    case round =>
      obtain ⟨k, A, B, C, D, hk, hk60, rfl, hinv, h0r, hBr⟩ := hrel
      by_cases hlt : k < l.length
      · by_cases hl60 : k < 60
        · obtain ⟨_, _, bl, off, e1, rfl, hc⟩ := HCl.out k hlt
          simp only [Value.slice.injEq] at e1
          obtain ⟨rfl, -, rfl⟩ := e1
          have hz : (k : Int) < 60 := by omega
          have hx0 : Hid (RowAt (wr.alloc (.cells #[.int .i64 0, .int .i64 0, .int .i64 0, .int .i64 0] 34)) wr.heap.size 34 [.int .i64 0, .int .i64 0, .int .i64 0, .int .i64 0]) := row_made wr _ _ _ _ rfl rfl
          have h0q' : Hid (RowAt (wr.alloc (.cells #[.int .i64 0, .int .i64 0, .int .i64 0, .int .i64 0] 34)) w.heap.size 34 [.int .i64 A, .int .i64 B, .int .i64 C, .int .i64 D]) := h0r.out.alloc _
          have hBq' : Hid (Below w.heap.size w (wr.alloc (.cells #[.int .i64 0, .int .i64 0, .int .i64 0, .int .i64 0] 34))) := Bel.more hBr.out (Nat.le_refl _) _
          have c0' := hc _ hBq'.out
          have hls := h0r.out.lt
          have HN : Hid (k + 1 ≤ l.length ∧ k + 1 ≤ 60) := ⟨hlt, hl60⟩
          go_upto_region 13 with fail
          obtain ⟨gx, hgx⟩ : ∃ g, Hid (wr.heap.size = g) := ⟨_, rfl⟩
          rw [hgx.out] at hx0 hls
          rw [hgx.out]
          have Sx : w.heap.size ≤ gx := by omega
          have Nx : ¬ gx = w.heap.size := by omega
          have Nb : ¬ w.heap.size = gx := by omega
          generalize (wr.alloc (.cells #[.int .i64 0, .int .i64 0, .int .i64 0, .int .i64 0] 34)) = wq at *
          have h0q := h0q'
          have hxq := hx0
          have hBq := hBq'
          have c0 := c0'
          have HCq : Hid (∀ u, Below w.heap.size w u → u.cell? ⟨bl, off + k, none⟩ = some (.int .i64 (l.getD k 0))) := fun u hu => hc u hu
          clear h0q' hx0 hBq' c0' hc hgx h0r hBr hk60 hk
          generalize l.getD k 0 = y at *
          obtain ⟨r3, hr3⟩ : ∃ r, Hid (y.tmod 3 = r) := ⟨_, rfl⟩
          have hrb : -3 < r3 ∧ r3 < 3 := by
            rw [← hr3.out]
            exact ⟨Int.lt_tmod_of_pos y (by decide), Int.tmod_lt_of_pos y (by decide)⟩
          have hwr3 : IntKind.i64.wrap (y.tmod 3) = r3 := by rw [IntKind.wrap_i64, hr3.out]; omega
          have ht3 : y.tmod 3 = r3 := hr3.out
          go_upto_if 61 with fail
          go_cut [11, 12] (fun s11 _ wc => ∃ (er v1 v2 v3 v4 : Int), s11 = errV er ∧ Hid ((er = 0 ∧ srcE v1 v2 v3 v4 = 0 ∧ v2 + v3 + v4 = al) ∨ (er ≠ 0 ∧ (B = 0 ∨ D = 10000 ∨ C = 10000))) ∧ Hid (RowAt wc gx 34 [.int .i64 v1, .int .i64 v2, .int .i64 v3, .int .i64 v4]) ∧ Hid (RowAt wc w.heap.size 34 [.int .i64 A, .int .i64 B, .int .i64 C, .int .i64 D]) ∧ Hid (Below w.heap.size w wc))
          case first =>
            as_aux_lemma =>
              obtain ⟨d0, d1, d2, d3, z0, z1, z2, z3, hgz⟩ := h0q.out.four
              by_cases h3 : r3 = 0
              · have q0 : (r3 == 0) = true := by simp [h3]
                obtain ⟨g1, g2, g3⟩ := sk_go hinv.out.1
                have HS' : Hid (∀ u : World, Calls Try.prog 9 #[.agg #[.int .i64 A, .int .i64 B, .int .i64 C, .int .i64 D]] u fun e w' => e = .returned (.tuple #[.agg #[.int .i64 A, .int .i64 (B + goN A B C), .int .i64 (C - goN A B C), .int .i64 D], .int .i64 (goN A B C), .nilIface]) ∧ Below u.heap.size u w') := HSe.out A B C D hinv.out.1
                have HI : Hid (B + goN A B C + (C - goN A B C) + D = al) := by have := hinv.out.2; show _ = _; omega
                have hbb := srcE_0.1 g3
                have hb0 := srcE_0.1 hinv.out.1
                generalize goN A B C = G at *
                have n1 : ¬ G < 0 := by omega
                have hwg : IntKind.i64.wrap (B + G) = B + G := by rw [IntKind.wrap_i64]; omega
                have G3 : Hid (srcE A (B + G) (C - G) D = 0) := g3
                have q1 : (B + G != B + G) = false := by simp
                obtain ⟨v1, hv1⟩ : ∃ x, Hid (A = x) := ⟨_, rfl⟩
                obtain ⟨v2, hv2⟩ : ∃ x, Hid (B + G = x) := ⟨_, rfl⟩
                obtain ⟨v3, hv3⟩ : ∃ x, Hid (C - G = x) := ⟨_, rfl⟩
                obtain ⟨v4, hv4⟩ : ∃ x, Hid (D = x) := ⟨_, rfl⟩
                have hgt : (0 < G ∧ ¬ A < B + G) ∨ ¬ 0 < G := by
                  by_cases hh : 0 < G
                  · left; exact ⟨hh, by have := g2 hh; omega⟩
                  · right; exact hh
                clear h3 g1 g2 g3 hbb hb0 HAc HLo HCh
                go_wp2_with fail
                refine (HS'.out _).mono ?_
                rintro e wo ⟨rfl, hwo⟩
                have Q0 : Hid (RowAt wo w.heap.size 34 [.int .i64 A, .int .i64 B, .int .i64 C, .int .i64 D]) := h0q.out.later hwo h0q.out.lt
                have Qx : Hid (RowAt wo gx 34 [.int .i64 0, .int .i64 0, .int .i64 0, .int .i64 0]) := hxq.out.later hwo hxq.out.lt
                have QB : Hid (Below w.heap.size w wo) := Bel.call hBq.out (Nat.le_refl _) hwo
                have Qx' : Hid (RowAt ((((wo.setCell ⟨gx, 0, none⟩ (.int .i64 A)).setCell ⟨gx, 1, none⟩ (.int .i64 (B + G))).setCell ⟨gx, 2, none⟩ (.int .i64 (C - G))).setCell ⟨gx, 3, none⟩ (.int .i64 D)) gx 34 [.int .i64 A, .int .i64 (B + G), .int .i64 (C - G), .int .i64 D]) := Qx.out.put4 _ _ _ _
                have Q0' : Hid (RowAt ((((wo.setCell ⟨gx, 0, none⟩ (.int .i64 A)).setCell ⟨gx, 1, none⟩ (.int .i64 (B + G))).setCell ⟨gx, 2, none⟩ (.int .i64 (C - G))).setCell ⟨gx, 3, none⟩ (.int .i64 D)) w.heap.size 34 [.int .i64 A, .int .i64 B, .int .i64 C, .int .i64 D]) := (((Q0.out.other (a := ⟨gx, 0, none⟩) Nx _).other (a := ⟨gx, 1, none⟩) Nx _).other (a := ⟨gx, 2, none⟩) Nx _).other (a := ⟨gx, 3, none⟩) Nx _
                have QB' : Hid (Below w.heap.size w ((((wo.setCell ⟨gx, 0, none⟩ (.int .i64 A)).setCell ⟨gx, 1, none⟩ (.int .i64 (B + G))).setCell ⟨gx, 2, none⟩ (.int .i64 (C - G))).setCell ⟨gx, 3, none⟩ (.int .i64 D))) := (((QB.out.setCell Sx _).setCell Sx _).setCell Sx _).setCell Sx _
                clear hwo d0 d1 d2 d3 z0 z1 z2 z3 hgz
                obtain ⟨d0, d1, d2, d3, z0, z1, z2, z3, hgz⟩ := Qx.out.four
                go_upto_region 15 with fail
                clear d0 d1 d2 d3 z0 z1 z2 z3 hgz Q0 Qx QB
                generalize ((((wo.setCell ⟨gx, 0, none⟩ (.int .i64 A)).setCell ⟨gx, 1, none⟩ (.int .i64 (B + G))).setCell ⟨gx, 2, none⟩ (.int .i64 (C - G))).setCell ⟨gx, 3, none⟩ (.int .i64 D)) = wp at *
                obtain ⟨d0, d1, d2, d3, z0, z1, z2, z3, hgz⟩ := Q0'.out.four
                obtain ⟨f0, f1, f2, f3, y0, y1, y2, y3, hgy⟩ := Qx'.out.four
                rcases hgt with ⟨p1, p2⟩ | p1
                all_goals
                  go_wp2
                  go_meet
                  case rel => exact ⟨0, A, B + G, C - G, D, by rw [errV_0], .inl ⟨rfl, G3.out, HI.out⟩, Qx', Q0', QB'⟩
              · have q0 : (r3 == 0) = false := beq_eq_false_iff_ne.2 h3
                have hcl := HCq.out _ hBq.out
                by_cases h1 : r3 = 1
                · have q1 : (r3 == 1) = true := by simp [h1]
                  have HA' : Hid (∀ (f : Bool) (u : World), Calls Try.prog 11 #[.agg #[.int .i64 A, .int .i64 B, .int .i64 C, .int .i64 D], .bool f] u fun e w' => e = .returned (.tuple #[.agg #[.int .i64 (okN (ackE A B C D) (ackW A f)), .int .i64 (okN (ackE A B C D) (B - 1)), .int .i64 (okN (ackE A B C D) C), .int .i64 (okN (ackE A B C D) (D + 1))], errV (ackE A B C D)]) ∧ Below u.heap.size u w') := HAc.out A B C D
                  have HI : Hid (∀ f, (ackE A B C D = 0 ∧ srcE (ackW A f) (B - 1) C (D + 1) = 0) ∨ (ackE A B C D ≠ 0 ∧ (B = 0 ∨ D = 10000 ∨ C = 10000))) := fun f => sk_ack f hinv.out.1
                  have HJ : Hid (B - 1 + C + (D + 1) = al) := by have := hinv.out.2; show _ = _; omega
                  clear h3 h1 HSe HLo HCh
                  have HA2 : Hid (∀ (f : Bool) (u : World), Calls Try.prog 11 #[.agg #[.int .i64 A, .int .i64 B, .int .i64 C, .int .i64 D], .bool f] u fun e w' => ∃ er v1 v2 v3 v4 : Int, e = .returned (.tuple #[.agg #[.int .i64 v1, .int .i64 v2, .int .i64 v3, .int .i64 v4], errV er]) ∧ ((er = 0 ∧ srcE v1 v2 v3 v4 = 0 ∧ v2 + v3 + v4 = al) ∨ (er ≠ 0 ∧ (B = 0 ∨ D = 10000 ∨ C = 10000))) ∧ Below u.heap.size u w') := fun f u =>
                    (HA'.out f u).mono fun e w' ⟨h1, h2⟩ => ⟨ackE A B C D, _, _, _, _, h1, by
                      rcases HI.out f with ⟨p1, p2⟩ | ⟨p1, p2⟩
                      · left
                        rw [p1]
                        exact ⟨rfl, p2, HJ.out⟩
                      · right; exact ⟨p1, p2⟩, h2⟩
                  clear HA' HI HJ HAc
                  go_wp2_with fail
                  refine (HA2.out _ _).mono ?_
                  rintro e wo ⟨er, v1, v2, v3, v4, rfl, hK, hwo⟩
                  have HK : Hid ((er = 0 ∧ srcE v1 v2 v3 v4 = 0 ∧ v2 + v3 + v4 = al) ∨ (er ≠ 0 ∧ (B = 0 ∨ D = 10000 ∨ C = 10000))) := hK
                  have Q0 : Hid (RowAt wo w.heap.size 34 [.int .i64 A, .int .i64 B, .int .i64 C, .int .i64 D]) := h0q.out.later hwo h0q.out.lt
                  have Qx : Hid (RowAt wo gx 34 [.int .i64 0, .int .i64 0, .int .i64 0, .int .i64 0]) := hxq.out.later hwo hxq.out.lt
                  have QB : Hid (Below w.heap.size w wo) := Bel.call hBq.out (Nat.le_refl _) hwo
                  have Qx' : Hid (RowAt ((((wo.setCell ⟨gx, 0, none⟩ (.int .i64 v1)).setCell ⟨gx, 1, none⟩ (.int .i64 v2)).setCell ⟨gx, 2, none⟩ (.int .i64 v3)).setCell ⟨gx, 3, none⟩ (.int .i64 v4)) gx 34 [.int .i64 v1, .int .i64 v2, .int .i64 v3, .int .i64 v4]) := Qx.out.put4 _ _ _ _
                  have Q0' : Hid (RowAt ((((wo.setCell ⟨gx, 0, none⟩ (.int .i64 v1)).setCell ⟨gx, 1, none⟩ (.int .i64 v2)).setCell ⟨gx, 2, none⟩ (.int .i64 v3)).setCell ⟨gx, 3, none⟩ (.int .i64 v4)) w.heap.size 34 [.int .i64 A, .int .i64 B, .int .i64 C, .int .i64 D]) := (((Q0.out.other (a := ⟨gx, 0, none⟩) Nx _).other (a := ⟨gx, 1, none⟩) Nx _).other (a := ⟨gx, 2, none⟩) Nx _).other (a := ⟨gx, 3, none⟩) Nx _
                  have QB' : Hid (Below w.heap.size w ((((wo.setCell ⟨gx, 0, none⟩ (.int .i64 v1)).setCell ⟨gx, 1, none⟩ (.int .i64 v2)).setCell ⟨gx, 2, none⟩ (.int .i64 v3)).setCell ⟨gx, 3, none⟩ (.int .i64 v4))) := (((QB.out.setCell Sx _).setCell Sx _).setCell Sx _).setCell Sx _
                  clear hwo hK d0 d1 d2 d3 z0 z1 z2 z3 hgz
                  obtain ⟨d0, d1, d2, d3, z0, z1, z2, z3, hgz⟩ := Qx.out.four
                  go_wp2
                  go_meet
                  case rel => exact ⟨er, v1, v2, v3, v4, rfl, HK, Qx', Q0', QB'⟩
                · have q1 : (r3 == 1) = false := beq_eq_false_iff_ne.2 h1
                  have HL' : Hid (∀ u : World, Calls Try.prog 12 #[.agg #[.int .i64 A, .int .i64 B, .int .i64 C, .int .i64 D]] u fun e w' => e = .returned (.tuple #[.agg #[.int .i64 (okN (losE A B C D) (lostW A)), .int .i64 (okN (losE A B C D) (B - 1)), .int .i64 (okN (losE A B C D) (C + 1)), .int .i64 (okN (losE A B C D) D)], errV (losE A B C D)]) ∧ Below u.heap.size u w') := HLo.out A B C D
                  have HI := (show Hid (_ ∨ _) from sk_lost hinv.out.1)
                  have HJ : Hid (B - 1 + (C + 1) + D = al) := by have := hinv.out.2; show _ = _; omega
                  clear h3 h1 HSe HAc HCh
                  go_wp2_with fail
                  refine (HL'.out _).mono ?_
                  rintro e wo ⟨rfl, hwo⟩
                  have Q0 : Hid (RowAt wo w.heap.size 34 [.int .i64 A, .int .i64 B, .int .i64 C, .int .i64 D]) := h0q.out.later hwo h0q.out.lt
                  have Qx : Hid (RowAt wo gx 34 [.int .i64 0, .int .i64 0, .int .i64 0, .int .i64 0]) := hxq.out.later hwo hxq.out.lt
                  have QB : Hid (Below w.heap.size w wo) := Bel.call hBq.out (Nat.le_refl _) hwo
                  obtain ⟨er, her⟩ : ∃ x, Hid (losE A B C D = x) := ⟨_, rfl⟩
                  rw [her.out] at HI
                  rw [her.out]
                  obtain ⟨v1, hv1⟩ : ∃ x, Hid (okN er (lostW A) = x) := ⟨_, rfl⟩
                  obtain ⟨v2, hv2⟩ : ∃ x, Hid (okN er (B - 1) = x) := ⟨_, rfl⟩
                  obtain ⟨v3, hv3⟩ : ∃ x, Hid (okN er (C + 1) = x) := ⟨_, rfl⟩
                  obtain ⟨v4, hv4⟩ : ∃ x, Hid (okN er D = x) := ⟨_, rfl⟩
                  rw [hv1.out, hv2.out, hv3.out, hv4.out]
                  have HK : Hid ((er = 0 ∧ srcE v1 v2 v3 v4 = 0 ∧ v2 + v3 + v4 = al) ∨ (er ≠ 0 ∧ (B = 0 ∨ D = 10000 ∨ C = 10000))) := by
                    rcases HI.out with ⟨p1, p2⟩ | ⟨p1, p2⟩
                    · left
                      subst p1
                      rw [← hv1.out, ← hv2.out, ← hv3.out, ← hv4.out]
                      exact ⟨rfl, p2, HJ.out⟩
                    · right; exact ⟨p1, p2⟩
                  have Qx' : Hid (RowAt ((((wo.setCell ⟨gx, 0, none⟩ (.int .i64 v1)).setCell ⟨gx, 1, none⟩ (.int .i64 v2)).setCell ⟨gx, 2, none⟩ (.int .i64 v3)).setCell ⟨gx, 3, none⟩ (.int .i64 v4)) gx 34 [.int .i64 v1, .int .i64 v2, .int .i64 v3, .int .i64 v4]) := Qx.out.put4 _ _ _ _
                  have Q0' : Hid (RowAt ((((wo.setCell ⟨gx, 0, none⟩ (.int .i64 v1)).setCell ⟨gx, 1, none⟩ (.int .i64 v2)).setCell ⟨gx, 2, none⟩ (.int .i64 v3)).setCell ⟨gx, 3, none⟩ (.int .i64 v4)) w.heap.size 34 [.int .i64 A, .int .i64 B, .int .i64 C, .int .i64 D]) := (((Q0.out.other (a := ⟨gx, 0, none⟩) Nx _).other (a := ⟨gx, 1, none⟩) Nx _).other (a := ⟨gx, 2, none⟩) Nx _).other (a := ⟨gx, 3, none⟩) Nx _
                  have QB' : Hid (Below w.heap.size w ((((wo.setCell ⟨gx, 0, none⟩ (.int .i64 v1)).setCell ⟨gx, 1, none⟩ (.int .i64 v2)).setCell ⟨gx, 2, none⟩ (.int .i64 v3)).setCell ⟨gx, 3, none⟩ (.int .i64 v4))) := (((QB.out.setCell Sx _).setCell Sx _).setCell Sx _).setCell Sx _
                  clear hwo d0 d1 d2 d3 z0 z1 z2 z3 hgz HI HJ hv1 hv2 hv3 hv4 her
                  obtain ⟨d0, d1, d2, d3, z0, z1, z2, z3, hgz⟩ := Qx.out.four
                  go_wp2
                  go_meet
                  case rel => exact ⟨er, v1, v2, v3, v4, rfl, HK, Qx', Q0', QB'⟩
          case rest =>
            as_aux_lemma =>
              obtain ⟨wd, rfl⟩ : ∃ x : World, x = wc := ⟨_, rfl⟩
              obtain ⟨er, v1, v2, v3, v4, rfl, HK, Qx, Q0, QB⟩ := hcut
              clear c0 h0q hxq hBq HCq hwr3 ht3 hr3 hrb
              obtain ⟨d0, d1, d2, d3, z0, z1, z2, z3, hgz⟩ := Q0.out.four
              obtain ⟨f0, f1, f2, f3, y0, y1, y2, y3, hgy⟩ := Qx.out.four
              rcases HK.out with ⟨rfl, e2, e3⟩ | ⟨e1, e2⟩
              · rw [errV_0]
                have HC' : Hid (∀ u : World, Calls Try.prog 10 #[.agg #[.int .i64 v1, .int .i64 v2, .int .i64 v3, .int .i64 v4]] u fun e w' => e = .returned (.nilIface) ∧ Below u.heap.size u w') := fun u => by
                  have := HCh.out v1 v2 v3 v4 u
                  rw [e2, errV_0] at this
                  exact this
                have hbv := srcE_0.1 e2
                have hwa : IntKind.i64.wrap (v2 + v3) = v2 + v3 := by rw [IntKind.wrap_i64]; omega
                have hwb : IntKind.i64.wrap (v2 + v3 + v4) = al := by rw [IntKind.wrap_i64, e3]; omega
                have q : (al != al) = false := by simp
                have E : Hid (srcE v1 v2 v3 v4 = 0 ∧ v2 + v3 + v4 = al) := ⟨e2, e3⟩
                clear HK hbv e2 e3 HSe HAc HLo HCh
                go_wp2_with fail
                refine (HC'.out _).mono ?_
                rintro e we ⟨rfl, hwe⟩
                have P0 : Hid (RowAt we w.heap.size 34 [.int .i64 A, .int .i64 B, .int .i64 C, .int .i64 D]) := Q0.out.later hwe Q0.out.lt
                have Px : Hid (RowAt we gx 34 [.int .i64 v1, .int .i64 v2, .int .i64 v3, .int .i64 v4]) := Qx.out.later hwe Qx.out.lt
                have PB : Hid (Below w.heap.size w we) := Bel.call QB.out (Nat.le_refl _) hwe
                have P0' : Hid (RowAt ((((we.setCell ⟨w.heap.size, 0, none⟩ (.int .i64 v1)).setCell ⟨w.heap.size, 1, none⟩ (.int .i64 v2)).setCell ⟨w.heap.size, 2, none⟩ (.int .i64 v3)).setCell ⟨w.heap.size, 3, none⟩ (.int .i64 v4)) w.heap.size 34 [.int .i64 v1, .int .i64 v2, .int .i64 v3, .int .i64 v4]) := P0.out.put4 _ _ _ _
                have PB' : Hid (Below w.heap.size w ((((we.setCell ⟨w.heap.size, 0, none⟩ (.int .i64 v1)).setCell ⟨w.heap.size, 1, none⟩ (.int .i64 v2)).setCell ⟨w.heap.size, 2, none⟩ (.int .i64 v3)).setCell ⟨w.heap.size, 3, none⟩ (.int .i64 v4))) := (((PB.out.setCell (Nat.le_refl _) _).setCell (Nat.le_refl _) _).setCell (Nat.le_refl _) _).setCell (Nat.le_refl _) _
                clear hwe d0 d1 d2 d3 z0 z1 z2 z3 hgz f0 f1 f2 f3 y0 y1 y2 y3 hgy
                obtain ⟨d0, d1, d2, d3, z0, z1, z2, z3, hgz⟩ := P0.out.four
                obtain ⟨f0, f1, f2, f3, y0, y1, y2, y3, hgy⟩ := Px.out.four
                go_wp2
                go_roundw
                case rel => exact ⟨k + 1, v1, v2, v3, v4, HN.out.1, HN.out.2, by go_num, E, P0', PB'⟩
                case measure => have := HN.out.1; simp [intOf]; omega
              · rw [errV_ne e1]
                have hb0 := srcE_0.1 hinv.out.1
                have hor : (¬ 0 < B) ∨ (0 < B ∧ ¬ D < 10000) ∨ (0 < B ∧ D < 10000 ∧ ¬ C < 10000) := by omega
                clear HK e2 hb0 HSe HAc HLo HCh
                rcases hor with c1 | ⟨c1, c2⟩ | ⟨c1, c2, c3⟩
                all_goals
                  go_wp2
                  go_roundw
                  case rel => exact ⟨k + 1, A, B, C, D, HN.out.1, HN.out.2, by go_num, hinv, Q0, QB⟩
                  case measure => have := HN.out.1; simp [intOf]; omega
        · have hz : ¬ (k : Int) < 60 := by omega
          go_wp2
          go_ret
          exact ⟨Ns.ret_bool rfl, hBr.out⟩
      · go_wp2
        go_ret
        exact ⟨Ns.ret_bool rfl, hBr.out⟩
  · rw [errV_ne he]
    go_wp2
    go_ret
    exact ⟨Ns.ret_bool rfl, B3.out⟩
end Ev
end Go.Proofs.Ytkmkofnfiiibdag
