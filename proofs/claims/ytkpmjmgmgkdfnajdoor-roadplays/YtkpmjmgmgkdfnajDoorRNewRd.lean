/- The document's NewRoad (package fairref2): the fault of some sources over one link. -/
import Derived.Test.YtkpmjmgmgkdfnajDoorPlains
import Derived.Test.YtkpmjmgmgkdfnajDoorRSrc
import Derived.Test.YtkpmjmgmgkdfnajDoorRPol
namespace Go.Proofs.YtkpmjmgmgkdfnajDoor
namespace Ev
open Go.RowKit Fr Ns Ld Fl
set_option linter.unusedSimpArgs false
set_option linter.unusedVariables false

theorem srcs_cells {Q : Nat → Prop} {w : World} {a : Option Addr} {cap : Nat} {l : List Src} (h : SrcsAt Q w (.slice a l.length cap) l) : ∀ i, i < l.length → ∃ b off, a = some ⟨b, off, none⟩ ∧ ∀ u, Below w.heap.size w u → SrcAt u b (off + i * 4) (sAt l i) := by
  obtain ⟨a', cap', e, _, h⟩ := h
  simp only [Value.slice.injEq] at e
  obtain ⟨rfl, -, -⟩ := e
  intro i hi
  rcases h with h | ⟨b, off, rfl, h, _⟩
  · rw [h] at hi; simp at hi
  · exact ⟨b, off, rfl, fun u hu => (h i hi).later hu⟩
theorem srcsE_take {S : List Src} : ∀ k, k < S.length → srcsE (S.take k) = 0 → srcsE S = (if srcE (sAt S k).1 (sAt S k).2.1 (sAt S k).2.2.1 (sAt S k).2.2.2 = 0 then (if (sAt S k).2.1 ≠ 0 ∨ (sAt S k).2.2.2 ≠ 0 then 3 else srcsE (S.drop (k + 1))) else srcE (sAt S k).1 (sAt S k).2.1 (sAt S k).2.2.1 (sAt S k).2.2.2) := by
  induction S with
  | nil => intro k hk; simp at hk
  | cons s r ih =>
    intro k hk h
    cases k with
    | zero => rfl
    | succ k =>
      simp only [List.take_succ_cons, srcsE] at h
      split at h
      · rename_i h1
        split at h
        · omega
        · rename_i h2
          have := ih k (by simpa using hk) h
          simp only [srcsE]
          rw [if_pos h1, if_neg h2, this]
          rfl
      · contradiction
theorem srcsE_step {S : List Src} {k : Nat} (hk : k < S.length) (h0 : srcsE (S.take k) = 0) (h1 : srcE (sAt S k).1 (sAt S k).2.1 (sAt S k).2.2.1 (sAt S k).2.2.2 = 0) (h2 : (sAt S k).2.1 = 0) (h3 : (sAt S k).2.2.2 = 0) : srcsE (S.take (k + 1)) = 0 := by
  have e : sAt (S.take (k + 1)) k = sAt S k := by simp [sAt, List.getD, List.getElem?_take]
  have := srcsE_take (S := S.take (k + 1)) k (by rw [List.length_take]; omega) (by rw [List.take_take, Nat.min_eq_left (by omega)]; exact h0)
  rw [e, if_pos h1, if_neg (by omega)] at this
  rw [this, List.drop_eq_nil_of_le (by rw [List.length_take]; omega)]
  rfl

set_option maxRecDepth 100000 in
set_option maxHeartbeats 4000000 in
theorem RNewRoad_any {Q : Nat → Prop} (S : List Src) (room cap wait : Int) (v : Value) (w : World) (hv : SrcsAt Q w v S) :
    Calls Tryd.prog 4 #[v, .agg #[.int .i64 room, .int .i64 cap, .int .i64 wait]] w fun e w' => e = .returned (.int .i64 (newE S room cap wait)) ∧ Below w.heap.size w w' := by
  obtain ⟨a, cp, rfl, ⟨hm, hm2⟩, _⟩ := id hv
  have HC := srcs_cells hv
  have HCh : Hid (∀ i, i < S.length → ∃ b off, a = some ⟨b, off, none⟩ ∧ ∀ u, Below w.heap.size w u → SrcAt u b (off + i * 4) (sAt S i)) := HC
  have HS : Hid (∀ (x : Src) (u : World), Calls Tryd.prog 13 #[.agg #[.int .i64 x.1, .int .i64 x.2.1, .int .i64 x.2.2.1, .int .i64 x.2.2.2]] u fun e w' => e = .returned (.int .i64 (srcE x.1 x.2.1 x.2.2.1 x.2.2.2)) ∧ Below u.heap.size u w') := fun x u => RSource_any _ _ _ _ u
  have HP : Hid (∀ (u : World), Calls Tryd.prog 14 #[.agg #[.int .i64 room, .int .i64 cap, .int .i64 wait]] u fun e w' => e = .returned (.int .i64 (poolE room cap wait)) ∧ Below u.heap.size u w') := fun u => RPool_any _ _ _ u
  obtain ⟨W, hW⟩ : ∃ W, W = w.alloc (.cells #[.int .i64 room, .int .i64 cap, .int .i64 wait] 24) := ⟨_, rfl⟩
  have HKp : Hid (∀ u, Below W.heap.size W u → Below w.heap.size w u ∧ RowAt u w.heap.size 24 [.int .i64 room, .int .i64 cap, .int .i64 wait]) := fun u hu => by
    have z : W.heap.size = w.heap.size + 1 := by rw [hW]; simp
    have b : Below w.heap.size w W := by rw [hW]; exact (Below.refl _ _).alloc (Nat.le_refl _) _
    refine ⟨b.trans (hu.mono (by omega)), RowAt.later hu (by omega) ?_⟩
    rw [hW]; exact row_made w _ _ _ _ rfl rfl
  have B0 : Hid (Below w.heap.size w (w.alloc (.cells #[.int .i64 room, .int .i64 cap, .int .i64 wait] 24))) := (Below.refl _ _).alloc (Nat.le_refl _) _
  clear hv HC
  by_cases h0 : S.length = 0
  · have HE : Hid (newE S room cap wait = 5) := if_pos h0
    have q : ((S.length : Int) == 0) = true := by simp [h0]
    clear h0
    go_enter Tryd.func4, Tryd.ntmps4
    go_wp2
    go_ret
    exact ⟨by rw [HE.out]; rfl, B0.out⟩
  · have q : ((S.length : Int) == 0) = false := beq_eq_false_iff_ne.2 (by omega)
    by_cases h6 : 6 < S.length
    · have HE : Hid (newE S room cap wait = 4) := by show _ = _; rw [newE, if_neg h0, if_pos h6]
      clear h0
      go_enter Tryd.func4, Tryd.ntmps4
      go_wp2
      go_ret
      exact ⟨by rw [HE.out]; rfl, B0.out⟩
    · have HE : Hid (newE S room cap wait = if srcsE S = 0 then (if poolE room cap wait = 0 then (if wait ≠ 0 then 3 else 0) else poolE room cap wait) else srcsE S) := by show _ = _; rw [newE, if_neg h0, if_neg h6]
      have HBd : Hid (∀ k, k < S.length → srcsE (S.take k) = 0 → srcsE S = (if srcE (sAt S k).1 (sAt S k).2.1 (sAt S k).2.2.1 (sAt S k).2.2.2 = 0 then (if (sAt S k).2.1 ≠ 0 ∨ (sAt S k).2.2.2 ≠ 0 then 3 else srcsE (S.drop (k + 1))) else srcE (sAt S k).1 (sAt S k).2.1 (sAt S k).2.2.1 (sAt S k).2.2.2)) := fun k hk h => srcsE_take k hk h
      have HSt : Hid (∀ k, k < S.length → srcsE (S.take k) = 0 → srcE (sAt S k).1 (sAt S k).2.1 (sAt S k).2.2.1 (sAt S k).2.2.2 = 0 → (sAt S k).2.1 = 0 → (sAt S k).2.2.2 = 0 → srcsE (S.take (k + 1)) = 0) := fun k hk h a b c => srcsE_step hk h a b c
      clear h0
      go_enter Tryd.func4, Tryd.ntmps4
      go_wp2
      rw [← hW]
      go_loopw [5] (fun i wr => ∃ k : Nat, k ≤ S.length ∧ i = .int .i64 k ∧ Hid (srcsE (S.take k) = 0) ∧ Hid (Below W.heap.size W wr)) (fun i _ => S.length - (intOf i).toNat)
      case atStart => exact ⟨0, by omega, rfl, rfl, Below.refl _ _⟩
      case round =>
        obtain ⟨k, hk, rfl, hz, hb⟩ := hrel
        obtain ⟨bw, RP⟩ := HKp.out _ hb.out
        have BW : Hid (Below w.heap.size w wr) := bw
        by_cases hlt : k < S.length
        · obtain ⟨b, off, rfl, hc⟩ := HCh.out k hlt
          obtain ⟨c0, c1, c2, c3⟩ := hc _ bw
          have HS1 : Hid (∀ u : World, Calls Tryd.prog 13 #[.agg #[.int .i64 (sAt S k).1, .int .i64 (sAt S k).2.1, .int .i64 (sAt S k).2.2.1, .int .i64 (sAt S k).2.2.2]] u fun e w' => e = .returned (.int .i64 (srcE (sAt S k).1 (sAt S k).2.1 (sAt S k).2.2.1 (sAt S k).2.2.2)) ∧ Below u.heap.size u w') := HS.out (sAt S k)
          have H1 : Hid _ := HBd.out k hlt hz.out
          have H2 : Hid _ := HSt.out k hlt hz.out
          have HL : Hid (∀ u, Below wr.heap.size wr u → SrcAt u b (off + k * 4) (sAt S k)) := fun u hu => hc u (bw.trans (hu.mono bw.size))
          clear hc bw RP
          generalize sAt S k = x at *
          obtain ⟨x0, x1, x2, x3⟩ := x
          go_wp2_with fail
          refine (HS1.out _).mono ?_
          rintro e w1 ⟨rfl, hw1⟩
          obtain ⟨d0, d1, d2, d3⟩ := HL.out _ hw1
          have B1 : Hid (Below W.heap.size W w1) := Bel.call hb.out (Nat.le_refl _) hw1
          have BW1 : Hid (Below w.heap.size w w1) := (HKp.out _ B1.out).1
          clear hw1 c0 c1 c2 c3
          by_cases hs : srcE x0 x1 x2 x3 = 0
          · rw [hs]
            have HSz : Hid (srcE x0 x1 x2 x3 = 0) := hs
            clear hs
            by_cases hx1 : x1 = 0
            · subst hx1
              by_cases hx3 : x3 = 0
              · subst hx3
                have HN : Hid (srcsE (S.take (k + 1)) = 0) := H2.out HSz.out rfl rfl
                clear H1 H2
                go_wp2
                go_roundw
                case rel => exact ⟨k + 1, by omega, by go_num, HN, B1⟩
                case measure => simp [intOf]; omega
              · have HN : Hid (newE S room cap wait = 3) := by
                  show _ = _
                  have := H1.out
                  rw [if_pos HSz.out, if_pos (.inr hx3)] at this
                  rw [HE.out, this, if_neg (by decide)]
                clear H1 H2
                go_wp2
                go_ret
                exact ⟨by rw [HN.out]; rfl, BW1.out⟩
            · have HN : Hid (newE S room cap wait = 3) := by
                show _ = _
                have := H1.out
                rw [if_pos HSz.out, if_pos (.inl hx1)] at this
                rw [HE.out, this, if_neg (by decide)]
              clear H1 H2
              go_wp2
              go_ret
              exact ⟨by rw [HN.out]; rfl, BW1.out⟩
          · have HN : Hid (newE S room cap wait = srcE x0 x1 x2 x3) := by
              show _ = _
              have := H1.out
              rw [if_neg hs] at this
              rw [HE.out, this, if_neg hs]
            clear H1 H2
            generalize srcE x0 x1 x2 x3 = sx at *
            have q1 : (sx == 0) = false := beq_eq_false_iff_ne.2 hs
            go_wp2
            go_ret
            exact ⟨by rw [HN.out]; rfl, BW1.out⟩
        · have HA : Hid (newE S room cap wait = if poolE room cap wait = 0 then (if wait ≠ 0 then 3 else 0) else poolE room cap wait) := by
            have := hz.out
            rw [List.take_of_length_le (by omega)] at this
            show _ = _; rw [HE.out, if_pos this]
          obtain ⟨p0, p1, p2, p3, p4, p5, p6⟩ := RP.three
          have HRP : Hid (∀ u, Below wr.heap.size wr u → RowAt u w.heap.size 24 [.int .i64 room, .int .i64 cap, .int .i64 wait]) := fun u hu => RP.later hu p6
          clear RP bw
          go_wp2_with fail
          refine (HP.out _).mono ?_
          rintro e w1 ⟨rfl, hw1⟩
          have R1 := HRP.out _ hw1
          have BW1 : Hid (Below w.heap.size w w1) := Bel.call BW.out (Nat.le_refl _) hw1
          clear hw1 p0 p1 p2 p3 p4 p5 p6
          obtain ⟨p0, p1, p2, p3, p4, p5, p6⟩ := R1.three
          clear R1
          by_cases hp : poolE room cap wait = 0
          · rw [hp]
            rw [hp] at HA
            by_cases hw0 : wait = 0
            · subst hw0
              go_wp2
              go_ret
              exact ⟨by rw [HA.out]; rfl, BW1.out⟩
            · have HB : Hid (newE S room cap wait = 3) := by show _ = _; rw [HA.out, if_pos rfl, if_pos hw0]
              go_wp2
              go_ret
              exact ⟨by rw [HB.out]; rfl, BW1.out⟩
          · have HB : Hid (newE S room cap wait = poolE room cap wait) := by show _ = _; rw [HA.out, if_neg hp]
            clear HA
            generalize poolE room cap wait = px at *
            have q2 : (px == 0) = false := beq_eq_false_iff_ne.2 hp
            go_wp2
            go_ret
            exact ⟨by rw [HB.out]; rfl, BW1.out⟩
end Ev
end Go.Proofs.YtkpmjmgmgkdfnajDoor
