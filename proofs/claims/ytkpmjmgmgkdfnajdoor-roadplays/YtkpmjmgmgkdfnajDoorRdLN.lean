/- Package road's New does what is asked of it. -/
import Derived.Test.YtkpmjmgmgkdfnajDoorPlains
import Derived.Test.YtkpmjmgmgkdfnajDoorSoA
import Derived.Test.YtkpmjmgmgkdfnajDoorPoA
import Derived.Lib.SliceRun
import Derived.Deep.RegionLaw
namespace Go.Proofs.YtkpmjmgmgkdfnajDoor
namespace Ev
open Go.RowKit Fr Ns Ld Fl
set_option linter.unusedSimpArgs false
set_option linter.unusedVariables false

theorem infoSrcL : (Tryd.prog.info? 43).map (fun i => (i.zero, i.size, i.bytes)) = some (some (.agg #[.int .i64 0, .int .i64 0, .int .i64 0, .int .i64 0]), 4, 32) := by kernel_rfl
/-- the fault of one source -/
def src1E (s : Src) : Int := if srcE s.1 s.2.1 s.2.2.1 s.2.2.2 = 0 then (if s.2.1 ≠ 0 ∨ s.2.2.2 ≠ 0 then 3 else 0) else srcE s.1 s.2.1 s.2.2.1 s.2.2.2
/-- the fault of the pool -/
def pool1E (room cap wait : Int) : Int := if poolE room cap wait = 0 then (if wait ≠ 0 then 3 else 0) else poolE room cap wait
/-- the fault of the sources -/
def srcs0E (S : List Src) : Int := if S.length = 0 then 5 else if 6 < S.length then 4 else srcsE S
theorem newE_parts (S : List Src) (room cap wait : Int) : newE S room cap wait = if srcs0E S = 0 then pool1E room cap wait else srcs0E S := by
  unfold newE srcs0E pool1E
  by_cases h0 : S.length = 0
  · rw [if_pos h0, if_pos h0, if_neg (by decide)]
  · rw [if_neg h0, if_neg h0]
    by_cases h6 : 6 < S.length
    · rw [if_pos h6, if_pos h6, if_neg (by decide)]
    · rw [if_neg h6, if_neg h6]
theorem srcsE_at {S : List Src} : ∀ k, k < S.length → srcsE (S.take k) = 0 → src1E (sAt S k) ≠ 0 → srcsE S = src1E (sAt S k) := by
  induction S with
  | nil => intro k hk; simp at hk
  | cons s r ih =>
    intro k hk h h1
    cases k with
    | zero =>
      have e : sAt (s :: r) 0 = s := rfl
      rw [e] at h1 ⊢
      unfold src1E at h1 ⊢
      simp only [srcsE]
      split
      · rename_i hs
        rw [if_pos hs] at h1
        split
        · rfl
        · rename_i h2; rw [if_neg h2] at h1; exact absurd rfl h1
      · rfl
    | succ k =>
      simp only [List.take_succ_cons, srcsE] at h
      split at h
      · rename_i hs
        split at h
        · omega
        · rename_i h2
          have := ih k (by simpa using hk) h h1
          simp only [srcsE]
          rw [if_pos hs, if_neg h2, this]
          rfl
      · contradiction
theorem srcsE_on {S : List Src} : ∀ k, k < S.length → srcsE (S.take k) = 0 → src1E (sAt S k) = 0 → srcsE (S.take (k + 1)) = 0 := by
  induction S with
  | nil => intro k hk; simp at hk
  | cons s r ih =>
    intro k hk h h1
    cases k with
    | zero =>
      have e : sAt (s :: r) 0 = s := rfl
      rw [e] at h1
      unfold src1E at h1
      simp only [List.take_succ_cons, List.take_zero, srcsE]
      split
      · rename_i hs
        rw [if_pos hs] at h1
        split
        · rename_i h2; rw [if_pos h2] at h1; omega
        · rfl
      · rename_i hs; rw [if_neg hs] at h1; exact absurd h1 hs
    | succ k =>
      simp only [List.take_succ_cons, srcsE] at h ⊢
      split at h
      · rename_i hs
        split at h
        · omega
        · rename_i h2
          rw [if_pos hs, if_neg h2]
          exact ih k (by simpa using hk) h h1
      · contradiction

set_option maxRecDepth 100000 in
set_option maxHeartbeats 1000000 in
theorem lsource_any (s : Src) (w : World) :
    Calls Tryd.prog 27 #[.agg #[.int .i64 s.1, .int .i64 s.2.1, .int .i64 s.2.2.1, .int .i64 s.2.2.2]] w fun e w' => e = .returned (errV (src1E s)) ∧ Below w.heap.size w w' := by
  obtain ⟨a, b, c, d⟩ := s
  have HKp : Hid (∀ u : World, Below (w.alloc (.cells #[.int .i64 a, .int .i64 b, .int .i64 c, .int .i64 d] 43)).heap.size (w.alloc (.cells #[.int .i64 a, .int .i64 b, .int .i64 c, .int .i64 d] 43)) u → Below w.heap.size w u ∧ RowAt u w.heap.size 43 [.int .i64 a, .int .i64 b, .int .i64 c, .int .i64 d]) := fun u hu => by
    have hs := hu.size
    simp at hs
    exact ⟨((Below.refl _ _).alloc (Nat.le_refl _) _).trans (hu.mono (by simp)), (row_made w _ _ _ _ rfl rfl).later hu (by simp)⟩
  show Calls _ _ _ _ fun e w' => e = .returned (errV (src1E (a, b, c, d))) ∧ _
  by_cases hk : srcE a b c d = 0
  · have HK : Hid (∀ u : World, Calls Tryd.prog 34 #[.agg #[.int .i64 a, .int .i64 b, .int .i64 c, .int .i64 d]] u fun e w' => e = .returned (.nilIface) ∧ Below u.heap.size u w') := fun u => by have := scheck_said a b c d u; rw [hk, errV_0] at this; exact this
    have hb := srcE_0.1 hk
    have e0 : src1E (a, b, c, d) = if b ≠ 0 ∨ d ≠ 0 then 3 else 0 := if_pos hk
    rw [e0]
    clear e0 hk
    by_cases h1 : 0 < b
    · rw [if_pos (.inl (by omega)), errV_ne (by decide)]
      clear hb
      go_enter Tryd.func27, Tryd.ntmps27
      go_wp2_with fail
      refine (HK.out _).mono ?_
      rintro e w1 ⟨rfl, hw1⟩
      obtain ⟨b1, R1⟩ := HKp.out _ hw1
      have B1 : Hid (Below w.heap.size w w1) := b1
      obtain ⟨d0, d1, d2, d3, f0, f1, f2, f3, g0⟩ := R1.four
      clear b1 R1 hw1
      go_wp2
      go_ret
      exact ⟨rfl, B1.out⟩
    · obtain rfl : b = 0 := by omega
      clear h1
      by_cases h2 : 0 < d
      · rw [if_pos (.inr (by omega)), errV_ne (by decide)]
        clear hb
        go_enter Tryd.func27, Tryd.ntmps27
        go_wp2_with fail
        refine (HK.out _).mono ?_
        rintro e w1 ⟨rfl, hw1⟩
        obtain ⟨b1, R1⟩ := HKp.out _ hw1
        have B1 : Hid (Below w.heap.size w w1) := b1
        obtain ⟨d0, d1, d2, d3, f0, f1, f2, f3, g0⟩ := R1.four
        clear b1 R1 hw1
        go_wp2
        go_ret
        exact ⟨rfl, B1.out⟩
      · obtain rfl : d = 0 := by omega
        clear h2
        rw [if_neg (by omega), errV_0]
        clear hb
        go_enter Tryd.func27, Tryd.ntmps27
        go_wp2_with fail
        refine (HK.out _).mono ?_
        rintro e w1 ⟨rfl, hw1⟩
        obtain ⟨b1, R1⟩ := HKp.out _ hw1
        have B1 : Hid (Below w.heap.size w w1) := b1
        obtain ⟨d0, d1, d2, d3, f0, f1, f2, f3, g0⟩ := R1.four
        clear b1 R1 hw1
        go_wp2
        go_ret
        exact ⟨rfl, B1.out⟩
  · have HK : Hid (∀ u : World, Calls Tryd.prog 34 #[.agg #[.int .i64 a, .int .i64 b, .int .i64 c, .int .i64 d]] u fun e w' => e = .returned (.iface 54 (.int .i64 (srcE a b c d))) ∧ Below u.heap.size u w') := fun u => by have := scheck_said a b c d u; rw [errV_ne hk] at this; exact this
    have e0 : src1E (a, b, c, d) = srcE a b c d := if_neg hk
    rw [e0, errV_ne hk]
    clear e0 hk
    generalize srcE a b c d = ek at *
    go_enter Tryd.func27, Tryd.ntmps27
    go_wp2_with fail
    refine (HK.out _).mono ?_
    rintro e w1 ⟨rfl, hw1⟩
    obtain ⟨b1, R1⟩ := HKp.out _ hw1
    have B1 : Hid (Below w.heap.size w w1) := b1
    clear b1 R1 hw1
    go_wp2
    go_ret
    exact ⟨rfl, B1.out⟩

set_option maxRecDepth 100000 in
set_option maxHeartbeats 1000000 in
theorem lpool_any (s r h : Int) (w : World) :
    Calls Tryd.prog 16 #[.agg #[.int .i64 s, .int .i64 r, .int .i64 h]] w fun e w' => e = .returned (errV (pool1E s r h)) ∧ Below w.heap.size w w' := by
  have HKp : Hid (∀ u : World, Below (w.alloc (.cells #[.int .i64 s, .int .i64 r, .int .i64 h] 24)).heap.size (w.alloc (.cells #[.int .i64 s, .int .i64 r, .int .i64 h] 24)) u → Below w.heap.size w u ∧ RowAt u w.heap.size 24 [.int .i64 s, .int .i64 r, .int .i64 h]) := fun u hu => by
    have hs := hu.size
    simp at hs
    exact ⟨((Below.refl _ _).alloc (Nat.le_refl _) _).trans (hu.mono (by simp)), (row_made w _ _ _ _ rfl rfl).later hu (by simp)⟩
  by_cases hk : poolE s r h = 0
  · have HK : Hid (∀ u : World, Calls Tryd.prog 28 #[.agg #[.int .i64 s, .int .i64 r, .int .i64 h]] u fun e w' => e = .returned (.nilIface) ∧ Below u.heap.size u w') := fun u => by have := pcheck_said s r h u; rw [hk, errV_0] at this; exact this
    have hb := poolE_0.1 hk
    have e0 : pool1E s r h = if h ≠ 0 then 3 else 0 := if_pos hk
    rw [e0]
    clear e0 hk
    by_cases h1 : 0 < h
    · rw [if_pos (by omega), errV_ne (by decide)]
      clear hb
      go_enter Tryd.func16, Tryd.ntmps16
      go_wp2_with fail
      refine (HK.out _).mono ?_
      rintro e w1 ⟨rfl, hw1⟩
      obtain ⟨b1, R1⟩ := HKp.out _ hw1
      have B1 : Hid (Below w.heap.size w w1) := b1
      obtain ⟨d0, d1, d2, f0, f1, f2, g0⟩ := R1.three
      clear b1 R1 hw1
      go_wp2
      go_ret
      exact ⟨rfl, B1.out⟩
    · obtain rfl : h = 0 := by omega
      clear h1
      rw [if_neg (by omega), errV_0]
      clear hb
      go_enter Tryd.func16, Tryd.ntmps16
      go_wp2_with fail
      refine (HK.out _).mono ?_
      rintro e w1 ⟨rfl, hw1⟩
      obtain ⟨b1, R1⟩ := HKp.out _ hw1
      have B1 : Hid (Below w.heap.size w w1) := b1
      obtain ⟨d0, d1, d2, f0, f1, f2, g0⟩ := R1.three
      clear b1 R1 hw1
      go_wp2
      go_ret
      exact ⟨rfl, B1.out⟩
  · have HK : Hid (∀ u : World, Calls Tryd.prog 28 #[.agg #[.int .i64 s, .int .i64 r, .int .i64 h]] u fun e w' => e = .returned (.iface 54 (.int .i64 (poolE s r h))) ∧ Below u.heap.size u w') := fun u => by have := pcheck_said s r h u; rw [errV_ne hk] at this; exact this
    have e0 : pool1E s r h = poolE s r h := if_neg hk
    rw [e0, errV_ne hk]
    clear e0 hk
    generalize poolE s r h = ek at *
    go_enter Tryd.func16, Tryd.ntmps16
    go_wp2_with fail
    refine (HK.out _).mono ?_
    rintro e w1 ⟨rfl, hw1⟩
    obtain ⟨b1, R1⟩ := HKp.out _ hw1
    have B1 : Hid (Below w.heap.size w w1) := b1
    clear b1 R1 hw1
    go_wp2
    go_ret
    exact ⟨rfl, B1.out⟩

theorem srcs_at {Q : Nat → Prop} {w : World} {a : Option Addr} {cap : Nat} {l : List Src} (h : SrcsAt Q w (.slice a l.length cap) l) : ∀ i, i < l.length → ∃ b off, a = some ⟨b, off, none⟩ ∧ ∀ u, Below w.heap.size w u → SrcAt u b (off + i * 4) (sAt l i) := by
  obtain ⟨a', cap', e, _, h⟩ := h
  simp only [Value.slice.injEq] at e
  obtain ⟨rfl, -, -⟩ := e
  intro i hi
  rcases h with h | ⟨b, off, rfl, h, _⟩
  · rw [h] at hi; simp at hi
  · exact ⟨b, off, rfl, fun u hu => (h i hi).later hu⟩
set_option maxRecDepth 100000 in
set_option maxHeartbeats 4000000 in
theorem lsources_any {Q : Nat → Prop} (S : List Src) (v : Value) (w : World) (hv : SrcsAt Q w v S) :
    Calls Tryd.prog 15 #[v] w fun e w' => e = .returned (errV (srcs0E S)) ∧ Below w.heap.size w w' := by
  obtain ⟨a, cp, rfl, ⟨hm, hm2⟩, _⟩ := id hv
  have HC : Hid (∀ i, i < S.length → ∃ b off, a = some ⟨b, off, none⟩ ∧ ∀ u, Below w.heap.size w u → SrcAt u b (off + i * 4) (sAt S i)) := srcs_at hv
  clear hv
  by_cases h0 : S.length = 0
  · have q : ((S.length : Int) == 0) = true := by simp [h0]
    have e0 : srcs0E S = 5 := if_pos h0
    rw [e0, errV_ne (by decide)]
    clear h0 e0
    go_enter Tryd.func15, Tryd.ntmps15
    go_wp2
    go_ret
    exact ⟨rfl, Below.refl _ _⟩
  · have q : ((S.length : Int) == 0) = false := beq_eq_false_iff_ne.2 (by omega)
    by_cases h6 : 6 < S.length
    · have e0 : srcs0E S = 4 := by rw [srcs0E, if_neg h0, if_pos h6]
      rw [e0, errV_ne (by decide)]
      clear h0 e0
      go_enter Tryd.func15, Tryd.ntmps15
      go_wp2
      go_ret
      exact ⟨rfl, Below.refl _ _⟩
    · have e0 : srcs0E S = srcsE S := by rw [srcs0E, if_neg h0, if_neg h6]
      rw [e0]
      have HA : Hid (∀ k, k < S.length → srcsE (S.take k) = 0 → src1E (sAt S k) ≠ 0 → srcsE S = src1E (sAt S k)) := srcsE_at
      have HO : Hid (∀ k, k < S.length → srcsE (S.take k) = 0 → src1E (sAt S k) = 0 → srcsE (S.take (k + 1)) = 0) := srcsE_on
      have HS : Hid (∀ (x : Src) (u : World), Calls Tryd.prog 27 #[.agg #[.int .i64 x.1, .int .i64 x.2.1, .int .i64 x.2.2.1, .int .i64 x.2.2.2]] u fun e w' => e = .returned (errV (src1E x)) ∧ Below u.heap.size u w') := lsource_any
      clear h0 e0
      go_enter Tryd.func15, Tryd.ntmps15
      go_wp2
      go_loopw [4, 5, 16] (fun _ _ i wr => ∃ k : Nat, k ≤ S.length ∧ i = .int .i64 k ∧ Hid (srcsE (S.take k) = 0) ∧ Hid (Below w.heap.size w wr)) (fun _ _ i _ => S.length - (intOf i).toNat)
      case atStart => exact ⟨0, by omega, rfl, rfl, Below.refl _ _⟩
      case round =>
        obtain ⟨k, hk, rfl, hz, hb⟩ := hrel
        by_cases hlt : k < S.length
        · obtain ⟨b, off, rfl, hc⟩ := HC.out k hlt
          obtain ⟨c0, c1, c2, c3⟩ := hc _ hb.out
          have H1 : Hid _ := HA.out k hlt hz.out
          have H2 : Hid _ := HO.out k hlt hz.out
          have HS1 : Hid (∀ u : World, Calls Tryd.prog 27 #[.agg #[.int .i64 (sAt S k).1, .int .i64 (sAt S k).2.1, .int .i64 (sAt S k).2.2.1, .int .i64 (sAt S k).2.2.2]] u fun e w' => e = .returned (errV (src1E (sAt S k))) ∧ Below u.heap.size u w') := HS.out _
          clear hc
          generalize sAt S k = x at *
          have B0 : Hid (Below w.heap.size w (wr.alloc (.cells #[.int .i64 x.1, .int .i64 x.2.1, .int .i64 x.2.2.1, .int .i64 x.2.2.2] 43))) := hb.out.alloc hb.out.size _
          by_cases hx : src1E x = 0
          · rw [hx, errV_0] at HS1
            have HN : Hid (srcsE (S.take (k + 1)) = 0) := H2.out hx
            clear H1 H2 hx
            go_wp2_with fail
            refine (HS1.out _).mono ?_
            rintro e w1 ⟨rfl, hw1⟩
            have B1 : Hid (Below w.heap.size w w1) := B0.out.trans (hw1.mono B0.out.size)
            clear hw1 c0 c1 c2 c3
            go_wp2
            go_roundw
            case rel => exact ⟨k + 1, by omega, by go_num, HN, B1⟩
            case measure => simp [intOf]; omega
          · rw [errV_ne hx] at HS1
            have HN : Hid (srcsE S = src1E x) := H1.out hx
            have HX : Hid (src1E x ≠ 0) := hx
            clear H1 H2 hx
            go_wp2_with fail
            refine (HS1.out _).mono ?_
            rintro e w1 ⟨rfl, hw1⟩
            have B1 : Hid (Below w.heap.size w w1) := B0.out.trans (hw1.mono B0.out.size)
            clear hw1 c0 c1 c2 c3
            go_wp2
            go_ret
            exact ⟨by rw [HN.out, errV_ne HX.out]; rfl, B1.out⟩
        · have HN : Hid (srcsE S = 0) := by
            have := hz.out
            rwa [List.take_of_length_le (by omega)] at this
          have B1 : Hid (Below w.heap.size w wr) := hb
          go_wp2
          go_ret
          exact ⟨by rw [HN.out, errV_0]; rfl, B1.out⟩

theorem ones_src : ∀ (l : List Src), ∀ u ∈ flatS l, u.oneCell' = true := by
  intro l
  induction l with
  | nil => intro u hu; simp [flatS] at hu
  | cons s r ih =>
    intro u hu
    simp only [flatS, List.mem_cons] at hu
    rcases hu with rfl | rfl | rfl | rfl | h
    · rfl
    · rfl
    · rfl
    · rfl
    · exact ih u h
theorem cells_src {w : World} {b off : Nat} {l : List Src} (h : ∀ i, i < l.length → SrcAt w b (off + i * 4) (sAt l i)) : ∀ j u, (flatS l)[j]? = some u → w.cell? ((⟨b, off, none⟩ : Addr).add j) = some u := by
  intro j u hj
  rw [Addr.add_lit]
  have hl : j < l.length * 4 := by have := (List.getElem?_eq_some_iff.1 hj).1; rwa [flatS_length] at this
  obtain ⟨q, hq, r, hr, rfl⟩ : ∃ q, q < l.length ∧ ∃ r, r < 4 ∧ j = q * 4 + r := ⟨j / 4, by omega, j % 4, by omega, by omega⟩
  obtain ⟨a0, a1, a2, a3⟩ := flatS_at l [] q hq
  rw [List.append_nil] at a0 a1 a2 a3
  obtain ⟨b0, b1, b2, b3⟩ := h q hq
  match r, hr with
  | 0, _ => rw [Nat.add_zero, a0] at hj; rw [Nat.add_zero, b0]; exact hj
  | 1, _ => rw [a1] at hj; rw [← Nat.add_assoc, b1]; exact hj
  | 2, _ => rw [a2] at hj; rw [← Nat.add_assoc, b2]; exact hj
  | 3, _ => rw [a3] at hj; rw [← Nat.add_assoc, b3]; exact hj
set_option maxRecDepth 100000 in
set_option maxHeartbeats 1000000 in
theorem lclone_any {Q : Nat → Prop} (l : List Src) (v : Value) (w : World) (h : SrcsAt Q w v l) (h0 : 0 < l.length) (hl : l.length ≤ 6) :
    Calls Tryd.prog 17 #[v] w fun e w' => ∃ gs cs sp, e = .returned (.slice (some ⟨gs, 0, none⟩) l.length cs) ∧ w.heap.size ≤ gs ∧ l.length ≤ cs ∧ RowAt w' gs 43 (flatS l ++ sp) ∧ Below w.heap.size w w' := by
  have q : ∀ (w : World) (a : Option Addr) (n c n' c' : Nat), (binOp .eql 22 (.slice a n c) (.slice none n' c')).run Tryd.prog w = .ok (.bool a.isNone) w := fun w a n c n' c' => Lib.run_eql_slice_nil w _ _ a n c n' c' Tryd.underlying22
  obtain ⟨i0, hi, hz0, hz1, hz2⟩ := info_parts infoSrcL
  obtain ⟨a, cap, rfl, ⟨hm, hm2⟩, h⟩ := h
  rcases h with h | ⟨b, off, rfl, hc, _⟩
  · rw [h] at h0; simp at h0
  have A : Hid (∀ j u, (flatS l)[j]? = some u → w.cell? ((⟨b, off, none⟩ : Addr).add j) = some u) := cells_src hc
  have HL : Hid ((flatS l).length = l.length * 4) := flatS_length l
  clear hc
  go_enter Tryd.func17, Tryd.ntmps17
  go_wp2_with (at_builtin; go_must (refine wpList_append_own _ rfl _ _ 22 rfl w.heap.size 43 i0 (.agg #[.int .i64 0, .int .i64 0, .int .i64 0, .int .i64 0]) 4 32 Tryd.underlying22 hi hz0 hz1 hz2 rfl (by decide) _ _ _ rfl (World.ownsRow_made w #[] 0 (Nat.le_refl _) (Nat.zero_le _) (by simp)) ⟨b, off, none⟩ l.length cap (flatS l) rfl ?c0 ?c1 ?c2 ?c3 ?c4 ?c5 ?_))
  case c0 => exact HL.out
  case c1 =>
    intro j u hj
    exact cell_later ((Below.refl _ _).alloc (Nat.le_refl _) _) (A.out j u hj)
  case c2 => exact ones_src l
  case c3 => unfold maxLen; omega
  case c4 => omega
  case c5 => simp
  intro v' w1 hown hgrow _
  have HW : Hid (Below w.heap.size w w1) := ((Below.refl _ w).alloc (Nat.le_refl _) _).grown hgrow (by simp) (by intro k hk; simp [Value.ownBlock] at hk; omega)
  have HO : Hid (∃ gs cs sp, v' = .slice (some ⟨gs, 0, none⟩) l.length cs ∧ w.heap.size ≤ gs ∧ l.length ≤ cs ∧ RowAt w1 gs 43 (flatS l ++ sp)) := by
    replace hown : w1.ownsRow w.heap.size 43 4 v' l.length (flatS l) := by simpa using hown
    rcases hown.2 with ⟨_, e⟩ | ⟨gs, cs, cur, e1, hb, hg, hcp, hmx, hsz, ht⟩
    · omega
    · refine ⟨gs, cs, cur.toList.drop (l.length * 4), e1, hb, hcp, ?_⟩
      unfold RowAt
      rw [hg, ← ht, List.take_append_drop]
  clear hown hgrow
  obtain ⟨gs, cs, sp, rfl, h1, h2, h3⟩ := HO.out
  have H3 : Hid (RowAt w1 gs 43 (flatS l ++ sp)) := h3
  clear h3 HO
  go_wp2
  go_ret
  exact ⟨gs, cs, sp, rfl, h1, h2, H3.out, HW.out⟩

set_option maxRecDepth 100000 in
set_option maxHeartbeats 4000000 in
theorem rnew_said : RNewSaid roadX := by
  intro Q S room cap wait v w hv
  have HK1 : Hid (∀ u, Below w.heap.size w u → Calls Tryd.prog 15 #[v] u fun e w' => e = .returned (errV (srcs0E S)) ∧ Below u.heap.size u w') := fun u hu => lsources_any S v u (hv.later hu)
  have HK2 : Hid (∀ u, Calls Tryd.prog 16 #[.agg #[.int .i64 room, .int .i64 cap, .int .i64 wait]] u fun e w' => e = .returned (errV (pool1E room cap wait)) ∧ Below u.heap.size u w') := fun u => lpool_any room cap wait u
  have HKp : Hid (∀ u : World, Below (w.alloc (.cells #[.int .i64 room, .int .i64 cap, .int .i64 wait] 24)).heap.size (w.alloc (.cells #[.int .i64 room, .int .i64 cap, .int .i64 wait] 24)) u → Below w.heap.size w u ∧ RowAt u w.heap.size 24 [.int .i64 room, .int .i64 cap, .int .i64 wait]) := fun u hu => by
    have hs := hu.size
    simp at hs
    exact ⟨((Below.refl _ _).alloc (Nat.le_refl _) _).trans (hu.mono (by simp)), (row_made w _ _ _ _ rfl rfl).later hu (by simp)⟩
  have B0 : Hid (Below w.heap.size w (w.alloc (.cells #[.int .i64 room, .int .i64 cap, .int .i64 wait] 24))) := (Below.refl _ _).alloc (Nat.le_refl _) _
  obtain ⟨va, vc, hvv, _⟩ := id hv
  by_cases h1 : srcs0E S = 0
  · by_cases h2 : pool1E room cap wait = 0
    · have he : newE S room cap wait = 0 := by rw [newE_parts, if_pos h1, h2]
      obtain ⟨n1, n2, n3, n4, n5⟩ := newE_0 he
      have HCl : Hid (∀ u, Below w.heap.size w u → Calls Tryd.prog 17 #[v] u fun e w' => ∃ gs cs sp, e = .returned (.slice (some ⟨gs, 0, none⟩) S.length cs) ∧ u.heap.size ≤ gs ∧ S.length ≤ cs ∧ RowAt w' gs 43 (flatS S ++ sp) ∧ Below u.heap.size u w') := fun u hu => lclone_any S v u (hv.later hu) n1 n2
      have HEnd : Hid (∀ (u : World) (gs cs : Nat) (sp : List Value), Below w.heap.size w u → w.heap.size ≤ gs → S.length ≤ cs → RowAt u gs 43 (flatS S ++ sp) → Made roadX S room cap wait w (u.alloc (.cells #[.slice (some ⟨gs, 0, none⟩) S.length cs, .int .i64 room, .int .i64 cap, .int .i64 wait, .slice none 0 0] 53)) (.returned (.tuple #[.pointer (some ⟨u.heap.size, 0, none⟩), .nilIface]))) := fun u gs cs sp hu hgs hcs hr => by
        refine ⟨_, by rw [he, errV_0], ⟨_, rfl⟩, fun _ => ⟨refF u.heap.size gs (.slice none 0 0), ⟨u.heap.size, gs, cs, sp, .slice none 0 0, rfl, ⟨?_, hr.alloc _, ?_, ⟨?_, ?_, ?_⟩, hcs⟩, fun b => Iff.rfl⟩, ?_⟩, hu.alloc hu.size _⟩
        · exact row_made _ _ _ _ _ rfl rfl
        · exact TailAt.nil _ _
        · have := hr.lt; omega
        · simp [Value.ownBlock]
        · simp [Value.ownBlock]
        · rintro b (rfl | rfl | h)
          · exact hu.size
          · exact hgs
          · simp [Value.ownBlock] at h
      rw [h1, errV_0] at HK1
      rw [h2, errV_0] at HK2
      clear h1 h2 he n1 n2 n3 n4 n5 hv
      subst hvv
      go_enter Tryd.func5, Tryd.ntmps5
      go_wp2_with fail
      refine (HK1.out _ B0.out).mono ?_
      rintro e w1 ⟨rfl, hw1⟩
      obtain ⟨b1, R1⟩ := HKp.out _ hw1
      have B1 : Hid (Below w.heap.size w w1) := b1
      have HR1 : Hid (RowAt w1 w.heap.size 24 [.int .i64 room, .int .i64 cap, .int .i64 wait]) := R1
      obtain ⟨d0, d1, d2, _, _, _, g0⟩ := R1.three
      clear b1 R1 hw1
      go_wp2_with fail
      refine (HK2.out _).mono ?_
      rintro e w2 ⟨rfl, hw2⟩
      have B2 : Hid (Below w.heap.size w w2) := Bel.call B1.out (Nat.le_refl _) hw2
      have HR2 : Hid (RowAt w2 w.heap.size 24 [.int .i64 room, .int .i64 cap, .int .i64 wait]) := HR1.out.later hw2 HR1.out.lt
      clear hw2 d0 d1 d2 g0 HR1 B1
      obtain ⟨d0, d1, d2, _, _, _, g0⟩ := HR2.out.three
      have P1 : Hid (Below w.heap.size w w2.drew) := Bel.call B2.out (Nat.le_refl _) (Below.refl _ _).drew
      have P2 : Hid (Below w2.heap.size w2 w2.drew) := (Below.refl _ _).drew
      go_wp2_with fail
      go_region_law (first | (go_simp; refine (HCl.out _ P1.out).mono ?_; rintro e w3 ⟨gs, cs, sp, rfl, hgs, hcs, hr3, hw3⟩; have Hb3 : Hid (Below w2.heap.size w2 w3) := Bel.call P2.out (Nat.le_refl _) hw3; obtain ⟨v0, v1, v2, _⟩ := (HR2.out.later Hb3.out HR2.out.lt).three))
      all_goals
        have hgs' : w.heap.size ≤ gs := Nat.le_trans P1.out.size hgs
        have M : Hid _ := HEnd.out w3 gs cs sp (Bel.call B2.out (Nat.le_refl _) Hb3.out) hgs' hcs hr3
        clear hr3 hw3 Hb3 hgs hcs
        go_wp2
        refine bodyPost_ret (v := .tuple #[.pointer (some ⟨w3.heap.size, 0, none⟩), .nilIface]) (by simp [results, Tryd.results5, go_sem, *]) rfl M.out
    · have he : newE S room cap wait = pool1E room cap wait := by rw [newE_parts, if_pos h1]
      have HEnd : Hid (∀ u, Below w.heap.size w u → Made roadX S room cap wait w u (.returned (.tuple #[.pointer none, .iface 54 (.int .i64 (pool1E room cap wait))]))) := fun u hu => ⟨_, by rw [he, errV_ne h2], ⟨_, rfl⟩, fun h => absurd (he ▸ h) h2, hu⟩
      rw [h1, errV_0] at HK1
      rw [errV_ne h2] at HK2
      clear h1 h2 he hv
      subst hvv
      generalize pool1E room cap wait = ek at *
      go_enter Tryd.func5, Tryd.ntmps5
      go_wp2_with fail
      refine (HK1.out _ B0.out).mono ?_
      rintro e w1 ⟨rfl, hw1⟩
      obtain ⟨b1, R1⟩ := HKp.out _ hw1
      have B1 : Hid (Below w.heap.size w w1) := b1
      obtain ⟨d0, d1, d2, _, _, _, g0⟩ := R1.three
      clear b1 R1 hw1
      go_wp2_with fail
      refine (HK2.out _).mono ?_
      rintro e w2 ⟨rfl, hw2⟩
      have B2 : Hid (Below w.heap.size w w2) := Bel.call B1.out (Nat.le_refl _) hw2
      have M : Hid _ := HEnd.out w2 B2.out
      clear hw2 d0 d1 d2 g0
      go_wp2
      refine bodyPost_ret (v := .tuple #[.pointer none, .iface 54 (.int .i64 ek)]) (by simp [results, Tryd.results5, go_sem, *]) rfl M.out
  · have he : newE S room cap wait = srcs0E S := by rw [newE_parts, if_neg h1]
    have HEnd : Hid (∀ u, Below w.heap.size w u → Made roadX S room cap wait w u (.returned (.tuple #[.pointer none, .iface 54 (.int .i64 (srcs0E S))]))) := fun u hu => ⟨_, by rw [he, errV_ne h1], ⟨_, rfl⟩, fun h => absurd (he ▸ h) h1, hu⟩
    rw [errV_ne h1] at HK1
    clear h1 he hv
    subst hvv
    generalize srcs0E S = ek at *
    go_enter Tryd.func5, Tryd.ntmps5
    go_wp2_with fail
    refine (HK1.out _ B0.out).mono ?_
    rintro e w1 ⟨rfl, hw1⟩
    obtain ⟨b1, R1⟩ := HKp.out _ hw1
    have M : Hid _ := HEnd.out w1 b1
    clear b1 R1 hw1
    go_wp2
    refine bodyPost_ret (v := .tuple #[.pointer none, .iface 54 (.int .i64 ek)]) (by simp [results, Tryd.results5, go_sem, *]) rfl M.out
end Ev
end Go.Proofs.YtkpmjmgmgkdfnajDoor
