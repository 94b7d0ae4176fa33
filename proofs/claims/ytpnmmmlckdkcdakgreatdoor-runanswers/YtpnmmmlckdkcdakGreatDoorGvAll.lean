/- Pieces of one walk, one text behind the other. -/
import Derived.Test.YtpnmmmlckdkcdakGreatDoorAnyF
import Derived.Test.YtpnmmmlckdkcdakGreatDoorPlains
import Derived.Test.YtpnmmmlckdkcdakGreatDoorFracAll
import Derived.Deep.RegionHeld3
import Derived.BigQuiet
import Derived.Deep.DeepCutAuto
/- Package give's small parts: what may be, all together, what check tells, a list of negatives. -/
namespace Go.Proofs.YtpnmmmlckdkcdakGreatDoor
namespace Ev
open Go.RowKit Fr Ns Ld Fl
set_option linter.unusedSimpArgs false
set_option linter.unusedVariables false

theorem ret_gv {k : Int} {v : Value} (h : v = errV k) : Ending.returned v = .returned (errV k) := by rw [h]
theorem gbad_tells : TellsI 169 (fun x => !inTo 1000 x) := by
  refine ⟨enters Tryz.func169 (by kernel_rfl) (by kernel_rfl), fun x w => ?_⟩
  have HR : Hid ((!inTo 1000 x) = (decide (x < 0) || decide (1000 < x))) := by
    show _ = _
    rw [Bool.eq_iff_iff]
    simp [inTo]
    try omega
  by_cases h1 : x < 0
  · go_enter Tryz.func169, Tryz.ntmps169
    go_wp2
    go_ret
    exact ⟨ret_bool (by rw [HR.out]; simp [h1]), 0, rfl⟩
  · go_enter Tryz.func169, Tryz.ntmps169
    go_wp2
    go_ret
    exact ⟨ret_bool (by rw [HR.out]; simp [h1]; try omega), 0, rfl⟩

set_option maxHeartbeats 1000000 in
theorem gtogether_any {Q : Nat → Prop} (l : List Int) (v : Value) (w : World) (h : IntsAt Q w v l) (h6 : l.length ≤ 6) (hb : ∀ x ∈ l, 0 ≤ x ∧ x ≤ 10000) :
    Calls Tryz.prog 170 #[v] w fun e w' => e = .returned (.int .i64 (tot l)) ∧ w' = w := by
  obtain ⟨a, cap, rfl, ⟨hm, hm2⟩, h'⟩ := id h
  have HC : Hid (∀ i, i < l.length → ∃ b off, a = some ⟨b, off, none⟩ ∧ w.cell? ⟨b, off + i, none⟩ = some (.int .i64 (l.getD i 0))) := by
    intro i hi
    rcases h' with h | ⟨b, off, rfl, h, _⟩
    · rw [h] at hi; simp at hi
    · exact ⟨b, off, rfl, h i hi⟩
  have HB : Hid (∀ k, k ≤ l.length → 0 ≤ tot (l.take k) ∧ tot (l.take k) ≤ 60000) := fun k hk => by
    have := tot_bd (M := 10000) (l := l.take k) (fun x hx => hb x (List.mem_of_mem_take hx))
    rw [List.length_take] at this
    omega
  clear h h' hb
  go_enter Tryz.func170, Tryz.ntmps170
  go_wp2
  go_loop [3, 5, 8] (fun s _ i => ∃ k : Nat, k ≤ l.length ∧ i = .int .i64 k ∧ s = .int .i64 (tot (l.take k))) (fun _ _ i => l.length - (intOf i).toNat)
  case atStart => exact ⟨0, by omega, rfl, rfl⟩
  case round =>
    obtain ⟨k, hk, rfl, rfl⟩ := hrel
    by_cases hlt : k < l.length
    · obtain ⟨b, off, rfl, c0⟩ := HC.out k hlt
      have hs := tot_step l k hlt
      have b1 := HB.out k hk
      have b2 := HB.out (k + 1) hlt
      rw [hs] at b2
      have HS : Hid (tot (l.take (k + 1)) = tot (l.take k) + l.getD k 0) := hs
      clear hs
      generalize tot (l.take k) = t at *
      generalize l.getD k 0 = y at *
      go_wp2
      go_round
      case rel => exact ⟨k + 1, by omega, by go_num, by rw [HS.out]⟩
      case measure => simp [intOf]; omega
    · have HT : Hid (tot (l.take k) = tot l) := by show _ = _; rw [List.take_of_length_le (by omega)]
      go_wp2
      go_ret
      exact ⟨by rw [HT.out]; rfl, rfl⟩

set_option maxHeartbeats 2000000 in
theorem gcheck_any {Q : Nat → Prop} (many : Int) (l : List Int) (v : Value) (w : World) (h : IntsAt Q w v l) :
    Calls Tryz.prog 146 #[.int .i64 many, v] w fun e w' => e = .returned (errV (splitE many l)) ∧ Below w.heap.size w w' := by
  have HC : Hid (Calls Tryz.prog 34 #[v, .func (.func 169) #[] #[]] w fun e w' => e = .returned (.bool (l.any (fun x => !inTo 1000 x))) ∧ Below w.heap.size w w') := drawn (ContainsFuncI gbad_tells l v w h)
  have HT : Hid (l.length ≤ 6 → (∀ x ∈ l, 0 ≤ x ∧ x ≤ 10000) → ∀ u, Below w.heap.size w u → Calls Tryz.prog 170 #[v] u fun e w' => e = .returned (.int .i64 (tot l)) ∧ w' = u) := fun h6 hb u hu => gtogether_any l v u (h.later hu) h6 hb
  obtain ⟨a, cap, rfl, ⟨hm, hm2⟩, _⟩ := h
  by_cases h0 : l.length = 0
  · have HE : Hid (splitE many l = 5) := by
      have : few l 1000 = 5 := by rw [few, if_pos h0]
      have : idxE l = 5 := by rw [idxE, this]; rfl
      show _ = _
      rw [splitE, this]; rfl
    have q : ((l.length : Int) == 0) = true := by simp [h0]
    clear h0
    go_enter Tryz.func146, Tryz.ntmps146
    go_wp2
    go_ret
    exact ⟨ret_gv (by rw [HE.out]; rfl), Below.refl _ _⟩
  · have q : ((l.length : Int) == 0) = false := beq_eq_false_iff_ne.2 (by omega)
    by_cases h6 : 6 < l.length
    · have HE : Hid (splitE many l = 4) := by
        have : few l 1000 = 4 := by rw [few, if_neg h0, if_pos h6]
        have : idxE l = 4 := by rw [idxE, this]; rfl
        show _ = _
        rw [splitE, this]; rfl
      clear h0
      go_enter Tryz.func146, Tryz.ntmps146
      go_wp2
      go_ret
      exact ⟨ret_gv (by rw [HE.out]; rfl), Below.refl _ _⟩
    · cases hb : l.any (fun x => !inTo 1000 x) with
      | true =>
        have HE : Hid (splitE many l = 1) := by
          have : few l 1000 = 1 := by rw [few_over h0 h6, hb]; rfl
          have : idxE l = 1 := by rw [idxE, this]; rfl
          show _ = _
          rw [splitE, this]; rfl
        rw [hb] at HC
        clear hb h0
        go_enter Tryz.func146, Tryz.ntmps146
        go_wp2_with fail
        refine HC.out.mono ?_
        rintro e w2 ⟨rfl, hw2⟩
        have B2 : Hid (Below w.heap.size w w2) := hw2
        clear hw2
        go_wp2
        go_ret
        exact ⟨ret_gv (by rw [HE.out]; rfl), B2.out⟩
      | false =>
        have hf : few l 1000 = 0 := by rw [few_over h0 h6, hb]; rfl
        have hbd := (few_0.1 hf).2.2
        have HT' : Hid (∀ u, Below w.heap.size w u → Calls Tryz.prog 170 #[.slice a l.length cap] u fun e w' => e = .returned (.int .i64 (tot l)) ∧ w' = u) := HT.out (by omega) (fun x hx => by have := hbd x hx; omega)
        have HE0 : Hid (splitE many l = if tot l = 0 then 5 else if many < -10000 ∨ 10000 < many then 1 else 0) := by
          show _ = _
          by_cases ht : tot l = 0
          · rw [if_pos ht, splitE, idxE, if_pos hf, if_pos ht]; rfl
          · rw [if_neg ht, splitE, idxE, if_pos hf, if_neg ht]; rfl
        rw [hb] at HC
        clear hb h0 hf hbd HT
        generalize tot l = t at *
        by_cases ht : t = 0
        · have HE : Hid (splitE many l = 5) := by show _ = _; rw [HE0.out, if_pos ht]
          subst ht
          clear HE0
          go_enter Tryz.func146, Tryz.ntmps146
          go_wp2_with fail
          refine HC.out.mono ?_
          rintro e w2 ⟨rfl, hw2⟩
          have B2 : Hid (Below w.heap.size w w2) := hw2
          clear hw2
          go_wp2_with fail
          refine (HT'.out _ B2.out).mono ?_
          rintro e w2 ⟨rfl, rfl⟩
          go_wp2
          go_ret
          exact ⟨ret_gv (by rw [HE.out]; rfl), B2.out⟩
        · have qt : (t == 0) = false := beq_eq_false_iff_ne.2 ht
          have HE1 : Hid (splitE many l = if many < -10000 ∨ 10000 < many then 1 else 0) := by show _ = _; rw [HE0.out, if_neg ht]
          clear HE0 ht
          by_cases hm1 : many < -10000
          · have HE : Hid (splitE many l = 1) := by show _ = _; rw [HE1.out, if_pos (.inl hm1)]
            clear HE1
            go_enter Tryz.func146, Tryz.ntmps146
            go_wp2_with fail
            refine HC.out.mono ?_
            rintro e w2 ⟨rfl, hw2⟩
            have B2 : Hid (Below w.heap.size w w2) := hw2
            clear hw2
            go_wp2_with fail
            refine (HT'.out _ B2.out).mono ?_
            rintro e w2 ⟨rfl, rfl⟩
            go_wp2
            go_ret
            exact ⟨ret_gv (by rw [HE.out]; rfl), B2.out⟩
          · by_cases hm3 : 10000 < many
            · have HE : Hid (splitE many l = 1) := by show _ = _; rw [HE1.out, if_pos (.inr hm3)]
              clear HE1
              go_enter Tryz.func146, Tryz.ntmps146
              go_wp2_with fail
              refine HC.out.mono ?_
              rintro e w2 ⟨rfl, hw2⟩
              have B2 : Hid (Below w.heap.size w w2) := hw2
              clear hw2
              go_wp2_with fail
              refine (HT'.out _ B2.out).mono ?_
              rintro e w2 ⟨rfl, rfl⟩
              go_wp2
              go_ret
              exact ⟨ret_gv (by rw [HE.out]; rfl), B2.out⟩
            · have HE : Hid (splitE many l = 0) := by show _ = _; rw [HE1.out, if_neg (by omega)]
              clear HE1
              go_enter Tryz.func146, Tryz.ntmps146
              go_wp2_with fail
              refine HC.out.mono ?_
              rintro e w2 ⟨rfl, hw2⟩
              have B2 : Hid (Below w.heap.size w w2) := hw2
              clear hw2
              go_wp2_with fail
              refine (HT'.out _ B2.out).mono ?_
              rintro e w2 ⟨rfl, rfl⟩
              go_wp2
              go_ret
              exact ⟨ret_gv (by rw [HE.out]; rfl), B2.out⟩

theorem infoZ : (Tryz.prog.info? 3).map (fun i => (i.zero, i.size, i.bytes)) = some (some (.int .i64 0), 1, 8) := by kernel_rfl
theorem madeZ (n : Nat) : (madeCells #[Value.int .i64 0] n).toList = (List.replicate n (0 : Int)).map (Value.int .i64) := by
  apply List.ext_getElem
  · simp [madeCells]
  · intro i h1 h2
    simp [madeCells, Nat.mod_one]
/-- the first k places are written, the rest is 0 yet -/
def begL (l : List Int) (k n : Nat) : List Int := l.take k ++ List.replicate (n - k) 0
theorem begL_0 (l : List Int) (n : Nat) : begL l 0 n = List.replicate n 0 := by simp [begL]
theorem begL_all {l : List Int} {n : Nat} (h : l.length = n) : begL l n n = l := by subst h; simp [begL]
theorem begL_length {l : List Int} {k n : Nat} (h : l.length = n) (hk : k ≤ n) : (begL l k n).length = n := by simp [begL]; omega
theorem begL_set {l : List Int} {k n : Nat} (h : l.length = n) (hk : k < n) : (begL l k n).set k (l.getD k 0) = begL l (k + 1) n := by
  have e : (l.take k).length = k := by simp; omega
  unfold begL
  rw [List.set_append_right _ _ (by omega), e, Nat.sub_self, take_snoc l k (by omega) 0, show n - k = (n - (k + 1)) + 1 by omega, List.replicate_succ, List.set_cons_zero, List.append_assoc]
  rfl

set_option maxHeartbeats 2000000 in
theorem gnegated_any {Q : Nat → Prop} (l : List Int) (v : Value) (w : World) (h : IntsAt Q w v l) (n1 : 0 < l.length) (n6 : l.length ≤ 6) (hb : ∀ x ∈ l, -100000 ≤ x ∧ x ≤ 100000) :
    Calls Tryz.prog 147 #[v] w fun e w' => ∃ y, e = .returned y ∧ IntsAt (fun b => w.heap.size ≤ b) w' y (l.map (fun x => -x)) ∧ Below w.heap.size w w' := by
  obtain ⟨a, cap, rfl, ⟨hm, hm2⟩, h'⟩ := id h
  have HC : Hid (∀ i, i < l.length → ∃ b off, a = some ⟨b, off, none⟩ ∧ ∀ u, Below w.heap.size w u → u.cell? ⟨b, off + i, none⟩ = some (.int .i64 (l.getD i 0))) := ints_cells h
  have HB : Hid (∀ k, k < l.length → -100000 ≤ l.getD k 0 ∧ l.getD k 0 ≤ 100000) := fun k hk => hb _ (getD_mem l k hk 0)
  have HNl : Hid ((l.map (fun x => -x)).length = l.length) := List.length_map _
  have HNa : Hid (∀ k, k < l.length → (l.map (fun x => -x)).getD k 0 = -l.getD k 0) := fun k hk => by simp [List.getD, List.getElem?_eq_getElem hk]
  obtain ⟨k0, hKI, hx0, hx1, hx2⟩ := info_parts infoZ
  clear h h' hb
  generalize l.map (fun x => -x) = nl at *
  go_enter Tryz.func147, Tryz.ntmps147
  go_wp2_with (at_make; go_must (refine wpList_make_full _ rfl _ _ 22 rfl w.heap.size 3 k0 (.int .i64 0) 1 Tryz.underlying22 hKI hx0 hx1 .i64 .i64 _ _ l.length rfl rfl rfl rfl ?b2 ?b3 ?b4 ?_))
  case b2 => rw [hx2]; omega
  case b3 => unfold maxLen; omega
  case b4 => simp
  intro w2 hown hgrow
  have hown' : w2.ownsRow w.heap.size 3 1 (.slice (some ⟨w.heap.size, 0, none⟩) l.length l.length) l.length (madeCells #[.int .i64 0] l.length).toList := by simpa using hown
  rw [madeZ] at hown'
  have R2 : Hid (RowAt w2 w.heap.size 3 ((begL nl 0 l.length).map (Value.int .i64))) := by rw [begL_0]; exact RowAt.of_owns hown'
  have B2 : Hid (Below w.heap.size w w2) := (Below.refl _ _).grown hgrow (Nat.le_refl _) (by intro k hk; cases hk)
  obtain ⟨g, hg⟩ : ∃ g, g = w.heap.size := ⟨_, rfl⟩
  have HG : Hid (w.heap.size ≤ g) := Nat.le_of_eq hg.symm
  rw [← hg] at R2 ⊢
  clear hown hgrow hown' hg
  go_wp2
  go_loopw [4, 5, 11] (fun _ _ i wr => ∃ k : Nat, k ≤ l.length ∧ i = .int .i64 k ∧ Hid (RowAt wr g 3 ((begL nl k l.length).map (Value.int .i64))) ∧ Hid (Below w.heap.size w wr)) (fun _ _ i _ => l.length - (intOf i).toNat)
  case atStart => exact ⟨0, by omega, rfl, R2, B2⟩
  case round =>
    obtain ⟨k, hk, rfl, hro, hbl⟩ := hrel
    by_cases hlt : k < l.length
    · obtain ⟨b, off, rfl, hc⟩ := HC.out k hlt
      have c0 := hc _ hbl.out
      obtain ⟨b1, b2⟩ := HB.out k hlt
      have f0 := hro.out.frozen k
      have c1 := hro.out.cell (i := k) (v := .int .i64 ((begL nl k l.length).getD k 0)) (by have := intsCell (l := begL nl k l.length) (sp := []) (i := k) (by rw [begL_length HNl.out hk]; exact hlt); rwa [List.append_nil] at this)
      have z0 := hro.out.lt
      have hw1 : IntKind.i64.wrap (-l.getD k 0) = -l.getD k 0 := by rw [IntKind.wrap_i64]; omega
      have HN : Hid (RowAt (wr.setCell ⟨g, k, none⟩ (.int .i64 (-l.getD k 0))) g 3 ((begL nl (k + 1) l.length).map (Value.int .i64))) := by
        have := hro.out.set k (.int .i64 (-l.getD k 0))
        rw [← List.map_set, ← HNa.out k hlt, begL_set HNl.out hlt] at this
        rw [← HNa.out k hlt]
        exact this
      have HBn : Hid (Below w.heap.size w (wr.setCell ⟨g, k, none⟩ (.int .i64 (-l.getD k 0)))) := hbl.out.setCell HG.out _
      clear hc
      generalize (begL nl k l.length).getD k 0 = y0 at *
      generalize l.getD k 0 = y at *
      go_wp2
      go_roundw
      case rel => exact ⟨k + 1, by omega, by go_num, HN, HBn⟩
      case measure => simp [intOf]; omega
    · obtain rfl : k = l.length := by omega
      have HE : Hid (IntsAt (fun b => w.heap.size ≤ b) wr (.slice (some ⟨g, 0, none⟩) l.length l.length) nl) := by
        have hr := hro.out
        rw [begL_all HNl.out] at hr
        have := intsRow (Q := fun b => w.heap.size ≤ b) (c := l.length) (sp := []) (l := nl) (by rw [List.append_nil]; exact hr) (by rw [HNl.out]; exact Nat.le_refl _) (by rw [HNl.out]; omega) HG.out
        rw [HNl.out] at this
        exact this
      go_wp2
      go_ret
      exact ⟨_, rfl, HE.out, hbl.out⟩
end Ev
end Go.Proofs.YtpnmmmlckdkcdakGreatDoor

/- Package give's order of places by their rests; the library's insertion sort over few of them. -/
namespace Go.Proofs.YtpnmmmlckdkcdakGreatDoor
namespace Ev
open Go.RowKit Fr Ns Ld Fl
set_option linter.unusedSimpArgs false
set_option linter.unusedVariables false

/-- the number that the places are sorted by -/
def keyZ (rs : List Int) (x : Int) : Int := -rs.getD x.toNat 0
theorem cmp_key (rs : List Int) (x y : Nat) : cmpI (rs.getD y 0) (rs.getD x 0) < 0 ↔ keyZ rs x < keyZ rs y := by
  unfold keyZ
  rw [Int.toNat_natCast, Int.toNat_natCast]
  unfold cmpI
  split
  · omega
  · split <;> omega

set_option maxHeartbeats 1000000 in
theorem gorder_any {Q : Nat → Prop} (rs : List Int) (v : Value) (g : Nat) (x y : Nat) (w : World) (h : IntsAt Q w v rs) (hx : x < rs.length) (hy : y < rs.length) (hg : w.cell? ⟨g, 0, none⟩ = some v) :
    Calls Tryz.prog 183 #[.int .i64 x, .int .i64 y, .pointer (some ⟨g, 0, none⟩)] w fun e w' => e = .returned (.int .i64 (cmpI (rs.getD y 0) (rs.getD x 0))) ∧ Below w.heap.size w w' := by
  obtain ⟨a, cap, rfl, ⟨hm, hm2⟩, h'⟩ := id h
  obtain ⟨b, off, rfl, hc⟩ := ints_cells h x hx
  obtain ⟨b', off', hbe, hc'⟩ := ints_cells h y hy
  simp only [Option.some.injEq, Addr.mk.injEq, and_true] at hbe
  obtain ⟨rfl, rfl⟩ := hbe
  have c0 := hc _ (Below.refl _ _)
  have c1 := hc' _ (Below.refl _ _)
  have z1 : (x : Int) < (rs.length : Int) := by omega
  have z2 : (y : Int) < (rs.length : Int) := by omega
  clear h h' hc hc'
  generalize rs.getD x 0 = rx at *
  generalize rs.getD y 0 = ry at *
  have HC : Hid (∀ u : World, Calls Tryz.prog 74 #[.int .i64 ry, .int .i64 rx] u fun e w' => e = .returned (.int .i64 (cmpI ry rx)) ∧ w' = u) := fun u => cmp_any ry rx u
  generalize cmpI ry rx = k at *
  go_enter Tryz.func183, Tryz.ntmps183
  go_wp2_with fail
  go_quiet (exact Calls.quiet_of_same (HC.out _))
  go_wp2
  go_ret
  exact ⟨rfl, below_drewN (Below.refl _ _) _⟩

set_option maxRecDepth 100000 in
set_option maxHeartbeats 4000000 in
theorem ginsertion_any (rs l : List Int) (c g cap B : Nat) (sp : List Value) (w : World) (hl : ∀ x ∈ l, 0 ≤ x)
    (hO : ∀ x y : Nat, (x : Int) ∈ l → (y : Int) ∈ l → ∀ u, Below B w u → Calls Tryz.prog 183 #[.int .i64 x, .int .i64 y, .pointer (some ⟨c, 0, none⟩)] u fun e w' => e = .returned (.int .i64 (cmpI (rs.getD y 0) (rs.getD x 0))) ∧ Below u.heap.size u w')
    (h6 : l.length ≤ 6) (h1 : 1 ≤ l.length) (hB : B ≤ g) (hr : RowAt w g 3 (l.map (Value.int .i64) ++ sp)) :
    Calls Tryz.prog 196 #[.slice (some ⟨g, 0, none⟩) l.length cap, .int .i64 0, .int .i64 l.length, .func (.func 183) #[] #[.pointer (some ⟨c, 0, none⟩)]] w fun e w' => e = .returned (.tuple #[]) ∧ RowAt w' g 3 ((sortS (keyZ rs) l).map (Value.int .i64) ++ sp) ∧ Below B w w' := by
  have HO : Hid (∀ i k, i < l.length → k < i → ∃ od : Int, (od < 0 ↔ keyZ rs (l.getD i 0) < keyZ rs ((sortS (keyZ rs) (l.take i)).getD k 0)) ∧ ∀ u : World, Below B w u → Calls Tryz.prog 183 #[.int .i64 (l.getD i 0), .int .i64 ((sortS (keyZ rs) (l.take i)).getD k 0), .pointer (some ⟨c, 0, none⟩)] u fun e w' => e = .returned (.int .i64 od) ∧ Below u.heap.size u w') := fun i k hi hk => by
    have m1 := getD_mem l i hi 0
    have m2 : (sortS (keyZ rs) (l.take i)).getD k 0 ∈ l := List.mem_of_mem_take ((sortS_perm _ _).mem_iff.1 (getD_mem (sortS (keyZ rs) (l.take i)) k (by rw [sortSTake_length (by omega)]; exact hk) 0))
    obtain ⟨x, hx⟩ : ∃ x : Nat, l.getD i 0 = x := ⟨(l.getD i 0).toNat, by have := hl _ m1; omega⟩
    obtain ⟨y, hy⟩ : ∃ y : Nat, (sortS (keyZ rs) (l.take i)).getD k 0 = y := ⟨((sortS (keyZ rs) (l.take i)).getD k 0).toNat, by have := hl _ m2; omega⟩
    rw [hx] at m1 ⊢
    rw [hy] at m2 ⊢
    exact ⟨_, cmp_key rs x y, fun u hu => hO x y m1 m2 u hu⟩
  have H1 : Hid (stS (keyZ rs) l 1 = l) := stS_1 _ l
  have HA : Hid (stS (keyZ rs) l l.length = sortS (keyZ rs) l) := stS_all _ l _ (Nat.le_refl _)
  have HCs : Hid (∀ i, i < l.length → curS (keyZ rs) l i i = stS (keyZ rs) l i) := fun i hi => curS_start hi
  have HCl : Hid (∀ i j, i < l.length → j ≤ i → (curS (keyZ rs) l i j).length = l.length) := fun i j hi hj => curS_length hi hj
  have HCa : Hid (∀ i j, i < l.length → j ≤ i → (curS (keyZ rs) l i j).getD j 0 = l.getD i 0) := fun i j hi hj => curS_at hi hj
  have HCb : Hid (∀ i j, i < l.length → j < i → (curS (keyZ rs) l i (j + 1)).getD j 0 = (sortS (keyZ rs) (l.take i)).getD j 0) := fun i j hi hj => curS_ahead hi hj
  have HCw : Hid (∀ i j, i < l.length → j < i → ((curS (keyZ rs) l i (j + 1)).set (j + 1) ((sortS (keyZ rs) (l.take i)).getD j 0)).set j (l.getD i 0) = curS (keyZ rs) l i j) := fun i j hi hj => curS_swap hi hj
  have HCe : Hid (∀ i j, i < l.length → j ≤ i → (∀ k, j ≤ k → k < i → keyZ rs (l.getD i 0) < keyZ rs ((sortS (keyZ rs) (l.take i)).getD k 0)) → (j = 0 ∨ ¬ keyZ rs (l.getD i 0) < keyZ rs ((sortS (keyZ rs) (l.take i)).getD (j - 1) 0)) → curS (keyZ rs) l i j = stS (keyZ rs) l (i + 1)) := fun i j hi hj a b => curS_end hi hj a b
  have HR0 : Hid (RowAt w g 3 ((stS (keyZ rs) l 1).map (Value.int .i64) ++ sp)) := by rw [H1.out]; exact hr
  obtain ⟨S, hS⟩ : ∃ S : Nat → List Int, ∀ i, sortS (keyZ rs) (l.take i) = S i := ⟨_, fun _ => rfl⟩
  simp only [hS] at HO HCb HCw HCe
  generalize sortS (keyZ rs) l = sl at *
  generalize curS (keyZ rs) l = cur at *
  generalize stS (keyZ rs) l = st at *
  generalize keyZ rs = κ at *
  have hg0 : g < w.heap.size := hr.lt
  clear hS hr H1 hl hO
  go_enter Tryz.func196, Tryz.ntmps196
  go_wp2
  go_loopw [8, 9] (fun s8 _ wr => ∃ i : Nat, 1 ≤ i ∧ i ≤ l.length ∧ s8 = .int .i64 i ∧ Hid (RowAt wr g 3 ((st i).map (Value.int .i64) ++ sp)) ∧ Hid (Below B w wr)) (fun s8 _ _ => l.length - (intOf s8).toNat)
  case atStart => exact ⟨1, by omega, by omega, by go_num, HR0, Below.refl _ _⟩
  case round =>
    obtain ⟨i, hi1, hi, rfl, hro, hbo⟩ := hrel
    by_cases hlt : i < l.length
    · go_wp2
      go_loopw [9] (fun s9 wq => ∃ j : Nat, j ≤ i ∧ s9 = .int .i64 j ∧ Hid (∀ k, j ≤ k → k < i → κ (l.getD i 0) < κ ((S i).getD k 0)) ∧ Hid (RowAt wq g 3 ((cur i j).map (Value.int .i64) ++ sp)) ∧ Hid (Below B w wq)) (fun s9 _ => (intOf s9).toNat)
      case atStart => exact ⟨i, Nat.le_refl _, rfl, fun k h1 h2 => by omega, by rw [HCs.out i hlt]; exact hro, hbo⟩
      case round =>
        obtain ⟨j, hj, rfl, hgt, hrj, hbj⟩ := hrel
        cases j with
        | zero =>
          have HN : Hid (RowAt wr g 3 ((st (i + 1)).map (Value.int .i64) ++ sp)) := by rw [← HCe.out i 0 hlt hj hgt.out (.inl rfl)]; exact hrj
          go_wp2_with fail
          go_quiet (fail)
          have HN2 : Hid (RowAt (wr.drewN nq) g 3 ((st (i + 1)).map (Value.int .i64) ++ sp)) := HN.out
          have HB2 : Hid (Below B w (wr.drewN nq)) := below_drewN hbj.out _
          generalize wr.drewN nq = wz at *
          go_wp2
          go_roundw
          case rel => exact ⟨i + 1, by omega, by omega, by go_num, HN2, HB2⟩
          case measure => simp [intOf]; omega
        | succ jp =>
          have hji : jp < i := by omega
          have hlen := HCl.out i (jp + 1) hlt hj
          have f1 := intsCell (l := cur i (jp + 1)) (sp := sp) (i := jp + 1) (by omega)
          have f3 := intsCell (l := cur i (jp + 1)) (sp := sp) (i := jp) (by omega)
          rw [HCa.out i (jp + 1) hlt hj] at f1
          rw [HCb.out i jp hlt hji] at f3
          obtain ⟨od, hod, hO⟩ := HO.out i jp hlt hji
          have hW := HCw.out i jp hlt hji
          have hE := HCe.out i (jp + 1) hlt hj hgt.out
          rw [Nat.add_sub_cancel] at hE
          have hgt' : κ (l.getD i 0) < κ ((S i).getD jp 0) → ∀ k, jp ≤ k → k < i → κ (l.getD i 0) < κ ((S i).getD k 0) := fun h k hk1 hk2 => by
            by_cases e : k = jp
            · rw [e]; exact h
            · exact hgt.out k (by omega) hk2
          have hz : g < wr.heap.size := hrj.out.lt
          have jz : (jp : Int) + 1 < (l.length : Int) := by omega
          have jz1 : (jp : Int) < (l.length : Int) := by omega
          have hwp : IntKind.i64.wrap (jp : Int) = (jp : Int) := by rw [IntKind.wrap_i64]; omega
          have p0 : (0 : Int) ≤ (jp : Int) + 1 := by omega
          have e0 : ((jp : Int) + 1).toNat = jp + 1 := by omega
          have p1 : (0 : Int) < (jp : Int) + 1 := by omega
          have HO' : Hid (∀ u : World, Below B w u → Calls Tryz.prog 183 #[.int .i64 (l.getD i 0), .int .i64 ((S i).getD jp 0), .pointer (some ⟨c, 0, none⟩)] u fun e w' => e = .returned (.int .i64 od) ∧ Below u.heap.size u w') := hO
          clear hO
          by_cases hlt0 : od < 0
          · have HNX : Hid (∀ k, jp ≤ k → k < i → κ (l.getD i 0) < κ ((S i).getD k 0)) := hgt' (hod.1 hlt0)
            clear hgt' hE hod
            have HW : Hid (((cur i (jp + 1)).set (jp + 1) ((S i).getD jp 0)).set jp (l.getD i 0) = cur i jp) := hW
            clear hW
            have HL : Hid (jp + 1 < (cur i (jp + 1)).length ∧ jp < ((cur i (jp + 1)).set (jp + 1) ((S i).getD jp 0)).length) := ⟨by omega, by rw [List.length_set]; omega⟩
            obtain ⟨X, HX⟩ : ∃ X, Hid (l.getD i 0 = X) := ⟨_, rfl⟩
            obtain ⟨Y, HY⟩ : ∃ Y, Hid ((S i).getD jp 0 = Y) := ⟨_, rfl⟩
            rw [HX.out] at HO' f1 HW
            rw [HY.out] at HO' f3 HW HL
            have c1 := hrj.out.cell f1
            have c3 := hrj.out.cell f3
            clear f1 f3 hlen
            go_wp2_with fail
            have P1 : Hid (Below wr.heap.size wr wr.drew) := (Below.refl _ _).drew
            have PB : Hid (Below B w wr.drew) := hbj.out.drew
            have HSA : Hid (∀ u : World, Below wr.heap.size wr u → u.cell? ⟨g, jp + 1, none⟩ = some (.int .i64 X) ∧ u.cell? ⟨g, jp, none⟩ = some (.int .i64 Y)) := fun u hu => ⟨cell_later hu c1, cell_later hu c3⟩
            go_region_held3 (fun u => u.cell? ⟨g, jp + 1, none⟩ = some (.int .i64 X) ∧ u.cell? ⟨g, jp, none⟩ = some (.int .i64 Y))
              ((refine HSA.out _ ?_; first | exact P1.out | exact Hbo.out))
              (first | (go_at_call 183; refine (HO'.out _ PB.out).mono ?_; rintro e wo ⟨rfl, hwo⟩; have Hbo : Hid (Below wr.heap.size wr wo) := Bel.call P1.out (Nat.le_refl _) hwo))
            all_goals
              have HRw : Hid (RowAt wo g 3 ((cur i (jp + 1)).map (Value.int .i64) ++ sp)) := hrj.out.later Hbo.out hz
              have HBo : Hid (Below B w wo) := Bel.call hbj.out (by omega) Hbo.out
              obtain ⟨d1, d3⟩ := HSA.out _ Hbo.out
              have z1 := HRw.out.frozen (jp + 1)
              have z3 := HRw.out.frozen jp
              have hzo : g < wo.heap.size := HRw.out.lt
              clear hwo c1 c3 P1 PB HSA Hbo
              go_wp2_with fail
              go_region
              have HRn : Hid (RowAt (((wo.setCell ⟨g, jp + 1, none⟩ (.int .i64 Y)).setCell ⟨g, jp, none⟩ (.int .i64 X)).drew) g 3 ((cur i jp).map (Value.int .i64) ++ sp)) := by
                show RowAt _ _ _ _
                rw [← HW.out, ← intsSet HL.out.2, ← intsSet HL.out.1]
                exact (HRw.out.set (jp + 1) (.int .i64 Y)).set jp (.int .i64 X)
              have HBn : Hid (Below B w (((wo.setCell ⟨g, jp + 1, none⟩ (.int .i64 Y)).setCell ⟨g, jp, none⟩ (.int .i64 X)).drew)) := ((HBo.out.setCell hB _).setCell hB _).drew
              clear d1 d3 z1 z3 hzo
              generalize (((wo.setCell ⟨g, jp + 1, none⟩ (.int .i64 Y)).setCell ⟨g, jp, none⟩ (.int .i64 X)).drew) = wz at *
              go_wp2
              go_roundw
              case rel => exact ⟨jp, by omega, by go_num, HNX, HRn, HBn⟩
              case measure => simp [intOf] <;> omega
          · have hn : ¬ κ (l.getD i 0) < κ ((S i).getD jp 0) := fun h => hlt0 (hod.2 h)
            have HN : Hid (cur i (jp + 1) = st (i + 1)) := hE (.inr (by omega))
            clear hn
            clear hgt' hE hod hW
            obtain ⟨X, HX⟩ : ∃ X, Hid (l.getD i 0 = X) := ⟨_, rfl⟩
            obtain ⟨Y, HY⟩ : ∃ Y, Hid ((S i).getD jp 0 = Y) := ⟨_, rfl⟩
            rw [HX.out] at HO' f1
            rw [HY.out] at HO' f3
            have c1 := hrj.out.cell f1
            have c3 := hrj.out.cell f3
            clear f1 f3 hlen
            go_wp2_with fail
            have P1 : Hid (Below wr.heap.size wr wr.drew) := (Below.refl _ _).drew
            have PB : Hid (Below B w wr.drew) := hbj.out.drew
            have HSA : Hid (∀ u : World, Below wr.heap.size wr u → u.cell? ⟨g, jp + 1, none⟩ = some (.int .i64 X) ∧ u.cell? ⟨g, jp, none⟩ = some (.int .i64 Y)) := fun u hu => ⟨cell_later hu c1, cell_later hu c3⟩
            go_region_held3 (fun u => u.cell? ⟨g, jp + 1, none⟩ = some (.int .i64 X) ∧ u.cell? ⟨g, jp, none⟩ = some (.int .i64 Y))
              ((refine HSA.out _ ?_; first | exact P1.out | exact Hbo.out))
              (first | (go_at_call 183; refine (HO'.out _ PB.out).mono ?_; rintro e wo ⟨rfl, hwo⟩; have Hbo : Hid (Below wr.heap.size wr wo) := Bel.call P1.out (Nat.le_refl _) hwo))
            all_goals
              have HRw : Hid (RowAt wo g 3 ((st (i + 1)).map (Value.int .i64) ++ sp)) := by rw [← HN.out]; exact hrj.out.later Hbo.out hz
              have HBo : Hid (Below B w wo) := Bel.call hbj.out (by omega) Hbo.out
              clear hwo c1 c3 P1 PB HSA Hbo
              go_wp2
              go_roundw
              case rel => exact ⟨i + 1, by omega, by omega, by go_num, HRw, HBo⟩
              case measure => simp [intOf]; omega
    · obtain rfl : i = l.length := by omega
      have HN : Hid (RowAt wr g 3 (sl.map (Value.int .i64) ++ sp)) := by rw [← HA.out]; exact hro
      go_wp2
      go_end0
      exact ⟨rfl, HN.out, hbo.out⟩
end Ev
end Go.Proofs.YtpnmmmlckdkcdakGreatDoor

/- Package give's places, the greatest rest first. -/
namespace Go.Proofs.YtpnmmmlckdkcdakGreatDoor
namespace Ev
open Go.RowKit Fr Ns Ld Fl
set_option linter.unusedSimpArgs false
set_option linter.unusedVariables false

set_option maxRecDepth 100000 in
set_option maxHeartbeats 2000000 in
theorem gstable_any (rs l : List Int) (c g cap B : Nat) (sp : List Value) (w : World) (hl : ∀ x ∈ l, 0 ≤ x)
    (hO : ∀ x y : Nat, (x : Int) ∈ l → (y : Int) ∈ l → ∀ u, Below B w u → Calls Tryz.prog 183 #[.int .i64 x, .int .i64 y, .pointer (some ⟨c, 0, none⟩)] u fun e w' => e = .returned (.int .i64 (cmpI (rs.getD y 0) (rs.getD x 0))) ∧ Below u.heap.size u w')
    (h6 : l.length ≤ 6) (h1 : 1 ≤ l.length) (hB : B ≤ g) (hr : RowAt w g 3 (l.map (Value.int .i64) ++ sp)) :
    Calls Tryz.prog 190 #[.slice (some ⟨g, 0, none⟩) l.length cap, .int .i64 l.length, .func (.func 183) #[] #[.pointer (some ⟨c, 0, none⟩)]] w fun e w' => e = .returned (.tuple #[]) ∧ RowAt w' g 3 ((sortS (keyZ rs) l).map (Value.int .i64) ++ sp) ∧ Below B w w' := by
  have HI : Hid (Calls Tryz.prog 196 #[.slice (some ⟨g, 0, none⟩) l.length cap, .int .i64 0, .int .i64 l.length, .func (.func 183) #[] #[.pointer (some ⟨c, 0, none⟩)]] w fun e w' => e = .returned (.tuple #[]) ∧ RowAt w' g 3 ((sortS (keyZ rs) l).map (Value.int .i64) ++ sp) ∧ Below B w w') := ginsertion_any rs l c g cap B sp w hl hO h6 h1 hB hr
  have h20 : ¬ (20 : Int) ≤ (l.length : Int) := by omega
  have h21 : ¬ (20 : Int) < (l.length : Int) := by omega
  generalize sortS (keyZ rs) l = sl at *
  clear hr hl hO
  go_enter Tryz.func190, Tryz.ntmps190
  go_wp2
  go_loopw [7, 8] (fun s7 s8 wr => s7 = .int .i64 0 ∧ s8 = .int .i64 20 ∧ wr = w) (fun _ _ _ => 0)
  case atStart => exact ⟨rfl, rfl, rfl⟩
  case round =>
    obtain ⟨rfl, rfl, rfl⟩ := hrel
    go_wp2_with fail
    refine HI.out.mono ?_
    rintro e w1 ⟨rfl, hs, hb⟩
    have HS : Hid (RowAt w1 g 3 (sl.map (Value.int .i64) ++ sp) ∧ Below B wr w1) := ⟨hs, hb⟩
    clear hs hb
    go_wp2
    go_loopw [6, 7, 8, 9] (fun s6 _ _ _ wz => s6 = .int .i64 20 ∧ wz = w1) (fun _ _ _ _ _ => 0)
    case atStart => exact ⟨rfl, rfl⟩
    case round =>
      obtain ⟨rfl, rfl⟩ := hrel
      go_wp2
      go_end0
      exact ⟨rfl, HS.out.1, HS.out.2⟩

set_option maxHeartbeats 1000000 in
theorem gsort_any (rs l : List Int) (c g cap B : Nat) (sp : List Value) (w : World) (hl : ∀ x ∈ l, 0 ≤ x)
    (hO : ∀ x y : Nat, (x : Int) ∈ l → (y : Int) ∈ l → ∀ u, Below B w u → Calls Tryz.prog 183 #[.int .i64 x, .int .i64 y, .pointer (some ⟨c, 0, none⟩)] u fun e w' => e = .returned (.int .i64 (cmpI (rs.getD y 0) (rs.getD x 0))) ∧ Below u.heap.size u w')
    (h6 : l.length ≤ 6) (h1 : 1 ≤ l.length) (hB : B ≤ g) (hr : RowAt w g 3 (l.map (Value.int .i64) ++ sp)) :
    Calls Tryz.prog 182 #[.slice (some ⟨g, 0, none⟩) l.length cap, .func (.func 183) #[] #[.pointer (some ⟨c, 0, none⟩)]] w fun e w' => e = .returned (.tuple #[]) ∧ RowAt w' g 3 ((sortS (keyZ rs) l).map (Value.int .i64) ++ sp) ∧ Below B w w' := by
  have HI : Hid (Calls Tryz.prog 190 #[.slice (some ⟨g, 0, none⟩) l.length cap, .int .i64 l.length, .func (.func 183) #[] #[.pointer (some ⟨c, 0, none⟩)]] w fun e w' => e = .returned (.tuple #[]) ∧ RowAt w' g 3 ((sortS (keyZ rs) l).map (Value.int .i64) ++ sp) ∧ Below B w w') := gstable_any rs l c g cap B sp w hl hO h6 h1 hB hr
  generalize sortS (keyZ rs) l = sl at *
  clear hr hl hO
  go_enter Tryz.func182, Tryz.ntmps182
  go_wp2_with fail
  refine HI.out.mono ?_
  rintro e w1 ⟨rfl, hs, hb⟩
  have HS : Hid (RowAt w1 g 3 (sl.map (Value.int .i64) ++ sp) ∧ Below B w w1) := ⟨hs, hb⟩
  clear hs hb
  go_wp2
  go_end0
  exact ⟨rfl, HS.out.1, HS.out.2⟩

set_option maxRecDepth 100000 in
set_option maxHeartbeats 4000000 in
theorem gfirst_any {Q : Nat → Prop} (rs : List Int) (v : Value) (w : World) (h : IntsAt Q w v rs) (n1 : 0 < rs.length) (n6 : rs.length ≤ 6) :
    Calls Tryz.prog 171 #[v] w fun e w' => ∃ y, e = .returned y ∧ OwnInts w.heap.size w' y (sortS (keyZ rs) (upTo rs.length)) ∧ Below w.heap.size w w' := by
  obtain ⟨n, hn⟩ : ∃ n, n = rs.length := ⟨_, rfl⟩
  have HUl : Hid ((upTo n).length = n) := upTo_length n
  have HUa : Hid (∀ k, k < n → (upTo n).getD k 0 = k) := fun k hk => upTo_at hk
  have HS : Hid (∀ B g W u, B ≤ g → w.heap.size + 1 ≤ B → Below w.heap.size w W → W.cell? ⟨w.heap.size, 0, none⟩ = some v → RowAt u g 3 ((upTo n).map (Value.int .i64) ++ []) → W.heap.size = w.heap.size + 1 → Below B W u → Calls Tryz.prog 182 #[.slice (some ⟨g, 0, none⟩) n n, .func (.func 183) #[] #[.pointer (some ⟨w.heap.size, 0, none⟩)]] u fun e w' => e = .returned (.tuple #[]) ∧ RowAt w' g 3 ((sortS (keyZ rs) (upTo n)).map (Value.int .i64) ++ []) ∧ Below B u w') := fun B g W u hg hB hW hv hr hz hu => by
    have := gsort_any rs (upTo n) w.heap.size g n B [] u (fun x hx => (upTo_mem hx).1) (fun x y hx hy u' hu' => ?_) (by rw [HUl.out]; omega) (by rw [HUl.out]; omega) hg hr
    · rw [HUl.out] at this; exact this
    · have hx' := (upTo_mem hx).2
      have hy' := (upTo_mem hy).2
      have hb : Below (w.heap.size + 1) W u' := (hu.trans hu').mono hB
      refine gorder_any rs v w.heap.size x y u' (h.later (hW.trans (hb.mono (by omega)))) (by omega) (by omega) ?_
      exact cell_later (by rw [hz]; exact hb) hv
  have HSl : Hid ((sortS (keyZ rs) (upTo n)).length = n) := by show _ = _; rw [sortS_length, HUl.out]
  obtain ⟨k0, hKI, hx0, hx1, hx2⟩ := info_parts infoZ
  obtain ⟨a, cap, rfl, ⟨hm, hm2⟩, h'⟩ := id h
  rw [← hn] at hm hm2 n1 n6 HS ⊢
  clear h h'
  have HV : Hid (Below w.heap.size w (w.alloc (.cells #[.slice a n cap] 22)) ∧ (w.alloc (.cells #[.slice a n cap] 22)).cell? ⟨w.heap.size, 0, none⟩ = some (.slice a n cap) ∧ (w.alloc (.cells #[.slice a n cap] 22)).heap.size = w.heap.size + 1) := ⟨(Below.refl _ _).alloc (Nat.le_refl _) _, by simp, by simp⟩
  have Hn : Hid (n = rs.length) := hn
  clear hn
  generalize sortS (keyZ rs) (upTo n) = sl at *
  generalize upTo n = up at *
  go_enter Tryz.func171, Tryz.ntmps171
  go_wp2_with (at_make; go_must (refine wpList_make_full _ rfl _ _ 22 rfl (w.heap.size + 1) 3 k0 (.int .i64 0) 1 Tryz.underlying22 hKI hx0 hx1 .i64 .i64 _ _ n rfl rfl rfl rfl ?b2 ?b3 ?b4 ?_))
  case b2 => rw [hx2]; omega
  case b3 => unfold maxLen; omega
  case b4 => simp
  intro w2 hown hgrow
  obtain ⟨W, hW⟩ : ∃ W, W = w.alloc (.cells #[.slice a n cap] 22) := ⟨_, rfl⟩
  rw [← hW] at HV hgrow
  obtain ⟨v1, v2, v3⟩ := HV.out
  have hown' : w2.ownsRow (w.heap.size + 1) 3 1 (.slice (some ⟨w.heap.size + 1, 0, none⟩) n n) n (madeCells #[.int .i64 0] n).toList := by simpa using hown
  rw [madeZ] at hown'
  have R2 : Hid (RowAt w2 (w.heap.size + 1) 3 ((begL up 0 n).map (Value.int .i64))) := by rw [begL_0]; exact RowAt.of_owns hown'
  have B2 : Hid (Below (w.heap.size + 1) W w2) := (Below.refl _ _).grown hgrow (by omega) (by intro k hk; cases hk)
  have c0 : w2.cell? ⟨w.heap.size, 0, none⟩ = some (.slice a n cap) := cell_later (by rw [v3]; exact B2.out) v2
  clear hown hgrow hown' hW v1 v2 v3
  go_wp2
  go_loopw [4, 10] (fun _ i wr => ∃ k : Nat, k ≤ n ∧ i = .int .i64 k ∧ Hid (RowAt wr (w.heap.size + 1) 3 ((begL up k n).map (Value.int .i64))) ∧ Hid (Below (w.heap.size + 1) W wr)) (fun _ i _ => n - (intOf i).toNat)
  case atStart => exact ⟨0, by omega, rfl, R2, B2⟩
  case round =>
    obtain ⟨k, hk, rfl, hro, hbl⟩ := hrel
    by_cases hlt : k < n
    · have f0 := hro.out.frozen k
      have c1 := hro.out.cell (i := k) (v := .int .i64 ((begL up k n).getD k 0)) (by have := intsCell (l := begL up k n) (sp := []) (i := k) (by rw [begL_length HUl.out hk]; exact hlt); rwa [List.append_nil] at this)
      have z0 := hro.out.lt
      have HN : Hid (RowAt (wr.setCell ⟨w.heap.size + 1, k, none⟩ (.int .i64 k)) (w.heap.size + 1) 3 ((begL up (k + 1) n).map (Value.int .i64))) := by
        have := hro.out.set k (.int .i64 (k : Int))
        rw [← List.map_set, ← HUa.out k hlt, begL_set HUl.out hlt] at this
        rw [← HUa.out k hlt]
        exact this
      have HBn : Hid (Below (w.heap.size + 1) W (wr.setCell ⟨w.heap.size + 1, k, none⟩ (.int .i64 k))) := hbl.out.setCell (Nat.le_refl _) _
      generalize (begL up k n).getD k 0 = y0 at *
      go_wp2
      go_roundw
      case rel => exact ⟨k + 1, by omega, by go_num, HN, HBn⟩
      case measure => simp [intOf]; omega
    · obtain rfl : k = n := by omega
      have hr := hro.out
      rw [begL_all HUl.out] at hr
      have HS1 : Hid (Calls Tryz.prog 182 #[.slice (some ⟨w.heap.size + 1, 0, none⟩) k k, .func (.func 183) #[] #[.pointer (some ⟨w.heap.size, 0, none⟩)]] wr fun e w' => e = .returned (.tuple #[]) ∧ RowAt w' (w.heap.size + 1) 3 (sl.map (Value.int .i64) ++ []) ∧ Below (w.heap.size + 1) wr w') :=
        HS.out (w.heap.size + 1) (w.heap.size + 1) W wr (Nat.le_refl _) (Nat.le_refl _) HV.out.1 HV.out.2.1 (by rw [List.append_nil]; exact hr) HV.out.2.2 hbl.out
      clear hr
      go_wp2_with fail
      refine HS1.out.mono ?_
      rintro e w3 ⟨rfl, hr3, hb3⟩
      have HE : Hid (OwnInts w.heap.size w3 (.slice (some ⟨w.heap.size + 1, 0, none⟩) k k) sl) := ⟨w.heap.size + 1, k, [], by rw [HSl.out], by rw [HSl.out]; exact Nat.le_refl _, by omega, hr3⟩
      have HB3 : Hid (Below w.heap.size w w3) := HV.out.1.trans ((hbl.out.trans hb3).mono (by omega))
      clear hr3 hb3
      go_wp2
      go_ret
      exact ⟨_, rfl, HE.out, HB3.out⟩
end Ev
end Go.Proofs.YtpnmmmlckdkcdakGreatDoor

/- Package give's split: parts of what was checked, and of many that is not below 0. -/
namespace Go.Proofs.YtpnmmmlckdkcdakGreatDoor
namespace Ev
open Go.RowKit Fr Ns Ld Fl
set_option linter.unusedSimpArgs false
set_option linter.unusedVariables false

theorem infoZm (n : Nat) (hn : n ≤ 6) : ∃ RC : Array Value, Hid (RC.toList = (List.replicate n (0 : Int)).map (Value.int .i64)) ∧ ∀ u : World, (Instr.makeSlice 22 (.int .i64 (n : Int)) (.int .i64 (n : Int))).run Tryz.prog u = .ok (.slice (some ⟨u.heap.size, 0, none⟩) n n) (u.alloc (.cells RC 3)) := by
  obtain ⟨k0, hKI, hx0, hx1, hx2⟩ := info_parts infoZ
  refine ⟨madeCells #[.int .i64 0] n, madeZ n, fun u => ?_⟩
  have hr := run_make (P := Tryz.prog) u 22 3 k0 (.int .i64 0) Tryz.underlying22 hKI hx0 .i64 .i64 n n (by omega) (Int.le_refl _) (by rw [hx2]; omega) (by omega)
  simp only [Int.toNat_natCast, hx1, Nat.mul_one] at hr
  exact hr
theorem row_zero {w : World} {g n : Nat} {RC : Array Value} (hg : g = w.heap.size) (h : RC.toList = (List.replicate n (0 : Int)).map (Value.int .i64)) : RowAt (w.alloc (.cells RC 3)) g 3 ((List.replicate n (0 : Int)).map (Value.int .i64)) := row_made w RC _ g _ hg h
theorem _root_.Go.Proofs.YtpnmmmlckdkcdakGreatDoor.Fl.RowAt.quiet {w : World} {g : Nat} {T : TypeId} {xs : List Value} (h : RowAt w g T xs) : RowAt w.drew g T xs := h
theorem beg_cell {l : List Int} {k n i : Nat} (h : l.length = n) (hk : k ≤ n) (hi : i < n) : ((begL l k n).map (Value.int .i64))[i]? = some (.int .i64 ((begL l k n).getD i 0)) := by
  have := intsCell (l := begL l k n) (sp := []) (i := i) (by rw [begL_length h hk]; exact hi)
  rwa [List.append_nil] at this
theorem own_cell {l : List Int} {i n : Nat} (h : l.length = n) (hi : i < n) : (l.map (Value.int .i64))[i]? = some (.int .i64 (l.getD i 0)) := by
  have := intsCell (l := l) (sp := []) (i := i) (by omega)
  rwa [List.append_nil] at this

set_option maxRecDepth 100000 in
set_option maxHeartbeats 8000000 in
theorem gsplit_row {Q : Nat → Prop} (many : Int) (l : List Int) (v : Value) (w : World) (h : IntsAt Q w v l) (hE : idxE l = 0) (m0 : 0 ≤ many) (m1 : many ≤ 10000) :
    Calls Tryz.prog 148 #[.int .i64 many, v] w fun e w' => ∃ y, e = .returned y ∧ IntsAt (fun b => w.heap.size ≤ b) w' y (splitL many l) ∧ Below w.heap.size w w' := by
  obtain ⟨t1, n1, n6, hb⟩ := idx_tot hE
  have t2 : tot l ≤ 6000 := (idx_parts hE).2.1
  have HT : Hid (∀ u, Below w.heap.size w u → Calls Tryz.prog 170 #[v] u fun e w' => e = .returned (.int .i64 (tot l)) ∧ w' = u) := fun u hu => gtogether_any l v u (h.later hu) n6 (fun x hx => by have := hb x hx; omega)
  have Hx : Hid (∀ i, i < l.length → ∃ P, many * l.getD i 0 = P ∧ 0 ≤ P ∧ P ≤ 10000000 ∧ (l.map (baseG many (tot l))).getD i 0 = P / tot l ∧ (l.map (restG many (tot l))).getD i 0 = P % tot l ∧ 0 ≤ P / tot l ∧ P / tot l ≤ 10000) := fun i hi => by
    have hx := hb _ (getD_mem l i hi 0)
    obtain ⟨b0, b1⟩ := part_bd hE m0 hi
    have p1 : many * l.getD i 0 ≤ 10000 * 1000 := Int.mul_le_mul m1 hx.2 hx.1 (by decide)
    have e1 : (l.map (baseG many (tot l))).getD i 0 = baseG many (tot l) (l.getD i 0) := by simp [List.getD, List.getElem?_eq_getElem hi]
    have e2 : (l.map (restG many (tot l))).getD i 0 = restG many (tot l) (l.getD i 0) := by simp [List.getD, List.getElem?_eq_getElem hi]
    refine ⟨_, rfl, Int.mul_nonneg m0 hx.1, by omega, e1, e2, b0, ?_⟩
    exact Int.le_trans b1 m1
  have HBl : Hid ((l.map (baseG many (tot l))).length = l.length) := List.length_map _
  have HRl : Hid ((l.map (restG many (tot l))).length = l.length) := List.length_map _
  have HBb : Hid (∀ x ∈ l.map (baseG many (tot l)), 0 ≤ x ∧ x ≤ 10000) := fun x hx => by
    obtain ⟨i, hi, rfl⟩ := List.mem_iff_getElem.1 hx
    rw [HBl.out] at hi
    obtain ⟨P, _, _, _, e, _, p1, p2⟩ := Hx.out i hi
    rw [List.getD_eq_getElem?_getD, List.getElem?_eq_getElem (by rw [HBl.out]; exact hi)] at e
    have e' : (l.map (baseG many (tot l)))[i]'(by rw [HBl.out]; exact hi) = P / tot l := e
    rw [e']
    exact ⟨p1, p2⟩
  have HLe : Hid (many - tot (l.map (baseG many (tot l))) = leftG many l) := rfl
  have HLb : Hid (0 ≤ leftG many l ∧ leftG many l ≤ l.length) := by
    have := left_bd (many := many) (w := l) t1
    have h2 : l.countP (fun x => decide (0 < restG many (tot l) x)) ≤ l.length := List.countP_le_length
    exact ⟨this.1, by omega⟩
  have HTb : Hid (0 ≤ tot (l.map (baseG many (tot l))) ∧ tot (l.map (baseG many (tot l))) ≤ 60000) := by
    have := tot_bd HBb.out
    rw [HBl.out] at this
    exact ⟨this.1, by omega⟩
  have HP : Hid (∀ k, k < l.length → ∃ b : Nat, (sortS (keyZ (l.map (restG many (tot l)))) (upTo l.length)).getD k 0 = b ∧ b < l.length ∧ (outK (keyG many l) (fun i => baseG many (tot l) (l.getD i 0)) l.length k).getD b 0 = (l.map (baseG many (tot l))).getD b 0 ∧ outK (keyG many l) (fun i => baseG many (tot l) (l.getD i 0)) l.length (k + 1) = (outK (keyG many l) (fun i => baseG many (tot l) (l.getD i 0)) l.length k).set b ((l.map (baseG many (tot l))).getD b 0 + 1)) := fun k hk => by
    obtain ⟨b, e1, e2, e3⟩ := sortS_rank (κ := keyZ (l.map (restG many (tot l)))) (key := keyG many l) (fun i hi => by
      unfold keyZ keyG
      rw [Int.toNat_natCast]
      simp [List.getD, List.getElem?_eq_getElem hi]) hk
    obtain ⟨s1, s2⟩ := step_rank (base := fun i => baseG many (tot l) (l.getD i 0)) e2 e3
    have e4 : (l.map (baseG many (tot l))).getD b 0 = baseG many (tot l) (l.getD b 0) := by simp [List.getD, List.getElem?_eq_getElem e2]
    exact ⟨b, e1, e2, by rw [e4]; exact s1, by rw [e4]; exact s2⟩
  have HO0 : Hid (outK (keyG many l) (fun i => baseG many (tot l) (l.getD i 0)) l.length 0 = l.map (baseG many (tot l))) := by show _ = _; rw [outK_0, range_map]
  have HOl : Hid (∀ k, (outK (keyG many l) (fun i => baseG many (tot l) (l.getD i 0)) l.length k).length = l.length) := fun k => outK_length _ _ _ _
  have HOE : Hid (splitL many l = outK (keyG many l) (fun i => baseG many (tot l) (l.getD i 0)) l.length (leftG many l).toNat) := splitL_out
  have HSl : Hid ((sortS (keyZ (l.map (restG many (tot l)))) (upTo l.length)).length = l.length) := by show _ = _; rw [sortS_length, upTo_length]
  have HF : Hid (∀ rs g u, rs = l.map (restG many (tot l)) → RowAt u g 3 (rs.map (Value.int .i64)) → Calls Tryz.prog 171 #[.slice (some ⟨g, 0, none⟩) l.length l.length] u fun e w' => ∃ y, e = .returned y ∧ OwnInts u.heap.size w' y (sortS (keyZ (l.map (restG many (tot l)))) (upTo l.length)) ∧ Below u.heap.size u w') := fun rs g u hrs hr => by
    have hi : IntsAt (fun _ => True) u (.slice (some ⟨g, 0, none⟩) rs.length l.length) rs := intsRow (sp := []) (by rw [List.append_nil]; exact hr) (by rw [hrs, HRl.out]; exact Nat.le_refl _) (by rw [hrs, HRl.out]; omega) trivial
    have := gfirst_any rs _ u hi (by rw [hrs, HRl.out]; exact n1) (by rw [hrs, HRl.out]; exact n6)
    rw [hrs, HRl.out] at this
    exact this
  have HG : Hid (∀ bl g u, bl = l.map (baseG many (tot l)) → RowAt u g 3 (bl.map (Value.int .i64)) → Calls Tryz.prog 170 #[.slice (some ⟨g, 0, none⟩) l.length l.length] u fun e w' => e = .returned (.int .i64 (tot bl)) ∧ w' = u) := fun bl g u hbl hr => by
    have hi : IntsAt (fun _ => True) u (.slice (some ⟨g, 0, none⟩) bl.length l.length) bl := intsRow (sp := []) (by rw [List.append_nil]; exact hr) (by rw [hbl, HBl.out]; exact Nat.le_refl _) (by rw [hbl, HBl.out]; omega) trivial
    have := gtogether_any bl _ u hi (by rw [hbl, HBl.out]; exact n6) (by rw [hbl]; exact HBb.out)
    rw [hbl, HBl.out] at this
    rw [hbl]
    exact this
  have HWl : Hid ((splitL many l).length = l.length) := splitL_length _ _
  obtain ⟨RC, hRC, hmk⟩ := infoZm l.length n6
  generalize outK (keyG many l) (fun i => baseG many (tot l) (l.getD i 0)) l.length = oK at *
  generalize splitL many l = res at *
  generalize leftG many l = L at *
  generalize l.map (baseG many (tot l)) = bl at *
  generalize l.map (restG many (tot l)) = rl at *
  generalize sortS (keyZ rl) (upTo l.length) = sl at *
  obtain ⟨a, cap, rfl, ⟨hm, hm2⟩, h'⟩ := id h
  have HC : Hid (∀ i, i < l.length → ∃ b off, a = some ⟨b, off, none⟩ ∧ ∀ u, Below w.heap.size w u → u.cell? ⟨b, off + i, none⟩ = some (.int .i64 (l.getD i 0))) := ints_cells h
  have ht0 : ¬ tot l = 0 := by omega
  clear h h' hE hb HBb
  generalize tot l = T at *
  go_enter Tryz.func148, Tryz.ntmps148
  go_upto_region 1 with fail
  go_cut [5, 6] (fun s5 s6 wc => ∃ gp gr : Nat, s5 = .slice (some ⟨gp, 0, none⟩) l.length l.length ∧ s6 = .slice (some ⟨gr, 0, none⟩) l.length l.length ∧ (gp ≠ gr ∧ w.heap.size ≤ gp ∧ w.heap.size ≤ gr) ∧ Hid (RowAt wc gp 3 ((begL bl 0 l.length).map (Value.int .i64))) ∧ Hid (RowAt wc gr 3 ((begL rl 0 l.length).map (Value.int .i64))) ∧ Hid (Below w.heap.size w wc))
  case first =>
    go_region
    all_goals
      go_wp2_with fail
      go_meet
      case rel =>
        first
          | refine ⟨w.heap.size, w.heap.size + 1, rfl, rfl, ⟨Nat.ne_of_lt (Nat.lt_succ_self _), Nat.le_refl _, Nat.le_succ _⟩, ?_, ?_, ?_⟩
          | refine ⟨w.heap.size + 1, w.heap.size, rfl, rfl, ⟨Nat.ne_of_gt (Nat.lt_succ_self _), Nat.le_succ _, Nat.le_refl _⟩, ?_, ?_, ?_⟩
        · show RowAt _ _ _ _
          rw [begL_0]
          repeat (first | ((with_reducible refine row_zero ?_ hRC.out); (focus (simp; done))) | with_reducible refine RowAt.alloc ?_ _ | with_reducible refine RowAt.quiet ?_)
        · show RowAt _ _ _ _
          rw [begL_0]
          repeat (first | ((with_reducible refine row_zero ?_ hRC.out); (focus (simp; done))) | with_reducible refine RowAt.alloc ?_ _ | with_reducible refine RowAt.quiet ?_)
        · show Below _ _ _
          repeat (first | with_reducible exact Below.refl _ _ | with_reducible refine Below.drew ?_ | with_reducible refine Bel.more ?_ (Nat.le_refl _) _)
  case rest =>
    obtain ⟨gp, gr, rfl, rfl, ⟨hne, lp, lr⟩, Rp, Rr, hbc⟩ := hcut
    clear hmk hRC
    go_wp2_with fail
    refine (HT.out _ hbc.out).mono ?_
    rintro e w1 ⟨rfl, rfl⟩
    go_wp2
    go_loopw [8, 9, 23] (fun _ _ i wr => ∃ k : Nat, k ≤ l.length ∧ i = .int .i64 k ∧ Hid (RowAt wr gp 3 ((begL bl k l.length).map (Value.int .i64))) ∧ Hid (RowAt wr gr 3 ((begL rl k l.length).map (Value.int .i64))) ∧ Hid (Below w.heap.size w wr)) (fun _ _ i _ => l.length - (intOf i).toNat)
    case atStart => exact ⟨0, by omega, rfl, Rp, Rr, hbc⟩
    case round =>
      clear Rp Rr hbc
      obtain ⟨k, hk, rfl, Rp, Rr, hbl⟩ := hrel
      by_cases hlt : k < l.length
      · obtain ⟨b, off, rfl, hc⟩ := HC.out k hlt
        have c0 := hc _ hbl.out
        obtain ⟨P, hP, p0, p1, e1, e2, d0, d1⟩ := Hx.out k hlt
        have fp := Rp.out.frozen k
        have fr := Rr.out.frozen k
        have cp := Rp.out.cell (beg_cell HBl.out hk hlt)
        have cr := Rr.out.cell (beg_cell HRl.out hk hlt)
        have zp := Rp.out.lt
        have zr := Rr.out.lt
        have sp : Hid ((begL bl k l.length).set k (P / T) = begL bl (k + 1) l.length) := by show _ = _; rw [← e1]; exact begL_set HBl.out hlt
        have sr : Hid ((begL rl k l.length).set k (P % T) = begL rl (k + 1) l.length) := by show _ = _; rw [← e2]; exact begL_set HRl.out hlt
        have hlt' : (k : Int) < (l.length : Int) := by omega
        clear hc e1 e2
        generalize (begL bl k l.length).getD k 0 = y1 at *
        generalize (begL rl k l.length).getD k 0 = y2 at *
        generalize l.getD k 0 = x at *
        have q1 : IntKind.i64.wrap (many * x) = P := by rw [IntKind.wrap_i64, hP]; omega
        have q2 : P.tdiv T = P / T := Int.tdiv_eq_ediv_of_nonneg p0
        have q3 : IntKind.i64.wrap (P / T) = P / T := by rw [IntKind.wrap_i64]; omega
        have q4 : P.tmod T = P % T := Int.tmod_eq_emod_of_nonneg p0
        have r0 : 0 ≤ P % T := Int.emod_nonneg _ ht0
        have r1 : P % T < T := Int.emod_lt_of_pos _ (by omega)
        have q5 : IntKind.i64.wrap (P % T) = P % T := by rw [IntKind.wrap_i64]; omega
        clear hP
        generalize P / T = D at *
        generalize P % T = R at *
        have NP : Hid (RowAt ((wr.setCell ⟨gp, k, none⟩ (.int .i64 D)).setCell ⟨gr, k, none⟩ (.int .i64 R)) gp 3 ((begL bl (k + 1) l.length).map (Value.int .i64))) := by
          show RowAt _ _ _ _
          rw [← sp.out, List.map_set]
          exact (Rp.out.set k _).other (a := ⟨gr, k, none⟩) (by simpa using fun e => hne e.symm) _
        have NR : Hid (RowAt ((wr.setCell ⟨gp, k, none⟩ (.int .i64 D)).setCell ⟨gr, k, none⟩ (.int .i64 R)) gr 3 ((begL rl (k + 1) l.length).map (Value.int .i64))) := by
          show RowAt _ _ _ _
          rw [← sr.out, List.map_set]
          exact (Rr.out.other (a := ⟨gp, k, none⟩) (by simpa using hne) _).set k _
        have NB : Hid (Below w.heap.size w ((wr.setCell ⟨gp, k, none⟩ (.int .i64 D)).setCell ⟨gr, k, none⟩ (.int .i64 R))) := (hbl.out.setCell lp _).setCell lr _
        clear sp sr
        go_wp2_with fail
        go_region
        have NP' : Hid (RowAt ((wr.setCell ⟨gp, k, none⟩ (.int .i64 D)).setCell ⟨gr, k, none⟩ (.int .i64 R)).drew gp 3 ((begL bl (k + 1) l.length).map (Value.int .i64))) := NP.out
        have NR' : Hid (RowAt ((wr.setCell ⟨gp, k, none⟩ (.int .i64 D)).setCell ⟨gr, k, none⟩ (.int .i64 R)).drew gr 3 ((begL rl (k + 1) l.length).map (Value.int .i64))) := NR.out
        have NB' : Hid (Below w.heap.size w ((wr.setCell ⟨gp, k, none⟩ (.int .i64 D)).setCell ⟨gr, k, none⟩ (.int .i64 R)).drew) := NB.out.drew
        clear NP NR NB
        generalize ((wr.setCell ⟨gp, k, none⟩ (.int .i64 D)).setCell ⟨gr, k, none⟩ (.int .i64 R)).drew = wz at *
        go_wp2
        go_roundw
        case rel => exact ⟨k + 1, by omega, by go_num, NP', NR', NB'⟩
        case measure => simp [intOf]; omega
      · obtain rfl : k = l.length := by omega
        have rp := Rp.out
        have rr := Rr.out
        rw [begL_all HBl.out] at rp
        rw [begL_all HRl.out] at rr
        have RP : Hid (RowAt wr gp 3 ((oK 0).map (Value.int .i64))) := by rw [HO0.out]; exact rp
        have HG1 : Hid (Calls Tryz.prog 170 #[.slice (some ⟨gp, 0, none⟩) l.length l.length] wr fun e w' => e = .returned (.int .i64 (tot bl)) ∧ w' = wr) := HG.out bl gp wr rfl rp
        have HF1 : Hid (Calls Tryz.prog 171 #[.slice (some ⟨gr, 0, none⟩) l.length l.length] wr fun e w' => ∃ y, e = .returned y ∧ OwnInts wr.heap.size w' y sl ∧ Below wr.heap.size wr w') := HF.out rl gr wr rfl rr
        have hle := HLe.out
        obtain ⟨L0, L1⟩ := HLb.out
        obtain ⟨b1, b2⟩ := HTb.out
        have zp : gp < wr.heap.size := rp.lt
        clear rp rr Rp Rr
        generalize tot bl = tb at *
        have hw1 : IntKind.i64.wrap (many - tb) = L := by rw [IntKind.wrap_i64, hle]; omega
        clear hle
        go_wp2_with fail
        refine HG1.out.mono ?_
        rintro e w2 ⟨rfl, rfl⟩
        go_wp2_with fail
        refine HF1.out.mono ?_
        rintro e w3 ⟨y, rfl, hown, hb3⟩
        obtain ⟨g3, c3, sp3, rfl, hc3, hg3, hr3⟩ := hown
        have B3 : Hid (Below w.heap.size w w3) := hbl.out.trans (hb3.mono hbl.out.size)
        have RP3 : Hid (RowAt w3 gp 3 ((oK 0).map (Value.int .i64))) := RP.out.later hb3 zp
        have R3 : Hid (RowAt w3 g3 3 (sl.map (Value.int .i64) ++ sp3)) := hr3
        have hne3 : g3 ≠ gp := by omega
        rw [HSl.out] at hc3 ⊢
        obtain ⟨N, rfl⟩ : ∃ N : Nat, L = N := ⟨L.toNat, by omega⟩
        have hN : N ≤ l.length := by omega
        have Hc3 : (N : Int) ≤ (c3 : Int) := by omega
        clear hb3 hr3 hw1
        go_wp2
        go_loopw [12, 54] (fun _ i wr => ∃ k : Nat, k ≤ N ∧ i = .int .i64 k ∧ Hid (RowAt wr gp 3 ((oK k).map (Value.int .i64))) ∧ Hid (RowAt wr g3 3 (sl.map (Value.int .i64) ++ sp3)) ∧ Hid (Below w.heap.size w wr)) (fun _ i _ => N - (intOf i).toNat)
        case atStart => exact ⟨0, by omega, rfl, RP3, R3, B3⟩
        case round =>
          clear RP3 R3 B3 RP hbl
          obtain ⟨k, hk, rfl, Rp, Rs, hbl⟩ := hrel
          by_cases hlt : k < N
          · obtain ⟨b, hsb, hbn, hob, hoo⟩ := HP.out k (by omega)
            obtain ⟨P, _, _, _, e1, _, d0, d1⟩ := Hx.out b hbn
            rw [e1] at hob hoo
            have c0 := Rs.out.cell (intsCell (l := sl) (sp := sp3) (i := k) (by rw [HSl.out]; omega))
            rw [hsb] at c0
            have c1 := Rp.out.cell (own_cell (HOl.out k) hbn)
            rw [hob] at c1
            have f1 := Rp.out.frozen b
            have z1 := Rp.out.lt
            have hb' : (b : Int) < (l.length : Int) := by omega
            have NP : Hid (RowAt (wr.setCell ⟨gp, b, none⟩ (.int .i64 (P / T + 1))) gp 3 ((oK (k + 1)).map (Value.int .i64))) := by
              show RowAt _ _ _ _
              rw [hoo, List.map_set]
              exact Rp.out.set b _
            have NS : Hid (RowAt (wr.setCell ⟨gp, b, none⟩ (.int .i64 (P / T + 1))) g3 3 (sl.map (Value.int .i64) ++ sp3)) := Rs.out.other (a := ⟨gp, b, none⟩) (by simpa using fun e => hne3 e.symm) _
            have NB : Hid (Below w.heap.size w (wr.setCell ⟨gp, b, none⟩ (.int .i64 (P / T + 1)))) := hbl.out.setCell lp _
            clear hsb hob hoo e1
            generalize P / T = D at *
            have hw2 : IntKind.i64.wrap (D + 1) = D + 1 := by rw [IntKind.wrap_i64]; omega
            go_wp2
            go_roundw
            case rel => exact ⟨k + 1, by omega, by go_num, NP, NS, NB⟩
            case measure => simp [intOf]; omega
          · obtain rfl : k = N := by omega
            have HI : Hid (IntsAt (fun b => w.heap.size ≤ b) wr (.slice (some ⟨gp, 0, none⟩) l.length l.length) res) := by
              have e : res = oK k := by rw [HOE.out, Int.toNat_natCast]
              have := intsRow (Q := fun b => w.heap.size ≤ b) (sp := []) (c := l.length) (l := oK k) (by rw [List.append_nil]; exact Rp.out) (by rw [HOl.out]; exact Nat.le_refl _) (by rw [HOl.out]; omega) lp
              rw [HOl.out] at this
              rw [e]
              exact this
            go_wp2
            go_ret
            exact ⟨_, rfl, HI.out, hbl.out⟩
end Ev
end Go.Proofs.YtpnmmmlckdkcdakGreatDoor

/- Package give's Split keeps what the document says. -/
namespace Go.Proofs.YtpnmmmlckdkcdakGreatDoor
namespace Ev
open Go.RowKit Fr Ns Ld Fl
set_option linter.unusedSimpArgs false
set_option linter.unusedVariables false

theorem nil_intsG {Q : Nat → Prop} (w : World) : IntsAt Q w (.slice none 0 0) [] := ⟨none, 0, rfl, ⟨Nat.le_refl _, by simp⟩, .inl rfl⟩
set_option maxRecDepth 100000 in
set_option maxHeartbeats 2000000 in
theorem gsplit_said : GSplitSaid := by
  intro Q many l v w h
  have HK : Hid (Calls Tryz.prog 146 #[.int .i64 many, v] w fun e w' => e = .returned (errV (splitE many l)) ∧ Below w.heap.size w w') := gcheck_any many l v w h
  obtain ⟨a, cap, hv, ⟨hm, hm2⟩, _⟩ := id h
  by_cases hE : splitE many l = 0
  · obtain ⟨e1, e2, e3⟩ := splitE_0 hE
    obtain ⟨t1, n1, n6, hb⟩ := idx_tot e1
    have HS : Hid (∀ N, 0 ≤ N → N ≤ 10000 → ∀ u, Below w.heap.size w u → Calls Tryz.prog 148 #[.int .i64 N, v] u fun e w' => ∃ y, e = .returned y ∧ IntsAt (fun b => u.heap.size ≤ b) w' y (splitL N l) ∧ Below u.heap.size u w') := fun N a b u hu => gsplit_row N l v u (h.later hu) e1 a b
    rw [hE, errV_0] at HK ⊢
    have HOk : Hid (okL (0 : Int) (splitS many l) = splitS many l) := if_pos rfl
    rw [HOk.out]
    clear HOk
    by_cases hneg : many < 0
    · have HR : Hid (splitS many l = (splitL (-many) l).map (fun x => -x)) := if_pos hneg
      rw [HR.out]
      have HS1 : Hid (∀ u, Below w.heap.size w u → Calls Tryz.prog 148 #[.int .i64 (-many), v] u fun e w' => ∃ y, e = .returned y ∧ IntsAt (fun b => u.heap.size ≤ b) w' y (splitL (-many) l) ∧ Below u.heap.size u w') := HS.out (-many) (by omega) (by omega)
      have hl : (splitL (-many) l).length = l.length := splitL_length _ _
      have HN : Hid (∀ (Q : Nat → Prop) y u, IntsAt Q u y (splitL (-many) l) → Calls Tryz.prog 147 #[y] u fun e w' => ∃ z, e = .returned z ∧ IntsAt (fun b => u.heap.size ≤ b) w' z ((splitL (-many) l).map (fun x => -x)) ∧ Below u.heap.size u w') := fun Q y u hy => by
        refine gnegated_any (splitL (-many) l) y u hy (by omega) (by omega) (fun x hx => ?_)
        obtain ⟨i, hi, rfl⟩ := List.mem_iff_getElem.1 hx
        obtain ⟨B, p, q1, q2, q3, q4, q5, q6, _⟩ := part_at hE (i := i) (by omega)
        have e : absM many = -many := if_pos hneg
        rw [e, List.getD_eq_getElem?_getD, List.getElem?_eq_getElem hi] at q2
        have q2' : (splitL (-many) l)[i] = p := q2
        rw [q2']
        omega
      have hw1 : IntKind.i64.wrap (-many) = -many := by rw [IntKind.wrap_i64]; omega
      clear HS HR hl hb
      generalize (splitL (-many) l).map (fun x => -x) = nl at *
      generalize splitL (-many) l = sl at *
      subst hv
      clear h
      go_enter Tryz.func117, Tryz.ntmps117
      go_wp2_with fail
      refine HK.out.mono ?_
      rintro e w1 ⟨rfl, hw1'⟩
      have B1 : Hid (Below w.heap.size w w1) := hw1'
      clear hw1'
      go_wp2_with fail
      refine (HS1.out _ B1.out).mono ?_
      rintro e w2 ⟨y, rfl, hy, hw2⟩
      have B2 : Hid (Below w.heap.size w w2) := B1.out.trans (hw2.mono B1.out.size)
      have HN1 : Hid (Calls Tryz.prog 147 #[y] w2 fun e w' => ∃ z, e = .returned z ∧ IntsAt (fun b => w2.heap.size ≤ b) w' z nl ∧ Below w2.heap.size w2 w') := HN.out _ y w2 hy
      obtain ⟨ay, cy, rfl, _, _⟩ := hy
      clear hw2
      go_wp2_with fail
      refine HN1.out.mono ?_
      rintro e w3 ⟨z, rfl, hz, hw3⟩
      have B3 : Hid (Below w.heap.size w w3) := B2.out.trans (hw3.mono B2.out.size)
      have HZ : Hid (IntsAt (fun b => w.heap.size ≤ b) w3 z nl) := hz.keep (fun _ _ _ => rfl) (fun b hb _ => Nat.le_trans B2.out.size hb)
      obtain ⟨az, cz, rfl, _, _⟩ := hz
      clear hw3
      go_wp2
      refine bodyPost_ret (v := .tuple #[.slice az nl.length cz, .nilIface]) (by simp [results, Tryz.results117, go_sem]) rfl ⟨_, rfl, HZ.out, B3.out⟩
    · have HR : Hid (splitS many l = splitL many l) := if_neg hneg
      rw [HR.out]
      have HS1 : Hid (∀ u, Below w.heap.size w u → Calls Tryz.prog 148 #[.int .i64 many, v] u fun e w' => ∃ y, e = .returned y ∧ IntsAt (fun b => u.heap.size ≤ b) w' y (splitL many l) ∧ Below u.heap.size u w') := HS.out many (by omega) (by omega)
      clear HS HR hb
      generalize splitL many l = sl at *
      subst hv
      clear h
      go_enter Tryz.func117, Tryz.ntmps117
      go_wp2_with fail
      refine HK.out.mono ?_
      rintro e w1 ⟨rfl, hw1'⟩
      have B1 : Hid (Below w.heap.size w w1) := hw1'
      clear hw1'
      go_wp2_with fail
      refine (HS1.out _ B1.out).mono ?_
      rintro e w2 ⟨y, rfl, hy, hw2⟩
      have B2 : Hid (Below w.heap.size w w2) := B1.out.trans (hw2.mono B1.out.size)
      have HZ : Hid (IntsAt (fun b => w.heap.size ≤ b) w2 y sl) := hy.keep (fun _ _ _ => rfl) (fun b hb _ => Nat.le_trans B1.out.size hb)
      obtain ⟨ay, cy, rfl, _, _⟩ := hy
      clear hw2
      go_wp2
      refine bodyPost_ret (v := .tuple #[.slice ay sl.length cy, .nilIface]) (by simp [results, Tryz.results117, go_sem]) rfl ⟨_, rfl, HZ.out, B2.out⟩
  · have HV : Hid (errV (splitE many l) = .iface 65 (.int .i64 (splitE many l))) := errV_ne hE
    have HOk : Hid (okL (splitE many l) (splitS many l) = []) := if_neg hE
    rw [HOk.out]
    rw [HV.out] at HK ⊢
    generalize splitE many l = er at *
    subst hv
    clear h
    go_enter Tryz.func117, Tryz.ntmps117
    go_wp2_with fail
    refine HK.out.mono ?_
    rintro e w1 ⟨rfl, hw1⟩
    have HB1 : Hid (Below w.heap.size w w1) := hw1
    clear hw1
    go_wp2
    refine bodyPost_ret (v := .tuple #[.slice none 0 0, .iface 65 (.int .i64 er)]) (by simp [results, Tryz.results117, go_sem]) rfl ⟨_, rfl, nil_intsG _, HB1.out⟩
end Ev
end Go.Proofs.YtpnmmmlckdkcdakGreatDoor
