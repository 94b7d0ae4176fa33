/- Package give's small parts: what may be, all together, what check tells, a list of negatives. -/
import Derived.Test.YtpnmmmlckdkcdakGreatDoorAnyF
import Derived.Test.YtpnmmmlckdkcdakGreatDoorPlains
namespace Go.Proofs.YtpnmmmlckdkcdakGreatDoor
namespace Ev
open Go.RowKit Fr Ns Ld Fl
set_option linter.unusedSimpArgs false
set_option linter.unusedVariables false

theorem ret_gv {k : Int} {v : Value} (h : v = errV k) : Ending.returned v = .returned (errV k) := by rw [h]
theorem gbad_tells : TellsI 169 (fun x => !inTo 1000 x) := by
  refine ⟨enters Tryz.func169 (by kernel_rfl) (by kernel_rfl), fun x w => ?_⟩
  have HR : Hid ((!inTo 1000 x) = (decide (x < 0) || decide (1000 < x))) := by
    show _ = _
    rw [Bool.eq_iff_iff]
    simp [inTo]
    try omega
  by_cases h1 : x < 0
  · go_enter Tryz.func169, Tryz.ntmps169
    go_wp2
    go_ret
    exact ⟨ret_bool (by rw [HR.out]; simp [h1]), 0, rfl⟩
  · go_enter Tryz.func169, Tryz.ntmps169
    go_wp2
    go_ret
    exact ⟨ret_bool (by rw [HR.out]; simp [h1]; try omega), 0, rfl⟩

set_option maxHeartbeats 1000000 in
theorem gtogether_any {Q : Nat → Prop} (l : List Int) (v : Value) (w : World) (h : IntsAt Q w v l) (h6 : l.length ≤ 6) (hb : ∀ x ∈ l, 0 ≤ x ∧ x ≤ 10000) :
    Calls Tryz.prog 170 #[v] w fun e w' => e = .returned (.int .i64 (tot l)) ∧ w' = w := by
  obtain ⟨a, cap, rfl, ⟨hm, hm2⟩, h'⟩ := id h
  have HC : Hid (∀ i, i < l.length → ∃ b off, a = some ⟨b, off, none⟩ ∧ w.cell? ⟨b, off + i, none⟩ = some (.int .i64 (l.getD i 0))) := by
    intro i hi
    rcases h' with h | ⟨b, off, rfl, h, _⟩
    · rw [h] at hi; simp at hi
    · exact ⟨b, off, rfl, h i hi⟩
  have HB : Hid (∀ k, k ≤ l.length → 0 ≤ tot (l.take k) ∧ tot (l.take k) ≤ 60000) := fun k hk => by
    have := tot_bd (M := 10000) (l := l.take k) (fun x hx => hb x (List.mem_of_mem_take hx))
    rw [List.length_take] at this
    omega
  clear h h' hb
  go_enter Tryz.func170, Tryz.ntmps170
  go_wp2
  go_loop [3, 5, 8] (fun s _ i => ∃ k : Nat, k ≤ l.length ∧ i = .int .i64 k ∧ s = .int .i64 (tot (l.take k))) (fun _ _ i => l.length - (intOf i).toNat)
  case atStart => exact ⟨0, by omega, rfl, rfl⟩
  case round =>
    obtain ⟨k, hk, rfl, rfl⟩ := hrel
    by_cases hlt : k < l.length
    · obtain ⟨b, off, rfl, c0⟩ := HC.out k hlt
      have hs := tot_step l k hlt
      have b1 := HB.out k hk
      have b2 := HB.out (k + 1) hlt
      rw [hs] at b2
      have HS : Hid (tot (l.take (k + 1)) = tot (l.take k) + l.getD k 0) := hs
      clear hs
      generalize tot (l.take k) = t at *
      generalize l.getD k 0 = y at *
      go_wp2
      go_round
      case rel => exact ⟨k + 1, by omega, by go_num, by rw [HS.out]⟩
      case measure => simp [intOf]; omega
    · have HT : Hid (tot (l.take k) = tot l) := by show _ = _; rw [List.take_of_length_le (by omega)]
      go_wp2
      go_ret
      exact ⟨by rw [HT.out]; rfl, rfl⟩

set_option maxHeartbeats 2000000 in
theorem gcheck_any {Q : Nat → Prop} (many : Int) (l : List Int) (v : Value) (w : World) (h : IntsAt Q w v l) :
    Calls Tryz.prog 146 #[.int .i64 many, v] w fun e w' => e = .returned (errV (splitE many l)) ∧ Below w.heap.size w w' := by
  have HC : Hid (Calls Tryz.prog 34 #[v, .func (.func 169) #[] #[]] w fun e w' => e = .returned (.bool (l.any (fun x => !inTo 1000 x))) ∧ Below w.heap.size w w') := drawn (ContainsFuncI gbad_tells l v w h)
  have HT : Hid (l.length ≤ 6 → (∀ x ∈ l, 0 ≤ x ∧ x ≤ 10000) → ∀ u, Below w.heap.size w u → Calls Tryz.prog 170 #[v] u fun e w' => e = .returned (.int .i64 (tot l)) ∧ w' = u) := fun h6 hb u hu => gtogether_any l v u (h.later hu) h6 hb
  obtain ⟨a, cap, rfl, ⟨hm, hm2⟩, _⟩ := h
  by_cases h0 : l.length = 0
  · have HE : Hid (splitE many l = 5) := by
      have : few l 1000 = 5 := by rw [few, if_pos h0]
      have : idxE l = 5 := by rw [idxE, this]; rfl
      show _ = _
      rw [splitE, this]; rfl
    have q : ((l.length : Int) == 0) = true := by simp [h0]
    clear h0
    go_enter Tryz.func146, Tryz.ntmps146
    go_wp2
    go_ret
    exact ⟨ret_gv (by rw [HE.out]; rfl), Below.refl _ _⟩
  · have q : ((l.length : Int) == 0) = false := beq_eq_false_iff_ne.2 (by omega)
    by_cases h6 : 6 < l.length
    · have HE : Hid (splitE many l = 4) := by
        have : few l 1000 = 4 := by rw [few, if_neg h0, if_pos h6]
        have : idxE l = 4 := by rw [idxE, this]; rfl
        show _ = _
        rw [splitE, this]; rfl
      clear h0
      go_enter Tryz.func146, Tryz.ntmps146
      go_wp2
      go_ret
      exact ⟨ret_gv (by rw [HE.out]; rfl), Below.refl _ _⟩
    · cases hb : l.any (fun x => !inTo 1000 x) with
      | true =>
        have HE : Hid (splitE many l = 1) := by
          have : few l 1000 = 1 := by rw [few_over h0 h6, hb]; rfl
          have : idxE l = 1 := by rw [idxE, this]; rfl
          show _ = _
          rw [splitE, this]; rfl
        rw [hb] at HC
        clear hb h0
        go_enter Tryz.func146, Tryz.ntmps146
        go_wp2_with fail
        refine HC.out.mono ?_
        rintro e w2 ⟨rfl, hw2⟩
        have B2 : Hid (Below w.heap.size w w2) := hw2
        clear hw2
        go_wp2
        go_ret
        exact ⟨ret_gv (by rw [HE.out]; rfl), B2.out⟩
      | false =>
        have hf : few l 1000 = 0 := by rw [few_over h0 h6, hb]; rfl
        have hbd := (few_0.1 hf).2.2
        have HT' : Hid (∀ u, Below w.heap.size w u → Calls Tryz.prog 170 #[.slice a l.length cap] u fun e w' => e = .returned (.int .i64 (tot l)) ∧ w' = u) := HT.out (by omega) (fun x hx => by have := hbd x hx; omega)
        have HE0 : Hid (splitE many l = if tot l = 0 then 5 else if many < -10000 ∨ 10000 < many then 1 else 0) := by
          show _ = _
          by_cases ht : tot l = 0
          · rw [if_pos ht, splitE, idxE, if_pos hf, if_pos ht]; rfl
          · rw [if_neg ht, splitE, idxE, if_pos hf, if_neg ht]; rfl
        rw [hb] at HC
        clear hb h0 hf hbd HT
        generalize tot l = t at *
        by_cases ht : t = 0
        · have HE : Hid (splitE many l = 5) := by show _ = _; rw [HE0.out, if_pos ht]
          subst ht
          clear HE0
          go_enter Tryz.func146, Tryz.ntmps146
          go_wp2_with fail
          refine HC.out.mono ?_
          rintro e w2 ⟨rfl, hw2⟩
          have B2 : Hid (Below w.heap.size w w2) := hw2
          clear hw2
          go_wp2_with fail
          refine (HT'.out _ B2.out).mono ?_
          rintro e w2 ⟨rfl, rfl⟩
          go_wp2
          go_ret
          exact ⟨ret_gv (by rw [HE.out]; rfl), B2.out⟩
        · have qt : (t == 0) = false := beq_eq_false_iff_ne.2 ht
          have HE1 : Hid (splitE many l = if many < -10000 ∨ 10000 < many then 1 else 0) := by show _ = _; rw [HE0.out, if_neg ht]
          clear HE0 ht
          by_cases hm1 : many < -10000
          · have HE : Hid (splitE many l = 1) := by show _ = _; rw [HE1.out, if_pos (.inl hm1)]
            clear HE1
            go_enter Tryz.func146, Tryz.ntmps146
            go_wp2_with fail
            refine HC.out.mono ?_
            rintro e w2 ⟨rfl, hw2⟩
            have B2 : Hid (Below w.heap.size w w2) := hw2
            clear hw2
            go_wp2_with fail
            refine (HT'.out _ B2.out).mono ?_
            rintro e w2 ⟨rfl, rfl⟩
            go_wp2
            go_ret
            exact ⟨ret_gv (by rw [HE.out]; rfl), B2.out⟩
          · by_cases hm3 : 10000 < many
            · have HE : Hid (splitE many l = 1) := by show _ = _; rw [HE1.out, if_pos (.inr hm3)]
              clear HE1
              go_enter Tryz.func146, Tryz.ntmps146
              go_wp2_with fail
              refine HC.out.mono ?_
              rintro e w2 ⟨rfl, hw2⟩
              have B2 : Hid (Below w.heap.size w w2) := hw2
              clear hw2
              go_wp2_with fail
              refine (HT'.out _ B2.out).mono ?_
              rintro e w2 ⟨rfl, rfl⟩
              go_wp2
              go_ret
              exact ⟨ret_gv (by rw [HE.out]; rfl), B2.out⟩
            · have HE : Hid (splitE many l = 0) := by show _ = _; rw [HE1.out, if_neg (by omega)]
              clear HE1
              go_enter Tryz.func146, Tryz.ntmps146
              go_wp2_with fail
              refine HC.out.mono ?_
              rintro e w2 ⟨rfl, hw2⟩
              have B2 : Hid (Below w.heap.size w w2) := hw2
              clear hw2
              go_wp2_with fail
              refine (HT'.out _ B2.out).mono ?_
              rintro e w2 ⟨rfl, rfl⟩
              go_wp2
              go_ret
              exact ⟨ret_gv (by rw [HE.out]; rfl), B2.out⟩

theorem infoZ : (Tryz.prog.info? 3).map (fun i => (i.zero, i.size, i.bytes)) = some (some (.int .i64 0), 1, 8) := by kernel_rfl
theorem madeZ (n : Nat) : (madeCells #[Value.int .i64 0] n).toList = (List.replicate n (0 : Int)).map (Value.int .i64) := by
  apply List.ext_getElem
  · simp [madeCells]
  · intro i h1 h2
    simp [madeCells, Nat.mod_one]
/-- the first k places are written, the rest is 0 yet -/
def begL (l : List Int) (k n : Nat) : List Int := l.take k ++ List.replicate (n - k) 0
theorem begL_0 (l : List Int) (n : Nat) : begL l 0 n = List.replicate n 0 := by simp [begL]
theorem begL_all {l : List Int} {n : Nat} (h : l.length = n) : begL l n n = l := by subst h; simp [begL]
theorem begL_length {l : List Int} {k n : Nat} (h : l.length = n) (hk : k ≤ n) : (begL l k n).length = n := by simp [begL]; omega
theorem begL_set {l : List Int} {k n : Nat} (h : l.length = n) (hk : k < n) : (begL l k n).set k (l.getD k 0) = begL l (k + 1) n := by
  have e : (l.take k).length = k := by simp; omega
  unfold begL
  rw [List.set_append_right _ _ (by omega), e, Nat.sub_self, take_snoc l k (by omega) 0, show n - k = (n - (k + 1)) + 1 by omega, List.replicate_succ, List.set_cons_zero, List.append_assoc]
  rfl

set_option maxHeartbeats 2000000 in
theorem gnegated_any {Q : Nat → Prop} (l : List Int) (v : Value) (w : World) (h : IntsAt Q w v l) (n1 : 0 < l.length) (n6 : l.length ≤ 6) (hb : ∀ x ∈ l, -100000 ≤ x ∧ x ≤ 100000) :
    Calls Tryz.prog 147 #[v] w fun e w' => ∃ y, e = .returned y ∧ IntsAt (fun b => w.heap.size ≤ b) w' y (l.map (fun x => -x)) ∧ Below w.heap.size w w' := by
  obtain ⟨a, cap, rfl, ⟨hm, hm2⟩, h'⟩ := id h
  have HC : Hid (∀ i, i < l.length → ∃ b off, a = some ⟨b, off, none⟩ ∧ ∀ u, Below w.heap.size w u → u.cell? ⟨b, off + i, none⟩ = some (.int .i64 (l.getD i 0))) := ints_cells h
  have HB : Hid (∀ k, k < l.length → -100000 ≤ l.getD k 0 ∧ l.getD k 0 ≤ 100000) := fun k hk => hb _ (getD_mem l k hk 0)
  have HNl : Hid ((l.map (fun x => -x)).length = l.length) := List.length_map _
  have HNa : Hid (∀ k, k < l.length → (l.map (fun x => -x)).getD k 0 = -l.getD k 0) := fun k hk => by simp [List.getD, List.getElem?_eq_getElem hk]
  obtain ⟨k0, hKI, hx0, hx1, hx2⟩ := info_parts infoZ
  clear h h' hb
  generalize l.map (fun x => -x) = nl at *
  go_enter Tryz.func147, Tryz.ntmps147
  go_wp2_with (at_make; go_must (refine wpList_make_full _ rfl _ _ 22 rfl w.heap.size 3 k0 (.int .i64 0) 1 Tryz.underlying22 hKI hx0 hx1 .i64 .i64 _ _ l.length rfl rfl rfl rfl ?b2 ?b3 ?b4 ?_))
  case b2 => rw [hx2]; omega
  case b3 => unfold maxLen; omega
  case b4 => simp
  intro w2 hown hgrow
  have hown' : w2.ownsRow w.heap.size 3 1 (.slice (some ⟨w.heap.size, 0, none⟩) l.length l.length) l.length (madeCells #[.int .i64 0] l.length).toList := by simpa using hown
  rw [madeZ] at hown'
  have R2 : Hid (RowAt w2 w.heap.size 3 ((begL nl 0 l.length).map (Value.int .i64))) := by rw [begL_0]; exact RowAt.of_owns hown'
  have B2 : Hid (Below w.heap.size w w2) := (Below.refl _ _).grown hgrow (Nat.le_refl _) (by intro k hk; cases hk)
  obtain ⟨g, hg⟩ : ∃ g, g = w.heap.size := ⟨_, rfl⟩
  have HG : Hid (w.heap.size ≤ g) := Nat.le_of_eq hg.symm
  rw [← hg] at R2 ⊢
  clear hown hgrow hown' hg
  go_wp2
  go_loopw [4, 5, 11] (fun _ _ i wr => ∃ k : Nat, k ≤ l.length ∧ i = .int .i64 k ∧ Hid (RowAt wr g 3 ((begL nl k l.length).map (Value.int .i64))) ∧ Hid (Below w.heap.size w wr)) (fun _ _ i _ => l.length - (intOf i).toNat)
  case atStart => exact ⟨0, by omega, rfl, R2, B2⟩
  case round =>
    obtain ⟨k, hk, rfl, hro, hbl⟩ := hrel
    by_cases hlt : k < l.length
    · obtain ⟨b, off, rfl, hc⟩ := HC.out k hlt
      have c0 := hc _ hbl.out
      obtain ⟨b1, b2⟩ := HB.out k hlt
      have f0 := hro.out.frozen k
      have c1 := hro.out.cell (i := k) (v := .int .i64 ((begL nl k l.length).getD k 0)) (by have := intsCell (l := begL nl k l.length) (sp := []) (i := k) (by rw [begL_length HNl.out hk]; exact hlt); rwa [List.append_nil] at this)
      have z0 := hro.out.lt
      have hw1 : IntKind.i64.wrap (-l.getD k 0) = -l.getD k 0 := by rw [IntKind.wrap_i64]; omega
      have HN : Hid (RowAt (wr.setCell ⟨g, k, none⟩ (.int .i64 (-l.getD k 0))) g 3 ((begL nl (k + 1) l.length).map (Value.int .i64))) := by
        have := hro.out.set k (.int .i64 (-l.getD k 0))
        rw [← List.map_set, ← HNa.out k hlt, begL_set HNl.out hlt] at this
        rw [← HNa.out k hlt]
        exact this
      have HBn : Hid (Below w.heap.size w (wr.setCell ⟨g, k, none⟩ (.int .i64 (-l.getD k 0)))) := hbl.out.setCell HG.out _
      clear hc
      generalize (begL nl k l.length).getD k 0 = y0 at *
      generalize l.getD k 0 = y at *
      go_wp2
      go_roundw
      case rel => exact ⟨k + 1, by omega, by go_num, HN, HBn⟩
      case measure => simp [intOf]; omega
    · obtain rfl : k = l.length := by omega
      have HE : Hid (IntsAt (fun b => w.heap.size ≤ b) wr (.slice (some ⟨g, 0, none⟩) l.length l.length) nl) := by
        have hr := hro.out
        rw [begL_all HNl.out] at hr
        have := intsRow (Q := fun b => w.heap.size ≤ b) (c := l.length) (sp := []) (l := nl) (by rw [List.append_nil]; exact hr) (by rw [HNl.out]; exact Nat.le_refl _) (by rw [HNl.out]; omega) HG.out
        rw [HNl.out] at this
        exact this
      go_wp2
      go_ret
      exact ⟨_, rfl, HE.out, hbl.out⟩
end Ev
end Go.Proofs.YtpnmmmlckdkcdakGreatDoor
