/- Package shuffle's small parts: what may be, what check tells, a share's part, and what is taken of all. -/
import Derived.Test.YtgbhknagmndbfaiGvA
import Derived.Test.YtgbhknagmndbfaiPlains
namespace Go.Proofs.Ytgbhknagmndbfai
namespace Ev
open Go.RowKit Fr Ns Ld Fl
set_option linter.unusedSimpArgs false
set_option linter.unusedVariables false

theorem ret_sh {k : Int} {v : Value} (h : v = errV k) : Ending.returned v = .returned (errV k) := by rw [h]
theorem shbad_tells : TellsI 39 (fun x => !inTo 10000 x) := by
  refine ⟨enters Try.func39 (by kernel_rfl) (by kernel_rfl), fun x w => ?_⟩
  have HR : Hid ((!inTo 10000 x) = (decide (x < 0) || decide (10000 < x))) := by
    show _ = _
    rw [Bool.eq_iff_iff]
    simp [inTo]
    try omega
  by_cases h1 : x < 0
  · go_enter Try.func39, Try.ntmps39
    go_wp2
    go_ret
    exact ⟨ret_bool (by rw [HR.out]; simp [h1]), 0, rfl⟩
  · go_enter Try.func39, Try.ntmps39
    go_wp2
    go_ret
    exact ⟨ret_bool (by rw [HR.out]; simp [h1]; try omega), 0, rfl⟩

set_option maxHeartbeats 2000000 in
theorem shcheck_any {Q : Nat → Prop} (l : List Int) (part : Int) (v : Value) (w : World) (h : IntsAt Q w v l) :
    Calls Try.prog 22 #[v, .int .i64 part] w fun e w' => e = .returned (errV (shufE l part)) ∧ Below w.heap.size w w' := by
  have HC : Hid (Calls Try.prog 26 #[v, .func (.func 39) #[] #[]] w fun e w' => e = .returned (.bool (l.any (fun x => !inTo 10000 x))) ∧ Below w.heap.size w w') := drawn (ContainsFuncI shbad_tells l v w h)
  obtain ⟨a, cap, rfl, ⟨hm, hm2⟩, _⟩ := h
  by_cases h0 : l.length = 0
  · have HE : Hid (shufE l part = 5) := by
      have : few l 10000 = 5 := by rw [few, if_pos h0]
      show _ = _
      rw [shufE, this]; rfl
    have q : ((l.length : Int) == 0) = true := by simp [h0]
    clear h0
    go_enter Try.func22, Try.ntmps22
    go_wp2
    go_ret
    exact ⟨ret_sh (by rw [HE.out]; rfl), Below.refl _ _⟩
  · have q : ((l.length : Int) == 0) = false := beq_eq_false_iff_ne.2 (by omega)
    by_cases h6 : 6 < l.length
    · have HE : Hid (shufE l part = 4) := by
        have : few l 10000 = 4 := by rw [few, if_neg h0, if_pos h6]
        show _ = _
        rw [shufE, this]; rfl
      clear h0
      go_enter Try.func22, Try.ntmps22
      go_wp2
      go_ret
      exact ⟨ret_sh (by rw [HE.out]; rfl), Below.refl _ _⟩
    · cases hb : l.any (fun x => !inTo 10000 x) with
      | true =>
        have HE : Hid (shufE l part = 1) := by
          have : few l 10000 = 1 := by rw [few_over h0 h6, hb]; rfl
          show _ = _
          rw [shufE, this]; rfl
        rw [hb] at HC
        clear hb h0
        go_enter Try.func22, Try.ntmps22
        go_wp2_with fail
        refine HC.out.mono ?_
        rintro e w2 ⟨rfl, hw2⟩
        have B2 : Hid (Below w.heap.size w w2) := hw2
        clear hw2
        go_wp2
        go_ret
        exact ⟨ret_sh (by rw [HE.out]; rfl), B2.out⟩
      | false =>
        have hf : few l 10000 = 0 := by rw [few_over h0 h6, hb]; rfl
        have HE1 : Hid (shufE l part = if part < 0 ∨ 1000 < part then 1 else 0) := by show _ = _; rw [shufE, if_pos hf]
        rw [hb] at HC
        clear hb h0 hf
        by_cases hm1 : part < 0
        · have HE : Hid (shufE l part = 1) := by show _ = _; rw [HE1.out, if_pos (.inl hm1)]
          clear HE1
          go_enter Try.func22, Try.ntmps22
          go_wp2_with fail
          refine HC.out.mono ?_
          rintro e w2 ⟨rfl, hw2⟩
          have B2 : Hid (Below w.heap.size w w2) := hw2
          clear hw2
          go_wp2
          go_ret
          exact ⟨ret_sh (by rw [HE.out]; rfl), B2.out⟩
        · by_cases hm3 : 1000 < part
          · have HE : Hid (shufE l part = 1) := by show _ = _; rw [HE1.out, if_pos (.inr hm3)]
            clear HE1
            go_enter Try.func22, Try.ntmps22
            go_wp2_with fail
            refine HC.out.mono ?_
            rintro e w2 ⟨rfl, hw2⟩
            have B2 : Hid (Below w.heap.size w w2) := hw2
            clear hw2
            go_wp2
            go_ret
            exact ⟨ret_sh (by rw [HE.out]; rfl), B2.out⟩
          · have HE : Hid (shufE l part = 0) := by show _ = _; rw [HE1.out, if_neg (by omega)]
            clear HE1
            go_enter Try.func22, Try.ntmps22
            go_wp2_with fail
            refine HC.out.mono ?_
            rintro e w2 ⟨rfl, hw2⟩
            have B2 : Hid (Below w.heap.size w w2) := hw2
            clear hw2
            go_wp2
            go_ret
            exact ⟨ret_sh (by rw [HE.out]; rfl), B2.out⟩

theorem shpart_any (x part : Int) (w : World) (x0 : 0 ≤ x) (x1 : x ≤ 10000) (m0 : 0 ≤ part) (m1 : part ≤ 1000) :
    Calls Try.prog 12 #[.int .i64 x, .int .i64 part] w fun e w' => e = .returned (.int .i64 (takeS part x)) ∧ w' = w := by
  obtain ⟨P, hP⟩ : ∃ P, x * part = P := ⟨_, rfl⟩
  have p0 : 0 ≤ P := by rw [← hP]; exact Int.mul_nonneg x0 m0
  have p1 : P ≤ 10000 * 1000 := by rw [← hP]; exact Int.mul_le_mul x1 m1 m0 (by decide)
  have HT : Hid (takeS part x = P / 1000) := by show _ = _; rw [← hP]; rfl
  rw [HT.out]
  have q1 : IntKind.i64.wrap (x * part) = P := by rw [IntKind.wrap_i64, hP]; omega
  have q2 : P.tdiv 1000 = P / 1000 := Int.tdiv_eq_ediv_of_nonneg p0
  have q3 : IntKind.i64.wrap (P / 1000) = P / 1000 := by rw [IntKind.wrap_i64]; omega
  clear hP
  go_enter Try.func12, Try.ntmps12
  go_wp2
  go_ret
  exact ⟨rfl, rfl⟩

/-- what shares that may be, and a part that may be, come to -/
theorem sh_parts {l : List Int} {part : Int} (hE : shufE l part = 0) : (0 < l.length ∧ l.length ≤ 6) ∧ (0 ≤ part ∧ part ≤ 1000) ∧ (∀ i, i < l.length → 0 ≤ l.getD i 0 ∧ l.getD i 0 ≤ 10000 ∧ 0 ≤ takeS part (l.getD i 0) ∧ takeS part (l.getD i 0) ≤ l.getD i 0) ∧
    (∀ k, k ≤ l.length → 0 ≤ tot ((l.take k).map (takeS part)) ∧ tot ((l.take k).map (takeS part)) ≤ 60000) ∧ (∀ k, k < l.length → tot ((l.take (k + 1)).map (takeS part)) = tot ((l.take k).map (takeS part)) + takeS part (l.getD k 0)) ∧ tot ((l.take l.length).map (takeS part)) = allS l part := by
  obtain ⟨hf, m0, m1⟩ := shufE_0 hE
  obtain ⟨n1, n6, hb⟩ := few_0.1 hf
  have hx : ∀ i, i < l.length → 0 ≤ l.getD i 0 ∧ l.getD i 0 ≤ 10000 ∧ 0 ≤ takeS part (l.getD i 0) ∧ takeS part (l.getD i 0) ≤ l.getD i 0 := fun i hi => by
    have := hb _ (getD_mem l i hi 0)
    have p0 : 0 ≤ l.getD i 0 * part := Int.mul_nonneg this.1 m0
    have p2 : l.getD i 0 * part ≤ l.getD i 0 * 1000 := Int.mul_le_mul_of_nonneg_left m1 this.1
    unfold takeS
    exact ⟨this.1, this.2, by omega, by omega⟩
  refine ⟨⟨n1, n6⟩, ⟨m0, m1⟩, hx, fun k hk => ?_, fun k hk => ?_, ?_⟩
  · have hm : ∀ y ∈ (l.take k).map (takeS part), 0 ≤ y ∧ y ≤ 10000 := fun y hy => by
      obtain ⟨x, hx', rfl⟩ := List.mem_map.1 hy
      obtain ⟨i, hi, rfl⟩ := List.mem_iff_getElem.1 (List.mem_of_mem_take hx')
      have e := hx i hi
      have : l.getD i 0 = l[i] := by simp [List.getD, List.getElem?_eq_getElem hi]
      rw [← this]
      omega
    have := tot_bd hm
    refine ⟨this.1, Int.le_trans this.2 ?_⟩
    have : (((l.take k).map (takeS part)).length : Int) ≤ 6 := by simp; omega
    omega
  · rw [take_snoc l k hk 0, List.map_append, tot_append]
    simp [tot]
  · rw [List.take_length]; rfl

set_option maxRecDepth 100000 in
set_option maxHeartbeats 2000000 in
theorem staken_said : STakenSaid := by
  intro Q l part v w h
  have HK : Hid (Calls Try.prog 22 #[v, .int .i64 part] w fun e w' => e = .returned (errV (shufE l part)) ∧ Below w.heap.size w w') := shcheck_any l part v w h
  obtain ⟨a, cap, hv, ⟨hm, hm2⟩, _⟩ := id h
  by_cases hE : shufE l part = 0
  · obtain ⟨⟨n1, n6⟩, ⟨m0, m1⟩, hx, hL, hS, hA⟩ := sh_parts hE
    have HC : Hid (∀ i, i < l.length → ∃ b off, a = some ⟨b, off, none⟩ ∧ ∀ u, Below w.heap.size w u → u.cell? ⟨b, off + i, none⟩ = some (.int .i64 (l.getD i 0))) := by
      rw [hv] at h
      exact ints_cells h
    have HP : Hid (∀ i, i < l.length → ∀ u, Calls Try.prog 12 #[.int .i64 (l.getD i 0), .int .i64 part] u fun e w' => e = .returned (.int .i64 (takeS part (l.getD i 0))) ∧ w' = u) := fun i hi u => shpart_any _ _ u (hx i hi).1 (hx i hi).2.1 m0 m1
    have HX : Hid (∀ i, i < l.length → 0 ≤ l.getD i 0 ∧ l.getD i 0 ≤ 10000 ∧ 0 ≤ takeS part (l.getD i 0) ∧ takeS part (l.getD i 0) ≤ l.getD i 0) := hx
    have HL : Hid (∀ k, k ≤ l.length → 0 ≤ tot ((l.take k).map (takeS part)) ∧ tot ((l.take k).map (takeS part)) ≤ 60000) := hL
    have HS : Hid (∀ k, k < l.length → tot ((l.take (k + 1)).map (takeS part)) = tot ((l.take k).map (takeS part)) + takeS part (l.getD k 0)) := hS
    have HA : Hid (tot ((l.take l.length).map (takeS part)) = allS l part) := hA
    have H0 : Hid (tot ((l.take 0).map (takeS part)) = 0) := rfl
    rw [hE, errV_0] at HK
    rw [hE, errV_0, okI_0]
    obtain ⟨T, hT⟩ : ∃ T : Nat → Int, ∀ k, tot ((l.take k).map (takeS part)) = T k := ⟨_, fun _ => rfl⟩
    simp only [hT] at HL HS HA H0
    subst hv
    clear h hx hL hS hA hE hT
    generalize allS l part = al at *
    go_enter Try.func11, Try.ntmps11
    go_wp2_with fail
    refine HK.out.mono ?_
    rintro e w1 ⟨rfl, hw1'⟩
    have B1 : Hid (Below w.heap.size w w1) := hw1'
    clear hw1'
    go_wp2
    go_loop [7, 9, 18] (fun s _ i => ∃ k : Nat, k ≤ l.length ∧ i = .int .i64 k ∧ s = .int .i64 (T k)) (fun _ _ i => l.length - (intOf i).toNat)
    case atStart => exact ⟨0, by omega, rfl, by rw [H0.out]⟩
    case round =>
      obtain ⟨k, hk, rfl, rfl⟩ := hrel
      by_cases hlt : k < l.length
      · obtain ⟨b, off, rfl, hc⟩ := HC.out k hlt
        have c0 := hc _ B1.out
        have hp := HP.out k hlt
        obtain ⟨x0, x1, x2, x3⟩ := HX.out k hlt
        have b1 := HL.out k hk
        have HSk := HS.out k hlt
        have HN : Hid (T (k + 1) = T k + takeS part (l.getD k 0)) := HSk
        have HP1 : Hid (∀ u, Calls Try.prog 12 #[.int .i64 (l.getD k 0), .int .i64 part] u fun e w' => e = .returned (.int .i64 (takeS part (l.getD k 0))) ∧ w' = u) := hp
        clear hc hp HSk
        generalize takeS part (l.getD k 0) = t at *
        generalize l.getD k 0 = x at *
        generalize T k = S at *
        have hw1 : IntKind.i64.wrap (S + t) = S + t := by rw [IntKind.wrap_i64]; omega
        go_wp2_with fail
        refine (HP1.out _).mono ?_
        rintro e w1 ⟨rfl, rfl⟩
        go_wp2
        go_round
        case rel => exact ⟨k + 1, by omega, by go_num, by rw [HN.out]⟩
        case measure => simp [intOf]; omega
      · obtain rfl : k = l.length := by omega
        rw [HA.out]
        go_wp2
        refine bodyPost_ret (v := .tuple #[.int .i64 al, .nilIface]) (by simp [results, Try.results11, go_sem]) rfl ⟨rfl, B1.out⟩
  · have HV : Hid (errV (shufE l part) = .iface 54 (.int .i64 (shufE l part))) := errV_ne hE
    rw [okI_ne hE]
    rw [HV.out] at HK ⊢
    clear HV hE
    generalize shufE l part = er at *
    subst hv
    clear h
    go_enter Try.func11, Try.ntmps11
    go_wp2_with fail
    refine HK.out.mono ?_
    rintro e w1 ⟨rfl, hw1⟩
    have HB1 : Hid (Below w.heap.size w w1) := hw1
    clear hw1
    go_wp2
    refine bodyPost_ret (v := .tuple #[.int .i64 0, .iface 54 (.int .i64 er)]) (by simp [results, Try.results11, go_sem]) rfl ⟨rfl, HB1.out⟩
end Ev
end Go.Proofs.Ytgbhknagmndbfai
