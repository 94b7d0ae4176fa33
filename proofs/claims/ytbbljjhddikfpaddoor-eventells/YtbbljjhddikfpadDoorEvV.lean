/- Package even's Give does what is asked of it. -/
import Derived.Test.YtbbljjhddikfpadDoorEvA
import Derived.Test.YtbbljjhddikfpadDoorCloneI
import Derived.Test.YtbbljjhddikfpadDoorPlains
namespace Go.Proofs.YtbbljjhddikfpadDoor
namespace Ev
open Go.RowKit Fr Ns Ld Fl
set_option linter.unusedSimpArgs false
set_option linter.unusedVariables false

/-- is there such a place? -/
def placeB (n : Nat) (x : Int) : Bool := decide (0 ≤ x) && decide (x < n)
theorem ehasPlace_any {Q : Nat → Prop} (l : List Int) (x : Int) (v : Value) (w : World) (h : IntsAt Q w v l) :
    Calls Tryd.prog 59 #[v, .int .i64 x] w fun e w' => e = .returned (.bool (placeB l.length x)) ∧ w' = w := by
  obtain ⟨a, cap, rfl, ⟨hm, hm2⟩, _⟩ := h
  have HR : Hid (placeB l.length x = (decide (0 ≤ x) && decide (x < (l.length : Int)))) := rfl
  by_cases h0 : 0 ≤ x
  · go_enter Tryd.func59, Tryd.ntmps59
    go_wp2
    go_ret
    exact ⟨ret_bool (by rw [HR.out]; simp [h0]; try omega), rfl⟩
  · go_enter Tryd.func59, Tryd.ntmps59
    go_wp2
    go_ret
    exact ⟨ret_bool (by rw [HR.out]; simp [h0]; try omega), rfl⟩
theorem giveE_bad {l : List Int} {f t m : Int} (hk : few l 1000 = 0) (h : (!placeB l.length f || !placeB l.length t || !inTo 1000 m) = true) : giveE l f t m = 1 := by
  have h' : f < 0 ∨ (l.length : Int) ≤ f ∨ t < 0 ∨ (l.length : Int) ≤ t ∨ m < 0 ∨ 1000 < m := by
    simp [placeB, inTo] at h; omega
  rw [giveE, if_pos hk, if_pos h']
theorem giveE_good {l : List Int} {f t m : Int} (hk : few l 1000 = 0) (h1 : placeB l.length f = true) (h2 : placeB l.length t = true) (h3 : inTo 1000 m = true) :
    (giveE l f t m = if l.getD f.toNat 0 < m then 8 else if 1000 < (giveL l f.toNat t.toNat m).getD t.toNat 0 then 4 else 0) ∧ 0 ≤ f ∧ f < l.length ∧ 0 ≤ t ∧ t < l.length ∧ 0 ≤ m ∧ m ≤ 1000 := by
  simp [placeB] at h1 h2
  simp [inTo] at h3
  refine ⟨?_, h1.1, h1.2, h2.1, h2.2, h3.1, h3.2⟩
  rw [giveE, if_pos hk, if_neg (by omega)]
theorem nil_ints {Q : Nat → Prop} (w : World) : IntsAt Q w (.slice none 0 0) [] := ⟨none, 0, rfl, ⟨Nat.le_refl _, by simp⟩, .inl rfl⟩

set_option maxRecDepth 100000 in
set_option maxHeartbeats 4000000 in
theorem egive_said : EGiveSaid := by
  intro Q l f t m v w h
  have HK : Hid (Calls Tryd.prog 53 #[v] w fun e w' => e = .returned (errV (few l 1000)) ∧ Below w.heap.size w w') := drawn (echeck_any l v w h)
  have HP : Hid (∀ x u, Below w.heap.size w u → Calls Tryd.prog 59 #[v, .int .i64 x] u fun e w' => e = .returned (.bool (placeB l.length x)) ∧ w' = u) := fun x u hu => ehasPlace_any l x v u (h.later hu)
  have HM : Hid (∀ u : World, Calls Tryd.prog 60 #[.int .i64 m] u fun e w' => e = .returned (.bool (inTo 1000 m)) ∧ w' = u) := fun u => emayBe_any m u
  by_cases hk : few l 1000 = 0
  · obtain ⟨n1, n6, hb⟩ := few_0.1 hk
    rw [hk, errV_0] at HK
    have HCl : Hid (∀ u, Below w.heap.size w u → Calls Tryd.prog 61 #[v] u fun e w' => ∃ x, e = .returned x ∧ OwnInts u.heap.size w' x l ∧ Below u.heap.size u w') := fun u hu => CloneE_ints l v u (h.later hu) n1 (by omega)
    cases hf : placeB l.length f with
    | false =>
      have hE : giveE l f t m = 1 := giveE_bad hk (by rw [hf]; rfl)
      rw [hE]
      have HP1 := HP.out f
      rw [hf] at HP1
      have HF : Hid (∀ u, Below w.heap.size w u → Calls Tryd.prog 59 #[v, .int .i64 f] u fun e w' => e = .returned (.bool false) ∧ w' = u) := HP1
      clear HP1 hE hf hb hk
      obtain ⟨a, cap, rfl, ⟨hm, hm2⟩, _⟩ := h
      go_enter Tryd.func27, Tryd.ntmps27
      go_wp2_with fail
      refine HK.out.mono ?_
      rintro e w1 ⟨rfl, hw1⟩
      have B1 : Hid (Below w.heap.size w w1) := hw1
      clear hw1
      go_wp2_with fail
      refine (HF.out _ B1.out).mono ?_
      rintro e w2 ⟨rfl, rfl⟩
      go_wp2
      refine bodyPost_ret (v := .tuple #[.slice none 0 0, .iface 66 (.int .i64 1)]) (by simp [results, Tryd.results27, go_sem]) rfl ⟨_, rfl, nil_ints _, B1.out⟩
    | true =>
      have HF : Hid (∀ u, Below w.heap.size w u → Calls Tryd.prog 59 #[v, .int .i64 f] u fun e w' => e = .returned (.bool true) ∧ w' = u) := by have := HP.out f; rw [hf] at this; exact this
      cases ht : placeB l.length t with
      | false =>
        have hE : giveE l f t m = 1 := giveE_bad hk (by rw [hf, ht]; rfl)
        rw [hE]
        have HT : Hid (∀ u, Below w.heap.size w u → Calls Tryd.prog 59 #[v, .int .i64 t] u fun e w' => e = .returned (.bool false) ∧ w' = u) := by have := HP.out t; rw [ht] at this; exact this
        clear hE hf ht hb hk
        obtain ⟨a, cap, rfl, ⟨hm, hm2⟩, _⟩ := h
        go_enter Tryd.func27, Tryd.ntmps27
        go_wp2_with fail
        refine HK.out.mono ?_
        rintro e w1 ⟨rfl, hw1⟩
        have B1 : Hid (Below w.heap.size w w1) := hw1
        clear hw1
        go_wp2_with fail
        refine (HF.out _ B1.out).mono ?_
        rintro e w2 ⟨rfl, rfl⟩
        go_wp2_with fail
        refine (HT.out _ B1.out).mono ?_
        rintro e w2 ⟨rfl, rfl⟩
        go_wp2
        refine bodyPost_ret (v := .tuple #[.slice none 0 0, .iface 66 (.int .i64 1)]) (by simp [results, Tryd.results27, go_sem]) rfl ⟨_, rfl, nil_ints _, B1.out⟩
      | true =>
        have HT : Hid (∀ u, Below w.heap.size w u → Calls Tryd.prog 59 #[v, .int .i64 t] u fun e w' => e = .returned (.bool true) ∧ w' = u) := by have := HP.out t; rw [ht] at this; exact this
        cases hmm : inTo 1000 m with
        | false =>
          have hE : giveE l f t m = 1 := giveE_bad hk (by rw [hf, ht, hmm]; rfl)
          rw [hE]
          rw [hmm] at HM
          clear hE hf ht hb hk
          obtain ⟨a, cap, rfl, ⟨hm, hm2⟩, _⟩ := h
          go_enter Tryd.func27, Tryd.ntmps27
          go_wp2_with fail
          refine HK.out.mono ?_
          rintro e w1 ⟨rfl, hw1⟩
          have B1 : Hid (Below w.heap.size w w1) := hw1
          clear hw1
          go_wp2_with fail
          refine (HF.out _ B1.out).mono ?_
          rintro e w2 ⟨rfl, rfl⟩
          go_wp2_with fail
          refine (HT.out _ B1.out).mono ?_
          rintro e w2 ⟨rfl, rfl⟩
          go_wp2_with fail
          refine (HM.out _).mono ?_
          rintro e w2 ⟨rfl, rfl⟩
          go_wp2
          refine bodyPost_ret (v := .tuple #[.slice none 0 0, .iface 66 (.int .i64 1)]) (by simp [results, Tryd.results27, go_sem]) rfl ⟨_, rfl, nil_ints _, B1.out⟩
        | true =>
          rw [hmm] at HM
          obtain ⟨hE, f0, f1, t0, t1, m0, m1⟩ := giveE_good hk hf ht hmm
          obtain ⟨F, rfl⟩ : ∃ F : Nat, f = F := ⟨f.toNat, by omega⟩
          obtain ⟨T, rfl⟩ : ∃ T : Nat, t = T := ⟨t.toNat, by omega⟩
          rw [Int.toNat_natCast, Int.toNat_natCast] at *
          have hF : F < l.length := by omega
          have hT : T < l.length := by omega
          have bF := hb _ (getD_mem l F hF 0)
          have bT := hb _ (getD_mem l T hT 0)
          obtain ⟨a, cap, rfl, ⟨hm, hm2⟩, h⟩ := h
          obtain ⟨b, off, rfl, hC⟩ : ∃ b off, a = some ⟨b, off, none⟩ ∧ ∀ i, i < l.length → w.cell? ⟨b, off + i, none⟩ = some (.int .i64 (l.getD i 0)) := by
            rcases h with h | ⟨b, off, rfl, h, _⟩
            · rw [h] at n1; simp at n1
            · exact ⟨b, off, rfl, h⟩
          have HL : Hid (∀ u, Below w.heap.size w u → u.cell? ⟨b, off + F, none⟩ = some (.int .i64 (l.getD F 0))) := fun u hu => cell_later hu (hC F hF)
          have HG1 : Hid (giveL l F T m = (l.set F (l.getD F 0 - m)).set T ((l.set F (l.getD F 0 - m)).getD T 0 + m)) := rfl
          have HGt : Hid ((giveL l F T m).getD T 0 = (l.set F (l.getD F 0 - m)).getD T 0 + m) := by
            show _ = _
            unfold giveL
            rw [getD_set_self _ _ _ (by simpa using hT)]
          have HlF : Hid (F < l.length) := hF
          have HlT : Hid (T < l.length) := hT
          have HGl : Hid ((giveL l F T m).length = l.length) := giveL_length _ _ _ _
          have Hl1 : Hid (l.length ≤ 9223372036854775807) := hm2
          clear hC h hb hk hf ht hmm
          by_cases hlow : l.getD F 0 < m
          · rw [if_pos hlow] at hE
            rw [hE]
            clear hE
            generalize l.getD F 0 = x at *
            go_enter Tryd.func27, Tryd.ntmps27
            go_wp2_with fail
            refine HK.out.mono ?_
            rintro e w1 ⟨rfl, hw1⟩
            have B1 : Hid (Below w.heap.size w w1) := hw1
            have c1 := HL.out _ hw1
            clear hw1
            go_wp2_with fail
            refine (HF.out _ B1.out).mono ?_
            rintro e w2 ⟨rfl, rfl⟩
            go_wp2_with fail
            refine (HT.out _ B1.out).mono ?_
            rintro e w2 ⟨rfl, rfl⟩
            go_wp2_with fail
            refine (HM.out _).mono ?_
            rintro e w2 ⟨rfl, rfl⟩
            go_wp2
            refine bodyPost_ret (v := .tuple #[.slice none 0 0, .iface 66 (.int .i64 8)]) (by simp [results, Tryd.results27, go_sem]) rfl ⟨_, rfl, nil_ints _, B1.out⟩
          · rw [if_neg hlow] at hE
            have HE : Hid (giveE l F T m = if 1000 < (giveL l F T m).getD T 0 then 4 else 0) := hE
            have HB : Hid (0 ≤ (l.set F (l.getD F 0 - m)).getD T 0 ∧ (l.set F (l.getD F 0 - m)).getD T 0 ≤ 1000) := by
              by_cases e : F = T
              · rw [e, getD_set_self _ _ _ hT]; rw [e] at bF hlow; clear hE HE; exact ⟨by omega, by omega⟩
              · rw [getD_set_ne _ _ e]; exact bT
            obtain ⟨x, Hx⟩ : ∃ x, Hid (x = l.getD F 0) := ⟨_, rfl⟩
            rw [← Hx.out] at bF HL HG1 HGt HB hlow
            clear hE
            go_enter Tryd.func27, Tryd.ntmps27
            go_wp2_with fail
            refine HK.out.mono ?_
            rintro e w1 ⟨rfl, hw1⟩
            have B1 : Hid (Below w.heap.size w w1) := hw1
            have c1 := HL.out _ hw1
            clear hw1
            go_wp2_with fail
            refine (HF.out _ B1.out).mono ?_
            rintro e w2 ⟨rfl, rfl⟩
            go_wp2_with fail
            refine (HT.out _ B1.out).mono ?_
            rintro e w2 ⟨rfl, rfl⟩
            go_wp2_with fail
            refine (HM.out _).mono ?_
            rintro e w2 ⟨rfl, rfl⟩
            go_wp2_with fail
            refine (HCl.out _ B1.out).mono ?_
            rintro e w3 ⟨y, rfl, hown, hw3⟩
            obtain ⟨g, c, sp, rfl, hc, hg, hr⟩ := hown
            have B3 : Hid (Below w.heap.size w w3) := B1.out.trans (hw3.mono B1.out.size)
            have hgw : w.heap.size ≤ g := Nat.le_trans B1.out.size hg
            have R3 : Hid (RowAt w3 g 3 (l.map (Value.int .i64) ++ sp)) := hr
            have d1 : w3.cell? ⟨g, F, none⟩ = some (.int .i64 x) := by rw [Hx.out]; exact hr.cell (intsCell HlF.out)
            have d2 := hr.frozen F
            have d3 := hr.lt
            have d4 : w3.cell? ⟨g, T, none⟩ = some (.int .i64 (l.getD T 0)) := hr.cell (intsCell HlT.out)
            have d5 := hr.frozen T
            clear hw3 hr
            by_cases hFT : F = T
            · subst hFT
              have z1 : (l.set F (x - m)).getD F 0 = x - m := getD_set_self _ _ _ HlF.out
              rw [z1] at HG1 HGt HB
              have hfull : Hid (¬ 1000 < (giveL l F F m).getD F 0) := by show ¬ _; rw [HGt.out]; clear HE; omega
              have HE0 : Hid (giveE l F F m = 0) := by show _ = _; rw [HE.out, if_neg hfull.out]
              have R5 : Hid (RowAt ((w3.setCell ⟨g, F, none⟩ (.int .i64 (x - m))).setCell ⟨g, F, none⟩ (.int .i64 (x - m + m))) g 3 ((giveL l F F m).map (Value.int .i64) ++ sp)) := by
                have := (R3.out.set F (.int .i64 (x - m))).set F (.int .i64 (x - m + m))
                rw [intsSet HlF.out, intsSet (by simpa using HlF.out)] at this
                rw [HG1.out]
                exact this
              have B5 : Hid (Below w.heap.size w ((w3.setCell ⟨g, F, none⟩ (.int .i64 (x - m))).setCell ⟨g, F, none⟩ (.int .i64 (x - m + m)))) := (B3.out.setCell hgw _).setCell hgw _
              have V5 : Hid (IntsAt (fun b => w.heap.size ≤ b) ((w3.setCell ⟨g, F, none⟩ (.int .i64 (x - m))).setCell ⟨g, F, none⟩ (.int .i64 (x - m + m))) (.slice (some ⟨g, 0, none⟩) l.length c) (giveL l F F m)) := by
                have := intsRow (Q := fun b => w.heap.size ≤ b) R5.out (by rw [HGl.out]; exact hc) (by rw [HGl.out]; exact Hl1.out) hgw
                rw [HGl.out] at this
                exact this
              clear z1 d4 d5 R3 R5 HG1 HGt HB HE hfull
              go_wp2
              rw [Int.sub_add_cancel] at B5 V5
              refine bodyPost_ret (v := .tuple #[.slice (some ⟨g, 0, none⟩) l.length c, .nilIface]) (by simp [results, Tryd.results27, go_sem]) rfl ⟨_, by rw [HE0.out]; rfl, ?_, ?_⟩
              · rw [HE0.out, okL, if_pos rfl]
                first | exact V5.out | simpa using V5.out
              · first | exact B5.out | simpa using B5.out
            · have hTF : ¬ T = F := fun h => hFT h.symm
              have z1 : (l.set F (x - m)).getD T 0 = l.getD T 0 := getD_set_ne _ _ hFT
              rw [z1] at HG1 HGt HB
              obtain ⟨z, Hz⟩ : ∃ z, Hid (z = l.getD T 0) := ⟨_, rfl⟩
              rw [← Hz.out] at bT HG1 HGt HB d4
              have R5 : Hid (RowAt ((w3.setCell ⟨g, F, none⟩ (.int .i64 (x - m))).setCell ⟨g, T, none⟩ (.int .i64 (z + m))) g 3 ((giveL l F T m).map (Value.int .i64) ++ sp)) := by
                have := (R3.out.set F (.int .i64 (x - m))).set T (.int .i64 (z + m))
                rw [intsSet HlF.out, intsSet (by simpa using HlT.out)] at this
                rw [HG1.out]
                exact this
              have B5 : Hid (Below w.heap.size w ((w3.setCell ⟨g, F, none⟩ (.int .i64 (x - m))).setCell ⟨g, T, none⟩ (.int .i64 (z + m)))) := (B3.out.setCell hgw _).setCell hgw _
              have V5 : Hid (IntsAt (fun b => w.heap.size ≤ b) ((w3.setCell ⟨g, F, none⟩ (.int .i64 (x - m))).setCell ⟨g, T, none⟩ (.int .i64 (z + m))) (.slice (some ⟨g, 0, none⟩) l.length c) (giveL l F T m)) := by
                have := intsRow (Q := fun b => w.heap.size ≤ b) R5.out (by rw [HGl.out]; exact hc) (by rw [HGl.out]; exact Hl1.out) hgw
                rw [HGl.out] at this
                exact this
              by_cases hful : 1000 < z + m
              · have HE0 : Hid (giveE l F T m = 4) := by show _ = _; rw [HE.out, HGt.out, if_pos hful]
                clear z1 R3 R5 HG1 HGt HB HE Hz
                go_wp2
                refine bodyPost_ret (v := .tuple #[.slice none 0 0, .iface 66 (.int .i64 4)]) (by simp [results, Tryd.results27, go_sem]) rfl ⟨_, by rw [HE0.out]; rfl, by rw [HE0.out]; exact nil_ints _, B5.out⟩
              · have HE0 : Hid (giveE l F T m = 0) := by show _ = _; rw [HE.out, HGt.out, if_neg hful]
                clear z1 R3 R5 HG1 HGt HB HE Hz
                go_wp2
                refine bodyPost_ret (v := .tuple #[.slice (some ⟨g, 0, none⟩) l.length c, .nilIface]) (by simp [results, Tryd.results27, go_sem]) rfl ⟨_, by rw [HE0.out]; rfl, by rw [HE0.out, okL, if_pos rfl]; exact V5.out, B5.out⟩
  · have HV : Hid (errV (few l 1000) = .iface 66 (.int .i64 (few l 1000))) := errV_ne hk
    have hE : giveE l f t m = few l 1000 := by rw [giveE, if_neg hk]
    have HO : okL (giveE l f t m) (giveL l f.toNat t.toNat m) = [] := by rw [hE, okL, if_neg hk]
    rw [HO, hE, HV.out]
    rw [HV.out] at HK
    generalize few l 1000 = ek at *
    clear hk hE HO
    obtain ⟨a, cap, rfl, ⟨hm, hm2⟩, _⟩ := h
    go_enter Tryd.func27, Tryd.ntmps27
    go_wp2_with fail
    refine HK.out.mono ?_
    rintro e w1 ⟨rfl, hw1⟩
    have B1 : Hid (Below w.heap.size w w1) := hw1
    clear hw1
    go_wp2
    refine bodyPost_ret (v := .tuple #[.slice none 0 0, .iface 66 (.int .i64 ek)]) (by simp [results, Tryd.results27, go_sem]) rfl ⟨_, rfl, nil_ints _, B1.out⟩
end Ev
end Go.Proofs.YtbbljjhddikfpadDoor
