/- Package run's answer: a line's answer, and what becomes of the flows. -/
import Derived.Test.YtpnmmmlckdkcdakGreatDoorRlDoB
import Derived.Test.YtpnmmmlckdkcdakGreatDoorRlRead
import Derived.Test.YtpnmmmlckdkcdakGreatDoorRlToldB
namespace Go.Proofs.YtpnmmmlckdkcdakGreatDoor
namespace Ev
open Go.RowKit Fr Ns Ld Fl
set_option linter.unusedSimpArgs false
set_option linter.unusedVariables false

/-- how many records a line makes, at most -/
def recsT (s : Txt) : Nat := if fitsT s = true ∧ (wordT s = tAdd ∨ wordT s = tDrop) then 1 else 0
theorem rl_addR (f : Flows) (l : List Int) : 0 ≤ addR f l ∧ addR f l ≤ 8 := by
  unfold addR
  split
  · omega
  · unfold pathE
    split
    · omega
    · have := pathFrom_bd 4 [] l; omega
theorem rl_dropR (f : Flows) (l : List Int) : 0 ≤ dropR f l ∧ dropR f l ≤ 8 := by
  unfold dropR
  split <;> omega
theorem DeskTo.more {X : LogFace} {w w' : World} {p : Value} {F : Nat → Prop} {f : Flows} {k j : Nat} (h : DeskTo X p F f k w w') (hj : k ≤ j) : DeskTo X p F f j w w' := by
  obtain ⟨F', h1, h2, h3⟩ := h
  exact ⟨F', h1.more hj, h2, h3⟩
theorem DeskTo.stay {X : LogFace} {w w' : World} {p : Value} {F : Nat → Prop} {f : Flows} {k : Nat} (j : Nat) (h : DeskAt X w p F f k) (hb : Below w.heap.size w w') : DeskTo X p F f (k + j) w w' :=
  ⟨F, (h.later hb).more (by omega), fun _ q => .inl q, ButIn.of_below hb⟩
theorem DeskTo.after {X : LogFace} {w u w' : World} {p : Value} {F : Nat → Prop} {f : Flows} {k : Nat} (h : DeskTo X p F f k w u) (hb : Below u.heap.size u w') : DeskTo X p F f k w w' := by
  obtain ⟨F', h1, h2, h3⟩ := h
  have hz := h3.1.size
  exact ⟨F', h1.later hb, h2, ⟨h3.1.trans (hb.mono (Nat.zero_le _)), fun b q1 q2 => (hb.block b (by omega)).trans (h3.2 b q1 q2)⟩⟩
theorem DeskTo.cell {X : LogFace} {w u : World} {p : Value} {F : Nat → Prop} {f : Flows} {k b o : Nat} {v : Value} (h : DeskTo X p F f k w u) (hb : ¬ F b) (hc : w.cell? ⟨b, o, none⟩ = some v) : u.cell? ⟨b, o, none⟩ = some v := by
  obtain ⟨F', h1, h2, h3⟩ := h
  rw [World.cell?_of_block (a := ⟨b, o, none⟩) (h3.2 b (World.block_lt_of_cell? _ _ hc) hb)]
  exact hc
/-- what do tells -/
def DoOut (t : Txt) (e : Ending) : Prop := ∃ x E, e = .returned (.tuple #[.string ⟨x.toArray⟩, errV E]) ∧ 0 ≤ E ∧ E ≤ 8 ∧ t = if E = 0 then x else nameT E

theorem rdo_line {Q : Nat → Prop} (s : Txt) (v p : Value) (r k : Nat) (F : Nat → Prop) (f : Flows) (w : World) (ht : TabAt w) (hd : DeskAt logX w p F f k) (hk : k < 999) (hfit : fitsT s = true) (hv : IntsAt Q w v (numsT s)) (hQ : ∀ b, Q b → ¬ F b) :
    Calls Tryz.prog 84 #[.agg #[p, .map (some r)], .string ⟨(wordT s).toArray⟩, v] w fun e w' => DoOut (lineT f s) e ∧ DeskTo logX p F (lineF f s) (k + recsT s) w w' := by
  have hf : RightF f := hd.right
  have hrd : readT s = true := by
    unfold fitsT at hfit
    simp only [Bool.and_eq_true] at hfit
    exact hfit.1
  have hnb := rl_nums hrd
  have hfit2 := hfit
  unfold fitsT at hfit2
  simp only [Bool.and_eq_true] at hfit2
  have hc := hfit2.2
  clear hfit2
  by_cases h1 : wordT s = tAdd
  · rw [h1]
    have e1 : lineT f s = if addR f (numsT s) = 0 then tOk else nameT (addR f (numsT s)) := by simp [lineT, hfit, h1]
    have e2 : lineF f s = if addR f (numsT s) = 0 then f ++ [numsT s] else f := by simp [lineF, hfit, h1]
    have e3 : recsT s = 1 := by simp [recsT, hfit, h1]
    rw [e2, e3]
    refine (rdo_add (numsT s) v p r k F f w hd hk hv hQ).mono ?_
    rintro e w' ⟨rfl, hT⟩
    exact ⟨⟨tOk, _, rfl, (rl_addR _ _).1, (rl_addR _ _).2, e1⟩, hT⟩
  · by_cases h2 : wordT s = tDrop
    · rw [h2]
      have hn1 : (numsT s).length = 1 := by rw [h2] at hc; simpa [tAdd, tDrop, tIndex] using hc
      obtain ⟨n, hn⟩ : ∃ n, numsT s = [n] := List.length_eq_one_iff.1 hn1
      have e1 : lineT f s = if dropR f [n] = 0 then tOk else nameT (dropR f [n]) := by simp [lineT, hfit, h2, hn, tAdd, tDrop]
      have e2 : lineF f s = if dropR f [n] = 0 then lessF f n else f := by simp [lineF, hfit, h2, hn, tAdd, tDrop]
      have e3 : recsT s = 1 := by simp [recsT, hfit, h2]
      rw [e2, e3]
      rw [hn] at hv hnb
      refine (rdo_drop n v p r k F f w hd hk hv (hnb n (by simp)).1).mono ?_
      rintro e w' ⟨rfl, hT⟩
      exact ⟨⟨tOk, _, rfl, (rl_dropR _ _).1, (rl_dropR _ _).2, e1⟩, hT⟩
    · have e2 : lineF f s = f := by simp [lineF, h1, h2]
      rw [e2]
      obtain ⟨va, vc, hva, _⟩ := id hv
      by_cases h3 : wordT s = tRates
      · rw [h3]
        have e1 : lineT f s = if f = [] then [45] else joinT ((ratesR f).map toldT) := by simp [lineT, hfit, h3, tAdd, tDrop, tRates]
        subst hva
        refine (rdo_rates p va _ vc r k F f w ht hd hk hf).mono ?_
        rintro e w' ⟨rfl, hb⟩
        exact ⟨⟨_, 0, by rw [errV_0], by decide, by decide, by rw [if_pos rfl, e1]⟩, DeskTo.stay _ hd hb⟩
      · by_cases h4 : wordT s = tLeast
        · rw [h4]
          have e1 : lineT f s = if f = [] then nameT 5 else toldT (leastV (ratesR f)) := by simp [lineT, hfit, h4, tAdd, tDrop, tRates, tLeast]
          subst hva
          refine (rdo_least p va _ vc r k F f w ht hd hk hf).mono ?_
          rintro e w' ⟨rfl, hb⟩
          refine ⟨⟨_, _, rfl, by split <;> decide, by split <;> decide, ?_⟩, DeskTo.stay _ hd hb⟩
          rw [e1]
          by_cases hf0 : f = []
          · simp [hf0]
          · simp [hf0]
        · by_cases h5 : wordT s = tIndex
          · rw [h5]
            have e1 : lineT f s = if idxE (numsT s) = 0 then toldT (idx (numsT s)) else nameT (idxE (numsT s)) := by simp [lineT, hfit, h5, tAdd, tDrop, tRates, tLeast, tIndex]
            refine (rdo_index (numsT s) v p r w ht hv).mono ?_
            rintro e w' ⟨rfl, hb⟩
            refine ⟨⟨_, _, rfl, (rl_idxE _).1, (rl_idxE _).2, ?_⟩, DeskTo.stay _ hd hb⟩
            rw [e1]
            by_cases h0 : idxE (numsT s) = 0
            · rw [if_pos h0, if_pos h0, h0, okF_0]
            · rw [if_neg h0, if_neg h0]
          · by_cases h6 : wordT s = tSplit
            · rw [h6]
              have hn2 : 2 ≤ (numsT s).length := by rw [h6] at hc; simpa [tAdd, tDrop, tIndex, tRates, tLeast, tSplit] using hc
              obtain ⟨m, l, hn⟩ : ∃ m l, numsT s = m :: l := by
                cases h : numsT s with
                | nil => rw [h] at hn2; simp at hn2
                | cons m l => exact ⟨m, l, rfl⟩
              have e1 : lineT f s = if idxE l = 0 then joinT ((splitL m l).map digT) else nameT (idxE l) := by simp [lineT, hfit, h6, hn, tAdd, tDrop, tRates, tLeast, tIndex, tSplit]
              rw [hn] at hv hnb hn2
              have hm := hnb m (by simp)
              refine (rdo_split m l v p r w ht hv (by simpa using hn2) hm.1 hm.2).mono ?_
              rintro e w' ⟨rfl, hb⟩
              refine ⟨⟨_, _, rfl, (rl_idxE _).1, (rl_idxE _).2, ?_⟩, DeskTo.stay _ hd hb⟩
              rw [e1]
              by_cases h0 : idxE l = 0
              · rw [if_pos h0, if_pos h0, h0, okL_0]
              · rw [if_neg h0, if_neg h0]
            · exfalso
              rw [if_neg (by simp [h1, h5]), if_neg h2, if_neg (by simp [h3, h4]), if_neg h6] at hc
              cases hc

set_option maxRecDepth 100000 in
set_option maxHeartbeats 2000000 in
theorem ranswer (s : Txt) (p : Value) (r k : Nat) (F : Nat → Prop) (f : Flows) (w : World) (hg : w.cell? ⟨0, 0, none⟩ = some handleV) (ht : TabAt w) (hm : MaxAt w) (hr : w.heap[r]? = some (.map wantsM 6)) (hd : DeskAt logX w p F f k) (hk : k < 999) (hl : s.length ≤ 3000) (hF : ¬ F 0) :
    Calls Tryz.prog 48 #[.agg #[p, .map (some r)], .string ⟨s.toArray⟩] w fun e w' => e = .returned (.string ⟨(lineT f s).toArray⟩) ∧ DeskTo logX p F (lineF f s) (k + recsT s) w w' := by
  have hB : Below w.heap.size w (w.alloc (.cells #[p, .map (some r)] 87)) := (Below.refl _ _).alloc (Nat.le_refl _) _
  have hrl : r < w.heap.size := (Array.getElem?_eq_some_iff.1 hr).1
  have HRd : Hid (Calls Tryz.prog 82 #[.agg #[p, .map (some r)], .string ⟨s.toArray⟩] (w.alloc (.cells #[p, .map (some r)] 87)) (ReadOut (w.alloc (.cells #[p, .map (some r)] 87)) s)) := rread s p r _ (hm.later hB) (by rw [hB.block r hrl]; exact hr) hl
  have HB : Hid (Below w.heap.size w (w.alloc (.cells #[p, .map (some r)] 87))) := hB
  have R0 : RowAt (w.alloc (.cells #[p, .map (some r)] 87)) w.heap.size 87 [p, .map (some r)] := row_made w _ _ _ _ rfl rfl
  have HR0 : Hid (RowAt (w.alloc (.cells #[p, .map (some r)] 87)) w.heap.size 87 [p, .map (some r)]) := R0
  have HG : Hid (∀ u, Below w.heap.size w u → u.cell? ⟨0, 0, none⟩ = some handleV) := fun u hu => cell_later hu hg
  have HDo : Hid (∀ (u : World) (v : Value), Below w.heap.size w u → fitsT s = true → IntsAt (fun b => w.heap.size ≤ b) u v (numsT s) → Calls Tryz.prog 84 #[.agg #[p, .map (some r)], .string ⟨(wordT s).toArray⟩, v] u fun e w' => DoOut (lineT f s) e ∧ DeskTo logX p F (lineF f s) (k + recsT s) u w') := fun u v hu hfit hv =>
    rdo_line s v p r k F f u (ht.later hu) (hd.later hu) hk hfit hv (fun b q1 q2 => by have := hd.lt b q2; omega)
  have HBad : Hid (fitsT s = false → lineT f s = tBad ∧ lineF f s = f) := fun h => ⟨by simp [lineT, h], by simp [lineF, h]⟩
  have HSt : Hid (∀ u, Below w.heap.size w u → DeskTo logX p F f (k + recsT s) w u) := fun u hu => DeskTo.stay _ hd hu
  obtain ⟨a, rfl⟩ := hd.ptr
  clear hB hd hg ht hm R0
  have HFt : Hid (fitsT s = true ∨ fitsT s = false) := by cases fitsT s; exact .inr rfl; exact .inl rfl
  generalize lineT f s = LX at *
  generalize lineF f s = FX at *
  go_enter Tryz.func48, Tryz.ntmps48
  go_wp2_with fail
  refine HRd.out.mono ?_
  rintro e w1 ⟨hb1, hro⟩
  have HB1 : Hid (Below w.heap.size w w1) := Bel.call HB.out (by simp) hb1
  have R1 : RowAt w1 w.heap.size 87 [.pointer (some a), .map (some r)] := HR0.out.later hb1 (by simp)
  have d0 := R1.cell (i := 0) rfl
  have d1 := R1.cell (i := 1) rfl
  have l0 := R1.lt
  clear hb1 R1
  rcases hro with ⟨hfit, y, rfl, hy⟩ | ⟨hno, rfl⟩
  · have hy2 : IntsAt (fun b => w.heap.size ≤ b) w1 y (numsT s) := IntsAt.keep (fun _ _ _ => rfl) (fun b h _ => by simp at h; omega) hy
    have HD1 := HDo.out w1 y HB1.out hfit hy2
    have HD2 : Hid (Calls Tryz.prog 84 #[.agg #[.pointer (some a), .map (some r)], .string ⟨(wordT s).toArray⟩, y] w1 fun e w' => DoOut LX e ∧ DeskTo logX (.pointer (some a)) F FX (k + recsT s) w1 w') := HD1
    obtain ⟨ya, yc, rfl, _⟩ := hy
    clear hy2 HD1 HDo HBad HSt HRd
    generalize wordT s = wd at *
    go_wp2_with fail
    refine HD2.out.mono ?_
    rintro e w2 ⟨⟨x, E, rfl, e0, e8, hx⟩, hT⟩
    have HT : Hid (DeskTo logX (.pointer (some a)) F FX (k + recsT s) w w2) := hT.before HB1.out
    have hg2 : w2.cell? ⟨0, 0, none⟩ = some handleV := hT.cell hF (HG.out w1 HB1.out)
    clear hT
    by_cases hE : E = 0
    · subst hE
      rw [if_pos rfl] at hx
      subst hx
      rw [errV_0]
      go_wp2
      go_ret
      exact ⟨rfl, HT.out⟩
    · rw [if_neg hE] at hx
      subst hx
      have HTo : Hid (Calls Tryz.prog 83 #[errV E] w2 fun e w' => e = .returned (.string ⟨(nameT E).toArray⟩) ∧ Below w2.heap.size w2 w') := told_other E w2 hg2 (by omega) e8
      rw [errV_ne hE] at HTo ⊢
      clear hg2
      go_wp2_with fail
      refine HTo.out.mono ?_
      rintro e w3 ⟨rfl, hb3⟩
      have HT3 : Hid (DeskTo logX (.pointer (some a)) F FX (k + recsT s) w w3) := HT.out.after hb3
      clear hb3
      go_wp2
      go_ret
      exact ⟨rfl, HT3.out⟩
  · obtain ⟨rfl, rfl⟩ := HBad.out hno
    have HTo : Hid (Calls Tryz.prog 83 #[lineV] w1 fun e w' => e = .returned (.string ⟨tBad.toArray⟩) ∧ Below w1.heap.size w1 w') := told_line w1 (HG.out w1 HB1.out)
    unfold lineV at HTo ⊢
    clear HDo HBad HRd
    go_wp2_with fail
    refine HTo.out.mono ?_
    rintro e w3 ⟨rfl, hb3⟩
    have HT3 : Hid (DeskTo logX (.pointer (some a)) F FX (k + recsT s) w w3) := HSt.out w3 (Bel.call HB1.out (Nat.le_refl _) hb3)
    clear hb3
    go_wp2
    go_ret
    exact ⟨rfl, HT3.out⟩
end Ev
end Go.Proofs.YtpnmmmlckdkcdakGreatDoor
